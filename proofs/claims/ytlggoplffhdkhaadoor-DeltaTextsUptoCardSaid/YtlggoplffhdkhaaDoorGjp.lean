/-
  The contracts of the reference's check and Print (layer 15).
  The contract of the reference's Print (layer 15).
-/
import Derived.Test.YtlggoplffhdkhaaDoorGji
import Derived.Test.YtlggoplffhdkhaaDoorGjl
import Derived.Test.YtlggoplffhdkhaaDoorGjd
import Derived.Test.YtlggoplffhdkhaaDoorGjo
import Derived.Deep.DeepCutAuto
import Derived.Deep.RegionHeldLaw
import Derived.Deep.DrawnRows
namespace Go.Proofs.YtlggoplffhdkhaaDoor.Dl
set_option linter.unusedVariables false
set_option linter.unusedSimpArgs false
open Go.RowKit Go.Maps
open T
open V (drawn_below grown_of)
open I (It ItemsIn ItemsAt itCells itCells_snoc itCells_at alloc1 own_at own_below items_of_own items_own infoItem ItemsIn.below)

theorem has_at (t : List UInt8) (k : Nat) (h : k < (⟨t.toArray⟩ : ByteArray).size) : (t.drop k).contains 10 = (decide (((⟨t.toArray⟩ : ByteArray)[k]'h).toNat = 10) || (t.drop (k + 1)).contains 10) := by
  have hl : k < t.length := by simpa [ByteArray.size] using h
  have e : (⟨t.toArray⟩ : ByteArray)[k]'h = t[k] := by rw [← byte _ k h (by rw [ldata]; exact hl)]
  rw [List.drop_eq_getElem_cons hl, List.contains_cons, e]
  by_cases hb : t[k] = 10
  · rw [hb]; simp
  · have : ¬ t[k].toNat = 10 := fun q => hb (UInt8.toNat_inj.1 q)
    rw [decide_eq_false this, beq_eq_false_iff_ne.2 (fun q => hb q.symm)]
set_option maxRecDepth 100000 in
set_option maxHeartbeats 4000000 in
theorem rcheck_any (x : It) (w : World) (ht : x.tx.length ≤ maxLen) : Calls Tryd.prog 37 #[itV x] w fun e w' => e = .returned (.int .i64 (cki x)) ∧ Below w.heap.size w w' := by
  obtain ⟨id, lv, ct, an, tx, ba⟩ := x
  have HV : Hid (cki ⟨id, lv, ct, an, tx, ba⟩ = if id < 0 ∨ 2147483647 < id ∨ L.rightB lv = false then 2 else if tx.contains 10 = true then 3 else if 200 < tx.length then 4 else 0) := Lib.hid rfl
  generalize cki ⟨id, lv, ct, an, tx, ba⟩ = v at *
  simp only [itV] at ht ⊢
  unfold maxLen at ht
  have HSA := Lib.hid (has_at tx)
  have hsz : (⟨tx.toArray⟩ : ByteArray).size = tx.length := lsize tx
  have HD0 : Hid ((tx.drop 0).contains 10 = tx.contains 10) := Lib.hid (by rw [List.drop_zero])
  have HDE : Hid ((tx.drop tx.length).contains 10 = false) := Lib.hid (by rw [List.drop_length]; rfl)
  obtain ⟨s, hs⟩ : ∃ s : ByteArray, s = ⟨tx.toArray⟩ := ⟨_, rfl⟩
  rw [← hs] at HSA hsz ⊢
  obtain ⟨nk, hnk⟩ : ∃ nk : Nat → Bool, ∀ k, (tx.drop k).contains 10 = nk k := ⟨fun k => (tx.drop k).contains 10, fun _ => rfl⟩
  simp only [hnk] at HSA HD0 HDE
  rw [← hsz] at HDE HV ht
  generalize tx.contains 10 = nl at *
  clear hs hnk hsz
  obtain ⟨W1, hW1⟩ : ∃ W : World, W = w.alloc (.cells #[.int .i64 id, .int .i64 lv, .int .u64 (ct : Int), .bool an, .string s, .bool ba] 41) := ⟨_, rfl⟩
  have hx1 : W1.heap[w.heap.size]? = some (.cells #[.int .i64 id, .int .i64 lv, .int .u64 (ct : Int), .bool an, .string s, .bool ba] 41 (0, 0)) := by rw [hW1]; exact heap_alloc_new w _
  have HB1 := Lib.hid (show Below w.heap.size w W1 by rw [hW1]; exact alloc1 _ _)
  have HCR := Lib.hid (L.refRight_any lv ct W1)
  simp only [L.lab] at HCR
  obtain ⟨xb, hxb⟩ : ∃ q, q = w.heap.size := ⟨_, rfl⟩
  have HX1 := Lib.hid hx1
  have e0 := L.blk_cell hx1 0
  have e1 := L.blk_cell hx1 1
  have e2 := L.blk_cell hx1 2
  simp only [List.getElem?_toArray, List.getElem?_cons_zero, List.getElem?_cons_succ] at e0 e1 e2
  clear hx1
  by_cases h0 : id < 0
  · obtain rfl : v = 2 := HV.out.trans (if_pos (.inl h0))
    clear HV HSA HD0 HDE HCR
    go_enter Tryd.func37, Tryd.ntmps37
    go_upto_region 1 with fail
    rw [← hW1]
    clear hW1
    go_wp2_with fail
    go_ret
    exact ⟨rfl, HB1.out⟩
  · by_cases h1 : 2147483647 < id
    · obtain rfl : v = 2 := HV.out.trans (if_pos (.inr (.inl h1)))
      clear HV HSA HD0 HDE HCR
      go_enter Tryd.func37, Tryd.ntmps37
      go_upto_region 1 with fail
      rw [← hW1]
      clear hW1
      go_wp2_with fail
      go_ret
      exact ⟨rfl, HB1.out⟩
    · go_enter Tryd.func37, Tryd.ntmps37
      go_upto_region 1 with fail
      rw [← hW1]
      rw [← hxb] at HX1 e0 e1 e2 ⊢
      clear hW1 hxb
      go_wp2_with fail
      with_reducible refine HCR.out.mono ?_
      rintro e w2 ⟨rfl, hb2⟩
      have hx2 := (hb2.block _ (L.blk_lt HX1.out)).trans HX1.out
      have HB2 := Lib.hid (HB1.out.trans (hb2.mono HB1.out.size))
      clear e0 e1 e2 HX1 hb2 HB1 HCR
      have e4 := L.blk_cell hx2 4
      simp only [List.getElem?_toArray, List.getElem?_cons_zero, List.getElem?_cons_succ] at e4
      clear hx2
      by_cases hr : L.rightB lv = true
      · rw [hr] at HV ⊢
        have HV2 := Lib.hid (HV.out.trans (if_neg (by simp; omega)))
        clear HV
        go_wp2_with fail
        go_loopg [3] s.size (fun m i wr => ∃ k : Nat, k ≤ s.size ∧ i = .int .i64 (k : Int) ∧ s.size - k ≤ m ∧ wr = w2 ∧ Hid (nl = nk k))
        case atStart => exact ⟨0, Nat.zero_le _, rfl, by omega, rfl, Lib.hid HD0.out.symm⟩
        case round =>
          obtain ⟨k, hk, rfl, hm, rfl, HNK⟩ := hrel
          by_cases hlt : k < s.size
          · have hki : (k : Int) < (s.size : Int) := by omega
            have HS1 := Lib.hid (HSA.out k hlt)
            by_cases h10 : (s[k].toNat : Int) = 10
            · have hb10 : ((s[k].toNat : Int) == 10) = true := by simp [h10]
              have hnl : nl = true := by rw [HNK.out, HS1.out, decide_eq_true (by omega)]; rfl
              obtain rfl : v = 3 := HV2.out.trans (if_pos hnl)
              clear HS1 HSA HNK hnl HV2 h10
              go_wp2_with fail
              refine bodyPost_ret (v := .int .i64 3) (by simp [results, Tryd.results37, go_sem]) rfl ⟨rfl, HB2.out⟩
            · have hb10 : ((s[k].toNat : Int) == 10) = false := by simp [h10]
              have HN := Lib.hid (show nl = nk (k + 1) by rw [HNK.out, HS1.out, decide_eq_false (by omega)]; rfl)
              clear HS1 HSA HNK h10
              go_wp2_with fail
              go_roundg (s.size - (k + 1))
              case rel => exact ⟨k + 1, by omega, by go_num, Nat.le_refl _, rfl, HN⟩
              case measure => omega
          · obtain rfl : k = s.size := by omega
            have HV3 := Lib.hid (HV2.out.trans (if_neg (by rw [HNK.out, HDE.out]; simp)))
            clear HV2 HNK HSA hk hlt
            by_cases hn : 200 < s.size
            · obtain rfl : v = 4 := HV3.out.trans (if_pos hn)
              have hni : (200 : Int) < (s.size : Int) := by omega
              clear HV3
              go_wp2_with fail
              go_ret
              exact ⟨rfl, HB2.out⟩
            · obtain rfl : v = 0 := HV3.out.trans (if_neg hn)
              have hni : ¬ (200 : Int) < (s.size : Int) := by omega
              clear HV3
              go_wp2_with fail
              go_ret
              exact ⟨rfl, HB2.out⟩
      · have hr2 : L.rightB lv = false := by simpa using hr
        obtain rfl : v = 2 := HV.out.trans (if_pos (.inr (.inr hr2)))
        rw [hr2]
        clear HV HSA e4
        go_wp2_with fail
        go_ret
        exact ⟨rfl, HB2.out⟩
end Go.Proofs.YtlggoplffhdkhaaDoor.Dl

namespace Go.Proofs.YtlggoplffhdkhaaDoor.Dl
set_option linter.unusedVariables false
set_option linter.unusedSimpArgs false
open Go.RowKit Go.Maps
open T
open V (drawn_below grown_of)
open I (It ItemsIn ItemsAt itCells itCells_snoc itCells_at alloc1 own_at own_below items_of_own items_own infoItem ItemsIn.below)

theorem cat2 {a b : ByteArray} (h : a.data.toList.length + b.data.toList.length ≤ 9223372036854775807) : ∃ z : ByteArray, (∀ w : World, (Op.stringOp .add a b).run Tryd.prog w = .ok (.string z) w) ∧ z.data.toList = a.data.toList ++ b.data.toList :=
  ⟨a ++ b, fun w => run_string_add_sum w a b (by rw [Lib.size_eq, Lib.size_eq]; omega), by simp⟩
/-- Lines that are all closed: their bytes one after the other. -/
theorem join_app : ∀ (a b : List (List UInt8 × Bool)), (∀ x ∈ a, x.2 = false) → P.join (a ++ b) = P.join a ++ P.join b
  | [], b, _ => by simp [P.join]
  | (t, f) :: r, b, h => by
    have e : f = false := h (t, f) (by simp)
    subst e
    rw [List.cons_append, P.join, P.join, join_app r b (fun x hx => h x (by simp [hx]))]
    simp
theorem itls_open (l : List It) : ∀ x ∈ itls l, x.2 = false := fun x hx => by
  unfold itls at hx
  obtain ⟨y, _, rfl⟩ := List.mem_map.1 hx
  rfl
theorem nxl_open (d : List Pt) (k : Nat) : ∀ x ∈ nxl d k, x.2 = false := fun x hx => by
  unfold nxl at hx
  split at hx
  · rw [List.mem_singleton.1 hx]
  · cases hx
theorem ptl_open (d : List Pt) (k : Nat) : ∀ x ∈ ptl d k, x.2 = false := fun x hx => by
  unfold ptl plns at hx
  split at hx
  · rw [List.mem_singleton.1 hx]
  · exact itls_open _ x hx
theorem dlk_open (d : List Pt) : ∀ (k : Nat), ∀ x ∈ dlk d k, x.2 = false
  | 0, x, hx => by cases hx
  | k + 1, x, hx => by
    rw [dlk] at hx
    rcases List.mem_append.1 hx with hx | hx
    · rcases List.mem_append.1 hx with hx | hx
      · exact dlk_open d k x hx
      · exact nxl_open d k x hx
    · exact ptl_open d k x hx
theorem ptl_is {d : List Pt} {k : Nat} (h : k < d.length) : ptl d k = plns d[k].at_ d[k].n d[k].its := by
  have e : d.getD k ⟨0, 0, []⟩ = d[k]'h := by rw [List.getD_eq_getElem?_getD, List.getElem?_eq_getElem h]; rfl
  unfold ptl
  rw [e]
theorem cp_text {d : List Pt} {k : Nat} (h : k < d.length) (h0 : d[k].its = []) : P.join (dlk d (k + 1)) = ((((P.join (dlk d k) ++ [99, 111, 112, 121, 32]) ++ P.decimal d[k].at_) ++ [32]) ++ P.decimal d[k].n) ++ [10] := by
  have e : d.getD k ⟨0, 0, []⟩ = d[k]'h := by rw [List.getD_eq_getElem?_getD, List.getElem?_eq_getElem h]; rfl
  have hn : nxl d k = [] := by
    unfold nxl nxb
    rw [e, h0]
    simp
  rw [show dlk d (k + 1) = dlk d k ++ nxl d k ++ ptl d k from rfl, hn, List.append_nil, join_app _ _ (dlk_open d k), ptl_is h]
  unfold plns
  rw [if_pos h0]
  simp [P.join, cpln_is]
/-- The text up to a part's item. -/
def otx (d : List Pt) (k : Nat) (l : List It) (j : Nat) : List UInt8 := P.join (dlk d k ++ nxl d k ++ itls (l.take j))
theorem otx_zero (d : List Pt) (k : Nat) (l : List It) : otx d k l 0 = P.join (dlk d k ++ nxl d k) := by
  unfold otx
  rw [List.take_zero, show itls [] = [] from rfl, List.append_nil]
theorem dn_open (d : List Pt) (k : Nat) : ∀ x ∈ dlk d k ++ nxl d k, x.2 = false := fun x hx => by
  rcases List.mem_append.1 hx with hx | hx
  · exact dlk_open d k x hx
  · exact nxl_open d k x hx
theorem otx_snoc {d : List Pt} {k : Nat} {l : List It} {j : Nat} (h : j < l.length) : otx d k l (j + 1) = ((((((((otx d k l j ++ [105, 116, 101, 109, 32]) ++ P.decimal l[j].id) ++ [32]) ++ L.print l[j].lv l[j].ct) ++ [32]) ++ knd l[j]) ++ [32]) ++ l[j].tx) ++ [10] := by
  have e : itls (l.take (j + 1)) = itls (l.take j) ++ [(itln l[j], false)] := by unfold itls; rw [List.take_succ_eq_append_getElem h, List.map_append]; rfl
  unfold otx
  rw [e, ← List.append_assoc, join_app _ [_] (fun x hx => by
    rcases List.mem_append.1 hx with hx | hx
    · exact dn_open d k x hx
    · exact itls_open _ x hx)]
  simp [P.join, itln_is]
theorem otx_end {d : List Pt} {k : Nat} (h : k < d.length) (h0 : d[k].its ≠ []) : otx d k d[k].its d[k].its.length = P.join (dlk d (k + 1)) := by
  unfold otx
  rw [List.take_length, show dlk d (k + 1) = dlk d k ++ nxl d k ++ ptl d k from rfl, ptl_is h]
  unfold plns
  rw [if_neg h0]
theorem bulk_take (l : List It) (j : Nat) : P.bulk (itls (l.take j)) ≤ P.bulk (itls l) := by
  have e : itls l = itls (l.take j) ++ itls (l.drop j) := by
    unfold itls
    rw [← List.map_append, List.take_append_drop]
  rw [e, bulk_app]
  omega
theorem otx_len {d : List Pt} {k : Nat} (h : k < d.length) (j : Nat) : (otx d k d[k].its j).length ≤ P.bulk (dlk d d.length) := by
  have h1 := P.join_length (dlk d k ++ nxl d k ++ itls (d[k].its.take j))
  have h2 := bulk_take d[k].its j
  have h3 := dlk_le d (k + 1) d.length h
  have h4 : P.bulk (itls d[k].its) ≤ P.bulk (ptl d k) := by
    rw [ptl_is h]
    unfold plns
    split
    · rename_i e; rw [e]; exact Nat.zero_le _
    · exact Nat.le_refl _
  rw [show dlk d (k + 1) = dlk d k ++ nxl d k ++ ptl d k from rfl, bulk_app] at h3
  rw [bulk_app] at h1
  unfold otx
  omega
theorem dlk_len (d : List Pt) (k : Nat) (h : k ≤ d.length) : (P.join (dlk d k)).length ≤ P.bulk (dlk d d.length) := Nat.le_trans (P.join_length _) (dlk_le d k d.length h)
def PsEnd (w : World) (t : List UInt8) (z : Int) (e : Ending) (w' : World) : Prop := ∃ B cap, e = .returned (.tuple #[.slice B t.length cap, .int .i64 z]) ∧ BytesIn w' B t ∧ Below w.heap.size w w'
set_option maxRecDepth 100000 in
set_option maxHeartbeats 8000000 in
theorem rprint_any (A : Option Addr) (c : Nat) (d : List Pt) (w : World) (hD : PtsIn w A d) (hd : d.length ≤ 4000000000) (hp : ∀ p ∈ d, p.its.length ≤ 4000000000 ∧ ∀ x ∈ p.its, x.tx.length ≤ maxLen) (hbk : P.bulk (dlk d d.length) ≤ 5000000000000) :
    Calls Tryd.prog 20 #[.slice A d.length c] w (PsEnd w (prt d) (cke d)) := by
  have HD := Lib.hid hD
  have HP := Lib.hid (fun (k : Nat) (h : k < d.length) => hp d[k] (List.getElem_mem h))
  have HAT := Lib.hid (fun (k : Nat) (h : k < d.length) => cke_at h)
  obtain ⟨ek, hek⟩ : ∃ ek : Nat → Int, ∀ k, cke (d.drop k) = ek k := ⟨fun k => cke (d.drop k), fun _ => rfl⟩
  have HE0 : Hid (ek 0 = cke d) := Lib.hid (by rw [← hek, List.drop_zero])
  have HEE : Hid (ek d.length = 0) := Lib.hid (by rw [← hek, List.drop_length]; rfl)
  simp only [hek] at HAT
  have HR0 : Hid (cke d ≠ 0 → prt d = []) := Lib.hid (fun h => if_neg h)
  have HR1 : Hid (cke d = 0 → prt d = P.join (dlk d d.length)) := Lib.hid (fun h => if_pos h)
  have HCP := Lib.hid (fun (k : Nat) (h : k < d.length) => cp_text h)
  have HDL := Lib.hid (fun (k : Nat) (h : k ≤ d.length) => Nat.le_trans (dlk_len d k h) hbk)
  have HOL := Lib.hid (fun (k : Nat) (h : k < d.length) (j : Nat) => Nat.le_trans (otx_len h j) hbk)
  have HOE := Lib.hid (fun (k : Nat) (h : k < d.length) => otx_end h)
  have HO0 := Lib.hid (fun (k : Nat) (l : List It) => otx_zero d k l)
  have HOS := Lib.hid (fun (k : Nat) (l : List It) (j : Nat) (h : j < l.length) => otx_snoc (d := d) (k := k) h)
  have HDN := Lib.hid (fun (k : Nat) => join_app (dlk d k) (nxl d k) (dlk_open d k))
  have HD0 := Lib.hid (show P.join (dlk d 0) = [] from rfl)
  generalize prt d = res at *
  generalize cke d = er at *
  obtain ⟨dl, hdl⟩ : ∃ dl : Nat → List UInt8, ∀ k, P.join (dlk d k) = dl k := ⟨fun k => P.join (dlk d k), fun _ => rfl⟩
  obtain ⟨ot, hot⟩ : ∃ ot : Nat → List It → Nat → List UInt8, ∀ k l j, otx d k l j = ot k l j := ⟨fun k l j => otx d k l j, fun _ _ _ => rfl⟩
  simp only [hdl] at HDL HDN HD0 HR1 HCP HOE
  simp only [hot] at HOL HOE HO0 HOS
  clear hD hp hek hbk hdl hot
  go_enter Tryd.func20, Tryd.ntmps20
  go_wp2_with fail
  go_loopg [4, 5] d.length (fun m v i wr => ∃ (k : Nat) (z : ByteArray), k ≤ d.length ∧ i = .int .i64 (k : Int) ∧ v = .string z ∧ d.length - k ≤ m ∧ Hid (Below w.heap.size w wr) ∧ Hid (er = ek k) ∧ Hid (z.data.toList = dl k))
  case atStart => exact ⟨0, ⟨#[]⟩, Nat.zero_le _, rfl, rfl, by omega, Lib.hid (Below.refl _ _), Lib.hid HE0.out.symm, Lib.hid (by rw [HD0.out])⟩
  case round =>
    obtain ⟨k, z, hk, rfl, rfl, hm, HBR, HER, HZK⟩ := hrel
    by_cases hlt : k < d.length
    · obtain ⟨bk, off, hDe, hbk, hI⟩ := HD.out (by omega)
      subst hDe
      obtain ⟨g0, g1, C, cc, g2, hix⟩ := hI k hlt
      have HPV := Lib.hid (fun (q : Nat) (hq : q < d.length) => show ∃ C' c', w.cell? ⟨bk, off + q * 3 + 2, none⟩ = some (.slice C' (d.getD q ⟨0, 0, []⟩).its.length c') by
        obtain ⟨_, _, C', c', h2, _⟩ := hI q hq
        exact ⟨C', c', by rw [h2, List.getD_eq_getElem?_getD, List.getElem?_eq_getElem hq]; rfl⟩)
      have HT1 := Lib.hid (HAT.out k hlt)
      have HCPk := Lib.hid (HCP.out k hlt)
      have HOLk := Lib.hid (HOL.out k hlt)
      have HOEk := Lib.hid (HOE.out k hlt)
      obtain ⟨hp1, hp2⟩ := HP.out k hlt
      have HP2 := Lib.hid (fun (j : Nat) (h : j < d[k].its.length) => hp2 _ (List.getElem_mem h))
      have hgd : d.getD k ⟨0, 0, []⟩ = d[k]'hlt := by rw [List.getD_eq_getElem?_getD, List.getElem?_eq_getElem hlt]; rfl
      have h0k : (0 : Int) ≤ (k : Int) := by omega
      have hki : (k : Int) < (d.length : Int) := by omega
      have hzl : z.data.toList.length ≤ 5000000000000 := by rw [HZK.out]; exact HDL.out k hk
      have HNB : Hid (nxb d k = (decide (0 < k) && (decide (0 < (d.getD (k - 1) ⟨0, 0, []⟩).its.length) && decide (0 < d[k].its.length)))) := Lib.hid (by unfold nxb; rw [hgd])
      clear hp2
      obtain ⟨x, hx⟩ : ∃ x, x = d[k]'hlt := ⟨_, rfl⟩
      rw [← hx] at g0 g1 g2 hix HT1 hp1 HP2 HCPk HOLk HOEk HNB
      obtain ⟨pa, pn, pi⟩ := x
      simp only at g0 g1 g2 hix HT1 hp1 HP2 HCPk HOLk HOEk HNB
      replace g0 := (HBR.out.cell (p := ⟨bk, off + k * 3, none⟩) hbk).trans g0
      replace g1 := (HBR.out.cell (p := ⟨bk, off + k * 3 + 1, none⟩) hbk).trans g1
      replace g2 := (HBR.out.cell (p := ⟨bk, off + k * 3 + 2, none⟩) hbk).trans g2
      obtain ⟨W1, hW1⟩ : ∃ W : World, W = wr.alloc (.cells #[.int .i64 pa, .int .i64 pn, .slice C pi.length cc] 27) := ⟨_, rfl⟩
      have HWR := Lib.hid (wrong_any pa pn C pi.length cc W1)
      have hb1 : Below wr.heap.size wr W1 := by rw [hW1]; exact alloc1 _ _
      have hx1 : W1.heap[wr.heap.size]? = some (.cells #[.int .i64 pa, .int .i64 pn, .slice C pi.length cc] 27 (0, 0)) := by rw [hW1]; exact heap_alloc_new wr _
      have HB1 := Lib.hid (HBR.out.trans (hb1.mono HBR.out.size))
      have HI0 := Lib.hid hix
      have HX1 := Lib.hid hx1
      have e0 := L.blk_cell hx1 0
      have e1 := L.blk_cell hx1 1
      have e2 := L.blk_cell hx1 2
      simp only [List.getElem?_toArray, List.getElem?_cons_zero, List.getElem?_cons_succ] at e0 e1 e2
      have HCW : Hid (ckt pa pn pi = if cpt pa pn pi.length ≠ 0 then cpt pa pn pi.length else if 2147483647 < pa ∨ 2147483647 < pn then 2 else cks pi) := Lib.hid rfl
      have HCZ := Lib.hid (fun h => cpt_zero (at_ := pa) (n := pn) (m := pi.length) h)
      generalize ckt pa pn pi = u at *
      generalize cpt pa pn pi.length = y at *
      have hbx : wr.heap.size < W1.heap.size := L.blk_lt hx1
      clear hx hgd hb1 hx1 hix hI HBR
      go_upto_region 6 with fail
      rw [← hW1]
      obtain ⟨xb, hxb⟩ : ∃ q, q = wr.heap.size := ⟨_, rfl⟩
      rw [← hxb] at HX1 e0 e1 e2 hbx ⊢
      clear hW1 g0 g1 g2 hxb
      go_wp2_with fail
      with_reducible refine HWR.out.mono ?_
      rintro e w2 ⟨rfl, hb2⟩
      have HB2 := Lib.hid (HB1.out.trans (hb2.mono HB1.out.size))
      have hx2 := (hb2.block _ hbx).trans HX1.out
      have HX2 := Lib.hid hx2
      clear HWR hb2 HB1 HX1 e0 e1 e2
      by_cases hy : y = 0
      · subst hy
        have hcz := HCZ.out rfl
        have e0 := L.blk_cell hx2 0
        have e1 := L.blk_cell hx2 1
        simp only [List.getElem?_toArray, List.getElem?_cons_zero, List.getElem?_cons_succ] at e0 e1
        have hbx2 : xb < w2.heap.size := L.blk_lt hx2
        have HCV := Lib.hid (HCW.out.trans (if_neg (by simp)))
        clear HCW HCZ hx2
        obtain ⟨q1, q2, q3, q4⟩ := hcz
        by_cases hbig : 2147483647 < pa ∨ 2147483647 < pn
        · have hz2 : u = 2 := HCV.out.trans (if_pos hbig)
          have HV := Lib.hid (HT1.out.trans (if_pos (by rw [hz2]; decide)))
          have hez : er = 2 := by rw [HER.out, HV.out, hz2]
          have HEZ := Lib.hid hez
          have HRS := Lib.hid (HR0.out (by rw [hez]; decide))
          clear hez hz2 HT1
          by_cases ha : 2147483647 < pa
          · clear hbig
            go_wp2_with fail
            refine bodyPost_ret (v := .tuple #[.slice none 0 0, .int .i64 2]) (by simp [results, Tryd.results20, go_sem]) rfl (by rw [HRS.out, HEZ.out]; exact ⟨none, 0, rfl, fun h => absurd h (by simp), HB2.out⟩)
          · have hn : 2147483647 < pn := by omega
            clear hbig
            go_wp2_with fail
            refine bodyPost_ret (v := .tuple #[.slice none 0 0, .int .i64 2]) (by simp [results, Tryd.results20, go_sem]) rfl (by rw [HRS.out, HEZ.out]; exact ⟨none, 0, rfl, fun h => absurd h (by simp), HB2.out⟩)
        · have ha : ¬ 2147483647 < pa := by omega
          have hn : ¬ 2147483647 < pn := by omega
          have HCU := Lib.hid (HCV.out.trans (if_neg hbig))
          clear HCV hbig
          by_cases hp0 : 0 < pn
          · obtain rfl : pi = [] := List.length_eq_zero_iff.1 (by omega)
            have HTX := Lib.hid (HCPk.out rfl)
            have HU := Lib.hid (show er = ek (k + 1) by rw [HER.out, HT1.out, if_neg (by rw [HCU.out]; simp [cks])])
            have HDA : Hid (∀ W, Below w2.heap.size w2 W → Calls Tryd.prog 36 #[.int .i64 pa] W fun e w' => e = .returned (.string ⟨(P.decimal pa).toArray⟩) ∧ Below w2.heap.size w2 w') := Lib.hid (fun W h => (refDecimal_any pa W).mono fun e w' h' => ⟨h'.1, h.trans (h'.2.mono h.size)⟩)
            have HDB : Hid (∀ W, Below w2.heap.size w2 W → Calls Tryd.prog 36 #[.int .i64 pn] W fun e w' => e = .returned (.string ⟨(P.decimal pn).toArray⟩) ∧ Below w2.heap.size w2 w') := Lib.hid (fun W h => (refDecimal_any pn W).mono fun e w' h' => ⟨h'.1, h.trans (h'.2.mono h.size)⟩)
            have hl1 := P.decimal_length pa
            have hl2 := P.decimal_length pn
            have hd1 : (⟨(P.decimal pa).toArray⟩ : ByteArray).data.toList = P.decimal pa := list_data _
            have hd2 : (⟨(P.decimal pn).toArray⟩ : ByteArray).data.toList = P.decimal pn := list_data _
            generalize (⟨(P.decimal pa).toArray⟩ : ByteArray) = s1 at *
            generalize (⟨(P.decimal pn).toArray⟩ : ByteArray) = s2 at *
            rw [← hd1, ← hd2, ← HZK.out] at HTX
            rw [← hd1] at hl1
            rw [← hd2] at hl2
            obtain ⟨z1, r1, f1⟩ := cat2 (a := z) (b := ⟨#[99, 111, 112, 121, 32]⟩) (by have : (⟨#[99, 111, 112, 121, 32]⟩ : ByteArray).data.toList.length = 5 := rfl; omega)
            have l1 := congrArg List.length f1
            rw [List.length_append, show (⟨#[99, 111, 112, 121, 32]⟩ : ByteArray).data.toList.length = 5 from rfl] at l1
            obtain ⟨z2, r2, f2⟩ := cat2 (a := z1) (b := s1) (by omega)
            have l2 := congrArg List.length f2
            rw [List.length_append] at l2
            obtain ⟨z3, r3, f3⟩ := cat2 (a := z2) (b := ⟨#[32]⟩) (by have : (⟨#[32]⟩ : ByteArray).data.toList.length = 1 := rfl; omega)
            have l3 := congrArg List.length f3
            rw [List.length_append, show (⟨#[32]⟩ : ByteArray).data.toList.length = 1 from rfl] at l3
            obtain ⟨z4, r4, f4⟩ := cat2 (a := z3) (b := s2) (by omega)
            have l4 := congrArg List.length f4
            rw [List.length_append] at l4
            obtain ⟨z5, r5, f5⟩ := cat2 (a := z4) (b := ⟨#[10]⟩) (by have : (⟨#[10]⟩ : ByteArray).data.toList.length = 1 := rfl; omega)
            have HZ5 := Lib.hid (show z5.data.toList = dl (k + 1) by rw [HTX.out, f5, f4, f3, f2, f1])
            have HSX : Hid (∀ W, Below w2.heap.size w2 W → (W.cell? ⟨xb, 0, none⟩ = some (.int .i64 pa) ∧ W.cell? ⟨xb, 1, none⟩ = some (.int .i64 pn) ∧ Below w2.heap.size w2 W)) := Lib.hid (fun W h => ⟨(h.cell (p := ⟨xb, 0, none⟩) hbx2).trans e0, (h.cell (p := ⟨xb, 1, none⟩) hbx2).trans e1, h⟩)
            clear f1 f2 f3 f4 f5 l1 l2 l3 l4 hl1 hl2 hd1 hd2 HTX HT1 HCPk HOLk HOEk HNB HPV HP2 q1 q2 q3 q4 hzl HCU HI0 HX2
            go_upto_region 12 with fail
            clear e0 e1
            go_region_held3 (fun W => W.cell? ⟨xb, 0, none⟩ = some (.int .i64 pa) ∧ W.cell? ⟨xb, 1, none⟩ = some (.int .i64 pn) ∧ Below w2.heap.size w2 W)
              (first | exact HSX.out _ ((Below.refl _ _).drew) | exact HSX.out _ (by assumption))
              (first | (go_at_call 36; with_reducible refine (HDA.out _ (And.right (And.right (by assumption)))).mono ?_; rintro r wq ⟨rfl, hbq⟩; have hsq := hbq.size) | (go_at_call 36; with_reducible refine (HDB.out _ (And.right (And.right (by assumption)))).mono ?_; rintro r wq ⟨rfl, hbq⟩; have hsq := hbq.size))
            all_goals
              go_wp2_with fail
              go_roundg (d.length - (k + 1))
              case rel => exact ⟨k + 1, z5, by omega, by go_num, rfl, Nat.le_refl _, Lib.hid (HB2.out.trans (Below.mono (by assumption) HB2.out.size)), HU, HZ5⟩
              case measure => omega
          · obtain rfl : pn = 0 := by omega
            have hpl : 0 < pi.length := by omega
            have hpli : (0 : Int) < (pi.length : Int) := by omega
            have HDNk := Lib.hid (HDN.out k)
            have HO0k := Lib.hid (HO0.out k pi)
            rw [HDNk.out] at HO0k
            have HNV := Lib.hid (show nxb d k = (decide (0 < k) && decide (0 < (d.getD (k - 1) ⟨0, 0, []⟩).its.length)) by rw [HNB.out, decide_eq_true hpl, Bool.and_true])
            have HNX : Hid (nxl d k = if nxb d k = true then [([110, 101, 120, 116], false)] else []) := Lib.hid rfl
            have HNE := Lib.hid (HOEk.out (fun e => by rw [e] at hpl; exact absurd hpl (by simp)))
            have HAJ := Lib.hid (fun (j : Nat) (h : j < pi.length) => cks_at h)
            obtain ⟨ej, hej⟩ : ∃ ej : Nat → Int, ∀ j, cks (pi.drop j) = ej j := ⟨fun j => cks (pi.drop j), fun _ => rfl⟩
            have HJ0 : Hid (ej 0 = cks pi) := Lib.hid (by rw [← hej, List.drop_zero])
            have HJE : Hid (ej pi.length = 0) := Lib.hid (by rw [← hej, List.drop_length]; rfl)
            simp only [hej] at HAJ
            have HOSk := Lib.hid (fun (j : Nat) (h : j < pi.length) => HOS.out k pi j h)
            generalize nxl d k = nx at *
            generalize nxb d k = nb at *
            generalize cks pi = cp at *
            clear hej HNB HOEk HDNk HCPk q1 q2 q3 q4
            go_upto_region 13 with fail
            go_cut [61] (fun c wz => c = .bool nb ∧ wz = w2)
            case first =>
              by_cases hk0 : k = 0
              · have hkn : ¬ (0 : Int) < (k : Int) := by omega
                obtain rfl : nb = false := by rw [HNV.out, hk0]; rfl
                clear hk0 HNV HNX HPV
                go_wp2_with fail
                go_meet
                case rel => exact ⟨rfl, rfl⟩
              · obtain ⟨q, hq⟩ : ∃ q : Nat, q + 1 = k := ⟨k - 1, by omega⟩
                obtain ⟨C', c', hpv⟩ := HPV.out q (by omega)
                have hpv := (HB2.out.cell (p := ⟨bk, off + q * 3 + 2, none⟩) hbk).trans hpv
                have hw1 : IntKind.i64.wrap ((k : Int) - 1) = (q : Int) := by rw [IntKind.wrap_i64]; omega
                have h0q : (0 : Int) ≤ (q : Int) := by omega
                have hqi : (q : Int) < (d.length : Int) := by omega
                have hkp : (0 : Int) < (k : Int) := by omega
                have hkq : k - 1 = q := by omega
                rw [hkq, decide_eq_true (show 0 < k by omega), Bool.true_and] at HNV
                obtain ⟨m1, hm1⟩ : ∃ m1, m1 = (d.getD q ⟨0, 0, []⟩).its.length := ⟨_, rfl⟩
                rw [← hm1] at hpv HNV
                clear hm1 hkq hq hk0 HPV
                by_cases hmz : 0 < m1
                · have hmi : (0 : Int) < (m1 : Int) := by omega
                  obtain rfl : nb = true := by rw [HNV.out, decide_eq_true hmz]
                  clear HNV HNX
                  go_wp2_with fail
                  go_meet
                  case rel => exact ⟨rfl, rfl⟩
                · have hmi : ¬ (0 : Int) < (m1 : Int) := by omega
                  obtain rfl : nb = false := by rw [HNV.out, decide_eq_false hmz]
                  clear HNV HNX
                  go_wp2_with fail
                  go_meet
                  case rel => exact ⟨rfl, rfl⟩
            case rest =>
            obtain ⟨rfl, hwc⟩ := hcut
            subst wc
            clear HPV HNV e0 e1
            go_upto_if 61 with fail
            go_cut [4] (fun v wz => ∃ z' : ByteArray, v = .string z' ∧ wz = w2 ∧ Hid (z'.data.toList = ot k pi 0))
            case first =>
              cases nb with
              | true =>
                obtain ⟨z', rz, fz⟩ := cat2 (a := z) (b := ⟨#[110, 101, 120, 116, 10]⟩) (by have : (⟨#[110, 101, 120, 116, 10]⟩ : ByteArray).data.toList.length = 5 := rfl; omega)
                have HZ' := Lib.hid (show z'.data.toList = ot k pi 0 by rw [fz, HO0k.out, HNX.out, HZK.out]; rfl)
                clear fz HNX
                go_wp2_with fail
                go_meet
                case rel => exact ⟨z', rfl, rfl, HZ'⟩
              | false =>
                have HZ' := Lib.hid (show z.data.toList = ot k pi 0 by rw [HO0k.out, HNX.out, HZK.out, if_neg (by simp)]; simp [P.join])
                clear HNX
                go_wp2_with fail
                go_meet
                case rel => exact ⟨z, rfl, rfl, HZ'⟩
            case rest =>
            obtain ⟨z0, rfl, hwc, HZ0⟩ := hcut
            subst wc
            clear HNX HO0k HZK hzl z hbk
            go_wp2_with fail
            go_loopg [4, 8] pi.length (fun m v i wx => ∃ (j : Nat) (z : ByteArray), j ≤ pi.length ∧ i = .int .i64 (j : Int) ∧ v = .string z ∧ pi.length - j ≤ m ∧ Hid (Below w.heap.size w wx) ∧ Hid (wx.heap[xb]? = some (.cells #[.int .i64 pa, .int .i64 0, .slice C pi.length cc] 27 (0, 0))) ∧ Hid (cp = ej j) ∧ Hid (z.data.toList = ot k pi j))
            case atStart => exact ⟨0, z0, Nat.zero_le _, rfl, rfl, by omega, HB2, HX2, Lib.hid HJ0.out.symm, HZ0⟩
            case round =>
              clear HX2 HB2 HZ0 HJ0
              obtain ⟨j, z1, hj, rfl, rfl, hmj, HBX, HXX, HCJ, HZJ⟩ := hrel
              have e2 := L.blk_cell HXX.out 2
              simp only [List.getElem?_toArray, List.getElem?_cons_zero, List.getElem?_cons_succ] at e2
              have hbx3 : xb < wr.heap.size := L.blk_lt HXX.out
              have hs2 := HBX.out.size
              by_cases hjl : j < pi.length
              · obtain ⟨ak, ao, hAe, hak, c0, c1, c2, c3, c4, c5⟩ := it_at (HI0.out.below HBX.out).i hjl
                subst hAe
                have HA1 := Lib.hid (HAJ.out j hjl)
                have HO1 := Lib.hid (HOSk.out j hjl)
                have hxt := HP2.out j hjl
                have h0j : (0 : Int) ≤ (j : Int) := by omega
                have hji : (j : Int) < (pi.length : Int) := by omega
                have hzl : z1.data.toList.length ≤ 5000000000000 := by rw [HZJ.out]; exact HOLk.out j
                obtain ⟨x, hx⟩ : ∃ x, x = pi[j] := ⟨_, rfl⟩
                rw [← hx] at c0 c1 c2 c3 c4 c5 HA1 HO1 hxt
                have HKN : Hid (knd x = (if x.an then [97] else [108]) ++ (if x.ba then [98] else [])) := Lib.hid rfl
                have HCZ := Lib.hid (fun (h : cki x = 0) => (cki_zero h).2.2.2.2)
                obtain ⟨W5, hW5⟩ : ∃ W : World, W = wr.alloc (.cells #[.int .i64 x.id, .int .i64 x.lv, .int .u64 (x.ct : Int), .bool x.an, .string ⟨x.tx.toArray⟩, .bool x.ba] 41) := ⟨_, rfl⟩
                have hb5 : Below wr.heap.size wr W5 := by rw [hW5]; exact alloc1 _ _
                have hx5 : W5.heap[wr.heap.size]? = some (.cells #[.int .i64 x.id, .int .i64 x.lv, .int .u64 (x.ct : Int), .bool x.an, .string ⟨x.tx.toArray⟩, .bool x.ba] 41 (0, 0)) := by rw [hW5]; exact heap_alloc_new wr _
                have HCK := Lib.hid (rcheck_any x W5 hxt)
                have HDA : Hid (∀ W, Calls Tryd.prog 36 #[.int .i64 x.id] W fun e w' => e = .returned (.string ⟨(P.decimal x.id).toArray⟩) ∧ Below W.heap.size W w') := Lib.hid (fun W => refDecimal_any x.id W)
                have HDB : Hid (∀ W, Calls Tryd.prog 38 #[.agg #[.int .i64 x.lv, .int .u64 (x.ct : Int)]] W fun e w' => e = .returned (.string ⟨(L.print x.lv x.ct).toArray⟩) ∧ Below W.heap.size W w') := Lib.hid (fun W => L.refPrint_any x.lv x.ct W)
                have hl1 := P.decimal_length x.id
                have hl2 := L.print_len x.lv x.ct
                have hl3 := knd_len x
                have hd1 : (⟨(P.decimal x.id).toArray⟩ : ByteArray).data.toList = P.decimal x.id := list_data _
                have hd2 : (⟨(L.print x.lv x.ct).toArray⟩ : ByteArray).data.toList = L.print x.lv x.ct := list_data _
                have hd4 : (⟨x.tx.toArray⟩ : ByteArray).data.toList = x.tx := list_data _
                simp only [itV] at HCK
                rw [← hd1, ← hd2, ← hd4, ← HZJ.out] at HO1
                rw [← hd1] at hl1
                rw [← hd2] at hl2
                have HL := Lib.hid (And.intro hl1 (And.intro hl2 hl3))
                have hd4l : x.tx.length = (⟨x.tx.toArray⟩ : ByteArray).data.toList.length := by rw [hd4]
                rw [hd4l] at HCZ
                clear hd1 hd2 hd4 hd4l hl1 hl2 hl3 hx hak hxt
                generalize (⟨(P.decimal x.id).toArray⟩ : ByteArray) = s1 at *
                generalize (⟨(L.print x.lv x.ct).toArray⟩ : ByteArray) = s2 at *
                generalize (⟨x.tx.toArray⟩ : ByteArray) = yt at *
                generalize knd x = kd at *
                generalize cki x = y at *
                generalize x.id = id at *
                generalize x.lv = lv at *
                generalize x.ct = ct at *
                generalize x.an = an at *
                generalize x.ba = ba at *
                have HB5 := Lib.hid (HBX.out.trans (hb5.mono hs2))
                have HX5 := Lib.hid ((hb5.block _ hbx3).trans HXX.out)
                have HI5 := Lib.hid hx5
                obtain ⟨bb, hbb⟩ : ∃ q, q = wr.heap.size := ⟨_, rfl⟩
                have e0 := L.blk_cell hx5 0
                have e1 := L.blk_cell hx5 1
                have e2' := L.blk_cell hx5 2
                have e3 := L.blk_cell hx5 3
                have e4 := L.blk_cell hx5 4
                have e5 := L.blk_cell hx5 5
                simp only [List.getElem?_toArray, List.getElem?_cons_zero, List.getElem?_cons_succ] at e0 e1 e2' e3 e4 e5
                clear hx5 hb5 HBX HXX
                go_upto_region 19 with fail
                rw [← hW5]
                rw [← hbb] at HI5 e0 e1 e2' e3 e4 e5 ⊢
                clear hW5 c0 c1 c2 c3 c4 c5 e2 hbb hbx3
                go_wp2_with fail
                with_reducible refine HCK.out.mono ?_
                rintro e w6 ⟨rfl, hb6⟩
                have HB6 := Lib.hid (HB5.out.trans (hb6.mono HB5.out.size))
                have HX6 := Lib.hid ((hb6.block _ (L.blk_lt HX5.out)).trans HX5.out)
                have hx6 := (hb6.block _ (L.blk_lt HI5.out)).trans HI5.out
                clear HCK hb6 HB5 HX5 HI5 e0 e1 e2' e3 e4 e5
                by_cases hy : y = 0
                · subst hy
                  have HCN := Lib.hid (HCJ.out.trans (HA1.out.trans (if_neg (by simp))))
                  have hyt := HCZ.out rfl
                  clear HA1 HCJ HCZ
                  have e0 := L.blk_cell hx6 0
                  have e1 := L.blk_cell hx6 1
                  have e2 := L.blk_cell hx6 2
                  have e3 := L.blk_cell hx6 3
                  have e4 := L.blk_cell hx6 4
                  have e5 := L.blk_cell hx6 5
                  simp only [List.getElem?_toArray, List.getElem?_cons_zero, List.getElem?_cons_succ] at e0 e1 e2 e3 e4 e5
                  have hbb6 : bb < w6.heap.size := L.blk_lt hx6
                  have hbx6 : xb < w6.heap.size := L.blk_lt HX6.out
                  clear hx6
                  obtain ⟨k1, hk1⟩ : ∃ k1 : ByteArray, k1 = if an then ⟨#[97]⟩ else ⟨#[108]⟩ := ⟨_, rfl⟩
                  have hk1l : k1.data.toList.length = 1 := by rw [hk1]; cases an <;> rfl
                  obtain ⟨kb, rk, fk⟩ := cat2 (a := k1) (b := ⟨#[98]⟩) (by rw [hk1l]; decide)
                  obtain ⟨K, hK⟩ : ∃ K : ByteArray, K = if ba then kb else k1 := ⟨_, rfl⟩
                  have HKK := Lib.hid (show K.data.toList = kd by
                    rw [HKN.out, hK]
                    cases an <;> cases ba <;> simp [fk, hk1])
                  have HK1 := Lib.hid hk1
                  have HK2 := Lib.hid hK
                  clear hk1 hK fk hk1l HKN
                  go_upto_if 82 with fail
                  go_cut [11] (fun v wz => v = .string k1 ∧ wz = w6)
                  case first =>
                    cases an with
                    | true =>
                      go_wp2_with fail
                      go_meet
                      case rel => exact ⟨by rw [HK1.out]; rfl, rfl⟩
                    | false =>
                      go_wp2_with fail
                      go_meet
                      case rel => exact ⟨by rw [HK1.out]; rfl, rfl⟩
                  case rest =>
                  obtain ⟨rfl, hwc⟩ := hcut
                  subst wc
                  clear HK1
                  go_upto_if 85 with fail
                  go_cut [11] (fun v wz => v = .string K ∧ wz = w6)
                  case first =>
                    cases ba with
                    | true =>
                      go_wp2_with fail
                      go_meet
                      case rel => exact ⟨by rw [HK2.out]; rfl, rfl⟩
                    | false =>
                      go_wp2_with fail
                      go_meet
                      case rel => exact ⟨by rw [HK2.out]; rfl, rfl⟩
                  case rest =>
                  obtain ⟨rfl, hwc⟩ := hcut
                  subst wc
                  clear HK2 rk kb k1 e3 e5
                  obtain ⟨hl1, hl2, hl3⟩ := HL.out
                  rw [← HKK.out] at hl3 HO1
                  obtain ⟨a1, r1, f1⟩ := cat2 (a := z1) (b := ⟨#[105, 116, 101, 109, 32]⟩) (by have : (⟨#[105, 116, 101, 109, 32]⟩ : ByteArray).data.toList.length = 5 := rfl; omega)
                  have l1 := congrArg List.length f1
                  rw [List.length_append, show (⟨#[105, 116, 101, 109, 32]⟩ : ByteArray).data.toList.length = 5 from rfl] at l1
                  obtain ⟨a2, r2, f2⟩ := cat2 (a := a1) (b := s1) (by omega)
                  have l2 := congrArg List.length f2
                  rw [List.length_append] at l2
                  obtain ⟨a3, r3, f3⟩ := cat2 (a := a2) (b := ⟨#[32]⟩) (by have : (⟨#[32]⟩ : ByteArray).data.toList.length = 1 := rfl; omega)
                  have l3 := congrArg List.length f3
                  rw [List.length_append, show (⟨#[32]⟩ : ByteArray).data.toList.length = 1 from rfl] at l3
                  obtain ⟨a4, r4, f4⟩ := cat2 (a := a3) (b := s2) (by omega)
                  have l4 := congrArg List.length f4
                  rw [List.length_append] at l4
                  obtain ⟨a5, r5, f5⟩ := cat2 (a := a4) (b := ⟨#[32]⟩) (by have : (⟨#[32]⟩ : ByteArray).data.toList.length = 1 := rfl; omega)
                  have l5 := congrArg List.length f5
                  rw [List.length_append, show (⟨#[32]⟩ : ByteArray).data.toList.length = 1 from rfl] at l5
                  obtain ⟨a6, r6, f6⟩ := cat2 (a := a5) (b := K) (by omega)
                  have l6 := congrArg List.length f6
                  rw [List.length_append] at l6
                  obtain ⟨a7, r7, f7⟩ := cat2 (a := a6) (b := ⟨#[32]⟩) (by have : (⟨#[32]⟩ : ByteArray).data.toList.length = 1 := rfl; omega)
                  have l7 := congrArg List.length f7
                  rw [List.length_append, show (⟨#[32]⟩ : ByteArray).data.toList.length = 1 from rfl] at l7
                  obtain ⟨a8, r8, f8⟩ := cat2 (a := a7) (b := yt) (by omega)
                  have l8 := congrArg List.length f8
                  rw [List.length_append] at l8
                  obtain ⟨a9, r9, f9⟩ := cat2 (a := a8) (b := ⟨#[10]⟩) (by have : (⟨#[10]⟩ : ByteArray).data.toList.length = 1 := rfl; omega)
                  have l9 := congrArg List.length f9
                  rw [List.length_append, show (⟨#[10]⟩ : ByteArray).data.toList.length = 1 from rfl] at l9
                  have HZ9 := Lib.hid (show a9.data.toList = ot k pi (j + 1) by rw [HO1.out, f9, f8, f7, f6, f5, f4, f3, f2, f1])
                  have HSX : Hid (∀ W, Below w6.heap.size w6 W → (W.cell? ⟨bb, 0, none⟩ = some (.int .i64 id) ∧ W.cell? ⟨bb, 1, none⟩ = some (.int .i64 lv) ∧ W.cell? ⟨bb, 2, none⟩ = some (.int .u64 (ct : Int)) ∧ W.cell? ⟨bb, 4, none⟩ = some (.string yt) ∧ Below w6.heap.size w6 W)) := Lib.hid (fun W h => ⟨(h.cell (p := ⟨bb, 0, none⟩) hbb6).trans e0, (h.cell (p := ⟨bb, 1, none⟩) hbb6).trans e1, (h.cell (p := ⟨bb, 2, none⟩) hbb6).trans e2, (h.cell (p := ⟨bb, 4, none⟩) hbb6).trans e4, h⟩)
                  have HDA6 : Hid (∀ W, Below w6.heap.size w6 W → Calls Tryd.prog 36 #[.int .i64 id] W fun e w' => e = .returned (.string s1) ∧ Below w6.heap.size w6 w') := Lib.hid (fun W h => (HDA.out W).mono fun e w' h' => ⟨h'.1, h.trans (h'.2.mono h.size)⟩)
                  have HDB6 : Hid (∀ W, Below w6.heap.size w6 W → Calls Tryd.prog 38 #[.agg #[.int .i64 lv, .int .u64 (ct : Int)]] W fun e w' => e = .returned (.string s2) ∧ Below w6.heap.size w6 w') := Lib.hid (fun W h => (HDB.out W).mono fun e w' h' => ⟨h'.1, h.trans (h'.2.mono h.size)⟩)
                  clear f1 f2 f3 f4 f5 f6 f7 f8 f9 l1 l2 l3 l4 l5 l6 l7 l8 l9 hl1 hl2 hl3 HO1 HL HKK HZJ hzl hyt HDA HDB
                  go_upto_region 27 with fail
                  clear e0 e1 e2 e4
                  go_region_held3 (fun W => W.cell? ⟨bb, 0, none⟩ = some (.int .i64 id) ∧ W.cell? ⟨bb, 1, none⟩ = some (.int .i64 lv) ∧ W.cell? ⟨bb, 2, none⟩ = some (.int .u64 (ct : Int)) ∧ W.cell? ⟨bb, 4, none⟩ = some (.string yt) ∧ Below w6.heap.size w6 W)
                    (first | exact HSX.out _ ((Below.refl _ _).drew) | exact HSX.out _ (by assumption))
                    (first | (go_at_call 36; with_reducible refine (HDA6.out _ (And.right (And.right (And.right (And.right (by assumption)))))).mono ?_; rintro r wq ⟨rfl, hbq⟩; have hsq := hbq.size) | (go_at_call 38; with_reducible refine (HDB6.out _ (And.right (And.right (And.right (And.right (by assumption)))))).mono ?_; rintro r wq ⟨rfl, hbq⟩; have hsq := hbq.size))
                  all_goals
                    go_wp2_with fail
                    go_roundg (pi.length - (j + 1))
                    case rel => exact ⟨j + 1, a9, by omega, by go_num, rfl, Nat.le_refl _, Lib.hid (HB6.out.trans (Below.mono (by assumption) HB6.out.size)), Lib.hid ((Below.block (by assumption) xb hbx6).trans HX6.out), HCN, HZ9⟩
                    case measure => omega
                · have hyb : (y != 0) = true := by simp [hy]
                  have huy : u = y := by rw [HCU.out, HCJ.out, HA1.out, if_pos hy]
                  have hez : er = y := by rw [HER.out, HT1.out, if_pos (by rw [huy]; exact hy), huy]
                  have HEZ := Lib.hid hez
                  have HRS := Lib.hid (HR0.out (by rw [hez]; exact hy))
                  clear huy hez HCJ HA1 HCZ hx6
                  go_wp2_with fail
                  refine bodyPost_ret (v := .tuple #[.slice none 0 0, .int .i64 y]) (by simp [results, Tryd.results20, go_sem]) rfl (by rw [HRS.out, HEZ.out]; exact ⟨none, 0, rfl, fun h => absurd h (by simp), HB6.out⟩)
              · obtain rfl : j = pi.length := by omega
                have HU := Lib.hid (show er = ek (k + 1) by rw [HER.out, HT1.out, if_neg (by rw [HCU.out, HCJ.out, HJE.out]; simp)])
                have HZ5 := Lib.hid (show z1.data.toList = dl (k + 1) by rw [HZJ.out]; exact HNE.out)
                clear HT1 HCJ HZJ
                go_wp2_with fail
                go_roundg (d.length - (k + 1))
                case rel => exact ⟨k + 1, z1, by omega, by go_num, rfl, Nat.le_refl _, HBX, HU, HZ5⟩
                case measure => omega
      · have hyb : (y != 0) = true := by simp [hy]
        have hcw : u = y := HCW.out.trans (if_pos hy)
        have HV := Lib.hid (HT1.out.trans (if_pos (by rw [hcw]; exact hy)))
        have hez : er = y := by rw [HER.out, HV.out, hcw]
        have HEZ := Lib.hid hez
        have HRS := Lib.hid (HR0.out (by rw [hez]; exact hy))
        clear hez hcw HT1 HCW HCZ
        go_wp2_with fail
        refine bodyPost_ret (v := .tuple #[.slice none 0 0, .int .i64 y]) (by simp [results, Tryd.results20, go_sem]) rfl (by rw [HRS.out, HEZ.out]; exact ⟨none, 0, rfl, fun h => absurd h (by simp), HB2.out⟩)
    · obtain rfl : k = d.length := by omega
      have her : er = 0 := by rw [HER.out, HEE.out]
      have HRS := Lib.hid (HR1.out her)
      have HER0 := Lib.hid her
      have HSZ := Lib.hid (show z.size = res.length by rw [Lib.size_eq, HZK.out, HRS.out])
      obtain ⟨cap1, wz, hcv, hbz, hltz, hcz, hinz⟩ := conv_str z wr
      have HBZ := Lib.hid (HBR.out.trans (hbz.mono HBR.out.size))
      have HIN := Lib.hid hinz
      have HLT := Lib.hid hltz
      clear her hbz hinz hltz hcz
      go_wp2_with fail
      refine bodyPost_ret (v := .tuple #[.slice (some ⟨wr.heap.size, 0, none⟩) z.size cap1, .int .i64 0]) (by simp [results, Tryd.results20, go_sem]) rfl (by rw [HER0.out, HSZ.out]; exact ⟨_, cap1, rfl, fun _ => ⟨_, 0, rfl, HLT.out, by show BytesAt _ _ _ res; rw [HRS.out, ← HZK.out]; exact HIN.out⟩, HBZ.out⟩)
end Go.Proofs.YtlggoplffhdkhaaDoor.Dl
