/-
  The contracts of delta's checkPart, checkWithin, Size and Apply.
  Plain facts on numbers and their texts: the text of a number up to 2^31 - 1 is read as that number; what is read as a number is that number's text; reading without a bound and asking at the end comes to the same.
  Nothing more of the library is called here.
  The contract of label's Print.
-/
import Derived.Test.YthkdpokdmkkdjaaDoorGhg
import Derived.Test.YthkdpokdmkkdjaaDoorGha
import Derived.Test.YthkdpokdmkkdjaaDoorGhb
import Derived.Test.YthkdpokdmkkdjaaDoorGhd
namespace Go.Proofs.YthkdpokdmkkdjaaDoor.Dl
set_option linter.unusedVariables false
set_option linter.unusedSimpArgs false
open Go.RowKit Go.Maps
open T
open V (drawn_below grown_of)
open I (It ItemsIn ItemsAt itCells itCells_snoc itCells_at alloc1 own_at own_below items_of_own items_own infoItem ItemsIn.below)

/-- What is wrong with a part. -/
def cpt (at_ n : Int) (m : Nat) : Int := if (m = 0 ∧ n = 0) ∨ (0 < m ∧ n ≠ 0) then 3 else if at_ < 0 ∨ n < 0 ∨ (0 < m ∧ at_ ≠ 0) then 2 else 0
def cwn (at_ n : Int) (m most : Nat) : Int := if cpt at_ n m ≠ 0 then cpt at_ n m else if (most : Int) - n < at_ then 2 else 0
theorem cpt_zero {at_ n : Int} {m : Nat} (h : cpt at_ n m = 0) : 0 ≤ at_ ∧ 0 ≤ n ∧ (0 < m → at_ = 0 ∧ n = 0) ∧ (m = 0 → 0 < n) := by
  unfold cpt at h
  split at h
  · cases h
  · split at h
    · cases h
    · rename_i h1 h2
      omega
theorem pt_at {w : World} {A : Option Addr} {d : List Pt} (h : PtsIn w A d) {k : Nat} (hk : k < d.length) : ∃ bk off C cc, A = some ⟨bk, off, none⟩ ∧ bk < w.heap.size ∧ w.cell? ⟨bk, off + k * 3, none⟩ = some (.int .i64 d[k].at_) ∧ w.cell? ⟨bk, off + k * 3 + 1, none⟩ = some (.int .i64 d[k].n) ∧ w.cell? ⟨bk, off + k * 3 + 2, none⟩ = some (.slice C d[k].its.length cc) ∧ Ix w C cc d[k].its := by
  obtain ⟨bk, off, e, h1, h2⟩ := h (by omega)
  obtain ⟨c0, c1, C, cc, c2, c3⟩ := h2 k hk
  exact ⟨bk, off, C, cc, e, h1, c0, c1, c2, c3⟩

set_option maxRecDepth 100000 in
set_option maxHeartbeats 4000000 in
theorem cpart_any (at_ n : Int) (C : Option Addr) (m cc : Nat) (w : World) : Calls Tryd.prog 46 #[.agg #[.int .i64 at_, .int .i64 n, .slice C m cc]] w fun e w' => e = .returned (.int .i64 (cpt at_ n m)) ∧ Below w.heap.size w w' := by
  obtain ⟨W1, hW1⟩ : ∃ W : World, W = w.alloc (.cells #[.int .i64 at_, .int .i64 n, .slice C m cc] 27) := ⟨_, rfl⟩
  have hx1 : W1.heap[w.heap.size]? = some (.cells #[.int .i64 at_, .int .i64 n, .slice C m cc] 27 (0, 0)) := by rw [hW1]; exact heap_alloc_new w _
  have HB1 := Lib.hid (show Below w.heap.size w W1 by rw [hW1]; exact alloc1 _ _)
  have e0 := L.blk_cell hx1 0
  have e1 := L.blk_cell hx1 1
  have e2 := L.blk_cell hx1 2
  simp only [List.getElem?_toArray, List.getElem?_cons_zero, List.getElem?_cons_succ] at e0 e1 e2
  clear hx1
  have HV : Hid (cpt at_ n m = if (m = 0 ∧ n = 0) ∨ (0 < m ∧ n ≠ 0) then 3 else if at_ < 0 ∨ n < 0 ∨ (0 < m ∧ at_ ≠ 0) then 2 else 0) := Lib.hid rfl
  generalize cpt at_ n m = v at *
  by_cases hm : 0 < m
  · have hmi : (0 : Int) < (m : Int) := by omega
    by_cases hn : n = 0
    · subst hn
      by_cases ha : at_ < 0
      · obtain rfl : v = 2 := HV.out.trans (by rw [if_neg (by omega), if_pos (by omega)])
        clear HV
        go_enter Tryd.func46, Tryd.ntmps46
        go_upto_region 1 with fail
        rw [← hW1]
        clear hW1
        go_wp2_with fail
        go_ret
        exact ⟨rfl, HB1.out⟩
      · by_cases hz : at_ = 0
        · subst hz
          obtain rfl : v = 0 := HV.out.trans (by rw [if_neg (by omega), if_neg (by omega)])
          clear HV
          clear ha
          go_enter Tryd.func46, Tryd.ntmps46
          go_upto_region 1 with fail
          rw [← hW1]
          clear hW1
          go_wp2_with fail
          go_ret
          exact ⟨rfl, HB1.out⟩
        · have hzb : (at_ != 0) = true := by simp [hz]
          obtain rfl : v = 2 := HV.out.trans (by rw [if_neg (by omega), if_pos (by omega)])
          clear HV
          go_enter Tryd.func46, Tryd.ntmps46
          go_upto_region 1 with fail
          rw [← hW1]
          clear hW1
          go_wp2_with fail
          go_ret
          exact ⟨rfl, HB1.out⟩
    · have hnb : (n != 0) = true := by simp [hn]
      obtain rfl : v = 3 := HV.out.trans (by rw [if_pos (by omega)])
      clear HV
      go_enter Tryd.func46, Tryd.ntmps46
      go_upto_region 1 with fail
      rw [← hW1]
      clear hW1
      go_wp2_with fail
      go_ret
      exact ⟨rfl, HB1.out⟩
  · obtain rfl : m = 0 := by omega
    by_cases hn : n = 0
    · subst hn
      obtain rfl : v = 3 := HV.out.trans (by rw [if_pos (by omega)])
      clear HV
      clear hm
      go_enter Tryd.func46, Tryd.ntmps46
      go_upto_region 1 with fail
      rw [← hW1]
      clear hW1
      go_wp2_with fail
      go_ret
      exact ⟨rfl, HB1.out⟩
    · have hnb : (n != 0) = true := by simp [hn]
      by_cases ha : at_ < 0
      · clear hm
        obtain rfl : v = 2 := HV.out.trans (by rw [if_neg (by omega), if_pos (by omega)])
        clear HV
        go_enter Tryd.func46, Tryd.ntmps46
        go_upto_region 1 with fail
        rw [← hW1]
        clear hW1
        go_wp2_with fail
        go_ret
        exact ⟨rfl, HB1.out⟩
      · by_cases hl : n < 0
        · clear hm
          obtain rfl : v = 2 := HV.out.trans (by rw [if_neg (by omega), if_pos (by omega)])
          clear HV
          go_enter Tryd.func46, Tryd.ntmps46
          go_upto_region 1 with fail
          rw [← hW1]
          clear hW1
          go_wp2_with fail
          go_ret
          exact ⟨rfl, HB1.out⟩
        · clear hm
          obtain rfl : v = 0 := HV.out.trans (by rw [if_neg (by omega), if_neg (by omega)])
          clear HV
          go_enter Tryd.func46, Tryd.ntmps46
          go_upto_region 1 with fail
          rw [← hW1]
          clear hW1
          go_wp2_with fail
          go_ret
          exact ⟨rfl, HB1.out⟩
set_option maxRecDepth 100000 in
set_option maxHeartbeats 4000000 in
theorem cwithin_any (at_ n : Int) (C : Option Addr) (m cc most : Nat) (w : World) (hmo : most ≤ 9223372036854775807) (hn6 : n ≤ 9223372036854775807) : Calls Tryd.prog 30 #[.agg #[.int .i64 at_, .int .i64 n, .slice C m cc], .int .i64 (most : Int)] w fun e w' => e = .returned (.int .i64 (cwn at_ n m most)) ∧ Below w.heap.size w w' := by
  obtain ⟨W1, hW1⟩ : ∃ W : World, W = w.alloc (.cells #[.int .i64 at_, .int .i64 n, .slice C m cc] 27) := ⟨_, rfl⟩
  have hx1 : W1.heap[w.heap.size]? = some (.cells #[.int .i64 at_, .int .i64 n, .slice C m cc] 27 (0, 0)) := by rw [hW1]; exact heap_alloc_new w _
  have HB1 := Lib.hid (show Below w.heap.size w W1 by rw [hW1]; exact alloc1 _ _)
  have HCP := Lib.hid (cpart_any at_ n C m cc W1)
  have HV : Hid (cwn at_ n m most = if cpt at_ n m ≠ 0 then cpt at_ n m else if (most : Int) - n < at_ then 2 else 0) := Lib.hid rfl
  have HZ := Lib.hid (fun (h : cpt at_ n m = 0) => cpt_zero h)
  generalize cwn at_ n m most = v at *
  generalize cpt at_ n m = z at *
  have e0 := L.blk_cell hx1 0
  have e1 := L.blk_cell hx1 1
  have e2 := L.blk_cell hx1 2
  simp only [List.getElem?_toArray, List.getElem?_cons_zero, List.getElem?_cons_succ] at e0 e1 e2
  go_enter Tryd.func30, Tryd.ntmps30
  go_upto_region 1 with fail
  rw [← hW1]
  obtain ⟨xb, hxb⟩ : ∃ q, q = w.heap.size := ⟨_, rfl⟩
  rw [← hxb] at hx1 e0 e1 e2 ⊢
  clear hW1 hxb
  go_wp2_with fail
  with_reducible refine HCP.out.mono ?_
  rintro e w2 ⟨rfl, hb2⟩
  have hx2 := (hb2.block _ (L.blk_lt hx1)).trans hx1
  have HB2 := Lib.hid (HB1.out.trans (hb2.mono HB1.out.size))
  clear e0 e1 e2 hx1 hb2 HB1 HCP
  have e0 := L.blk_cell hx2 0
  have e1 := L.blk_cell hx2 1
  have e2 := L.blk_cell hx2 2
  simp only [List.getElem?_toArray, List.getElem?_cons_zero, List.getElem?_cons_succ] at e0 e1 e2
  clear hx2
  by_cases hz : z = 0
  · have hq := HZ.out hz
    subst hz
    have hw1 : IntKind.i64.wrap ((most : Int) - n) = (most : Int) - n := by rw [IntKind.wrap_i64]; omega
    by_cases hl : (most : Int) - n < at_
    · obtain rfl : v = 2 := HV.out.trans (by rw [if_neg (by simp), if_pos hl])
      clear HV HZ hq
      go_wp2_with fail
      go_ret
      exact ⟨rfl, HB2.out⟩
    · obtain rfl : v = 0 := HV.out.trans (by rw [if_neg (by simp), if_neg hl])
      clear HV HZ hq
      go_wp2_with fail
      go_ret
      exact ⟨rfl, HB2.out⟩
  · obtain rfl : v = z := HV.out.trans (if_pos hz)
    have hzb : (v != 0) = true := by simp [hz]
    clear HV HZ
    go_wp2_with fail
    go_ret
    exact ⟨rfl, HB2.out⟩
theorem siz_take {d : List Pt} {k : Nat} (h : k < d.length) : siz (d.take (k + 1)) = siz (d.take k) + d[k].its.length := by
  rw [List.take_succ_eq_append_getElem h, siz_snoc]
theorem siz_le (d : List Pt) (k : Nat) : siz (d.take k) ≤ siz d := by
  have : siz d = siz (d.take k) + siz (d.drop k) := by
    unfold siz; rw [← List.sum_append, ← List.map_append, List.take_append_drop]
  omega
set_option maxRecDepth 100000 in
set_option maxHeartbeats 4000000 in
theorem size_any (A : Option Addr) (c : Nat) (d : List Pt) (w : World) (hA : PtsIn w A d) (hl : d.length ≤ 1000000000) (hs : siz d ≤ 9223372036854775807) :
    Calls Tryd.prog 15 #[.slice A d.length c] w fun e w' => e = .returned (.int .i64 (siz d : Int)) ∧ Below w.heap.size w w' := by
  have HA := Lib.hid hA
  have HT := Lib.hid (fun (k : Nat) (h : k < d.length) => siz_take h)
  have HL := Lib.hid (fun k => Nat.le_trans (siz_le d k) hs)
  obtain ⟨sk, hsk⟩ : ∃ sk : Nat → Nat, ∀ k, siz (d.take k) = sk k := ⟨fun k => siz (d.take k), fun _ => rfl⟩
  have HS0 : Hid (sk 0 = 0) := Lib.hid (by rw [← hsk]; rfl)
  have HSE : Hid (sk d.length = siz d) := Lib.hid (by rw [← hsk, List.take_length])
  simp only [hsk] at HT HL
  generalize siz d = sd at *
  clear hA hsk
  go_enter Tryd.func15, Tryd.ntmps15
  go_wp2_with fail
  go_loopg [3, 8] d.length (fun m s i wr => ∃ k : Nat, k ≤ d.length ∧ i = .int .i64 (k : Int) ∧ s = .int .i64 (sk k : Int) ∧ d.length - k ≤ m ∧ Below w.heap.size w wr)
  case atStart => exact ⟨0, Nat.zero_le _, rfl, by rw [HS0.out]; rfl, by omega, Below.refl _ _⟩
  case round =>
    obtain ⟨k, hk, rfl, rfl, hm, hbr⟩ := hrel
    by_cases hlt : k < d.length
    · obtain ⟨bk, off, C, cc, hAe, hbk, g0, g1, g2, -⟩ := pt_at (HA.out.below hbr) hlt
      subst hAe
      have HT1 := Lib.hid (HT.out k hlt)
      have h1 := HL.out (k + 1)
      rw [HT1.out] at h1
      have h0k : (0 : Int) ≤ (k : Int) := by omega
      have hki : (k : Int) < (d.length : Int) := by omega
      obtain ⟨x, hx⟩ : ∃ x, x = d[k]'hlt := ⟨_, rfl⟩
      rw [← hx] at g0 g1 g2 HT1 h1
      obtain ⟨pa, pn, pi⟩ := x
      simp only at g0 g1 g2 HT1 h1
      obtain ⟨z, hz⟩ : ∃ z, z = pi.length := ⟨_, rfl⟩
      rw [← hz] at g2 HT1 h1
      have hw1 : IntKind.i64.wrap ((sk k : Int) + (z : Int)) = ((sk k + z : Nat) : Int) := by rw [IntKind.wrap_i64]; omega
      obtain ⟨W1, hW1⟩ : ∃ W : World, W = wr.alloc (.cells #[.int .i64 pa, .int .i64 pn, .slice C z cc] 27) := ⟨_, rfl⟩
      have hb1 : Below wr.heap.size wr W1 := by rw [hW1]; exact alloc1 _ _
      have hx1 : W1.heap[wr.heap.size]? = some (.cells #[.int .i64 pa, .int .i64 pn, .slice C z cc] 27 (0, 0)) := by rw [hW1]; exact heap_alloc_new wr _
      have HB1 := Lib.hid (hbr.trans (hb1.mono hbr.size))
      have e2 := L.blk_cell hx1 2
      simp only [List.getElem?_toArray, List.getElem?_cons_zero, List.getElem?_cons_succ] at e2
      clear hx hz hbk hbr hb1 hx1
      go_upto_region 5 with fail
      rw [← hW1]
      clear hW1 g0 g1 g2
      go_wp2_with fail
      go_roundg (d.length - (k + 1))
      case rel => exact ⟨k + 1, by omega, by go_num, by rw [HT1.out, Int.natCast_add], Nat.le_refl _, HB1.out⟩
      case measure => omega
    · obtain rfl : k = d.length := by omega
      rw [HSE.out]
      go_wp2_with fail
      go_ret
      exact ⟨rfl, hbr⟩
/-- The error of the first part that has one. -/
def aer (most : Nat) : List Pt → Int
  | [] => 0
  | p :: r => if cwn p.at_ p.n p.its.length most ≠ 0 then cwn p.at_ p.n p.its.length most else aer most r
theorem aer_at {most : Nat} {d : List Pt} {k : Nat} (h : k < d.length) : aer most (d.drop k) = if cwn d[k].at_ d[k].n d[k].its.length most ≠ 0 then cwn d[k].at_ d[k].n d[k].its.length most else aer most (d.drop (k + 1)) := by
  rw [List.drop_eq_getElem_cons h, aer]
theorem aer_zero {most : Nat} : ∀ {d : List Pt}, aer most d = 0 → ∀ p ∈ d, 0 ≤ p.at_ ∧ 0 ≤ p.n ∧ p.at_ + p.n ≤ most ∧ (0 < p.its.length → p.at_ = 0 ∧ p.n = 0) ∧ (p.its.length = 0 → 0 < p.n)
  | [], _, p, hp => by cases hp
  | q :: r, h, p, hp => by
    rw [aer] at h
    by_cases e : cwn q.at_ q.n q.its.length most = 0
    · rw [if_neg (by simpa using e)] at h
      rcases List.mem_cons.1 hp with rfl | hp
      · unfold cwn at e
        by_cases e2 : cpt p.at_ p.n p.its.length = 0
        · have h3 := cpt_zero e2
          rw [if_neg (by simpa using e2)] at e
          split at e
          · cases e
          · exact ⟨h3.1, h3.2.1, by omega, h3.2.2.1, h3.2.2.2⟩
        · rw [if_pos e2] at e; exact absurd e e2
      · exact aer_zero h p hp
    · rw [if_pos e] at h; exact absurd h e
def apl (a : List It) (d : List Pt) : List It := if aer a.length d = 0 then ol a d else []
theorem ol_take {a : List It} {d : List Pt} {k : Nat} (h : k < d.length) : ol a (d.take (k + 1)) = ol a (d.take k) ++ (d[k].its ++ (a.drop d[k].at_.toNat).take d[k].n.toNat) := by
  rw [List.take_succ_eq_append_getElem h, ol_snoc]
theorem ol_le (a : List It) (d : List Pt) (k : Nat) : (ol a (d.take k)).length ≤ (ol a d).length := by
  have : ol a d = ol a (d.take k) ++ ol a (d.drop k) := by
    unfold ol; rw [← List.flatMap_append, List.take_append_drop]
  rw [this, List.length_append]; omega
def ApEnd (w : World) (l : List It) (z : Int) (e : Ending) (w' : World) : Prop := ∃ A cap, e = .returned (.tuple #[.slice A l.length cap, .int .i64 z]) ∧ w'.ownsRow w.heap.size 41 6 (.slice A l.length cap) l.length (itCells l) ∧ Below w.heap.size w w'
set_option maxRecDepth 100000 in
set_option maxHeartbeats 8000000 in
theorem apply_any (A D : Option Addr) (ca cd : Nat) (a : List It) (d : List Pt) (w : World) (hA : Ix w A ca a) (hD : PtsIn w D d) (hd : d.length ≤ 1000000000) (hca : ca ≤ 9223372036854775807) (hpn : ∀ p ∈ d, p.n ≤ 9223372036854775807) (hsm : aer a.length d = 0 → (ol a d).length ≤ 1000000000) :
    Calls Tryd.prog 16 #[.slice A a.length ca, .slice D d.length cd] w (ApEnd w (apl a d) (aer a.length d)) := by
  have HA := Lib.hid hA
  have HD := Lib.hid hD
  have hra := hA.r
  have HZA := Lib.hid hA.z
  have HPN := Lib.hid (fun (k : Nat) (h : k < d.length) => hpn d[k] (List.getElem_mem h))
  have HAT := Lib.hid (fun (k : Nat) (h : k < d.length) => aer_at (most := a.length) h)
  obtain ⟨ek, hek⟩ : ∃ ek : Nat → Int, ∀ k, aer a.length (d.drop k) = ek k := ⟨fun k => aer a.length (d.drop k), fun _ => rfl⟩
  have HE0 : Hid (ek 0 = aer a.length d) := Lib.hid (by rw [← hek, List.drop_zero])
  have HEE : Hid (ek d.length = 0) := Lib.hid (by rw [← hek, List.drop_length]; rfl)
  simp only [hek] at HAT
  have HAP : Hid (aer a.length d ≠ 0 → apl a d = []) := Lib.hid (fun h => if_neg h)
  have HAQ : Hid (aer a.length d = 0 → apl a d = ol a d) := Lib.hid (fun h => if_pos h)
  have HOK := Lib.hid (fun (h : aer a.length d = 0) (k : Nat) (hk : k < d.length) => aer_zero h d[k] (List.getElem_mem hk))
  have HOT := Lib.hid (fun (k : Nat) (h : k < d.length) => ol_take (a := a) h)
  have HOL := Lib.hid (fun (h : aer a.length d = 0) k => Nat.le_trans (ol_le a d k) (hsm h))
  obtain ⟨ok, hok⟩ : ∃ ok : Nat → List It, ∀ k, ol a (d.take k) = ok k := ⟨fun k => ol a (d.take k), fun _ => rfl⟩
  have HO0 : Hid (ok 0 = []) := Lib.hid (by rw [← hok]; rfl)
  have HOE : Hid (ok d.length = ol a d) := Lib.hid (by rw [← hok, List.take_length])
  simp only [hok] at HOT HOL
  generalize apl a d = res at *
  generalize aer a.length d = er at *
  generalize ol a d = lst at *
  clear hA hD hpn hek hok hsm
  go_enter Tryd.func16, Tryd.ntmps16
  go_wp2_with fail
  go_loopg [8, 14] d.length (fun m x8 i wr => ∃ k : Nat, k ≤ d.length ∧ i = .int .i64 (k : Int) ∧ d.length - k ≤ m ∧ Below w.heap.size w wr ∧ Hid (er = ek k))
  case atStart => exact ⟨0, Nat.zero_le _, rfl, by omega, Below.refl _ _, Lib.hid HE0.out.symm⟩
  case round =>
    obtain ⟨k, hk, rfl, hm, hbr, HER⟩ := hrel
    by_cases hlt : k < d.length
    · obtain ⟨bk, off, C, cc, hDe, hbk, g0, g1, g2, -⟩ := pt_at (HD.out.below hbr) hlt
      subst hDe
      have HT1 := Lib.hid (HAT.out k hlt)
      have hpk := HPN.out k hlt
      have h0k : (0 : Int) ≤ (k : Int) := by omega
      have hki : (k : Int) < (d.length : Int) := by omega
      obtain ⟨x, hx⟩ : ∃ x, x = d[k]'hlt := ⟨_, rfl⟩
      rw [← hx] at g0 g1 g2 HT1 hpk
      obtain ⟨pa, pn, pi⟩ := x
      simp only at g0 g1 g2 HT1 hpk
      obtain ⟨W1, hW1⟩ : ∃ W : World, W = wr.alloc (.cells #[.int .i64 pa, .int .i64 pn, .slice C pi.length cc] 27) := ⟨_, rfl⟩
      have HCW := Lib.hid (cwithin_any pa pn C pi.length cc a.length W1 (by omega) hpk)
      have hb1 : Below wr.heap.size wr W1 := by rw [hW1]; exact alloc1 _ _
      have hx1 : W1.heap[wr.heap.size]? = some (.cells #[.int .i64 pa, .int .i64 pn, .slice C pi.length cc] 27 (0, 0)) := by rw [hW1]; exact heap_alloc_new wr _
      have HB1 := Lib.hid (hbr.trans (hb1.mono hbr.size))
      have e0 := L.blk_cell hx1 0
      have e1 := L.blk_cell hx1 1
      have e2 := L.blk_cell hx1 2
      simp only [List.getElem?_toArray, List.getElem?_cons_zero, List.getElem?_cons_succ] at e0 e1 e2
      generalize cwn pa pn pi.length a.length = z at *
      clear hx hbk hbr hb1 hx1 hpk
      go_upto_region 4 with fail
      rw [← hW1]
      clear hW1 g0 g1 g2
      go_wp2_with fail
      with_reducible refine HCW.out.mono ?_
      rintro e w2 ⟨rfl, hb2⟩
      have HB2 := Lib.hid (HB1.out.trans (hb2.mono HB1.out.size))
      clear HCW hb2 HB1 e0 e1 e2
      by_cases hz : z = 0
      · subst hz
        have HV := Lib.hid (HT1.out.trans (if_neg (by simp)))
        clear HT1
        go_wp2_with fail
        go_roundg (d.length - (k + 1))
        case rel => exact ⟨k + 1, by omega, by go_num, Nat.le_refl _, HB2.out, Lib.hid (by rw [HER.out, HV.out])⟩
        case measure => omega
      · have hzb : (z != 0) = true := by simp [hz]
        have HV := Lib.hid (HT1.out.trans (if_pos hz))
        have hez : er = z := by rw [HER.out, HV.out]
        have HEZ := Lib.hid hez
        have HRS := Lib.hid (HAP.out (by rw [hez]; exact hz))
        clear HT1 hez
        go_wp2_with fail
        refine bodyPost_ret (v := .tuple #[.slice none 0 0, .int .i64 z]) (by simp [results, Tryd.results16, go_sem]) rfl (by rw [HRS.out, HEZ.out]; exact ⟨none, 0, rfl, World.ownsRow_nil _ _ _ _, HB2.out⟩)
    · obtain rfl : k = d.length := by omega
      have her : er = 0 := by rw [HER.out, HEE.out]
      have HRS := Lib.hid (HAQ.out her)
      have HOK2 := Lib.hid (HOK.out her)
      have HOL2 := Lib.hid (HOL.out her)
      have HER0 := Lib.hid her
      have HB1 := Lib.hid hbr
      clear HAP HAQ HOK HOL her hbr HER HAT HEE HE0 HPN
      go_wp2_with fail
      go_loopg [9, 28] d.length (fun m v i wr => ∃ (k : Nat) (VA : Option Addr) (vc : Nat), k ≤ d.length ∧ i = .int .i64 (k : Int) ∧ v = .slice VA (ok k).length vc ∧ d.length - k ≤ m ∧ wr.ownsRow w.heap.size 41 6 (.slice VA (ok k).length vc) (ok k).length (itCells (ok k)) ∧ Below w.heap.size w wr)
      case atStart => exact ⟨0, none, 0, Nat.zero_le _, rfl, by rw [HO0.out]; rfl, by omega, by rw [HO0.out]; exact World.ownsRow_nil _ _ _ _, HB1.out⟩
      case round =>
        obtain ⟨k, VA, vc, hk2, rfl, rfl, hm2, hown, hbr⟩ := hrel
        by_cases hlt2 : k < d.length
        · obtain ⟨bk, off, C, cc, hDe, hbk, g0, g1, g2, hix⟩ := pt_at (HD.out.below hbr) hlt2
          subst hDe
          have HT1 := Lib.hid (HOT.out k hlt2)
          have hok := HOK2.out k hlt2
          have hlen := HOL2.out (k + 1)
          rw [HT1.out, List.length_append, List.length_append] at hlen
          have h0k : (0 : Int) ≤ (k : Int) := by omega
          have hki : (k : Int) < (d.length : Int) := by omega
          obtain ⟨x, hx⟩ : ∃ x, x = d[k]'hlt2 := ⟨_, rfl⟩
          rw [← hx] at g0 g1 g2 HT1 hok hix hlen
          obtain ⟨pa, pn, pi⟩ := x
          simp only at g0 g1 g2 HT1 hok hix hlen
          obtain ⟨q1, q2, q3, -, -⟩ := hok
          obtain ⟨p, rfl⟩ : ∃ p : Nat, pa = p := ⟨pa.toNat, by omega⟩
          obtain ⟨n, rfl⟩ : ∃ n : Nat, pn = n := ⟨pn.toNat, by omega⟩
          rw [Int.toNat_natCast, Int.toNat_natCast] at HT1 hlen
          have hpn2 : p + n ≤ a.length := by omega
          obtain ⟨W1, hW1⟩ : ∃ W : World, W = wr.alloc (.cells #[.int .i64 (p : Int), .int .i64 (n : Int), .slice C pi.length cc] 27) := ⟨_, rfl⟩
          have hb1 : Below wr.heap.size wr W1 := by rw [hW1]; exact alloc1 _ _
          have hx1 : W1.heap[wr.heap.size]? = some (.cells #[.int .i64 (p : Int), .int .i64 (n : Int), .slice C pi.length cc] 27 (0, 0)) := by rw [hW1]; exact heap_alloc_new wr _
          have HB2 := Lib.hid (hbr.trans (hb1.mono hbr.size))
          have HO2 := Lib.hid (own_below hown hb1)
          have HIX := Lib.hid (hix.below hb1)
          have HX1 := Lib.hid hx1
          have e2 := L.blk_cell hx1 2
          simp only [List.getElem?_toArray, List.getElem?_cons_zero, List.getElem?_cons_succ] at e2
          have hs2 := HB2.out.size
          obtain ⟨y, hy⟩ : ∃ y, y = ok k := ⟨_, rfl⟩
          rw [← hy] at HT1 HO2 hlen ⊢
          have hc1 : (cuti a p n).length = n := cuti_len hpn2
          have hl1 : y.length + pi.length ≤ 2199023255552 := by omega
          have hl2 : (y ++ pi).length + (cuti a p n).length ≤ 2199023255552 := by
            rw [List.length_append, hc1]
            have : ((a.drop p).take n).length = n := hc1
            omega
          have HCN := Lib.hid hc1
          clear hx hbk hbr hb1 hx1 hown hy hix hlen hc1 q1 q2 q3
          go_upto_region 12 with fail
          rw [← hW1]
          obtain ⟨xb, hxb⟩ : ∃ q, q = wr.heap.size := ⟨_, rfl⟩
          rw [← hxb] at HX1 e2 ⊢
          clear hW1 g0 g1 g2 hxb
          go_upto_region 13 with (at_builtin; refine wpList_append_items rfl (.tmp 32) (.tmp 34) rfl w.heap.size _ y pi rfl HO2.out C cc rfl HIX.out hl1 hs2 ?_; intro v1 w3 ho3 hg3 hat3)
          have HB3 := Lib.hid (HB2.out.grown hg3 hs2 (fun k e => (World.ownsRow.lt HO2.out k e).1))
          have hx3 := (hg3.block _ (L.blk_lt HX1.out) (V.own_ne' HO2.out (fun cs e => by rw [HX1.out] at e; injection e with e; injection e with _ e; exact absurd e (by decide)))).trans HX1.out
          obtain ⟨RA, rcap, rfl, -, -⟩ := own_form ho3
          have HO3 := Lib.hid ho3
          have hs3 := HB3.out.size
          have e0 := L.blk_cell hx3 0
          have e1 := L.blk_cell hx3 1
          simp only [List.getElem?_toArray, List.getElem?_cons_zero, List.getElem?_cons_succ] at e0 e1
          have HCT := Lib.hid (cut_any (B := A) (c := ca) (m := a.length) (k := p) (n := n) w3 hpn2 hra HZA.out hca)
          have HIC := Lib.hid (cut_in (HA.out.below HB3.out) hpn2)
          obtain ⟨t, ht⟩ : ∃ t, t = y ++ pi := ⟨_, rfl⟩
          rw [← ht] at HO3 hl2 ⊢
          have HTY := Lib.hid ht
          obtain ⟨ct, hct⟩ : ∃ ct, ct = cuti a p n := ⟨_, rfl⟩
          rw [← hct] at HIC hl2 HCN
          have HCE := Lib.hid hct
          clear ho3 hg3 hat3 hx3 HO2 HB2 HIX HX1 e2 ht hct hs2 hl1
          go_wp2_with fail
          with_reducible refine HCT.out.mono ?_
          rintro e w4 ⟨rfl, rfl⟩
          clear HCT e0 e1
          go_upto_region 14 with (at_builtin; refine wpList_append_items rfl (.tmp 36) (.tmp 42) rfl w.heap.size _ t ct rfl HO3.out (cutP A p n) n (by rw [HCN.out]; rfl) HIC.out hl2 hs3 ?_; intro v2 w5 ho5 hg5 hat5)
          have HB5 := Lib.hid (HB3.out.grown hg5 hs3 (fun k e => (World.ownsRow.lt HO3.out k e).1))
          obtain ⟨RB, rc2, rfl, -, -⟩ := own_form ho5
          have HE : Hid (ok (k + 1) = t ++ ct) := Lib.hid (by rw [HT1.out, HTY.out, HCE.out, List.append_assoc]; rfl)
          clear hg5 hat5 HO3 HB3 HIC HCN HCE HTY HT1 hs3 hl2
          go_wp2_with fail
          go_roundg (d.length - (k + 1))
          case rel => exact ⟨k + 1, RB, rc2, by omega, by go_num, by rw [HE.out], Nat.le_refl _, by rw [HE.out]; exact ho5, HB5.out⟩
          case measure => omega
        · obtain rfl : k = d.length := by omega
          rw [HOE.out] at hown ⊢
          go_wp2_with fail
          refine bodyPost_ret (v := .tuple #[.slice VA lst.length vc, .int .i64 0]) (by simp [results, Tryd.results16, go_sem]) rfl (by rw [HRS.out, HER0.out]; exact ⟨VA, vc, rfl, hown, hbr⟩)
end Go.Proofs.YthkdpokdmkkdjaaDoor.Dl

namespace Go.Proofs.YthkdpokdmkkdjaaDoor.P

/-- The digits of a list read on from n, without a bound. -/
def valGo : List UInt8 → Nat → Option Nat
  | [], n => some n
  | c :: r, n => if c.toNat < 48 ∨ 57 < c.toNat then none else valGo r (10 * n + (c.toNat - 48))
/-- Asked at the end. -/
def upTo (o : Option Nat) : Option Nat := o.bind fun m => if 2147483647 < m then none else some m

theorem valGo_ge : ∀ (l : List UInt8) (n m : Nat), valGo l n = some m → n * 10 ^ l.length ≤ m
  | [], n, m, h => by simp [valGo] at h; simp; omega
  | c :: r, n, m, h => by
    rw [valGo] at h
    split at h
    · cases h
    · have := valGo_ge r _ m h
      rw [List.length_cons, Nat.pow_succ]
      have e : (10 * n) * 10 ^ r.length ≤ (10 * n + (c.toNat - 48)) * 10 ^ r.length := Nat.mul_le_mul_right _ (by omega)
      have e2 : n * (10 ^ r.length * 10) = (10 * n) * 10 ^ r.length := by rw [Nat.mul_comm (10 ^ r.length) 10, ← Nat.mul_assoc, Nat.mul_comm n 10]
      omega
theorem valGo_le (l : List UInt8) (n m : Nat) (h : valGo l n = some m) : n ≤ m := by
  have h1 := valGo_ge l n m h
  have h2 : n * 1 ≤ n * 10 ^ l.length := Nat.mul_le_mul_left _ (Nat.pow_pos (by omega))
  omega

theorem numGo_val : ∀ (l : List UInt8) (n : Nat), n ≤ 2147483647 → numGo l n = upTo (valGo l n)
  | [], n, h => by simp [numGo, valGo, upTo]; omega
  | c :: r, n, h => by
    rw [numGo, valGo]
    split
    · rfl
    · split
      · next hb =>
        cases e : valGo r (10 * n + (c.toNat - 48)) with
        | none => rfl
        | some m =>
          have := valGo_le _ _ _ e
          simp [upTo]; omega
      · next hb => exact numGo_val r _ (by omega)

/-- Too long: more than ten digits without a 0 ahead. -/
theorem number_long (l : List UInt8) (h : 10 < l.length) : number l = none := by
  rw [number]
  split
  · rfl
  · next hc =>
    match l, h, hc with
    | c :: r, h, hc =>
      rw [numGo_val _ _ (by omega)]
      cases e : valGo (c :: r) 0 with
      | none => rfl
      | some m =>
        have hne : c ≠ 48 := fun e => hc (.inr ⟨by rw [e]; rfl, by simp at h ⊢; omega⟩)
        rw [valGo] at e
        split at e
        · cases e
        · next hd =>
          have h1 := valGo_ge r _ m e
          have hc48 : c.toNat ≠ 48 := fun e => hne (UInt8.toNat_inj.1 e)
          have h2 : 1 * 10 ^ 10 ≤ (10 * 0 + (c.toNat - 48)) * 10 ^ r.length :=
            Nat.mul_le_mul (by omega) (Nat.pow_le_pow_right (by omega) (by simp at h; omega))
          simp [upTo]; omega
theorem number_val (l : List UInt8) (h0 : l ≠ []) (h : ¬ (1 < l.length ∧ l.head? = some 48)) : number l = upTo (valGo l 0) := by
  rw [number, if_neg (by rintro (e | e); exact h0 e; exact h ⟨e.2, e.1⟩), numGo_val _ _ (by omega)]

theorem numGo_snoc : ∀ (l : List UInt8) (c : UInt8) (n : Nat), numGo (l ++ [c]) n = (numGo l n).bind fun m => numGo [c] m
  | [], c, n => by simp [numGo]
  | x :: r, c, n => by
    rw [List.cons_append, numGo, numGo]
    split
    · rfl
    · split
      · rfl
      · exact numGo_snoc r c _

theorem digit (d : Nat) (h : d < 10) : (UInt8.ofNat (48 + d)).toNat = 48 + d := by
  rw [UInt8.toNat_ofNat']; omega
theorem digit_of (c : UInt8) (h : 48 ≤ c.toNat) (h2 : c.toNat ≤ 57) : UInt8.ofNat (48 + (c.toNat - 48)) = c := by
  rw [show 48 + (c.toNat - 48) = c.toNat by omega]; simp

theorem numGo_dec (u : Nat) (h : u ≤ 2147483647) : numGo (Lib.decDigits u) 0 = some u := by
  induction u using Nat.strongRecOn with
  | ind u ih =>
    rw [Lib.decDigits]
    split
    · next hu => rw [numGo, digit u hu, if_neg (by omega), if_neg (by omega), numGo]; congr 1; omega
    · next hu =>
      rw [numGo_snoc, ih (u / 10) (by omega) (by omega)]
      show numGo [_] (u / 10) = _
      rw [numGo, digit _ (by omega), if_neg (by omega), if_neg (by omega), numGo]
      congr 1; omega
theorem dec_ne (u : Nat) : Lib.decDigits u ≠ [] := by
  rw [Lib.decDigits]; split <;> simp
theorem dec_head (u : Nat) : 1 ≤ u → (Lib.decDigits u).head? ≠ some 48 := by
  induction u using Nat.strongRecOn with
  | ind u ih =>
    intro hu1
    rw [Lib.decDigits]
    split
    · next hu =>
      simp only [List.head?_cons, ne_eq, Option.some.injEq]
      intro e
      have := congrArg UInt8.toNat e
      rw [digit u hu] at this
      simp at this; omega
    · next hu =>
      have hne := dec_ne (u / 10)
      have := ih (u / 10) (by omega) (by omega)
      cases e : Lib.decDigits (u / 10) with
      | nil => exact absurd e hne
      | cons x r => rw [e] at this; simpa using this
theorem number_dec (u : Nat) (h : u ≤ 2147483647) : number (Lib.decDigits u) = some u := by
  rw [number, if_neg, numGo_dec u h]
  rintro (e | ⟨e1, e2⟩)
  · exact dec_ne u e
  · rcases Nat.eq_zero_or_pos u with h0 | h0
    · subst h0; rw [Lib.decDigits_one (by omega)] at e2; simp at e2
    · exact dec_head u h0 e1

theorem numGo_le (l : List UInt8) (n m : Nat) (hn : n ≤ 2147483647) (h : numGo l n = some m) : n ≤ m ∧ m ≤ 2147483647 := by
  rw [numGo_val l n hn] at h
  cases e : valGo l n with
  | none => rw [e] at h; cases h
  | some k =>
    rw [e] at h
    have := valGo_le l n k e
    simp only [upTo, Option.bind_some] at h
    split at h
    · cases h
    · injection h with h; omega

theorem dec_numGo (l : List UInt8) : ∀ n, l ≠ [] → (l.head? = some 48 → l.length = 1) → numGo l 0 = some n → Lib.decDigits n = l := by
  induction hl : l.length generalizing l with
  | zero => intro n h; exact absurd (List.eq_nil_of_length_eq_zero hl) h
  | succ k ih =>
    intro n hne hz h
    obtain ⟨i, c, rfl⟩ : ∃ i c, l = i ++ [c] := ⟨l.dropLast, l.getLast hne, (List.dropLast_concat_getLast hne).symm⟩
    rw [numGo_snoc] at h
    cases em : numGo i 0 with
    | none => rw [em] at h; cases h
    | some m =>
      rw [em] at h
      simp only [Option.bind_some, numGo] at h
      split at h
      · cases h
      · next hd =>
        split at h
        · cases h
        · next hb =>
          injection h with h
          subst h
          by_cases hi : i = []
          · subst hi
            simp only [numGo, Option.some.injEq] at em
            subst em
            rw [Lib.decDigits_one (by omega), show 48 + (10 * 0 + (c.toNat - 48)) = 48 + (c.toNat - 48) by omega, digit_of c (by omega) (by omega)]
            rfl
          · have hih := ih i (by simp at hl; omega) m hi (fun e => by
              have : (i ++ [c]).head? = some 48 := by
                cases i with
                | nil => exact absurd rfl hi
                | cons x r => simpa using e
              have := hz this
              have hik : i.length = k := by simp at hl; omega
              exact absurd (List.eq_nil_of_length_eq_zero (by omega)) hi) em
            have hm : 1 ≤ m := by
              rcases Nat.eq_zero_or_pos m with h0 | h0
              · subst h0
                rw [Lib.decDigits_one (by omega)] at hih
                have : (i ++ [c]).head? = some 48 := by rw [← hih]; rfl
                have := hz this
                have hik : i.length = k := by simp at hl; omega
                exact absurd (List.eq_nil_of_length_eq_zero (by omega)) hi
              · exact h0
            rw [Lib.decDigits, dif_neg (by omega), show (10 * m + (c.toNat - 48)) / 10 = m by omega, show (10 * m + (c.toNat - 48)) % 10 = c.toNat - 48 by omega, hih, digit_of c (by omega) (by omega)]
theorem dec_number (l : List UInt8) (n : Nat) (h : number l = some n) : Lib.decDigits n = l ∧ n ≤ 2147483647 := by
  rw [number] at h
  split at h
  · cases h
  · next hc =>
    refine ⟨dec_numGo l n (fun e => hc (.inl e)) (fun e => ?_) h, (numGo_le l 0 n (by omega) h).2⟩
    have : ¬ 1 < l.length := fun e2 => hc (.inr ⟨e, e2⟩)
    cases l with
    | nil => simp at e
    | cons x r => simp at this ⊢; omega

theorem decimal_in (n : Int) (h0 : 0 ≤ n) (h1 : n ≤ 2147483647) : decimal n = Lib.decDigits n.toNat := by rw [decimal, if_neg (by omega)]
theorem decimal_out (n : Int) (h : n < 0 ∨ 2147483647 < n) : decimal n = [63] := by rw [decimal, if_pos h]
theorem number_decimal (n : Int) (h0 : 0 ≤ n) (h1 : n ≤ 2147483647) : number (decimal n) = some n.toNat := by
  rw [decimal_in n h0 h1, number_dec _ (by omega)]
theorem number_untold (n : Int) (h : n < 0 ∨ 2147483647 < n) : number (decimal n) = none := by
  rw [decimal_out n h]; decide
theorem decimal_number (l : List UInt8) (n : Nat) (h : number l = some n) : decimal n = l := by
  have := dec_number l n h
  rw [decimal_in n (by omega) (by omega)]
  simpa using this.1
theorem decimal_length (n : Int) : (decimal n).length ≤ 10 := by
  by_cases h : n < 0 ∨ 2147483647 < n
  · rw [decimal_out n h]; decide
  · rw [decimal_in n (by omega) (by omega)]
    rcases Nat.lt_or_ge 10 (Lib.decDigits n.toNat).length with hl | hl
    · have := number_long _ hl
      rw [number_dec _ (by omega)] at this
      cases this
    · exact hl
end Go.Proofs.YthkdpokdmkkdjaaDoor.P



namespace Go.Proofs.YthkdpokdmkkdjaaDoor.L
open Go.RowKit
open T

/-- A label's text. -/
def catsText (xs : List Nat) : List UInt8 := Lib.join (xs.map fun n : Nat => P.decimal (n : Int)) [44]
def print (l : Int) (c : Nat) : List UInt8 := if catsTo c 64 = [] then P.decimal l else P.decimal l ++ [58] ++ catsText (catsTo c 64)

theorem own_form {w : World} {base : Nat} {e : TypeId} {size n : Nat} {v : Value} {xs : List Value} (h : w.ownsRow base e size v n xs) :
    ∃ A cap, v = .slice A n cap ∧ n ≤ cap ∧ (0 < n → ∃ g, A = some ⟨g, 0, none⟩ ∧ base ≤ g ∧ g < w.heap.size ∧ ∀ j u, xs[j]? = some u → w.cell? ⟨g, j, none⟩ = some u) := by
  rcases h.2 with ⟨rfl, rfl⟩ | ⟨g, cap, cur, rfl, hg, hh, hnc, _, _, hx⟩
  · exact ⟨none, 0, rfl, Nat.le_refl _, fun h => absurd h (by omega)⟩
  · refine ⟨_, cap, rfl, hnc, fun _ => ⟨g, rfl, hg, blk_lt hh, fun j u hu => ?_⟩⟩
    rw [← hx] at hu
    have hu' : cur.toList[j]? = some u := by
      rw [List.getElem?_take] at hu
      split at hu
      · exact hu
      · cases hu
    rw [blk_cell hh j]
    simpa using hu'

theorem join_len (xs : List Nat) : (catsText xs).length ≤ 11 * xs.length := by
  unfold catsText Lib.join
  induction xs with
  | nil => simp
  | cons x r ih =>
    have := P.decimal_length (x : Int)
    cases r with
    | nil => simp; omega
    | cons y r =>
      rw [List.map_cons, List.map_cons, List.intercalate_cons_cons] 
      simp at ih ⊢
      omega

/-- The texts of categories, as strings. -/
def decStrs (xs : List Nat) : List ByteArray := xs.map fun n : Nat => (⟨(P.decimal (n : Int)).toArray⟩ : ByteArray)
def decCells (xs : List Nat) : List Value := xs.map fun n : Nat => .string ⟨(P.decimal (n : Int)).toArray⟩
theorem decStrs_data (xs : List Nat) : (decStrs xs).map (·.data.toList) = xs.map fun n : Nat => P.decimal (n : Int) := by
  unfold decStrs
  rw [List.map_map]
  exact List.map_congr_left fun _ _ => rfl
theorem dec_take {xs : List Nat} {k : Nat} (hk : k < xs.length) : decCells (xs.take (k + 1)) = decCells (xs.take k) ++ [.string ⟨(P.decimal ((xs[k] : Nat) : Int)).toArray⟩] := by
  unfold decCells
  rw [List.take_succ_eq_append_getElem hk, List.map_append]
  rfl
theorem cat (l r : List UInt8) : (⟨l.toArray⟩ : ByteArray) ++ ⟨r.toArray⟩ = ⟨(l ++ r).toArray⟩ := by
  apply ByteArray.ext
  simp

set_option maxHeartbeats 1000000 in
set_option maxRecDepth 100000 in
theorem print_any (l : Int) (c : Nat) (w : World) (h0 : -9223372036854775808 ≤ l) (h1 : l ≤ 9223372036854775807) (hc : c < 18446744073709551616) (ht : Tab w) :
    Calls Tryd.prog 50 #[lab l c] w fun e w' => e = .returned (.string ⟨(print l c).toArray⟩) ∧ Below w.heap.size w w' := by
  obtain ⟨i0, hi0, hz0, hz1, hz2⟩ := info_parts infoStr
  have HC := Lib.hid (fun w => cats_any l c w hc)
  have HD := Lib.hid (fun (n : Int) (a : -9223372036854775808 ≤ n) (b : n ≤ 9223372036854775807) (w : World) (ht : Tab w) => decimal_any n w a b ht)
  have HT := Lib.hid ht
  have hlen := catsTo_len c 64
  have HX : Hid (∀ j (h : j < (catsTo c 64).length), (catsTo c 64)[j] < 64) := Lib.hid fun j h => by
    have := List.getElem_mem h
    unfold catsTo at this
    rw [List.mem_filter, List.mem_range] at this
    exact this.1
  have HP := Lib.hid (show print l c = if catsTo c 64 = [] then P.decimal l else P.decimal l ++ [58] ++ catsText (catsTo c 64) from rfl)
  generalize print l c = res at *
  generalize catsTo c 64 = xs at *
  clear hc ht
  go_enter Tryd.func50, Tryd.ntmps50
  go_wp2_with fail
  with_reducible refine (HC.out _).mono ?_
  rintro e w1 ⟨v, rfl, hown, hb1⟩
  obtain ⟨A, cap, hv, hcap, hA⟩ := own_form hown
  subst hv
  have hbel : Below w.heap.size w w1 := ((Below.refl _ _).alloc (Nat.le_refl _) _).trans (hb1.mono (by simp))
  have HK0 := Lib.hid ((hb1.block w.heap.size (by simp)).trans (heap_alloc_new w _))
  have hw1 : w.heap.size < w1.heap.size := blk_lt HK0.out
  have HA := Lib.hid hA
  have HT1 := Lib.hid (HT.out.later hbel)
  clear hA hown hb1 HC HT
  go_wp2_with fail
  go_loopg [3, 10] xs.length (fun n v i wr => ∃ k : Nat, k ≤ xs.length ∧ i = .int .i64 k ∧ xs.length - k ≤ n ∧ wr.ownsRow w1.heap.size 9 1 v k (decCells (xs.take k)) ∧ Below w1.heap.size w1 wr)
  case atStart => exact ⟨0, Nat.zero_le _, rfl, by omega, ⟨by simp [decCells], .inl ⟨rfl, rfl⟩⟩, Below.refl _ _⟩
  case round =>
    obtain ⟨k, hk, rfl, hn, hown, hbw⟩ := hrel
    by_cases hlt : k < xs.length
    · obtain ⟨g, hAe, hg0, hg1, hcells⟩ := HA.out (by omega)
      subst hAe
      have hcell : wr.cell? ⟨g, k, none⟩ = some (.int .i64 ((xs[k] : Nat) : Int)) := (hbw.cell (p := ⟨g, k, none⟩) hg1).trans (hcells k _ (by simp [intCells, List.getElem?_eq_getElem hlt]))
      have hx := HX.out k hlt
      have HTk := Lib.hid (dec_take hlt)
      have HTr := Lib.hid (HT1.out.later hbw)
      clear hcells
      generalize xs[k] = x at *
      go_wp2_with fail
      with_reducible refine (HD.out (x : Int) (by omega) (by omega) _ HTr.out).mono ?_
      rintro e w2 ⟨rfl, hb2⟩
      have hbw2 : Below w1.heap.size w1 w2 := hbw.trans (hb2.mono hbw.size)
      have hown2 : w2.ownsRow w1.heap.size 9 1 u3 k (decCells (xs.take k)) := hown.kept (row := none) ⟨hb2.os, hb2.tape, hb2.output, hb2.size, fun i hi _ => hb2.block i hi⟩ (by
        rcases hh : u3.ownBlock with _ | b
        · exact .inl rfl
        · exact .inr (by simp))
      generalize P.decimal (x : Int) = ds at *
      clear hcell hown hb2
      go_wp2_with (at_builtin; refine wpList_append_own _ rfl (.tmp 14) (.tmp 17) 71 rfl w1.heap.size 9 i0 _ 1 16 Tryd.underlying71 hi0 hz0 hz1 hz2 rfl (by decide) _ k (decCells (xs.take k)) rfl ?ho ⟨w2.heap.size, 0, none⟩ 1 1 [.string ⟨ds.toArray⟩] rfl rfl ?c1 ?c2 ?c3 ?c4 ?c5 ?_)
      case ho => exact hown2.alloc _
      case c1 => exact cell_one_new _ _ _
      case c2 => intro u hu; simp at hu; rcases hu with rfl; rfl
      case c3 => simp only [maxLen]; omega
      case c4 => omega
      case c5 => have := hbw2.size; simp; omega
      intro v' w3 hown3 hg3 _
      have hbw3 : Below w1.heap.size w1 w3 := (hbw2.alloc hbw2.size _).grown hg3 (by have := hbw2.size; simp; omega) (own_base hown2)
      rw [← HTk.out] at hown3
      clear hown2
      go_wp2_with fail
      go_roundg (xs.length - (k + 1))
      case measure => omega
      case rel => exact ⟨k + 1, by omega, by go_num, Nat.le_refl _, hown3, hbw3⟩
    · obtain rfl : k = xs.length := by omega
      rw [List.take_length] at hown
      obtain ⟨A', cap', hv', hcap', hA'⟩ := own_form hown
      subst hv'
      have c0 : wr.cell? ⟨w.heap.size, 0, none⟩ = some (.int .i64 l) := blk_cell ((hbw.block _ hw1).trans HK0.out) 0
      have HTr := Lib.hid (HT1.out.later hbw)
      have hbr : Below w.heap.size w wr := hbel.trans (hbw.mono (by omega))
      clear hown
      go_wp2_with fail
      with_reducible refine (HD.out l h0 h1 _ HTr.out).mono ?_
      rintro e w2 ⟨rfl, hb2⟩
      have hb02 : Below w.heap.size w w2 := hbr.trans (hb2.mono hbr.size)
      by_cases hx0 : xs.length = 0
      · have hb0 : ((xs.length : Int) == 0) = true := beq_iff_eq.2 (by omega)
        have HQ := Lib.hid (show res = P.decimal l by rw [HP.out, if_pos (List.eq_nil_of_length_eq_zero hx0)])
        clear hx0 c0
        go_wp2_with fail
        go_ret
        exact ⟨ret_of (by rw [HQ.out]; rfl), hb02⟩
      · have hb0 : ((xs.length : Int) == 0) = false := beq_eq_false_iff_ne.2 (by omega)
        have HQ := Lib.hid (show res = P.decimal l ++ [58] ++ catsText xs by rw [HP.out, if_neg (fun e => hx0 (by rw [e]; rfl))])
        obtain ⟨g, hAe, hg0, hg1, hcells⟩ := hA' (by omega)
        subst hAe
        have hdl := P.decimal_length l
        have hjl := join_len xs
        have hlx : xs.length = (decStrs xs).length := by simp [decStrs]
        have hjoin := Tryd.strings_Join g 0 cap' (decStrs xs) ⟨#[44]⟩ w2 (fun j x hj => by
            rw [Nat.zero_add, hb2.cell (p := ⟨g, j, none⟩) hg1]
            refine hcells j _ ?_
            have : (decCells xs)[j]? = ((decStrs xs)[j]?).map Value.string := by
              simp only [decCells, decStrs, List.getElem?_map, Option.map_map]; rfl
            rw [this, hj]; rfl) (by have := hb2.size; omega) (by omega) (by omega) (by
            rw [decStrs_data]
            show (catsText xs).length ≤ _
            omega)
        rw [decStrs_data, ← hlx] at hjoin
        have HJ : Hid (Calls Tryd.prog 48 #[.slice (some ⟨g, 0, none⟩) xs.length cap', .string ⟨#[44]⟩] w2 fun e w' => e = .returned (.string ⟨(catsText xs).toArray⟩) ∧ Below w2.heap.size w2 w') := Lib.hid hjoin
        clear hjoin hcells c0 hlx hA' hx0
        generalize catsText xs = js at *
        generalize P.decimal l = ds at *
        have ha1 : (⟨ds.toArray⟩ : ByteArray).size + (⟨#[58]⟩ : ByteArray).size ≤ 9223372036854775807 := by
          show ds.toArray.size + 1 ≤ _; simp; omega
        have ha2 : ((⟨ds.toArray⟩ : ByteArray) ++ ⟨#[58]⟩).size + (⟨js.toArray⟩ : ByteArray).size ≤ 9223372036854775807 := by
          rw [ByteArray.size_append]; show ds.toArray.size + 1 + js.toArray.size ≤ _; simp; omega
        go_wp2_with fail
        with_reducible refine (HJ.out).mono ?_
        rintro e w3 ⟨rfl, hb3⟩
        have hb03 : Below w.heap.size w w3 := hb02.trans (hb3.mono hb02.size)
        go_wp2_with fail
        go_ret
        exact ⟨ret_of (by rw [HQ.out, ← cat, ← cat]; rfl), hb03⟩
end Go.Proofs.YthkdpokdmkkdjaaDoor.L
