/-
  The contract of delta's Parse.
  DeltaTexts, walked over any delta and text that are not too large.
  Arguments that are bytes or lines, opened: their values, what their cells hold, and a bound on them by their bulk.
-/
import Derived.Test.YtlggoplffhdkhaaDoorGjq
import Derived.Test.YtlggoplffhdkhaaDoorGjs
import Derived.Test.YtlggoplffhdkhaaDoorGjj
import Derived.Test.YtlggoplffhdkhaaDoorGjc
import Derived.Test.YtlggoplffhdkhaaDoorGjl
import Derived.Test.YtlggoplffhdkhaaDoorGjd
import Derived.Deep.SlicePairs
namespace Go.Proofs.YtlggoplffhdkhaaDoor.Dl
set_option linter.unusedVariables false
set_option linter.unusedSimpArgs false
open Go.RowKit Go.Maps
open T
open V (drawn_below grown_of)
open I (It ItemsIn ItemsAt itCells itCells_snoc itCells_at alloc1 own_at own_below items_of_own items_own infoItem ItemsIn.below)

theorem lbC_small (l : List UInt8) : lbC l < 18446744073709551616 := by
  unfold lbC
  cases h : L.parse l with
  | none => simp
  | some p =>
    obtain ⟨n, c⟩ := p
    rw [← L.refP_parse] at h
    exact (L.refP_whole l [] n c h).2.1
/-- What holds of each item that is read. -/
def Rok (N : Nat) (d : List Pt) : Prop := ∀ p ∈ d, ∀ x ∈ p.its, x.tx.length ≤ N ∧ x.ct < 18446744073709551616
theorem rit_ok {N : Nat} {t : List UInt8} (h : t.length ≤ N) : (rit (cB t)).tx.length ≤ N ∧ (rit (cB t)).ct < 18446744073709551616 := by
  refine ⟨?_, lbC_small _⟩
  have h1 := cB_len t
  have h2 := cB_len (cB t)
  have h3 := cB_len (cB (cB t))
  have h4 := cB_len (cB (cB (cB t)))
  show (cB (cB (cB (cB t)))).length ≤ N
  omega
theorem rstep_ok {N : Nat} {d : List Pt} {t : List UInt8} (h : Rok N d) (ht : t.length ≤ N) : Rok N (rstep d t) := by
  have one : ∀ q : Pt, (∀ x ∈ q.its, x.tx.length ≤ N ∧ x.ct < 18446744073709551616) → Rok N (d ++ [q]) := fun q hq p hp => by
    rcases List.mem_append.1 hp with hp | hp
    · exact h p hp
    · rw [List.mem_singleton.1 hp]; exact hq
  unfold rstep
  split
  · exact one _ (fun x hx => by cases hx)
  · split
    · exact one _ (fun x hx => by cases hx)
    · split
      · rcases List.eq_nil_or_concat d with rfl | ⟨e, p, rfl⟩
        · exact one _ (fun x hx => by rw [List.mem_singleton.1 hx]; exact rit_ok ht)
        · rw [List.concat_eq_append] at *
          by_cases hp : p.n = 0
          · rw [pit_last hp]
            intro q hq
            rcases List.mem_append.1 hq with hq | hq
            · exact h q (by simp [hq])
            · rw [List.mem_singleton.1 hq]
              intro x hx
              rcases List.mem_append.1 hx with hx | hx
              · exact h p (by simp) x hx
              · rw [List.mem_singleton.1 hx]; exact rit_ok ht
          · rw [pit_new (.inr ⟨e, p, rfl, hp⟩)]
            refine one _ (fun x hx => ?_)
            have e : x = rit (cB t) := by simpa using hx
            rw [e]
            exact rit_ok ht
      · exact h
theorem rd_ok {N : Nat} {ls : List (List UInt8 × Bool)} (ht : ∀ x ∈ ls, x.1.length ≤ N) : ∀ k, k ≤ ls.length → Rok N (rd [] (ls.take k))
  | 0, _ => fun p hp => by simp [rd] at hp
  | k + 1, h => by
    rw [rd_take h]
    exact rstep_ok (rd_ok ht k (by omega)) (ht _ (List.getElem_mem _))
theorem pbk_snoc : ∀ (a : List It) (x : It), pbk (a ++ [x]) = pbk a + (x.tx.length + 1)
  | [], x => by simp [pbk]
  | y :: r, x => by have := pbk_snoc r x; rw [List.cons_append, pbk, pbk, this]; omega
theorem rstep_dbk {d : List Pt} {t : List UInt8} : dbk (rstep d t) ≤ dbk d + (t.length + 2) := by
  have hr := (rit_ok (Nat.le_refl t.length)).1
  unfold rstep
  split
  · rw [dbk_snoc]; simp only [rcp, pbk]; omega
  · split
    · rw [dbk_snoc]; simp only [pbk]; omega
    · split
      · rcases List.eq_nil_or_concat d with rfl | ⟨e, p, rfl⟩
        · simp only [pit, List.getLast?_nil, List.nil_append, dbk, pbk]; omega
        · rw [List.concat_eq_append]
          by_cases hp : p.n = 0
          · rw [pit_last hp, dbk_snoc, dbk_snoc]
            simp only [pbk_snoc]
            omega
          · rw [pit_new (.inr ⟨e, p, rfl, hp⟩), dbk_snoc]
            simp only [List.nil_append, pbk]
            omega
      · omega
theorem bulk_take_succ {ls : List (List UInt8 × Bool)} {k : Nat} (h : k < ls.length) : P.bulk (ls.take (k + 1)) = P.bulk (ls.take k) + (ls[k].1.length + 1) := by
  rw [List.take_succ_eq_append_getElem h, bulk_app]
  simp only [P.bulk]
theorem rd_dbk (ls : List (List UInt8 × Bool)) : ∀ k, k ≤ ls.length → dbk (rd [] (ls.take k)) ≤ 2 * P.bulk (ls.take k)
  | 0, _ => by simp [rd, dbk]
  | k + 1, h => by
    have ih := rd_dbk ls k (by omega)
    have h1 := rstep_dbk (d := rd [] (ls.take k)) (t := (ls[k]'h).1)
    rw [rd_take h, bulk_take_succ h]
    omega
/-- What Parse makes of a text, and its error. -/
def prs (b : List UInt8) : List Pt := if cke (rd [] (P.lines [] b)) = 0 ∧ prt (rd [] (P.lines [] b)) = b then rd [] (P.lines [] b) else []
def per (b : List UInt8) : Int := if cke (rd [] (P.lines [] b)) = 0 ∧ prt (rd [] (P.lines [] b)) = b then 0 else 3
set_option maxRecDepth 100000 in
theorem equal_any (A B : Option Addr) (a b : List UInt8) (ca cb : Nat) (w : World) (hA : BytesIn w A a) (hB : BytesIn w B b) :
    Calls Tryd.prog 41 #[.slice A a.length ca, .slice B b.length cb] w fun e w' => e = .returned (.bool (decide (a = b))) ∧ w = w' := by
  have v1 := conv_in ca hA
  have v2 := conv_in cb hB
  have h := str_is a b
  have h2 : ((⟨a.toArray⟩ : ByteArray).toList == (⟨b.toArray⟩ : ByteArray).toList) = decide (a = b) := by rw [← h, Lib.toList_data ⟨b.toArray⟩, ldata]
  generalize decide (a = b) = v at *
  generalize (⟨a.toArray⟩ : ByteArray) = s at *
  generalize (⟨b.toArray⟩ : ByteArray) = t at *
  generalize a.length = n at *
  generalize b.length = m at *
  clear hA hB h
  go_enter Tryd.func41, Tryd.ntmps41
  go_wp2_with fail
  go_ret
  exact ⟨rfl, rfl⟩
/-- What Parse reads is small where the text is. -/
structure Bnd (d : List Pt) : Prop where
  l : d.length ≤ 3000000000
  i : ∀ p ∈ d, p.its.length ≤ 3000000000 ∧ ∀ x ∈ p.its, x.tx.length ≤ maxLen ∧ x.ct < 18446744073709551616
  b : P.bulk (dlk d d.length) ≤ 5000000000000
theorem Bnd.nil : Bnd [] := ⟨Nat.zero_le _, fun p hp => (by cases hp), Nat.zero_le _⟩
theorem rd_bnd {b : List UInt8} (hb : b.length ≤ 1500000000) (ht : ∀ x ∈ P.lines [] b, x.1.length ≤ 4194304) : Bnd (rd [] (P.lines [] b)) := by
  have hlb := P.lines_bulk b []
  have hll := P.length_bulk (P.lines [] b)
  simp only [List.length_nil, Nat.zero_add] at hlb
  have hok := rd_ok ht (P.lines [] b).length (Nat.le_refl _)
  have hrl := rd_len (P.lines [] b) (P.lines [] b).length (Nat.le_refl _)
  have hdb := rd_dbk (P.lines [] b) (P.lines [] b).length (Nat.le_refl _)
  rw [List.take_length] at hok hrl hdb
  have hdk := dlk_most (rd [] (P.lines [] b)) (rd [] (P.lines [] b)).length (Nat.le_refl _)
  rw [List.take_length] at hdk
  exact ⟨by omega, fun p hp => ⟨by have := hrl.2 p hp; omega, fun x hx => ⟨by have := (hok p hp x hx).1; unfold maxLen; omega, (hok p hp x hx).2⟩⟩, by omega⟩
theorem prs_bnd {b : List UInt8} (hb : b.length ≤ 1500000000) (ht : ∀ x ∈ P.lines [] b, x.1.length ≤ 4194304) : Bnd (prs b) := by
  unfold prs
  split
  · exact rd_bnd hb ht
  · exact Bnd.nil
def PzEnd (w : World) (d : List Pt) (z : Int) (e : Ending) (w' : World) : Prop := ∃ A cap, e = .returned (.tuple #[.slice A d.length cap, .int .i64 z]) ∧ PtsIn w' A d ∧ Below w.heap.size w w'
set_option maxRecDepth 100000 in
set_option maxHeartbeats 8000000 in
theorem parse_any (A : Option Addr) (cap : Nat) (b : List UInt8) (w : World) (hA : BytesIn w A b) (hc : b.length ≤ cap) (hb : b.length ≤ 1500000000) (ht : ∀ x ∈ P.lines [] b, x.1.length ≤ 4194304) (hT : Tab w) :
    Calls Tryd.prog 21 #[.slice A b.length cap] w (PzEnd w (prs b) (per b)) := by
  have HA := Lib.hid hA
  have HT := Lib.hid hT
  have HLN := Lib.hid (lines_inB A cap b w hA hc (by omega))
  have hlb := P.lines_bulk b []
  have hll := P.length_bulk (P.lines [] b)
  simp only [List.length_nil, Nat.zero_add] at hlb
  have HRD := Lib.hid (fun (W : World) (D : Option Addr) (dc : Nat) (h : LinesIn W D (P.lines [] b)) (hT : Tab W) => read_any D dc (P.lines [] b) W h (by omega) ht hT)
  have hbd := rd_bnd hb ht
  have HP1 : Hid (prs b = if cke (rd [] (P.lines [] b)) = 0 ∧ prt (rd [] (P.lines [] b)) = b then rd [] (P.lines [] b) else []) := Lib.hid rfl
  have HP2 : Hid (per b = if cke (rd [] (P.lines [] b)) = 0 ∧ prt (rd [] (P.lines [] b)) = b then 0 else 3) := Lib.hid rfl
  generalize prs b = res at *
  generalize per b = er at *
  obtain ⟨d, hd⟩ : ∃ d, d = rd [] (P.lines [] b) := ⟨_, rfl⟩
  rw [← hd] at HRD hbd HP1 HP2
  have HPR := Lib.hid (fun (W : World) (D : Option Addr) (dc : Nat) (h : PtsIn W D d) (hT : Tab W) => print_any D dc d W h (Nat.le_trans hbd.l (by decide)) (fun p hp => ⟨Nat.le_trans (hbd.i p hp).1 (by decide), (hbd.i p hp).2⟩) hbd.b hT)
  have HEQ := Lib.hid (fun (W : World) (B : Option Addr) (cb : Nat) (h : BytesIn W B (prt d)) (h2 : BytesIn W A b) => equal_any B A (prt d) b cb cap W h h2)
  generalize P.lines [] b = ls at *
  generalize cke d = z at *
  generalize prt d = t at *
  generalize hbl : b.length = bl at *
  clear hA hT hlb hll ht hbd hd hbl hb hc
  go_enter Tryd.func21, Tryd.ntmps21
  go_wp2_with fail
  with_reducible refine HLN.out.mono ?_
  rintro e w1 ⟨L1, lc, rfl, hL, hb1⟩
  have HL := Lib.hid hL
  have HB1 := Lib.hid hb1
  clear hL hb1 HLN
  go_wp2_with fail
  with_reducible refine (HRD.out _ _ _ HL.out (HT.out.later HB1.out)).mono ?_
  rintro e w2 ⟨D, dc, qs, rfl, hP, hq, hb2⟩
  have hPI := hP.pw.read
  rw [hq] at hPI
  have hql : qs.length = d.length := by rw [← hq, List.length_map]
  have HB2 := Lib.hid (HB1.out.trans (hb2.mono HB1.out.size))
  have HPI := Lib.hid hPI
  rw [hql]
  clear hP hq hb2 hPI hql HRD HL HB1
  go_wp2_with fail
  with_reducible refine (HPR.out _ _ _ HPI.out (HT.out.later HB2.out)).mono ?_
  rintro e w3 ⟨B, bc, rfl, hown, hb3⟩
  obtain ⟨B', bc', hv, -, hBI⟩ := bytes_of_own hown
  injection hv with hv1 _ hv2
  subst hv1 hv2
  have HB3 := Lib.hid (HB2.out.trans (hb3.mono HB2.out.size))
  have HBI := Lib.hid hBI
  have HA3 := Lib.hid (HA.out.below HB3.out)
  have HPI3 := Lib.hid (HPI.out.below hb3)
  clear hown hb3 hBI HB2 HPI HPR HA
  by_cases hz : z = 0
  · subst hz
    by_cases ht : t = b
    · obtain rfl : res = d := HP1.out.trans (if_pos ⟨rfl, ht⟩)
      obtain rfl : er = 0 := HP2.out.trans (if_pos ⟨rfl, ht⟩)
      have HE := Lib.hid (HEQ.out _ _ bc HBI.out HA3.out)
      rw [decide_eq_true ht] at HE
      clear HP1 HP2 HEQ ht
      go_wp2_with fail
      with_reducible refine HE.out.mono ?_
      rintro e w4 ⟨rfl, rfl⟩
      clear HE
      go_wp2_with fail
      go_ret2
      exact ⟨D, dc, rfl, HPI3.out, HB3.out⟩
    · obtain rfl : res = [] := HP1.out.trans (if_neg (fun h => ht h.2))
      obtain rfl : er = 3 := HP2.out.trans (if_neg (fun h => ht h.2))
      have HE := Lib.hid (HEQ.out _ _ bc HBI.out HA3.out)
      rw [decide_eq_false ht] at HE
      clear HP1 HP2 HEQ ht
      go_wp2_with fail
      with_reducible refine HE.out.mono ?_
      rintro e w4 ⟨rfl, rfl⟩
      clear HE
      go_wp2_with fail
      go_ret2
      exact ⟨none, 0, rfl, fun h => absurd h (by simp), HB3.out⟩
  · have hzb : (z != 0) = true := by simp [hz]
    obtain rfl : res = [] := HP1.out.trans (if_neg (fun h => hz h.1))
    obtain rfl : er = 3 := HP2.out.trans (if_neg (fun h => hz h.1))
    clear HP1 HP2 HEQ
    go_wp2_with fail
    go_ret2
    exact ⟨none, 0, rfl, fun h => absurd h (by simp), HB3.out⟩
end Go.Proofs.YtlggoplffhdkhaaDoor.Dl

namespace Go.Proofs.YtlggoplffhdkhaaDoor.Dl
set_option linter.unusedVariables false
set_option linter.unusedSimpArgs false
open Go.RowKit Go.Maps
open T
open V (drawn_below grown_of)
open I (It ItemsIn ItemsAt itCells itCells_snoc itCells_at alloc1 own_at own_below items_of_own items_own infoItem ItemsIn.below)

theorem prs_prt {d : List Pt} (h : cke d = 0) (hs : Small d) : prs (prt d) = d ∧ per (prt d) = 0 := by
  have e := rd_prt h hs
  unfold prs per
  rw [e, if_pos ⟨h, rfl⟩, if_pos ⟨h, rfl⟩]
  exact ⟨rfl, rfl⟩
theorem prt_prs {b : List UInt8} (h : per b = 0) : cke (prs b) = 0 ∧ prt (prs b) = b := by
  unfold per at h
  unfold prs
  split at h
  · rename_i h1; rw [if_pos h1]; exact h1
  · cases h
theorem ll_short : ∀ (d : List Pt) (pv : Bool), (∀ p ∈ d, ckt p.at_ p.n p.its = 0) → ∀ y ∈ ll pv d, y.1.length ≤ 2000
  | [], pv, _, y, hy => by cases hy
  | p :: r, pv, h, y, hy => by
    rw [ll, List.mem_append, List.mem_append] at hy
    rcases hy with (hy | hy) | hy
    · split at hy
      · rw [List.mem_singleton.1 hy]; decide
      · cases hy
    · obtain ⟨ha, hn, hi, hz, hp⟩ := ckt_zero (h p (by simp))
      unfold plns at hy
      split at hy
      · rw [List.mem_singleton.1 hy]
        have := cpln_len p.at_ p.n
        simp only
        omega
      · unfold itls at hy
        obtain ⟨x, hx, rfl⟩ := List.mem_map.1 hy
        exact itln_len x (cki_zero (hi x hx)).2.2.2.2
    · exact ll_short r _ (fun q hq => h q (by simp [hq])) y hy
theorem prt_lines (d : List Pt) : ∀ y ∈ P.lines [] (prt d), y.1.length ≤ 4194304 := fun y hy => by
  by_cases h : cke d = 0
  · rw [lines_prt h] at hy
    have := ll_short d false (cke_all.1 h) y hy
    omega
  · have e : prt d = [] := if_neg h
    rw [e] at hy
    simp [P.lines] at hy
theorem prt_len (d : List Pt) : (prt d).length ≤ P.bulk (dlk d d.length) := by
  unfold prt
  split
  · exact P.join_length _
  · exact Nat.zero_le _
set_option maxRecDepth 100000 in
set_option maxHeartbeats 4000000 in
theorem texts_any {D B : Option Addr} {cd cb : Nat} {d : List Pt} {b : List UInt8} (w : World) (hD : PtsIn w D d) (hB : BytesIn w B b) (hcb : b.length ≤ cb) (hd : d.length ≤ 1000000000) (hp : ∀ p ∈ d, p.its.length ≤ 1000000000 ∧ ∀ x ∈ p.its, x.tx.length ≤ maxLen ∧ x.ct < 18446744073709551616) (hbk : P.bulk (dlk d d.length) ≤ 1500000000) (hb : b.length ≤ 4194303) (hT : Tab w) :
    Calls Tryd.prog 8 #[.slice D d.length cd, .slice B b.length cb] w fun e w' => e = .returned (.bool true) ∧ Below w.heap.size w w' := by
  have hsm : Small d := fun p h x hx => ((hp p h).2 x hx).2
  have htl : ∀ x ∈ P.lines [] b, x.1.length ≤ 4194304 := fun x hx => by
    have h1 := P.lines_bulk b []
    simp only [List.length_nil, Nat.zero_add] at h1
    obtain ⟨k, hk, rfl⟩ := List.mem_iff_getElem.1 hx
    have := text_len hk
    omega
  have HPR := Lib.hid (print_any D cd d w hD (by omega) (fun p h => ⟨by have := (hp p h).1; omega, (hp p h).2⟩) (by omega) hT)
  have HPA := Lib.hid (fun (W : World) (A : Option Addr) (c : Nat) (h : BytesIn W A (prt d)) (hc : (prt d).length ≤ c) (hT : Tab W) => parse_any A c (prt d) W h hc (Nat.le_trans (prt_len d) hbk) (prt_lines d) hT)
  have HPB := Lib.hid (fun (W : World) (h : Below w.heap.size w W) => parse_any B cb b W (hB.below h) hcb (by omega) htl (hT.later h))
  have hbd := prs_bnd (b := b) (by omega) htl
  have HPX := Lib.hid (fun (W : World) (A : Option Addr) (c : Nat) (h : PtsIn W A (prs b)) (hT : Tab W) => print_any A c (prs b) W h (Nat.le_trans hbd.l (by decide)) (fun p hp => ⟨Nat.le_trans (hbd.i p hp).1 (by decide), (hbd.i p hp).2⟩) hbd.b hT)
  have HLV := Lib.hid (fun (W : World) (h : Below w.heap.size w W) => live15 W (hT.later h))
  have HSM := Lib.hid (fun (W : World) (A : Option Addr) (c : Nat) (h : PtsIn W A d) (h' : Below w.heap.size w W) => psame_any A D c cd d W h (hD.below h') (by omega) (fun p h => by have := (hp p h).1; omega))
  have HT := Lib.hid hT
  have HB := Lib.hid hB
  have HD1 := Lib.hid (fun h => prs_prt (d := d) h hsm)
  have HD2 := Lib.hid (fun h => prt_prs (b := b) h)
  have htn : prt d = prt d := rfl
  obtain ⟨t, ht⟩ : ∃ t, t = prt d := ⟨_, rfl⟩
  rw [← ht] at HPR HPA HD1
  obtain ⟨x, hx⟩ : ∃ x, x = prs b := ⟨_, rfl⟩
  rw [← hx] at HPB HPX HD2
  obtain ⟨q, hq⟩ : ∃ q, q = prt x := ⟨_, rfl⟩
  rw [← hq] at HPX HD2
  obtain ⟨c, hc⟩ : ∃ c, c = prs t := ⟨_, rfl⟩
  rw [← hc] at HPA HD1
  generalize cke d = e0 at *
  generalize per t = f0 at *
  generalize per b = g0 at *
  generalize cke x = h0 at *
  obtain ⟨ld, hld⟩ : ∃ n, n = d.length := ⟨_, rfl⟩
  rw [← hld] at HPR HSM ⊢
  obtain ⟨lb, hlb⟩ : ∃ n, n = b.length := ⟨_, rfl⟩
  rw [← hlb] at HPB ⊢
  have HLB := Lib.hid hlb
  have HLD := Lib.hid hld
  clear hD hB hp hbk hT hd hsm htl hbd hb hcb ht hx hq hc htn hld hlb
  go_enter Tryd.func8, Tryd.ntmps8
  go_wp2_with fail
  with_reducible refine HPR.out.mono ?_
  rintro e w1 ⟨P1, pc, rfl, hown, hb1⟩
  obtain ⟨P1', pc', hv, hpc, hBI⟩ := bytes_of_own hown
  injection hv with hv1 _ hv2
  subst hv1 hv2
  have HB1 := Lib.hid hb1
  have HPA1 := Lib.hid (HPA.out w1 P1 pc hBI hpc (HT.out.later hb1))
  clear hown hb1 hBI hpc HPR HPA
  go_wp2_with fail
  with_reducible refine HPA1.out.mono ?_
  rintro e w2 ⟨C1, cc, rfl, hC, hb2⟩
  have HB2 := Lib.hid (HB1.out.trans (hb2.mono HB1.out.size))
  have HC2 := Lib.hid hC
  clear hC hb2 HB1 HPA1
  go_wp2_with fail
  with_reducible refine (HPB.out _ HB2.out).mono ?_
  rintro e w3 ⟨X1, xc, rfl, hX, hb3⟩
  have HB3 := Lib.hid (HB2.out.trans (hb3.mono HB2.out.size))
  have HC3 := Lib.hid (HC2.out.below hb3)
  have HPX3 := Lib.hid (HPX.out w3 X1 xc hX (HT.out.later HB3.out))
  clear hX hb3 HB2 HC2 HPB HPX
  go_wp2_with fail
  with_reducible refine HPX3.out.mono ?_
  rintro e w4 ⟨Q1, qc, rfl, hown, hb4⟩
  obtain ⟨Q1', qc', hv, -, hQI⟩ := bytes_of_own hown
  injection hv with hv1 _ hv2
  subst hv1 hv2
  have HB4 := Lib.hid (HB3.out.trans (hb4.mono HB3.out.size))
  have HC4 := Lib.hid (HC3.out.below hb4)
  have HQ4 := Lib.hid hQI
  clear hown hb4 hQI HB3 HC3 HPX3
  go_wp2_with fail
  with_reducible refine (HLV.out _ HB4.out).mono ?_
  rintro e w5 ⟨rfl, hb5⟩
  have HB5 := Lib.hid (HB4.out.trans (hb5.mono HB4.out.size))
  have HC5 := Lib.hid (HC4.out.below hb5)
  have HQ5 := Lib.hid (HQ4.out.below hb5)
  clear hb5 HB4 HC4 HQ4 HLV HT
  by_cases he : e0 = 0
  · obtain ⟨hcd, hf0⟩ := HD1.out he
    subst he hf0
    have hcl : c.length = ld := by rw [hcd, HLD.out]
    rw [hcl]
    have HS := Lib.hid (HSM.out _ C1 cc (hcd ▸ HC5.out) HB5.out)
    clear hcd hcl HC5
    go_wp2_with fail
    with_reducible refine HS.out.mono ?_
    rintro e w6 ⟨rfl, hb6⟩
    have HB6 := Lib.hid (HB5.out.trans (hb6.mono HB5.out.size))
    have HQ6 := Lib.hid (HQ5.out.below hb6)
    clear hb6 HB5 HQ5 HS
    by_cases hg : g0 = 0
    · obtain ⟨hh, hqb⟩ := HD2.out hg
      subst hg hh
      have v1 := conv_in qc HQ6.out
      have v2 := conv_in cb (HB.out.below HB6.out)
      rw [hqb] at v1
      have hql : q.length = lb := by rw [hqb, HLB.out]
      rw [← HLB.out] at v1 v2
      rw [hql]
      generalize (⟨b.toArray⟩ : ByteArray) = s at *
      clear hqb hql HD2 HD1 HSM HQ6 HB
      go_wp2_with fail
      go_ret
      exact ⟨rfl, HB6.out⟩
    · have hgb : (g0 != 0) = true := by simp [hg]
      clear HD2 HD1 HSM HQ6 HB
      go_wp2_with fail
      go_ret
      exact ⟨rfl, HB6.out⟩
  · have heb : (e0 != 0) = true := by simp [he]
    clear he HC5
    by_cases hg : g0 = 0
    · obtain ⟨hh, hqb⟩ := HD2.out hg
      subst hg hh
      have v1 := conv_in qc HQ5.out
      have v2 := conv_in cb (HB.out.below HB5.out)
      rw [hqb] at v1
      have hql : q.length = lb := by rw [hqb, HLB.out]
      rw [← HLB.out] at v1 v2
      rw [hql]
      generalize (⟨b.toArray⟩ : ByteArray) = s at *
      clear hqb hql HD2 HD1 HSM HQ5 HB
      go_wp2_with fail
      go_ret
      exact ⟨rfl, HB5.out⟩
    · have hgb : (g0 != 0) = true := by simp [hg]
      clear HD2 HD1 HSM HQ5 HB
      go_wp2_with fail
      go_ret
      exact ⟨rfl, HB5.out⟩
end Go.Proofs.YtlggoplffhdkhaaDoor.Dl

namespace Go.Proofs.YtlggoplffhdkhaaDoor.R
open Go.ChangeShapes Go.WideShapes Go.ChangeAt Go.RowKit

theorem cellsByte : Tryd.prog.cellsOf 5 = 1 := by kernel_rfl
theorem cellsStr : Tryd.prog.cellsOf 9 = 1 := by kernel_rfl
theorem cellsBool : Tryd.prog.cellsOf 4 = 1 := by kernel_rfl
theorem cellsLine : Tryd.prog.cellsOf 39 = 2 := by kernel_rfl

theorem bulk_lits {H : Type} (k : IntKind) : ∀ zs : List Int, Rows.uptoBulkAll (lits (H := H) k zs) = zs.length
  | [] => rfl
  | z :: r => by
    have := bulk_lits (H := H) k r
    simp only [lits, List.map_cons, Rows.uptoBulkAll, Rows.uptoBulk, List.length_cons] at this ⊢
    omega
set_option maxRecDepth 100000 in
theorem bytes_arg {H : Type} {enc : TypeId × Value → H} {W : World} {r : Reach} {b0 base : Nat} {sp : Nat → Bool} {held : Bool} {v : Value} {d : DataW H} {p : List MemPlace}
    (hv : Value.okWide Tryd.prog W r b0 43 v) (h : DataW.Trod enc Tryd.prog W base sp held 43 v d p) :
    ∃ (A : Option Addr) (cap : Nat) (l : List UInt8), v = .slice A l.length cap ∧ l.length ≤ cap ∧ l.length ≤ Rows.uptoBulk d ∧ T.BytesIn W A l := by
  obtain ⟨a0, len, cap, rfl⟩ := okWide_slice Tryd.underlying43 hv
  obtain ⟨fuel, hf⟩ := h
  rcases open_ints Tryd.underlying43 Tryd.underlying5 cellsByte hf with ⟨hcs, hx⟩ | ⟨a, len', cap', zs, hcs, _, hl, hm, hz, hx, hcell, hwz⟩
  · simp only [Value.cells, List.cons.injEq, Value.slice.injEq, and_true] at hcs
    obtain ⟨rfl, rfl, rfl⟩ := hcs
    exact ⟨none, 0, [], rfl, Nat.le_refl _, Nat.zero_le _, fun h => absurd h (by simp)⟩
  · simp only [Value.cells, List.cons.injEq, Value.slice.injEq, and_true] at hcs
    obtain ⟨rfl, rfl, rfl⟩ := hcs
    have hle : len ≤ zs.length := by rw [hz]; split <;> omega
    have htl : ((zs.take len).map fun n => UInt8.ofNat n.toNat).length = len := by rw [List.length_map, List.length_take]; omega
    refine ⟨some a, cap, (zs.take len).map fun n => UInt8.ofNat n.toNat, by rw [htl], by rw [htl]; exact hl, ?_, fun hp => ?_⟩
    · rw [htl, (Prod.mk.inj hx).1, Rows.uptoBulk, bulk_lits, bulk_lits, List.length_take]; omega
    rw [htl] at hp
    obtain ⟨bk, off, rfl, hc⟩ := ints_at hcell (by omega)
    have h0 := hc 0 (by omega)
    refine ⟨bk, off, rfl, World.block_lt_of_cell? W ⟨bk, off + 0, none⟩ h0, fun j hj => ?_⟩
    rw [htl] at hj
    have hjz : j < zs.length := by omega
    have hw := bounds_u8 (hwz zs[j] (List.getElem_mem hjz))
    rw [hc j (by omega), List.getD_eq_getElem?_getD, List.getElem?_eq_getElem hjz]
    simp
    omega

def textOf : Value → List UInt8
  | .string s => s.data.toList
  | _ => []
def bareOf : Value → Bool
  | .bool b => b
  | _ => false
theorem bulk_pairs {H : Type} (D0 D1 : Nat → DataW H) (f : Nat → List UInt8 × Bool) : ∀ is : List Nat, (∀ i ∈ is, D0 i = .lit (.string (f i).1)) → P.bulk (is.map f) ≤ Rows.uptoBulkAll (is.map fun i => .agg [D0 i, D1 i])
  | [], _ => Nat.le_refl _
  | i :: r, h => by
    have ih := bulk_pairs D0 D1 f r (fun j hj => h j (by simp [hj]))
    rw [List.map_cons, List.map_cons, show f i = ((f i).1, (f i).2) from rfl, P.bulk]
    simp only [Rows.uptoBulkAll, Rows.uptoBulk, h i (by simp)]
    omega
set_option maxRecDepth 100000 in
theorem lines_arg {H : Type} {enc : TypeId × Value → H} {W : World} {r : Reach} {b0 base : Nat} {sp : Nat → Bool} {held : Bool} {v : Value} {d : DataW H} {p : List MemPlace}
    (hv : Value.okWide Tryd.prog W r b0 61 v) (h : DataW.Trod enc Tryd.prog W base sp held 61 v d p) :
    ∃ (A : Option Addr) (cap : Nat) (xs : List (List UInt8 × Bool)), v = .slice A xs.length cap ∧ P.bulk xs ≤ Rows.uptoBulk d ∧ T.LinesIn W A xs := by
  obtain ⟨a0, len, cap, rfl⟩ := okWide_slice Tryd.underlying61 hv
  obtain ⟨fuel, hf⟩ := h
  rcases Deep.open_slice_pairs Tryd.underlying61 Tryd.underlying39 cellsLine rfl rfl cellsStr cellsBool hf with ⟨hcs, hx⟩ | ⟨a, len', cap', m, n, V0, V1, D0, D1, P0, P1, hcs, _, hl, hm, hmm, hx, hcell⟩
  · simp only [Value.cells, List.cons.injEq, Value.slice.injEq, and_true] at hcs
    obtain ⟨rfl, rfl, rfl⟩ := hcs
    exact ⟨none, 0, [], rfl, Nat.zero_le _, fun h => absurd h (by simp)⟩
  · simp only [Value.cells, List.cons.injEq, Value.slice.injEq, and_true] at hcs
    obtain ⟨rfl, rfl, rfl⟩ := hcs
    have hle : len ≤ m := by rw [hmm]; split <;> omega
    have each : ∀ i, i < len → W.cell? (a.add (i * 2)) = some (.string ⟨(textOf (V0 i)).toArray⟩) ∧ W.cell? (a.add (i * 2 + 1)) = some (.bool (bareOf (V1 i))) ∧ D0 i = .lit (.string (textOf (V0 i))) := by
      intro i hi
      obtain ⟨c0, c1, t0, t1⟩ := hcell i (by omega)
      obtain ⟨s, hs, hd, _⟩ := DataW.trod_string Tryd.underlying9 t0
      obtain ⟨b, hb, _⟩ := DataW.trod_bool Tryd.underlying4 t1
      simp only [List.cons.injEq, and_true] at hs hb
      rw [hs] at c0
      rw [hb] at c1
      refine ⟨by rw [c0, hs]; simp [textOf], by rw [c1, hb]; rfl, by rw [(Prod.mk.inj hd).1, hs]; rfl⟩
    have htl : ((List.range len).map fun i => (textOf (V0 i), bareOf (V1 i))).length = len := by simp
    refine ⟨some a, cap, (List.range len).map fun i => (textOf (V0 i), bareOf (V1 i)), by rw [htl], ?_, fun hp => ?_⟩
    · have := bulk_pairs D0 D1 (fun i => (textOf (V0 i), bareOf (V1 i))) (List.range len) (fun i hi => (each i (List.mem_range.1 hi)).2.2)
      rw [(Prod.mk.inj hx).1, Rows.uptoBulk]; omega
    rw [htl] at hp
    obtain ⟨bk, off, spot⟩ := a
    have hspot : spot = none := by simpa [Addr.add] using World.cell?_spot (each 0 hp).1
    subst hspot
    have h0 := (each 0 hp).1
    refine ⟨bk, off, rfl, World.block_lt_of_cell? W _ h0, fun j hj => ?_⟩
    rw [htl] at hj
    have := each j hj
    rw [add_plain, add_plain, ← Nat.add_assoc] at this
    simp only [List.getElem_map, List.getElem_range]
    exact ⟨this.1, this.2.1⟩
end Go.Proofs.YtlggoplffhdkhaaDoor.R
