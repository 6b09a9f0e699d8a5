/-
  The law MatchComposes.
-/
import Derived.Test.YthcmljknpealhaaGcg
namespace Go.Proofs.Ythcmljknpealhaa.Mt
set_option linter.unusedVariables false
set_option linter.unusedSimpArgs false
open Go.RowKit
open T
open N (PrIn PrIn.below)
open V (drawn_below IntsIn)
open I (alloc1 own_at own_below)

set_option maxRecDepth 100000 in
set_option maxHeartbeats 4000000 in
theorem mcomposes_walk {A B C D : Option Addr} {c0 c1 c2 c3 n0 n1 n2 n3 : Nat} {p q pq ds : List Pr} {x y : List Int} (w : World)
    (HF0 : Hid (∀ W, Calls Try.prog 6 #[.slice A n0 c0] W fun e w' => e = .returned (.slice A p.length c0) ∧ w' = W)) (HF1 : Hid (∀ W, Calls Try.prog 6 #[.slice B n1 c1] W fun e w' => e = .returned (.slice B q.length c1) ∧ w' = W))
    (hx : min (n2 : Int) 40 = (x.length : Int)) (hy : min (n3 : Int) 40 = (y.length : Int)) (hc2 : n2 ≤ c2) (hc3 : n3 ≤ c3) (hm2 : n2 ≤ maxLen) (hm3 : n3 ≤ maxLen)
    (hP : PrIn w A p) (hQ : PrIn w B q) (hX : IntsIn w C x) (hY : IntsIn w D y)
    (HC : Hid (CmC 9 p q pq)) (HRC : Hid (CmC 10 p q pq)) (HS1 : Hid (SmC 8 pq))
    (HI : Hid (IdC 11 x y ds)) (HRI : Hid (IdC 12 x y ds)) (HS2 : Hid (SmC 8 ds)) :
    Calls Try.prog 3 #[.slice A n0 c0, .slice B n1 c1, .slice C n2 c2, .slice D n3 c3] w fun e w' => e = .returned (.bool true) ∧ Below w.heap.size w w' := by
  unfold maxLen at hm2 hm3
  have HP := Lib.hid hP
  have HQ := Lib.hid hQ
  have HX := Lib.hid hX
  have HY := Lib.hid hY
  clear hP hQ hX hY
  go_enter Try.func3, Try.ntmps3
  go_wp2_with fail
  go_quiet ((go_at_call 6; first | with_reducible exact Calls.quiet_of_same (HF0.out _) | with_reducible exact Calls.quiet_of_same (HF1.out _)))
  obtain ⟨w1, hw1⟩ : ∃ W, W = w.drewN nq := ⟨_, rfl⟩
  have HB1 := Lib.hid (show Below w.heap.size w w1 by rw [hw1]; exact drawn_below w nq)
  replace HP := Lib.hid (HP.out.below HB1.out)
  replace HQ := Lib.hid (HQ.out.below HB1.out)
  replace HX := Lib.hid (HX.out.below HB1.out)
  replace HY := Lib.hid (HY.out.below HB1.out)
  rw [← hw1]
  clear hw1 hx hy hc2 hc3 hm2 hm3 HF0 HF1
  go_wp2_with fail
  with_reducible refine (live12.at w1).mono ?_
  rintro e w2 ⟨rfl, hb2⟩
  have HB2 := Lib.hid (HB1.out.trans (hb2.mono HB1.out.size))
  replace HP := Lib.hid (HP.out.below hb2)
  replace HQ := Lib.hid (HQ.out.below hb2)
  replace HX := Lib.hid (HX.out.below hb2)
  replace HY := Lib.hid (HY.out.below hb2)
  clear hb2 HB1
  go_wp2_with fail
  with_reducible refine (HC.out.at c0 c1 HP.out HQ.out).mono ?_
  rintro e w3 ⟨R1, k1, rfl, h1, hb3⟩
  have HB3 := Lib.hid (HB2.out.trans (hb3.mono HB2.out.size))
  replace HP := Lib.hid (HP.out.below hb3)
  replace HQ := Lib.hid (HQ.out.below hb3)
  replace HX := Lib.hid (HX.out.below hb3)
  replace HY := Lib.hid (HY.out.below hb3)
  have H1 := Lib.hid h1
  clear hb3 HB2 h1
  go_wp2_with fail
  with_reducible refine (HRC.out.at c0 c1 HP.out HQ.out).mono ?_
  rintro e w4 ⟨R2, k2, rfl, h2, hb4⟩
  have HB4 := Lib.hid (HB3.out.trans (hb4.mono HB3.out.size))
  replace HX := Lib.hid (HX.out.below hb4)
  replace HY := Lib.hid (HY.out.below hb4)
  replace H1 := Lib.hid (H1.out.below hb4)
  have H2 := Lib.hid h2
  clear hb4 HB3 h2 HP HQ
  go_wp2_with fail
  with_reducible refine (HS1.out.at k1 k2 H1.out H2.out).mono ?_
  rintro e w5 ⟨rfl, hb5⟩
  have HB5 := Lib.hid (HB4.out.trans (hb5.mono HB4.out.size))
  replace HX := Lib.hid (HX.out.below hb5)
  replace HY := Lib.hid (HY.out.below hb5)
  clear hb5 HB4 H1 H2
  go_wp2_with fail
  with_reducible refine (HI.out.at c2 c3 HX.out HY.out).mono ?_
  rintro e w6 ⟨R3, k3, rfl, h3, hb6⟩
  have HB6 := Lib.hid (HB5.out.trans (hb6.mono HB5.out.size))
  replace HX := Lib.hid (HX.out.below hb6)
  replace HY := Lib.hid (HY.out.below hb6)
  have H3 := Lib.hid h3
  clear hb6 HB5 h3
  go_wp2_with fail
  with_reducible refine (HRI.out.at c2 c3 HX.out HY.out).mono ?_
  rintro e w7 ⟨R4, k4, rfl, h4, hb7⟩
  have HB7 := Lib.hid (HB6.out.trans (hb7.mono HB6.out.size))
  replace H3 := Lib.hid (H3.out.below hb7)
  have H4 := Lib.hid h4
  clear hb7 HB6 h4
  go_wp2_with fail
  with_reducible refine (HS2.out.at k3 k4 H3.out H4.out).mono ?_
  rintro e w8 ⟨rfl, hb8⟩
  have HB8 := Lib.hid (HB7.out.trans (hb8.mono HB7.out.size))
  clear hb8 HB7
  go_wp2_with fail
  go_ret
  exact ⟨rfl, HB8.out⟩
def PrFit (ps : List Pr) : Prop := ∀ z ∈ ps, (-9223372036854775808 ≤ z.1 ∧ z.1 ≤ 9223372036854775807) ∧ -9223372036854775808 ≤ z.2 ∧ z.2 ≤ 9223372036854775807
theorem PrFit.wf {ps : List Pr} (h : PrFit ps) (k : Nat) : WfP (ps.take k) := fun z hz => by
  have := h z (List.mem_of_mem_take hz)
  exact ⟨N.wf_of this.1.1 this.1.2, N.wf_of this.2.1 this.2.2⟩
theorem WfI.take {a : List Int} (h : WfI a) (k : Nat) : WfI (a.take k) := fun z hz => h z (List.mem_of_mem_take hz)
theorem mcomposes_law {A B C D : Option Addr} {c0 c1 c2 c3 : Nat} {p q : List Pr} {x y : List Int} {w : World} (hP : PrIn w A p) (hQ : PrIn w B q) (hX : IntsIn w C x) (hY : IntsIn w D y)
    (m0 : p.length ≤ maxLen) (m1 : q.length ≤ maxLen) (m2 : x.length ≤ maxLen) (m3 : y.length ≤ maxLen) (d0 : p.length ≤ c0) (d1 : q.length ≤ c1) (d2 : x.length ≤ c2) (d3 : y.length ≤ c3)
    (f0 : PrFit p) (f1 : PrFit q) (f2 : WfI x) (f3 : WfI y) :
    Calls Try.prog 3 #[.slice A p.length c0, .slice B q.length c1, .slice C x.length c2, .slice D y.length c3] w fun e w' => e = .returned (.bool true) ∧ Below w.heap.size w w' := by
  have l0 : (p.take 40).length ≤ 40 := by rw [List.length_take]; omega
  have l1 : (q.take 40).length ≤ 40 := by rw [List.length_take]; omega
  have l2 : (x.take 40).length ≤ 40 := by rw [List.length_take]; omega
  have l3 : (y.take 40).length ≤ 40 := by rw [List.length_take]; omega
  have l4 := comp_len (p.take 40) (q.take 40)
  have l5 := ids_len (x.take 40) (y.take 40)
  exact mcomposes_walk (p := p.take 40) (q := q.take 40) (x := x.take 40) (y := y.take 40) w (Lib.hid fun W => (few_any A p c0 W m0 d0).mono fun _ _ h => ⟨h.1, h.2.symm⟩) (Lib.hid fun W => (few_any B q c1 W m1 d1).mono fun _ _ h => ⟨h.1, h.2.symm⟩) (by rw [List.length_take]; omega) (by rw [List.length_take]; omega) d2 d3 m2 m3
    (pr_take hP 40) (pr_take hQ 40) (ints_take hX 40) (ints_take hY 40) (Lib.hid (c_comp (by omega) (by omega) (f1.wf 40) (f0.wf 40))) (Lib.hid (c_rcomp (by omega) (by omega))) (Lib.hid (c_same (by omega)))
    (Lib.hid (c_ids (by omega) (by omega) (f2.take 40) (f3.take 40))) (Lib.hid (c_rids (by omega) (by omega))) (Lib.hid (c_same (by omega)))
end Go.Proofs.Ythcmljknpealhaa.Mt
