/-
  The law LabelCut, walked: it returns true for every three labels, where the library's table of powers of ten holds what its text lays.
-/
import Derived.Test.YtbilhdfoajahkabDoorCutA
import Derived.Test.YtbilhdfoajahkabDoorCutB
import Derived.Test.YtbilhdfoajahkabDoorCutC
namespace Go.Proofs.YtbilhdfoajahkabDoor.L
open Go.RowKit
open T

theorem sub_iff (c d : Nat) : c ||| d = d ↔ ∀ i, c.testBit i = true → d.testBit i = true := by
  constructor
  · intro h i hi
    rw [← h, Nat.testBit_or, hi]; rfl
  · intro h
    apply Nat.eq_of_testBit_eq
    intro i
    rw [Nat.testBit_or]
    cases hb : c.testBit i with
    | false => simp
    | true => rw [h i hb]; rfl
theorem below_iff (l m : Int) (c d : Nat) : belowB l c m d = true ↔ l ≤ m ∧ ∀ i, c.testBit i = true → d.testBit i = true := by
  unfold belowB
  rw [Bool.and_eq_true, decide_eq_true_iff, beq_iff_eq, sub_iff]
theorem below_meet (n l m : Int) (e c d : Nat) (h : belowB n e l c = true) : belowB n e m d = belowB n e (min l m) (c &&& d) := by
  rw [below_iff] at h
  rw [Bool.eq_iff_iff, below_iff, below_iff]
  constructor
  · rintro ⟨h1, h2⟩
    exact ⟨by omega, fun i hi => by rw [Nat.testBit_and, h.2 i hi, h2 i hi]; rfl⟩
  · rintro ⟨h1, h2⟩
    refine ⟨by omega, fun i hi => ?_⟩
    have := h2 i hi
    rw [Nat.testBit_and, Bool.and_eq_true] at this
    exact this.2
theorem below_join (l m n : Int) (c d e : Nat) : belowB (max l m) (c ||| d) n e = (belowB l c n e && belowB m d n e) := by
  rw [Bool.eq_iff_iff, Bool.and_eq_true, below_iff, below_iff, below_iff]
  constructor
  · rintro ⟨h1, h2⟩
    exact ⟨⟨by omega, fun i hi => h2 i (by rw [Nat.testBit_or, hi]; rfl)⟩, by omega, fun i hi => h2 i (by rw [Nat.testBit_or, hi, Bool.or_true])⟩
  · rintro ⟨⟨h1, h2⟩, h3, h4⟩
    refine ⟨by omega, fun i hi => ?_⟩
    rw [Nat.testBit_or, Bool.or_eq_true] at hi
    rcases hi with hi | hi
    · exact h2 i hi
    · exact h4 i hi
theorem and_of_or (c d : Nat) : c ||| d = d ↔ c &&& d = c := by
  rw [sub_iff]
  constructor
  · intro h
    apply Nat.eq_of_testBit_eq
    intro i
    rw [Nat.testBit_and]
    cases hb : c.testBit i with
    | false => rfl
    | true => rw [h i hb]; rfl
  · intro h i hi
    rw [← h, Nat.testBit_and, Bool.and_eq_true] at hi
    exact hi.2

theorem cut_walk (l m n : Int) (c d e : Nat) (w : World) (hc : c < 18446744073709551616) (hd : d < 18446744073709551616) (he : e < 18446744073709551616) (ht : Tab w) :
    Calls Tryd.prog 3 #[lab l c, lab m d, lab n e] w fun e w' => e = .returned (.bool true) ∧ Below w.heap.size w w' := by
  have hx := or_small hc hd
  have hy : c &&& d < 18446744073709551616 := Nat.lt_of_le_of_lt Nat.and_le_left hc
  have HT := Lib.hid ht
  have CA := bw_is n l e c he hc
  have CB := bw_is n m e d he hd
  have CM := bw_is n (min l m) e (c &&& d) he hy
  have AB := bw_is l m c d hc hd
  have AC := bw_is l n c e hc he
  have BC := bw_is m n d e hd he
  have JC := bw_is (max l m) n (c ||| d) e hx he
  have HJ : Jn l m c d (max l m) (c ||| d) := fun w => join_any l m c d w hc hd
  have HM : Mt l m c d (min l m) (c &&& d) := fun w => meet_any l m c d w hc hd
  have hcm := below_meet n l m e c d
  rw [below_join] at JC
  cases hab : belowB l c m d with
  | true =>
    rw [hab] at AB
    obtain ⟨h1, h2⟩ := (below_iff _ _ _ _).1 hab
    have h3 := (sub_iff c d).2 h2
    have h4 := (and_of_or c d).1 h3
    have ej : max l m = m := by omega
    have ek : min l m = l := by omega
    cases hac : belowB l c n e with
    | false =>
      rw [hac] at AC JC
      exact cut_fx_T l m n _ _ c d e _ _ _ _ _ w HT hcm CA CB CM AB AC JC HJ HM ej.symm h3.symm ek.symm h4.symm
    | true =>
      cases hbc : belowB m d n e with
      | false =>
        rw [hac] at AC; rw [hbc] at BC; rw [hac, hbc] at JC
        exact cut_tf_T l m n _ _ c d e _ _ _ _ _ w HT hcm CA CB CM AB AC BC JC HJ HM ej.symm h3.symm ek.symm h4.symm
      | true =>
        rw [hac] at AC; rw [hbc] at BC; rw [hac, hbc] at JC
        exact cut_tt_T l m n _ _ c d e _ _ _ _ _ w HT hcm CA CB CM AB AC BC JC HJ HM ej.symm h3.symm ek.symm h4.symm
  | false =>
    rw [hab] at AB
    by_cases hlm : l ≤ m
    · have h3 : ¬ c ||| d = d := fun h => by
        have := (below_iff l m c d).2 ⟨hlm, (sub_iff c d).1 h⟩
        rw [hab] at this; cases this
      have h4 : ¬ c &&& d = c := fun h => h3 ((and_of_or c d).2 h)
      have ej : max l m = m := by omega
      have ek : min l m = l := by omega
      have e1 : (((c ||| d : Nat) : Int) == (d : Int)) = false := beq_eq_false_iff_ne.2 (by omega)
      have e2 : (((c &&& d : Nat) : Int) == (c : Int)) = false := beq_eq_false_iff_ne.2 (by omega)
      cases hac : belowB l c n e with
      | false =>
        rw [hac] at AC JC
        exact cut_fx_C l m n _ _ c d e _ _ _ _ _ w HT hcm CA CB CM AB AC JC HJ HM ej.symm e1 ek.symm e2
      | true =>
        cases hbc : belowB m d n e with
        | false =>
          rw [hac] at AC; rw [hbc] at BC; rw [hac, hbc] at JC
          exact cut_tf_C l m n _ _ c d e _ _ _ _ _ w HT hcm CA CB CM AB AC BC JC HJ HM ej.symm e1 ek.symm e2
        | true =>
          rw [hac] at AC; rw [hbc] at BC; rw [hac, hbc] at JC
          exact cut_tt_C l m n _ _ c d e _ _ _ _ _ w HT hcm CA CB CM AB AC BC JC HJ HM ej.symm e1 ek.symm e2
    · have e1 : (max l m == m) = false := beq_eq_false_iff_ne.2 (by omega)
      have e2 : (min l m == l) = false := beq_eq_false_iff_ne.2 (by omega)
      cases hac : belowB l c n e with
      | false =>
        rw [hac] at AC JC
        exact cut_fx_L l m n _ _ c d e _ _ _ _ _ w HT hcm CA CB CM AB AC JC HJ HM e1 e2
      | true =>
        cases hbc : belowB m d n e with
        | false =>
          rw [hac] at AC; rw [hbc] at BC; rw [hac, hbc] at JC
          exact cut_tf_L l m n _ _ c d e _ _ _ _ _ w HT hcm CA CB CM AB AC BC JC HJ HM e1 e2
        | true =>
          rw [hac] at AC; rw [hbc] at BC; rw [hac, hbc] at JC
          exact cut_tt_L l m n _ _ c d e _ _ _ _ _ w HT hcm CA CB CM AB AC BC JC HJ HM e1 e2
end Go.Proofs.YtbilhdfoajahkabDoor.L
