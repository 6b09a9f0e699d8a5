/-
  ScoreOrders, walked.
-/
import Derived.Test.YtngboallknmepaaGxad
namespace Go.Proofs.Ytngboallknmepaa.Fp
set_option linter.unusedVariables false
set_option linter.unusedSimpArgs false
open Go.RowKit Go.Sort
open T

theorem same_cmp (a b : Nat) : (decide (cmp (ky a) (ky b) = 0)) = same a b := by
  unfold same
  exact decide_eq_decide.2 cmp_zero
set_option maxHeartbeats 4000000 in
set_option maxRecDepth 100000 in
theorem orders_law (a b c : Nat) (ha : a < 2 ^ 64) (hb : b < 2 ^ 64) (hc : c < 2 ^ 64) (w : World) :
    Calls Try.prog 4 #[fV a, fV b, fV c] w fun e w' => e = .returned (.bool true) ∧ Below w.heap.size w w' := by
  have h1 : -1 ≤ cmp (ky a) (ky b) ∧ cmp (ky a) (ky b) ≤ 1 := by unfold cmp; split <;> (try split) <;> omega
  have h1' : -1 ≤ cmp (ky b) (ky a) ∧ cmp (ky b) (ky a) ≤ 1 := by unfold cmp; split <;> (try split) <;> omega
  have h2 : ((cmp (ky a) (ky b) == 0) == same a b) = true := by
    rw [← same_cmp, beq_iff_eq, Bool.eq_iff_iff]; simp
  have h3 : 0 < cmp (ky a) (ky b) ∨ 0 < cmp (ky b) (ky c) ∨ cmp (ky a) (ky c) ≤ 0 := by
    rw [cmp_gt, cmp_gt, cmp_le]; omega
  have h4 : cmp (ky a) (ky b) = 0 → cmp (ky b) (ky c) = cmp (ky a) (ky c) := by
    rw [cmp_zero]
    intro h; rw [h]
  have h5 : (cmp (ky a) (ky b) == -cmp (ky b) (ky a)) = true := beq_iff_eq.2 (cmp_neg _ _)
  have H3 := Lib.hid h3
  have H4 := Lib.hid h4
  clear h3 h4
  have hW : (0 < cmp (ky a) (ky b) ∨ ¬ 0 < cmp (ky a) (ky b)) := by omega
  go_enter Try.func4, Try.ntmps4
  go_wp2_with (first | (go_at_call 14; refine (order_any _ _ (by assumption) (by assumption) _).mono ?_; rintro e w' ⟨rfl, rfl⟩) | (go_at_call 11; refine (live22 _).mono ?_; rintro e wl ⟨rfl, HL⟩) | (go_at_call 15; refine (rorder_any _ _ (by assumption) (by assumption) _).mono ?_; rintro e w' ⟨rfl, rfl⟩) | (go_at_call 12; refine (same_any _ _ (by assumption) (by assumption) _).mono ?_; rintro e w' ⟨rfl, rfl⟩))
  all_goals
    have a3 := H3.out
    have a4 := H4.out
    go_ret
    refine ⟨?_, HL⟩
    first | rfl | (exfalso; omega) | (simp; omega)
end Go.Proofs.Ytngboallknmepaa.Fp
