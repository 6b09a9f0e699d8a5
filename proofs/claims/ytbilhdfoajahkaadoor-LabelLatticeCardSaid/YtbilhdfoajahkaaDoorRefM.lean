/-
  The contracts of the reference's pick, Join and Meet for labels.
-/
import Derived.Test.YtbilhdfoajahkaaDoorRefL
namespace Go.Proofs.YtbilhdfoajahkaaDoor.L
open Go.RowKit
open T

def pickOf (c d : Nat) (both : Bool) : Nat := if both then c &&& d else c ||| d
theorem pick_bit (c d p : Nat) (both : Bool) : (pickOf c d both).testBit p = ((c.testBit p && d.testBit p) || (!both && (c.testBit p || d.testBit p))) := by
  unfold pickOf
  cases both
  · rw [if_neg (by simp), Nat.testBit_or]; cases c.testBit p <;> cases d.testBit p <;> rfl
  · rw [if_pos rfl, Nat.testBit_and]; cases c.testBit p <;> cases d.testBit p <;> rfl
theorem pick_small {c d : Nat} (hc : c < 18446744073709551616) (hd : d < 18446744073709551616) (both : Bool) : pickOf c d both < 18446744073709551616 := by
  unfold pickOf
  cases both
  · exact or_small hc hd
  · exact Nat.lt_of_le_of_lt Nat.and_le_left hc
theorem half (x p : Nat) : x / 2 ^ p = 2 * (x / 2 ^ (p + 1)) + (if x.testBit p then 1 else 0) := by
  rw [Nat.testBit_eq_decide_div_mod_eq, Nat.pow_succ, ← Nat.div_div_eq_div_mul]
  generalize x / 2 ^ p = y
  by_cases h : y % 2 = 1
  · rw [decide_eq_true h]; simp; omega
  · rw [decide_eq_false h]; simp; omega
theorem above {x p : Nat} (hx : x < 18446744073709551616) (hp : p < 64) : x / 2 ^ (p + 1) ≤ 9223372036854775807 := by
  have h1 : 2 ^ 1 ≤ 2 ^ (p + 1) := Nat.pow_le_pow_right (by omega) (by omega)
  have h2 : x / 2 ^ (p + 1) ≤ x / 2 ^ 1 := Nat.div_le_div_left h1 (by omega)
  omega

def PickRel (w : World) (l : Int) (c : Nat) (m : Int) (d : Nat) (x : Nat) (n : Nat) (ov iv : Value) (wr : World) : Prop :=
  (∃ p o : Nat, p < 64 ∧ iv = .int .i64 p ∧ ov = .int .u64 (o : Int) ∧ o = x / 2 ^ (p + 1) ∧ p + 1 ≤ n ∧ Held2 w l c m d wr) ∨
  (iv = .int .i64 (-1) ∧ ov = .int .u64 (x : Int) ∧ Held2 w l c m d wr)
theorem rel_next {w wr : World} {l m : Int} {c d x p : Nat} {ov iv : Int} (o : Nat) (hi : iv = (p : Int) - 1) (hov : ov = (o : Int)) (ho : x / 2 ^ p = o) (hp : p < 64) (hH : Held2 w l c m d wr) : PickRel w l c m d x p (.int .u64 ov) (.int .i64 iv) wr := by
  subst hov
  cases p with
  | zero => exact .inr ⟨by rw [hi]; rfl, by rw [← ho]; simp, hH⟩
  | succ q => exact .inl ⟨q, o, by omega, by rw [hi]; congr 1; omega, rfl, ho.symm, Nat.le_refl _, hH⟩

set_option maxHeartbeats 1000000 in
set_option maxRecDepth 100000 in
theorem pick_any (l m : Int) (c d : Nat) (both : Bool) (w : World) (hc : c < 18446744073709551616) (hd : d < 18446744073709551616) :
    Calls Tryd.prog 53 #[lab l c, lab m d, .bool both] w fun e w' => e = .returned (.int .u64 (pickOf c d both : Nat)) ∧ Below w.heap.size w w' := by
  have hx := pick_small hc hd both
  have HB := Lib.hid (pick_bit c d · both)
  generalize pickOf c d both = x at *
  go_enter Tryd.func53, Tryd.ntmps53
  go_wp2_with fail
  go_loopg [7, 8] 64 (fun n ov iv wr => PickRel w l c m d x n ov iv wr)
  case atStart => exact .inl ⟨63, 0, by omega, rfl, rfl, (Nat.div_eq_of_lt (by omega)).symm, Nat.le_refl _, held2_start w l m c d⟩
  case round =>
    rcases hrel with ⟨p, o, hp, rfl, rfl, ho, hn, hH⟩ | ⟨rfl, rfl, hH⟩
    · have hob : o ≤ 9223372036854775807 := by rw [ho]; exact above hx hp
      have HP := Lib.hid (half x p)
      rw [← ho] at HP
      have hbit := HB.out p
      clear ho
      cases hcb : c.testBit p <;> cases hdb : d.testBit p <;> cases both
      all_goals
        rw [hcb, hdb] at hbit
        simp only [Bool.and_self, Bool.and_true, Bool.and_false, Bool.or_self, Bool.or_true, Bool.or_false, Bool.not_true, Bool.not_false] at hbit
        rw [hbit] at HP
        have HC := Lib.hid (hs_is (l := l) hp hcb)
        have HD := Lib.hid (hs_is (l := m) hp hdb)
        clear hcb hdb hbit
        go_wp2_with (first
          | (go_at_call 52; with_reducible refine (HC.out.call _).mono ?_; rintro r w1 ⟨rfl, hb1⟩; replace hH := held2_below hH hb1; clear hb1)
          | (go_at_call 52; with_reducible refine (HD.out.call _).mono ?_; rintro r w1 ⟨rfl, hb1⟩; replace hH := held2_below hH hb1; clear hb1))
      all_goals
        go_roundg p
        case measure => omega
        case rel =>
          first
            | exact rel_next (2 * o) rfl (by omega) (by rw [HP.out]; simp) hp hH
            | exact rel_next (2 * o + 1) rfl (by omega) (by rw [HP.out]; simp) hp hH
    · go_wp2_with fail
      go_ret
      exact ⟨rfl, held2_end hH⟩

end Go.Proofs.YtbilhdfoajahkaaDoor.L
