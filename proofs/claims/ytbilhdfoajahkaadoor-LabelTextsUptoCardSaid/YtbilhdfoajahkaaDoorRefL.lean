/-
  The contracts of the reference's Has, Right and Below for labels.
-/
import Derived.Test.YtbilhdfoajahkaaDoorLabelE
namespace Go.Proofs.YtbilhdfoajahkaaDoor.L
open Go.RowKit
open T

theorem refRight_any (l : Int) (c : Nat) (w : World) :
    Calls Tryd.prog 33 #[lab l c] w fun e w' => e = .returned (.bool (rightB l)) ∧ Below w.heap.size w w' := by
  by_cases h0 : 0 ≤ l
  · have HR := Lib.hid (show rightB l = decide (l < 16) by unfold rightB; rw [decide_eq_true h0]; simp; omega)
    go_enter Tryd.func33, Tryd.ntmps33
    go_wp2_with fail
    go_ret
    exact ⟨ret_of (by rw [HR.out]; rfl), (Below.refl _ _).alloc (Nat.le_refl _) _⟩
  · have HR := Lib.hid (show rightB l = false by unfold rightB; rw [decide_eq_false h0]; rfl)
    go_enter Tryd.func33, Tryd.ntmps33
    go_wp2_with fail
    go_ret
    exact ⟨ret_of (by rw [HR.out]; rfl), (Below.refl _ _).alloc (Nat.le_refl _) _⟩

theorem has_bit (c k : Nat) : (((c : Int) / 2 ^ k).tmod 2 == 1) = c.testBit k := by
  have e : (c : Int) / 2 ^ k = ((c / 2 ^ k : Nat) : Int) := by simp
  rw [e, Nat.testBit_eq_decide_div_mod_eq]
  generalize c / 2 ^ k = y
  rw [Int.tmod_eq_emod_of_nonneg (by omega), Bool.eq_iff_iff]
  simp
  omega
theorem has_any (l : Int) (c k : Nat) (w : World) (hk : k < 64) :
    Calls Tryd.prog 52 #[lab l c, .int .i64 k] w fun e w' => e = .returned (.bool (c.testBit k)) ∧ Below w.heap.size w w' := by
  have HB := Lib.hid (has_bit c k)
  go_enter Tryd.func52, Tryd.ntmps52
  go_wp2_with fail
  go_ret
  exact ⟨ret_of (by rw [← HB.out]; rfl), (Below.refl _ _).alloc (Nat.le_refl _) _⟩
def Hs (l : Int) (c k : Nat) (b : Bool) : Prop := ∀ w : World, Calls Tryd.prog 52 #[lab l c, .int .i64 k] w fun e w' => e = .returned (.bool b) ∧ Below w.heap.size w w'
theorem Hs.call {l : Int} {c k : Nat} {b : Bool} (h : Hs l c k b) (w : World) : Calls Tryd.prog 52 #[lab l c, .int .i64 k] w fun e w' => e = .returned (.bool b) ∧ Below w.heap.size w w' := h w
theorem hs_is {l : Int} {c k : Nat} {b : Bool} (hk : k < 64) (h : c.testBit k = b) : Hs l c k b := fun w => by
  have := has_any l c k w hk
  rwa [h] at this

/-- Two labels in boxes of the call's own. -/
abbrev Held2 (w : World) (l : Int) (c : Nat) (m : Int) (d : Nat) (w' : World) : Prop :=
  w'.cell? ⟨w.heap.size, 0, none⟩ = some (.int .i64 l) ∧ w'.cell? ⟨w.heap.size, 1, none⟩ = some (.int .u64 (c : Int)) ∧ w'.cell? ⟨w.heap.size + 1, 0, none⟩ = some (.int .i64 m) ∧ w'.cell? ⟨w.heap.size + 1, 1, none⟩ = some (.int .u64 (d : Int)) ∧ w.heap.size + 2 ≤ w'.heap.size ∧ Below w.heap.size w w'
theorem held2_below {w W W' : World} {l m : Int} {c d : Nat} (h : Held2 w l c m d W) (hb : Below W.heap.size W W') : Held2 w l c m d W' := by
  obtain ⟨h1, h2, h3, h4, h7, h8⟩ := h
  have hs := hb.size
  exact ⟨(bcell hb _ _ (by omega)).trans h1, (bcell hb _ _ (by omega)).trans h2, (bcell hb _ _ (by omega)).trans h3, (bcell hb _ _ (by omega)).trans h4, by omega, h8.trans (hb.mono h8.size)⟩
theorem held2_start (w : World) (l m : Int) (c d : Nat) : Held2 w l c m d ((w.alloc (.cells #[.int .i64 l, .int .u64 (c : Int)] 40)).alloc (.cells #[.int .i64 m, .int .u64 (d : Int)] 40)) := by
  obtain ⟨b0, b1⟩ := two_blocks w (.cells #[.int .i64 l, .int .u64 (c : Int)] 40) (.cells #[.int .i64 m, .int .u64 (d : Int)] 40)
  exact ⟨blk_cell b0 0, blk_cell b0 1, blk_cell b1 0, blk_cell b1 1, by rw [World.size_alloc, World.size_alloc]; omega, ((Below.refl _ _).alloc (Nat.le_refl _) _).alloc (by simp) _⟩
theorem held2_end {w W : World} {l m : Int} {c d : Nat} (h : Held2 w l c m d W) : Below w.heap.size w W := h.2.2.2.2.2

theorem sub_of_bits {c d : Nat} (hc : c < 18446744073709551616) (h : ∀ i, i < 64 → c.testBit i = true → d.testBit i = true) : c ||| d = d := by
  apply Nat.eq_of_testBit_eq
  intro i
  rw [Nat.testBit_or]
  by_cases hi : i < 64
  · cases hb : c.testBit i with
    | false => simp
    | true => rw [h i hi hb]; rfl
  · rw [Nat.testBit_lt_two_pow (Nat.lt_of_lt_of_le hc (Nat.pow_le_pow_right (n := 2) (by omega) (show 64 ≤ i by omega)))]; simp
theorem bit_of_sub {c d : Nat} (h : c ||| d = d) {i : Nat} (hi : c.testBit i = true) : d.testBit i = true := by
  rw [← h, Nat.testBit_or, hi]; rfl

set_option maxHeartbeats 1000000 in
theorem refBelow_any (l m : Int) (c d : Nat) (w : World) (hc : c < 18446744073709551616) :
    Calls Tryd.prog 35 #[lab l c, lab m d] w fun e w' => e = .returned (.bool (belowB l c m d)) ∧ Below w.heap.size w w' := by
  by_cases h1 : l ≤ m
  · go_enter Tryd.func35, Tryd.ntmps35
    go_wp2_with fail
    go_loopg [5] 64 (fun n i wr => ∃ k : Nat, k ≤ 64 ∧ i = .int .i64 k ∧ 64 - k ≤ n ∧ Held2 w l c m d wr ∧ Hid (∀ i, i < k → c.testBit i = true → d.testBit i = true))
    case atStart => exact ⟨0, by omega, rfl, by omega, held2_start w l m c d, Lib.hid fun i hi => absurd hi (by omega)⟩
    case round =>
      obtain ⟨k, hk, rfl, hn, hH, HR⟩ := hrel
      by_cases hlt : k < 64
      · cases hcb : c.testBit k with
        | false =>
          have HC := Lib.hid (hs_is (l := l) hlt hcb)
          have HN : Hid (∀ i, i < k + 1 → c.testBit i = true → d.testBit i = true) := Lib.hid fun i hi hb => by
            by_cases e : i = k
            · subst e; rw [hcb] at hb; cases hb
            · exact HR.out i (by omega) hb
          clear hcb
          go_wp2_with fail
          with_reducible refine (HC.out.call _).mono ?_
          rintro r w1 ⟨rfl, hb1⟩
          replace hH := held2_below hH hb1
          go_wp2_with fail
          go_roundg (64 - (k + 1))
          case measure => omega
          case rel => exact ⟨k + 1, by omega, by go_num, Nat.le_refl _, hH, HN⟩
        | true =>
          have HC := Lib.hid (hs_is (l := l) hlt hcb)
          cases hdb : d.testBit k with
          | false =>
            have HD := Lib.hid (hs_is (l := m) hlt hdb)
            have HF := Lib.hid (show belowB l c m d = false by
              unfold belowB
              rw [beq_eq_false_iff_ne.2 (fun e => by have := bit_of_sub e hcb; rw [hdb] at this; cases this), Bool.and_false])
            clear hcb hdb
            go_wp2_with fail
            with_reducible refine (HC.out.call _).mono ?_
            rintro r w1 ⟨rfl, hb1⟩
            replace hH := held2_below hH hb1
            go_wp2_with fail
            with_reducible refine (HD.out.call _).mono ?_
            rintro r w2 ⟨rfl, hb2⟩
            replace hH := held2_below hH hb2
            go_wp2_with fail
            go_ret
            exact ⟨ret_of (by rw [HF.out]; rfl), held2_end hH⟩
          | true =>
            have HD := Lib.hid (hs_is (l := m) hlt hdb)
            have HN : Hid (∀ i, i < k + 1 → c.testBit i = true → d.testBit i = true) := Lib.hid fun i hi hb => by
              by_cases e : i = k
              · subst e; exact hdb
              · exact HR.out i (by omega) hb
            clear hcb hdb
            go_wp2_with fail
            with_reducible refine (HC.out.call _).mono ?_
            rintro r w1 ⟨rfl, hb1⟩
            replace hH := held2_below hH hb1
            go_wp2_with fail
            with_reducible refine (HD.out.call _).mono ?_
            rintro r w2 ⟨rfl, hb2⟩
            replace hH := held2_below hH hb2
            go_wp2_with fail
            go_roundg (64 - (k + 1))
            case measure => omega
            case rel => exact ⟨k + 1, by omega, by go_num, Nat.le_refl _, hH, HN⟩
      · obtain rfl : k = 64 := by omega
        have HF := Lib.hid (show belowB l c m d = true by
          unfold belowB
          rw [decide_eq_true h1, sub_of_bits hc HR.out, beq_self_eq_true]; rfl)
        go_wp2_with fail
        go_ret
        exact ⟨ret_of (by rw [HF.out]; rfl), held2_end hH⟩
  · have HF := Lib.hid (show belowB l c m d = false by unfold belowB; rw [decide_eq_false h1]; rfl)
    go_enter Tryd.func35, Tryd.ntmps35
    go_wp2_with fail
    go_ret
    exact ⟨ret_of (by rw [HF.out]; rfl), held2_end (held2_start w l m c d)⟩
end Go.Proofs.YtbilhdfoajahkaaDoor.L
