/-
  The law LabelAlgebra, walked: it returns true for every three labels, where the library's table of powers of ten holds what its text lays.
-/
import Derived.Test.YtbilhdfoajahkaaDoorHeld
namespace Go.Proofs.YtbilhdfoajahkaaDoor.L
open Go.RowKit
open T

set_option maxHeartbeats 4000000 in
set_option maxRecDepth 100000 in
theorem alg_walk (l m n : Int) (c d e : Nat) (j1 m1 j3 j4 m3 m4 : Int) (x1 y1 x3 x4 y3 y4 : Nat) (w : World) (HT : Hid (Tab w))
    (J1 : Jn l m c d j1 x1) (J2 : Jn m l d c j1 x1) (M1 : Mt l m c d m1 y1) (M2 : Mt m l d c m1 y1)
    (J3 : Jn m n d e j3 x3) (J4 : Jn l j3 c x3 j4 x4) (J5 : Jn j1 n x1 e j4 x4)
    (M3 : Mt m n d e m3 y3) (M4 : Mt l m3 c y3 m4 y4) (M5 : Mt m1 n y1 e m4 y4)
    (J6 : Jn l m1 c y1 l c) (M6 : Mt l j1 c x1 l c) :
    Calls Tryd.prog 11 #[lab l c, lab m d, lab n e] w fun e w' => e = .returned (.bool true) ∧ Below w.heap.size w w' := by
  go_enter Tryd.func11, Tryd.ntmps11
  go_wp2_with fail
  go_region_held3 (fun w' => w'.cell? ⟨w.heap.size, 0, none⟩ = some (.int .i64 l) ∧ w'.cell? ⟨w.heap.size, 1, none⟩ = some (.int .u64 (c : Int)) ∧ w'.cell? ⟨w.heap.size + 1, 0, none⟩ = some (.int .i64 m) ∧ w'.cell? ⟨w.heap.size + 1, 1, none⟩ = some (.int .u64 (d : Int)) ∧ w'.cell? ⟨w.heap.size + 1 + 1, 0, none⟩ = some (.int .i64 n) ∧ w'.cell? ⟨w.heap.size + 1 + 1, 1, none⟩ = some (.int .u64 (e : Int)) ∧ w.heap.size + 3 ≤ w'.heap.size ∧ Below w.heap.size w w')
    (first | exact held3_below (by assumption) hbq | exact held3_start w l m n c d e)
    (first
      | (go_at_call 31; with_reducible refine (live2 _ (held3_tab HT.out (by assumption))).mono ?_; rintro r wq ⟨rfl, hbq⟩)
      | (go_at_call 36; first | with_reducible refine (J1.call _).mono ?_ | with_reducible refine (J2.call _).mono ?_ | with_reducible refine (J3.call _).mono ?_ | with_reducible refine (J4.call _).mono ?_ | with_reducible refine (J5.call _).mono ?_ | with_reducible refine (J6.call _).mono ?_
         rintro r wq ⟨rfl, hbq⟩)
      | (go_at_call 38; first | with_reducible refine (M1.call _).mono ?_ | with_reducible refine (M2.call _).mono ?_ | with_reducible refine (M3.call _).mono ?_ | with_reducible refine (M4.call _).mono ?_ | with_reducible refine (M5.call _).mono ?_ | with_reducible refine (M6.call _).mono ?_
         rintro r wq ⟨rfl, hbq⟩))
  all_goals
    go_wp2_with fail
    go_ret
    exact ⟨rfl, held3_end w l m n c d e _ (by assumption)⟩

theorem algebra_walk (l m n : Int) (c d e : Nat) (w : World) (hc : c < 18446744073709551616) (hd : d < 18446744073709551616) (he : e < 18446744073709551616) (ht : Tab w) :
    Calls Tryd.prog 11 #[lab l c, lab m d, lab n e] w fun e w' => e = .returned (.bool true) ∧ Below w.heap.size w w' := by
  have hj1 := or_small hc hd
  have hj3 := or_small hd he
  have hm1 : c &&& d < 18446744073709551616 := Nat.lt_of_le_of_lt Nat.and_le_left hc
  have hm3 : d &&& e < 18446744073709551616 := Nat.lt_of_le_of_lt Nat.and_le_left hd
  refine alg_walk l m n c d e (max l m) (min l m) (max m n) (max l (max m n)) (min m n) (min l (min m n)) (c ||| d) (c &&& d) (d ||| e) (c ||| (d ||| e)) (d &&& e) (c &&& (d &&& e)) w (Lib.hid ht) ?_ ?_ ?_ ?_ ?_ ?_ ?_ ?_ ?_ ?_ ?_ ?_
  · exact fun w => join_any l m c d w hc hd
  · have := fun w => join_any m l d c w hd hc
    rw [Int.max_comm, Nat.or_comm] at this
    exact this
  · exact fun w => meet_any l m c d w hc hd
  · have := fun w => meet_any m l d c w hd hc
    rw [Int.min_comm, Nat.and_comm] at this
    exact this
  · exact fun w => join_any m n d e w hd he
  · exact fun w => join_any l _ c _ w hc hj3
  · have := fun w => join_any (max l m) n (c ||| d) e w hj1 he
    rw [Int.max_assoc, Nat.or_assoc] at this
    exact this
  · exact fun w => meet_any m n d e w hd he
  · exact fun w => meet_any l _ c _ w hc hm3
  · have := fun w => meet_any (min l m) n (c &&& d) e w hm1 he
    rw [Int.min_assoc, Nat.and_assoc] at this
    exact this
  · have := fun w => join_any l (min l m) c (c &&& d) w hc hm1
    rw [show max l (min l m) = l by omega, show c ||| (c &&& d) = c by
      apply Nat.eq_of_testBit_eq; intro i; simp only [Nat.testBit_or, Nat.testBit_and]; cases c.testBit i <;> simp] at this
    exact this
  · have := fun w => meet_any l (max l m) c (c ||| d) w hc hj1
    rw [show min l (max l m) = l by omega, show c &&& (c ||| d) = c by
      apply Nat.eq_of_testBit_eq; intro i; simp only [Nat.testBit_or, Nat.testBit_and]; cases c.testBit i <;> simp] at this
    exact this
end Go.Proofs.YtbilhdfoajahkaaDoor.L
