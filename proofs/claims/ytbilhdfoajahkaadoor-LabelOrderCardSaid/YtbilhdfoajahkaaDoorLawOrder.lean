/-
  The law LabelOrder, walked: it returns true for every two labels, where the library's table of powers of ten holds what its text lays.
-/
import Derived.Test.YtbilhdfoajahkaaDoorHeld
import Derived.Test.YtbilhdfoajahkaaDoorRefJ
namespace Go.Proofs.YtbilhdfoajahkaaDoor.L
open Go.RowKit
open T

theorem held2_sd (w : World) (l m : Int) (c d : Nat) : Held2 w l c m d (((w.alloc (.cells #[.int .i64 l, .int .u64 (c : Int)] 40)).alloc (.cells #[.int .i64 m, .int .u64 (d : Int)] 40)).drew) := by
  obtain ⟨h1, h2, h3, h4, h5, h6⟩ := held2_start w l m c d
  exact ⟨h1, h2, h3, h4, h5, h6.drew⟩
theorem held2_tab {w W : World} {l m : Int} {c d : Nat} (ht : Tab w) (h : Held2 w l c m d W) : Tab W := ht.later h.2.2.2.2.2
theorem held2_fin (w : World) (l m : Int) (c d : Nat) (W : World) (h : Held2 w l c m d W) : Below w.heap.size w W := h.2.2.2.2.2

set_option maxHeartbeats 4000000 in
set_option maxRecDepth 100000 in
theorem ord_walk (l m j k : Int) (c d x y : Nat) (b1 b2 : Bool) (w : World) (HT : Hid (Tab w)) (HRight : Hid (∀ w : World, Calls Tryd.prog 32 #[lab l c] w fun e w' => e = .returned (.bool b1) ∧ Below w.heap.size w w')) (HRRight : Hid (∀ w : World, Calls Tryd.prog 33 #[lab l c] w fun e w' => e = .returned (.bool b1) ∧ Below w.heap.size w w')) (HBel : Hid (∀ w : World, Calls Tryd.prog 34 #[lab l c, lab m d] w fun e w' => e = .returned (.bool b2) ∧ Below w.heap.size w w')) (HRBel : Hid (∀ w : World, Calls Tryd.prog 35 #[lab l c, lab m d] w fun e w' => e = .returned (.bool b2) ∧ Below w.heap.size w w')) (HJoi : Hid (∀ w : World, Calls Tryd.prog 36 #[lab l c, lab m d] w fun e w' => e = .returned (lab j x) ∧ Below w.heap.size w w')) (HRJoi : Hid (∀ w : World, Calls Tryd.prog 37 #[lab l c, lab m d] w fun e w' => e = .returned (lab j x) ∧ Below w.heap.size w w')) (HMee : Hid (∀ w : World, Calls Tryd.prog 38 #[lab l c, lab m d] w fun e w' => e = .returned (lab k y) ∧ Below w.heap.size w w')) (HRMee : Hid (∀ w : World, Calls Tryd.prog 39 #[lab l c, lab m d] w fun e w' => e = .returned (lab k y) ∧ Below w.heap.size w w')) :
    Calls Tryd.prog 9 #[lab l c, lab m d] w fun e w' => e = .returned (.bool true) ∧ Below w.heap.size w w' := by
  go_enter Tryd.func9, Tryd.ntmps9
  go_wp2_with fail
  go_region_held3 (fun w' => w'.cell? ⟨w.heap.size, 0, none⟩ = some (.int .i64 l) ∧ w'.cell? ⟨w.heap.size, 1, none⟩ = some (.int .u64 (c : Int)) ∧ w'.cell? ⟨w.heap.size + 1, 0, none⟩ = some (.int .i64 m) ∧ w'.cell? ⟨w.heap.size + 1, 1, none⟩ = some (.int .u64 (d : Int)) ∧ w.heap.size + 2 ≤ w'.heap.size ∧ Below w.heap.size w w')
      (first | with_reducible exact held2_sd w l m c d | with_reducible exact held2_below (by assumption) hbq)
      (first
        | (go_at_call 31; with_reducible refine (live2 _ (held2_tab HT.out (by assumption))).mono ?_; rintro r wq ⟨rfl, hbq⟩)
        | (go_at_call 32; with_reducible refine (HRight.out _).mono ?_; rintro r wq ⟨rfl, hbq⟩)
        | (go_at_call 33; with_reducible refine (HRRight.out _).mono ?_; rintro r wq ⟨rfl, hbq⟩)
        | (go_at_call 34; with_reducible refine (HBel.out _).mono ?_; rintro r wq ⟨rfl, hbq⟩)
        | (go_at_call 35; with_reducible refine (HRBel.out _).mono ?_; rintro r wq ⟨rfl, hbq⟩)
        | (go_at_call 36; with_reducible refine (HJoi.out _).mono ?_; rintro r wq ⟨rfl, hbq⟩)
        | (go_at_call 37; with_reducible refine (HRJoi.out _).mono ?_; rintro r wq ⟨rfl, hbq⟩)
        | (go_at_call 38; with_reducible refine (HMee.out _).mono ?_; rintro r wq ⟨rfl, hbq⟩)
        | (go_at_call 39; with_reducible refine (HRMee.out _).mono ?_; rintro r wq ⟨rfl, hbq⟩))
  all_goals
    go_wp2_with fail
    go_ret
    exact ⟨rfl, held2_fin w l m c d _ (by assumption)⟩

theorem order_walk (l m : Int) (c d : Nat) (w : World) (hc : c < 18446744073709551616) (hd : d < 18446744073709551616) (ht : Tab w) :
    Calls Tryd.prog 9 #[lab l c, lab m d] w fun e w' => e = .returned (.bool true) ∧ Below w.heap.size w w' :=
  ord_walk l m _ _ c d _ _ _ _ w (Lib.hid ht) (Lib.hid fun w => right_any l c w) (Lib.hid fun w => refRight_any l c w) (Lib.hid fun w => below_any l m c d w hc hd) (Lib.hid fun w => refBelow_any l m c d w hc)
    (Lib.hid fun w => join_any l m c d w hc hd) (Lib.hid fun w => refJoin_any l m c d w hc hd) (Lib.hid fun w => meet_any l m c d w hc hd) (Lib.hid fun w => refMeet_any l m c d w hc hd)
end Go.Proofs.YtbilhdfoajahkaaDoor.L
