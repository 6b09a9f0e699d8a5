/-
  The contracts of label's bit, Right, Join, Meet and Below.
-/
import Derived.Test.YtbilhdfoajahkaaDoorTextB
import Derived.Laws.BitsAllLaws
import Derived.Laws.BitsLemmas
import Derived.Deep.RegionWith
namespace Go.Proofs.YtbilhdfoajahkaaDoor.L
open Go.RowKit
open T

/-- A label's value: its level and its categories. -/
abbrev lab (l : Int) (c : Nat) : Value := .agg #[.int .i64 l, .int .u64 (c : Int)]

theorem bit_any (c : Nat) (w : World) (hc : c < 64) :
    Calls Tryd.prog 54 #[.int .i64 c] w fun e w' => e = .returned (.int .u64 ((2 ^ c : Nat) : Int)) ∧ w = w' := by
  have hp : 2 ^ c < 18446744073709551616 := Nat.pow_lt_pow_right (a := 2) (n := 64) (by omega) hc
  have HW := Lib.hid (show IntKind.u64.wrap (2 ^ c) = ((2 ^ c : Nat) : Int) by
    rw [show (2 : Int) ^ c = ((2 ^ c : Nat) : Int) by simp]
    generalize 2 ^ c = x at hp
    exact IntWalk.u64_in _ (by omega))
  clear hp
  go_enter Tryd.func54, Tryd.ntmps54
  go_wp2_with fail
  go_ret
  exact ⟨ret_of (by rw [← HW.out]; rfl), rfl⟩

/-- May a label be? -/
def rightB (l : Int) : Bool := decide (0 ≤ l) && decide (l ≤ 15)
theorem right_any (l : Int) (c : Nat) (w : World) :
    Calls Tryd.prog 32 #[lab l c] w fun e w' => e = .returned (.bool (rightB l)) ∧ Below w.heap.size w w' := by
  by_cases h0 : 0 ≤ l
  · have HR := Lib.hid (show rightB l = decide (l ≤ 15) by unfold rightB; rw [decide_eq_true h0]; rfl)
    go_enter Tryd.func32, Tryd.ntmps32
    go_wp2_with fail
    go_ret
    exact ⟨ret_of (by rw [HR.out]; rfl), (Below.refl _ _).alloc (Nat.le_refl _) _⟩
  · have HR := Lib.hid (show rightB l = false by unfold rightB; rw [decide_eq_false h0]; rfl)
    go_enter Tryd.func32, Tryd.ntmps32
    go_wp2_with fail
    go_ret
    exact ⟨ret_of (by rw [HR.out]; rfl), (Below.refl _ _).alloc (Nat.le_refl _) _⟩

theorem three (w : World) (a b c : Obj) : Below w.heap.size w (((w.alloc a).alloc b).alloc c) :=
  (((Below.refl _ _).alloc (Nat.le_refl _) _).alloc (by simp) _).alloc (by simp; omega) _
theorem join_any (l m : Int) (c d : Nat) (w : World) (hc : c < 18446744073709551616) (hd : d < 18446744073709551616) :
    Calls Tryd.prog 36 #[lab l c, lab m d] w fun e w' => e = .returned (lab (max l m) (c ||| d)) ∧ Below w.heap.size w w' := by
  have HO := Lib.hid (u64_or_nat c d hc hd)
  clear hc hd
  go_enter Tryd.func36, Tryd.ntmps36
  go_wp2_with fail
  refine bodyPost_ret (v := lab (max l m) (c ||| d)) ?_ rfl ⟨rfl, three _ _ _ _⟩
  rw [HO.out]
  simp [results, Tryd.results36, go_sem]
theorem meet_any (l m : Int) (c d : Nat) (w : World) (hc : c < 18446744073709551616) (hd : d < 18446744073709551616) :
    Calls Tryd.prog 38 #[lab l c, lab m d] w fun e w' => e = .returned (lab (min l m) (c &&& d)) ∧ Below w.heap.size w w' := by
  have HO := Lib.hid (u64_and_nat c d hc hd)
  clear hc hd
  go_enter Tryd.func38, Tryd.ntmps38
  go_wp2_with fail
  refine bodyPost_ret (v := lab (min l m) (c &&& d)) ?_ rfl ⟨rfl, three _ _ _ _⟩
  rw [HO.out]
  simp [results, Tryd.results38, go_sem]

/-- Does one label lie below the other? -/
def belowB (l : Int) (c : Nat) (m : Int) (d : Nat) : Bool := decide (l ≤ m) && (c ||| d == d)
theorem bcell {W w1 : World} (hb : Below W.heap.size W w1) (b o : Nat) (h : b < W.heap.size) : w1.cell? ⟨b, o, none⟩ = W.cell? ⟨b, o, none⟩ := hb.cell (p := ⟨b, o, none⟩) h
def Jn (l m : Int) (c d : Nat) (k : Int) (x : Nat) : Prop := ∀ w : World, Calls Tryd.prog 36 #[lab l c, lab m d] w fun e w' => e = .returned (lab k x) ∧ Below w.heap.size w w'
theorem Jn.call {l m : Int} {c d : Nat} {k : Int} {x : Nat} (h : Jn l m c d k x) (w : World) : Calls Tryd.prog 36 #[lab l c, lab m d] w fun e w' => e = .returned (lab k x) ∧ Below w.heap.size w w' := h w

theorem two_drew (w w' : World) (a b : Obj) (hb : Below ((w.alloc a).alloc b).drew.heap.size ((w.alloc a).alloc b).drew w') : Below w.heap.size w w' :=
  ((((Below.refl _ _).alloc (Nat.le_refl _) _).alloc (by simp) _).drew).trans (hb.mono (by simp; omega))
set_option maxHeartbeats 1000000 in
theorem below_yes (m : Int) (l : Int) (c d : Nat) (w : World) (HJ : Hid (Jn l m c d m d)) :
    Calls Tryd.prog 34 #[lab l c, lab m d] w fun e w' => e = .returned (.bool true) ∧ Below w.heap.size w w' := by
  go_enter Tryd.func34, Tryd.ntmps34
  go_wp2_with fail
  go_region_with (go_at_call 36; with_reducible refine (HJ.out.call _).mono ?_; rintro e w' ⟨rfl, hbq⟩; have hbc := bcell hbq; have hbz := hbq.size)
  all_goals
    go_wp2_with fail
    go_ret
    exact ⟨rfl, two_drew _ _ _ _ hbq⟩
set_option maxHeartbeats 1000000 in
theorem below_level (m : Int) (l k : Int) (c d x : Nat) (w : World) (HJ : Hid (Jn l m c d k x)) (hk : (k == m) = false) :
    Calls Tryd.prog 34 #[lab l c, lab m d] w fun e w' => e = .returned (.bool false) ∧ Below w.heap.size w w' := by
  go_enter Tryd.func34, Tryd.ntmps34
  go_wp2_with fail
  go_region_with (go_at_call 36; with_reducible refine (HJ.out.call _).mono ?_; rintro e w' ⟨rfl, hbq⟩; have hbc := bcell hbq; have hbz := hbq.size)
  all_goals
    go_wp2_with fail
    go_ret
    exact ⟨rfl, two_drew _ _ _ _ hbq⟩
set_option maxHeartbeats 1000000 in
theorem below_cats (m : Int) (l : Int) (c d x : Nat) (w : World) (HJ : Hid (Jn l m c d m x)) (hk' : ((x : Int) == (d : Int)) = false) :
    Calls Tryd.prog 34 #[lab l c, lab m d] w fun e w' => e = .returned (.bool false) ∧ Below w.heap.size w w' := by
  go_enter Tryd.func34, Tryd.ntmps34
  go_wp2_with fail
  go_region_with (go_at_call 36; with_reducible refine (HJ.out.call _).mono ?_; rintro e w' ⟨rfl, hbq⟩; have hbc := bcell hbq; have hbz := hbq.size)
  all_goals
    go_wp2_with fail
    go_ret
    exact ⟨rfl, two_drew _ _ _ _ hbq⟩

theorem below_any (l m : Int) (c d : Nat) (w : World) (hc : c < 18446744073709551616) (hd : d < 18446744073709551616) :
    Calls Tryd.prog 34 #[lab l c, lab m d] w fun e w' => e = .returned (.bool (belowB l c m d)) ∧ Below w.heap.size w w' := by
  have HJ : Jn l m c d (max l m) (c ||| d) := fun w => join_any l m c d w hc hd
  unfold belowB
  by_cases h1 : l ≤ m
  · rw [Int.max_eq_right h1] at HJ
    by_cases h2 : c ||| d = d
    · rw [h2] at HJ
      rw [decide_eq_true h1, h2, beq_self_eq_true]
      exact below_yes m l c d w (Lib.hid HJ)
    · rw [decide_eq_true h1, beq_eq_false_iff_ne.2 h2]
      exact below_cats m l c d _ w (Lib.hid HJ) (beq_eq_false_iff_ne.2 (by omega))
  · rw [decide_eq_false h1]
    exact below_level m l _ c d _ w (Lib.hid HJ) (beq_eq_false_iff_ne.2 (by omega))
end Go.Proofs.YtbilhdfoajahkaaDoor.L
