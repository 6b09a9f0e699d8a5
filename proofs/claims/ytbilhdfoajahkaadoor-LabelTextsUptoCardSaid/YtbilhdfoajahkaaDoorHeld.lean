/-
  Three labels in boxes of a call's own, kept over calls that leave what was there as it was.
-/
import Derived.Test.YtbilhdfoajahkaaDoorLiveB
import Derived.Deep.RegionHeld3
namespace Go.Proofs.YtbilhdfoajahkaaDoor.L
open Go.RowKit
open T

/-- Three labels in boxes of the call's own; what was there is as it was. -/
abbrev Held3 (w : World) (l : Int) (c : Nat) (m : Int) (d : Nat) (n : Int) (e : Nat) (w' : World) : Prop :=
  w'.cell? ⟨w.heap.size, 0, none⟩ = some (.int .i64 l) ∧ w'.cell? ⟨w.heap.size, 1, none⟩ = some (.int .u64 (c : Int)) ∧ w'.cell? ⟨w.heap.size + 1, 0, none⟩ = some (.int .i64 m) ∧ w'.cell? ⟨w.heap.size + 1, 1, none⟩ = some (.int .u64 (d : Int)) ∧ w'.cell? ⟨w.heap.size + 1 + 1, 0, none⟩ = some (.int .i64 n) ∧ w'.cell? ⟨w.heap.size + 1 + 1, 1, none⟩ = some (.int .u64 (e : Int)) ∧ w.heap.size + 3 ≤ w'.heap.size ∧ Below w.heap.size w w'
theorem three_blocks (w : World) (a b c : Obj) : (((w.alloc a).alloc b).alloc c).heap[w.heap.size]? = some a ∧ (((w.alloc a).alloc b).alloc c).heap[w.heap.size + 1]? = some b ∧ (((w.alloc a).alloc b).alloc c).heap[w.heap.size + 1 + 1]? = some c := by
  have h := two_blocks w a b
  refine ⟨?_, ?_, ?_⟩
  · rw [Below.heap_alloc _ _ _ (by rw [World.size_alloc, World.size_alloc]; omega)]; exact h.1
  · rw [Below.heap_alloc _ _ _ (by rw [World.size_alloc, World.size_alloc]; omega)]; exact h.2
  · have := heap_alloc_new ((w.alloc a).alloc b) c
    rwa [World.size_alloc, World.size_alloc] at this
section
variable {w : World} {l m n : Int} {c d e : Nat} {W W' : World}
theorem held3_below (h : Held3 w l c m d n e W) (hb : Below W.heap.size W W') : Held3 w l c m d n e W' := by
  obtain ⟨h1, h2, h3, h4, h5, h6, h7, h8⟩ := h
  have hs := hb.size
  exact ⟨(bcell hb _ _ (by omega)).trans h1, (bcell hb _ _ (by omega)).trans h2, (bcell hb _ _ (by omega)).trans h3, (bcell hb _ _ (by omega)).trans h4, (bcell hb _ _ (by omega)).trans h5, (bcell hb _ _ (by omega)).trans h6, by omega, h8.trans (hb.mono h8.size)⟩
theorem held3_start (w : World) (l m n : Int) (c d e : Nat) : Held3 w l c m d n e ((((w.alloc (.cells #[.int .i64 l, .int .u64 (c : Int)] 40)).alloc (.cells #[.int .i64 m, .int .u64 (d : Int)] 40)).alloc (.cells #[.int .i64 n, .int .u64 (e : Int)] 40)).drew) := by
  obtain ⟨b0, b1, b2⟩ := three_blocks w (.cells #[.int .i64 l, .int .u64 (c : Int)] 40) (.cells #[.int .i64 m, .int .u64 (d : Int)] 40) (.cells #[.int .i64 n, .int .u64 (e : Int)] 40)
  have hs : w.heap.size + 3 ≤ (((w.alloc (.cells #[.int .i64 l, .int .u64 (c : Int)] 40)).alloc (.cells #[.int .i64 m, .int .u64 (d : Int)] 40)).alloc (.cells #[.int .i64 n, .int .u64 (e : Int)] 40)).heap.size := by
    rw [World.size_alloc, World.size_alloc, World.size_alloc]; omega
  exact ⟨blk_cell b0 0, blk_cell b0 1, blk_cell b1 0, blk_cell b1 1, blk_cell b2 0, blk_cell b2 1, hs, (three w _ _ _).drew⟩
theorem held3_end (w : World) (l m n : Int) (c d e : Nat) (W : World) (h : Held3 w l c m d n e W) : Below w.heap.size w W := h.2.2.2.2.2.2.2
theorem held3_tab (ht : Tab w) (h : Held3 w l c m d n e W) : Tab W := ht.later h.2.2.2.2.2.2.2
end
def Mt (l m : Int) (c d : Nat) (k : Int) (x : Nat) : Prop := ∀ w : World, Calls Tryd.prog 38 #[lab l c, lab m d] w fun e w' => e = .returned (lab k x) ∧ Below w.heap.size w w'
theorem Mt.call {l m : Int} {c d : Nat} {k : Int} {x : Nat} (h : Mt l m c d k x) (w : World) : Calls Tryd.prog 38 #[lab l c, lab m d] w fun e w' => e = .returned (lab k x) ∧ Below w.heap.size w w' := h w


/-- Two more labels, at places of their own. -/
abbrev Held5 (w : World) (l : Int) (c : Nat) (m : Int) (d : Nat) (n : Int) (e : Nat) (g : Nat) (j : Int) (x : Nat) (h : Nat) (k : Int) (y : Nat) (w' : World) : Prop :=
  w'.cell? ⟨w.heap.size, 0, none⟩ = some (.int .i64 l) ∧ w'.cell? ⟨w.heap.size, 1, none⟩ = some (.int .u64 (c : Int)) ∧ w'.cell? ⟨w.heap.size + 1, 0, none⟩ = some (.int .i64 m) ∧ w'.cell? ⟨w.heap.size + 1, 1, none⟩ = some (.int .u64 (d : Int)) ∧ w'.cell? ⟨w.heap.size + 1 + 1, 0, none⟩ = some (.int .i64 n) ∧ w'.cell? ⟨w.heap.size + 1 + 1, 1, none⟩ = some (.int .u64 (e : Int)) ∧ w'.cell? ⟨g, 0, none⟩ = some (.int .i64 j) ∧ w'.cell? ⟨g, 1, none⟩ = some (.int .u64 (x : Int)) ∧ w'.cell? ⟨h, 0, none⟩ = some (.int .i64 k) ∧ w'.cell? ⟨h, 1, none⟩ = some (.int .u64 (y : Int)) ∧ w.heap.size + 3 ≤ w'.heap.size ∧ g < w'.heap.size ∧ h < w'.heap.size ∧ Below w.heap.size w w'
theorem held5_below {w W W' : World} {l m n j k : Int} {c d e x y g h : Nat} (H : Held5 w l c m d n e g j x h k y W) (hb : Below W.heap.size W W') : Held5 w l c m d n e g j x h k y W' := by
  obtain ⟨h1, h2, h3, h4, h5, h6, h7, h8, h9, h10, hz, hg, hh, hB⟩ := H
  have hs := hb.size
  exact ⟨(bcell hb _ _ (by omega)).trans h1, (bcell hb _ _ (by omega)).trans h2, (bcell hb _ _ (by omega)).trans h3, (bcell hb _ _ (by omega)).trans h4, (bcell hb _ _ (by omega)).trans h5, (bcell hb _ _ (by omega)).trans h6,
    (bcell hb _ _ hg).trans h7, (bcell hb _ _ hg).trans h8, (bcell hb _ _ hh).trans h9, (bcell hb _ _ hh).trans h10, by omega, by omega, by omega, hB.trans (hb.mono hB.size)⟩
theorem held5_tab {w W : World} {l m n j k : Int} {c d e x y g h : Nat} (ht : Tab w) (H : Held5 w l c m d n e g j x h k y W) : Tab W := ht.later H.2.2.2.2.2.2.2.2.2.2.2.2.2
theorem held5_end (w : World) (l m n j k : Int) (c d e x y g h : Nat) (W : World) (H : Held5 w l c m d n e g j x h k y W) : Below w.heap.size w W := H.2.2.2.2.2.2.2.2.2.2.2.2.2
def Bw (l m : Int) (c d : Nat) (b : Bool) : Prop := ∀ w : World, Calls Tryd.prog 34 #[lab l c, lab m d] w fun e w' => e = .returned (.bool b) ∧ Below w.heap.size w w'
theorem Bw.call {l m : Int} {c d : Nat} {b : Bool} (h : Bw l m c d b) (w : World) : Calls Tryd.prog 34 #[lab l c, lab m d] w fun e w' => e = .returned (.bool b) ∧ Below w.heap.size w w' := h w
theorem bw_is (l m : Int) (c d : Nat) (hc : c < 18446744073709551616) (hd : d < 18446744073709551616) : Bw l m c d (belowB l c m d) := fun w => below_any l m c d w hc hd
end Go.Proofs.YtbilhdfoajahkaaDoor.L
