/-
  Three labels in boxes, and two boxes made behind them: facts for the walk of LabelLattice.
-/
import Derived.Test.YtbilhdfoajahkaaDoorBackHeld
import Derived.Test.YtbilhdfoajahkaaDoorRefJ
import Derived.Test.YtbilhdfoajahkaaDoorLabelQ
namespace Go.Proofs.YtbilhdfoajahkaaDoor.L
open Go.RowKit
open T

section
variable {w W : World} {l m n : Int} {c d e : Nat}
theorem h3_drew (h : Held3 w l c m d n e W) : Held3 w l c m d n e W.drew := ⟨h.1, h.2.1, h.2.2.1, h.2.2.2.1, h.2.2.2.2.1, h.2.2.2.2.2.1, h.2.2.2.2.2.2.1, h.2.2.2.2.2.2.2.drew⟩
theorem h3_alloc (h : Held3 w l c m d n e W) (o : Obj) : Held3 w l c m d n e (W.alloc o) := held3_below h ((Below.refl _ _).alloc (Nat.le_refl _) o)
theorem h3_set (h : Held3 w l c m d n e W) {g i : Nat} (hg : w.heap.size + 3 ≤ g) (u : Value) : Held3 w l c m d n e (W.setCell ⟨g, i, none⟩ u) := by
  obtain ⟨h1, h2, h3, h4, h5, h6, h7, h8⟩ := h
  have hf := fun (b o : Nat) (hb : b < w.heap.size + 3) => World.cell?_setCell_other W ⟨g, i, none⟩ ⟨b, o, none⟩ u (fun e => by injection e with e1; omega)
  exact ⟨(hf _ _ (by omega)).trans h1, (hf _ _ (by omega)).trans h2, (hf _ _ (by omega)).trans h3, (hf _ _ (by omega)).trans h4, (hf _ _ (by omega)).trans h5, (hf _ _ (by omega)).trans h6, by simpa [World.setCell] using h7, h8.setCell (p := ⟨g, i, none⟩) (by show w.heap.size ≤ g; omega) u⟩
theorem h3_start (w : World) (l m n : Int) (c d e : Nat) : Held3 w l c m d n e (((w.alloc (.cells #[.int .i64 l, .int .u64 (c : Int)] 40)).alloc (.cells #[.int .i64 m, .int .u64 (d : Int)] 40)).alloc (.cells #[.int .i64 n, .int .u64 (e : Int)] 40)) := by
  have h := held3_start w l m n c d e
  exact ⟨h.1, h.2.1, h.2.2.1, h.2.2.2.1, h.2.2.2.2.1, h.2.2.2.2.2.1, h.2.2.2.2.2.2.1, three w _ _ _⟩
theorem h3_size (h : Held3 w l c m d n e W) : w.heap.size + 3 ≤ W.heap.size := h.2.2.2.2.2.2.1
theorem h5_mk {g k' : Nat} {j k : Int} {x y : Nat} (h : Held3 w l c m d n e W) (hg : W.heap[g]? = some (.cells #[.int .i64 j, .int .u64 (x : Int)] 40 (0, 0))) (hh : W.heap[k']? = some (.cells #[.int .i64 k, .int .u64 (y : Int)] 40 (0, 0))) : Held5 w l c m d n e g j x k' k y W :=
  ⟨h.1, h.2.1, h.2.2.1, h.2.2.2.1, h.2.2.2.2.1, h.2.2.2.2.2.1, (res_cells hg).1, (res_cells hg).2, (res_cells hh).1, (res_cells hh).2, h.2.2.2.2.2.2.1, blk_lt hg, blk_lt hh, h.2.2.2.2.2.2.2⟩
theorem h5_drew {g k' : Nat} {j k : Int} {x y : Nat} (H : Held5 w l c m d n e g j x k' k y W) : Held5 w l c m d n e g j x k' k y W.drew := by
  obtain ⟨h1, h2, h3, h4, h5, h6, h7, h8, h9, h10, hz, hg, hh, hB⟩ := H
  exact ⟨h1, h2, h3, h4, h5, h6, h7, h8, h9, h10, hz, hg, hh, hB.drew⟩
theorem h5_end {g k' : Nat} {j k : Int} {x y : Nat} (H : Held5 w l c m d n e g j x k' k y W) : Below w.heap.size w W := H.2.2.2.2.2.2.2.2.2.2.2.2.2
end
def BwZ (l : Int) (c : Nat) : Prop := ∀ w : World, Calls Tryd.prog 34 #[.agg #[.int .i64 0, .int .u64 0], lab l c] w fun e w' => e = .returned (.bool true) ∧ Below w.heap.size w w'
theorem BwZ.call {l : Int} {c : Nat} (h : BwZ l c) (w : World) : Calls Tryd.prog 34 #[.agg #[.int .i64 0, .int .u64 0], lab l c] w fun e w' => e = .returned (.bool true) ∧ Below w.heap.size w w' := h w
def BwT (l : Int) (c : Nat) : Prop := ∀ w : World, Calls Tryd.prog 34 #[lab l c, .agg #[.int .i64 15, .int .u64 18446744073709551615]] w fun e w' => e = .returned (.bool true) ∧ Below w.heap.size w w'
theorem BwT.call {l : Int} {c : Nat} (h : BwT l c) (w : World) : Calls Tryd.prog 34 #[lab l c, .agg #[.int .i64 15, .int .u64 18446744073709551615]] w fun e w' => e = .returned (.bool true) ∧ Below w.heap.size w w' := h w
end Go.Proofs.YtbilhdfoajahkaaDoor.L
