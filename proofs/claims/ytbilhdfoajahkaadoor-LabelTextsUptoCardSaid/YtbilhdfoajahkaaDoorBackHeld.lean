/-
  Two labels in boxes of a call's own and two more at places of their own, kept over calls; contracts of Right and Parse in short.
-/
import Derived.Test.YtbilhdfoajahkaaDoorLabelP
import Derived.Test.YtbilhdfoajahkaaDoorHeld
import Derived.Deep.DeepCutAuto
namespace Go.Proofs.YtbilhdfoajahkaaDoor.L
open Go.RowKit
open T

def Rg (l : Int) (c : Nat) (b : Bool) : Prop := ∀ w : World, Calls Tryd.prog 32 #[lab l c] w fun e w' => e = .returned (.bool b) ∧ Below w.heap.size w w'
theorem Rg.call {l : Int} {c : Nat} {b : Bool} (h : Rg l c b) (w : World) : Calls Tryd.prog 32 #[lab l c] w fun e w' => e = .returned (.bool b) ∧ Below w.heap.size w w' := h w
def Ps (s : ByteArray) (l : Int) (c : Nat) (is : Bool) : Prop := ∀ w : World, Tab w → Calls Tryd.prog 45 #[.string s] w fun e w' => e = .returned (.tuple #[lab l c, .bool is]) ∧ Below w.heap.size w w'
theorem Ps.call {s : ByteArray} {l : Int} {c : Nat} {is : Bool} (h : Ps s l c is) (w : World) (ht : Tab w) : Calls Tryd.prog 45 #[.string s] w fun e w' => e = .returned (.tuple #[lab l c, .bool is]) ∧ Below w.heap.size w w' := h w ht

abbrev Held4 (w : World) (l : Int) (c : Nat) (m : Int) (d : Nat) (g : Nat) (x : Int) (xc : Nat) (h : Nat) (y : Int) (yc : Nat) (w' : World) : Prop :=
  w'.cell? ⟨w.heap.size, 0, none⟩ = some (.int .i64 l) ∧ w'.cell? ⟨w.heap.size, 1, none⟩ = some (.int .u64 (c : Int)) ∧ w'.cell? ⟨w.heap.size + 1, 0, none⟩ = some (.int .i64 m) ∧ w'.cell? ⟨w.heap.size + 1, 1, none⟩ = some (.int .u64 (d : Int)) ∧ w'.cell? ⟨g, 0, none⟩ = some (.int .i64 x) ∧ w'.cell? ⟨g, 1, none⟩ = some (.int .u64 (xc : Int)) ∧ w'.cell? ⟨h, 0, none⟩ = some (.int .i64 y) ∧ w'.cell? ⟨h, 1, none⟩ = some (.int .u64 (yc : Int)) ∧ w.heap.size + 2 ≤ w'.heap.size ∧ g < w'.heap.size ∧ h < w'.heap.size ∧ Below w.heap.size w w'
section
variable {w W W' : World} {l m x y : Int} {c d xc yc g h : Nat}
theorem held4_below (H : Held4 w l c m d g x xc h y yc W) (hb : Below W.heap.size W W') : Held4 w l c m d g x xc h y yc W' := by
  obtain ⟨h1, h2, h3, h4, h5, h6, h7, h8, hz, hg, hh, hB⟩ := H
  have hs := hb.size
  exact ⟨(bcell hb _ _ (by omega)).trans h1, (bcell hb _ _ (by omega)).trans h2, (bcell hb _ _ (by omega)).trans h3, (bcell hb _ _ (by omega)).trans h4, (bcell hb _ _ hg).trans h5, (bcell hb _ _ hg).trans h6,
    (bcell hb _ _ hh).trans h7, (bcell hb _ _ hh).trans h8, by omega, by omega, by omega, hB.trans (hb.mono hB.size)⟩
theorem held4_tab (ht : Tab w) (H : Held4 w l c m d g x xc h y yc W) : Tab W := ht.later H.2.2.2.2.2.2.2.2.2.2.2
theorem held4_end (H : Held4 w l c m d g x xc h y yc W) : Below w.heap.size w W := H.2.2.2.2.2.2.2.2.2.2.2
theorem held4_drew (H : Held4 w l c m d g x xc h y yc W) : Held4 w l c m d g x xc h y yc W.drew := ⟨H.1, H.2.1, H.2.2.1, H.2.2.2.1, H.2.2.2.2.1, H.2.2.2.2.2.1, H.2.2.2.2.2.2.1, H.2.2.2.2.2.2.2.1, H.2.2.2.2.2.2.2.2.1, H.2.2.2.2.2.2.2.2.2.1, H.2.2.2.2.2.2.2.2.2.2.1, H.2.2.2.2.2.2.2.2.2.2.2.drew⟩
theorem held4_start {w2 w3 : World} (hb1 : Below ((w.alloc (.cells #[.int .i64 l, .int .u64 (c : Int)] 40)).alloc (.cells #[.int .i64 m, .int .u64 (d : Int)] 40)).heap.size ((w.alloc (.cells #[.int .i64 l, .int .u64 (c : Int)] 40)).alloc (.cells #[.int .i64 m, .int .u64 (d : Int)] 40)) w2)
    (hb3 : Below (w2.alloc (.cells #[.int .i64 x, .int .u64 (xc : Int)] 40)).heap.size (w2.alloc (.cells #[.int .i64 x, .int .u64 (xc : Int)] 40)) w3) :
    Held4 w l c m d w2.heap.size x xc w3.heap.size y yc (w3.alloc (.cells #[.int .i64 y, .int .u64 (yc : Int)] 40)) := by
  obtain ⟨b0, b1⟩ := two_blocks w (.cells #[.int .i64 l, .int .u64 (c : Int)] 40) (.cells #[.int .i64 m, .int .u64 (d : Int)] 40)
  have z1 := hb1.size
  have z3 := hb3.size
  rw [World.size_alloc, World.size_alloc] at z1
  rw [World.size_alloc] at z3
  have up : ∀ (i : Nat) (o : Obj), i < w.heap.size + 2 → ((w.alloc (.cells #[.int .i64 l, .int .u64 (c : Int)] 40)).alloc (.cells #[.int .i64 m, .int .u64 (d : Int)] 40)).heap[i]? = some o → (w3.alloc (.cells #[.int .i64 y, .int .u64 (yc : Int)] 40)).heap[i]? = some o := fun i o hi ho => by
    rw [Below.heap_alloc _ _ _ (by omega), hb3.block i (by rw [World.size_alloc]; omega), Below.heap_alloc _ _ _ (by omega), hb1.block i (by rw [World.size_alloc, World.size_alloc]; omega)]
    exact ho
  have bx : (w3.alloc (.cells #[.int .i64 y, .int .u64 (yc : Int)] 40)).heap[w2.heap.size]? = some (.cells #[.int .i64 x, .int .u64 (xc : Int)] 40) := by
    rw [Below.heap_alloc _ _ _ (by omega), hb3.block _ (by rw [World.size_alloc]; omega)]
    exact heap_alloc_new w2 _
  have by' := heap_alloc_new w3 (.cells #[.int .i64 y, .int .u64 (yc : Int)] 40)
  have c0 := up _ _ (by omega) b0
  have c1 := up _ _ (by omega) b1
  have hB : Below w.heap.size w w2 := ((((Below.refl _ _).alloc (Nat.le_refl _) _).alloc (by rw [World.size_alloc]; omega) _)).trans (hb1.mono (by rw [World.size_alloc, World.size_alloc]; omega))
  have hB3 : Below w.heap.size w w3 := (hB.alloc hB.size _).trans (hb3.mono (by have := hB.size; rw [World.size_alloc]; omega))
  have hs : (w3.alloc (.cells #[.int .i64 y, .int .u64 (yc : Int)] 40)).heap.size = w3.heap.size + 1 := World.size_alloc _ _
  exact ⟨blk_cell c0 0, blk_cell c0 1, blk_cell c1 0, blk_cell c1 1, blk_cell bx 0, blk_cell bx 1, blk_cell by' 0, blk_cell by' 1, by omega, by omega, by omega, hB3.alloc hB3.size _⟩
end
end Go.Proofs.YtbilhdfoajahkaaDoor.L
