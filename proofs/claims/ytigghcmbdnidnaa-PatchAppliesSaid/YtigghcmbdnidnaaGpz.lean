/-
  What the reference's Apply gathers, in memory and in plain words.
  An argument that is lines, with what room it has.
-/
import Derived.Test.YtigghcmbdnidnaaGpy
import Derived.Test.YtigghcmbdnidnaaGpx
import Derived.Test.YtigghcmbdnidnaaGps
import Derived.Test.YtigghcmbdnidnaaGpu
namespace Go.Proofs.Ytigghcmbdnidnaa.Pa
set_option linter.unusedVariables false
set_option linter.unusedSimpArgs false
open Go.RowKit
open T S H
open V (grown_of drawn_below IntsIn numCells numCells_snoc ints_own)
open I (alloc1 own_at own_below)
open N (Ln PrIn pr_own prCells prCells_snoc infoPair)

theorem tks_snoc : ∀ (F : List Sl) (i j : Nat) (x : Sl), GoodX F → tks i j (F ++ [x]) = tks i j F ++ [(x.1, i + (sdl 3 F).length, j + (sdl 2 F).length)]
  | [], i, j, x, _ => by simp [tks, sdl]
  | y :: F, i, j, x, hg => by
    have ih := tks_snoc F (if y.1 = 3 then i else i + 1) (if y.1 = 2 then j else j + 1) x (fun z hz => hg z (List.mem_cons_of_mem _ hz))
    rw [List.cons_append, tks_cons, ih, tks_cons, sdl_cons, sdl_cons]
    rcases hg y (List.mem_cons_self ..) with q | q | q <;> simp [q] <;> omega
/-- The rows that are gathered, and the box that holds them. -/
structure Dn (w4 wr : World) (X : Nat) (vB vP vG vM : Value) (b : List Ln) (ps : List (Int × Int)) (gs ms : List Int) : Prop where
  box : wr.heap[X]? = some (.cells #[vB, vP, vG, vM] 32 (0, 0))
  oB : wr.ownsRow (X + 1) 59 2 vB b.length (lineCells b)
  oP : wr.ownsRow (X + 1) 57 2 vP ps.length (prCells ps)
  oG : wr.ownsRow (X + 1) 3 1 vG gs.length (numCells gs)
  oM : wr.ownsRow (X + 1) 3 1 vM ms.length (numCells ms)
  ap : Apart vG vM
  b4 : Below w4.heap.size w4 wr
  hX : w4.heap.size = X
  hs : X + 1 ≤ wr.heap.size
theorem Dn.below {w4 wr w' : World} {X : Nat} {vB vP vG vM : Value} {b : List Ln} {ps : List (Int × Int)} {gs ms : List Int} (h : Dn w4 wr X vB vP vG vM b ps gs ms) (hb : Below wr.heap.size wr w') : Dn w4 w' X vB vP vG vM b ps gs ms :=
  ⟨(hb.block X h.hs).trans h.box, own_below h.oB hb, own_below h.oP hb, own_below h.oG hb, own_below h.oM hb, h.ap, h.b4.trans (hb.mono h.b4.size), h.hX, Nat.le_trans h.hs hb.size⟩
theorem Dn.addB {w4 wr w' : World} {X : Nat} {vB vP vG vM v' : Value} {b : List Ln} {ps : List (Int × Int)} {gs ms : List Int} {y : Ln} (h : Dn w4 wr X vB vP vG vM b ps gs ms) (hg : wr.grownBy w' vB.ownBlock) (ho : w'.ownsRow (X + 1) 59 2 v' (b ++ [y]).length (lineCells (b ++ [y]))) :
    w'.heap[X]? = some (.cells #[vB, vP, vG, vM] 32 (0, 0)) ∧ Dn w4 (w'.setCell ⟨X, 0, none⟩ v') X v' vP vG vM (b ++ [y]) ps gs ms := by
  have hb : w'.heap[X]? = some (.cells #[vB, vP, vG, vM] 32 (0, 0)) := by
    rw [hg.block X h.hs (fun e => by have := own_base h.oB X e.symm; omega)]; exact h.box
  refine ⟨hb, ⟨by have := L.blk_set hb 0 v'; simpa using this, ownsRow_setCell_below ho (Nat.lt_succ_self X) v', ownsRow_setCell_below (own_grown h.oP h.oB (by decide) hg) (Nat.lt_succ_self X) v', ownsRow_setCell_below (own_grown h.oG h.oB (by decide) hg) (Nat.lt_succ_self X) v', ownsRow_setCell_below (own_grown h.oM h.oB (by decide) hg) (Nat.lt_succ_self X) v', h.ap, ?_, h.hX, by have := hg.size; have := h.hs; simp [World.setCell]; omega⟩⟩
  exact (h.b4.grown hg h.b4.size (fun q e => by have := own_base h.oB q e; have := h.hX; omega)).setCell (p := ⟨X, 0, none⟩) (by show w4.heap.size ≤ X; rw [h.hX]; exact Nat.le_refl _) v'
theorem Dn.addP {w4 wr w' : World} {X : Nat} {vB vP vG vM v' : Value} {b : List Ln} {ps : List (Int × Int)} {gs ms : List Int} {z : Int × Int} (h : Dn w4 wr X vB vP vG vM b ps gs ms) (hg : wr.grownBy w' vP.ownBlock) (ho : w'.ownsRow (X + 1) 57 2 v' (ps ++ [z]).length (prCells (ps ++ [z]))) :
    w'.heap[X]? = some (.cells #[vB, vP, vG, vM] 32 (0, 0)) ∧ Dn w4 (w'.setCell ⟨X, 1, none⟩ v') X vB v' vG vM b (ps ++ [z]) gs ms := by
  have hb : w'.heap[X]? = some (.cells #[vB, vP, vG, vM] 32 (0, 0)) := by
    rw [hg.block X h.hs (fun e => by have := own_base h.oP X e.symm; omega)]; exact h.box
  refine ⟨hb, ⟨by have := L.blk_set hb 1 v'; simpa using this, ownsRow_setCell_below (own_grown h.oB h.oP (by decide) hg) (Nat.lt_succ_self X) v', ownsRow_setCell_below ho (Nat.lt_succ_self X) v', ownsRow_setCell_below (own_grown h.oG h.oP (by decide) hg) (Nat.lt_succ_self X) v', ownsRow_setCell_below (own_grown h.oM h.oP (by decide) hg) (Nat.lt_succ_self X) v', h.ap, ?_, h.hX, by have := hg.size; have := h.hs; simp [World.setCell]; omega⟩⟩
  exact (h.b4.grown hg h.b4.size (fun q e => by have := own_base h.oP q e; have := h.hX; omega)).setCell (p := ⟨X, 1, none⟩) (by show w4.heap.size ≤ X; rw [h.hX]; exact Nat.le_refl _) v'
theorem Dn.addG {w4 wr w' : World} {X : Nat} {vB vP vG vM v' : Value} {b : List Ln} {ps : List (Int × Int)} {gs ms : List Int} {z : Int} (h : Dn w4 wr X vB vP vG vM b ps gs ms) (hg : wr.grownBy w' vG.ownBlock) (ho : w'.ownsRow (X + 1) 3 1 v' (gs ++ [z]).length (numCells (gs ++ [z]))) (hn : v'.ownBlock = vG.ownBlock ∨ v'.ownBlock = some wr.heap.size) :
    w'.heap[X]? = some (.cells #[vB, vP, vG, vM] 32 (0, 0)) ∧ Dn w4 (w'.setCell ⟨X, 2, none⟩ v') X vB vP v' vM b ps (gs ++ [z]) ms := by
  have hb : w'.heap[X]? = some (.cells #[vB, vP, vG, vM] 32 (0, 0)) := by
    rw [hg.block X h.hs (fun e => by have := own_base h.oG X e.symm; omega)]; exact h.box
  have hn' : v'.ownBlock = vG.ownBlock ∨ ∃ g, v'.ownBlock = some g ∧ wr.heap.size ≤ g := by
    rcases hn with e | e
    · exact .inl e
    · exact .inr ⟨_, e, Nat.le_refl _⟩
  refine ⟨hb, ⟨by have := L.blk_set hb 2 v'; simpa using this, ownsRow_setCell_below (own_grown h.oB h.oG (by decide) hg) (Nat.lt_succ_self X) v', ownsRow_setCell_below (own_grown h.oP h.oG (by decide) hg) (Nat.lt_succ_self X) v', ownsRow_setCell_below ho (Nat.lt_succ_self X) v', ownsRow_setCell_below (own_keep h.oM hg h.ap) (Nat.lt_succ_self X) v', h.ap.new hn' (S.own_lt h.oM), ?_, h.hX, by have := hg.size; have := h.hs; simp [World.setCell]; omega⟩⟩
  exact (h.b4.grown hg h.b4.size (fun q e => by have := own_base h.oG q e; have := h.hX; omega)).setCell (p := ⟨X, 2, none⟩) (by show w4.heap.size ≤ X; rw [h.hX]; exact Nat.le_refl _) v'
theorem Dn.addM {w4 wr w' : World} {X : Nat} {vB vP vG vM v' : Value} {b : List Ln} {ps : List (Int × Int)} {gs ms : List Int} {z : Int} (h : Dn w4 wr X vB vP vG vM b ps gs ms) (hg : wr.grownBy w' vM.ownBlock) (ho : w'.ownsRow (X + 1) 3 1 v' (ms ++ [z]).length (numCells (ms ++ [z]))) (hn : v'.ownBlock = vM.ownBlock ∨ v'.ownBlock = some wr.heap.size) :
    w'.heap[X]? = some (.cells #[vB, vP, vG, vM] 32 (0, 0)) ∧ Dn w4 (w'.setCell ⟨X, 3, none⟩ v') X vB vP vG v' b ps gs (ms ++ [z]) := by
  have hb : w'.heap[X]? = some (.cells #[vB, vP, vG, vM] 32 (0, 0)) := by
    rw [hg.block X h.hs (fun e => by have := own_base h.oM X e.symm; omega)]; exact h.box
  have hn' : v'.ownBlock = vM.ownBlock ∨ ∃ g, v'.ownBlock = some g ∧ wr.heap.size ≤ g := by
    rcases hn with e | e
    · exact .inl e
    · exact .inr ⟨_, e, Nat.le_refl _⟩
  refine ⟨hb, ⟨by have := L.blk_set hb 3 v'; simpa using this, ownsRow_setCell_below (own_grown h.oB h.oM (by decide) hg) (Nat.lt_succ_self X) v', ownsRow_setCell_below (own_grown h.oP h.oM (by decide) hg) (Nat.lt_succ_self X) v', ownsRow_setCell_below (own_keep h.oG hg h.ap.symm) (Nat.lt_succ_self X) v', ownsRow_setCell_below ho (Nat.lt_succ_self X) v', (h.ap.symm.new hn' (S.own_lt h.oG)).symm, ?_, h.hX, by have := hg.size; have := h.hs; simp [World.setCell]; omega⟩⟩
  exact (h.b4.grown hg h.b4.size (fun q e => by have := own_base h.oM q e; have := h.hX; omega)).setCell (p := ⟨X, 3, none⟩) (by show w4.heap.size ≤ X; rw [h.hX]; exact Nat.le_refl _) v'
end Go.Proofs.Ytigghcmbdnidnaa.Pa

namespace Go.Proofs.Ytigghcmbdnidnaa.RZ
open Go.ChangeShapes Go.WideShapes Go.ChangeAt Go.RowKit Go.Deep Go.Joins
section
variable {H : Type} {enc : TypeId × Value → H} {w : World} {base : Nat} {spare : Nat → Bool} {held : Bool}
theorem lines_argZ {r : Reach} {b0 : Nat} {v : Value} {d : DataW H} {p : List MemPlace} (hv : Value.okWide Try.prog w r b0 23 v) (h : DataW.Trod enc Try.prog w base spare held 23 v d p) :
    ∃ (A : Option Addr) (cap : Nat) (xs : List N.Ln), v = .slice A xs.length cap ∧ xs.length ≤ maxLen ∧ xs.length ≤ cap ∧ T.LinesIn w A xs ∧ (∀ y ∈ xs, y.1.length ≤ maxLen) ∧ (A = none → cap = 0) := by
  obtain ⟨a0, len, cap, rfl⟩ := okWide_slice Try.underlying23 hv
  obtain ⟨fuel, hf⟩ := h
  obtain ⟨A, cap', xs, hcs, h1, h2, h3, h4, h5⟩ := lines_readD hf
  simp only [Value.cells, List.cons.injEq, Value.slice.injEq, and_true] at hcs
  obtain ⟨rfl, rfl, rfl⟩ := hcs
  exact ⟨_, _, xs, rfl, Nat.le_trans h1 h2, h1, h3, h4, h5⟩
end
end Go.Proofs.Ytigghcmbdnidnaa.RZ
