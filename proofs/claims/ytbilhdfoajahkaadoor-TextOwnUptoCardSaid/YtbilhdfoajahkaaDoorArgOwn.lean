/-
  An argument that is bytes: where it has no address it has no capacity.
-/
import Derived.Test.YtbilhdfoajahkaaDoorArgText
namespace Go.Proofs.YtbilhdfoajahkaaDoor.R
open Go.ChangeShapes Go.WideShapes Go.ChangeAt Go.RowKit

theorem bytes_cap {H : Type} {enc : TypeId × Value → H} {W : World} {r : Reach} {b0 base : Nat} {sp : Nat → Bool} {held : Bool} {v : Value} {d : DataW H} {p : List MemPlace}
    (hv : Value.okWide Tryd.prog W r b0 22 v) (h : DataW.Trod enc Tryd.prog W base sp held 22 v d p) :
    ∀ n cap, v = .slice none n cap → cap = 0 := by
  intro n cap e
  subst e
  obtain ⟨fuel, hf⟩ := h
  rcases open_ints Tryd.underlying22 Tryd.underlying5 cellsByte hf with ⟨hcs, _⟩ | ⟨a, len', cap', zs, hcs, _⟩
  · simp only [Value.cells, List.cons.injEq, Value.slice.injEq, and_true] at hcs
    exact hcs.2.2
  · simp [Value.cells] at hcs
end Go.Proofs.YtbilhdfoajahkaaDoor.R
