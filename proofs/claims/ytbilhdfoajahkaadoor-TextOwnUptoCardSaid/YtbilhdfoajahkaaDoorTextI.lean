/-
  What the laws on lines ask of the reference's functions, in one form each.
-/
import Derived.Test.YtbilhdfoajahkaaDoorTextH
import Derived.Test.YtbilhdfoajahkaaDoorRefT
namespace Go.Proofs.YtbilhdfoajahkaaDoor.T
open Go.RowKit

def RLinesOf (l : List UInt8) (xs : List (List UInt8 × Bool)) : Prop := ∀ (A : Option Addr) (cap : Nat) (w : World), BytesIn w A l → l.length ≤ cap →
  Calls Tryd.prog 18 #[.slice A l.length cap] w fun e w' => ∃ A' cap', e = .returned (.slice A' xs.length cap') ∧ LinesIn w' A' xs ∧ Below w.heap.size w w'
theorem RLinesOf.call {l : List UInt8} {xs : List (List UInt8 × Bool)} (h : RLinesOf l xs) (A : Option Addr) (cap : Nat) (w : World) (hA : BytesIn w A l) (hc : l.length ≤ cap) :
    Calls Tryd.prog 18 #[.slice A l.length cap] w fun e w' => ∃ A' cap', e = .returned (.slice A' xs.length cap') ∧ LinesIn w' A' xs ∧ Below w.heap.size w w' := h A cap w hA hc
theorem rlinesOf (l : List UInt8) (hl : l.length ≤ 4194304) : RLinesOf l (P.lines [] l) := fun A cap w hA hc => by
  refine (refLines_any A cap l w hA hc hl).mono ?_
  rintro e w' ⟨v, rfl, hown, hbel⟩
  obtain ⟨A', cap', rfl, _, hA⟩ := lines_of_own hown
  exact ⟨A', cap', rfl, hA, hbel⟩
def RJoinOf (xs : List (List UInt8 × Bool)) (l : List UInt8) : Prop := ∀ (A : Option Addr) (cap : Nat) (w : World), LinesIn w A xs →
  Calls Tryd.prog 20 #[.slice A xs.length cap] w fun e w' => ∃ A' cap', e = .returned (.slice A' l.length cap') ∧ l.length ≤ cap' ∧ BytesIn w' A' l ∧ Below w.heap.size w w'
theorem RJoinOf.call {l : List UInt8} {xs : List (List UInt8 × Bool)} (h : RJoinOf xs l) (A : Option Addr) (cap : Nat) (w : World) (hA : LinesIn w A xs) :
    Calls Tryd.prog 20 #[.slice A xs.length cap] w fun e w' => ∃ A' cap', e = .returned (.slice A' l.length cap') ∧ l.length ≤ cap' ∧ BytesIn w' A' l ∧ Below w.heap.size w w' := h A cap w hA
theorem rjoinOf (xs : List (List UInt8 × Bool)) (hb : P.bulk xs ≤ 4194304) : RJoinOf xs (P.join xs) := fun A cap w hA => by
  refine (refJoin_any A cap xs w hb hA).mono ?_
  rintro e w' ⟨v, rfl, hown, hbel⟩
  obtain ⟨A', cap', rfl, hc, hA⟩ := bytes_of_own hown
  exact ⟨A', cap', rfl, hc, hA, hbel⟩
def RRightOf (xs : List (List UInt8 × Bool)) (r : Bool) : Prop := ∀ (A : Option Addr) (cap : Nat) (w : World), LinesIn w A xs →
  Calls Tryd.prog 22 #[.slice A xs.length cap] w fun e w' => e = .returned (.bool r) ∧ Below w.heap.size w w'
theorem RRightOf.call {xs : List (List UInt8 × Bool)} {r : Bool} (h : RRightOf xs r) (A : Option Addr) (cap : Nat) (w : World) (hA : LinesIn w A xs) :
    Calls Tryd.prog 22 #[.slice A xs.length cap] w fun e w' => e = .returned (.bool r) ∧ Below w.heap.size w w' := h A cap w hA
theorem rrightOf (xs : List (List UInt8 × Bool)) (hb : P.bulk xs ≤ 4194304) : RRightOf xs (P.right xs) := fun A cap w hA => by
  refine (refRight_any A cap xs w hb hA).mono ?_
  rintro e w' ⟨rfl, rfl⟩
  exact ⟨rfl, Below.refl _ _⟩
end Go.Proofs.YtbilhdfoajahkaaDoor.T
