/-
  Rows of bytes in memory, wherever they lie, those of no byte too: as a text, and text.Lines of them. What a region's walk may be told anew on its way.
-/
import Derived.Test.YtbilhdfoajahkaaDoorTextF
import Derived.Deep.RegionHeld
namespace Go.Proofs.YtbilhdfoajahkaaDoor.T
open Go.RowKit

/-- A slice's bytes, wherever it lies. -/
def BytesIn (w : World) (A : Option Addr) (l : List UInt8) : Prop :=
  0 < l.length → ∃ bk off, A = some ⟨bk, off, none⟩ ∧ bk < w.heap.size ∧ BytesAt w bk off l
theorem BytesIn.below {w w' : World} {A : Option Addr} {l : List UInt8} (h : BytesIn w A l) (hb : Below w.heap.size w w') : BytesIn w' A l := fun hp => by
  obtain ⟨bk, off, e, hlt, hl⟩ := h hp
  exact ⟨bk, off, e, Nat.lt_of_lt_of_le hlt hb.size, hl.below hb hlt⟩
theorem bytes_of_own {w : World} {base : Nat} {v : Value} {l : List UInt8} (h : w.ownsRow base 5 1 v l.length (byteCells l)) :
    ∃ A cap, v = .slice A l.length cap ∧ l.length ≤ cap ∧ BytesIn w A l := by
  obtain ⟨A, cap, hv, hc, hA⟩ := own_form h
  refine ⟨A, cap, hv, hc, fun hp => ?_⟩
  obtain ⟨g, rfl, _, hlt, hcells⟩ := hA hp
  exact ⟨g, 0, rfl, hlt, fun j hj => by rw [Nat.zero_add]; exact hcells _ _ (by simp [byteCells, List.getElem?_eq_getElem hj])⟩
theorem conv_none (w : World) (A : Option Addr) (cap : Nat) :
    (convert 22 9 (.slice A 0 cap)).run Tryd.prog w = .ok (.string ⟨#[]⟩) w := by
  rw [run_convert_bytes_string w 22 9 5 _ 0 cap Tryd.underlying22 Tryd.underlying5 Tryd.underlying9]
  cases A <;> simp [Conv.bytesToString, loadCells]
  all_goals rfl
theorem conv_in {w : World} {A : Option Addr} {l : List UInt8} (cap : Nat) (h : BytesIn w A l) :
    (convert 22 9 (.slice A l.length cap)).run Tryd.prog w = .ok (.string ⟨l.toArray⟩) w := by
  by_cases hp : 0 < l.length
  · obtain ⟨bk, off, rfl, _, hb⟩ := h hp
    exact conv_bytes w bk off l.length cap l rfl hb
  · obtain rfl : l = [] := List.length_eq_zero_iff.1 (by omega)
    exact conv_none w A cap
theorem lines_in (A : Option Addr) (cap : Nat) (l : List UInt8) (w : World) (h : BytesIn w A l) (hn : l.length ≤ cap) (hl : l.length ≤ 4194304) :
    Calls Tryd.prog 17 #[.slice A l.length cap] w fun e w' => ∃ A' cap', e = .returned (.slice A' (P.lines [] l).length cap') ∧ LinesIn w' A' (P.lines [] l) ∧ Below w.heap.size w w' := by
  by_cases hp : 0 < l.length
  · obtain ⟨bk, off, rfl, hbk, hb⟩ := h hp
    refine (lines_any bk off cap l w hb hbk hn hl).mono ?_
    rintro e w' ⟨v, rfl, hown, hbel⟩
    obtain ⟨A', cap', rfl, _, hA⟩ := lines_of_own hown
    exact ⟨A', cap', rfl, hA, hbel⟩
  · obtain rfl : l = [] := List.length_eq_zero_iff.1 (by omega)
    refine (lines_none A cap w).mono ?_
    rintro e w' ⟨rfl, rfl⟩
    exact ⟨none, 0, rfl, fun h => absurd h (by simp [P.lines]), Below.refl _ _⟩
theorem join_in (A : Option Addr) (cap : Nat) (xs : List (List UInt8 × Bool)) (w : World) (hb : P.bulk xs ≤ 4194304) (hA : LinesIn w A xs) :
    Calls Tryd.prog 19 #[.slice A xs.length cap] w fun e w' => ∃ A' cap', e = .returned (.slice A' (P.join xs).length cap') ∧ (P.join xs).length ≤ cap' ∧ BytesIn w' A' (P.join xs) ∧ Below w.heap.size w w' := by
  refine (join_any A cap xs w hb hA).mono ?_
  rintro e w' ⟨v, rfl, hown, hbel⟩
  obtain ⟨A', cap', rfl, hc, hA⟩ := bytes_of_own hown
  exact ⟨A', cap', rfl, hc, hA, hbel⟩

section
variable {P : Program} {md : Region.Mode} {ops : Array Oper} {Q : Exit → Act → World → Prop} {S S' : World → Prop}
/-- On its way a region's walk may be asked for more behind each operation. -/
theorem wpAnyH_more (h : ∀ w, S' w → S w) : ∀ (fuel : Nat) (listed : Array Bool) (a : Act) (w : World), wpAnyH P md ops Q S' fuel listed a w → wpAnyH P md ops Q S fuel listed a w
  | 0, _, _, _, H => H
  | fuel + 1, _, _, _, H => ⟨H.1, fun i hi => wpOp_mono (fun a' w' h' => ⟨h _ h'.1, wpAnyH_more h fuel _ a' w' h'.2⟩) (H.2 i hi)⟩
end
/-- All that is there stays as it is. -/
def Keeps (w : World) : World → Prop := fun w' => Below w.heap.size w w'
theorem Keeps.b {a b : World} (h : Keeps a b) : Below a.heap.size a b := h
theorem keeps_drew (w : World) : Keeps w w.drew := (Below.refl _ _).drew
theorem Keeps.trans {a b c : World} (h : Keeps a b) (h' : Keeps b c) : Keeps a c := Below.trans h (Below.mono h' (Below.size h))
end Go.Proofs.YtbilhdfoajahkaaDoor.T
