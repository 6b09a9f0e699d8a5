/-
  Arguments that are strings or items, opened: their values, and what their cells hold.
-/
import Derived.Test.YtadhhamfikpimaaDoorGArgPol
import Derived.Test.YtadhhamfikpimaaDoorGLawItLines
namespace Go.Proofs.YtadhhamfikpimaaDoor.RI
open Go.ChangeShapes Go.WideShapes Go.ChangeAt Go.RowKit Go.Deep Go.Joins

section
variable {H : Type} {enc : TypeId × Value → H} {w : World} {base : Nat} {spare : Nat → Bool} {held : Bool} {fuel : Nat} {cs : List Value} {x : DataW H × List MemPlace}
theorem strs_read (h : DataW.trod enc Tryd.prog w base spare held fuel 60 cs = some x) : ∃ (A : Option Addr) (cap : Nat) (ss : List ByteArray), cs = [.slice A ss.length cap] ∧ ss.length ≤ cap ∧ cap ≤ maxLen ∧ I.StrsIn w A ss ∧ ∀ j (hj : j < ss.length), ss[j].size ≤ maxLen := by
  rcases open_strs Tryd.underlying60 Tryd.underlying9 RP.cStr h with ⟨hcs, hx⟩ | ⟨a, len, cap, m, Sx, hcs, _, hl, hm, hmm, hx, hcell⟩
  · exact ⟨none, 0, [], hcs, Nat.le_refl _, Nat.zero_le _, fun h => absurd h (by simp), fun j hj => absurd hj (by simp)⟩
  have hle : len ≤ m := by rw [hmm]; split <;> omega
  have htl : ((List.range len).map Sx).length = len := by simp
  refine ⟨some a, cap, (List.range len).map Sx, by rw [htl, hcs], by rw [htl]; exact hl, hm, fun hp => ?_, fun j hj => ?_⟩
  · rw [htl] at hp
    obtain ⟨bk, off, spot⟩ := a
    have hspot : spot = none := by simpa [Addr.add] using World.cell?_spot (hcell 0 (by omega)).1
    subst hspot
    have h0 := (hcell 0 (by omega)).1
    refine ⟨bk, off, rfl, World.block_lt_of_cell? w _ h0, fun j hj => ?_⟩
    rw [htl] at hj
    have := (hcell j (by omega)).1
    rw [add_plain] at this
    simp only [List.getElem_map, List.getElem_range]
    exact this
  · rw [htl] at hj
    simp only [List.getElem_map, List.getElem_range]
    exact (hcell j (by omega)).2
set_option maxRecDepth 100000 in
theorem strs_arg {r : Reach} {b0 : Nat} {v : Value} {d : DataW H} {p : List MemPlace} (hv : Value.okWide Tryd.prog w r b0 60 v) (h : DataW.Trod enc Tryd.prog w base spare held 60 v d p) :
    ∃ (A : Option Addr) (cap : Nat) (ss : List ByteArray), v = .slice A ss.length cap ∧ ss.length ≤ cap ∧ cap ≤ maxLen ∧ I.StrsIn w A ss ∧ ∀ j (hj : j < ss.length), ss[j].size ≤ maxLen := by
  obtain ⟨a0, len, cap, rfl⟩ := okWide_slice Tryd.underlying60 hv
  obtain ⟨fuel, hf⟩ := h
  obtain ⟨A, cap', ss, hcs, r⟩ := strs_read hf
  simp only [Value.cells, List.cons.injEq, Value.slice.injEq, and_true] at hcs
  obtain ⟨rfl, rfl, rfl⟩ := hcs
  exact ⟨_, _, ss, rfl, r⟩
end
end Go.Proofs.YtadhhamfikpimaaDoor.RI
