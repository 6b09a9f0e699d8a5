/-
  An argument that is a slice of slices of lines, opened.
-/
import Derived.Test.YtaejphdgfkljmaaGArgView
import Derived.Test.YtaejphdgfkljmaaGnd
namespace Go.Proofs.Ytaejphdgfkljmaa.RZ
open Go.ChangeShapes Go.WideShapes Go.ChangeAt Go.RowKit Go.Deep Go.Joins
section
variable {H : Type} {enc : TypeId × Value → H} {w : World} {base : Nat} {spare : Nat → Bool} {held : Bool}
set_option maxRecDepth 100000 in
theorem lines_readC {fuel : Nat} {cs : List Value} {x : DataW H × List MemPlace} (hf : DataW.trod enc Try.prog w base spare held fuel 26 cs = some x) :
    ∃ (A : Option Addr) (cap : Nat) (xs : List N.Ln), cs = [.slice A xs.length cap] ∧ xs.length ≤ cap ∧ cap ≤ maxLen ∧ T.LinesIn w A xs ∧ ∀ y ∈ xs, y.1.length ≤ maxLen := by
  rcases Deep.open_slice_pairs Try.underlying26 Try.underlying51 R.cellsLine rfl rfl R.cellsStr R.cellsBool hf with ⟨hcs, hx⟩ | ⟨a, len', cap', m, n, V0, V1, D0, D1, P0, P1, hcs, _, hl, hm, hmm, hx, hcell⟩
  · exact ⟨none, 0, [], hcs, Nat.le_refl _, Nat.zero_le _, fun h => absurd h (by simp), fun y hy => by simp at hy⟩
  · have hle : len' ≤ m := by rw [hmm]; split <;> omega
    have each : ∀ i, i < len' → w.cell? (a.add (i * 2)) = some (.string ⟨(R.textOf (V0 i)).toArray⟩) ∧ w.cell? (a.add (i * 2 + 1)) = some (.bool (R.bareOf (V1 i))) ∧ (R.textOf (V0 i)).length ≤ maxLen := by
      intro i hi
      obtain ⟨c0, c1, t0, t1⟩ := hcell i (by omega)
      obtain ⟨s, hs, hd, hz⟩ := DataW.trod_string Try.underlying9 t0
      obtain ⟨b, hb, _⟩ := DataW.trod_bool Try.underlying4 t1
      simp only [List.cons.injEq, and_true] at hs hb
      rw [hs] at c0
      rw [hb] at c1
      refine ⟨by rw [c0, hs]; simp [R.textOf], by rw [c1, hb]; rfl, ?_⟩
      rw [hs]
      show s.data.toList.length ≤ maxLen
      rw [← Lib.size_eq]
      exact hz
    have htl : ((List.range len').map fun i => (R.textOf (V0 i), R.bareOf (V1 i))).length = len' := by simp
    refine ⟨some a, cap', (List.range len').map fun i => (R.textOf (V0 i), R.bareOf (V1 i)), by rw [htl, hcs], by rw [htl]; exact hl, hm, fun hp => ?_, fun y hy => ?_⟩
    · rw [htl] at hp
      obtain ⟨bk, off, spot⟩ := a
      have hspot : spot = none := by simpa [Addr.add] using World.cell?_spot (each 0 hp).1
      subst hspot
      have h0 := (each 0 hp).1
      refine ⟨bk, off, rfl, World.block_lt_of_cell? w _ h0, fun j hj => ?_⟩
      rw [htl] at hj
      have := each j hj
      rw [add_plain, add_plain, ← Nat.add_assoc] at this
      simp only [List.getElem_map, List.getElem_range]
      exact ⟨this.1, this.2.1⟩
    · obtain ⟨i, hi, rfl⟩ := List.mem_map.1 hy
      exact (each i (List.mem_range.1 hi)).2.2
set_option maxRecDepth 100000 in
theorem lists_arg {r : Reach} {b0 : Nat} {v : Value} {d : DataW H} {p : List MemPlace} (hv : Value.okWide Try.prog w r b0 57 v) (h : DataW.Trod enc Try.prog w base spare held 57 v d p) :
    ∃ (A : Option Addr) (cap : Nat) (ls : List (List N.Ln)), v = .slice A ls.length cap ∧ ls.length ≤ maxLen ∧ N.ListsIn w A ls ∧ (∀ l ∈ ls, l.length ≤ maxLen) ∧ ∀ l ∈ ls, ∀ y ∈ l, y.1.length ≤ maxLen := by
  obtain ⟨a0, len, cap, rfl⟩ := okWide_slice Try.underlying57 hv
  obtain ⟨fuel, hf⟩ := h
  rcases open_slice1 Try.underlying57 cLines hf with ⟨hcs, hx⟩ | ⟨a, len', cap', m, n, V, D, Pl, hcs, _, hl, hm, hmm, hx, hcell⟩
  · simp only [Value.cells, List.cons.injEq, Value.slice.injEq, and_true] at hcs
    obtain ⟨rfl, rfl, rfl⟩ := hcs
    exact ⟨none, 0, [], rfl, Nat.zero_le _, fun h => absurd h (by simp), fun l hl => by simp at hl, fun l hl => by simp at hl⟩
  · simp only [Value.cells, List.cons.injEq, Value.slice.injEq, and_true] at hcs
    obtain ⟨rfl, rfl, rfl⟩ := hcs
    have hle : len ≤ m := by rw [hmm]; split <;> omega
    obtain ⟨f, hf⟩ := choose_lt (n := len) (p := fun i (l : List N.Ln) => (∃ A c, w.cell? (a.add i) = some (.slice A l.length c) ∧ T.LinesIn w A l ∧ l.length ≤ c) ∧ l.length ≤ maxLen ∧ ∀ y ∈ l, y.1.length ≤ maxLen) (fun i hi => by
      obtain ⟨c1, c2⟩ := hcell i (by omega)
      obtain ⟨A, c, xs, hvv, h1, h2, h3, h4⟩ := lines_readC c2
      injection hvv with hv1
      exact ⟨xs, ⟨A, c, by rw [c1, hv1], h3, h1⟩, Nat.le_trans h1 h2, h4⟩)
    have htl : ((List.range len).map f).length = len := by simp
    refine ⟨some a, cap, (List.range len).map f, by rw [htl], by rw [htl]; omega, fun hp => ?_, fun l hl => ?_, fun l hl => ?_⟩
    · rw [htl] at hp
      obtain ⟨bk, off, spot⟩ := a
      obtain ⟨⟨A0, c0, h0, -⟩, -⟩ := hf 0 hp
      have hspot : spot = none := by simpa [Addr.add] using World.cell?_spot h0
      subst hspot
      refine ⟨bk, off, rfl, World.block_lt_of_cell? w _ h0, fun j hj => ?_⟩
      rw [htl] at hj
      obtain ⟨⟨A, c, h1, h2, h3⟩, -⟩ := hf j hj
      rw [add_plain] at h1
      simp only [List.getElem_map, List.getElem_range]
      exact ⟨A, c, h1, h2, h3⟩
    · obtain ⟨i, hi, rfl⟩ := List.mem_map.1 hl
      exact (hf i (List.mem_range.1 hi)).2.1
    · obtain ⟨i, hi, rfl⟩ := List.mem_map.1 hl
      exact (hf i (List.mem_range.1 hi)).2.2
end
end Go.Proofs.Ytaejphdgfkljmaa.RZ
