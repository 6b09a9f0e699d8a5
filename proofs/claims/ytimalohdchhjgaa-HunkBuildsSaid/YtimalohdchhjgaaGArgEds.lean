/-
  Arguments that are edits, or lines with what room they have, opened.
-/
import Derived.Test.YtimalohdchhjgaaGmg
import Derived.Test.YtimalohdchhjgaaGsc
namespace Go.Proofs.Ytimalohdchhjgaa.RZ
open Go.ChangeShapes Go.WideShapes Go.ChangeAt Go.RowKit Go.Deep Go.Joins
section
variable {H : Type} {enc : TypeId × Value → H} {w : World} {base : Nat} {spare : Nat → Bool} {held : Bool}
theorem cellsEd : Try.prog.cellsOf 47 = 2 := by kernel_rfl
theorem cellsStp : Try.prog.cellsOf 45 = 1 := by kernel_rfl
theorem cellsLns : Try.prog.cellsOf 37 = 1 := by kernel_rfl
theorem bytesEd : Try.prog.bytesOf 47 = 32 := by kernel_rfl
set_option maxRecDepth 100000 in
theorem lines_readD {fuel : Nat} {cs : List Value} {x : DataW H × List MemPlace} (hf : DataW.trod enc Try.prog w base spare held fuel 37 cs = some x) :
    ∃ (A : Option Addr) (cap : Nat) (xs : List N.Ln), cs = [.slice A xs.length cap] ∧ xs.length ≤ cap ∧ cap ≤ maxLen ∧ T.LinesIn w A xs ∧ (∀ y ∈ xs, y.1.length ≤ maxLen) ∧ (A = none → cap = 0) := by
  rcases Deep.open_slice_pairs Try.underlying37 Try.underlying51 R.cellsLine rfl rfl R.cellsStr R.cellsBool hf with ⟨hcs, hx⟩ | ⟨a, len', cap', m, n, V0, V1, D0, D1, P0, P1, hcs, _, hl, hm, hmm, hx, hcell⟩
  · exact ⟨none, 0, [], hcs, Nat.le_refl _, Nat.zero_le _, fun h => absurd h (by simp), fun y hy => by simp at hy, fun _ => rfl⟩
  · have hle : len' ≤ m := by rw [hmm]; split <;> omega
    have each : ∀ i, i < len' → w.cell? (a.add (i * 2)) = some (.string ⟨(R.textOf (V0 i)).toArray⟩) ∧ w.cell? (a.add (i * 2 + 1)) = some (.bool (R.bareOf (V1 i))) ∧ (R.textOf (V0 i)).length ≤ maxLen := by
      intro i hi
      obtain ⟨c0, c1, t0, t1⟩ := hcell i (by omega)
      obtain ⟨s, hs, hd, hz⟩ := DataW.trod_string Try.underlying9 t0
      obtain ⟨b, hb, _⟩ := DataW.trod_bool Try.underlying4 t1
      simp only [List.cons.injEq, and_true] at hs hb
      rw [hs] at c0
      rw [hb] at c1
      refine ⟨by rw [c0, hs]; simp [R.textOf], by rw [c1, hb]; rfl, ?_⟩
      rw [hs]
      show s.data.toList.length ≤ maxLen
      rw [← Lib.size_eq]
      exact hz
    have htl : ((List.range len').map fun i => (R.textOf (V0 i), R.bareOf (V1 i))).length = len' := by simp
    refine ⟨some a, cap', (List.range len').map fun i => (R.textOf (V0 i), R.bareOf (V1 i)), by rw [htl, hcs], by rw [htl]; exact hl, hm, fun hp => ?_, fun y hy => ?_, fun e => by cases e⟩
    · rw [htl] at hp
      obtain ⟨bk, off, spot⟩ := a
      have hspot : spot = none := by simpa [Addr.add] using World.cell?_spot (each 0 hp).1
      subst hspot
      have h0 := (each 0 hp).1
      refine ⟨bk, off, rfl, World.block_lt_of_cell? w _ h0, fun j hj => ?_⟩
      rw [htl] at hj
      have := each j hj
      rw [add_plain, add_plain, ← Nat.add_assoc] at this
      simp only [List.getElem_map, List.getElem_range]
      exact ⟨this.1, this.2.1⟩
    · obtain ⟨i, hi, rfl⟩ := List.mem_map.1 hy
      exact (each i (List.mem_range.1 hi)).2.2
theorem lines_argD {r : Reach} {b0 : Nat} {v : Value} {d : DataW H} {p : List MemPlace} (hv : Value.okWide Try.prog w r b0 37 v) (h : DataW.Trod enc Try.prog w base spare held 37 v d p) :
    ∃ (A : Option Addr) (cap : Nat) (xs : List N.Ln), v = .slice A xs.length cap ∧ xs.length ≤ maxLen ∧ xs.length ≤ cap ∧ T.LinesIn w A xs ∧ ∀ y ∈ xs, y.1.length ≤ maxLen := by
  obtain ⟨a0, len, cap, rfl⟩ := okWide_slice Try.underlying37 hv
  obtain ⟨fuel, hf⟩ := h
  obtain ⟨A, cap', xs, hcs, h1, h2, h3, h4, -⟩ := lines_readD hf
  simp only [Value.cells, List.cons.injEq, Value.slice.injEq, and_true] at hcs
  obtain ⟨rfl, rfl, rfl⟩ := hcs
  exact ⟨a0, cap, xs, rfl, Nat.le_trans h1 h2, h1, h3, h4⟩
set_option maxRecDepth 100000 in
theorem eds_arg {r : Reach} {b0 : Nat} {v : Value} {d : DataW H} {p : List MemPlace} (hv : Value.okWide Try.prog w r b0 22 v) (h : DataW.Trod enc Try.prog w base spare held 22 v d p) :
    ∃ (A : Option Addr) (cap : Nat) (es : List S.Ed), v = .slice A es.length cap ∧ S.EdsIn 0 w A es ∧ S.EdsOk es ∧ ∀ e ∈ es, ∀ y ∈ e.2, y.1.length ≤ maxLen := by
  obtain ⟨a0, len, cap, rfl⟩ := okWide_slice Try.underlying22 hv
  obtain ⟨fuel, hf⟩ := h
  rcases Deep.open_slice_pairs Try.underlying22 Try.underlying47 cellsEd rfl rfl cellsStp cellsLns hf with ⟨hcs, hx⟩ | ⟨a, len', cap', m, n, V0, V1, D0, D1, P0, P1, hcs, _, hl, hm, hmm, hx, hcell⟩
  · simp only [Value.cells, List.cons.injEq, Value.slice.injEq, and_true] at hcs
    obtain ⟨rfl, rfl, rfl⟩ := hcs
    exact ⟨none, 0, [], rfl, fun h => absurd h (by simp), ⟨Nat.zero_le _, fun e he => by simp at he⟩, fun e he => by simp at he⟩
  · simp only [Value.cells, List.cons.injEq, Value.slice.injEq, and_true] at hcs
    obtain ⟨rfl, rfl, rfl⟩ := hcs
    have hle : len ≤ m := by rw [hmm]; split <;> omega
    obtain ⟨es, hes, hp⟩ := S.choose_lt (n := len) (p := fun i (e : S.Ed) => w.cell? (a.add (i * 2)) = some (.int .i64 e.1) ∧ (∃ A c, w.cell? (a.add (i * 2 + 1)) = some (.slice A e.2.length c) ∧ T.LinesIn w A e.2 ∧ e.2.length ≤ c ∧ (A = none → c = 0)) ∧ e.2.length ≤ maxLen ∧ ∀ y ∈ e.2, y.1.length ≤ maxLen) (fun i hi => by
      obtain ⟨c0, c1, t0, t1⟩ := hcell i (by omega)
      obtain ⟨d, hd, _⟩ := DataW.trod_int Try.underlying45 t0
      obtain ⟨A, c, xs, hvv, h1, h2, h3, h4, h5⟩ := lines_readD t1
      simp only [List.cons.injEq, and_true] at hd hvv
      rw [hd] at c0
      rw [hvv] at c1
      exact ⟨(d, xs), c0, ⟨A, c, c1, h3, h1, h5⟩, Nat.le_trans h1 h2, h4⟩)
    refine ⟨some a, cap, es, by rw [hes], fun h0 => ?_, ⟨by rw [hes]; omega, fun e he => ?_⟩, fun e he => ?_⟩
    · obtain ⟨bk, off, spot⟩ := a
      have hspot : spot = none := by simpa [Addr.add] using World.cell?_spot (hp 0 h0).1
      subst hspot
      refine ⟨bk, off, rfl, Nat.zero_le _, World.block_lt_of_cell? w _ (hp 0 h0).1, fun j hj => ?_⟩
      obtain ⟨c0, ⟨A, c, c1, h1, h2, h3⟩, -⟩ := hp j hj
      rw [add_plain] at c0 c1
      rw [← Nat.add_assoc] at c1
      exact ⟨A, c, c0, c1, h1, h2, h3, fun p _ => Nat.zero_le _⟩
    · obtain ⟨j, hj, rfl⟩ := List.mem_iff_getElem.1 he
      exact (hp j hj).2.2.1
    · obtain ⟨j, hj, rfl⟩ := List.mem_iff_getElem.1 he
      exact (hp j hj).2.2.2
theorem eds_size {ts : List TypeId} {ds : List (DataW H)} (hs : (DataW.weightsEach Try.prog ts ds).all (· ≤ reachBytes) = true) {j : Nat} {A : Option Addr} {n cap : Nat} {d : DataW H} {p : List MemPlace} (ht : ts[j]? = some 22) (hd : ds[j]? = some d) (h : DataW.Trod enc Try.prog w base spare held 22 (.slice A n cap) d p) : n * 32 ≤ 140737488351232 := by
  have := slice_size hs ht hd Try.underlying22 h
  rw [bytesEd] at this
  exact this
end
end Go.Proofs.Ytimalohdchhjgaa.RZ
