/-
  An argument that is a slice of pairs, opened: with its capacity, and each number's bounds.
-/
import Derived.Test.YthcmljknpealhaaGcg
import Derived.Test.YthcmljknpealhaaGcd
namespace Go.Proofs.Ythcmljknpealhaa.RZ
open Go.ChangeShapes Go.WideShapes Go.ChangeAt Go.RowKit Go.Deep Go.Joins
section
variable {H : Type} {enc : TypeId × Value → H} {w : World} {base : Nat} {spare : Nat → Bool} {held : Bool}
theorem cellsPr : Try.prog.cellsOf 40 = 2 := by kernel_rfl
set_option maxRecDepth 100000 in
theorem pr_trod {fuel : Nat} {cs : List Value} {x : DataW H × List MemPlace} (h : DataW.trod enc Try.prog w base spare held fuel 40 cs = some x) :
    ∃ p : Int × Int, cs = [.int .i64 p.1, .int .i64 p.2] ∧ (Lit.int .i64 p.1).wf = true ∧ (Lit.int .i64 p.2).wf = true := by
  cases fuel with
  | zero => simp [DataW.trod] at h
  | succ m =>
    rw [DataW.trod_step] at h
    unfold DataW.trodStep at h
    simp only [Try.underlying40] at h
    split at h
    · rename_i hl
      simp only [Option.map_eq_some_iff] at h
      obtain ⟨ys, hy, -⟩ := h
      rw [R.cellsInt] at hy
      rw [cellsPr] at hl
      rw [show List.range 2 = [0, 1] from rfl] at hy
      simp only [List.mapM_cons, List.mapM_nil, bind, Option.bind_eq_some_iff, pure] at hy
      obtain ⟨y0, h0, t, ⟨y1, h1, -⟩, -⟩ := hy
      match cs, hl with
      | [v0, v1], _ =>
        obtain ⟨a, ea, -, wa⟩ := DataW.trod_int Try.underlying3 h0
        obtain ⟨b, eb, -, wb⟩ := DataW.trod_int Try.underlying3 h1
        simp at ea eb
        exact ⟨(a, b), by rw [ea, eb], wa, wb⟩
    · cases h
set_option maxRecDepth 100000 in
theorem prs_arg {r : Reach} {b0 : Nat} {v : Value} {d : DataW H} {p : List MemPlace} (hv : Value.okWide Try.prog w r b0 22 v) (h : DataW.Trod enc Try.prog w base spare held 22 v d p) :
    ∃ (A : Option Addr) (cap : Nat) (ps : List (Int × Int)), v = .slice A ps.length cap ∧ ps.length ≤ maxLen ∧ ps.length ≤ cap ∧ N.PrIn w A ps ∧ ∀ z ∈ ps, (-9223372036854775808 ≤ z.1 ∧ z.1 ≤ 9223372036854775807) ∧ -9223372036854775808 ≤ z.2 ∧ z.2 ≤ 9223372036854775807 := by
  obtain ⟨a0, len, cap, rfl⟩ := okWide_slice Try.underlying22 hv
  obtain ⟨fuel, hf⟩ := h
  rcases Deep.open_slice Try.underlying22 hf with ⟨hcs, hx⟩ | ⟨a, len', cap', m, n, D, Pl, hcs, _, hl, hm, hmm, hx, hcell⟩
  · simp only [Value.cells, List.cons.injEq, Value.slice.injEq, and_true] at hcs
    obtain ⟨rfl, rfl, rfl⟩ := hcs
    exact ⟨none, 0, [], rfl, Nat.zero_le _, Nat.le_refl _, fun h => absurd h (by simp), fun z hz => by simp at hz⟩
  · simp only [Value.cells, List.cons.injEq, Value.slice.injEq, and_true] at hcs
    obtain ⟨rfl, rfl, rfl⟩ := hcs
    have hle : len ≤ m := by rw [hmm]; split <;> omega
    obtain ⟨ps, hps, hp⟩ : ∃ ps : List (Int × Int), ps.length = len ∧ ∀ (i : Nat) (h : i < ps.length), (w.cell? (a.add (i * 2)) = some (.int .i64 ps[i].1) ∧ w.cell? (a.add (i * 2 + 1)) = some (.int .i64 ps[i].2)) ∧ (Lit.int .i64 ps[i].1).wf = true ∧ (Lit.int .i64 ps[i].2).wf = true := by
      have each : ∀ i, i < len → ∃ q : Int × Int, (w.cell? (a.add (i * 2)) = some (.int .i64 q.1) ∧ w.cell? (a.add (i * 2 + 1)) = some (.int .i64 q.2)) ∧ (Lit.int .i64 q.1).wf = true ∧ (Lit.int .i64 q.2).wf = true := fun i hi => by
        obtain ⟨cs', h1, h2⟩ := hcell i (by omega)
        rw [cellsPr] at h1
        obtain ⟨_, hlen, hat⟩ := World.cells?_some h1
        obtain ⟨q, rfl, w1, w2⟩ := pr_trod h2
        have e0 := hat 0 (by omega)
        have e1 := hat 1 (by omega)
        rw [add_add] at e0 e1
        exact ⟨q, ⟨by simpa using e0, by simpa using e1⟩, w1, w2⟩
      obtain ⟨f, hf⟩ := Deep.choose_lt each
      refine ⟨(List.range len).map f, by simp, fun i h => ?_⟩
      simp only [List.getElem_map, List.getElem_range]
      exact hf i (by simpa using h)
    refine ⟨some a, cap, ps, by rw [hps], by omega, by omega, fun h0 => ?_, fun z hz => ?_⟩
    · obtain ⟨bk, off, spot⟩ := a
      have hspot : spot = none := by simpa [Addr.add] using World.cell?_spot (hp 0 h0).1.1
      subst hspot
      refine ⟨bk, off, rfl, World.block_lt_of_cell? w _ (hp 0 h0).1.1, fun j hj => ?_⟩
      obtain ⟨⟨c0, c1⟩, -⟩ := hp j hj
      rw [add_plain] at c0 c1
      rw [← Nat.add_assoc] at c1
      exact ⟨c0, c1⟩
    · obtain ⟨j, hj, rfl⟩ := List.mem_iff_getElem.1 hz
      exact ⟨bounds_i64 (hp j hj).2.1, bounds_i64 (hp j hj).2.2⟩
set_option maxRecDepth 100000 in
theorem arr4_arg {r : Reach} {b0 : Nat} {v : Value} {d : DataW H} {p : List MemPlace} (hv : Value.okWide Try.prog w r b0 31 v) (h : DataW.Trod enc Try.prog w base spare held 31 v d p) :
    ∃ a b c e : Int, v = .agg #[.int .i8 a, .int .i8 b, .int .i8 c, .int .i8 e] ∧ (-128 ≤ a ∧ a ≤ 127) ∧ (-128 ≤ b ∧ b ≤ 127) ∧ (-128 ≤ c ∧ c ≤ 127) ∧ (-128 ≤ e ∧ e ≤ 127) := by
  simp only [Value.okWide, Try.underlying31] at hv
  obtain ⟨cs, rfl, h2, -⟩ := hv
  obtain ⟨fuel, hf⟩ := h
  have hc8 : Try.prog.cellsOf 30 = 1 := by kernel_rfl
  have hc4 : Try.prog.cellsOf 31 = 4 := by kernel_rfl
  cases fuel with
  | zero => simp [DataW.trod] at hf
  | succ m =>
    rw [DataW.trod_step] at hf
    unfold DataW.trodStep at hf
    simp only [Try.underlying31, Value.cells] at hf
    split at hf
    · rename_i hl
      simp only [Option.map_eq_some_iff] at hf
      obtain ⟨ys, hy, -⟩ := hf
      rw [hc8] at hy
      rw [hc4] at hl
      rw [show List.range 4 = [0, 1, 2, 3] from rfl] at hy
      simp only [List.mapM_cons, List.mapM_nil, bind, Option.bind_eq_some_iff, pure] at hy
      obtain ⟨y0, h0, t0, ⟨y1, h1, t1, ⟨y2, h2, t2, ⟨y3, h3, -⟩, -⟩, -⟩, -⟩ := hy
      obtain ⟨xs⟩ := cs
      match xs, hl with
      | [v0, v1, v2, v3], _ =>
        obtain ⟨a, ea, -, wa⟩ := DataW.trod_int Try.underlying30 h0
        obtain ⟨b, eb, -, wb⟩ := DataW.trod_int Try.underlying30 h1
        obtain ⟨c, ec, -, wc⟩ := DataW.trod_int Try.underlying30 h2
        obtain ⟨e, ee, -, we⟩ := DataW.trod_int Try.underlying30 h3
        simp at ea eb ec ee
        exact ⟨a, b, c, e, by rw [ea, eb, ec, ee], bounds_i8 wa, bounds_i8 wb, bounds_i8 wc, bounds_i8 we⟩
    · cases hf
end
end Go.Proofs.Ythcmljknpealhaa.RZ
