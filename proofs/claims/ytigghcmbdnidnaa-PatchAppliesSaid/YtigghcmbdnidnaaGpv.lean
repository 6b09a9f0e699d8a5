/-
  How often a number stands in a row; what the law PatchParts leans on.
  An argument that is hunks, opened, with its bulk.
-/
import Derived.Test.YtigghcmbdnidnaaGps
import Derived.Test.YtigghcmbdnidnaaGpb
import Derived.Test.YtigghcmbdnidnaaGpu
import Derived.Test.YtigghcmbdnidnaaGpm
namespace Go.Proofs.Ytigghcmbdnidnaa.Pa
open Go.RowKit
open T S H
open V (numCells)
open I (alloc1)
open N (Ln)
open M (made_row)

/-- How often each number below n stands in a row. -/
def cn (l : List Int) (n : Nat) : List Int := (List.range n).map fun (k : Nat) => ((l.count (k : Int) : Nat) : Int)
theorem cn_len (l : List Int) (n : Nat) : (cn l n).length = n := by simp [cn]
theorem cn_at (l : List Int) {n k : Nat} (h : k < n) : (cn l n)[k]'(by rw [cn_len]; exact h) = ((l.count (k : Int) : Nat) : Int) := by simp [cn]
theorem cn_nil (n : Nat) : cn [] n = List.replicate n 0 := by
  apply List.ext_getElem
  · simp [cn]
  · intro i h1 h2
    simp [cn]
theorem cn_set (l : List Int) {n p : Nat} (_h : p < n) : (cn l n).set p (((l.count (p : Int) : Nat) : Int) + 1) = cn (l ++ [(p : Int)]) n := by
  apply List.ext_getElem
  · simp [cn]
  · intro i h1 h2
    rw [List.getElem_set]
    have hi : i < n := by simpa [cn_len] using h2
    by_cases e : p = i
    · subst e
      rw [if_pos rfl, cn_at _ hi, List.count_append]
      simp
    · rw [if_neg e, cn_at _ hi, cn_at _ hi, List.count_append]
      have : List.count (i : Int) [(p : Int)] = 0 := by
        rw [List.count_eq_zero]
        intro hm
        have := List.mem_singleton.1 hm
        omega
      rw [this]; simp
theorem map_take_snoc {α β : Type} (f : α → β) {l : List α} {k : Nat} (h : k < l.length) : (l.take (k + 1)).map f = (l.take k).map f ++ [f l[k]] := by
  rw [List.take_succ_eq_append_getElem h, List.map_append]; rfl
theorem app_take_snoc {l m : List Int} {k : Nat} (h : k < m.length) : l ++ m.take (k + 1) = (l ++ m.take k) ++ [m[k]] := by
  rw [List.take_succ_eq_append_getElem h, List.append_assoc]
/-- Two rows of counts in blocks of their own. -/
structure Two (w0 w : World) (g1 g2 : Nat) (xs ys : List Int) : Prop where
  r1 : M.Row w g1 xs
  r2 : M.Row w g2 ys
  ne : g1 ≠ g2
  l1 : w0.heap.size ≤ g1
  l2 : w0.heap.size ≤ g2
  b : Below w0.heap.size w0 w
theorem Two.set1 {w0 w : World} {g1 g2 : Nat} {xs ys : List Int} (h : Two w0 w g1 g2 xs ys) (j : Nat) (z : Int) : Two w0 (w.setCell ⟨g1, j, none⟩ (.int .i64 z)) g1 g2 (xs.set j z) ys :=
  ⟨h.r1.set j z, by unfold M.Row; rw [L.blk_far (Ne.symm h.ne)]; exact h.r2, h.ne, h.l1, h.l2, h.b.setCell (p := ⟨g1, j, none⟩) h.l1 _⟩
theorem Two.set2 {w0 w : World} {g1 g2 : Nat} {xs ys : List Int} (h : Two w0 w g1 g2 xs ys) (j : Nat) (z : Int) : Two w0 (w.setCell ⟨g2, j, none⟩ (.int .i64 z)) g1 g2 xs (ys.set j z) :=
  ⟨by unfold M.Row; rw [L.blk_far h.ne]; exact h.r1, h.r2.set j z, h.ne, h.l1, h.l2, h.b.setCell (p := ⟨g2, j, none⟩) h.l2 _⟩
theorem Two.below {w0 w w' : World} {g1 g2 : Nat} {xs ys : List Int} (h : Two w0 w g1 g2 xs ys) (hb : Below w.heap.size w w') : Two w0 w' g1 g2 xs ys :=
  ⟨h.r1.kept hb, h.r2.kept hb, h.ne, h.l1, h.l2, h.b.trans (hb.mono h.b.size)⟩
theorem two_new (w : World) (n m : Nat) : Two w ((w.alloc (.cells (madeCells #[.int .i64 0] n) 3)).alloc (.cells (madeCells #[.int .i64 0] m) 3)) w.heap.size (w.heap.size + 1) (List.replicate n 0) (List.replicate m 0) :=
  ⟨(show M.Row (w.alloc _) w.heap.size (List.replicate n 0) by unfold M.Row; rw [made_row]; exact heap_alloc_new w _).kept (alloc1 _ _), by unfold M.Row; rw [made_row n, made_row m]; have := heap_alloc_new (w.alloc (.cells (numCells (List.replicate n 0)).toArray 3)) (.cells (numCells (List.replicate m 0)).toArray 3); simpa using this, by omega, Nat.le_refl _, by omega, (alloc1 w _).trans ((alloc1 _ _).mono (by simp))⟩
theorem Two.turn {w0 w : World} {g1 g2 : Nat} {xs ys : List Int} (h : Two w0 w g1 g2 xs ys) : Two w0 w g2 g1 ys xs := ⟨h.r2, h.r1, h.ne.symm, h.l2, h.l1, h.b⟩
/-- What is told is not long. -/
theorem tld_len (hs : List Hk) (a : List Ln) : (tld hs a).length ≤ 800 := by
  unfold tld
  rw [tks_len]
  by_cases h : (mde hs a).2 = 0
  · obtain ⟨h1, -, -, -, h5⟩ := mde_ok h
    rw [h5, ← tl_flat]
    have := whl_is h1
    exact this.tl
  · rw [(mde_bad h).2.1]; simp [flat]
theorem mde_old {hs : List Hk} {a : List Ln} (h : (mde hs a).2 = 0) : a.length ≤ 400 := (whl_ok (mde_ok h).1).2.1
end Go.Proofs.Ytigghcmbdnidnaa.Pa

namespace Go.Proofs.Ytigghcmbdnidnaa.RH
set_option linter.unusedVariables false
set_option linter.unusedSimpArgs false
open Go.ChangeShapes Go.WideShapes Go.ChangeAt Go.RowKit Go.Deep Go.Joins
theorem cHunk : Try.prog.cellsOf 65 = 5 := by kernel_rfl
theorem cEds : Try.prog.cellsOf 40 = 1 := by kernel_rfl
theorem bulk_pos {H : Type} : ∀ d : DataW H, 1 ≤ Rows.uptoBulk d
  | .lit (.string b) => by simp [Rows.uptoBulk]
  | .lit (.bool _) => by simp [Rows.uptoBulk]
  | .lit (.int _ _) => by simp [Rows.uptoBulk]
  | .nil => by simp [Rows.uptoBulk]
  | .ptr d => by simp [Rows.uptoBulk]
  | .slice _ _ => by simp [Rows.uptoBulk]
  | .agg _ => by simp [Rows.uptoBulk]
  | .iface _ _ => by simp [Rows.uptoBulk]
  | .map _ => by simp [Rows.uptoBulk]
  | .held _ => by simp [Rows.uptoBulk]
  | d => by cases d <;> (try simp [Rows.uptoBulk]) <;> (rename_i l; cases l <;> simp [Rows.uptoBulk])
theorem all_len {H : Type} : ∀ l : List (DataW H), l.length ≤ Rows.uptoBulkAll l
  | [] => Nat.le_refl _
  | d :: r => by
    have := all_len r
    have := bulk_pos d
    simp only [Rows.uptoBulkAll, List.length_cons]; omega
theorem all_mem {H : Type} {l : List (DataW H)} {d : DataW H} (h : d ∈ l) : Rows.uptoBulk d ≤ Rows.uptoBulkAll l := by
  induction l with
  | nil => cases h
  | cons x r ih =>
    simp only [Rows.uptoBulkAll]
    rcases List.mem_cons.1 h with rfl | h
    · omega
    · have := ih h; omega
section
variable {H : Type} {enc : TypeId × Value → H} {w : World} {base : Nat} {spare : Nat → Bool} {held : Bool} {fuel : Nat} {cs : List Value} {x : DataW H × List MemPlace}
theorem slice_bulk {t e : TypeId} (ht : Try.prog.underlying t = some (.slice e)) {A : Option Addr} {n cap : Nat} (h : DataW.trod enc Try.prog w base spare held fuel t [.slice A n cap] = some x) : n ≤ Rows.uptoBulk x.1 := by
  rcases open_slice ht h with ⟨hcs, hx⟩ | ⟨a, len, cap', m, k, D, Pl, hcs, _, hl, hm, hmm, hx, hcell⟩
  · simp only [List.cons.injEq, Value.slice.injEq, and_true] at hcs
    omega
  · simp only [List.cons.injEq, Value.slice.injEq, and_true] at hcs
    obtain ⟨_, rfl, _⟩ := hcs
    rw [hx]
    have := all_len ((List.range n).map D)
    rw [List.length_map, List.length_range] at this
    simp only [Rows.uptoBulk]
    omega
theorem pairs_len (D0 D1 : Nat → DataW H) : ∀ is : List Nat, is.length * 3 ≤ Rows.uptoBulkAll (is.map fun i => DataW.agg [D0 i, D1 i])
  | [] => Nat.le_refl _
  | i :: r => by
    have := pairs_len D0 D1 r
    have := bulk_pos (D0 i)
    have := bulk_pos (D1 i)
    simp only [List.map_cons, List.length_cons, Rows.uptoBulkAll, Rows.uptoBulk]; omega
theorem lines_bulk {A : Option Addr} {n cap : Nat} (h : DataW.trod enc Try.prog w base spare held fuel 23 [.slice A n cap] = some x) : n * 3 ≤ Rows.uptoBulk x.1 := by
  rcases Deep.open_slice_pairs Try.underlying23 Try.underlying59 R.cellsLine rfl rfl R.cellsStr R.cellsBool h with ⟨hcs, hx⟩ | ⟨a, len, cap', m, k, V0, V1, D0, D1, P0, P1, hcs, _, hl, hm, hmm, hx, hcell⟩
  · simp only [List.cons.injEq, Value.slice.injEq, and_true] at hcs
    omega
  · simp only [List.cons.injEq, Value.slice.injEq, and_true] at hcs
    obtain ⟨_, rfl, _⟩ := hcs
    rw [hx]
    have := pairs_len D0 D1 (List.range n)
    rw [List.length_range] at this
    simp only [Rows.uptoBulk]
    omega
theorem eds_readB (h : DataW.trod enc Try.prog w base spare held fuel 40 cs = some x) :
    ∃ (A : Option Addr) (cap : Nat) (es : List S.Ed), cs = [.slice A es.length cap] ∧ S.EdsIn 0 w A es ∧ S.EdsOk es ∧ es.length ≤ cap ∧ (A = none → cap = 0) ∧ es.length ≤ Rows.uptoBulk x.1 ∧ ∀ e ∈ es, e.2.length * 3 ≤ Rows.uptoBulk x.1 ∧ ∀ y ∈ e.2, y.1.length ≤ maxLen := by
  rcases Deep.open_slice_pairs Try.underlying40 Try.underlying54 RZ.cellsEd rfl rfl RZ.cellsStp RZ.cellsLns h with ⟨hcs, hx⟩ | ⟨a, len, cap, m, n, V0, V1, D0, D1, P0, P1, hcs, _, hl, hm, hmm, hx, hcell⟩
  · exact ⟨none, 0, [], hcs, fun h => absurd h (by simp), ⟨Nat.zero_le _, fun e he => by simp at he⟩, Nat.zero_le _, fun _ => rfl, Nat.zero_le _, fun e he => by simp at he⟩
  · have hle : len ≤ m := by rw [hmm]; split <;> omega
    have hsb : len ≤ Rows.uptoBulk x.1 := by rw [hcs] at h; exact slice_bulk Try.underlying40 h
    have hib : ∀ i, i < len → Rows.uptoBulk (D1 i) ≤ Rows.uptoBulk x.1 := fun i hi => by
      rw [hx]
      have h1 : DataW.agg [D0 i, D1 i] ∈ (List.range len).map fun i => DataW.agg [D0 i, D1 i] := List.mem_map.2 ⟨i, List.mem_range.2 hi, rfl⟩
      have h2 := all_mem h1
      simp only [Rows.uptoBulk, Rows.uptoBulkAll] at h2 ⊢
      omega
    obtain ⟨es, hes, hp⟩ := S.choose_lt (n := len) (p := fun i (e : S.Ed) => w.cell? (a.add (i * 2)) = some (.int .i64 e.1) ∧ (∃ A c, w.cell? (a.add (i * 2 + 1)) = some (.slice A e.2.length c) ∧ T.LinesIn w A e.2 ∧ e.2.length ≤ c ∧ (A = none → c = 0)) ∧ e.2.length ≤ maxLen ∧ e.2.length * 3 ≤ Rows.uptoBulk x.1 ∧ ∀ y ∈ e.2, y.1.length ≤ maxLen) (fun i hi => by
      obtain ⟨c0, c1, t0, t1⟩ := hcell i (by omega)
      obtain ⟨d, hd, _⟩ := DataW.trod_int Try.underlying52 t0
      obtain ⟨A, c, xs, hvv, h1, h2, h3, h4, h5⟩ := RZ.lines_readD t1
      have hb : xs.length * 3 ≤ Rows.uptoBulk (D1 i) := by
        rw [hvv] at t1
        exact lines_bulk t1
      simp only [List.cons.injEq, and_true] at hd hvv
      rw [hd] at c0
      rw [hvv] at c1
      exact ⟨(d, xs), c0, ⟨A, c, c1, h3, h1, h5⟩, Nat.le_trans h1 h2, Nat.le_trans hb (hib i hi), h4⟩)
    refine ⟨some a, cap, es, by rw [hes, hcs], fun h0 => ?_, ⟨by rw [hes]; omega, fun e he => ?_⟩, by rw [hes]; exact hl, (fun e => by cases e), by rw [hes]; exact hsb, fun e he => ?_⟩
    · obtain ⟨bk, off, spot⟩ := a
      have hspot : spot = none := by simpa [Addr.add] using World.cell?_spot (hp 0 h0).1
      subst hspot
      refine ⟨bk, off, rfl, Nat.zero_le _, World.block_lt_of_cell? w _ (hp 0 h0).1, fun j hj => ?_⟩
      obtain ⟨c0, ⟨A, c, c1, h1, h2, h3⟩, -⟩ := hp j hj
      rw [add_plain] at c0 c1
      rw [← Nat.add_assoc] at c1
      exact ⟨A, c, c0, c1, h1, h2, h3, fun p _ => Nat.zero_le _⟩
    · obtain ⟨j, hj, rfl⟩ := List.mem_iff_getElem.1 he
      exact (hp j hj).2.2.1
    · obtain ⟨j, hj, rfl⟩ := List.mem_iff_getElem.1 he
      exact (hp j hj).2.2.2
theorem list5 {α : Type} {l : List α} (h : l.length = 5) : ∃ a b c d e, l = [a, b, c, d, e] := by
  match l, h with
  | [a, b, c, d, e], _ => exact ⟨a, b, c, d, e, rfl⟩
set_option maxRecDepth 100000 in
theorem hunk_fields {c0 c1 c2 c3 c4 : Value} (h : DataW.trod enc Try.prog w base spare held fuel 65 [c0, c1, c2, c3, c4] = some x) :
    ∃ (n : Nat) (y0 y1 y2 y3 y4 : DataW H × List MemPlace), x.1 = .agg [y0.1, y1.1, y2.1, y3.1, y4.1] ∧ DataW.trod enc Try.prog w base spare held n 3 [c0] = some y0 ∧ DataW.trod enc Try.prog w base spare held n 3 [c1] = some y1 ∧ DataW.trod enc Try.prog w base spare held n 3 [c2] = some y2 ∧ DataW.trod enc Try.prog w base spare held n 3 [c3] = some y3 ∧ DataW.trod enc Try.prog w base spare held n 40 [c4] = some y4 := by
  obtain ⟨xs, n, -, hx, -, hlen, hf⟩ := DataW.trod_struct Try.underlying65 h
  have hlen : xs.length = 5 := hlen
  obtain ⟨y0, y1, y2, y3, y4, rfl⟩ := list5 hlen
  refine ⟨n, y0, y1, y2, y3, y4, by rw [hx]; rfl, ?_, ?_, ?_, ?_, ?_⟩
  · have this : DataW.trod enc Try.prog w base spare held n 3 (([c0, c1, c2, c3, c4].drop 0).take (Try.prog.cellsOf 3)) = [y0, y1, y2, y3, y4][0]? := hf 0 _ rfl
    rw [RP.cInt] at this
    exact this
  · have this : DataW.trod enc Try.prog w base spare held n 3 (([c0, c1, c2, c3, c4].drop 1).take (Try.prog.cellsOf 3)) = [y0, y1, y2, y3, y4][1]? := hf 1 _ rfl
    rw [RP.cInt] at this
    exact this
  · have this : DataW.trod enc Try.prog w base spare held n 3 (([c0, c1, c2, c3, c4].drop 2).take (Try.prog.cellsOf 3)) = [y0, y1, y2, y3, y4][2]? := hf 2 _ rfl
    rw [RP.cInt] at this
    exact this
  · have this : DataW.trod enc Try.prog w base spare held n 3 (([c0, c1, c2, c3, c4].drop 3).take (Try.prog.cellsOf 3)) = [y0, y1, y2, y3, y4][3]? := hf 3 _ rfl
    rw [RP.cInt] at this
    exact this
  · have this : DataW.trod enc Try.prog w base spare held n 40 (([c0, c1, c2, c3, c4].drop 4).take (Try.prog.cellsOf 40)) = [y0, y1, y2, y3, y4][4]? := hf 4 _ rfl
    rw [cEds] at this
    exact this
instance : Inhabited Go.Proofs.Ytigghcmbdnidnaa.H.Hk := ⟨⟨0, 0, 0, 0, []⟩⟩
/-- What a hunk's five cells are. -/
theorem hunk_read (hl : cs.length = 5) (h : DataW.trod enc Try.prog w base spare held fuel 65 cs = some x) : ∃ (u : Go.Proofs.Ytigghcmbdnidnaa.H.Hk) (EA : Option Addr) (ec : Nat), cs = [.int .i64 u.oa, .int .i64 u.o, .int .i64 u.na, .int .i64 u.n, .slice EA u.es.length ec] ∧ S.EdsIn 0 w EA u.es ∧ S.EdsOk u.es ∧ u.es.length ≤ ec ∧ (EA = none → ec = 0) ∧ u.es.length ≤ Rows.uptoBulk x.1 ∧ ∀ e ∈ u.es, e.2.length * 3 ≤ Rows.uptoBulk x.1 ∧ ∀ y ∈ e.2, y.1.length ≤ maxLen := by
  obtain ⟨c0, c1, c2, c3, c4, rfl⟩ := list5 hl
  obtain ⟨n, y0, y1, y2, y3, y4, hx, h0, h1, h2, h3, h4⟩ := hunk_fields h
  obtain ⟨i0, e0, -⟩ := DataW.trod_int Try.underlying3 h0
  obtain ⟨i1, e1, -⟩ := DataW.trod_int Try.underlying3 h1
  obtain ⟨i2, e2, -⟩ := DataW.trod_int Try.underlying3 h2
  obtain ⟨i3, e3, -⟩ := DataW.trod_int Try.underlying3 h3
  obtain ⟨EA, ec, es, e4, g1, g2, g3, g4, g5, g6⟩ := eds_readB h4
  have e0' : c0 = .int .i64 i0 := by injection e0
  have e1' : c1 = .int .i64 i1 := by injection e1
  have e2' : c2 = .int .i64 i2 := by injection e2
  have e3' : c3 = .int .i64 i3 := by injection e3
  have e4' : c4 = .slice EA es.length ec := by injection e4
  have hy : Rows.uptoBulk y4.1 ≤ Rows.uptoBulk x.1 := by
    rw [hx]
    simp only [Rows.uptoBulk, Rows.uptoBulkAll]
    omega
  exact ⟨⟨i0, i1, i2, i3, es⟩, EA, ec, by rw [e0', e1', e2', e3', e4'], g1, g2, g3, g4, Nat.le_trans g5 hy, fun e he => ⟨Nat.le_trans (g6 e he).1 hy, (g6 e he).2⟩⟩
theorem join_bulk (D : Nat → DataW H) (f : Nat → Go.Proofs.Ytigghcmbdnidnaa.H.Hk) : ∀ is : List Nat, (∀ i ∈ is, (f i).es.length ≤ Rows.uptoBulk (D i)) → (Go.Proofs.Ytigghcmbdnidnaa.H.join (is.map f)).length ≤ Rows.uptoBulkAll (is.map D)
  | [], _ => Nat.le_refl _
  | i :: r, h => by
    have := join_bulk D f r (fun j hj => h j (by simp [hj]))
    have h1 := h i (by simp)
    simp only [List.map_cons, Go.Proofs.Ytigghcmbdnidnaa.H.join, List.flatMap_cons, List.length_append, Rows.uptoBulkAll] at this ⊢
    omega
theorem hunks_read (h : DataW.trod enc Try.prog w base spare held fuel 22 cs = some x) : ∃ (A : Option Addr) (cap : Nat) (us : List Go.Proofs.Ytigghcmbdnidnaa.H.Hk), cs = [.slice A us.length cap] ∧ Go.Proofs.Ytigghcmbdnidnaa.H.HksIn 0 w A us ∧ Go.Proofs.Ytigghcmbdnidnaa.H.HksOk us ∧ us.length ≤ cap ∧ (Go.Proofs.Ytigghcmbdnidnaa.H.join us).length ≤ Rows.uptoBulk x.1 ∧ ∀ h ∈ us, ∀ e ∈ h.es, e.2.length * 3 ≤ Rows.uptoBulk x.1 ∧ ∀ y ∈ e.2, y.1.length ≤ maxLen := by
  rcases open_slice Try.underlying22 h with ⟨hcs, hx⟩ | ⟨a, len, cap, m, n, D, Pl, hcs, _, hl, hm, hmm, hx, hcell⟩
  · exact ⟨none, 0, [], hcs, fun h => absurd h (by simp), ⟨Nat.zero_le _, fun x hx => (by cases hx)⟩, Nat.zero_le _, Nat.zero_le _, fun h hm => by cases hm⟩
  have hle : len ≤ m := by rw [hmm]; split <;> omega
  obtain ⟨f, hf⟩ := choose_lt (n := len) (p := fun i (u : Go.Proofs.Ytigghcmbdnidnaa.H.Hk) => (∃ EA ec, w.cell? (a.add (i * 5 + 0)) = some (.int .i64 u.oa) ∧ w.cell? (a.add (i * 5 + 1)) = some (.int .i64 u.o) ∧ w.cell? (a.add (i * 5 + 2)) = some (.int .i64 u.na) ∧ w.cell? (a.add (i * 5 + 3)) = some (.int .i64 u.n) ∧ w.cell? (a.add (i * 5 + 4)) = some (.slice EA u.es.length ec) ∧ S.EdsIn 0 w EA u.es ∧ u.es.length ≤ ec ∧ (EA = none → ec = 0)) ∧ S.EdsOk u.es ∧ u.es.length ≤ Rows.uptoBulk (D i) ∧ ∀ e ∈ u.es, e.2.length * 3 ≤ Rows.uptoBulk (D i) ∧ ∀ y ∈ e.2, y.1.length ≤ maxLen) (fun i hi => by
    obtain ⟨cs', c1, c2⟩ := hcell i (by omega)
    rw [cHunk] at c1
    obtain ⟨_, hlen, hat⟩ := World.cells?_some c1
    obtain ⟨u, EA, ec, rfl, g1, g2, g3, g4, g5, g6⟩ := hunk_read (by simpa using hlen) c2
    have q0 := hat 0 (by omega)
    have q1 := hat 1 (by omega)
    have q2 := hat 2 (by omega)
    have q3 := hat 3 (by omega)
    have q4 := hat 4 (by omega)
    rw [Go.Deep.add_add] at q0 q1 q2 q3 q4
    exact ⟨u, ⟨EA, ec, q0, q1, q2, q3, q4, g1, g3, g4⟩, g2, g5, g6⟩)
  have htl : ((List.range len).map f).length = len := by simp
  have hxb : Rows.uptoBulkAll ((List.range len).map D) ≤ Rows.uptoBulk x.1 := by rw [hx]; simp only [Rows.uptoBulk]; omega
  refine ⟨some a, cap, (List.range len).map f, by rw [htl, hcs], fun hp => ?_, ⟨by rw [htl]; omega, fun u hu => ?_⟩, by rw [htl]; exact hl, Nat.le_trans (join_bulk D f _ (fun i hi => (hf i (List.mem_range.1 hi)).2.2.1)) hxb, fun u hu e he => ?_⟩
  · rw [htl] at hp
    obtain ⟨bk, off, spot⟩ := a
    obtain ⟨_, _, h00, -⟩ := (hf 0 hp).1
    have hspot : spot = none := by simpa [Addr.add] using World.cell?_spot h00
    subst hspot
    refine ⟨bk, off, rfl, Nat.zero_le _, World.block_lt_of_cell? w _ h00, fun j hj => ?_⟩
    rw [htl] at hj
    obtain ⟨EA, ec, this⟩ := (hf j hj).1
    simp only [add_plain, ← Nat.add_assoc, Nat.add_zero] at this
    simp only [List.getElem_map, List.getElem_range]
    exact ⟨EA, ec, this⟩
  · obtain ⟨i, hi, rfl⟩ := List.mem_map.1 hu
    exact (hf i (List.mem_range.1 hi)).2.1
  · obtain ⟨i, hi, rfl⟩ := List.mem_map.1 hu
    obtain ⟨k1, k2⟩ := (hf i (List.mem_range.1 hi)).2.2.2 e he
    refine ⟨Nat.le_trans k1 (Nat.le_trans ?_ hxb), k2⟩
    exact all_mem (List.mem_map.2 ⟨i, hi, rfl⟩)
set_option maxRecDepth 100000 in
theorem hunks_arg {r : Reach} {b0 : Nat} {v : Value} {d : DataW H} {p : List MemPlace} (hv : Value.okWide Try.prog w r b0 22 v) (h : DataW.Trod enc Try.prog w base spare held 22 v d p) :
    ∃ (A : Option Addr) (cap : Nat) (us : List Go.Proofs.Ytigghcmbdnidnaa.H.Hk), v = .slice A us.length cap ∧ Go.Proofs.Ytigghcmbdnidnaa.H.HksIn 0 w A us ∧ Go.Proofs.Ytigghcmbdnidnaa.H.HksOk us ∧ us.length ≤ cap ∧ (Go.Proofs.Ytigghcmbdnidnaa.H.join us).length ≤ Rows.uptoBulk d ∧ ∀ h ∈ us, ∀ e ∈ h.es, e.2.length * 3 ≤ Rows.uptoBulk d ∧ ∀ y ∈ e.2, y.1.length ≤ maxLen := by
  obtain ⟨a0, len, cap, rfl⟩ := okWide_slice Try.underlying22 hv
  obtain ⟨fuel, hf⟩ := h
  obtain ⟨A, cap', us, hcs, r⟩ := hunks_read hf
  simp only [Value.cells, List.cons.injEq, Value.slice.injEq, and_true] at hcs
  obtain ⟨rfl, rfl, rfl⟩ := hcs
  exact ⟨_, _, us, rfl, r⟩
end
end Go.Proofs.Ytigghcmbdnidnaa.RH
