/-
  Arguments that are bytes or lines, opened: their values, what their cells hold, and a bound on them by their bulk.
  How long an argument's slices can be, by the reach of the form.
  An argument that is a slice of integers, opened: with its capacity, and each number's bounds.
  An argument that is a slice of pairs, opened: with its capacity, and each number's bounds.
  An argument that is a slice of chunks, or three small numbers, opened.
-/
import Derived.Test.YtcnnbchaelboeaaGca
import Derived.Test.YtcnnbchaelboeaaGcp
import Derived.Test.YtcnnbchaelboeaaGcb
import Derived.Deep.SlicePairs
import Derived.SizedLaws
import Derived.Lib.SmallJoins
import Derived.Test.YtcnnbchaelboeaaGcd
import Derived.Test.YtcnnbchaelboeaaGcm
namespace Go.Proofs.Ytcnnbchaelboeaa.R
open Go.ChangeShapes Go.WideShapes Go.ChangeAt Go.RowKit

theorem cellsByte : Try.prog.cellsOf 5 = 1 := by kernel_rfl
theorem cellsStr : Try.prog.cellsOf 9 = 1 := by kernel_rfl
theorem cellsBool : Try.prog.cellsOf 4 = 1 := by kernel_rfl
theorem bulk_lits {H : Type} (k : IntKind) : ∀ zs : List Int, Rows.uptoBulkAll (lits (H := H) k zs) = zs.length
  | [] => rfl
  | z :: r => by
    have := bulk_lits (H := H) k r
    simp only [lits, List.map_cons, Rows.uptoBulkAll, Rows.uptoBulk, List.length_cons] at this ⊢
    omega
def textOf : Value → List UInt8
  | .string s => s.data.toList
  | _ => []
def bareOf : Value → Bool
  | .bool b => b
  | _ => false
theorem bulk_pairs {H : Type} (D0 D1 : Nat → DataW H) (f : Nat → List UInt8 × Bool) : ∀ is : List Nat, (∀ i ∈ is, D0 i = .lit (.string (f i).1)) → P.bulk (is.map f) ≤ Rows.uptoBulkAll (is.map fun i => .agg [D0 i, D1 i])
  | [], _ => Nat.le_refl _
  | i :: r, h => by
    have ih := bulk_pairs D0 D1 f r (fun j hj => h j (by simp [hj]))
    rw [List.map_cons, List.map_cons, show f i = ((f i).1, (f i).2) from rfl, P.bulk]
    simp only [Rows.uptoBulkAll, Rows.uptoBulk, h i (by simp)]
    omega
end Go.Proofs.Ytcnnbchaelboeaa.R

namespace Go.Proofs.Ytcnnbchaelboeaa.RZ
set_option linter.unusedVariables false
set_option linter.unusedSimpArgs false
open Go.ChangeShapes Go.WideShapes Go.ChangeAt Go.RowKit Go.Joins
section
variable {H : Type} {enc : TypeId × Value → H} {w : World} {base : Nat} {spare : Nat → Bool} {held : Bool}
theorem slice_shape {t e : TypeId} {A : Option Addr} {n cap : Nat} {d : DataW H} {p : List MemPlace} (hu : Try.prog.underlying t = some (.slice e)) (h : DataW.Trod enc Try.prog w base spare held t (.slice A n cap) d p) :
    (n = 0 ∧ d = .nil) ∨ ∃ es sp, d = .slice es sp ∧ es.length = n := by
  obtain ⟨fuel, hf⟩ := h
  rcases Deep.open_slice hu hf with ⟨hcs, hx⟩ | ⟨a, len, cap', m, k, D, Pl, hcs, _, _, _, _, hx, _⟩
  · simp only [Value.cells, List.cons.injEq, Value.slice.injEq, and_true] at hcs
    obtain ⟨rfl, rfl, rfl⟩ := hcs
    injection hx with h1 h2
    exact .inl ⟨rfl, h1⟩
  · simp only [Value.cells, List.cons.injEq, Value.slice.injEq, and_true] at hcs
    obtain ⟨rfl, rfl, rfl⟩ := hcs
    injection hx with h1 h2
    exact .inr ⟨_, _, h1, by simp⟩
theorem slice_size {ts : List TypeId} {ds : List (DataW H)} (hs : (DataW.weightsEach Try.prog ts ds).all (· ≤ reachBytes) = true) {j : Nat} {t e : TypeId} {A : Option Addr} {n cap : Nat} {d : DataW H} {p : List MemPlace} (ht : ts[j]? = some t) (hd : ds[j]? = some d) (hu : Try.prog.underlying t = some (.slice e)) (h : DataW.Trod enc Try.prog w base spare held t (.slice A n cap) d p) :
    n * Try.prog.bytesOf e ≤ reachBytes := by
  rcases slice_shape hu h with ⟨rfl, -⟩ | ⟨es, sp, rfl, rfl⟩
  · simp
  · exact Nat.le_trans (Nat.mul_le_mul_right _ (Nat.le_add_right _ _)) (sized_slice hs ht hd hu)
theorem bytesInt : Try.prog.bytesOf 3 = 8 := by kernel_rfl
end
end Go.Proofs.Ytcnnbchaelboeaa.RZ

namespace Go.Proofs.Ytcnnbchaelboeaa.RZ
open Go.ChangeShapes Go.WideShapes Go.ChangeAt Go.RowKit Go.Joins
end Go.Proofs.Ytcnnbchaelboeaa.RZ

namespace Go.Proofs.Ytcnnbchaelboeaa.RZ
set_option linter.unusedVariables false
set_option linter.unusedSimpArgs false
open Go.ChangeShapes Go.WideShapes Go.ChangeAt Go.RowKit Go.Deep Go.Joins
section
variable {H : Type} {enc : TypeId × Value → H} {w : World} {base : Nat} {spare : Nat → Bool} {held : Bool}
theorem cellsPr : Try.prog.cellsOf 44 = 2 := by kernel_rfl
set_option maxRecDepth 100000 in
theorem pr_trod {fuel : Nat} {cs : List Value} {x : DataW H × List MemPlace} (h : DataW.trod enc Try.prog w base spare held fuel 44 cs = some x) :
    ∃ p : Int × Int, cs = [.int .i64 p.1, .int .i64 p.2] ∧ (Lit.int .i64 p.1).wf = true ∧ (Lit.int .i64 p.2).wf = true := by
  cases fuel with
  | zero => simp [DataW.trod] at h
  | succ m =>
    rw [DataW.trod_step] at h
    unfold DataW.trodStep at h
    simp only [Try.underlying44] at h
    split at h
    · rename_i hl
      simp only [Option.map_eq_some_iff] at h
      obtain ⟨ys, hy, -⟩ := h
      rw [R.cellsInt] at hy
      rw [cellsPr] at hl
      rw [show List.range 2 = [0, 1] from rfl] at hy
      simp only [List.mapM_cons, List.mapM_nil, bind, Option.bind_eq_some_iff, pure] at hy
      obtain ⟨y0, h0, t, ⟨y1, h1, -⟩, -⟩ := hy
      match cs, hl with
      | [v0, v1], _ =>
        obtain ⟨a, ea, -, wa⟩ := DataW.trod_int Try.underlying3 h0
        obtain ⟨b, eb, -, wb⟩ := DataW.trod_int Try.underlying3 h1
        simp at ea eb
        exact ⟨(a, b), by rw [ea, eb], wa, wb⟩
    · cases h
set_option maxRecDepth 100000 in
theorem prs_arg {r : Reach} {b0 : Nat} {v : Value} {d : DataW H} {p : List MemPlace} (hv : Value.okWide Try.prog w r b0 22 v) (h : DataW.Trod enc Try.prog w base spare held 22 v d p) :
    ∃ (A : Option Addr) (cap : Nat) (ps : List (Int × Int)), v = .slice A ps.length cap ∧ ps.length ≤ maxLen ∧ ps.length ≤ cap ∧ N.PrIn w A ps ∧ ∀ z ∈ ps, (-9223372036854775808 ≤ z.1 ∧ z.1 ≤ 9223372036854775807) ∧ -9223372036854775808 ≤ z.2 ∧ z.2 ≤ 9223372036854775807 := by
  obtain ⟨a0, len, cap, rfl⟩ := okWide_slice Try.underlying22 hv
  obtain ⟨fuel, hf⟩ := h
  rcases Deep.open_slice Try.underlying22 hf with ⟨hcs, hx⟩ | ⟨a, len', cap', m, n, D, Pl, hcs, _, hl, hm, hmm, hx, hcell⟩
  · simp only [Value.cells, List.cons.injEq, Value.slice.injEq, and_true] at hcs
    obtain ⟨rfl, rfl, rfl⟩ := hcs
    exact ⟨none, 0, [], rfl, Nat.zero_le _, Nat.le_refl _, fun h => absurd h (by simp), fun z hz => by simp at hz⟩
  · simp only [Value.cells, List.cons.injEq, Value.slice.injEq, and_true] at hcs
    obtain ⟨rfl, rfl, rfl⟩ := hcs
    have hle : len ≤ m := by rw [hmm]; split <;> omega
    obtain ⟨ps, hps, hp⟩ : ∃ ps : List (Int × Int), ps.length = len ∧ ∀ (i : Nat) (h : i < ps.length), (w.cell? (a.add (i * 2)) = some (.int .i64 ps[i].1) ∧ w.cell? (a.add (i * 2 + 1)) = some (.int .i64 ps[i].2)) ∧ (Lit.int .i64 ps[i].1).wf = true ∧ (Lit.int .i64 ps[i].2).wf = true := by
      have each : ∀ i, i < len → ∃ q : Int × Int, (w.cell? (a.add (i * 2)) = some (.int .i64 q.1) ∧ w.cell? (a.add (i * 2 + 1)) = some (.int .i64 q.2)) ∧ (Lit.int .i64 q.1).wf = true ∧ (Lit.int .i64 q.2).wf = true := fun i hi => by
        obtain ⟨cs', h1, h2⟩ := hcell i (by omega)
        rw [cellsPr] at h1
        obtain ⟨_, hlen, hat⟩ := World.cells?_some h1
        obtain ⟨q, rfl, w1, w2⟩ := pr_trod h2
        have e0 := hat 0 (by omega)
        have e1 := hat 1 (by omega)
        rw [add_add] at e0 e1
        exact ⟨q, ⟨by simpa using e0, by simpa using e1⟩, w1, w2⟩
      obtain ⟨f, hf⟩ := Deep.choose_lt each
      refine ⟨(List.range len).map f, by simp, fun i h => ?_⟩
      simp only [List.getElem_map, List.getElem_range]
      exact hf i (by simpa using h)
    refine ⟨some a, cap, ps, by rw [hps], by omega, by omega, fun h0 => ?_, fun z hz => ?_⟩
    · obtain ⟨bk, off, spot⟩ := a
      have hspot : spot = none := by simpa [Addr.add] using World.cell?_spot (hp 0 h0).1.1
      subst hspot
      refine ⟨bk, off, rfl, World.block_lt_of_cell? w _ (hp 0 h0).1.1, fun j hj => ?_⟩
      obtain ⟨⟨c0, c1⟩, -⟩ := hp j hj
      rw [add_plain] at c0 c1
      rw [← Nat.add_assoc] at c1
      exact ⟨c0, c1⟩
    · obtain ⟨j, hj, rfl⟩ := List.mem_iff_getElem.1 hz
      exact ⟨bounds_i64 (hp j hj).2.1, bounds_i64 (hp j hj).2.2⟩
end
end Go.Proofs.Ytcnnbchaelboeaa.RZ

namespace Go.Proofs.Ytcnnbchaelboeaa.RZ
set_option linter.unusedVariables false
set_option linter.unusedSimpArgs false
open Go.ChangeShapes Go.WideShapes Go.ChangeAt Go.RowKit Go.Deep Go.Joins
section
variable {H : Type} {enc : TypeId × Value → H} {w : World} {base : Nat} {spare : Nat → Bool} {held : Bool}
theorem ckInt : Try.prog.cellsOf 3 = 1 := by kernel_rfl
theorem ckBool : Try.prog.cellsOf 4 = 1 := by kernel_rfl
theorem ckChunk : Try.prog.cellsOf 35 = 7 := by kernel_rfl
theorem list7 {α : Type} {l : List α} (h : l.length = 7) : ∃ a b c d e f g, l = [a, b, c, d, e, f, g] := by
  match l, h with
  | [a, b, c, d, e, f, g], _ => exact ⟨a, b, c, d, e, f, g, rfl⟩
set_option maxRecDepth 100000 in
theorem chunk_fields {fuel : Nat} {x : DataW H × List MemPlace} {c0 c1 c2 c3 c4 c5 c6 : Value} (h : DataW.trod enc Try.prog w base spare held fuel 35 [c0, c1, c2, c3, c4, c5, c6] = some x) :
    ∃ (n : Nat) (y0 y1 y2 y3 y4 y5 y6 : DataW H × List MemPlace), DataW.trod enc Try.prog w base spare held n 4 [c0] = some y0 ∧ DataW.trod enc Try.prog w base spare held n 3 [c1] = some y1 ∧ DataW.trod enc Try.prog w base spare held n 3 [c2] = some y2 ∧ DataW.trod enc Try.prog w base spare held n 3 [c3] = some y3 ∧ DataW.trod enc Try.prog w base spare held n 3 [c4] = some y4 ∧ DataW.trod enc Try.prog w base spare held n 3 [c5] = some y5 ∧ DataW.trod enc Try.prog w base spare held n 3 [c6] = some y6 := by
  obtain ⟨xs, n, -, -, -, hlen, hf⟩ := DataW.trod_struct Try.underlying35 h
  have hlen : xs.length = 7 := hlen
  obtain ⟨y0, y1, y2, y3, y4, y5, y6, rfl⟩ := list7 hlen
  refine ⟨n, y0, y1, y2, y3, y4, y5, y6, ?_, ?_, ?_, ?_, ?_, ?_, ?_⟩
  · have this : DataW.trod enc Try.prog w base spare held n 4 (([c0, c1, c2, c3, c4, c5, c6].drop 0).take (Try.prog.cellsOf 4)) = [y0, y1, y2, y3, y4, y5, y6][0]? := hf 0 _ rfl
    rw [ckBool] at this
    exact this
  · have this : DataW.trod enc Try.prog w base spare held n 3 (([c0, c1, c2, c3, c4, c5, c6].drop 1).take (Try.prog.cellsOf 3)) = [y0, y1, y2, y3, y4, y5, y6][1]? := hf 1 _ rfl
    rw [ckInt] at this
    exact this
  · have this : DataW.trod enc Try.prog w base spare held n 3 (([c0, c1, c2, c3, c4, c5, c6].drop 2).take (Try.prog.cellsOf 3)) = [y0, y1, y2, y3, y4, y5, y6][2]? := hf 2 _ rfl
    rw [ckInt] at this
    exact this
  · have this : DataW.trod enc Try.prog w base spare held n 3 (([c0, c1, c2, c3, c4, c5, c6].drop 3).take (Try.prog.cellsOf 3)) = [y0, y1, y2, y3, y4, y5, y6][3]? := hf 3 _ rfl
    rw [ckInt] at this
    exact this
  · have this : DataW.trod enc Try.prog w base spare held n 3 (([c0, c1, c2, c3, c4, c5, c6].drop 4).take (Try.prog.cellsOf 3)) = [y0, y1, y2, y3, y4, y5, y6][4]? := hf 4 _ rfl
    rw [ckInt] at this
    exact this
  · have this : DataW.trod enc Try.prog w base spare held n 3 (([c0, c1, c2, c3, c4, c5, c6].drop 5).take (Try.prog.cellsOf 3)) = [y0, y1, y2, y3, y4, y5, y6][5]? := hf 5 _ rfl
    rw [ckInt] at this
    exact this
  · have this : DataW.trod enc Try.prog w base spare held n 3 (([c0, c1, c2, c3, c4, c5, c6].drop 6).take (Try.prog.cellsOf 3)) = [y0, y1, y2, y3, y4, y5, y6][6]? := hf 6 _ rfl
    rw [ckInt] at this
    exact this
theorem chunk_read {fuel : Nat} {cs : List Value} {x : DataW H × List MemPlace} (hl : cs.length = 7) (h : DataW.trod enc Try.prog w base spare held fuel 35 cs = some x) : ∃ c : Ck.Ck, cs = [.bool c.st, .int .i64 c.o, .int .i64 c.on, .int .i64 c.a, .int .i64 c.an, .int .i64 c.b, .int .i64 c.bn] := by
  obtain ⟨c0, c1, c2, c3, c4, c5, c6, rfl⟩ := list7 hl
  obtain ⟨n, y0, y1, y2, y3, y4, y5, y6, h0, h1, h2, h3, h4, h5, h6⟩ := chunk_fields h
  obtain ⟨st, e0, -⟩ := DataW.trod_bool Try.underlying4 h0
  obtain ⟨i1, e1, -, -⟩ := DataW.trod_int Try.underlying3 h1
  obtain ⟨i2, e2, -, -⟩ := DataW.trod_int Try.underlying3 h2
  obtain ⟨i3, e3, -, -⟩ := DataW.trod_int Try.underlying3 h3
  obtain ⟨i4, e4, -, -⟩ := DataW.trod_int Try.underlying3 h4
  obtain ⟨i5, e5, -, -⟩ := DataW.trod_int Try.underlying3 h5
  obtain ⟨i6, e6, -, -⟩ := DataW.trod_int Try.underlying3 h6
  simp at e0 e1 e2 e3 e4 e5 e6
  exact ⟨⟨st, i1, i2, i3, i4, i5, i6⟩, by rw [e0, e1, e2, e3, e4, e5, e6]⟩
instance : Inhabited Ck.Ck := ⟨⟨false, 0, 0, 0, 0, 0, 0⟩⟩
set_option maxRecDepth 100000 in
theorem cks_arg {r : Reach} {b0 : Nat} {v : Value} {d : DataW H} {p : List MemPlace} (hv : Value.okWide Try.prog w r b0 24 v) (h : DataW.Trod enc Try.prog w base spare held 24 v d p) :
    ∃ (A : Option Addr) (cap : Nat) (l : List Ck.Ck), v = .slice A l.length cap ∧ l.length ≤ maxLen ∧ Ck.CkIn w A l := by
  obtain ⟨a0, len, cap, rfl⟩ := okWide_slice Try.underlying24 hv
  obtain ⟨fuel, hf⟩ := h
  rcases Deep.open_slice Try.underlying24 hf with ⟨hcs, hx⟩ | ⟨a, len', cap', m, n, D, Pl, hcs, _, hl, hm, hmm, hx, hcell⟩
  · simp only [Value.cells, List.cons.injEq, Value.slice.injEq, and_true] at hcs
    obtain ⟨rfl, rfl, rfl⟩ := hcs
    exact ⟨none, 0, [], rfl, Nat.zero_le _, fun h => absurd h (by simp)⟩
  · simp only [Value.cells, List.cons.injEq, Value.slice.injEq, and_true] at hcs
    obtain ⟨rfl, rfl, rfl⟩ := hcs
    have hle : len ≤ m := by rw [hmm]; split <;> omega
    obtain ⟨f, hf⟩ := choose_lt (n := len) (p := fun i (c : Ck.Ck) => w.cell? (a.add (i * 7 + 0)) = some (.bool c.st) ∧ w.cell? (a.add (i * 7 + 1)) = some (.int .i64 c.o) ∧ w.cell? (a.add (i * 7 + 2)) = some (.int .i64 c.on) ∧ w.cell? (a.add (i * 7 + 3)) = some (.int .i64 c.a) ∧ w.cell? (a.add (i * 7 + 4)) = some (.int .i64 c.an) ∧ w.cell? (a.add (i * 7 + 5)) = some (.int .i64 c.b) ∧ w.cell? (a.add (i * 7 + 6)) = some (.int .i64 c.bn)) (fun i hi => by
      obtain ⟨cs', c1, c2⟩ := hcell i (by omega)
      rw [ckChunk] at c1
      obtain ⟨_, hlen, hat⟩ := World.cells?_some c1
      obtain ⟨c, rfl⟩ := chunk_read (by simpa using hlen) c2
      have q0 := hat 0 (by omega)
      have q1 := hat 1 (by omega)
      have q2 := hat 2 (by omega)
      have q3 := hat 3 (by omega)
      have q4 := hat 4 (by omega)
      have q5 := hat 5 (by omega)
      have q6 := hat 6 (by omega)
      rw [Go.Deep.add_add] at q0 q1 q2 q3 q4 q5 q6
      exact ⟨c, q0, q1, q2, q3, q4, q5, q6⟩)
    have htl : ((List.range len).map f).length = len := by simp
    refine ⟨some a, cap, (List.range len).map f, by rw [htl], by rw [htl]; omega, fun hp => ?_⟩
    rw [htl] at hp
    obtain ⟨bk, off, spot⟩ := a
    have hspot : spot = none := by simpa [Addr.add] using World.cell?_spot (hf 0 hp).1
    subst hspot
    have h0 := (hf 0 hp).1
    refine ⟨bk, off, rfl, World.block_lt_of_cell? w _ h0, fun j hj => ?_⟩
    rw [htl] at hj
    have := hf j hj
    simp only [add_plain, ← Nat.add_assoc, Nat.add_zero] at this
    simp only [List.getElem_map, List.getElem_range]
    exact this
set_option maxRecDepth 100000 in
theorem arr3i_arg {r : Reach} {b0 : Nat} {v : Value} {d : DataW H} {p : List MemPlace} (hv : Value.okWide Try.prog w r b0 32 v) (h : DataW.Trod enc Try.prog w base spare held 32 v d p) :
    ∃ a b c : Int, v = .agg #[.int .i8 a, .int .i8 b, .int .i8 c] ∧ (-128 ≤ a ∧ a ≤ 127) ∧ (-128 ≤ b ∧ b ≤ 127) ∧ (-128 ≤ c ∧ c ≤ 127) := by
  simp only [Value.okWide, Try.underlying32] at hv
  obtain ⟨cs, rfl, h2, -⟩ := hv
  obtain ⟨fuel, hf⟩ := h
  have hc1 : Try.prog.cellsOf 31 = 1 := by kernel_rfl
  have hc3 : Try.prog.cellsOf 32 = 3 := by kernel_rfl
  cases fuel with
  | zero => simp [DataW.trod] at hf
  | succ m =>
    rw [DataW.trod_step] at hf
    unfold DataW.trodStep at hf
    simp only [Try.underlying32, Value.cells] at hf
    split at hf
    · rename_i hl
      simp only [Option.map_eq_some_iff] at hf
      obtain ⟨ys, hy, -⟩ := hf
      rw [hc1] at hy
      rw [hc3] at hl
      rw [show List.range 3 = [0, 1, 2] from rfl] at hy
      simp only [List.mapM_cons, List.mapM_nil, bind, Option.bind_eq_some_iff, pure] at hy
      obtain ⟨y0, h0, t0, ⟨y1, h1, t1, ⟨y2, h2, -⟩, -⟩, -⟩ := hy
      obtain ⟨xs⟩ := cs
      match xs, hl with
      | [v0, v1, v2], _ =>
        obtain ⟨a, ea, -, wa⟩ := DataW.trod_int Try.underlying31 h0
        obtain ⟨b, eb, -, wb⟩ := DataW.trod_int Try.underlying31 h1
        obtain ⟨c, ec, -, wc⟩ := DataW.trod_int Try.underlying31 h2
        simp at ea eb ec
        exact ⟨a, b, c, by rw [ea, eb, ec], bounds_i8 wa, bounds_i8 wb, bounds_i8 wc⟩
    · cases hf
set_option maxRecDepth 100000 in
theorem arr3u_arg {r : Reach} {b0 : Nat} {v : Value} {d : DataW H} {p : List MemPlace} (hv : Value.okWide Try.prog w r b0 33 v) (h : DataW.Trod enc Try.prog w base spare held 33 v d p) :
    ∃ a b c : Int, v = .agg #[.int .u8 a, .int .u8 b, .int .u8 c] ∧ (0 ≤ a ∧ a ≤ 255) ∧ (0 ≤ b ∧ b ≤ 255) ∧ (0 ≤ c ∧ c ≤ 255) := by
  simp only [Value.okWide, Try.underlying33] at hv
  obtain ⟨cs, rfl, h2, -⟩ := hv
  obtain ⟨fuel, hf⟩ := h
  have hc1 : Try.prog.cellsOf 5 = 1 := by kernel_rfl
  have hc3 : Try.prog.cellsOf 33 = 3 := by kernel_rfl
  cases fuel with
  | zero => simp [DataW.trod] at hf
  | succ m =>
    rw [DataW.trod_step] at hf
    unfold DataW.trodStep at hf
    simp only [Try.underlying33, Value.cells] at hf
    split at hf
    · rename_i hl
      simp only [Option.map_eq_some_iff] at hf
      obtain ⟨ys, hy, -⟩ := hf
      rw [hc1] at hy
      rw [hc3] at hl
      rw [show List.range 3 = [0, 1, 2] from rfl] at hy
      simp only [List.mapM_cons, List.mapM_nil, bind, Option.bind_eq_some_iff, pure] at hy
      obtain ⟨y0, h0, t0, ⟨y1, h1, t1, ⟨y2, h2, -⟩, -⟩, -⟩ := hy
      obtain ⟨xs⟩ := cs
      match xs, hl with
      | [v0, v1, v2], _ =>
        obtain ⟨a, ea, -, wa⟩ := DataW.trod_int Try.underlying5 h0
        obtain ⟨b, eb, -, wb⟩ := DataW.trod_int Try.underlying5 h1
        obtain ⟨c, ec, -, wc⟩ := DataW.trod_int Try.underlying5 h2
        simp at ea eb ec
        exact ⟨a, b, c, by rw [ea, eb, ec], bounds_u8 wa, bounds_u8 wb, bounds_u8 wc⟩
    · cases hf
end
end Go.Proofs.Ytcnnbchaelboeaa.RZ
