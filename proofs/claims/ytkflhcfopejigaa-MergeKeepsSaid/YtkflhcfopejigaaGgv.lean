/-
  An argument that is a slice of chunks, or three small numbers, opened.
  An argument that is a slice of pieces, opened.
  The contract of merge.From for pieces of three texts: where each line of the merge is from.
  The contract of merge.From for pieces of three texts, and what its places are.
-/
import Derived.Test.YtkflhcfopejigaaGgu
import Derived.Test.YtkflhcfopejigaaGgl
import Derived.Test.YtkflhcfopejigaaGgi
namespace Go.Proofs.Ytkflhcfopejigaa.RZ
set_option linter.unusedVariables false
set_option linter.unusedSimpArgs false
open Go.ChangeShapes Go.WideShapes Go.ChangeAt Go.RowKit Go.Deep Go.Joins
section
variable {H : Type} {enc : TypeId × Value → H} {w : World} {base : Nat} {spare : Nat → Bool} {held : Bool}
theorem ckInt : Try.prog.cellsOf 3 = 1 := by kernel_rfl
theorem ckBool : Try.prog.cellsOf 4 = 1 := by kernel_rfl
theorem ckChunk : Try.prog.cellsOf 41 = 7 := by kernel_rfl
theorem list7 {α : Type} {l : List α} (h : l.length = 7) : ∃ a b c d e f g, l = [a, b, c, d, e, f, g] := by
  match l, h with
  | [a, b, c, d, e, f, g], _ => exact ⟨a, b, c, d, e, f, g, rfl⟩
set_option maxRecDepth 100000 in
theorem chunk_fields {fuel : Nat} {x : DataW H × List MemPlace} {c0 c1 c2 c3 c4 c5 c6 : Value} (h : DataW.trod enc Try.prog w base spare held fuel 41 [c0, c1, c2, c3, c4, c5, c6] = some x) :
    ∃ (n : Nat) (y0 y1 y2 y3 y4 y5 y6 : DataW H × List MemPlace), DataW.trod enc Try.prog w base spare held n 4 [c0] = some y0 ∧ DataW.trod enc Try.prog w base spare held n 3 [c1] = some y1 ∧ DataW.trod enc Try.prog w base spare held n 3 [c2] = some y2 ∧ DataW.trod enc Try.prog w base spare held n 3 [c3] = some y3 ∧ DataW.trod enc Try.prog w base spare held n 3 [c4] = some y4 ∧ DataW.trod enc Try.prog w base spare held n 3 [c5] = some y5 ∧ DataW.trod enc Try.prog w base spare held n 3 [c6] = some y6 := by
  obtain ⟨xs, n, -, -, -, hlen, hf⟩ := DataW.trod_struct Try.underlying41 h
  have hlen : xs.length = 7 := hlen
  obtain ⟨y0, y1, y2, y3, y4, y5, y6, rfl⟩ := list7 hlen
  refine ⟨n, y0, y1, y2, y3, y4, y5, y6, ?_, ?_, ?_, ?_, ?_, ?_, ?_⟩
  · have this : DataW.trod enc Try.prog w base spare held n 4 (([c0, c1, c2, c3, c4, c5, c6].drop 0).take (Try.prog.cellsOf 4)) = [y0, y1, y2, y3, y4, y5, y6][0]? := hf 0 _ rfl
    rw [ckBool] at this
    exact this
  · have this : DataW.trod enc Try.prog w base spare held n 3 (([c0, c1, c2, c3, c4, c5, c6].drop 1).take (Try.prog.cellsOf 3)) = [y0, y1, y2, y3, y4, y5, y6][1]? := hf 1 _ rfl
    rw [ckInt] at this
    exact this
  · have this : DataW.trod enc Try.prog w base spare held n 3 (([c0, c1, c2, c3, c4, c5, c6].drop 2).take (Try.prog.cellsOf 3)) = [y0, y1, y2, y3, y4, y5, y6][2]? := hf 2 _ rfl
    rw [ckInt] at this
    exact this
  · have this : DataW.trod enc Try.prog w base spare held n 3 (([c0, c1, c2, c3, c4, c5, c6].drop 3).take (Try.prog.cellsOf 3)) = [y0, y1, y2, y3, y4, y5, y6][3]? := hf 3 _ rfl
    rw [ckInt] at this
    exact this
  · have this : DataW.trod enc Try.prog w base spare held n 3 (([c0, c1, c2, c3, c4, c5, c6].drop 4).take (Try.prog.cellsOf 3)) = [y0, y1, y2, y3, y4, y5, y6][4]? := hf 4 _ rfl
    rw [ckInt] at this
    exact this
  · have this : DataW.trod enc Try.prog w base spare held n 3 (([c0, c1, c2, c3, c4, c5, c6].drop 5).take (Try.prog.cellsOf 3)) = [y0, y1, y2, y3, y4, y5, y6][5]? := hf 5 _ rfl
    rw [ckInt] at this
    exact this
  · have this : DataW.trod enc Try.prog w base spare held n 3 (([c0, c1, c2, c3, c4, c5, c6].drop 6).take (Try.prog.cellsOf 3)) = [y0, y1, y2, y3, y4, y5, y6][6]? := hf 6 _ rfl
    rw [ckInt] at this
    exact this
theorem chunk_read {fuel : Nat} {cs : List Value} {x : DataW H × List MemPlace} (hl : cs.length = 7) (h : DataW.trod enc Try.prog w base spare held fuel 41 cs = some x) : ∃ c : Ck.Ck, cs = [.bool c.st, .int .i64 c.o, .int .i64 c.on, .int .i64 c.a, .int .i64 c.an, .int .i64 c.b, .int .i64 c.bn] := by
  obtain ⟨c0, c1, c2, c3, c4, c5, c6, rfl⟩ := list7 hl
  obtain ⟨n, y0, y1, y2, y3, y4, y5, y6, h0, h1, h2, h3, h4, h5, h6⟩ := chunk_fields h
  obtain ⟨st, e0, -⟩ := DataW.trod_bool Try.underlying4 h0
  obtain ⟨i1, e1, -, -⟩ := DataW.trod_int Try.underlying3 h1
  obtain ⟨i2, e2, -, -⟩ := DataW.trod_int Try.underlying3 h2
  obtain ⟨i3, e3, -, -⟩ := DataW.trod_int Try.underlying3 h3
  obtain ⟨i4, e4, -, -⟩ := DataW.trod_int Try.underlying3 h4
  obtain ⟨i5, e5, -, -⟩ := DataW.trod_int Try.underlying3 h5
  obtain ⟨i6, e6, -, -⟩ := DataW.trod_int Try.underlying3 h6
  simp at e0 e1 e2 e3 e4 e5 e6
  exact ⟨⟨st, i1, i2, i3, i4, i5, i6⟩, by rw [e0, e1, e2, e3, e4, e5, e6]⟩
instance : Inhabited Ck.Ck := ⟨⟨false, 0, 0, 0, 0, 0, 0⟩⟩
set_option maxRecDepth 100000 in
theorem cks_arg {r : Reach} {b0 : Nat} {v : Value} {d : DataW H} {p : List MemPlace} (hv : Value.okWide Try.prog w r b0 52 v) (h : DataW.Trod enc Try.prog w base spare held 52 v d p) :
    ∃ (A : Option Addr) (cap : Nat) (l : List Ck.Ck), v = .slice A l.length cap ∧ l.length ≤ maxLen ∧ Ck.CkIn w A l := by
  obtain ⟨a0, len, cap, rfl⟩ := okWide_slice Try.underlying52 hv
  obtain ⟨fuel, hf⟩ := h
  rcases Deep.open_slice Try.underlying52 hf with ⟨hcs, hx⟩ | ⟨a, len', cap', m, n, D, Pl, hcs, _, hl, hm, hmm, hx, hcell⟩
  · simp only [Value.cells, List.cons.injEq, Value.slice.injEq, and_true] at hcs
    obtain ⟨rfl, rfl, rfl⟩ := hcs
    exact ⟨none, 0, [], rfl, Nat.zero_le _, fun h => absurd h (by simp)⟩
  · simp only [Value.cells, List.cons.injEq, Value.slice.injEq, and_true] at hcs
    obtain ⟨rfl, rfl, rfl⟩ := hcs
    have hle : len ≤ m := by rw [hmm]; split <;> omega
    obtain ⟨f, hf⟩ := choose_lt (n := len) (p := fun i (c : Ck.Ck) => w.cell? (a.add (i * 7 + 0)) = some (.bool c.st) ∧ w.cell? (a.add (i * 7 + 1)) = some (.int .i64 c.o) ∧ w.cell? (a.add (i * 7 + 2)) = some (.int .i64 c.on) ∧ w.cell? (a.add (i * 7 + 3)) = some (.int .i64 c.a) ∧ w.cell? (a.add (i * 7 + 4)) = some (.int .i64 c.an) ∧ w.cell? (a.add (i * 7 + 5)) = some (.int .i64 c.b) ∧ w.cell? (a.add (i * 7 + 6)) = some (.int .i64 c.bn)) (fun i hi => by
      obtain ⟨cs', c1, c2⟩ := hcell i (by omega)
      rw [ckChunk] at c1
      obtain ⟨_, hlen, hat⟩ := World.cells?_some c1
      obtain ⟨c, rfl⟩ := chunk_read (by simpa using hlen) c2
      have q0 := hat 0 (by omega)
      have q1 := hat 1 (by omega)
      have q2 := hat 2 (by omega)
      have q3 := hat 3 (by omega)
      have q4 := hat 4 (by omega)
      have q5 := hat 5 (by omega)
      have q6 := hat 6 (by omega)
      rw [Go.Deep.add_add] at q0 q1 q2 q3 q4 q5 q6
      exact ⟨c, q0, q1, q2, q3, q4, q5, q6⟩)
    have htl : ((List.range len).map f).length = len := by simp
    refine ⟨some a, cap, (List.range len).map f, by rw [htl], by rw [htl]; omega, fun hp => ?_⟩
    rw [htl] at hp
    obtain ⟨bk, off, spot⟩ := a
    have hspot : spot = none := by simpa [Addr.add] using World.cell?_spot (hf 0 hp).1
    subst hspot
    have h0 := (hf 0 hp).1
    refine ⟨bk, off, rfl, World.block_lt_of_cell? w _ h0, fun j hj => ?_⟩
    rw [htl] at hj
    have := hf j hj
    simp only [add_plain, ← Nat.add_assoc, Nat.add_zero] at this
    simp only [List.getElem_map, List.getElem_range]
    exact this
end
end Go.Proofs.Ytkflhcfopejigaa.RZ

namespace Go.Proofs.Ytkflhcfopejigaa.RZ
open Go.ChangeShapes Go.WideShapes Go.ChangeAt Go.RowKit Go.Deep Go.Joins
section
variable {H : Type} {enc : TypeId × Value → H} {w : World} {base : Nat} {spare : Nat → Bool} {held : Bool}
theorem pcSide : Try.prog.cellsOf 39 = 1 := by kernel_rfl
theorem pcPiece : Try.prog.cellsOf 43 = 8 := by kernel_rfl
theorem list8 {α : Type} {l : List α} (h : l.length = 8) : ∃ a b c d e f g i, l = [a, b, c, d, e, f, g, i] := by
  match l, h with
  | [a, b, c, d, e, f, g, i], _ => exact ⟨a, b, c, d, e, f, g, i, rfl⟩
theorem list2' {α : Type} {l : List α} (h : l.length = 2) : ∃ a b, l = [a, b] := by
  match l, h with
  | [a, b], _ => exact ⟨a, b, rfl⟩
set_option maxRecDepth 100000 in
theorem piece_read {fuel : Nat} {cs : List Value} {x : DataW H × List MemPlace} (hl : cs.length = 8) (h : DataW.trod enc Try.prog w base spare held fuel 43 cs = some x) : ∃ u : Mg.Pc, cs = [.int .i64 u.sd, .bool u.ck.st, .int .i64 u.ck.o, .int .i64 u.ck.on, .int .i64 u.ck.a, .int .i64 u.ck.an, .int .i64 u.ck.b, .int .i64 u.ck.bn] := by
  obtain ⟨c0, c1, c2, c3, c4, c5, c6, c7, rfl⟩ := list8 hl
  obtain ⟨xs, n, -, -, -, hlen, hf⟩ := DataW.trod_struct Try.underlying43 h
  have hlen : xs.length = 2 := hlen
  obtain ⟨y0, y1, rfl⟩ := list2' hlen
  have h0 : DataW.trod enc Try.prog w base spare held n 39 (([c0, c1, c2, c3, c4, c5, c6, c7].drop 0).take (Try.prog.cellsOf 39)) = [y0, y1][0]? := hf 0 _ rfl
  rw [pcSide] at h0
  have h1 : DataW.trod enc Try.prog w base spare held n 41 (([c0, c1, c2, c3, c4, c5, c6, c7].drop 1).take (Try.prog.cellsOf 41)) = [y0, y1][1]? := hf 1 _ rfl
  rw [ckChunk] at h1
  have h0' : DataW.trod enc Try.prog w base spare held n 39 [c0] = some y0 := h0
  have h1' : DataW.trod enc Try.prog w base spare held n 41 [c1, c2, c3, c4, c5, c6, c7] = some y1 := h1
  obtain ⟨i, e0, -, -⟩ := DataW.trod_int Try.underlying39 h0'
  obtain ⟨c, e1⟩ := chunk_read rfl h1'
  have e0' : c0 = .int .i64 i := by injection e0
  exact ⟨⟨i, c⟩, by rw [e0', e1]⟩
instance : Inhabited Mg.Pc := ⟨⟨0, ⟨false, 0, 0, 0, 0, 0, 0⟩⟩⟩
set_option maxRecDepth 100000 in
theorem pcs_arg {r : Reach} {b0 : Nat} {v : Value} {d : DataW H} {p : List MemPlace} (hv : Value.okWide Try.prog w r b0 25 v) (h : DataW.Trod enc Try.prog w base spare held 25 v d p) :
    ∃ (A : Option Addr) (cap : Nat) (l : List Mg.Pc), v = .slice A l.length cap ∧ l.length ≤ maxLen ∧ l.length ≤ cap ∧ Mg.PcIn w A l := by
  obtain ⟨a0, len, cap, rfl⟩ := okWide_slice Try.underlying25 hv
  obtain ⟨fuel, hf⟩ := h
  rcases Deep.open_slice Try.underlying25 hf with ⟨hcs, hx⟩ | ⟨a, len', cap', m, n, D, Pl, hcs, hlc, hl, hm, hmm, hx, hcell⟩
  · simp only [Value.cells, List.cons.injEq, Value.slice.injEq, and_true] at hcs
    obtain ⟨rfl, rfl, rfl⟩ := hcs
    exact ⟨none, 0, [], rfl, Nat.zero_le _, Nat.le_refl _, fun h => absurd h (by simp)⟩
  · simp only [Value.cells, List.cons.injEq, Value.slice.injEq, and_true] at hcs
    obtain ⟨rfl, rfl, rfl⟩ := hcs
    have hle : len ≤ m := by rw [hmm]; split <;> omega
    obtain ⟨f, hf⟩ := choose_lt (n := len) (p := fun i (c : Mg.Pc) => w.cell? (a.add (i * 8 + 0)) = some (.int .i64 c.sd) ∧ w.cell? (a.add (i * 8 + 1)) = some (.bool c.ck.st) ∧ w.cell? (a.add (i * 8 + 2)) = some (.int .i64 c.ck.o) ∧ w.cell? (a.add (i * 8 + 3)) = some (.int .i64 c.ck.on) ∧ w.cell? (a.add (i * 8 + 4)) = some (.int .i64 c.ck.a) ∧ w.cell? (a.add (i * 8 + 5)) = some (.int .i64 c.ck.an) ∧ w.cell? (a.add (i * 8 + 6)) = some (.int .i64 c.ck.b) ∧ w.cell? (a.add (i * 8 + 7)) = some (.int .i64 c.ck.bn)) (fun i hi => by
      obtain ⟨cs', c1, c2⟩ := hcell i (by omega)
      rw [pcPiece] at c1
      obtain ⟨_, hlen, hat⟩ := World.cells?_some c1
      obtain ⟨c, rfl⟩ := piece_read (by simpa using hlen) c2
      have q0 := hat 0 (by omega)
      have q1 := hat 1 (by omega)
      have q2 := hat 2 (by omega)
      have q3 := hat 3 (by omega)
      have q4 := hat 4 (by omega)
      have q5 := hat 5 (by omega)
      have q6 := hat 6 (by omega)
      have q7 := hat 7 (by omega)
      rw [Go.Deep.add_add] at q0 q1 q2 q3 q4 q5 q6 q7
      exact ⟨c, q0, q1, q2, q3, q4, q5, q6, q7⟩)
    have htl : ((List.range len).map f).length = len := by simp
    refine ⟨some a, cap, (List.range len).map f, by rw [htl], by rw [htl]; omega, by rw [htl]; omega, fun hp => ?_⟩
    rw [htl] at hp
    obtain ⟨bk, off, spot⟩ := a
    have hspot : spot = none := by simpa [Addr.add] using World.cell?_spot (hf 0 hp).1
    subst hspot
    have h0 := (hf 0 hp).1
    refine ⟨bk, off, rfl, World.block_lt_of_cell? w _ h0, fun j hj => ?_⟩
    rw [htl] at hj
    have := hf j hj
    simp only [add_plain, ← Nat.add_assoc, Nat.add_zero] at this
    simp only [List.getElem_map, List.getElem_range]
    exact this
end
end Go.Proofs.Ytkflhcfopejigaa.RZ

namespace Go.Proofs.Ytkflhcfopejigaa.Mg
set_option linter.unusedVariables false
set_option linter.unusedSimpArgs false
open Go.RowKit
open T
open V (drawn_below)
open I (alloc1 own_at own_below)
open Mt (Pr fnd Rt right right_iff)
open N (PrIn PrIn.below pr_own)
open Ck

/-- A place: is it theirs, and where. -/
abbrev Pl := Bool × Int
def src (x : Pc) : Pl := if x.sd = 2 then (false, x.ck.a) else (true, x.ck.b)
def srn (x : Pc) : Int := if x.sd = 2 then x.ck.an else x.ck.bn
def row (p : Pl) (n : Nat) : List Pl := (List.range n).map fun (i : Nat) => (p.1, p.2 + (i : Int))
def frm (l : List Pc) : List Pl := l.flatMap fun x => row (src x) (srn x).toNat
theorem row_next (p : Pl) (n : Nat) : row p (n + 1) = row p n ++ [(p.1, p.2 + (n : Int))] := by
  unfold row; rw [List.range_succ, List.map_append]; rfl
theorem row_len (p : Pl) (n : Nat) : (row p n).length = n := by unfold row; rw [List.length_map, List.length_range]
theorem frm_take {l : List Pc} {k : Nat} (h : k < l.length) : frm (l.take (k + 1)) = frm (l.take k) ++ row (src l[k]) (srn l[k]).toNat := by
  unfold frm
  rw [List.take_succ_eq_append_getElem h, List.flatMap_append]
  simp only [List.flatMap_cons, List.flatMap_nil, List.append_nil]
def bsum (l : List Pc) : Int := (l.map fun x => x.ck.bn).sum
def nsum (l : List Pc) : Int := (l.map srn).sum
theorem bsum_take {l : List Pc} {k : Nat} (h : k < l.length) : bsum (l.take (k + 1)) = bsum (l.take k) + l[k].ck.bn := by
  unfold bsum; rw [List.take_succ_eq_append_getElem h, List.map_append, List.sum_append]; simp
theorem nsum_take {l : List Pc} {k : Nat} (h : k < l.length) : nsum (l.take (k + 1)) = nsum (l.take k) + srn l[k] := by
  unfold nsum; rw [List.take_succ_eq_append_getElem h, List.map_append, List.sum_append]; simp
theorem ckr_walk {e : Tr} : ∀ {l : List Pc} {t : Tr}, ckr t e (l.map (·.ck)) = true → t.2.2 + bsum l = e.2.2 ∧ ∀ k (h : k < l.length), l[k].ck.b = t.2.2 + bsum (l.take k)
  | [], t, h => by
    have ht : t = e := of_decide_eq_true h
    subst ht
    exact ⟨by simp [bsum], fun k h => by simp at h⟩
  | x :: r, t, h => by
    rw [List.map_cons, ckr, Bool.and_eq_true, decide_eq_true_eq] at h
    obtain ⟨i1, i2⟩ := ckr_walk h.2
    obtain ⟨⟨e1, e2, e3⟩, -⟩ := h.1
    have hs : bsum (x :: r) = x.ck.bn + bsum r := by simp [bsum]
    have hn : (next t x.ck).2.2 = t.2.2 + x.ck.bn := rfl
    refine ⟨by rw [hs]; omega, fun k hk => ?_⟩
    cases k with
    | zero => simp [bsum, e3]
    | succ k =>
      have := i2 k (by simpa using hk)
      have hs2 : bsum ((x :: r).take (k + 1)) = x.ck.bn + bsum (r.take k) := by simp [bsum]
      rw [List.getElem_cons_succ, this, hs2]; omega
/-- What From asks of pieces, one by one. -/
structure Fr (l : List Pc) (nb : Nat) : Prop where
  len : l.length ≤ 4000
  b : ∀ k (h : k < l.length), l[k].ck.b = bsum (l.take k) ∧ 0 ≤ l[k].ck.bn ∧ l[k].ck.bn ≤ nb - bsum (l.take k) ∧ l[k].ck.bn ≤ 60
  a : ∀ k (h : k < l.length), 0 ≤ l[k].ck.a ∧ l[k].ck.a ≤ 60 ∧ 0 ≤ l[k].ck.an ∧ l[k].ck.an ≤ 60
  e : bsum l = nb
  p : ∀ k, 0 ≤ bsum (l.take k) ∧ bsum (l.take k) ≤ nb
  n : ∀ k, 0 ≤ nsum (l.take k) ∧ nsum (l.take k) ≤ 240000
theorem fr_of {l : List Pc} {o a b : List Ln} (hs : Small l o a b) (hf : fits l o.length a.length b.length = true) : Fr l b.length := by
  have h3 := fits_in3 hf
  unfold fits at hf
  rw [Bool.and_eq_true] at hf
  obtain ⟨w1, w2⟩ := ckr_walk (e := ((o.length : Int), (a.length : Int), (b.length : Int))) (t := (0, 0, 0)) hf.2
  have hlo := hs.a
  have hlb := hs.b
  have hll := hs.l
  have hk : ∀ k (h : k < l.length), 0 ≤ l[k].ck.bn ∧ l[k].ck.b + l[k].ck.bn ≤ b.length ∧ 0 ≤ l[k].ck.b := fun k h => by
    have := (h3 l[k] (List.getElem_mem h)).fb; omega
  have hp : ∀ k, k ≤ l.length → 0 ≤ bsum (l.take k) ∧ bsum (l.take k) ≤ b.length := fun k => by
    induction k with
    | zero => intro _; simp [bsum]
    | succ k ih =>
      intro h
      have h1 := ih (by omega)
      have h2 := hk k (by omega)
      have h4 := w2 k (by omega)
      rw [bsum_take (by omega)]
      simp only at h4
      omega
  have hp2 : ∀ k, 0 ≤ bsum (l.take k) ∧ bsum (l.take k) ≤ b.length := fun k => by
    by_cases h : k ≤ l.length
    · exact hp k h
    · rw [List.take_of_length_le (by omega)]
      have := hp l.length (Nat.le_refl _)
      rw [List.take_length] at this
      exact this
  have ha : ∀ k (h : k < l.length), 0 ≤ l[k].ck.a ∧ l[k].ck.a ≤ 60 ∧ 0 ≤ l[k].ck.an ∧ l[k].ck.an ≤ 60 := fun k h => by
    have := (h3 l[k] (List.getElem_mem h)).fa; omega
  have hn : ∀ k, k ≤ l.length → 0 ≤ nsum (l.take k) ∧ nsum (l.take k) ≤ 60 * k := fun k => by
    induction k with
    | zero => intro _; simp [nsum]
    | succ k ih =>
      intro h
      have h1 := ih (by omega)
      have h2 := hk k (by omega)
      have h4 := ha k (by omega)
      rw [nsum_take (by omega)]
      have : 0 ≤ srn (l[k]'(by omega)) ∧ srn (l[k]'(by omega)) ≤ 60 := by
        unfold srn; split <;> omega
      omega
  refine ⟨hs.l, fun k h => ?_, ha, by simp only at w1; omega, hp2, fun k => ?_⟩
  · have h2 := hk k h
    have h4 := w2 k h
    simp only at h4
    exact ⟨by omega, h2.1, by omega, by omega⟩
  · by_cases h : k ≤ l.length
    · have := hn k h; omega
    · rw [List.take_of_length_le (by omega)]
      have := hn l.length (Nat.le_refl _)
      rw [List.take_length] at this
      omega
theorem fr_len (l : List Pc) {nb : Nat} (h : Fr l nb) : ∀ k, k ≤ l.length → ((frm (l.take k)).length : Int) = nsum (l.take k) := fun k => by
  induction k with
  | zero => intro _; rfl
  | succ k ih =>
    intro hk
    have h1 := ih (by omega)
    have h2 := h.b k (by omega)
    have h3 := h.a k (by omega)
    rw [frm_take (by omega), List.length_append, row_len, nsum_take (by omega)]
    have : 0 ≤ srn (l[k]'(by omega)) := by unfold srn; split <;> omega
    omega
set_option maxRecDepth 100000 in
set_option maxHeartbeats 2000000 in
theorem source_any (x : Pc) (w : World) : Calls Try.prog 38 #[pcV x] w fun e w' => e = .returned (.tuple #[.agg #[.bool (src x).1, .int .i64 (src x).2], .int .i64 (srn x)]) ∧ Below w.heap.size w w' := by
  obtain ⟨W1, hW1⟩ : ∃ W : World, W = (w.alloc (.cells #[.int .i64 x.sd, .bool x.ck.st, .int .i64 x.ck.o, .int .i64 x.ck.on, .int .i64 x.ck.a, .int .i64 x.ck.an, .int .i64 x.ck.b, .int .i64 x.ck.bn] 43)).alloc (.cells #[.bool false, .int .i64 0] 49) := ⟨_, rfl⟩
  have h2b := L.two_blocks w (.cells #[.int .i64 x.sd, .bool x.ck.st, .int .i64 x.ck.o, .int .i64 x.ck.on, .int .i64 x.ck.a, .int .i64 x.ck.an, .int .i64 x.ck.b, .int .i64 x.ck.bn] 43) (.cells #[.bool false, .int .i64 0] 49)
  rw [← hW1] at h2b
  have hx1 := h2b.1
  have hx2 := h2b.2
  have HB1 := Lib.hid (show Below w.heap.size w W1 by rw [hW1]; exact (alloc1 _ _).alloc (by simp) _)
  have e0 := L.blk_cell hx1 0
  have e4 := L.blk_cell hx1 4
  have e5 := L.blk_cell hx1 5
  have e6 := L.blk_cell hx1 6
  have e7 := L.blk_cell hx1 7
  have p0 := L.blk_cell hx2 0
  have p1 := L.blk_cell hx2 1
  have q0 := L.blk_free hx2 0
  have q1 := L.blk_free hx2 1
  simp only [List.getElem?_toArray, List.getElem?_cons_zero, List.getElem?_cons_succ] at e0 e4 e5 e6 e7 p0 p1
  have HS : Hid (src x = if x.sd = 2 then (false, x.ck.a) else (true, x.ck.b)) := Lib.hid rfl
  have HN : Hid (srn x = if x.sd = 2 then x.ck.an else x.ck.bn) := Lib.hid rfl
  generalize src x = sp at *
  generalize srn x = sn at *
  clear hx1 hx2 h2b
  obtain ⟨sd, cst, c1, c2, c3, c4, c5, c6⟩ := x
  simp only [pcV] at *
  by_cases h2 : sd = 2
  · subst h2
    obtain rfl : sp = (false, c3) := HS.out.trans (if_pos rfl)
    obtain rfl : sn = c4 := HN.out.trans (if_pos rfl)
    clear HS HN
    go_enter Try.func38, Try.ntmps38
    go_upto_region 1 with fail
    rw [← hW1]
    clear hW1
    go_wp2_with fail
    go_region
    all_goals
      go_wp2_with fail
      refine bodyPost_ret (v := .tuple #[.agg #[.bool false, .int .i64 c3], .int .i64 sn]) (by simp [results, Try.results38, go_sem]; go_simp) rfl ⟨rfl, (HB1.out.drew.setCell (by simp) _).setCell (by simp) _⟩
  · obtain rfl : sp = (true, c5) := HS.out.trans (if_neg h2)
    obtain rfl : sn = c6 := HN.out.trans (if_neg h2)
    clear HS HN
    go_enter Try.func38, Try.ntmps38
    go_upto_region 1 with fail
    rw [← hW1]
    clear hW1
    go_wp2_with fail
    go_region
    all_goals
      go_wp2_with fail
      refine bodyPost_ret (v := .tuple #[.agg #[.bool true, .int .i64 c5], .int .i64 sn]) (by simp [results, Try.results38, go_sem]; go_simp) rfl ⟨rfl, (HB1.out.drew.setCell (by simp) _).setCell (by simp) _⟩
/-- A piece in memory, at its place among others. -/
theorem pc_at {w : World} {A : Option Addr} {l : List Pc} (h : PcIn w A l) {k : Nat} (hk : k < l.length) : ∃ bk off, A = some ⟨bk, off, none⟩ ∧ bk < w.heap.size ∧ w.cell? ⟨bk, off + k * 8, none⟩ = some (.int .i64 l[k].sd) ∧ w.cell? ⟨bk, off + k * 8 + 1, none⟩ = some (.bool l[k].ck.st) ∧ w.cell? ⟨bk, off + k * 8 + 2, none⟩ = some (.int .i64 l[k].ck.o) ∧ w.cell? ⟨bk, off + k * 8 + 3, none⟩ = some (.int .i64 l[k].ck.on) ∧ w.cell? ⟨bk, off + k * 8 + 4, none⟩ = some (.int .i64 l[k].ck.a) ∧ w.cell? ⟨bk, off + k * 8 + 5, none⟩ = some (.int .i64 l[k].ck.an) ∧ w.cell? ⟨bk, off + k * 8 + 6, none⟩ = some (.int .i64 l[k].ck.b) ∧ w.cell? ⟨bk, off + k * 8 + 7, none⟩ = some (.int .i64 l[k].ck.bn) := by
  obtain ⟨bk, off, e, h1, h2⟩ := h (by omega)
  exact ⟨bk, off, e, h1, h2 k hk⟩
set_option maxRecDepth 100000 in
set_option maxHeartbeats 4000000 in
theorem reaches_any (A : Option Addr) (c : Nat) (l : List Pc) (nb : Nat) (w : World) (hA : PcIn w A l) (hf : Fr l nb) (hb : nb ≤ 60) :
    Calls Try.prog 36 #[.slice A l.length c, .int .i64 (nb : Int)] w fun e w' => e = .returned (.bool true) ∧ Below w.heap.size w w' := by
  have HA := Lib.hid hA
  have HFB := Lib.hid hf.b
  have HFA := Lib.hid hf.a
  have HFP := Lib.hid hf.p
  have HFE := Lib.hid hf.e
  have HTK := Lib.hid (fun k (h : k < l.length) => bsum_take h)
  have hl := hf.len
  have HS0 : Hid (bsum (l.take 0) = 0) := Lib.hid rfl
  obtain ⟨ps, hps⟩ : ∃ ps : Nat → Int, ∀ k, bsum (l.take k) = ps k := ⟨fun k => bsum (l.take k), fun _ => rfl⟩
  have HSL : Hid (ps l.length = nb) := Lib.hid (by rw [← hps, List.take_length]; exact hf.e)
  simp only [hps] at HFB HFP HTK HS0
  clear hA hf hps HFE
  go_enter Try.func36, Try.ntmps36
  go_wp2_with fail
  go_loopg [5, 11] l.length (fun m s i wr => ∃ k : Nat, k ≤ l.length ∧ i = .int .i64 (k : Int) ∧ s = .int .i64 (ps k) ∧ l.length - k ≤ m ∧ Below w.heap.size w wr)
  case atStart => exact ⟨0, Nat.zero_le _, rfl, by rw [HS0.out], by omega, Below.refl _ _⟩
  case round =>
    obtain ⟨k, hk, rfl, rfl, hm, hbr⟩ := hrel
    by_cases hlt : k < l.length
    · obtain ⟨bk, off, hAe, hbk, g0, g1, g2, g3, g4, g5, g6, g7⟩ := pc_at (HA.out.below hbr) hlt
      subst hAe
      have b1 := HFB.out k hlt
      have b2 := HFA.out k hlt
      have b3 := HFP.out k
      have b4 := HTK.out k hlt
      obtain ⟨x9, hx⟩ : ∃ x9, x9 = l[k]'hlt := ⟨_, rfl⟩
      rw [← hx] at g0 g1 g2 g3 g4 g5 g6 g7 b1 b2 b4
      obtain ⟨sd, x0, x1, x2, x3, x4, x5, x6⟩ := x9
      simp only at g0 g1 g2 g3 g4 g5 g6 g7 b1 b2 b4
      obtain ⟨b1, b5, b6, b7⟩ := b1
      obtain ⟨b8, b9, b10, b11⟩ := b2
      subst b1
      have h0k : (0 : Int) ≤ (k : Int) := by omega
      have hki : (k : Int) < (l.length : Int) := by omega
      have n1 : ¬ x3 < 0 := by omega
      have n2 : ¬ 400 < x3 := by omega
      have n3 : ¬ x4 < 0 := by omega
      have n4 : ¬ 400 < x4 := by omega
      have n5 : ¬ x6 < 0 := by omega
      have hw1 : IntKind.i64.wrap ((nb : Int) - ps k) = (nb : Int) - ps k := by rw [IntKind.wrap_i64]; omega
      have hw2 : wrap64 ((nb : Int) - ps k) = (nb : Int) - ps k := by unfold wrap64; omega
      have n6 : ¬ (nb : Int) - ps k < x6 := by omega
      have hw3 : IntKind.i64.wrap (ps k + x6) = ps k + x6 := by rw [IntKind.wrap_i64]; omega
      have hw4 : wrap64 (ps k + x6) = ps k + x6 := by unfold wrap64; omega
      have HN := Lib.hid b4
      obtain ⟨W1, hW1⟩ : ∃ W : World, W = (wr.alloc (.cells #[.int .i64 sd, .bool x0, .int .i64 x1, .int .i64 x2, .int .i64 x3, .int .i64 x4, .int .i64 (ps k), .int .i64 x6] 43)) := ⟨_, rfl⟩
      obtain ⟨W2, hW2⟩ : ∃ W : World, W = W1.alloc (.cells #[.bool x0, .int .i64 x1, .int .i64 x2, .int .i64 x3, .int .i64 x4, .int .i64 (ps k), .int .i64 x6] 41) := ⟨_, rfl⟩
      have hb1 : Below wr.heap.size wr W1 := by rw [hW1]; exact alloc1 _ _
      have hb2 : Below W1.heap.size W1 W2 := by rw [hW2]; exact alloc1 _ _
      have hx1 : W1.heap[wr.heap.size]? = some (.cells #[.int .i64 sd, .bool x0, .int .i64 x1, .int .i64 x2, .int .i64 x3, .int .i64 x4, .int .i64 (ps k), .int .i64 x6] 43 (0, 0)) := by rw [hW1]; exact heap_alloc_new wr _
      have hx2 : W2.heap[W1.heap.size]? = some (.cells #[.bool x0, .int .i64 x1, .int .i64 x2, .int .i64 x3, .int .i64 x4, .int .i64 (ps k), .int .i64 x6] 41 (0, 0)) := by rw [hW2]; exact heap_alloc_new W1 _
      have HBR := Lib.hid (hbr.trans ((hb1.trans (hb2.mono hb1.size)).mono hbr.size))
      have e1 := L.blk_cell hx1 1
      have e2 := L.blk_cell hx1 2
      have e3 := L.blk_cell hx1 3
      have e4 := L.blk_cell hx1 4
      have e5 := L.blk_cell hx1 5
      have e6 := L.blk_cell hx1 6
      have e7 := L.blk_cell hx1 7
      have f3 := L.blk_cell hx2 3
      have f4 := L.blk_cell hx2 4
      have f5 := L.blk_cell hx2 5
      have f6 := L.blk_cell hx2 6
      simp only [List.getElem?_toArray, List.getElem?_cons_zero, List.getElem?_cons_succ] at e1 e2 e3 e4 e5 e6 e7 f3 f4 f5 f6
      clear hx hbk b4 b3 hbr hb1 hb2 hx1 hx2
      go_upto_region 5 with fail
      rw [← hW1]
      clear hW1 g0 g1 g2 g3 g4 g5 g6 g7
      go_upto_region 6 with fail
      rw [← hW2]
      clear hW2 e1 e2 e3 e4 e5 e6 e7
      go_wp2_with fail
      go_roundg (l.length - (k + 1))
      case rel => exact ⟨k + 1, by omega, by go_num, by rw [HN.out], Nat.le_refl _, HBR.out⟩
      case measure => omega
    · obtain rfl : k = l.length := by omega
      rw [HSL.out]
      go_wp2_with fail
      go_ret
      exact ⟨rfl, hbr⟩
set_option maxRecDepth 100000 in
set_option maxHeartbeats 4000000 in
theorem bounded_any (A : Option Addr) (c : Nat) (l : List Pc) (nb : Nat) (w : World) (hA : PcIn w A l) (hf : Fr l nb) :
    Calls Try.prog 37 #[.slice A l.length c] w fun e w' => e = .returned (.bool true) ∧ Below w.heap.size w w' := by
  have HA := Lib.hid hA
  have HFN := Lib.hid hf.n
  have HTK := Lib.hid (fun k (h : k < l.length) => nsum_take h)
  have hl := hf.len
  have HS0 : Hid (nsum (l.take 0) = 0) := Lib.hid rfl
  obtain ⟨ps, hps⟩ : ∃ ps : Nat → Int, ∀ k, nsum (l.take k) = ps k := ⟨fun k => nsum (l.take k), fun _ => rfl⟩
  simp only [hps] at HFN HTK HS0
  clear hA hf hps
  go_enter Try.func37, Try.ntmps37
  go_wp2_with fail
  go_loopg [3, 10] l.length (fun m s i wr => ∃ k : Nat, k ≤ l.length ∧ i = .int .i64 (k : Int) ∧ s = .int .i64 (2147483647 - ps k) ∧ l.length - k ≤ m ∧ Below w.heap.size w wr)
  case atStart => exact ⟨0, Nat.zero_le _, rfl, by rw [HS0.out]; rfl, by omega, Below.refl _ _⟩
  case round =>
    obtain ⟨k, hk, rfl, rfl, hm, hbr⟩ := hrel
    by_cases hlt : k < l.length
    · obtain ⟨bk, off, hAe, hbk, g0, g1, g2, g3, g4, g5, g6, g7⟩ := pc_at (HA.out.below hbr) hlt
      subst hAe
      have b3 := HFN.out k
      have b5 := HFN.out (k + 1)
      have b4 := HTK.out k hlt
      rw [b4] at b5
      obtain ⟨x9, hx⟩ : ∃ x9, x9 = l[k]'hlt := ⟨_, rfl⟩
      rw [← hx] at g0 g1 g2 g3 g4 g5 g6 g7 b4 b5
      obtain ⟨W1, hW1⟩ : ∃ W : World, W = (wr.alloc (.cells #[.int .i64 x9.sd, .bool x9.ck.st, .int .i64 x9.ck.o, .int .i64 x9.ck.on, .int .i64 x9.ck.a, .int .i64 x9.ck.an, .int .i64 x9.ck.b, .int .i64 x9.ck.bn] 43)) := ⟨_, rfl⟩
      have HSC := Lib.hid (source_any x9 W1)
      generalize src x9 = sp at *
      generalize srn x9 = sn at *
      simp only [pcV] at HSC
      obtain ⟨sd, x0, x1, x2, x3, x4, x5, x6⟩ := x9
      simp only at g0 g1 g2 g3 g4 g5 g6 g7 HSC hW1
      have h0k : (0 : Int) ≤ (k : Int) := by omega
      have hki : (k : Int) < (l.length : Int) := by omega
      have n1 : ¬ 2147483647 - ps k < sn := by omega
      have hw1 : IntKind.i64.wrap (2147483647 - ps k - sn) = 2147483647 - ps (k + 1) := by rw [IntKind.wrap_i64]; omega
      have hw2 : wrap64 (2147483647 - ps k - sn) = 2147483647 - ps (k + 1) := by unfold wrap64; omega
      have hb1 : Below wr.heap.size wr W1 := by rw [hW1]; exact alloc1 _ _
      have hx1 : W1.heap[wr.heap.size]? = some (.cells #[.int .i64 sd, .bool x0, .int .i64 x1, .int .i64 x2, .int .i64 x3, .int .i64 x4, .int .i64 x5, .int .i64 x6] 43 (0, 0)) := by rw [hW1]; exact heap_alloc_new wr _
      have HBR := Lib.hid (hbr.trans (hb1.mono hbr.size))
      have e0 := L.blk_cell hx1 0
      have e1 := L.blk_cell hx1 1
      have e2 := L.blk_cell hx1 2
      have e3 := L.blk_cell hx1 3
      have e4 := L.blk_cell hx1 4
      have e5 := L.blk_cell hx1 5
      have e6 := L.blk_cell hx1 6
      have e7 := L.blk_cell hx1 7
      simp only [List.getElem?_toArray, List.getElem?_cons_zero, List.getElem?_cons_succ] at e0 e1 e2 e3 e4 e5 e6 e7
      clear hx hbk b4 b3 b5 hbr hb1 hx1
      go_upto_region 5 with fail
      rw [← hW1]
      clear hW1 g0 g1 g2 g3 g4 g5 g6 g7
      go_wp2_with fail
      with_reducible refine HSC.out.mono ?_
      rintro e w2 ⟨rfl, hb2⟩
      have HB2 := Lib.hid (HBR.out.trans (hb2.mono HBR.out.size))
      clear HSC hb2 HBR e0 e1 e2 e3 e4 e5 e6 e7
      go_wp2_with fail
      go_roundg (l.length - (k + 1))
      case rel => exact ⟨k + 1, by omega, by go_num, rfl, Nat.le_refl _, (by first | exact HB2.out | exact HB2.out.alloc HB2.out.size _)⟩
      case measure => omega
    · obtain rfl : k = l.length := by omega
      go_wp2_with fail
      go_ret
      exact ⟨rfl, hbr⟩
end Go.Proofs.Ytkflhcfopejigaa.Mg

namespace Go.Proofs.Ytkflhcfopejigaa.Mg
set_option linter.unusedVariables false
set_option linter.unusedSimpArgs false
open Go.RowKit
open T
open V (drawn_below)
open I (alloc1 own_at own_below)
open Mt (Pr fnd Rt right right_iff)
open N (PrIn PrIn.below pr_own)
open Ck

def plCells (l : List Pl) : List Value := l.flatMap fun p => [.bool p.1, .int .i64 p.2]
theorem plCells_snoc (l : List Pl) (p : Pl) : plCells (l ++ [p]) = plCells l ++ [.bool p.1, .int .i64 p.2] := by simp [plCells]
theorem plCells_at : ∀ (l : List Pl) (j : Nat) (h : j < l.length), (plCells l)[j * 2]? = some (.bool l[j].1) ∧ (plCells l)[j * 2 + 1]? = some (.int .i64 l[j].2)
  | x :: r, 0, _ => by simp [plCells]
  | x :: r, j + 1, h => by
    have ih := plCells_at r j (by simpa using h)
    have e : plCells (x :: r) = .bool x.1 :: .int .i64 x.2 :: plCells r := by simp [plCells]
    rw [e, show (j + 1) * 2 = j * 2 + 1 + 1 by omega]
    exact ⟨by simpa using ih.1, by simpa using ih.2⟩
def PlIn (w : World) (A : Option Addr) (l : List Pl) : Prop := 0 < l.length → ∃ bk off, A = some ⟨bk, off, none⟩ ∧ bk < w.heap.size ∧ ∀ j (hj : j < l.length), w.cell? ⟨bk, off + j * 2, none⟩ = some (.bool l[j].1) ∧ w.cell? ⟨bk, off + j * 2 + 1, none⟩ = some (.int .i64 l[j].2)
theorem PlIn.below {w w' : World} {A : Option Addr} {l : List Pl} (h : PlIn w A l) (hb : Below w.heap.size w w') : PlIn w' A l := fun hp => by
  obtain ⟨bk, off, e, hlt, hI⟩ := h hp
  exact ⟨bk, off, e, Nat.lt_of_lt_of_le hlt hb.size, fun j hj => ⟨(hb.cell (p := ⟨bk, _, none⟩) hlt).trans (hI j hj).1, (hb.cell (p := ⟨bk, _, none⟩) hlt).trans (hI j hj).2⟩⟩
theorem pl_own {w : World} {base : Nat} {A : Option Addr} {cap : Nat} {l : List Pl} (h : w.ownsRow base 49 2 (.slice A l.length cap) l.length (plCells l)) : PlIn w A l := fun hp => by
  obtain ⟨g, hA, _, hlt, hc⟩ := own_at h hp
  refine ⟨g, 0, hA, hlt, fun j hj => ?_⟩
  obtain ⟨h0, h1⟩ := plCells_at l j hj
  rw [Nat.zero_add]
  exact ⟨hc _ _ h0, hc _ _ h1⟩
theorem infoPlace : (Try.prog.info? 49).map (fun i => (i.zero, i.size, i.bytes)) = some (some (.agg #[.bool false, .int .i64 0]), 2, 16) := by kernel_rfl
def FrEnd (w : World) (l : List Pl) (z : Int) (e : Ending) (w' : World) : Prop := ∃ C cc, e = .returned (.tuple #[.slice C l.length cc, .int .i64 z]) ∧ PlIn w' C l ∧ Below w.heap.size w w'
/-- A place's box beside a row of places. -/
structure Fb (w0 : World) (pb : Nat) (p : Pl) (v : Value) (W : World) : Prop where
  box : W.heap[pb]? = some (.cells #[.bool p.1, .int .i64 p.2] 49 (0, 0))
  ne : v.ownBlock ≠ some pb
  b : Below w0.heap.size w0 W
theorem Fb.grown {w0 W W' : World} {pb : Nat} {p : Pl} {v v' : Value} (h : Fb w0 pb p v W) (hg : W.grownBy W' v.ownBlock) (hb : ∀ k, v.ownBlock = some k → w0.heap.size ≤ k) (hv : v'.ownBlock = v.ownBlock ∨ v'.ownBlock = some W.heap.size) : Fb w0 pb p v' W' := by
  have hlt := L.blk_lt h.box
  refine ⟨(hg.block _ hlt (fun e => h.ne e.symm)).trans h.box, ?_, h.b.grown hg h.b.size hb⟩
  rcases hv with e | e
  · rw [e]; exact h.ne
  · rw [e]; intro e2; injection e2 with e2; omega
theorem Fb.below {w0 W W' : World} {pb : Nat} {p : Pl} {v : Value} (h : Fb w0 pb p v W) (hb : Below W.heap.size W W') : Fb w0 pb p v W' := ⟨(hb.block _ (L.blk_lt h.box)).trans h.box, h.ne, h.b.trans (hb.mono h.b.size)⟩
set_option maxRecDepth 100000 in
set_option maxHeartbeats 8000000 in
theorem from_good (A : Option Addr) (c : Nat) (l : List Pc) (nb : Nat) (w : World) (hA : PcIn w A l) (hf : Fr l nb) (hb : nb ≤ 60) (hc : clean l = true) :
    Calls Try.prog 23 #[.slice A l.length c, .int .i64 (nb : Int)] w (FrEnd w (frm l) 0) := by
  obtain ⟨i0, hi0, hz0, hz1, hz2⟩ := info_parts infoPlace
  have HRE := Lib.hid (reaches_any A c l nb w hA hf hb)
  have HCL := Lib.hid (fun (W : World) (h : Below w.heap.size w W) => clean_any A c l W (hA.below h) (by have := hf.len; unfold maxLen; omega))
  rw [hc] at HCL
  have HBO := Lib.hid (fun (W : World) (h : Below w.heap.size w W) => bounded_any A c l nb W (hA.below h) hf)
  have HA := Lib.hid hA
  have HTK := Lib.hid (fun k (h : k < l.length) => frm_take h)
  have hl := hf.len
  have HLN := Lib.hid (fun k (h : k < l.length) => show (frm (l.take k)).length + (srn l[k]).toNat ≤ 240000 ∧ 0 ≤ srn l[k] ∧ srn l[k] ≤ 60 ∧ 0 ≤ (src l[k]).2 ∧ (src l[k]).2 ≤ 60 from by
    have h1 := fr_len l hf (k + 1) h
    have h2 := hf.n (k + 1)
    rw [frm_take h, List.length_append, row_len] at h1
    have h3 := hf.b k h
    have h4 := hf.a k h
    have h5 := hf.p k
    have : 0 ≤ srn l[k] ∧ srn l[k] ≤ 60 := by unfold srn; split <;> omega
    have : 0 ≤ (src l[k]).2 ∧ (src l[k]).2 ≤ 60 := by unfold src; split <;> simp only <;> omega
    omega)
  obtain ⟨fr, hfr⟩ : ∃ fr : Nat → List Pl, ∀ k, frm (l.take k) = fr k := ⟨fun k => frm (l.take k), fun _ => rfl⟩
  have HFE : Hid (fr l.length = frm l) := Lib.hid (by rw [← hfr, List.take_length])
  have HF0 : Hid (fr 0 = []) := Lib.hid (by rw [← hfr]; rfl)
  simp only [hfr] at HTK HLN
  generalize frm l = fl at *
  clear hA hf hc hfr
  go_enter Try.func23, Try.ntmps23
  go_wp2_with fail
  with_reducible refine HRE.out.mono ?_
  rintro e w1 ⟨rfl, hb1⟩
  have HB1 := Lib.hid hb1
  have HC1 := Lib.hid (HCL.out w1 hb1)
  clear HRE HCL hb1
  go_wp2_with fail
  with_reducible refine HC1.out.mono ?_
  rintro e w2 ⟨rfl, hb2⟩
  have HB2 := Lib.hid (HB1.out.trans (hb2.mono HB1.out.size))
  have HC2 := Lib.hid (HBO.out w2 HB2.out)
  clear HC1 HBO hb2 HB1
  go_wp2_with fail
  with_reducible refine HC2.out.mono ?_
  rintro e w3 ⟨rfl, hb3⟩
  have HB3 := Lib.hid (HB2.out.trans (hb3.mono HB2.out.size))
  clear HC2 hb3 HB2
  go_wp2_with fail
  go_loopg [6, 10, 27] l.length (fun m v n i wr => ∃ (k : Nat) (VA : Option Addr) (vc : Nat), k ≤ l.length ∧ i = .int .i64 (k : Int) ∧ v = .slice VA (fr k).length vc ∧ l.length - k ≤ m ∧ wr.ownsRow w.heap.size 49 2 (.slice VA (fr k).length vc) (fr k).length (plCells (fr k)) ∧ Below w.heap.size w wr)
  case atStart => exact ⟨0, none, 0, Nat.zero_le _, rfl, by rw [HF0.out]; rfl, by omega, by rw [HF0.out]; exact World.ownsRow_nil _ _ _ _, HB3.out⟩
  case round =>
    obtain ⟨k, VA, vc, hk, rfl, rfl, hm, hown, hbr⟩ := hrel
    by_cases hlt : k < l.length
    · obtain ⟨bk, off, hAe, hbk, g0, g1, g2, g3, g4, g5, g6, g7⟩ := pc_at (HA.out.below hbr) hlt
      subst hAe
      have HT := Lib.hid (HTK.out k hlt)
      have b1 := HLN.out k hlt
      obtain ⟨x9, hx⟩ : ∃ x9, x9 = l[k]'hlt := ⟨_, rfl⟩
      rw [← hx] at g0 g1 g2 g3 g4 g5 g6 g7 HT b1
      obtain ⟨W1, hW1⟩ : ∃ W : World, W = (wr.alloc (.cells #[.int .i64 x9.sd, .bool x9.ck.st, .int .i64 x9.ck.o, .int .i64 x9.ck.on, .int .i64 x9.ck.a, .int .i64 x9.ck.an, .int .i64 x9.ck.b, .int .i64 x9.ck.bn] 43)) := ⟨_, rfl⟩
      have HSC := Lib.hid (source_any x9 W1)
      generalize src x9 = sp at *
      generalize srn x9 = sn at *
      obtain ⟨n, rfl⟩ : ∃ n : Nat, sn = n := ⟨sn.toNat, by omega⟩
      rw [Int.toNat_natCast] at HT b1
      simp only [pcV] at HSC
      obtain ⟨sd, x0, x1, x2, x3, x4, x5, x6⟩ := x9
      simp only at g0 g1 g2 g3 g4 g5 g6 g7 HSC hW1
      have h0k : (0 : Int) ≤ (k : Int) := by omega
      have hki : (k : Int) < (l.length : Int) := by omega
      have hb1 : Below wr.heap.size wr W1 := by rw [hW1]; exact alloc1 _ _
      have hx1 : W1.heap[wr.heap.size]? = some (.cells #[.int .i64 sd, .bool x0, .int .i64 x1, .int .i64 x2, .int .i64 x3, .int .i64 x4, .int .i64 x5, .int .i64 x6] 43 (0, 0)) := by rw [hW1]; exact heap_alloc_new wr _
      have HBR := Lib.hid (hbr.trans (hb1.mono hbr.size))
      have HOW := Lib.hid (own_below hown hb1)
      have e0 := L.blk_cell hx1 0
      have e1 := L.blk_cell hx1 1
      have e2 := L.blk_cell hx1 2
      have e3 := L.blk_cell hx1 3
      have e4 := L.blk_cell hx1 4
      have e5 := L.blk_cell hx1 5
      have e6 := L.blk_cell hx1 6
      have e7 := L.blk_cell hx1 7
      simp only [List.getElem?_toArray, List.getElem?_cons_zero, List.getElem?_cons_succ] at e0 e1 e2 e3 e4 e5 e6 e7
      obtain ⟨y, hy⟩ : ∃ y, y = fr k := ⟨_, rfl⟩
      rw [← hy] at HT b1 HOW ⊢
      have hs1 := HBR.out.size
      clear hx hbk hbr hb1 hx1 hown hy
      go_upto_region 11 with fail
      rw [← hW1]
      clear hW1 g0 g1 g2 g3 g4 g5 g6 g7
      go_wp2_with fail
      with_reducible refine HSC.out.mono ?_
      rintro e w4 ⟨rfl, hb4⟩
      obtain ⟨W5, hW5⟩ : ∃ W : World, W = w4.alloc (.cells #[.bool sp.1, .int .i64 sp.2] 49) := ⟨_, rfl⟩
      have hb5 : Below w4.heap.size w4 W5 := by rw [hW5]; exact alloc1 _ _
      have HB5 := Lib.hid (HBR.out.trans ((hb4.trans (hb5.mono hb4.size)).mono HBR.out.size))
      have HO4 := Lib.hid (own_below HOW.out hb4)
      have HO5 := Lib.hid (own_below HO4.out hb5)
      obtain ⟨pb, hpb⟩ : ∃ q, q = w4.heap.size := ⟨_, rfl⟩
      have HFB : Hid (Fb w pb sp (.slice VA y.length vc) W5) := Lib.hid ⟨by rw [hW5, hpb]; exact heap_alloc_new w4 _, fun e => by have := (World.ownsRow.lt HO4.out pb e).2; omega, HB5.out⟩
      clear HSC hb4 HBR HOW hb5 e0 e1 e2 e3 e4 e5 e6 e7 HO4
      go_upto_region 12 with fail
      rw [← hW5, ← hpb]
      clear hW5 hpb
      have HOY : Hid (W5.ownsRow w.heap.size 49 2 (.slice VA (y ++ row sp 0).length vc) (y ++ row sp 0).length (plCells (y ++ row sp 0))) := Lib.hid (by rw [show y ++ row sp 0 = y from by simp [row]]; exact HO5.out)
      have HYL : Hid (y ++ row sp 0 = y) := Lib.hid (by simp [row])
      have HLR : Hid (∀ j, (y ++ row sp j).length = y.length + j) := Lib.hid (fun j => by rw [List.length_append, row_len])
      have HRN : Hid (∀ j, y ++ row sp (j + 1) = (y ++ row sp j) ++ [(sp.1, sp.2 + (j : Int))]) := Lib.hid (fun j => by rw [row_next, List.append_assoc])
      obtain ⟨yy, hyy⟩ : ∃ yy : Nat → List Pl, ∀ j, y ++ row sp j = yy j := ⟨fun j => y ++ row sp j, fun _ => rfl⟩
      simp only [hyy] at HOY HYL HLR HRN HT
      clear hyy HO5
      rw [← HYL.out] at HFB ⊢
      have hlr0 := HLR.out
      go_wp2_with fail
      go_loopg [6, 11, 37] n (fun mm v ii i wr => ∃ (j : Nat) (VA : Option Addr) (vc : Nat), j ≤ n ∧ i = .int .i64 (j : Int) ∧ v = .slice VA (yy j).length vc ∧ n - j ≤ mm ∧ wr.ownsRow w.heap.size 49 2 (.slice VA (yy j).length vc) (yy j).length (plCells (yy j)) ∧ Hid (Fb w pb sp (.slice VA (yy j).length vc) wr))
      case atStart => exact ⟨0, VA, vc, Nat.zero_le _, rfl, rfl, by omega, HOY.out, HFB⟩
      case round =>
        obtain ⟨j, VA2, vc2, hj, rfl, rfl, hm2, hown, HF⟩ := hrel
        by_cases hlt2 : j < n
        · have h0j : (0 : Int) ≤ (j : Int) := by omega
          have hji : (j : Int) < (n : Int) := by omega
          have c0 := L.blk_cell HF.out.box 0
          have c1 := L.blk_cell HF.out.box 1
          simp only [List.getElem?_toArray, List.getElem?_cons_zero, List.getElem?_cons_succ] at c0 c1
          have hw1 : IntKind.i64.wrap (sp.2 + (j : Int)) = sp.2 + (j : Int) := by rw [IntKind.wrap_i64]; omega
          have hw2 : wrap64 (sp.2 + (j : Int)) = sp.2 + (j : Int) := by unfold wrap64; omega
          have HRJ := Lib.hid (HRN.out j)
          have HLJ := Lib.hid (HLR.out j)
          have HLK := Lib.hid (HLR.out (j + 1))
          have HOW2 := Lib.hid hown
          have hsz := HF.out.b.size
          obtain ⟨z, hz⟩ : ∃ z, z = yy j := ⟨_, rfl⟩
          rw [← hz] at HRJ HLJ HF HOW2 ⊢
          have hzl : z.length ≤ 240000 := by rw [HLJ.out]; omega
          have HF2 := Lib.hid (HF.out.below (alloc1 wr (.cells #[.bool sp.1, .int .i64 (sp.2 + (j : Int))] 49)))
          clear hown hz HLJ hlr0
          go_wp2_with (at_builtin; refine wpList_append_own_at _ rfl (.tmp 40) (.tmp 48) _ rfl w.heap.size 49 i0 _ 2 16 Try.underlying45 hi0 hz0 hz1 hz2 rfl (by decide) _ _ _ rfl (HOW2.out.alloc _) ⟨wr.heap.size, 0, none⟩ 1 1 [.bool sp.1, .int .i64 (sp.2 + (j : Int))] rfl rfl (World.news_of_block (heap_alloc_new wr _)) (by intro u hu; simp at hu; rcases hu with rfl | rfl <;> rfl) (by unfold maxLen; omega) (by omega) (by simp; omega) ?_; intro v1 w6 ho6 hg6 _ hat6)
          have HF6 := Lib.hid (HF2.out.grown hg6 (own_base HOW2.out) hat6)
          have ho7 : w6.ownsRow w.heap.size 49 2 v1 (yy (j + 1)).length (plCells (yy (j + 1))) := by rw [HRJ.out, plCells_snoc, List.length_append]; exact ho6
          obtain ⟨RA, rcap, rfl, -, -⟩ := own_form ho7
          have HO7 := Lib.hid ho7
          clear ho6 hg6 hat6 ho7
          go_wp2_with fail
          go_roundg (n - (j + 1))
          case rel => exact ⟨j + 1, RA, rcap, by omega, by go_num, (by first | rfl | (rw [HLK.out, HRJ.out]; simp)), Nat.le_refl _, HO7.out, HF6⟩
          case measure => omega
        · obtain rfl : j = n := by omega
          rw [← HT.out] at hown HF ⊢
          have HO8 := Lib.hid hown
          have HB8 := Lib.hid HF.out.b
          clear hown
          go_wp2_with fail
          go_roundg (l.length - (k + 1))
          case rel => exact ⟨k + 1, VA2, vc2, by omega, by go_num, rfl, Nat.le_refl _, HO8.out, HB8.out⟩
          case measure => omega
    · obtain rfl : k = l.length := by omega
      rw [HFE.out] at hown ⊢
      have HO9 := Lib.hid hown
      clear hown
      go_wp2_with fail
      refine bodyPost_ret (v := .tuple #[.slice VA fl.length vc, .int .i64 0]) (by simp [results, Try.results23, go_sem]) rfl ⟨VA, vc, rfl, pl_own HO9.out, hbr⟩
set_option maxRecDepth 100000 in
set_option maxHeartbeats 2000000 in
theorem from_clash (A : Option Addr) (c : Nat) (l : List Pc) (nb : Nat) (w : World) (hA : PcIn w A l) (hf : Fr l nb) (hb : nb ≤ 60) (hc : clean l = false) :
    Calls Try.prog 23 #[.slice A l.length c, .int .i64 (nb : Int)] w (FrEnd w [] 10) := by
  have HRE := Lib.hid (reaches_any A c l nb w hA hf hb)
  have HCL := Lib.hid (fun (W : World) (h : Below w.heap.size w W) => clean_any A c l W (hA.below h) (by have := hf.len; unfold maxLen; omega))
  rw [hc] at HCL
  clear hA hf hc
  go_enter Try.func23, Try.ntmps23
  go_wp2_with fail
  with_reducible refine HRE.out.mono ?_
  rintro e w1 ⟨rfl, hb1⟩
  have HB1 := Lib.hid hb1
  have HC1 := Lib.hid (HCL.out w1 hb1)
  clear HRE HCL hb1
  go_wp2_with fail
  with_reducible refine HC1.out.mono ?_
  rintro e w2 ⟨rfl, hb2⟩
  have HB2 := Lib.hid (HB1.out.trans (hb2.mono HB1.out.size))
  clear HC1 hb2 HB1
  go_wp2_with fail
  refine bodyPost_ret (v := .tuple #[.slice none 0 0, .int .i64 10]) (by simp [results, Try.results23, go_sem]) rfl ⟨none, 0, rfl, fun h => absurd h (by simp), HB2.out⟩
/-! What the places are. -/
def okp (a b : List Ln) (p : Pl) (x : Ln) : Prop := 0 ≤ p.2 ∧ p.2 < (if p.1 = true then b else a).length ∧ ((if p.1 = true then b else a)[p.2.toNat]?).map (·.1) = some x.1
theorem cut_ok {a b t : List Ln} {th : Bool} {k n : Int} (ht : (if th = true then b else a) = t) (h0 : 0 ≤ k) (h1 : 0 ≤ n) (h2 : k + n ≤ t.length) : ∀ i (hi : i < (row (th, k) n.toNat).length) (hj : i < (cutl t k n).length), okp a b (row (th, k) n.toNat)[i] (cutl t k n)[i] := fun i hi hj => by
  rw [row_len] at hi
  have e1 : (row (th, k) n.toNat)[i]'(by rw [row_len]; exact hi) = (th, k + (i : Int)) := by simp [row]
  have e2 : (cutl t k n)[i]? = t[(k + i).toNat]? := cutl_at h0 (by omega)
  rw [List.getElem?_eq_getElem hj] at e2
  rw [e1]
  unfold okp
  simp only
  rw [ht]
  exact ⟨by omega, by omega, by rw [← e2]; rfl⟩
theorem frm_ok {o a b : List Ln} : ∀ {l : List Pc}, (∀ x ∈ l, In3 x.ck o a b) → clean l = true → (frm l).length = (l.flatMap (plines o a b)).length ∧ ∀ i (hi : i < (frm l).length) (hj : i < (l.flatMap (plines o a b)).length), okp a b (frm l)[i] (l.flatMap (plines o a b))[i]
  | [], _, _ => ⟨rfl, fun i hi => by simp [frm] at hi⟩
  | x :: r, h, hc => by
    unfold clean at hc
    rw [List.all_cons, Bool.and_eq_true] at hc
    obtain ⟨i1, i2⟩ := frm_ok (l := r) (fun y hy => h y (List.mem_cons_of_mem _ hy)) hc.2
    have hx := h x List.mem_cons_self
    have h4 : x.sd ≠ 4 := by simpa using hc.1
    have key : (row (src x) (srn x).toNat).length = (plines o a b x).length ∧ ∀ i (hi : i < (row (src x) (srn x).toNat).length) (hj : i < (plines o a b x).length), okp a b (row (src x) (srn x).toNat)[i] (plines o a b x)[i] := by
      unfold plines src srn
      by_cases h2 : x.sd = 2
      · simp only [if_pos h2]
        exact ⟨by rw [row_len, cutl_len hx.fa.2.1 hx.fa.1 hx.fa.2.2], cut_ok (th := false) rfl hx.fa.1 hx.fa.2.1 hx.fa.2.2⟩
      · simp only [if_neg h2, if_neg h4]
        exact ⟨by rw [row_len, cutl_len hx.fb.2.1 hx.fb.1 hx.fb.2.2], cut_ok (th := true) rfl hx.fb.1 hx.fb.2.1 hx.fb.2.2⟩
    have ef : frm (x :: r) = row (src x) (srn x).toNat ++ frm r := by simp [frm]
    have ep : (x :: r).flatMap (plines o a b) = plines o a b x ++ r.flatMap (plines o a b) := List.flatMap_cons ..
    refine ⟨by rw [ef, ep, List.length_append, List.length_append, key.1, i1], fun i hi hj => ?_⟩
    have e1 : (frm (x :: r))[i]'hi = (row (src x) (srn x).toNat ++ frm r)[i]'(by rw [← ef]; exact hi) := by simp only [ef]
    have e2 : ((x :: r).flatMap (plines o a b))[i]'hj = (plines o a b x ++ r.flatMap (plines o a b))[i]'(by rw [← ep]; exact hj) := by simp only [ep]
    rw [e1, e2]
    by_cases hs : i < (plines o a b x).length
    · rw [List.getElem_append_left (by rw [key.1]; exact hs), List.getElem_append_left hs]
      exact key.2 i _ hs
    · rw [List.getElem_append_right (by rw [key.1]; omega), List.getElem_append_right (by omega)]
      simp only [key.1]
      exact i2 _ _ _
end Go.Proofs.Ytkflhcfopejigaa.Mg
