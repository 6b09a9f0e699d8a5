/-
  What the reference's Build needs of memory.
  The reference's Build: the row of hunks while each one's edits are brought into their normal form.
  The reference's Normal, with the room of its row.
-/
import Derived.Test.YtimalohdchhjgaaGhi
import Derived.Test.YtimalohdchhjgaaGhd
import Derived.Test.YtimalohdchhjgaaGsf
import Derived.Test.YtimalohdchhjgaaGhb
namespace Go.Proofs.Ytimalohdchhjgaa.H
set_option linter.unusedVariables false
set_option linter.unusedSimpArgs false
open Go.RowKit
open T S
open V (grown_of)
open I (alloc1 own_at own_below)
open N (Ln)

/-- A box of a hunk is laid on; the row of hunks is another block. -/
theorem Hs.setX {w0 w : World} {base xb : Nat} {vh : Value} {xs : List Hr} {cs : Array Value} (h : Hs w0 w base vh xs) (hx : w.heap[xb]? = some (.cells cs 44 (0, 0))) (hne : vh.ownBlock ≠ some xb) (hb : base ≤ xb) (i : Nat) (u : Value) : Hs w0 (w.setCell ⟨xb, i, none⟩ u) base vh xs := by
  have hg : w.grownBy (w.setCell ⟨xb, i, none⟩ u) (some xb) := ⟨rfl, rfl, rfl, by simp [World.setCell], fun k _ hk => L.blk_far (fun e => hk (by rw [e])) u⟩
  refine ⟨h.own.kept hg (.inr hne), fun x hm => ⟨V.own_stored (h.ok x hm).r hx (by decide), (h.ok x hm).e⟩, h.ap, h.b.setCell (p := ⟨xb, i, none⟩) (Nat.le_trans h.hb hb) u, h.hb, by simpa [World.setCell] using h.hs⟩
theorem hrCell_set5 (x x' : Hr) : ((((((hrCell x).set 0 (.int .i64 x'.h.oa)).set 1 (.int .i64 x'.h.o)).set 2 (.int .i64 x'.h.na)).set 3 (.int .i64 x'.h.n)).set 4 x'.v) = hrCell x' := rfl
/-- A last hunk is laid anew. -/
theorem Hs.renew {w0 w : World} {base g n cap : Nat} {ys : List Hr} {x x' : Hr} (h : Hs w0 w base (.slice (some ⟨g, 0, none⟩) n cap) (ys ++ [x])) (hr : w.ownsRow base 47 2 x'.v x'.rs.length (rawCells x'.rs)) (he : RawsOk 0 w0 x'.rs x'.h.es) (ha : ∀ y ∈ ys, Apart y.v x'.v) :
    Hs w0 (((((w.setCell ⟨g, ys.length * 5 + 0, none⟩ (.int .i64 x'.h.oa)).setCell ⟨g, ys.length * 5 + 1, none⟩ (.int .i64 x'.h.o)).setCell ⟨g, ys.length * 5 + 2, none⟩ (.int .i64 x'.h.na)).setCell ⟨g, ys.length * 5 + 3, none⟩ (.int .i64 x'.h.n)).setCell ⟨g, ys.length * 5 + 4, none⟩ x'.v) base (.slice (some ⟨g, 0, none⟩) n cap) (ys ++ [x']) := by
  have hn : n = (ys ++ [x]).length := by
    rcases h.own.2 with ⟨h', _⟩ | ⟨g', cap', cur, h', _⟩
    · cases h'
    · injection h'
  subst hn
  obtain ⟨cs, hh⟩ := own_heap h.own rfl
  have one : ∀ (W : World) (zs : List Value) (i : Nat) (u : Value), W.ownsRow base 44 5 (.slice (some ⟨g, 0, none⟩) (ys ++ [x]).length cap) (ys ++ [x]).length (hrCells ys ++ zs) → (∀ y, HrOk w0 w base y → HrOk w0 W base y) → W.ownsRow base 47 2 x'.v x'.rs.length (rawCells x'.rs) → Below w0.heap.size w0 W → base ≤ W.heap.size →
      (W.setCell ⟨g, ys.length * 5 + i, none⟩ u).ownsRow base 44 5 (.slice (some ⟨g, 0, none⟩) (ys ++ [x]).length cap) (ys ++ [x]).length (hrCells ys ++ zs.set i u) ∧ (∀ y, HrOk w0 w base y → HrOk w0 (W.setCell ⟨g, ys.length * 5 + i, none⟩ u) base y) ∧ (W.setCell ⟨g, ys.length * 5 + i, none⟩ u).ownsRow base 47 2 x'.v x'.rs.length (rawCells x'.rs) ∧ Below w0.heap.size w0 (W.setCell ⟨g, ys.length * 5 + i, none⟩ u) ∧ base ≤ (W.setCell ⟨g, ys.length * 5 + i, none⟩ u).heap.size := fun W zs i u ho hk hr2 hb2 hs2 => by
    obtain ⟨h1, h2⟩ := World.ownsRow.stored ho (ys.length * 5 + i) u
    rw [List.set_append_right _ _ (by rw [hrCells_len]; omega), hrCells_len, show ys.length * 5 + i - ys.length * 5 = i by omega] at h1
    obtain ⟨cs, hh⟩ := own_heap ho rfl
    exact ⟨h1, fun y hy => ⟨V.own_stored (hk y hy).r hh (by decide), (hk y hy).e⟩, V.own_stored hr2 hh (by decide), hb2.grown h2 hb2.size (fun k e => by obtain rfl := Option.some.inj e; exact Nat.le_trans h.hb (own_base ho _ rfl)), Nat.le_trans hs2 h2.size⟩
  have s0 := h.own
  rw [hrCells_app, hrCells_one] at s0
  obtain ⟨a1, a2, a3, a4, a5⟩ := one w (hrCell x) 0 (.int .i64 x'.h.oa) s0 (fun _ hy => hy) hr h.b h.hs
  obtain ⟨b1, b2, b3, b4, b5⟩ := one _ _ 1 (.int .i64 x'.h.o) a1 a2 a3 a4 a5
  obtain ⟨c1, c2, c3, c4, c5⟩ := one _ _ 2 (.int .i64 x'.h.na) b1 b2 b3 b4 b5
  obtain ⟨d1, d2, d3, d4, d5⟩ := one _ _ 3 (.int .i64 x'.h.n) c1 c2 c3 c4 c5
  obtain ⟨e1, e2, e3, e4, e5⟩ := one _ _ 4 x'.v d1 d2 d3 d4 d5
  rw [hrCell_set5, ← hrCells_one, ← hrCells_app] at e1
  refine ⟨by simpa using e1, fun y hy => ?_, ?_, e4, h.hb, e5⟩
  · rcases List.mem_append.1 hy with hy | hy
    · exact e2 y (h.ok y (List.mem_append_left _ hy))
    · obtain rfl := List.mem_singleton.1 hy
      exact ⟨e3, he⟩
  · have := h.ap
    rw [List.pairwise_append] at this ⊢
    exact ⟨this.1, List.pairwise_singleton _ _, fun a hm b hb => by obtain rfl := List.mem_singleton.1 hb; exact ha a hm⟩
/-- A hunk that is read: its cells, and what room its edits have. -/
structure Hq where
  h : Hk
  A : Option Addr
  c : Nat
def hqCell (q : Hq) : List Value := [.int .i64 q.h.oa, .int .i64 q.h.o, .int .i64 q.h.na, .int .i64 q.h.n, .slice q.A q.h.es.length q.c]
def hqCells (qs : List Hq) : List Value := qs.flatMap hqCell
theorem hqCells_at (qs : List Hq) (j : Nat) (h : j < qs.length) (i : Nat) (hi : i < 5) : (hqCells qs)[j * 5 + i]? = (hqCell qs[j])[i]? := by
  induction qs generalizing j with
  | nil => simp at h
  | cons x r ih =>
    have e : hqCells (x :: r) = hqCell x ++ hqCells r := by simp [hqCells]
    have l5 : (hqCell x).length = 5 := rfl
    cases j with
    | zero => rw [e, Nat.zero_mul, Nat.zero_add, List.getElem?_append_left (by omega)]; rfl
    | succ j =>
      rw [e, List.getElem?_append_right (by omega), l5, show (j + 1) * 5 + i - 5 = j * 5 + i by omega]
      exact ih j (by simpa using h)
theorem hqCells_len : ∀ xs : List Hq, (hqCells xs).length = xs.length * 5
  | [] => rfl
  | x :: xs => by
    have := hqCells_len xs
    simp only [hqCells, List.flatMap_cons, List.length_append, List.length_cons] at this ⊢
    rw [this]; simp [hqCell]; omega
/-- Edits that may be read, each with lines. -/
structure Rd (w : World) (q : Hq) : Prop where
  e : EdsIn 0 w q.A q.h.es
  ne : q.h.es ≠ []
  full : ∀ e ∈ q.h.es, e.2 ≠ []
  c : q.h.es.length ≤ q.c
/-- By the kinds of its cells no row of edits lies in a row of hunks: a store into the row of hunks leaves it as it was. -/
theorem Rd.kept {w : World} {base g n cap : Nat} {qs : List Hq} {q : Hq} (hr : Rd w q) (hn : n = qs.length) (ho : w.ownsRow base 44 5 (.slice (some ⟨g, 0, none⟩) n cap) n (hqCells qs)) (hq : ∀ z ∈ qs, Rd w z) {p : Nat} (hp : p < n * 5) (u : Value) : Rd (w.setCell ⟨g, p, none⟩ u) q := by
  subst hn
  -- what stands in the row
  have cell : ∀ i, i < qs.length * 5 → w.cell? ⟨g, i, none⟩ = (hqCells qs)[i]? := fun i hi => by
    obtain ⟨g', hg, _, _, h3⟩ := own_at ho (by omega)
    obtain rfl : g = g' := by injection hg with hg; injection hg
    have hl : i < (hqCells qs).length := by rw [hqCells_len]; exact hi
    rw [List.getElem?_eq_getElem hl]
    exact h3 _ _ (List.getElem?_eq_getElem hl)
  have kinds : ∀ i, i < qs.length * 5 → (i % 5 < 4 ∧ ∃ z : Int, w.cell? ⟨g, i, none⟩ = some (.int .i64 z)) ∨ (i % 5 = 4 ∧ ∃ z ∈ qs, w.cell? ⟨g, i, none⟩ = some (.slice z.A z.h.es.length z.c)) := fun i hi => by
    have hj : i / 5 < qs.length := by omega
    have hm : i % 5 < 5 := Nat.mod_lt _ (by omega)
    have hat := hqCells_at qs (i / 5) hj (i % 5) hm
    rw [show i / 5 * 5 + i % 5 = i by omega] at hat
    rw [cell i hi, hat]
    have key : ∀ r, i % 5 = r → (r < 4 ∧ ∃ z : Int, (hqCell qs[i / 5])[r]? = some (.int .i64 z)) ∨ (r = 4 ∧ ∃ z ∈ qs, (hqCell qs[i / 5])[r]? = some (.slice z.A z.h.es.length z.c)) := fun r hr => by
      match r, (show r < 5 by omega) with
      | 0, _ => exact .inl ⟨by omega, _, rfl⟩
      | 1, _ => exact .inl ⟨by omega, _, rfl⟩
      | 2, _ => exact .inl ⟨by omega, _, rfl⟩
      | 3, _ => exact .inl ⟨by omega, _, rfl⟩
      | 4, _ => exact .inr ⟨rfl, qs[i / 5], List.getElem_mem hj, rfl⟩
    exact key _ rfl
  have far : ∀ (bk o : Nat), bk ≠ g ∨ o ≠ p → (w.setCell ⟨g, p, none⟩ u).cell? ⟨bk, o, none⟩ = w.cell? ⟨bk, o, none⟩ := fun bk o h => by
    rcases h with h | h
    · simp only [World.cell?, L.blk_far h]
    · by_cases e : bk = g
      · subst e
        obtain ⟨cs, hh⟩ := own_heap ho rfl
        rw [L.blk_cell (L.blk_set hh p u) o, L.blk_cell hh o, Array.getElem?_setIfInBounds_ne (fun e => h e.symm)]
      · simp only [World.cell?, L.blk_far e]
  have size : (w.setCell ⟨g, p, none⟩ u).heap.size = w.heap.size := by simp [World.setCell]
  -- lines
  have lines : ∀ (LA : Option Addr) (l : List Ln), LinesIn w LA l → LinesIn (w.setCell ⟨g, p, none⟩ u) LA l := fun LA l hl hp0 => by
    obtain ⟨lb, lo, e, hlt, hI⟩ := hl hp0
    refine ⟨lb, lo, e, by rw [size]; exact hlt, fun j hj => ?_⟩
    obtain ⟨c0, c1⟩ := hI j hj
    by_cases hb : lb = g
    · subst hb
      have h1 : qs.length * 5 ≤ lo + j * 2 := by
        rcases Nat.lt_or_ge (lo + j * 2) (qs.length * 5) with h | h
        · rcases kinds _ h with ⟨-, z, hz⟩ | ⟨-, z, -, hz⟩ <;> (rw [c0] at hz; cases hz)
        · exact h
      exact ⟨(far lb _ (.inr (by omega))).trans c0, (far lb _ (.inr (by omega))).trans c1⟩
    · exact ⟨(far lb _ (.inl hb)).trans c0, (far lb _ (.inl hb)).trans c1⟩
  refine ⟨fun hp0 => ?_, hr.ne, hr.full, hr.c⟩
  obtain ⟨bk, off, hA, h0, hlt, hI⟩ := hr.e hp0
  refine ⟨bk, off, hA, h0, by rw [size]; exact hlt, fun j hj => ?_⟩
  obtain ⟨LA, lc, g0, g1, g2, g3, g4, g5⟩ := hI j hj
  by_cases hb : bk = g
  · subst hb
    have hle := hr.full _ (List.getElem_mem hj)
    have h1 : qs.length * 5 ≤ off + j * 2 + 1 := by
      rcases Nat.lt_or_ge (off + j * 2 + 1) (qs.length * 5) with h | h
      · exfalso
        rcases kinds _ h with ⟨-, z, hz⟩ | ⟨-, z, hzm, hz⟩
        · rw [g1] at hz; cases hz
        · rw [g1] at hz
          injection hz with hz
          injection hz with hz1 hz2 hz3
          -- its lines would be a hunk's edits
          obtain ⟨lb, lo, el, _, hIl⟩ := g2 (List.length_pos_iff.2 hle)
          have hzr := hq z hzm
          obtain ⟨eb, eo, ee, _, _, hIe⟩ := hzr.e (List.length_pos_iff.2 hzr.ne)
          rw [hz1, ee] at el
          obtain ⟨_, _, q0, _⟩ := hIe 0 (List.length_pos_iff.2 hzr.ne)
          obtain ⟨q1, _⟩ := hIl 0 (List.length_pos_iff.2 hle)
          injection el with el
          injection el with el1 el2
          rw [el1, el2] at q0
          rw [q0] at q1
          cases q1
      · exact h
    have h2 : off + j * 2 ≠ p := fun e => by
      have hpl : off + j * 2 < qs.length * 5 := by omega
      have h5 : off + j * 2 + 1 = qs.length * 5 := by omega
      rcases kinds _ hpl with ⟨h, -⟩ | ⟨-, z, -, hz⟩
      · omega
      · rw [g0] at hz; cases hz
    exact ⟨LA, lc, (far bk _ (.inr h2)).trans g0, (far bk _ (.inr (by omega))).trans g1, lines LA _ g2, g3, g4, g5⟩
  · exact ⟨LA, lc, (far bk _ (.inl hb)).trans g0, (far bk _ (.inl hb)).trans g1, lines LA _ g2, g3, g4, g5⟩
end Go.Proofs.Ytimalohdchhjgaa.H

namespace Go.Proofs.Ytimalohdchhjgaa.H
set_option linter.unusedVariables false
set_option linter.unusedSimpArgs false
open Go.RowKit
open T S
open V (grown_of)
open I (alloc1 own_at own_below)
open N (Ln)

theorem Rd.below {w w' : World} {q : Hq} (h : Rd w q) (hb : Below w.heap.size w w') : Rd w' q := ⟨h.e.below hb, h.ne, h.full, h.c⟩
theorem hqCells_same (qs : List Hq) (j : Nat) (hj : j < qs.length) (i : Nat) (hi : i < 5) (u : Value) (hu : (hqCell qs[j])[i]? = some u) : (hqCells qs).set (j * 5 + i) u = hqCells qs := by
  have h := hqCells_at qs j hj i hi
  rw [hu] at h
  apply List.ext_getElem?
  intro k
  by_cases e : j * 5 + i = k
  · subst e
    rw [List.getElem?_set_self (by rw [hqCells_len]; omega), h]
  · rw [List.getElem?_set_ne e]
theorem hqCells_set4 (z : Hq) : ∀ (qs : List Hq) (j : Nat) (hj : j < qs.length), z.h.oa = qs[j].h.oa → z.h.o = qs[j].h.o → z.h.na = qs[j].h.na → z.h.n = qs[j].h.n →
    (hqCells qs).set (j * 5 + 4) (.slice z.A z.h.es.length z.c) = hqCells (qs.set j z)
  | [], j, hj, _, _, _, _ => by simp at hj
  | x :: r, 0, _, h1, h2, h3, h4 => by
    have e : hqCells (x :: r) = hqCell x ++ hqCells r := by simp [hqCells]
    have e' : hqCells (z :: r) = hqCell z ++ hqCells r := by simp [hqCells]
    simp only [List.getElem_cons_zero] at h1 h2 h3 h4
    rw [List.set_cons_zero, e, e', List.set_append_left _ _ (by show 0 * 5 + 4 < 5; omega)]
    congr 1
    unfold hqCell
    rw [h1, h2, h3, h4]
    rfl
  | x :: r, j + 1, hj, h1, h2, h3, h4 => by
    have e : hqCells (x :: r) = hqCell x ++ hqCells r := by simp [hqCells]
    have e' : hqCells (x :: r.set j z) = hqCell x ++ hqCells (r.set j z) := by simp [hqCells]
    have l5 : (hqCell x).length = 5 := rfl
    rw [List.set_cons_succ, e, e', List.set_append_right _ _ (by omega), l5, show (j + 1) * 5 + 4 - 5 = j * 5 + 4 by omega]
    congr 1
    exact hqCells_set4 z r j (by simpa using hj) h1 h2 h3 h4
/-- The row of hunks: each one's edits may be read. -/
structure Hqs (w0 w : World) (base : Nat) (vh : Value) (qs : List Hq) : Prop where
  own : w.ownsRow base 44 5 vh qs.length (hqCells qs)
  rd : ∀ q ∈ qs, Rd w q
  b : Below w0.heap.size w0 w
  hb : w0.heap.size ≤ base
  hs : base ≤ w.heap.size
theorem Hqs.below {w0 w w' : World} {base : Nat} {vh : Value} {qs : List Hq} (h : Hqs w0 w base vh qs) (hb : Below w.heap.size w w') : Hqs w0 w' base vh qs :=
  ⟨own_below h.own hb, fun q hq => (h.rd q hq).below hb, h.b.trans (hb.mono h.b.size), h.hb, Nat.le_trans h.hs hb.size⟩
theorem Hqs.one {w0 w : World} {base g n cap : Nat} {qs qs' : List Hq} {z : Hq} (h : Hqs w0 w base (.slice (some ⟨g, 0, none⟩) n cap) qs) (hz : Rd w z) {p : Nat} (hp : p < qs.length * 5) (u : Value) (hl : qs'.length = qs.length) (hc : (hqCells qs).set p u = hqCells qs') (hq : ∀ q ∈ qs', q ∈ qs ∨ q = z) :
    Hqs w0 (w.setCell ⟨g, p, none⟩ u) base (.slice (some ⟨g, 0, none⟩) n cap) qs' ∧ Rd (w.setCell ⟨g, p, none⟩ u) z := by
  have hn : n = qs.length := by
    rcases h.own.2 with ⟨h', _⟩ | ⟨g', cap', cur, h', _⟩
    · cases h'
    · injection h'
  subst hn
  obtain ⟨h1, h2⟩ := World.ownsRow.stored h.own p u
  have kept := fun (q : Hq) (hr : Rd w q) => Rd.kept hr rfl h.own h.rd hp u
  refine ⟨⟨?_, fun q hm => ?_, h.b.grown h2 h.b.size (fun k e => by obtain rfl := Option.some.inj e; exact Nat.le_trans h.hb (own_base h.own _ rfl)), h.hb, Nat.le_trans h.hs h2.size⟩, kept z hz⟩
  · rw [hl, ← hc]; exact h1
  · rcases hq q hm with hm | rfl
    · exact kept q (h.rd q hm)
    · exact kept q hz
/-- One of them is laid anew, with other edits. -/
theorem Hqs.renew {w0 w : World} {base g n cap : Nat} {qs : List Hq} {z : Hq} (h : Hqs w0 w base (.slice (some ⟨g, 0, none⟩) n cap) qs) (j : Nat) (hj : j < qs.length) (hz : Rd w z) (h1 : z.h.oa = qs[j].h.oa) (h2 : z.h.o = qs[j].h.o) (h3 : z.h.na = qs[j].h.na) (h4 : z.h.n = qs[j].h.n) :
    Hqs w0 (((((w.setCell ⟨g, j * 5 + 0, none⟩ (.int .i64 z.h.oa)).setCell ⟨g, j * 5 + 1, none⟩ (.int .i64 z.h.o)).setCell ⟨g, j * 5 + 2, none⟩ (.int .i64 z.h.na)).setCell ⟨g, j * 5 + 3, none⟩ (.int .i64 z.h.n)).setCell ⟨g, j * 5 + 4, none⟩ (.slice z.A z.h.es.length z.c)) base (.slice (some ⟨g, 0, none⟩) n cap) (qs.set j z) := by
  obtain ⟨a1, a2⟩ := h.one hz (p := j * 5 + 0) (by omega) (.int .i64 z.h.oa) rfl (hqCells_same qs j hj 0 (by omega) _ (by rw [h1]; rfl)) (fun q hq => .inl hq)
  obtain ⟨b1, b2⟩ := a1.one a2 (p := j * 5 + 1) (by omega) (.int .i64 z.h.o) rfl (hqCells_same qs j hj 1 (by omega) _ (by rw [h2]; rfl)) (fun q hq => .inl hq)
  obtain ⟨c1, c2⟩ := b1.one b2 (p := j * 5 + 2) (by omega) (.int .i64 z.h.na) rfl (hqCells_same qs j hj 2 (by omega) _ (by rw [h3]; rfl)) (fun q hq => .inl hq)
  obtain ⟨d1, d2⟩ := c1.one c2 (p := j * 5 + 3) (by omega) (.int .i64 z.h.n) rfl (hqCells_same qs j hj 3 (by omega) _ (by rw [h4]; rfl)) (fun q hq => .inl hq)
  exact (d1.one d2 (p := j * 5 + 4) (by omega) (.slice z.A z.h.es.length z.c) (by simp) (hqCells_set4 z qs j hj h1 h2 h3 h4) (fun q hq => by
    rcases List.mem_or_eq_of_mem_set hq with hq | hq
    · exact .inl hq
    · exact .inr hq)).1
/-- What the code laid may be read. -/
theorem Hs.reads {w0 w : World} {base : Nat} {vh : Value} {xs : List Hr} (h : Hs w0 w base vh xs) (hn : ∀ x ∈ xs, x.h.es ≠ [] ∧ ∀ e ∈ x.h.es, e.2 ≠ []) : Hqs w0 w base vh (xs.map fun x => ⟨x.h, x.A, x.c⟩) := by
  have hc : hqCells (xs.map fun x => ⟨x.h, x.A, x.c⟩) = hrCells xs := by
    have key : ∀ xs : List Hr, (∀ x ∈ xs, x.rs.length = x.h.es.length) → hqCells (xs.map fun x => ⟨x.h, x.A, x.c⟩) = hrCells xs := fun xs => by
      induction xs with
      | nil => intro _; rfl
      | cons x r ih =>
        intro hl
        have e : hrCells (x :: r) = hrCell x ++ hrCells r := by simp [hrCells]
        have e' : hqCells ((x :: r).map fun x => (⟨x.h, x.A, x.c⟩ : Hq)) = hqCell ⟨x.h, x.A, x.c⟩ ++ hqCells (r.map fun x => ⟨x.h, x.A, x.c⟩) := by simp [hqCells]
        rw [e, e', ih (fun y hy => hl y (List.mem_cons_of_mem _ hy))]
        congr 1
        unfold hqCell hrCell Hr.v
        rw [hl x (List.mem_cons_self ..)]
    exact key xs (fun x hx => (h.ok x hx).e.1)
  refine ⟨by rw [hc, List.length_map]; exact h.own, fun q hq => ?_, h.b, h.hb, h.hs⟩
  obtain ⟨x, hx, rfl⟩ := List.mem_map.1 hq
  have ho := h.ok x hx
  have hl := ho.e.1
  have hr := ho.r
  unfold Hr.v at hr
  rw [hl] at hr
  obtain ⟨A', cap', hv, hcp, _⟩ := own_form hr
  injection hv with _ _ hv
  exact ⟨raws_eds hr (ho.e.below h.b) (Nat.zero_le _), (hn x hx).1, (hn x hx).2, by simp only; omega⟩
theorem Hqs.hks {w0 w : World} {base n cap : Nat} {A : Option Addr} {qs : List Hq} (h : Hqs w0 w base (.slice A n cap) qs) : n = qs.length ∧ HksIn 0 w A (qs.map (·.h)) := by
  have hn : n = qs.length := by
    rcases h.own.2 with ⟨h', h2⟩ | ⟨g', cap', cur, h', _⟩
    · injection h' with _ h' _; have := h.own.1; omega
    · injection h'
  subst hn
  refine ⟨rfl, fun hp => ?_⟩
  rw [List.length_map] at hp
  obtain ⟨g, rfl, h1, h2, h3⟩ := own_at h.own hp
  refine ⟨g, 0, rfl, Nat.zero_le _, h2, fun j hj => ?_⟩
  rw [List.length_map] at hj
  rw [List.getElem_map, Nat.zero_add]
  have hx := h.rd qs[j] (List.getElem_mem hj)
  have at5 := fun i hi => hqCells_at qs j hj i hi
  refine ⟨qs[j].A, qs[j].c, h3 _ _ (at5 0 (by omega)), h3 _ _ (at5 1 (by omega)), h3 _ _ (at5 2 (by omega)), h3 _ _ (at5 3 (by omega)), h3 _ _ (at5 4 (by omega)), hx.e, hx.c, fun e => ?_⟩
  obtain ⟨_, _, ha, _⟩ := hx.e (List.length_pos_iff.2 hx.ne)
  rw [ha] at e; cases e
theorem Hqs.at {w0 w : World} {base g n cap : Nat} {qs : List Hq} (h : Hqs w0 w base (.slice (some ⟨g, 0, none⟩) n cap) qs) (j : Nat) (hj : j < qs.length) :
    (∀ k, k < 5 → w.cell? ⟨g, j * 5 + k, none⟩ = (hqCell qs[j])[k]?) ∧ (∀ k, w.frozen? ⟨g, k, none⟩ = false) ∧ g < w.heap.size ∧ base ≤ g := by
  obtain ⟨cs, hh⟩ := own_heap h.own rfl
  have hn : n = qs.length := by
    rcases h.own.2 with ⟨h', _⟩ | ⟨g', cap', cur, h', _⟩
    · cases h'
    · injection h'
  subst hn
  obtain ⟨g', hg, hb, hlt, h3⟩ := own_at h.own (by omega)
  obtain rfl : g = g' := by injection hg with hg; injection hg
  refine ⟨fun k hk => ?_, fun k => L.blk_free hh k, hlt, hb⟩
  have h4 := hqCells_at qs j hj k hk
  rw [← h4]
  have h5 : j * 5 + k < (hqCells qs).length := by rw [hqCells_len]; omega
  rw [List.getElem?_eq_getElem h5]
  exact h3 _ _ (List.getElem?_eq_getElem h5)
/-- A hunk with its edits in their normal form. -/
def nH (h : Hk) : Hk := ⟨h.oa, h.o, h.na, h.n, nrm h.es⟩
theorem half_len {RES : List Hk} {qs : List Hq} {j : Nat} (h : qs.map (·.h) = (RES.take j).map nH ++ RES.drop j) : qs.length = RES.length := by
  have := congrArg List.length h
  simp at this
  omega
theorem half_at {RES : List Hk} {qs : List Hq} {j : Nat} (h : qs.map (·.h) = (RES.take j).map nH ++ RES.drop j) (hj : j < RES.length) (hq : j < qs.length) : qs[j].h = RES[j] := by
  have e : (qs.map (·.h))[j]? = some RES[j] := by
    rw [h, List.getElem?_append_right (by simp; omega), show j - ((RES.take j).map nH).length = 0 by simp; omega, List.getElem?_drop]
    simp [hj]
  rw [List.getElem?_map, List.getElem?_eq_getElem hq] at e
  simpa using e
theorem half_step {RES : List Hk} {qs : List Hq} {j : Nat} (h : qs.map (·.h) = (RES.take j).map nH ++ RES.drop j) (hj : j < RES.length) {z : Hq} (hz : z.h = nH RES[j]) : (qs.set j z).map (·.h) = (RES.take (j + 1)).map nH ++ RES.drop (j + 1) := by
  rw [List.map_set, h, hz, List.set_append_right _ _ (by simp; omega), show j - ((RES.take j).map nH).length = 0 by simp; omega, List.drop_eq_getElem_cons hj, List.set_cons_zero, List.take_succ_eq_append_getElem hj, List.map_append]
  simp
theorem nfc_full : ∀ {d : Int} {es : List Ed}, Nfc d es → ∀ e ∈ es, e.2 ≠ []
  | _, [], _, e, he => by cases he
  | d, x :: r, h, e, he => by
    rcases List.mem_cons.1 he with rfl | he
    · exact h.2.1
    · exact nfc_full h.2.2.2 e he
/-- A box of a hunk is laid on: edits that may be read stay. -/
theorem Rd.box {w : World} {xb : Nat} {oa ho na nn : Int} {QA : Option Addr} {xe : List Ed} {qc : Nat} {z : Hq} (hz : Rd w z) (hx : w.heap[xb]? = some (hkC oa ho na nn QA xe.length qc)) (hq : Rd w ⟨⟨oa, ho, na, nn, xe⟩, QA, qc⟩) {p : Nat} (hp : p < 5) (u : Value) : Rd (w.setCell ⟨xb, p, none⟩ u) z :=
  Rd.kept (base := 0) (n := 1) (cap := 1) (qs := [⟨⟨oa, ho, na, nn, xe⟩, QA, qc⟩]) hz rfl ⟨rfl, .inr ⟨xb, 1, _, rfl, Nat.zero_le _, hx, Nat.le_refl _, by unfold maxLen; omega, rfl, rfl⟩⟩ (fun z hz => by obtain rfl := List.mem_singleton.1 hz; exact hq) (by omega) u
end Go.Proofs.Ytimalohdchhjgaa.H

namespace Go.Proofs.Ytimalohdchhjgaa.H
set_option linter.unusedVariables false
set_option linter.unusedSimpArgs false
open Go.RowKit
open T S
open V (grown_of IntsIn numCells numCells_snoc ints_own drawn_below)
open I (alloc1 own_at own_below)
open N (Ln)

/-- A script and an error, to be read, with the room of its row. -/
def RcEnd (w : World) (r : List Ed) (e0 : Int) (e : Ending) (w' : World) : Prop :=
  ∃ A cap, e = .returned (.tuple #[.slice A r.length cap, .int .i64 e0]) ∧ EdsIn 0 w' A r ∧ r.length ≤ cap ∧ Below w.heap.size w w'
set_option maxRecDepth 100000 in
set_option maxHeartbeats 8000000 in
theorem rnormal_cap (A : Option Addr) (c b : Nat) (es : List Ed) (w : World) (hE : EdsIn b w A es) (hok : EdsOk es) (hc : ck es = 0) :
    Calls Try.prog 18 #[.slice A es.length c] w (RcEnd w (norm es) 0) := by
  have HC := Lib.hid (rcheck_any A c b es w hE hok)
  rw [hc] at HC
  obtain ⟨hel, htl, hd3⟩ := ck_ok hc
  have HE := Lib.hid hE
  have HD3 := Lib.hid hd3
  clear hE hok hc hd3
  go_enter Try.func18, Try.ntmps18
  go_wp2_with fail
  with_reducible refine (HC.out).mono ?_
  rintro e w1 ⟨rfl, hb1⟩
  have HQ0 := Lib.hid (Rq.start w w1 hb1)
  obtain ⟨base, hbase⟩ : ∃ n, n = w1.heap.size := ⟨_, rfl⟩
  clear hb1 HC
  go_wp2_with fail
  rw [← hbase] at HQ0 ⊢
  clear hbase
  go_loopg [5, 6, 7, 8, 9] es.length (fun m vo vk vg vm iv wr => ∃ (k : Nat) (rs : List Raw) (t : Rst), k ≤ es.length ∧ iv = .int .i64 k ∧ es.length - k ≤ m ∧ Hid (t = rnsts (es.take k)) ∧ Hid (Rq w wr base vo vk vg vm rs t.r t.k t.g t.m))
  case atStart => exact ⟨0, [], ⟨[], [], [], []⟩, Nat.zero_le _, rfl, by omega, Lib.hid rfl, HQ0⟩
  case round =>
    clear HQ0
    obtain ⟨k, rs, ⟨rr, rk, rg, rm⟩, hk, rfl, hmm, HT, HQ⟩ := hrel
    simp only at HQ
    obtain ⟨oA, ocap, rfl, -, -⟩ := own_form HQ.out.o
    obtain ⟨kA, kcap, rfl, -, -⟩ := own_form HQ.out.k
    obtain ⟨gA, gcap, rfl, -, -⟩ := own_form HQ.out.g
    obtain ⟨mA, mcap, rfl, -, -⟩ := own_form HQ.out.m
    have hrl : rs.length ≤ 3 * 800 ∧ rk.length + rg.length + rm.length ≤ 800 := by
      have h1 := rnsts_len (es.take k)
      have h2 := tl_le es k
      have h3 := rr_len (es.take k)
      have h4 : (es.take k).length ≤ es.length := by rw [List.length_take]; omega
      have h5 := HQ.out.r.1
      rw [← HT.out] at h1 h3
      simp only [rlen] at h1 h3
      omega
    have hrl1 := hrl.1
    have hrl2 := hrl.2
    clear hrl
    by_cases hlt : k < es.length
    · obtain ⟨bk, off, LA, lc, hAe, hcc, g2, g4⟩ := edit_in HE.out hlt
      subst hAe
      obtain ⟨c0, c1⟩ := hcc wr HQ.out.b
      have HCC := Lib.hid hcc
      have HL0 := Lib.hid g2
      have HLN := Lib.hid g4
      have hel4 : es[k].2.length ≤ 800 := by have := tl_take hlt; have := tl_le es (k + 1); omega
      have HNS : Hid (rnsts (es.take (k + 1)) = rnst ⟨rr, rk, rg, rm⟩ es[k]) := Lib.hid (by rw [rnsts_take hlt, ← HT.out])
      have H3 := HD3.out _ (List.getElem_mem hlt)
      generalize es[k] = e at *
      obtain ⟨d, l⟩ := e
      simp only at c0 c1 hel4 H3 HCC HL0 HLN
      have HL1 := Lib.hid (HL0.out.below HQ.out.b)
      have hbr := HQ.out.hs
      have h0k : (0 : Int) ≤ (k : Int) := by omega
      have hki : (k : Int) < (es.length : Int) := by omega
      clear hcc g2 g4 HT
      rcases H3 with rfl | rfl | rfl
      · by_cases hl0 : l.length = 0
        · have hz : decide (0 < l.length) = false := decide_eq_false (by omega)
          have hz2 : ¬ 0 < l.length := by omega
          have HNT : Hid (rnst ⟨rr, rk, rg, rm⟩ (1, l) = ⟨rr, rk ++ l, rg, rm⟩) := Lib.hid (by unfold rnst; rw [if_neg (by simp only; omega)]; rfl)
          obtain ⟨n, hn⟩ : ∃ n, n = l.length := ⟨_, rfl⟩
          have HLE := Lib.hid hn
          clear hn hl0
          go_wp2_with (at_builtin; refine wpList_append_lines (w := wr) rfl (.tmp 62) (.tmp 67) rfl base (.slice kA rk.length kcap) rk l rfl HQ.out.k LA lc rfl HL1.out HLN.out (by omega) hbr ?_; intro v' w4 ho4 hg4 hat4; have HQ4 := Lib.hid (HQ.out.addK hg4 ho4 hat4); clear ho4 hg4 hat4)
          go_roundg (es.length - (k + 1))
          case rel => exact ⟨k + 1, _, _, by omega, by go_num, Nat.le_refl _, Lib.hid (by rw [HNS.out, HNT.out]), HQ4⟩
          case measure => omega
        · by_cases hgm : rg.length + rm.length = 0
          · have hz : decide (0 < l.length) = true := decide_eq_true (by omega)
            have hz2 : 0 < l.length := by omega
            have hg0 : rg.length = 0 := by omega
            have hm0 : rm.length = 0 := by omega
            have HNT : Hid (rnst ⟨rr, rk, rg, rm⟩ (1, l) = ⟨rr, rk ++ l, rg, rm⟩) := Lib.hid (by unfold rnst; rw [if_neg (by simp only; omega)]; rfl)
            obtain rfl := List.length_eq_zero_iff.1 hg0
            obtain rfl := List.length_eq_zero_iff.1 hm0
            clear hl0 hgm hg0 hm0
            go_wp2_with (at_builtin; refine wpList_append_lines (w := wr) rfl (.tmp 62) (.tmp 67) rfl base (.slice kA rk.length kcap) rk l rfl HQ.out.k LA lc rfl HL1.out HLN.out (by omega) hbr ?_; intro v' w4 ho4 hg4 hat4; have HQ4 := Lib.hid (HQ.out.addK hg4 ho4 hat4); clear ho4 hg4 hat4)
            go_roundg (es.length - (k + 1))
            case rel => exact ⟨k + 1, _, _, by omega, by go_num, Nat.le_refl _, Lib.hid (by rw [HNS.out, HNT.out]), HQ4⟩
            case measure => omega
          · have hz : decide (0 < l.length) = true := decide_eq_true (by omega)
            have hz2 : 0 < l.length := by omega
            have hs : 0 < rg.length + rm.length := by omega
            have hs1 : decide (0 < rg.length + rm.length) = true := decide_eq_true hs
            have hs2 : (0 : Int) < (rg.length : Int) + (rm.length : Int) := by omega
            have hs3 : decide ((0 : Int) < (rg.length : Int) + (rm.length : Int)) = true := decide_eq_true hs2
            have HNT : Hid (rnst ⟨rr, rk, rg, rm⟩ (1, l) = ⟨rall ⟨rr, rk, rg, rm⟩, l, [], []⟩) := Lib.hid (by unfold rnst; rw [if_pos ⟨rfl, hz2, hs⟩]; simp [rput])
            clear hl0 hgm
            go_wp2_with fail
            with_reducible refine (lay_any w wr base oA ocap (.slice kA rk.length kcap) (.slice gA rg.length gcap) (.slice mA rm.length mcap) rs rr rk rg rm 1 kA kcap rk HQ.out (own_lines HQ.out.k) (fun e => by subst e; exact own_none HQ.out.k) (by omega) (by omega)).mono ?_
            rintro e w2 ⟨pA, pcap, rs2, rfl, hq2⟩
            have HQ2 := Lib.hid hq2
            have hl2 : rs2.length ≤ 2401 := by have h1 := hq2.r.1; rw [List.length_append, ← HQ.out.r.1] at h1; have := ly_len 1 rk; omega
            clear hq2
            go_wp2_with fail
            with_reducible refine (lay_any w w2 base pA pcap (.slice kA rk.length kcap) (.slice gA rg.length gcap) (.slice mA rm.length mcap) rs2 (rr ++ lyE 1 rk) rk rg rm 2 gA gcap rg HQ2.out (own_lines HQ2.out.g) (fun e => by subst e; exact own_none HQ2.out.g) (by omega) (by omega)).mono ?_
            rintro e w3 ⟨qA, qcap, rs3, rfl, hq3⟩
            have HQ3 := Lib.hid hq3
            have hl3 : rs3.length ≤ 2402 := by have h1 := hq3.r.1; rw [List.length_append, ← HQ2.out.r.1] at h1; have := ly_len 2 rg; omega
            clear hq3
            go_wp2_with fail
            with_reducible refine (lay_any w w3 base qA qcap (.slice kA rk.length kcap) (.slice gA rg.length gcap) (.slice mA rm.length mcap) rs3 ((rr ++ lyE 1 rk) ++ lyE 2 rg) rk rg rm 3 mA mcap rm HQ3.out (own_lines HQ3.out.m) (fun e => by subst e; exact own_none HQ3.out.m) (by omega) (by omega)).mono ?_
            rintro e w4 ⟨sA, scap, rs4, rfl, hq4⟩
            have HQ4 := Lib.hid hq4
            clear hq4
            clear c0 c1
            obtain ⟨c0, c1⟩ := HCC.out w4 HQ4.out.b
            have HQ5 := Lib.hid HQ4.out.clear
            have HL5 := Lib.hid (HL0.out.below HQ4.out.b)
            have hbr5 := HQ5.out.hs
            go_wp2_with (at_builtin; refine wpList_append_lines (w := w4) rfl (.tmp 62) (.tmp 67) rfl base (.slice none 0 0) [] l rfl HQ5.out.k LA lc rfl HL5.out HLN.out (by simp; omega) hbr5 ?_; intro v' w5 ho5 hg5 hat5; have HQ6 := Lib.hid (HQ5.out.addK hg5 ho5 hat5); clear ho5 hg5 hat5)
            go_roundg (es.length - (k + 1))
            case rel => exact ⟨k + 1, _, _, by omega, by go_num, Nat.le_refl _, Lib.hid (by rw [HNS.out, HNT.out]), HQ6⟩
            case measure => omega
      · have HNT : Hid (rnst ⟨rr, rk, rg, rm⟩ (2, l) = ⟨rr, rk, rg ++ l, rm⟩) := Lib.hid (by unfold rnst; rw [if_neg (by simp)]; rfl)
        go_wp2_with (at_builtin; refine wpList_append_lines (w := wr) rfl (.tmp 71) (.tmp 76) rfl base (.slice gA rg.length gcap) rg l rfl HQ.out.g LA lc rfl HL1.out HLN.out (by omega) hbr ?_; intro v' w4 ho4 hg4 hat4; have HQ4 := Lib.hid (((HQ.out.rot.addK hg4 ho4 hat4).rot).rot); clear ho4 hg4 hat4)
        go_roundg (es.length - (k + 1))
        case rel => exact ⟨k + 1, _, _, by omega, by go_num, Nat.le_refl _, Lib.hid (by rw [HNS.out, HNT.out]), HQ4⟩
        case measure => omega
      · have HNT : Hid (rnst ⟨rr, rk, rg, rm⟩ (3, l) = ⟨rr, rk, rg, rm ++ l⟩) := Lib.hid (by unfold rnst; rw [if_neg (by simp)]; rfl)
        go_wp2_with (at_builtin; refine wpList_append_lines (w := wr) rfl (.tmp 80) (.tmp 85) rfl base (.slice mA rm.length mcap) rm l rfl HQ.out.m LA lc rfl HL1.out HLN.out (by omega) hbr ?_; intro v' w4 ho4 hg4 hat4; have HQ4 := Lib.hid ((HQ.out.rot.rot.addK hg4 ho4 hat4).rot); clear ho4 hg4 hat4)
        go_roundg (es.length - (k + 1))
        case rel => exact ⟨k + 1, _, _, by omega, by go_num, Nat.le_refl _, Lib.hid (by rw [HNS.out, HNT.out]), HQ4⟩
        case measure => omega
    · obtain rfl : k = es.length := by omega
      rw [List.take_length] at HT
      go_wp2_with fail
      with_reducible refine (lay_any w wr base oA ocap (.slice kA rk.length kcap) (.slice gA rg.length gcap) (.slice mA rm.length mcap) rs rr rk rg rm 1 kA kcap rk HQ.out (own_lines HQ.out.k) (fun e => by subst e; exact own_none HQ.out.k) (by omega) (by omega)).mono ?_
      rintro e w2 ⟨pA, pcap, rs2, rfl, hq2⟩
      have HQ2 := Lib.hid hq2
      have hl2 : rs2.length ≤ 2401 := by have h1 := hq2.r.1; rw [List.length_append, ← HQ.out.r.1] at h1; have := ly_len 1 rk; omega
      clear hq2
      go_wp2_with fail
      with_reducible refine (lay_any w w2 base pA pcap (.slice kA rk.length kcap) (.slice gA rg.length gcap) (.slice mA rm.length mcap) rs2 (rr ++ lyE 1 rk) rk rg rm 2 gA gcap rg HQ2.out (own_lines HQ2.out.g) (fun e => by subst e; exact own_none HQ2.out.g) (by omega) (by omega)).mono ?_
      rintro e w3 ⟨qA, qcap, rs3, rfl, hq3⟩
      have HQ3 := Lib.hid hq3
      have hl3 : rs3.length ≤ 2402 := by have h1 := hq3.r.1; rw [List.length_append, ← HQ2.out.r.1] at h1; have := ly_len 2 rg; omega
      clear hq3
      go_wp2_with fail
      with_reducible refine (lay_any w w3 base qA qcap (.slice kA rk.length kcap) (.slice gA rg.length gcap) (.slice mA rm.length mcap) rs3 ((rr ++ lyE 1 rk) ++ lyE 2 rg) rk rg rm 3 mA mcap rm HQ3.out (own_lines HQ3.out.m) (fun e => by subst e; exact own_none HQ3.out.m) (by omega) (by omega)).mono ?_
      rintro e w4 ⟨sA, scap, rs4, rfl, hq4⟩
      have HQ4 := Lib.hid hq4
      clear hq4
      have HRA : Hid (((rr ++ lyE 1 rk) ++ lyE 2 rg) ++ lyE 3 rm = norm es) := Lib.hid (by
        have := rall_norm HD3.out
        rw [← HT.out] at this
        exact this)
      have HR : Hid (EdsIn 0 w4 sA (norm es)) := Lib.hid (by
        have ho := HQ4.out.o
        have hr := HQ4.out.r
        have hl := hr.1
        rw [HRA.out] at hr hl
        rw [hl] at ho
        exact raws_eds ho hr (Nat.zero_le _))
      have HRL : Hid (rs4.length = (norm es).length) := Lib.hid (by rw [← HRA.out]; exact HQ4.out.r.1)
      have HB4 := Lib.hid HQ4.out.b
      have HCAP : Hid ((norm es).length ≤ scap) := Lib.hid (by
        obtain ⟨_, _, hv, hcp, _⟩ := own_form HQ4.out.o
        injection hv with h1 h2 h3
        rw [← HRL.out, h3]
        exact hcp)
      go_wp2_with fail
      go_ret2
      exact ⟨sA, scap, by rw [HRL.out]; rfl, HR.out, HCAP.out, HB4.out⟩
end Go.Proofs.Ytimalohdchhjgaa.H
