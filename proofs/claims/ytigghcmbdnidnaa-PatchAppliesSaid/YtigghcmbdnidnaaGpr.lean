/-
  What the reference's Build needs of memory.
  A row of hunks while one is put behind the others; the contract of patch.Reverse.
  The contracts of patch.done and patch.walk: what is told, line by line, to whoever keeps it.
  The contract of patch.walk.
  Whoever is told of a patch: the contracts of patch.Apply, Gone and Made.
-/
import Derived.Test.YtigghcmbdnidnaaGpq
import Derived.Test.YtigghcmbdnidnaaGpm
import Derived.Test.YtigghcmbdnidnaaGpp
import Derived.Maps.AppendAt
import Derived.Test.YtigghcmbdnidnaaGpc
import Derived.Outline
import Derived.BigQuiet
import Derived.Test.YtigghcmbdnidnaaGpg
namespace Go.Proofs.Ytigghcmbdnidnaa.H
set_option linter.unusedVariables false
set_option linter.unusedSimpArgs false
open Go.RowKit
open T S
open V (grown_of)
open I (alloc1 own_at own_below)
open N (Ln)

/-- A box of a hunk is laid on; the row of hunks is another block. -/
theorem Hs.setX {w0 w : World} {base xb : Nat} {vh : Value} {xs : List Hr} {cs : Array Value} (h : Hs w0 w base vh xs) (hx : w.heap[xb]? = some (.cells cs 65 (0, 0))) (hne : vh.ownBlock ≠ some xb) (hb : base ≤ xb) (i : Nat) (u : Value) : Hs w0 (w.setCell ⟨xb, i, none⟩ u) base vh xs := by
  have hg : w.grownBy (w.setCell ⟨xb, i, none⟩ u) (some xb) := ⟨rfl, rfl, rfl, by simp [World.setCell], fun k _ hk => L.blk_far (fun e => hk (by rw [e])) u⟩
  refine ⟨h.own.kept hg (.inr hne), fun x hm => ⟨V.own_stored (h.ok x hm).r hx (by decide), (h.ok x hm).e⟩, h.ap, h.b.setCell (p := ⟨xb, i, none⟩) (Nat.le_trans h.hb hb) u, h.hb, by simpa [World.setCell] using h.hs⟩
theorem hrCell_set5 (x x' : Hr) : ((((((hrCell x).set 0 (.int .i64 x'.h.oa)).set 1 (.int .i64 x'.h.o)).set 2 (.int .i64 x'.h.na)).set 3 (.int .i64 x'.h.n)).set 4 x'.v) = hrCell x' := rfl
/-- A last hunk is laid anew. -/
theorem Hs.renew {w0 w : World} {base g n cap : Nat} {ys : List Hr} {x x' : Hr} (h : Hs w0 w base (.slice (some ⟨g, 0, none⟩) n cap) (ys ++ [x])) (hr : w.ownsRow base 54 2 x'.v x'.rs.length (rawCells x'.rs)) (he : RawsOk 0 w0 x'.rs x'.h.es) (ha : ∀ y ∈ ys, Apart y.v x'.v) :
    Hs w0 (((((w.setCell ⟨g, ys.length * 5 + 0, none⟩ (.int .i64 x'.h.oa)).setCell ⟨g, ys.length * 5 + 1, none⟩ (.int .i64 x'.h.o)).setCell ⟨g, ys.length * 5 + 2, none⟩ (.int .i64 x'.h.na)).setCell ⟨g, ys.length * 5 + 3, none⟩ (.int .i64 x'.h.n)).setCell ⟨g, ys.length * 5 + 4, none⟩ x'.v) base (.slice (some ⟨g, 0, none⟩) n cap) (ys ++ [x']) := by
  have hn : n = (ys ++ [x]).length := by
    rcases h.own.2 with ⟨h', _⟩ | ⟨g', cap', cur, h', _⟩
    · cases h'
    · injection h'
  subst hn
  obtain ⟨cs, hh⟩ := own_heap h.own rfl
  have one : ∀ (W : World) (zs : List Value) (i : Nat) (u : Value), W.ownsRow base 65 5 (.slice (some ⟨g, 0, none⟩) (ys ++ [x]).length cap) (ys ++ [x]).length (hrCells ys ++ zs) → (∀ y, HrOk w0 w base y → HrOk w0 W base y) → W.ownsRow base 54 2 x'.v x'.rs.length (rawCells x'.rs) → Below w0.heap.size w0 W → base ≤ W.heap.size →
      (W.setCell ⟨g, ys.length * 5 + i, none⟩ u).ownsRow base 65 5 (.slice (some ⟨g, 0, none⟩) (ys ++ [x]).length cap) (ys ++ [x]).length (hrCells ys ++ zs.set i u) ∧ (∀ y, HrOk w0 w base y → HrOk w0 (W.setCell ⟨g, ys.length * 5 + i, none⟩ u) base y) ∧ (W.setCell ⟨g, ys.length * 5 + i, none⟩ u).ownsRow base 54 2 x'.v x'.rs.length (rawCells x'.rs) ∧ Below w0.heap.size w0 (W.setCell ⟨g, ys.length * 5 + i, none⟩ u) ∧ base ≤ (W.setCell ⟨g, ys.length * 5 + i, none⟩ u).heap.size := fun W zs i u ho hk hr2 hb2 hs2 => by
    obtain ⟨h1, h2⟩ := World.ownsRow.stored ho (ys.length * 5 + i) u
    rw [List.set_append_right _ _ (by rw [hrCells_len]; omega), hrCells_len, show ys.length * 5 + i - ys.length * 5 = i by omega] at h1
    obtain ⟨cs, hh⟩ := own_heap ho rfl
    exact ⟨h1, fun y hy => ⟨V.own_stored (hk y hy).r hh (by decide), (hk y hy).e⟩, V.own_stored hr2 hh (by decide), hb2.grown h2 hb2.size (fun k e => by obtain rfl := Option.some.inj e; exact Nat.le_trans h.hb (own_base ho _ rfl)), Nat.le_trans hs2 h2.size⟩
  have s0 := h.own
  rw [hrCells_app, hrCells_one] at s0
  obtain ⟨a1, a2, a3, a4, a5⟩ := one w (hrCell x) 0 (.int .i64 x'.h.oa) s0 (fun _ hy => hy) hr h.b h.hs
  obtain ⟨b1, b2, b3, b4, b5⟩ := one _ _ 1 (.int .i64 x'.h.o) a1 a2 a3 a4 a5
  obtain ⟨c1, c2, c3, c4, c5⟩ := one _ _ 2 (.int .i64 x'.h.na) b1 b2 b3 b4 b5
  obtain ⟨d1, d2, d3, d4, d5⟩ := one _ _ 3 (.int .i64 x'.h.n) c1 c2 c3 c4 c5
  obtain ⟨e1, e2, e3, e4, e5⟩ := one _ _ 4 x'.v d1 d2 d3 d4 d5
  rw [hrCell_set5, ← hrCells_one, ← hrCells_app] at e1
  refine ⟨by simpa using e1, fun y hy => ?_, ?_, e4, h.hb, e5⟩
  · rcases List.mem_append.1 hy with hy | hy
    · exact e2 y (h.ok y (List.mem_append_left _ hy))
    · obtain rfl := List.mem_singleton.1 hy
      exact ⟨e3, he⟩
  · have := h.ap
    rw [List.pairwise_append] at this ⊢
    exact ⟨this.1, List.pairwise_singleton _ _, fun a hm b hb => by obtain rfl := List.mem_singleton.1 hb; exact ha a hm⟩
/-- A hunk that is read: its cells, and what room its edits have. -/
structure Hq where
  h : Hk
  A : Option Addr
  c : Nat
def hqCell (q : Hq) : List Value := [.int .i64 q.h.oa, .int .i64 q.h.o, .int .i64 q.h.na, .int .i64 q.h.n, .slice q.A q.h.es.length q.c]
def hqCells (qs : List Hq) : List Value := qs.flatMap hqCell
theorem hqCells_at (qs : List Hq) (j : Nat) (h : j < qs.length) (i : Nat) (hi : i < 5) : (hqCells qs)[j * 5 + i]? = (hqCell qs[j])[i]? := by
  induction qs generalizing j with
  | nil => simp at h
  | cons x r ih =>
    have e : hqCells (x :: r) = hqCell x ++ hqCells r := by simp [hqCells]
    have l5 : (hqCell x).length = 5 := rfl
    cases j with
    | zero => rw [e, Nat.zero_mul, Nat.zero_add, List.getElem?_append_left (by omega)]; rfl
    | succ j =>
      rw [e, List.getElem?_append_right (by omega), l5, show (j + 1) * 5 + i - 5 = j * 5 + i by omega]
      exact ih j (by simpa using h)
theorem hqCells_len : ∀ xs : List Hq, (hqCells xs).length = xs.length * 5
  | [] => rfl
  | x :: xs => by
    have := hqCells_len xs
    simp only [hqCells, List.flatMap_cons, List.length_append, List.length_cons] at this ⊢
    rw [this]; simp [hqCell]; omega
/-- Edits that may be read, each with lines. -/
structure Rd (w : World) (q : Hq) : Prop where
  e : EdsIn 0 w q.A q.h.es
  ne : q.h.es ≠ []
  full : ∀ e ∈ q.h.es, e.2 ≠ []
  c : q.h.es.length ≤ q.c
/-- By the kinds of its cells no row of edits lies in a row of hunks: a store into the row of hunks leaves it as it was. -/
theorem Rd.kept {w : World} {base g n cap : Nat} {qs : List Hq} {q : Hq} (hr : Rd w q) (hn : n = qs.length) (ho : w.ownsRow base 65 5 (.slice (some ⟨g, 0, none⟩) n cap) n (hqCells qs)) (hq : ∀ z ∈ qs, Rd w z) {p : Nat} (hp : p < n * 5) (u : Value) : Rd (w.setCell ⟨g, p, none⟩ u) q := by
  subst hn
  -- what stands in the row
  have cell : ∀ i, i < qs.length * 5 → w.cell? ⟨g, i, none⟩ = (hqCells qs)[i]? := fun i hi => by
    obtain ⟨g', hg, _, _, h3⟩ := own_at ho (by omega)
    obtain rfl : g = g' := by injection hg with hg; injection hg
    have hl : i < (hqCells qs).length := by rw [hqCells_len]; exact hi
    rw [List.getElem?_eq_getElem hl]
    exact h3 _ _ (List.getElem?_eq_getElem hl)
  have kinds : ∀ i, i < qs.length * 5 → (i % 5 < 4 ∧ ∃ z : Int, w.cell? ⟨g, i, none⟩ = some (.int .i64 z)) ∨ (i % 5 = 4 ∧ ∃ z ∈ qs, w.cell? ⟨g, i, none⟩ = some (.slice z.A z.h.es.length z.c)) := fun i hi => by
    have hj : i / 5 < qs.length := by omega
    have hm : i % 5 < 5 := Nat.mod_lt _ (by omega)
    have hat := hqCells_at qs (i / 5) hj (i % 5) hm
    rw [show i / 5 * 5 + i % 5 = i by omega] at hat
    rw [cell i hi, hat]
    have key : ∀ r, i % 5 = r → (r < 4 ∧ ∃ z : Int, (hqCell qs[i / 5])[r]? = some (.int .i64 z)) ∨ (r = 4 ∧ ∃ z ∈ qs, (hqCell qs[i / 5])[r]? = some (.slice z.A z.h.es.length z.c)) := fun r hr => by
      match r, (show r < 5 by omega) with
      | 0, _ => exact .inl ⟨by omega, _, rfl⟩
      | 1, _ => exact .inl ⟨by omega, _, rfl⟩
      | 2, _ => exact .inl ⟨by omega, _, rfl⟩
      | 3, _ => exact .inl ⟨by omega, _, rfl⟩
      | 4, _ => exact .inr ⟨rfl, qs[i / 5], List.getElem_mem hj, rfl⟩
    exact key _ rfl
  have far : ∀ (bk o : Nat), bk ≠ g ∨ o ≠ p → (w.setCell ⟨g, p, none⟩ u).cell? ⟨bk, o, none⟩ = w.cell? ⟨bk, o, none⟩ := fun bk o h => by
    rcases h with h | h
    · simp only [World.cell?, L.blk_far h]
    · by_cases e : bk = g
      · subst e
        obtain ⟨cs, hh⟩ := own_heap ho rfl
        rw [L.blk_cell (L.blk_set hh p u) o, L.blk_cell hh o, Array.getElem?_setIfInBounds_ne (fun e => h e.symm)]
      · simp only [World.cell?, L.blk_far e]
  have size : (w.setCell ⟨g, p, none⟩ u).heap.size = w.heap.size := by simp [World.setCell]
  -- lines
  have lines : ∀ (LA : Option Addr) (l : List Ln), LinesIn w LA l → LinesIn (w.setCell ⟨g, p, none⟩ u) LA l := fun LA l hl hp0 => by
    obtain ⟨lb, lo, e, hlt, hI⟩ := hl hp0
    refine ⟨lb, lo, e, by rw [size]; exact hlt, fun j hj => ?_⟩
    obtain ⟨c0, c1⟩ := hI j hj
    by_cases hb : lb = g
    · subst hb
      have h1 : qs.length * 5 ≤ lo + j * 2 := by
        rcases Nat.lt_or_ge (lo + j * 2) (qs.length * 5) with h | h
        · rcases kinds _ h with ⟨-, z, hz⟩ | ⟨-, z, -, hz⟩ <;> (rw [c0] at hz; cases hz)
        · exact h
      exact ⟨(far lb _ (.inr (by omega))).trans c0, (far lb _ (.inr (by omega))).trans c1⟩
    · exact ⟨(far lb _ (.inl hb)).trans c0, (far lb _ (.inl hb)).trans c1⟩
  refine ⟨fun hp0 => ?_, hr.ne, hr.full, hr.c⟩
  obtain ⟨bk, off, hA, h0, hlt, hI⟩ := hr.e hp0
  refine ⟨bk, off, hA, h0, by rw [size]; exact hlt, fun j hj => ?_⟩
  obtain ⟨LA, lc, g0, g1, g2, g3, g4, g5⟩ := hI j hj
  by_cases hb : bk = g
  · subst hb
    have hle := hr.full _ (List.getElem_mem hj)
    have h1 : qs.length * 5 ≤ off + j * 2 + 1 := by
      rcases Nat.lt_or_ge (off + j * 2 + 1) (qs.length * 5) with h | h
      · exfalso
        rcases kinds _ h with ⟨-, z, hz⟩ | ⟨-, z, hzm, hz⟩
        · rw [g1] at hz; cases hz
        · rw [g1] at hz
          injection hz with hz
          injection hz with hz1 hz2 hz3
          -- its lines would be a hunk's edits
          obtain ⟨lb, lo, el, _, hIl⟩ := g2 (List.length_pos_iff.2 hle)
          have hzr := hq z hzm
          obtain ⟨eb, eo, ee, _, _, hIe⟩ := hzr.e (List.length_pos_iff.2 hzr.ne)
          rw [hz1, ee] at el
          obtain ⟨_, _, q0, _⟩ := hIe 0 (List.length_pos_iff.2 hzr.ne)
          obtain ⟨q1, _⟩ := hIl 0 (List.length_pos_iff.2 hle)
          injection el with el
          injection el with el1 el2
          rw [el1, el2] at q0
          rw [q0] at q1
          cases q1
      · exact h
    have h2 : off + j * 2 ≠ p := fun e => by
      have hpl : off + j * 2 < qs.length * 5 := by omega
      have h5 : off + j * 2 + 1 = qs.length * 5 := by omega
      rcases kinds _ hpl with ⟨h, -⟩ | ⟨-, z, -, hz⟩
      · omega
      · rw [g0] at hz; cases hz
    exact ⟨LA, lc, (far bk _ (.inr h2)).trans g0, (far bk _ (.inr (by omega))).trans g1, lines LA _ g2, g3, g4, g5⟩
  · exact ⟨LA, lc, (far bk _ (.inl hb)).trans g0, (far bk _ (.inl hb)).trans g1, lines LA _ g2, g3, g4, g5⟩
end Go.Proofs.Ytigghcmbdnidnaa.H

namespace Go.Proofs.Ytigghcmbdnidnaa.Pa
open Go.RowKit
open T S H
open V (grown_of drawn_below)
open I (alloc1 own_at own_below)
open N (Ln)

theorem lines_grown {w w' : World} {A : Option Addr} {l : List Ln} {row : Option Nat} (h : LinesIn w A l) (hg : w.grownBy w' row) (hne : ∀ p g, A = some p → row = some g → g ≠ p.block) : LinesIn w' A l := fun hp => by
  obtain ⟨bk, off, rfl, hlt, hl⟩ := h hp
  have hb := hg.block bk hlt (fun e => hne _ _ rfl e.symm rfl)
  refine ⟨bk, off, rfl, Nat.lt_of_lt_of_le hlt hg.size, fun j hj => ?_⟩
  obtain ⟨c0, c1⟩ := hl j hj
  exact ⟨(World.cell?_of_block (a := ⟨bk, _, none⟩) hb).trans c0, (World.cell?_of_block (a := ⟨bk, _, none⟩) hb).trans c1⟩
theorem eds_grown {b : Nat} {w w' : World} {A : Option Addr} {es : List Ed} {row : Option Nat} (h : EdsIn b w A es) (hg : w.grownBy w' row) (hr : ∀ g, row = some g → g < b) : EdsIn b w' A es := fun hp => by
  obtain ⟨bk, off, rfl, h1, h2, h3⟩ := h hp
  have hb := hg.block bk h2 (fun e => by have := hr _ e.symm; omega)
  refine ⟨bk, off, rfl, h1, Nat.lt_of_lt_of_le h2 hg.size, fun j hj => ?_⟩
  obtain ⟨LA, lc, g0, g1, g2, g3, g4, g5⟩ := h3 j hj
  exact ⟨LA, lc, (World.cell?_of_block (a := ⟨bk, _, none⟩) hb).trans g0, (World.cell?_of_block (a := ⟨bk, _, none⟩) hb).trans g1, lines_grown g2 hg (fun p g e1 e2 e => by have := g5 p e1; have := hr g e2; omega), g3, g4, g5⟩
/-- Edits that may be read, however the row grows. -/
def Kq (w : World) (vh : Value) (A : Option Addr) (es : List Ed) : Prop := ∀ w', w.grownBy w' vh.ownBlock → EdsIn 0 w' A es
theorem Kq.of {b : Nat} {w : World} {vh : Value} {A : Option Addr} {es : List Ed} (h : EdsIn b w A es) (hr : ∀ g, vh.ownBlock = some g → g < b) : Kq w vh A es := fun _ hg => (eds_grown h hg hr).low (Nat.zero_le _)
theorem Kq.next {w w1 : World} {vh vh' : Value} {A : Option Addr} {es : List Ed} (h : Kq w vh A es) (hg : w.grownBy w1 vh.ownBlock) (hn : vh'.ownBlock = vh.ownBlock ∨ ∃ g, vh'.ownBlock = some g ∧ w.heap.size ≤ g) : Kq w1 vh' A es := fun w2 hg2 =>
  h w2 (hg.andThen hg2 (fun j ej => by
    rcases hn with e | ⟨g, e, hl⟩
    · exact .inr (by rw [← e]; exact ej)
    · rw [e] at ej; cases ej; exact .inl hl))
theorem Kq.below {w w1 : World} {vh : Value} {A : Option Addr} {es : List Ed} (h : Kq w vh A es) (hb : Below w.heap.size w w1) : Kq w1 vh A es := h.next (grown_of hb _) (.inl rfl)
theorem hqCells_app (a b : List Hq) : hqCells (a ++ b) = hqCells a ++ hqCells b := by simp [hqCells]
theorem hqCells_one (q : Hq) : hqCells [q] = hqCell q := by simp [hqCells]
/-- A row of hunks, put together one by one. -/
structure Rw (w : World) (base : Nat) (vh : Value) (qs : List Hq) : Prop where
  own : w.ownsRow base 65 5 vh qs.length (hqCells qs)
  rd : ∀ q ∈ qs, Kq w vh q.A q.h.es ∧ q.h.es.length ≤ q.c ∧ (q.A = none → q.c = 0)
theorem Rw.below {w w1 : World} {base : Nat} {vh : Value} {qs : List Hq} (h : Rw w base vh qs) (hb : Below w.heap.size w w1) : Rw w1 base vh qs := ⟨own_below h.own hb, fun q hq => ⟨(h.rd q hq).1.below hb, (h.rd q hq).2⟩⟩
theorem Rw.add {w w1 : World} {base : Nat} {vh vh' : Value} {qs : List Hq} {z : Hq} (h : Rw w base vh qs) (hz : Kq w vh z.A z.h.es) (hc : z.h.es.length ≤ z.c) (hn0 : z.A = none → z.c = 0) (hg : w.grownBy w1 vh.ownBlock) (ho : w1.ownsRow base 65 5 vh' (qs.length + 1) (hqCells qs ++ hqCell z)) (hn : vh'.ownBlock = vh.ownBlock ∨ vh'.ownBlock = some w.heap.size) :
    Rw w1 base vh' (qs ++ [z]) := by
  have hn' : vh'.ownBlock = vh.ownBlock ∨ ∃ g, vh'.ownBlock = some g ∧ w.heap.size ≤ g := by
    rcases hn with e | e
    · exact .inl e
    · exact .inr ⟨_, e, Nat.le_refl _⟩
  refine ⟨by rw [hqCells_app, hqCells_one, List.length_append]; exact ho, fun q hq => ?_⟩
  rcases List.mem_append.1 hq with hq | hq
  · exact ⟨(h.rd q hq).1.next hg hn', (h.rd q hq).2⟩
  · obtain rfl := List.mem_singleton.1 hq
    exact ⟨hz.next hg hn', hc, hn0⟩
theorem Rw.read {w : World} {base n cap : Nat} {A : Option Addr} {qs : List Hq} (h : Rw w base (.slice A n cap) qs) : n = qs.length ∧ HksIn 0 w A (qs.map (·.h)) := by
  have hn : n = qs.length := by
    rcases h.own.2 with ⟨h', h2⟩ | ⟨g', cap', cur, h', _⟩
    · injection h' with _ h' _; have := h.own.1; omega
    · injection h'
  subst hn
  refine ⟨rfl, fun hp => ?_⟩
  rw [List.length_map] at hp
  obtain ⟨g, rfl, h1, h2, h3⟩ := own_at h.own hp
  refine ⟨g, 0, rfl, Nat.zero_le _, h2, fun j hj => ?_⟩
  rw [List.length_map] at hj
  rw [List.getElem_map, Nat.zero_add]
  have hx := h.rd qs[j] (List.getElem_mem hj)
  have at5 := fun i hi => hqCells_at qs j hj i hi
  exact ⟨qs[j].A, qs[j].c, h3 _ _ (at5 0 (by omega)), h3 _ _ (at5 1 (by omega)), h3 _ _ (at5 2 (by omega)), h3 _ _ (at5 3 (by omega)), h3 _ _ (at5 4 (by omega)), hx.1 w ⟨rfl, rfl, rfl, Nat.le_refl _, fun _ _ _ => rfl⟩, hx.2.1, hx.2.2⟩

set_option maxRecDepth 100000 in
set_option maxHeartbeats 4000000 in
theorem reverse_any (A : Option Addr) (c : Nat) (hs : List Hk) (w : World) (hH : HksIn 0 w A hs) (hok : HksOk hs) :
    Calls Try.prog 19 #[.slice A hs.length c] w (HnEnd w (rev hs).1 (rev hs).2) := by
  obtain ⟨j0, hj0, hy0, hy1, hy2⟩ := info_parts infoHunk
  have HCK := Lib.hid (hcheck_any A c 0 hs w hH hok)
  by_cases hk : hck hs = 0
  · have HRV := Lib.hid (show rev hs = (rvs hs, 0) from if_pos hk)
    have hl4 := (hck_ok hk).1
    have HRG := Lib.hid (chain_mem (hck_ok hk).2)
    rw [hk] at HCK
    have HH := Lib.hid hH
    have HOK := Lib.hid hok
    clear hk hH hok
    go_enter Try.func19, Try.ntmps19
    go_wp2_with fail
    with_reducible refine HCK.out.mono ?_
    rintro e w1 ⟨rfl, hb1⟩
    have HB1 := Lib.hid hb1
    clear hb1 HCK
    go_wp2_with fail
    go_loopg [5, 8, 9, 17] hs.length (fun m v _ _ iv wr => ∃ (k : Nat) (qs : List Hq), k ≤ hs.length ∧ iv = .int .i64 k ∧ hs.length - k ≤ m ∧ Hid (Rw wr w1.heap.size v qs) ∧ Hid (Below w1.heap.size w1 wr) ∧ qs.length = k ∧ Hid (qs.map (·.h) = rvs (hs.take k)))
    case atStart => exact ⟨0, [], Nat.zero_le _, rfl, by omega, Lib.hid ⟨World.ownsRow_nil _ _ _ _, fun q hq => by simp at hq⟩, Lib.hid (Below.refl _ _), rfl, Lib.hid rfl⟩
    case round =>
      obtain ⟨k, qs, hkl, rfl, hmm, HR, HB, hql, HQ⟩ := hrel
      obtain ⟨RA, rcap, rfl, -, -⟩ := own_form HR.out.own
      have HQL := Lib.hid hql
      have hql4 : qs.length ≤ 400 := by omega
      clear hql
      by_cases hlt : k < hs.length
      · obtain ⟨bk, off, EA, ec, hAe, c0, c1, c2, c3, c4, hE, -, -⟩ := hunk_at HH.out (HB1.out.trans (HB.out.mono HB1.out.size)) hlt
        subst hAe
        have hrg := HRG.out _ (List.getElem_mem hlt)
        have HES := Lib.hid (HOK.out.es _ (List.getElem_mem hlt))
        have HTK : Hid (rvs (hs.take (k + 1)) = rvs (hs.take k) ++ [rv hs[k]]) := Lib.hid (by unfold rvs; rw [List.take_succ_eq_append_getElem hlt, List.map_append]; rfl)
        have HCE := Lib.hid (rgt_ck hrg)
        have HNE : Hid (inv hs[k].es ≠ []) := Lib.hid (by
          obtain ⟨-, hck, -, hc, -⟩ := rgt_is hrg
          obtain ⟨i1, -, i3, -, -, -, i7⟩ := ck_inv hck
          have := rgt_tl hrg
          rw [chg_small (by omega)] at hc
          intro e
          rw [e] at i7
          have h0 : chgN ([] : List Ed) = 0 := rfl
          omega)
        have h0k : (0 : Int) ≤ (k : Int) := by omega
        have hki : (k : Int) < (hs.length : Int) := by omega
        have hh : hs[k] = ⟨hs[k].oa, hs[k].o, hs[k].na, hs[k].n, hs[k].es⟩ := rfl
        rw [hh] at HTK
        simp only [rv] at HTK
        clear hrg hh
        generalize hs[k].oa = oa at *
        generalize hs[k].o = o at *
        generalize hs[k].na = na at *
        generalize hs[k].n = nn at *
        generalize hs[k].es = es at *
        obtain ⟨W1, hW1⟩ : ∃ W : World, W = wr.alloc (.cells #[.int .i64 oa, .int .i64 o, .int .i64 na, .int .i64 nn, .slice EA es.length ec] 65) := ⟨_, rfl⟩
        have hX := heap_alloc_new wr (.cells #[.int .i64 oa, .int .i64 o, .int .i64 na, .int .i64 nn, .slice EA es.length ec] 65)
        rw [← hW1] at hX
        have hb1 : Below wr.heap.size wr W1 := by rw [hW1]; exact alloc1 _ _
        have HB2 := Lib.hid (HB.out.trans (hb1.mono HB.out.size))
        have HIV := Lib.hid (invert_any EA ec 0 es W1 (hE.below ((HB1.out.trans (HB.out.mono HB1.out.size)).trans (hb1.mono (HB1.out.trans (HB.out.mono HB1.out.size)).size))) HES.out)
        rw [HCE.out] at HIV
        have HR1 := Lib.hid (HR.out.below hb1)
        have HX := Lib.hid hX
        have hX1 : ∀ wz, Below W1.heap.size W1 wz → wz.heap[wr.heap.size]? = some (.cells #[.int .i64 oa, .int .i64 o, .int .i64 na, .int .i64 nn, .slice EA es.length ec] 65 (0, 0)) := fun wz hz => (hz.block _ (L.blk_lt hX)).trans hX
        have x4 := L.blk_cell hX 4
        simp only [List.getElem?_toArray, List.getElem?_cons_zero, List.getElem?_cons_succ] at x4
        clear hX hE HB hb1 HR HCE HES
        go_upto_region 8 with fail
        rw [← hW1]
        obtain ⟨xb, hxb⟩ : ∃ xb, xb = wr.heap.size := ⟨_, rfl⟩
        have HXB : Hid (∀ wz, Below W1.heap.size W1 wz → wz.heap[xb]? = some (.cells #[.int .i64 oa, .int .i64 o, .int .i64 na, .int .i64 nn, .slice EA es.length ec] 65 (0, 0))) := Lib.hid (by rw [hxb]; exact hX1)
        rw [← hxb] at x4 ⊢
        clear hW1 hxb c0 c1 c2 c3 c4 HX hX1
        go_wp2_with fail
        with_reducible refine HIV.out.mono ?_
        rintro e w3 ⟨IA, ic, rfl, ⟨hI, hic⟩, hb3⟩
        obtain ⟨z0, z1, z2, z3, -⟩ := hkC_cells (HXB.out w3 hb3)
        have HR3 := Lib.hid (HR1.out.below hb3)
        have HB3 := Lib.hid (HB2.out.trans (hb3.mono HB2.out.size))
        have HLT := Lib.hid (fun g (e : (Value.slice RA qs.length rcap).ownBlock = some g) => S.own_lt HR1.out.own g e)
        have HKQ := Lib.hid (Kq.of (hI.low HB2.out.size |> fun _ => hI) HLT.out)
        have HIC := Lib.hid (And.intro hic (show IA = none → ic = 0 from fun e => by
          obtain ⟨_, _, ha, -⟩ := hI (List.length_pos_iff.2 HNE.out)
          rw [ha] at e; cases e))
        obtain ⟨il, hil⟩ : ∃ n, n = (inv es).length := ⟨_, rfl⟩
        have HIL := Lib.hid hil
        rw [← hil]
        have HR4 := Lib.hid (HR3.out.below (alloc1 w3 (.cells #[.int .i64 na, .int .i64 nn, .int .i64 oa, .int .i64 o, .slice IA il ic] 65)))
        have HKQ4 := Lib.hid (HKQ.out.below (alloc1 w3 (.cells #[.int .i64 na, .int .i64 nn, .int .i64 oa, .int .i64 o, .slice IA il ic] 65)))
        have HNW := Lib.hid (World.news_of_block (heap_alloc_new w3 (.cells #[.int .i64 na, .int .i64 nn, .int .i64 oa, .int .i64 o, .slice IA il ic] 65)))
        have H1C : Hid (∀ u ∈ ([.int .i64 na, .int .i64 nn, .int .i64 oa, .int .i64 o, .slice IA il ic] : List Value), u.oneCell' = true) := Lib.hid (by intro u hu; simp only [List.mem_cons, List.not_mem_nil, or_false] at hu; rcases hu with rfl | rfl | rfl | rfl | rfl <;> rfl)
        have hbs : w1.heap.size ≤ (w3.alloc (.cells #[.int .i64 na, .int .i64 nn, .int .i64 oa, .int .i64 o, .slice IA il ic] 65)).heap.size := by have := HB3.out.size; simp; omega
        have HQE : Hid (hqCell ⟨⟨na, nn, oa, o, inv es⟩, IA, ic⟩ = [.int .i64 na, .int .i64 nn, .int .i64 oa, .int .i64 o, .slice IA il ic]) := Lib.hid (by unfold hqCell; rw [HIL.out])
        clear hI hic hil hb3 HR1 HR3
        go_wp2_with (at_builtin; refine wpList_append_own_at _ rfl (.tmp 30) (.tmp 41) 22 rfl w1.heap.size 65 j0 _ 5 56 Try.underlying22 hj0 hy0 hy1 hy2 rfl (by decide) (.slice RA qs.length rcap) qs.length (hqCells qs) rfl HR4.out.own ⟨w3.heap.size, 0, none⟩ 1 1 [.int .i64 na, .int .i64 nn, .int .i64 oa, .int .i64 o, .slice IA il ic] rfl rfl HNW.out H1C.out (by simp only [maxLen]; omega) (by omega) hbs ?_; intro v4 w4 ho4 hg4 _ hat4)
        have HR5 := Lib.hid (HR4.out.add (z := ⟨⟨na, nn, oa, o, inv es⟩, IA, ic⟩) HKQ4.out HIC.out.1 HIC.out.2 hg4 (by rw [HQE.out]; exact ho4) hat4)
        have HB5 := Lib.hid ((HB3.out.trans ((alloc1 w3 _).mono HB3.out.size)).grown hg4 hbs (fun b e => own_base HR4.out.own b e))
        clear ho4 hg4 hat4
        go_roundg (hs.length - (k + 1))
        case rel => exact ⟨k + 1, qs ++ [⟨⟨na, nn, oa, o, inv es⟩, IA, ic⟩], by omega, by go_num, Nat.le_refl _, HR5, HB5, by rw [List.length_append, HQL.out]; rfl, Lib.hid (by rw [HTK.out, List.map_append, HQ.out]; rfl)⟩
        case measure => omega
      · obtain rfl : k = hs.length := by omega
        have HE := Lib.hid (show qs.map (·.h) = rvs hs by rw [HQ.out, List.take_length])
        obtain ⟨-, hrd⟩ := HR.out.read
        have HRD := Lib.hid hrd
        have HBF := Lib.hid (HB1.out.trans (HB.out.mono HB1.out.size))
        have hql2 : qs.length = (rvs hs).length := by rw [← HE.out, List.length_map]
        clear hrd HQ
        go_wp2_with fail
        refine bodyPost_ret (v := .tuple #[.slice RA qs.length rcap, .int .i64 0]) (by simp [results, Try.results19, go_sem]) rfl ?_
        rw [HRV.out]
        exact ⟨RA, rcap, by rw [hql2], by rw [← HE.out]; exact HRD.out, HBF.out⟩
  · have HRV := Lib.hid (show rev hs = ([], hck hs) from if_neg hk)
    have hne : (hck hs != 0) = true := by simp [hk]
    rw [HRV.out]
    generalize hck hs = q at *
    clear hk hH hok
    go_enter Try.func19, Try.ntmps19
    go_wp2_with fail
    with_reducible refine HCK.out.mono ?_
    rintro e w1 ⟨rfl, hb1⟩
    go_wp2_with fail
    refine bodyPost_ret (v := .tuple #[.slice none 0 0, .int .i64 q]) (by simp [results, Try.results19, go_sem]) rfl ⟨none, 0, rfl, fun h => absurd h (by simp), hb1⟩
end Go.Proofs.Ytigghcmbdnidnaa.Pa

namespace Go.Proofs.Ytigghcmbdnidnaa.Pa
open Go.RowKit
open T S H
open V (grown_of drawn_below)
open I (alloc1 own_at own_below)
open N (Ln)

def DnEnd (w : World) (es : List Ed) (b : List Ln) (q : Int) (e : Ending) (w' : World) : Prop :=
  ∃ EA ec BA bc, e = .returned (.tuple #[.slice EA es.length ec, .slice BA b.length bc, .int .i64 q]) ∧ EdsIn 0 w' EA es ∧ LinesIn w' BA b ∧ Below w.heap.size w w'
set_option maxRecDepth 100000 in
set_option maxHeartbeats 4000000 in
theorem done_any (A B : Option Addr) (c c' : Nat) (hs : List Hk) (a : List Ln) (w : World) (hH : HksIn 0 w A hs) (hok : HksOk hs) (hL : LinesIn w B a) (hc : a.length ≤ c') (ham : a.length ≤ maxLen) (hT : ∀ y ∈ sd 2 (whl hs a).1, y.1.length ≤ maxLen) :
    Calls Try.prog 39 #[.slice A hs.length c, .slice B a.length c'] w (DnEnd w (scr hs a) (mde hs a).1 (mde hs a).2) := by
  have HW := Lib.hid ((c_whole hok ham).at c c' hH hL hc)
  clear hH hL
  by_cases hq : (whl hs a).2 = 0
  · have hw := whl_is hq
    have HSD := Lib.hid (fun (W : World) (E : Option Addr) (ec : Nat) (h : EdsIn 0 W E (whl hs a).1) => (c_sides (EdsOk.of_ck hw.ck)).at ec h)
    rw [hw.ck, show sides (whl hs a).1 = (sd 3 (whl hs a).1, sd 2 (whl hs a).1) by unfold sides; rw [if_pos hw.ck]] at HSD
    rw [hq] at HW
    have HM : Hid (mde hs a = if 400 < (sd 2 (whl hs a).1).length then ([], 4) else if P.right (sd 2 (whl hs a).1) = true then (sd 2 (whl hs a).1, 0) else ([], 3)) := Lib.hid (by unfold mde; rw [if_pos hq])
    have HSC := Lib.hid (show scr hs a = if (mde hs a).2 = 0 then (whl hs a).1 else [] from rfl)
    have hbl : (sd 2 (whl hs a).1).length ≤ 800 := by have := sd_len 2 (whl hs a).1; have := hw.tl; omega
    have HRI := Lib.hid (fun (W : World) (E : Option Addr) (ec : Nat) (h : LinesIn W E (sd 2 (whl hs a).1)) => right_anyT E ec _ W (by omega) hT h)
    clear hw hq hT
    generalize (whl hs a).1 = es at *
    generalize sd 2 es = b at *
    generalize sd 3 es = a0 at *
    generalize mde hs a = md at *
    generalize scr hs a = sc at *
    go_enter Try.func39, Try.ntmps39
    go_wp2_with fail
    with_reducible refine HW.out.mono ?_
    rintro e w1 ⟨EA, ec, rfl, hE, hb1⟩
    have HE := Lib.hid hE
    have HB1 := Lib.hid hb1
    have HS1 := Lib.hid (HSD.out w1 EA ec hE)
    clear hE hb1 HW HSD
    try simp only at HS1
    go_wp2_with fail
    with_reducible refine HS1.out.mono ?_
    rintro e w2 ⟨XA, xc, BA, bc, rfl, -, hB2, hb2⟩
    have HE2 := Lib.hid (HE.out.below hb2)
    have HBL := Lib.hid hB2
    have HB2 := Lib.hid (HB1.out.trans (hb2.mono HB1.out.size))
    clear hB2 hb2 HE HB1 HS1
    by_cases h4 : 400 < b.length
    · have hmd : md = ([], 4) := by rw [HM.out, if_pos h4]
      have hsc : sc = [] := by rw [HSC.out, hmd]; rfl
      have h4i : (400 : Int) < (b.length : Int) := by omega
      have HMD := Lib.hid hmd
      have HSX := Lib.hid hsc
      clear hmd hsc HM HSC
      go_wp2_with fail
      refine bodyPost_ret (v := .tuple #[.slice none 0 0, .slice none 0 0, .int .i64 4]) (by simp [results, Try.results39, go_sem]) rfl (by rw [HMD.out, HSX.out]; exact ⟨none, 0, none, 0, rfl, fun h => absurd h (by simp), fun h => absurd h (by simp), HB2.out⟩)
    · have h4i : ¬ (400 : Int) < (b.length : Int) := by omega
      have HR2 := Lib.hid (HRI.out w2 BA bc HBL.out)
      cases hr : P.right b with
      | false =>
        have hmd : md = ([], 3) := by rw [HM.out, if_neg h4, hr]; rfl
        have hsc : sc = [] := by rw [HSC.out, hmd]; rfl
        have HMD := Lib.hid hmd
        have HSX := Lib.hid hsc
        rw [hr] at HR2
        clear hmd hsc HM HSC hr
        go_wp2_with (go_at_call 53; with_reducible refine HR2.out.mono ?_; rintro e w3 ⟨rfl, hb3⟩)
        refine bodyPost_ret (v := .tuple #[.slice none 0 0, .slice none 0 0, .int .i64 3]) (by simp [results, Try.results39, go_sem]) rfl (by rw [HMD.out, HSX.out]; exact ⟨none, 0, none, 0, rfl, fun h => absurd h (by simp), fun h => absurd h (by simp), HB2.out.trans (hb3.mono HB2.out.size)⟩)
      | true =>
        have hmd : md = (b, 0) := by rw [HM.out, if_neg h4, hr]; rfl
        have hsc : sc = es := by rw [HSC.out, hmd]; rfl
        have HMD := Lib.hid hmd
        have HSX := Lib.hid hsc
        rw [hr] at HR2
        clear hmd hsc HM HSC hr
        go_wp2_with (go_at_call 53; with_reducible refine HR2.out.mono ?_; rintro e w3 ⟨rfl, hb3⟩)
        refine bodyPost_ret (v := .tuple #[.slice EA es.length ec, .slice BA b.length bc, .int .i64 0]) (by simp [results, Try.results39, go_sem]) rfl (by rw [HMD.out, HSX.out]; exact ⟨EA, ec, BA, bc, rfl, HE2.out.below hb3, HBL.out.below hb3, HB2.out.trans (hb3.mono HB2.out.size)⟩)
  · have hmd : mde hs a = ([], (whl hs a).2) := by unfold mde; rw [if_neg hq]
    have hsc : scr hs a = [] := by unfold scr; rw [hmd, if_neg hq]
    rw [hmd, hsc]
    have hne : ((whl hs a).2 != 0) = true := by simp [hq]
    generalize (whl hs a).2 = q at *
    generalize (whl hs a).1 = es at *
    clear hmd hsc hT hq
    go_enter Try.func39, Try.ntmps39
    go_wp2_with fail
    with_reducible refine HW.out.mono ?_
    rintro e w1 ⟨EA, ec, rfl, hE, hb1⟩
    go_wp2_with fail
    refine bodyPost_ret (v := .tuple #[.slice none 0 0, .slice none 0 0, .int .i64 q]) (by simp [results, Try.results39, go_sem]) rfl ⟨none, 0, none, 0, rfl, fun h => absurd h (by simp), fun h => absurd h (by simp), hb1⟩

abbrev Tl := List (Int × Nat × Nat)
/-- What a telling keeps: all below n1 but the box, and every edit. -/
def KpA (Bp n1 : Nat) (W W' : World) : Prop := Below Bp W W' ∧ (∀ k, k < n1 → k ≠ Bp → W'.heap[k]? = W.heap[k]?) ∧ ∀ (k : Nat) (cs : Array Value), W.heap[k]? = some (.cells cs 54 (0, 0)) → W'.heap[k]? = W.heap[k]?
/-- Whoever is told. -/
structure Told (fn : FuncId) (p : Value) (Bp n1 : Nat) (J : Tl → World → Prop) : Prop where
  enters : ∀ (args : Array Value) (w : World), (callFunc fn args).run Try.prog w = .ok (.enter fn args) w
  keeps : ∀ l W W', J l W → Below W.heap.size W W' → J l W'
  sets : ∀ l W X i u, J l W → Bp < X → X < n1 → J l (W.setCell ⟨X, i, none⟩ u)
  tells : ∀ l (s : Int) (i j : Nat) W, J l W → n1 ≤ W.heap.size → l.length ≤ 800 → Calls Try.prog fn #[.int .i64 s, .agg #[.int .i64 (i : Int), .int .i64 (j : Int)], p] W fun e W' => e = .returned (.tuple #[]) ∧ J (l ++ [(s, i, j)]) W' ∧ KpA Bp n1 W W'
theorem tks_cons (i j : Nat) (x : Sl) (r : List Sl) : tks i j (x :: r) = (x.1, i, j) :: tks (if x.1 = 3 then i else i + 1) (if x.1 = 2 then j else j + 1) r := rfl
theorem tag_at {d : Int} {l : List Ln} {m : Nat} (h : m < l.length) (R : List Sl) : tag d (l.drop m) ++ R = (d, l[m]) :: (tag d (l.drop (m + 1)) ++ R) := by rw [List.drop_eq_getElem_cons h, tag_cons]; rfl
theorem flat_at {es : List Ed} {k : Nat} (h : k < es.length) : flat (es.drop k) = tag es[k].1 es[k].2 ++ flat (es.drop (k + 1)) := by rw [List.drop_eq_getElem_cons h, flat_cons]
theorem ed_ne {w : World} {Bp bk o : Nat} {T : TypeId} {d : Int} {X : Option Addr} {xn xc : Nat} (hbx : w.heap[Bp]? = some (.cells #[.slice X xn xc] T (0, 0))) (h : w.cell? ⟨bk, o, none⟩ = some (.int .i64 d)) : bk ≠ Bp := fun e => by
  subst e
  rw [L.blk_cell hbx o] at h
  match o with
  | 0 => simp at h
  | n + 1 => simp at h
theorem ln_ne {w : World} {Bp bk o : Nat} {T : TypeId} {s : ByteArray} {X : Option Addr} {xn xc : Nat} (hbx : w.heap[Bp]? = some (.cells #[.slice X xn xc] T (0, 0))) (h : w.cell? ⟨bk, o, none⟩ = some (.string s)) : bk ≠ Bp := fun e => by
  subst e
  rw [L.blk_cell hbx o] at h
  match o with
  | 0 => simp at h
  | n + 1 => simp at h
end Go.Proofs.Ytigghcmbdnidnaa.Pa

namespace Go.Proofs.Ytigghcmbdnidnaa.Pa
open Go.RowKit
open T S H
open V (grown_of drawn_below)
open I (alloc1 own_at own_below)
open N (Ln)

/-- Edits, cell by cell, and where they lie. -/
def EdF (w : World) (n1 Bp : Nat) (A : Option Addr) (es : List Ed) : Prop :=
  0 < es.length → ∃ bk off, A = some ⟨bk, off, none⟩ ∧ bk < n1 ∧ bk ≠ Bp ∧ ∀ j (h : j < es.length), ∃ LA lc, w.cell? ⟨bk, off + j * 2, none⟩ = some (.int .i64 es[j].1) ∧ w.cell? ⟨bk, off + j * 2 + 1, none⟩ = some (.slice LA es[j].2.length lc)
theorem edF {w : World} {Bp : Nat} {A X : Option Addr} {es : List Ed} {T : TypeId} {xn xc : Nat} (h : EdsIn 0 w A es) (hbx : w.heap[Bp]? = some (.cells #[.slice X xn xc] T (0, 0))) : EdF w w.heap.size Bp A es := fun hp => by
  obtain ⟨bk, off, e, -, h2, h3⟩ := h hp
  refine ⟨bk, off, e, h2, ?_, fun j hj => ?_⟩
  · obtain ⟨LA, lc, g0, -⟩ := h3 0 hp
    exact ed_ne hbx g0
  · obtain ⟨LA, lc, g0, g1, -⟩ := h3 j hj
    exact ⟨LA, lc, g0, g1⟩
/-- All below n1 stays, but for the box and the places. -/
def Stay (W0 : World) (Bp X n1 : Nat) (W : World) : Prop := ∀ k, k < n1 → k ≠ Bp → k ≠ X → W.heap[k]? = W0.heap[k]?
theorem Stay.cell {W0 W : World} {Bp X n1 bk o : Nat} (h : Stay W0 Bp X n1 W) (h1 : bk < n1) (h2 : bk ≠ Bp) (h3 : bk ≠ X) : W.cell? ⟨bk, o, none⟩ = W0.cell? ⟨bk, o, none⟩ := World.cell?_of_block (a := ⟨bk, o, none⟩) (h bk h1 h2 h3)
def WkEnd (w : World) (Bp : Nat) (J : Nat → Tl → World → Prop) (b : List Ln) (q : Int) (l : Tl) (e : Ending) (w' : World) : Prop :=
  ∃ n1 BA bc, e = .returned (.tuple #[.slice BA b.length bc, .int .i64 q]) ∧ LinesIn w' BA b ∧ J n1 l w' ∧ Below Bp w w' ∧ w.heap.size ≤ n1
def ini (d : Int) (i : Nat) : Nat := if d = 3 then i else i + 1
def inj (d : Int) (j : Nat) : Nat := if d = 2 then j else j + 1
theorem tks_step {x : Sl} {i j : Nat} {r : List Sl} {l X : Tl} (h : X = l ++ tks i j (x :: r)) : X = (l ++ [(x.1, i, j)]) ++ tks (ini x.1 i) (inj x.1 j) r := by rw [h, tks_cons, List.append_assoc]; rfl

set_option maxRecDepth 100000 in
set_option maxHeartbeats 8000000 in
theorem walk_any (fn : FuncId) (p : Value) (Bp : Nat) (J : Nat → Tl → World → Prop) (HT : ∀ n1, Bp < n1 → Told fn p Bp n1 (J n1)) (A B : Option Addr) (c c' : Nat) (hs : List Hk) (a : List Ln) (w : World) (hH : HksIn 0 w A hs) (hok : HksOk hs) (hL : LinesIn w B a) (hc : a.length ≤ c') (ham : a.length ≤ maxLen) (hT : ∀ y ∈ sd 2 (whl hs a).1, y.1.length ≤ maxLen)
    {T : TypeId} {XA : Option Addr} {xn xc : Nat} (hbx : w.heap[Bp]? = some (.cells #[.slice XA xn xc] T (0, 0))) (h0 : ∀ n1, J n1 [] w) :
    Calls Try.prog 25 #[.slice A hs.length c, .slice B a.length c', .func (.func fn) #[] #[p]] w (WkEnd w Bp J (mde hs a).1 (mde hs a).2 (tld hs a)) := by
  have HD := Lib.hid (done_any A B c c' hs a w hH hok hL hc ham hT)
  have HJ0 := Lib.hid h0
  have HBX := Lib.hid hbx
  have hbl := L.blk_lt hbx
  have HTT := Lib.hid HT
  have hent := (HT (Bp + 1) (by omega)).enters
  clear hH hL hbx h0 HT
  by_cases hq : (mde hs a).2 = 0
  · have hml := (mde_ok hq).2.2.1
    have HSW := Lib.hid (show Good3 (scr hs a) ∧ tl (scr hs a) ≤ 800 ∧ (scr hs a).length ≤ 800 by
      obtain ⟨h1, -, -, -, h2⟩ := mde_ok hq
      have hw := whl_is h1
      rw [h2]
      exact ⟨(ck_ok hw.ck).2.2, hw.tl, (ck_ok hw.ck).1⟩)
    have HTL := Lib.hid (show tld hs a = tks 0 0 (flat (scr hs a)) from rfl)
    rw [hq] at HD ⊢
    generalize (mde hs a).1 = b at *
    generalize scr hs a = es at *
    generalize tld hs a = X at *
    have hel : es.length ≤ 800 := HSW.out.2.2
    clear hq hT
    go_enter Try.func25, Try.ntmps25
    go_wp2_with fail
    with_reducible refine HD.out.mono ?_
    rintro e w1 ⟨EA, ec, BA, bc, rfl, hE, hBL, hb1⟩
    have hbx1 := (hb1.block Bp hbl).trans HBX.out
    have hs1 := hb1.size
    obtain ⟨W0, hW0⟩ : ∃ W : World, W = w1.alloc (.cells #[.int .i64 (0 : Nat), .int .i64 (0 : Nat)] 57) := ⟨_, rfl⟩
    have hbw : Below w1.heap.size w1 W0 := by rw [hW0]; exact alloc1 _ _
    obtain ⟨X1, hX1⟩ : ∃ n, n = w1.heap.size := ⟨_, rfl⟩
    have HAT := Lib.hid (show W0.heap[X1]? = some (.cells #[.int .i64 (0 : Nat), .int .i64 (0 : Nat)] 57 (0, 0)) by rw [hW0, hX1]; exact heap_alloc_new w1 _)
    have hsz : W0.heap.size = X1 + 1 := by rw [hW0, hX1]; simp
    have HEF := Lib.hid (show EdF W0 X1 Bp EA es from fun hp => by
      obtain ⟨bk, off, e, h2, h3, h4⟩ := edF hE hbx1 hp
      refine ⟨bk, off, e, by omega, h3, fun j hj => ?_⟩
      obtain ⟨LA, lc, g0, g1⟩ := h4 j hj
      exact ⟨LA, lc, (hbw.cell (p := ⟨bk, _, none⟩) h2).trans g0, (hbw.cell (p := ⟨bk, _, none⟩) h2).trans g1⟩)
    have HBL := Lib.hid (show LinesIn W0 BA b ∧ (0 < b.length → ∃ bk off, BA = some ⟨bk, off, none⟩ ∧ bk < X1 ∧ bk ≠ Bp) from ⟨hBL.below hbw, fun hp => by
      obtain ⟨bk, off, e, h2, h3⟩ := hBL hp
      exact ⟨bk, off, e, by omega, ln_ne hbx1 (h3 0 hp).1⟩⟩)
    have HJ1 := Lib.hid ((HTT.out (X1 + 1) (by omega)).keeps _ _ _ ((HTT.out (X1 + 1) (by omega)).keeps _ _ _ (HJ0.out (X1 + 1)) hb1) hbw)
    have HB0 := Lib.hid (show Below w.heap.size w W0 from hb1.trans (hbw.mono hs1))
    have hXB : Bp < X1 := by omega
    have hwX : w.heap.size ≤ X1 := by omega
    have HTN := Lib.hid (HTT.out (X1 + 1) (by omega))
    clear hE hBL hb1 hbx1 HD HJ0 HTT
    go_wp2_with fail
    simp only [Int.ofNat_zero] at hW0
    try rw [← hX1]
    try rw [← hW0]
    clear hW0 hX1 hbw hs1
    go_loopg [26] es.length (fun q iv wx => ∃ (k i j : Nat) (l : Tl), k ≤ es.length ∧ iv = .int .i64 k ∧ es.length - k ≤ q ∧ wx.heap[X1]? = some (.cells #[.int .i64 i, .int .i64 j] 57 (0, 0)) ∧ Hid (J (X1 + 1) l wx) ∧ Hid (Stay W0 Bp X1 (X1 + 1) wx) ∧ Hid (Below Bp W0 wx) ∧ Hid (X = l ++ tks i j (flat (es.drop k))) ∧ i + j ≤ 1600 ∧ Hid (i + j + 2 * (flat (es.drop k)).length ≤ 1600))
    case atStart => exact ⟨0, 0, 0, [], Nat.zero_le _, rfl, by omega, HAT.out, HJ1, Lib.hid (fun _ _ _ _ => rfl), Lib.hid (Below.refl _ _), Lib.hid (by rw [HTL.out]; rfl), by omega, Lib.hid (by rw [List.drop_zero, ← tl_flat]; have := HSW.out.2.1; omega)⟩
    case round =>
      clear HAT HJ1
      obtain ⟨k, i, j, l, hk, rfl, hmo, hat, HJ, HST, HBW, HX, hij, HIJ⟩ := hrel
      by_cases hlt : k < es.length
      · obtain ⟨bk, off, hAe, hbk, hbn, hI⟩ := HEF.out (by omega)
        subst hAe
        obtain ⟨LA, lc, g0, g1⟩ := hI k hlt
        have c0 := (HST.out.cell (o := off + k * 2) (by omega) hbn (by omega)).trans g0
        have c1 := (HST.out.cell (o := off + k * 2 + 1) (by omega) hbn (by omega)).trans g1
        have HDO := Lib.hid (HSW.out.1 _ (List.getElem_mem hlt))
        have HFL := Lib.hid (flat_at hlt)
        have HLL := Lib.hid (show es[k].2.length ≤ 800 by have := tl_each (List.getElem_mem hlt); have := HSW.out.2.1; omega)
        have h0k : (0 : Int) ≤ (k : Int) := by omega
        have hki : (k : Int) < (es.length : Int) := by omega
        have hsw := HBW.out.size
        clear hI g0 g1
        obtain ⟨z, hz⟩ : ∃ z, z = es[k] := ⟨_, rfl⟩
        rw [← hz] at c0 c1 HDO HFL HLL
        clear hz
        obtain ⟨d, ls⟩ := z
        simp only at c0 c1 HDO HFL HLL
        have hls : ls.length ≤ 800 := HLL.out
        obtain ⟨W1, hW1⟩ : ∃ W : World, W = wr.alloc (.cells #[.int .i64 d, .slice LA ls.length lc] 54) := ⟨_, rfl⟩
        have hb1 : Below wr.heap.size wr W1 := by rw [hW1]; exact alloc1 _ _
        obtain ⟨Y, hY⟩ : ∃ n, n = wr.heap.size := ⟨_, rfl⟩
        have HYB := Lib.hid (show W1.heap[Y]? = some (.cells #[.int .i64 d, .slice LA ls.length lc] 54 (0, 0)) by rw [hW1, hY]; exact heap_alloc_new wr _)
        have hXl := L.blk_lt hat
        have HAT1 := Lib.hid ((hb1.block X1 hXl).trans hat)
        have HJ1 := Lib.hid (HTN.out.keeps _ _ _ HJ.out hb1)
        have HST1 := Lib.hid (show Stay W0 Bp X1 (X1 + 1) W1 from fun q h1 h2 h3 => (hb1.block q (by omega)).trans (HST.out q h1 h2 h3))
        have HBW1 := Lib.hid (HBW.out.trans (hb1.mono (by omega)))
        have y1 := L.blk_cell HYB.out 1
        simp only [List.getElem?_toArray, List.getElem?_cons_zero, List.getElem?_cons_succ] at y1
        have hYX : X1 < Y := by omega
        clear hat HJ HST HBW hb1 hXl
        go_upto_region 8 with fail
        rw [← hW1, ← hY]
        clear hW1 hY c0 c1
        go_wp2_with fail
        go_loopg [33] ls.length (fun q iv wx => ∃ (m i j : Nat) (l : Tl), m ≤ ls.length ∧ iv = .int .i64 m ∧ ls.length - m ≤ q ∧ wx.heap[X1]? = some (.cells #[.int .i64 i, .int .i64 j] 57 (0, 0)) ∧ wx.heap[Y]? = some (.cells #[.int .i64 d, .slice LA ls.length lc] 54 (0, 0)) ∧ Hid (J (X1 + 1) l wx) ∧ Hid (Stay W0 Bp X1 (X1 + 1) wx) ∧ Hid (Below Bp W0 wx) ∧ Hid (X = l ++ tks i j (tag d (ls.drop m) ++ flat (es.drop (k + 1)))) ∧ i + j ≤ 1600 ∧ Hid (i + j + 2 * (tag d (ls.drop m) ++ flat (es.drop (k + 1))).length ≤ 1600))
        case atStart => exact ⟨0, i, j, l, Nat.zero_le _, rfl, by omega, HAT1.out, HYB.out, HJ1, HST1, HBW1, Lib.hid (by rw [HX.out, HFL.out]; rfl), hij, Lib.hid (by rw [List.drop_zero, ← HFL.out]; exact HIJ.out)⟩
        case round =>
          clear HAT1 HJ1 HST1 HBW1 HYB y1 HX HIJ hij
          obtain ⟨m, i, j, l, hm, rfl, hmm, hat, hyb, HJ, HST, HBW, HX, hij, HIJ⟩ := hrel
          by_cases hlm : m < ls.length
          · have x0 := L.blk_cell hat 0
            have x1 := L.blk_cell hat 1
            have y0 := L.blk_cell hyb 0
            simp only [List.getElem?_toArray, List.getElem?_cons_zero, List.getElem?_cons_succ] at x0 x1 y0
            have hta := tag_at (d := d) hlm (flat (es.drop (k + 1)))
            have HNX := Lib.hid (show X = (l ++ [(d, i, j)]) ++ tks (ini d i) (inj d j) (tag d (ls.drop (m + 1)) ++ flat (es.drop (k + 1))) from tks_step (x := (d, ls[m])) (by rw [HX.out, hta]))
            have HNI := Lib.hid (show i + j + 2 + 2 * (tag d (ls.drop (m + 1)) ++ flat (es.drop (k + 1))).length ≤ 1600 by have := HIJ.out; rw [hta, List.length_cons] at this; omega)
            have HLN := Lib.hid (show l.length ≤ 800 by
              have h1 := congrArg List.length HX.out
              rw [HTL.out, tks_len, List.length_append, tks_len, ← tl_flat] at h1
              have := HSW.out.2.1
              omega)
            have hsw := HBW.out.size
            have HTK := Lib.hid (HTN.out.tells l d i j wr HJ.out (by omega) HLN.out)
            have hij2 : i + j + 2 ≤ 1600 := by have := HNI.out; omega
            have HAT := Lib.hid hat
            have HYB := Lib.hid hyb
            have h0m : (0 : Int) ≤ (m : Int) := by omega
            have hmi : (m : Int) < (ls.length : Int) := by omega
            clear hta hat hyb
            go_wp2_with fail
            with_reducible refine HTK.out.mono ?_
            rintro e w2 ⟨rfl, hJ2, hk2⟩
            have hat2 := (hk2.2.1 X1 (by omega) (by omega)).trans HAT.out
            have hyb2 := (hk2.2.2 Y _ HYB.out).trans HYB.out
            have hs2 := hk2.1.size
            have HJ2 := Lib.hid hJ2
            have HST2 := Lib.hid (show Stay W0 Bp X1 (X1 + 1) w2 from fun q h1 h2 h3 => (hk2.2.1 q h1 h2).trans (HST.out q h1 h2 h3))
            have HBW2 := Lib.hid (HBW.out.trans hk2.1)
            have x0 := L.blk_cell hat2 0
            have x1 := L.blk_cell hat2 1
            have y0 := L.blk_cell hyb2 0
            have f0 := L.blk_free hat2 0
            have f1 := L.blk_free hat2 1
            simp only [List.getElem?_toArray, List.getElem?_cons_zero, List.getElem?_cons_succ] at x0 x1 y0
            have HSET := Lib.hid (fun (W : World) (q : Nat) (u : Value) (h : Stay W0 Bp X1 (X1 + 1) W) => (fun z h1 h2 h3 => (L.blk_far h3 u).trans (h z h1 h2 h3) : Stay W0 Bp X1 (X1 + 1) (W.setCell ⟨X1, q, none⟩ u)))
            have HAT2 := Lib.hid hat2
            have HYB2 := Lib.hid hyb2
            have hw1 : IntKind.i64.wrap ((i : Int) + 1) = (i : Int) + 1 := by rw [IntKind.wrap_i64]; omega
            have hw2 : IntKind.i64.wrap ((j : Int) + 1) = (j : Int) + 1 := by rw [IntKind.wrap_i64]; omega
            clear hk2 hJ2 HTK HAT HYB hat2 hyb2 HJ HST HBW
            have hYne : Y ≠ X1 := by omega
            rcases HDO.out with rfl | rfl | rfl
            · have hat3 := L.blk_set HAT2.out 0 (.int .i64 ((i : Int) + 1))
              have hat4 := L.blk_set hat3 1 (.int .i64 ((j : Int) + 1))
              have x3 := L.blk_cell hat3 1
              have f3 := L.blk_free hat3 1
              have y3 := L.blk_cell ((L.blk_far (i := 0) hYne (.int .i64 ((i : Int) + 1))).trans HYB2.out) 0
              simp only [List.getElem?_toArray, List.getElem?_cons_zero, List.getElem?_cons_succ, List.setIfInBounds_toArray, List.set_cons_zero] at x3 y3
              have HR := Lib.hid (show _ ∧ _ from And.intro hat4 ((L.blk_far (i := 1) hYne (.int .i64 ((j : Int) + 1))).trans ((L.blk_far (i := 0) hYne (.int .i64 ((i : Int) + 1))).trans HYB2.out)))
              clear hat3 hat4
              go_wp2_with fail
              go_roundg (ls.length - (m + 1))
              case rel => exact ⟨m + 1, i + 1, j + 1, l ++ [(1, i, j)], by omega, by go_num, Nat.le_refl _, HR.out.1, HR.out.2, Lib.hid (HTN.out.sets _ _ _ _ _ (HTN.out.sets _ _ _ _ _ HJ2.out hXB (by omega)) hXB (by omega)), Lib.hid (HSET.out _ _ _ (HSET.out _ _ _ HST2.out)), Lib.hid ((HBW2.out.setCell (p := ⟨X1, 0, none⟩) (by show Bp ≤ X1; omega) _).setCell (p := ⟨X1, 1, none⟩) (by show Bp ≤ X1; omega) _), HNX, by omega, Lib.hid (by have := HNI.out; omega)⟩
              case measure => omega
            · have hat3 := L.blk_set HAT2.out 0 (.int .i64 ((i : Int) + 1))
              have y3 := L.blk_cell ((L.blk_far (i := 0) hYne (.int .i64 ((i : Int) + 1))).trans HYB2.out) 0
              simp only [List.getElem?_toArray, List.getElem?_cons_zero] at y3
              have HR := Lib.hid (show _ ∧ _ from And.intro hat3 ((L.blk_far (i := 0) hYne (.int .i64 ((i : Int) + 1))).trans HYB2.out))
              clear hat3
              go_wp2_with fail
              go_roundg (ls.length - (m + 1))
              case rel => exact ⟨m + 1, i + 1, j, l ++ [(2, i, j)], by omega, by go_num, Nat.le_refl _, HR.out.1, HR.out.2, Lib.hid (HTN.out.sets _ _ _ _ _ HJ2.out hXB (by omega)), Lib.hid (HSET.out _ _ _ HST2.out), Lib.hid (HBW2.out.setCell (p := ⟨X1, 0, none⟩) (by show Bp ≤ X1; omega) _), HNX, by omega, Lib.hid (by have := HNI.out; omega)⟩
              case measure => omega
            · have hat3 := L.blk_set HAT2.out 1 (.int .i64 ((j : Int) + 1))
              have HR := Lib.hid (show _ ∧ _ from And.intro hat3 ((L.blk_far (i := 1) hYne (.int .i64 ((j : Int) + 1))).trans HYB2.out))
              clear hat3
              go_wp2_with fail
              go_roundg (ls.length - (m + 1))
              case rel => exact ⟨m + 1, i, j + 1, l ++ [(3, i, j)], by omega, by go_num, Nat.le_refl _, HR.out.1, HR.out.2, Lib.hid (HTN.out.sets _ _ _ _ _ HJ2.out hXB (by omega)), Lib.hid (HSET.out _ _ _ HST2.out), Lib.hid (HBW2.out.setCell (p := ⟨X1, 1, none⟩) (by show Bp ≤ X1; omega) _), HNX, by omega, Lib.hid (by have := HNI.out; omega)⟩
              case measure => omega
          · obtain rfl : m = ls.length := by omega
            have HNX := Lib.hid (show X = l ++ tks i j (flat (es.drop (k + 1))) by rw [HX.out, List.drop_length]; rfl)
            have HNI := Lib.hid (show i + j + 2 * (flat (es.drop (k + 1))).length ≤ 1600 by have := HIJ.out; rw [List.drop_length] at this; exact this)
            clear HX HIJ
            go_wp2_with fail
            go_roundg (es.length - (k + 1))
            case rel => exact ⟨k + 1, i, j, l, by omega, by go_num, Nat.le_refl _, hat, HJ, HST, HBW, HNX, hij, HNI⟩
            case measure => omega
      · obtain rfl : k = es.length := by omega
        have HE := Lib.hid (show X = l by rw [HX.out, List.drop_length]; simp [flat, tks])
        have HLF := Lib.hid (show LinesIn wr BA b from fun hp => by
          obtain ⟨bk, off, e, h2, h3⟩ := HBL.out.2 hp
          obtain ⟨bk', off', e', h4, h5⟩ := HBL.out.1 hp
          rw [e] at e'
          simp only [Option.some.injEq, Addr.mk.injEq] at e'
          obtain ⟨rfl, rfl, -⟩ := e'
          have hb := HST.out bk (by omega) h3 (by omega)
          refine ⟨bk, off, e, by have := HBW.out.size; omega, fun q hq => ?_⟩
          exact ⟨(World.cell?_of_block (a := ⟨bk, _, none⟩) hb).trans (h5 q hq).1, (World.cell?_of_block (a := ⟨bk, _, none⟩) hb).trans (h5 q hq).2⟩)
        clear HX hat
        go_wp2_with fail
        refine bodyPost_ret (v := .tuple #[.slice BA b.length bc, .int .i64 0]) (by simp [results, Try.results25, go_sem]) rfl ?_
        exact ⟨X1 + 1, BA, bc, rfl, HLF.out, by rw [HE.out]; exact HJ.out, (HB0.out.mono (by omega)).trans HBW.out, by omega⟩
  · obtain ⟨h1, h2, h3⟩ := mde_bad hq
    have hne : ((mde hs a).2 != 0) = true := by simp [hq]
    rw [h1, h2] at HD
    rw [h1, h3]
    generalize (mde hs a).2 = q at *
    clear hq hT h1 h2 h3
    go_enter Try.func25, Try.ntmps25
    go_wp2_with fail
    with_reducible refine HD.out.mono ?_
    rintro e w1 ⟨EA, ec, BA, bc, rfl, hE, hBL, hb1⟩
    go_wp2_with fail
    refine bodyPost_ret (v := .tuple #[.slice none 0 0, .int .i64 q]) (by simp [results, Try.results25, go_sem]) rfl ⟨w.heap.size + 1, none, 0, rfl, fun h => absurd h (by simp), (HTT.out (w.heap.size + 1) (by omega)).keeps _ _ _ (HJ0.out _) hb1, hb1.mono (by omega), by omega⟩
end Go.Proofs.Ytigghcmbdnidnaa.Pa

namespace Go.Proofs.Ytigghcmbdnidnaa.Pa
open Go.RowKit
open T S H
open V (grown_of drawn_below IntsIn numCells numCells_snoc ints_own alloc_at)
open I (alloc1 own_at own_below)
open N (Ln PrIn pr_own prCells prCells_snoc infoPair)

/-- Behind an append to a row of its own, and a store of it into its box. -/
theorem put_back {W w4 : World} {Bp n1 : Nat} {v v' : Value} {T e : TypeId} {size n m : Nat} {xs ys : List Value} {o1 o2 : Obj}
    (hbx : W.heap[Bp]? = some (.cells #[v] T (0, 0))) (hown : W.ownsRow n1 e size v n xs) (he : e ≠ 54) (hT : T ≠ 54) (hB : Bp < n1) (hn : n1 ≤ W.heap.size)
    (hg : ((W.alloc o1).alloc o2).grownBy w4 v.ownBlock) (hown4 : w4.ownsRow n1 e size v' m ys) :
    w4.heap[Bp]? = some (.cells #[v] T (0, 0)) ∧ (w4.setCell ⟨Bp, 0, none⟩ v').heap[Bp]? = some (.cells #[v'] T (0, 0)) ∧ (w4.setCell ⟨Bp, 0, none⟩ v').ownsRow n1 e size v' m ys ∧ KpA Bp n1 W (w4.setCell ⟨Bp, 0, none⟩ v') := by
  have hlt := L.blk_lt hbx
  have ha : Below W.heap.size W ((W.alloc o1).alloc o2) := (alloc1 W o1).trans ((alloc1 _ o2).mono (by simp))
  have h1 : w4.heap[Bp]? = some (.cells #[v] T (0, 0)) := by
    rw [hg.block Bp (by simp; omega) (fun e => by have := own_base hown Bp e.symm; omega)]
    exact ha.block Bp hlt |>.trans hbx
  refine ⟨h1, by have := L.blk_set h1 0 v'; simpa using this, ownsRow_setCell_below hown4 (show Bp < n1 from hB) v', ?_, ?_, ?_⟩
  · exact ((ha.mono (by omega)).grown hg (by simp; omega) (fun k ek => by have := own_base hown k ek; omega)).setCell (by simp) _
  · intro k hk hkB
    rw [L.blk_far hkB, hg.block k (by simp; omega) (fun ek => by have := own_base hown k ek.symm; omega)]
    exact ha.block k (by omega)
  · intro k cs hk
    have hkl := L.blk_lt hk
    have hkB : k ≠ Bp := fun e => by
      subst e; rw [hbx] at hk; injection hk with hk; injection hk with _ hk; exact hT hk
    rw [L.blk_far hkB, hg.block k (by simp; omega) (fun ek => ?_)]
    · exact ha.block k hkl
    · rcases hown.2 with ⟨rfl, _⟩ | ⟨g, cap, cur, rfl, _, hh, _⟩
      · simp [Value.ownBlock] at ek
      · simp only [Value.ownBlock, Option.some.injEq] at ek
        subst ek
        rw [hk] at hh; injection hh with hh; injection hh with _ hh
        exact he hh.symm
theorem kpa_alloc {Bp n1 : Nat} {W : World} (o : Obj) (hB : Bp < n1) (hn : n1 ≤ W.heap.size) : KpA Bp n1 W (W.alloc o) :=
  ⟨(alloc1 W o).mono (by omega), fun k hk _ => (alloc1 W o).block k (by omega), fun k cs hk => (alloc1 W o).block k (L.blk_lt hk)⟩
/-- What is gathered, in the box at Bp. -/
def JB (w0 : World) (Bp : Nat) (T e : TypeId) (size : Nat) (f : Tl → List Value) (g : Tl → Nat) (n1 : Nat) (l : Tl) (W : World) : Prop :=
  ∃ v, W.heap[Bp]? = some (.cells #[v] T (0, 0)) ∧ W.ownsRow n1 e size v (g l) (f l) ∧ Below Bp w0 W
theorem JB.keeps {w0 : World} {Bp n1 : Nat} {T e : TypeId} {size : Nat} {f : Tl → List Value} {g : Tl → Nat} (l : Tl) (W W' : World) (h : JB w0 Bp T e size f g n1 l W) (hb : Below W.heap.size W W') : JB w0 Bp T e size f g n1 l W' := by
  obtain ⟨v, h1, h2, h3⟩ := h
  exact ⟨v, (hb.block Bp (L.blk_lt h1)).trans h1, own_below h2 hb, h3.trans (hb.mono (by have := L.blk_lt h1; omega))⟩
theorem JB.sets {w0 : World} {Bp n1 : Nat} {T e : TypeId} {size : Nat} {f : Tl → List Value} {g : Tl → Nat} (l : Tl) (W : World) (X i : Nat) (u : Value) (h : JB w0 Bp T e size f g n1 l W) (h1 : Bp < X) (h2 : X < n1) : JB w0 Bp T e size f g n1 l (W.setCell ⟨X, i, none⟩ u) := by
  obtain ⟨v, g1, g2, g3⟩ := h
  exact ⟨v, (L.blk_far (by omega) u).trans g1, ownsRow_setCell_below g2 (show X < n1 from h2) u, g3.setCell (p := ⟨X, i, none⟩) (by show Bp ≤ X; omega) u⟩

set_option maxRecDepth 100000 in
set_option maxHeartbeats 2000000 in
theorem tellP_any (w0 : World) (Bp n1 : Nat) (hB : Bp < n1) (l : Tl) (s : Int) (i j : Nat) (W : World) (hJ : JB w0 Bp 24 57 2 (fun l => prCells (prT l)) (fun l => (prT l).length) n1 l W) (hn1 : n1 ≤ W.heap.size) (hl : l.length ≤ 800) :
    Calls Try.prog 26 #[.int .i64 s, .agg #[.int .i64 (i : Int), .int .i64 (j : Int)], .pointer (some ⟨Bp, 0, none⟩)] W fun e W' => e = .returned (.tuple #[]) ∧ JB w0 Bp 24 57 2 (fun l => prCells (prT l)) (fun l => (prT l).length) n1 (l ++ [(s, i, j)]) W' ∧ KpA Bp n1 W W' := by
  obtain ⟨i0, hi0, hz0, hz1, hz2⟩ := info_parts infoPair
  obtain ⟨v, hbx, hown, hb⟩ := hJ
  have c0 := L.blk_cell hbx 0
  have f0 := L.blk_free hbx 0
  simp only [List.getElem?_toArray, List.getElem?_cons_zero] at c0
  have hbl := L.blk_lt hbx
  have c1 : ∀ o, (W.alloc o).cell? ⟨Bp, 0, none⟩ = some v := fun o => ((alloc1 W o).cell (p := ⟨Bp, 0, none⟩) hbl).trans c0
  have HBX := Lib.hid hbx
  have HOW := Lib.hid hown
  have HB := Lib.hid hb
  have HBN := Lib.hid (And.intro hB hn1)
  have hpl := prT_len l
  have hpr : prT (l ++ [(s, i, j)]) = prT l ++ (if s = 1 then [((i : Int), (j : Int))] else []) := by unfold prT; by_cases h : s = 1 <;> simp [h]
  obtain ⟨n, hn⟩ : ∃ n, n = (prT l).length := ⟨_, rfl⟩
  have HN := Lib.hid hn
  simp only [← hn] at HOW
  have hnl : n ≤ 800 := by omega
  clear hbx hown hb hn hpl
  by_cases hs : s = 1
  · subst hs
    have HP : Hid (prT (l ++ [(1, i, j)]) = prT l ++ [((i : Int), (j : Int))]) := Lib.hid (by rw [hpr, if_pos rfl])
    have HM : Hid (prCells (prT l) ++ [.int .i64 (i : Int), .int .i64 (j : Int)] = prCells (prT (l ++ [(1, i, j)]))) := Lib.hid (by rw [HP.out, prCells_snoc])
    have HLN : Hid (n + 1 = (prT (l ++ [(1, i, j)])).length) := Lib.hid (by rw [HP.out, HN.out]; simp)
    clear hpr
    go_enter Try.func26, Try.ntmps26
    go_wp2_with (at_builtin; refine wpList_append_own _ rfl _ _ 24 rfl n1 57 i0 _ 2 16 Try.underlying24 hi0 hz0 hz1 hz2 rfl (by decide) _ n _ rfl ((HOW.out.alloc _).alloc _) ⟨_, 0, none⟩ 1 1 [.int .i64 (i : Int), .int .i64 (j : Int)] rfl rfl (World.news_of_block (alloc_at _ (by first | rfl | simp))) (by intro u hu; simp at hu; rcases hu with rfl | rfl <;> rfl) (by simp only [maxLen]; omega) (by omega) (by first | omega | (simp; done) | (simp; omega)) ?_; intro v' w4 hown4 hg4 _; obtain ⟨VA, vcap, rfl, -, -⟩ := own_form hown4; obtain ⟨p1, p2, p3, p4⟩ := put_back HBX.out HOW.out (by decide) (by decide) HBN.out.1 HBN.out.2 hg4 hown4; have c4 := L.blk_cell p1 0; have f4 := L.blk_free p1 0; simp only [List.getElem?_toArray, List.getElem?_cons_zero] at c4; have P2 := Lib.hid p2; have P3 := Lib.hid p3; have P4 := Lib.hid p4; clear p1 p2 p3 p4 hown4 hg4)
    go_end0
    exact ⟨rfl, ⟨_, P2.out, by dsimp only; rw [← HM.out, ← HLN.out]; exact P3.out, HB.out.trans P4.out.1⟩, P4.out⟩
  · have HP : Hid (prT (l ++ [(s, i, j)]) = prT l) := Lib.hid (by rw [hpr, if_neg hs, List.append_nil])
    have hsb : (s == 1) = false := beq_eq_false_iff_ne.2 hs
    clear hpr hs
    go_enter Try.func26, Try.ntmps26
    go_wp2_with fail
    go_end0
    exact ⟨rfl, JB.keeps _ _ _ ⟨v, HBX.out, by dsimp only; rw [HP.out, ← HN.out]; exact HOW.out, HB.out⟩ (alloc1 _ _), kpa_alloc _ HBN.out.1 HBN.out.2⟩
theorem tellP (w0 : World) (Bp n1 : Nat) (hB : Bp < n1) : Told 26 (.pointer (some ⟨Bp, 0, none⟩)) Bp n1 (JB w0 Bp 24 57 2 (fun l => prCells (prT l)) (fun l => (prT l).length) n1) :=
  ⟨Go.Proofs.enters_of Try.func26 (by kernel_rfl) rfl, JB.keeps, JB.sets, fun l s i j W hJ hn hl => tellP_any w0 Bp n1 hB l s i j W hJ hn hl⟩

def ApEnd (w : World) (b : List Ln) (ps : List (Int × Int)) (q : Int) (e : Ending) (w' : World) : Prop :=
  ∃ BA bc PA pc, e = .returned (.tuple #[.slice BA b.length bc, .slice PA ps.length pc, .int .i64 q]) ∧ LinesIn w' BA b ∧ PrIn w' PA ps ∧ Below w.heap.size w w'
set_option maxRecDepth 100000 in
set_option maxHeartbeats 2000000 in
theorem apply_any (A B : Option Addr) (c c' : Nat) (hs : List Hk) (a : List Ln) (w : World) (hH : HksIn 0 w A hs) (hok : HksOk hs) (hL : LinesIn w B a) (hc : a.length ≤ c') (ham : a.length ≤ maxLen) (hT : ∀ y ∈ sd 2 (whl hs a).1, y.1.length ≤ maxLen) :
    Calls Try.prog 8 #[.slice A hs.length c, .slice B a.length c'] w (ApEnd w (mde hs a).1 (prT (tld hs a)) (mde hs a).2) := by
  have hmf : ∀ (fn : Fn) (first cap : Array Value) (w : World), (Instr.makeFunc fn first cap).run Try.prog w = .ok (.func fn first cap) w := fun _ _ _ _ => rfl
  obtain ⟨W0, hW0⟩ : ∃ W : World, W = w.alloc (.cells #[.slice none 0 0] 24) := ⟨_, rfl⟩
  have hb0 : Below w.heap.size w W0 := by rw [hW0]; exact alloc1 _ _
  have hx0 : W0.heap[w.heap.size]? = some (.cells #[.slice none 0 0] 24 (0, 0)) := by rw [hW0]; exact heap_alloc_new w _
  have HWK := Lib.hid (walk_any 26 _ w.heap.size (JB w w.heap.size 24 57 2 (fun l => prCells (prT l)) (fun l => (prT l).length)) (fun n1 hB => tellP w w.heap.size n1 hB) A B c c' hs a W0 (hH.below hb0) hok (hL.below hb0) hc ham hT hx0 (fun n1 => ⟨_, hx0, World.ownsRow_nil _ _ _ _, hb0⟩))
  have hml : (mde hs a).1.length ≤ 400 := by
    by_cases hq : (mde hs a).2 = 0
    · exact (mde_ok hq).2.2.1
    · rw [(mde_bad hq).1]; simp
  have HB0 := Lib.hid hb0
  clear hH hL hb0 hx0 hT
  generalize (mde hs a).1 = b at *
  generalize (mde hs a).2 = q at *
  generalize tld hs a = X at *
  go_enter Try.func8, Try.ntmps8
  go_wp2_with fail
  rw [← hW0]
  clear hW0
  with_reducible refine HWK.out.mono ?_
  rintro e w1 ⟨n1, BA, bc, rfl, hBL, ⟨v, hbx, hown, hbl⟩, -, hn1⟩
  have c0 := L.blk_cell hbx 0
  simp only [List.getElem?_toArray, List.getElem?_cons_zero] at c0
  obtain ⟨VA, vcap, rfl, -, -⟩ := own_form hown
  have HOW := Lib.hid (pr_own hown)
  have HBL := Lib.hid hBL
  have HBB := Lib.hid hbl
  clear hown hbx hBL hbl hn1 HWK
  go_wp2_with fail
  go_quiet (fail)
  go_wp2_with fail
  refine bodyPost_ret (v := .tuple #[.slice BA b.length bc, .slice VA (prT X).length vcap, .int .i64 q]) (by simp [results, Try.results8, go_sem]) rfl ⟨BA, bc, VA, vcap, rfl, HBL.out.below (drawn_below _ _), HOW.out.below (drawn_below _ _), HBB.out.trans ((drawn_below _ _).mono HBB.out.size)⟩
end Go.Proofs.Ytigghcmbdnidnaa.Pa
