/-
  The contract of myers' reach: a row for each number of changes, from none to the distance.
-/
import Derived.Test.YtimalohdchhjgaaGmc
import Derived.Deep.AppendLies
namespace Go.Proofs.Ytimalohdchhjgaa.M
set_option linter.unusedVariables false
set_option linter.unusedSimpArgs false
open Go.RowKit
open T
open V (IntsIn numCells numCells_snoc ints_own drawn_below)
open I (alloc1 own_at own_below)

/-- A row, as far as it is worked out. -/
def Mid (a b xs ys : List Int) (m : Nat) (k : Int) : Prop := ys.length = xs.length ∧ ∀ j : Nat, j < xs.length → ys.getD j 0 = if on a b (m + 1) j ∧ (j + m + 1 + a.length + 1) % 2 = 0 ∧ (j : Int) < k then bk a b xs j else xs.getD j 0
theorem Mid.start (a b xs : List Int) {m : Nat} {k : Int} (hk : k = a.length + 1 - (m + 1)) : Mid a b xs xs m k :=
  ⟨rfl, fun j hj => by rw [if_neg]; rintro ⟨⟨h1, h2, h3, h4⟩, h5, h6⟩; omega⟩
theorem Mid.skip {a b xs ys : List Int} {m : Nat} {k : Int} (h : Mid a b xs ys m k) (hl : xs.length = a.length + b.length + 3) {t : Nat} (ht : k = a.length + 1 - (m + 1) + 2 * t) (hs : k ≤ 0 ∨ (xs.length : Int) - 1 ≤ k) : Mid a b xs ys m (k + 2) := by
  refine ⟨h.1, fun j hj => ?_⟩
  rw [h.2 j hj]
  by_cases c : on a b (m + 1) j ∧ (j + m + 1 + a.length + 1) % 2 = 0 ∧ (j : Int) < k
  · rw [if_pos c, if_pos ⟨c.1, c.2.1, by omega⟩]
  · rw [if_neg c, if_neg]
    rintro ⟨h1, h2, h3⟩
    exact c ⟨h1, h2, by obtain ⟨o1, o2, o3, o4⟩ := h1; omega⟩
theorem Mid.put {a b xs ys : List Int} {m kn : Nat} {k : Int} (h : Mid a b xs ys m k) (hl : xs.length = a.length + b.length + 3) {t : Nat} (ht : k = a.length + 1 - (m + 1) + 2 * t) (hk : (kn : Int) = k) (h1 : 1 ≤ kn) (h2 : kn + 1 < xs.length) (h3 : k ≤ a.length + 1 + (m + 1)) : Mid a b xs (ys.set kn (bk a b xs kn)) m (k + 2) := by
  refine ⟨by rw [List.length_set]; exact h.1, fun j hj => ?_⟩
  rw [getD_set (by rw [h.1]; omega)]
  by_cases e : j = kn
  · subst e
    rw [if_pos rfl, if_pos]
    exact ⟨⟨h1, by omega, by omega, by omega⟩, by omega, by omega⟩
  · rw [if_neg e, h.2 j hj]
    by_cases c : on a b (m + 1) j ∧ (j + m + 1 + a.length + 1) % 2 = 0 ∧ (j : Int) < k
    · rw [if_pos c, if_pos ⟨c.1, c.2.1, by omega⟩]
    · rw [if_neg c, if_neg]
      rintro ⟨q1, q2, q3⟩
      exact c ⟨q1, q2, by omega⟩
theorem Mid.near {a b xs ys : List Int} {m kn : Nat} {k : Int} (h : Mid a b xs ys m k) {t : Nat} (ht : k = a.length + 1 - (m + 1) + 2 * t) (hk : (kn : Int) = k) (h1 : 1 ≤ kn) (h2 : kn + 1 < xs.length) : ys.getD (kn + 1) 0 = xs.getD (kn + 1) 0 ∧ ys.getD (kn - 1) 0 = xs.getD (kn - 1) 0 := by
  constructor
  · rw [h.2 _ h2, if_neg]; rintro ⟨_, q, _⟩; omega
  · rw [h.2 _ (by omega), if_neg]; rintro ⟨_, q, _⟩; omega
theorem Mid.bk {a b xs ys : List Int} {m kn : Nat} {k : Int} (h : Mid a b xs ys m k) {t : Nat} (ht : k = a.length + 1 - (m + 1) + 2 * t) (hk : (kn : Int) = k) (h1 : 1 ≤ kn) (h2 : kn + 1 < xs.length) : bi ys kn = bi xs kn ∧ M.bk a b ys kn = M.bk a b xs kn := by
  obtain ⟨e1, e2⟩ := h.near ht hk h1 h2
  have : bi ys kn = bi xs kn := by unfold bi; rw [e1, e2]
  exact ⟨this, by unfold M.bk; rw [this]⟩
theorem Mid.done {a b xs ys : List Int} {m : Nat} {k : Int} (h : Mid a b xs ys m k) (hk : a.length + 1 + (m + 1) < k) (hr : Ro a b m xs) : Ro a b (m + 1) ys :=
  hr.next h.1 fun j hj => by
    rw [h.2 j hj]
    by_cases c : on a b (m + 1) j ∧ (j + m + 1 + a.length + 1) % 2 = 0
    · rw [if_pos c, if_pos ⟨c.1, c.2, by obtain ⟨o1, o2, o3, o4⟩ := c.1; omega⟩]
    · rw [if_neg c, if_neg]
      exact fun q => c ⟨q.1, q.2.1⟩

/-- A slice that is a whole block. -/
def rowV (L g : Nat) : Value := .slice (some ⟨g, 0, none⟩) L L
/-- The rows so far. -/
def Held (w : World) (a b : List Int) (base : Nat) (gs : List Nat) : Prop := ∀ j (h : j < gs.length), base ≤ gs[j] ∧ ∃ xs, Row w gs[j] xs ∧ Ro a b j xs
theorem Held.kept {w w' : World} {a b : List Int} {base : Nat} {gs : List Nat} (h : Held w a b base gs) (hb : Below w.heap.size w w') : Held w' a b base gs := fun j hj => by
  obtain ⟨h1, xs, h2, h3⟩ := h j hj
  exact ⟨h1, xs, h2.kept hb, h3⟩
theorem Held.grown {w w' : World} {a b : List Int} {base : Nat} {gs : List Nat} (h : Held w a b base gs) {base' n size : Nat} {v : Value} {zs : List Value} (hown : w.ownsRow base' 73 size v n zs) (hg : w.grownBy w' v.ownBlock) : Held w' a b base gs := fun j hj => by
  obtain ⟨h1, xs, h2, h3⟩ := h j hj
  refine ⟨h1, xs, ?_, h3⟩
  refine (hg.block _ h2.lt fun e => ?_).trans h2
  rcases hown.2 with ⟨rfl, _⟩ | ⟨g, cap, cur, rfl, _, hh, _⟩
  · simp [Value.ownBlock] at e
  · simp only [Value.ownBlock, Option.some.injEq] at e
    rw [← e, show w.heap[gs[j]]? = _ from h2] at hh
    injection hh with hh
    injection hh with _ hh
    exact absurd hh (by decide)
theorem Row.grown {w w' : World} {g : Nat} {xs : List Int} (h : Row w g xs) {base' n size : Nat} {v : Value} {zs : List Value} (hown : w.ownsRow base' 73 size v n zs) (hg : w.grownBy w' v.ownBlock) : Row w' g xs := by
  refine (hg.block _ h.lt fun e => ?_).trans h
  rcases hown.2 with ⟨rfl, _⟩ | ⟨g', cap, cur, rfl, _, hh, _⟩
  · simp [Value.ownBlock] at e
  · simp only [Value.ownBlock, Option.some.injEq] at e
    rw [← e, show w.heap[g]? = _ from h] at hh
    injection hh with hh
    injection hh with _ hh
    exact absurd hh (by decide)
theorem Held.snoc {w : World} {a b : List Int} {base : Nat} {gs : List Nat} (h : Held w a b base gs) {g : Nat} {xs : List Int} (h1 : base ≤ g) (h2 : Row w g xs) (h3 : Ro a b gs.length xs) : Held w a b base (gs ++ [g]) := fun j hj => by
  by_cases e : j < gs.length
  · rw [List.getElem_append_left e]; exact h j e
  · obtain rfl : j = gs.length := by simp at hj; omega
    rw [List.getElem_append_right (Nat.le_refl _)]
    simp only [Nat.sub_self, List.getElem_cons_zero]
    exact ⟨h1, xs, h2, h3⟩
/-- The rows, as they are told. -/
def RowsAt (w : World) (a b : List Int) (G N : Nat) : Prop := (∃ cs, w.heap[G]? = some (.cells cs 73 (0, 0))) ∧ ∀ m, m < N → ∃ g xs, w.cell? ⟨G, m, none⟩ = some (rowV (a.length + b.length + 3) g) ∧ Row w g xs ∧ Ro a b m xs
theorem RowsAt.of {w : World} {a b : List Int} {base base' N cap : Nat} {A : Option Addr} {gs : List Nat} (h : Held w a b base gs) (hown : w.ownsRow base' 73 1 (.slice A gs.length cap) gs.length (gs.map (rowV (a.length + b.length + 3)))) (hN : N = gs.length) (hp : 0 < N) :
    ∃ G, A = some ⟨G, 0, none⟩ ∧ base' ≤ G ∧ RowsAt w a b G N := by
  subst hN
  rcases hown.2 with ⟨_, e⟩ | ⟨g, cap', cur, e, hb, hh, hc, hm, hs, ht⟩
  · omega
  · injection e with e1 e2 e3
    refine ⟨g, e1, hb, ⟨cur, hh⟩, fun m hm => ?_⟩
    obtain ⟨-, xs, h2, h3⟩ := h m hm
    refine ⟨gs[m], xs, ?_, h2, h3⟩
    rw [cell_of_row w g m cur _ _ hh]
    have : (cur.toList.take (gs.length * 1))[m]? = (gs.map (rowV (a.length + b.length + 3)))[m]? := by rw [ht]
    rw [Nat.mul_one, List.getElem?_take, if_pos hm, List.getElem?_map, List.getElem?_eq_getElem hm] at this
    simpa using this
theorem RowsAt.kept {w w' : World} {a b : List Int} {G N : Nat} (h : RowsAt w a b G N) (hb : Below w.heap.size w w') : RowsAt w' a b G N := by
  obtain ⟨⟨cs, hc⟩, h⟩ := h
  have hlt := (Array.getElem?_eq_some_iff.1 hc).1
  refine ⟨⟨cs, (hb.block G hlt).trans hc⟩, fun m hm => ?_⟩
  obtain ⟨g, xs, h1, h2, h3⟩ := h m hm
  exact ⟨g, xs, (hb.cell (p := ⟨G, m, none⟩) hlt).trans h1, h2.kept hb, h3⟩
def ReEnd (W : World) (a b : List Int) (e : Ending) (w' : World) : Prop := ∃ G cap, e = .returned (.slice (some ⟨G, 0, none⟩) (D a b 0 0 + 1) cap) ∧ W.heap.size ≤ G ∧ RowsAt w' a b G (D a b 0 0 + 1) ∧ Below W.heap.size W w'
theorem infoRowI : (Try.prog.info? 73).map (fun i => (i.zero, i.size, i.bytes)) = some (some (.slice none 0 0), 1, 24) := by kernel_rfl
theorem rowV_map (L : Nat) (gs : List Nat) (g : Nat) : (gs ++ [g]).map (rowV L) = gs.map (rowV L) ++ [.slice (some ⟨g, 0, none⟩) L L] := by simp [rowV]
theorem splice_all (xs ys : List Value) (h : ys.length = xs.length) : splice xs 0 ys = ys := by simp [splice, h]

theorem alloc_at {w : World} {n : Nat} (o : Obj) (h : w.heap.size = n) : (w.alloc o).heap[n]? = some o := by subst h; exact heap_alloc_new w o
/-- A copy of a row, into a new one. -/
theorem copied (w : World) {g L : Nat} {xs : List Int} (h : Row w g xs) (hl : xs.length = L) :
    ∃ W, (Builtin.copy_ #[73, 73] 3 #[.slice (some ⟨w.heap.size, 0, none⟩) L L, .slice (some ⟨g, 0, none⟩) L L]).run Try.prog (w.alloc (.cells (madeCells #[.int .i64 0] L) 3)) = .ok (.int .i64 (L : Int)) W ∧ Row W w.heap.size xs ∧ Below w.heap.size w W := by
  have hg : (w.alloc (.cells (madeCells #[.int .i64 0] L) 3)).heap[w.heap.size]? = some (.cells (numCells (List.replicate L 0)).toArray 3 (0, 0)) := by rw [made_row]; exact heap_alloc_new w _
  have hcl : (numCells xs).length = L := by simp [numCells, hl]
  have hrun := run_copy_row (P := Try.prog) (w.alloc (.cells (madeCells #[.int .i64 0] L) 3)) 73 73 3 3 w.heap.size 0 L L ⟨g, 0, none⟩ L L _ 3 (numCells xs) Try.underlying73 (by kernel_rfl) hg (by rw [hcl]; exact (Nat.min_self L).symm)
    (fun j v hj => by
      have hjl : j < xs.length := by
        have := (List.getElem?_eq_some_iff.1 hj).1
        simpa [numCells] using this
      have e : v = .int .i64 xs[j] := by
        simp [numCells, List.getElem?_eq_getElem hjl] at hj
        exact hj.symm
      subst e
      rw [show (⟨g, 0, none⟩ : Addr).add j = ⟨g, j, none⟩ by cases j <;> simp [Addr.add]]
      exact (h.kept (alloc1 _ _)).cell hjl)
    (by simp [numCells, hl]) (fun v hv => by
      simp only [numCells, List.mem_map] at hv
      obtain ⟨z, _, rfl⟩ := hv
      rfl)
  rw [hcl] at hrun
  refine ⟨_, hrun, ?_, below_setRow (alloc1 _ _) (Nat.le_refl _) _⟩
  refine (setRow_heap _ _ _ _ _ _ hg).trans ?_
  simp [numCells]

end Go.Proofs.Ytimalohdchhjgaa.M
