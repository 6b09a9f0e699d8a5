/-
  A row of numbers that is a block of memory; the contracts of myers' back and unreached.
  The contract of myers' reach: a row for each number of changes, from none to the distance.
  The contracts of myers' Distance and walk: what is told, step by step, to whoever keeps it.
  Ways from one row to another one, of any length: the distance is the least; it is a metric; what both begin or end with alike plays no part; how many are kept; rows of both are no longer than what is kept: plain.
  The contracts of myers' Steps and Pairs, and of what they hand to the walk.
  What must be whatever is asked of layer 7; a row's first 40 numbers.
-/
import Derived.Test.YtkflhcfopejigaaGgo
import Derived.Laws.CopyOwn
import Derived.Deep.OwnRows
import Derived.Deep.AppendLies
import Derived.Outline
import Derived.Test.YtkflhcfopejigaaGgb
import Derived.Shelf.Abstract
import Derived.OneCell
import Derived.Test.YtkflhcfopejigaaGgc
namespace Go.Proofs.Ytkflhcfopejigaa.M
set_option linter.unusedVariables false
set_option linter.unusedSimpArgs false
open Go.RowKit
open T
open V (IntsIn numCells numCells_snoc ints_own drawn_below)
open I (alloc1 own_at own_below)

/-- A block that is a row of numbers. -/
def Row (w : World) (g : Nat) (xs : List Int) : Prop := w.heap[g]? = some (.cells (numCells xs).toArray 3 (0, 0))
theorem Row.lt {w : World} {g : Nat} {xs : List Int} (h : Row w g xs) : g < w.heap.size := (Array.getElem?_eq_some_iff.1 h).1
theorem Row.cell {w : World} {g : Nat} {xs : List Int} (h : Row w g xs) {j : Nat} (hj : j < xs.length) : w.cell? ⟨g, j, none⟩ = some (.int .i64 xs[j]) := by
  rw [cell_of_row w g j _ _ _ h]
  simp [numCells, List.getElem?_eq_getElem hj]
theorem Row.cellD {w : World} {g : Nat} {xs : List Int} (h : Row w g xs) {j : Nat} (hj : j < xs.length) : w.cell? ⟨g, j, none⟩ = some (.int .i64 (xs.getD j 0)) := by
  rw [getD_at hj]; exact h.cell hj
theorem Row.free {w : World} {g : Nat} {xs : List Int} (h : Row w g xs) (j : Nat) : w.frozen? ⟨g, j, none⟩ = false := frozen_of_row w g j _ _ h
theorem Row.kept {w w' : World} {g : Nat} {xs : List Int} (h : Row w g xs) (hb : Below w.heap.size w w') : Row w' g xs := (hb.block g h.lt).trans h
theorem Row.set {w : World} {g : Nat} {xs : List Int} (h : Row w g xs) (j : Nat) (z : Int) : Row (w.setCell ⟨g, j, none⟩ (.int .i64 z)) g (xs.set j z) := by
  unfold Row
  rw [heap_setCell_same w g j _ _ _ h]
  simp [numCells, List.map_set]
theorem Row.ints {w : World} {g : Nat} {xs : List Int} (h : Row w g xs) : IntsIn w (some ⟨g, 0, none⟩) xs := fun _ => ⟨g, 0, rfl, h.lt, fun j hj => by rw [Nat.zero_add]; exact h.cell hj⟩
theorem getD_set {xs : List Int} {j k : Nat} {z : Int} (hj : j < xs.length) : (xs.set j z).getD k 0 = if k = j then z else xs.getD k 0 := by
  rw [List.getD_eq_getElem?_getD, List.getD_eq_getElem?_getD, List.getElem?_set]
  by_cases e : k = j
  · subst e; rw [if_pos rfl, if_pos rfl, if_pos hj]; rfl
  · rw [if_neg (fun q => e q.symm), if_neg e]
theorem infoI : (Try.prog.info? 3).map (fun i => (i.zero, i.size, i.bytes)) = some (some (.int .i64 0), 1, 8) := by kernel_rfl
theorem made_row (n : Nat) : madeCells #[.int .i64 0] n = (numCells (List.replicate n 0)).toArray := by
  have h := toList_madeCells_one (.int .i64 0) n
  rw [← Array.toList_inj, h]
  simp [numCells]

/-- What is worked out lies in bounds. -/
theorem Ro.bd {a b row : List Int} {n : Nat} (h : Ro a b n row) (k : Nat) (hon : on a b (n + 1) k) (hpar : (k + n + 1 + a.length + 1) % 2 = 0) : -((n : Int) + 1) ≤ bi row k ∧ bi row k ≤ a.length ∧ bi row k + 1 ≤ k ∧ -((n : Int) + 1) ≤ bi row k + b.length + 1 - k := by
  have hlen := h.len
  obtain ⟨o1, o2, o3, o4⟩ := hon
  have hbi : bi row k = min (row.getD (k + 1) 0 - 1) (row.getD (k - 1) 0) := rfl
  by_cases u : on a b n (k + 1)
  · have hu := h.near _ u
    by_cases v : on a b n (k - 1)
    · have hv := h.near _ v; omega
    · have hv := h.far (k - 1) (by omega) v
      by_cases q : k = a.length + b.length + 1
      · omega
      · omega
  · have hu := h.far (k + 1) (by omega) u
    by_cases v : on a b n (k - 1)
    · have hv := h.near _ v
      omega
    · have hv := h.far (k - 1) (by omega) v
      unfold on at u v
      omega
theorem Ro.val {a b row : List Int} {n : Nat} (h : Ro a b n row) {k : Nat} (hk : k < row.length) : -(n : Int) ≤ row.getD k 0 ∧ row.getD k 0 ≤ a.length + b.length + 1 := by
  by_cases u : on a b n k
  · have := h.near k u; omega
  · have := h.far k hk u; omega

/-- Numbers that are all the same. -/
def All (z : Int) (xs : List Int) : Prop := ∀ j, j < xs.length → xs.getD j 0 = z
theorem set_grown (w : World) (g j : Nat) (u : Value) {B : Nat} {w0 : World} (hb : Below B w0 w) (hg : B ≤ g) : Below B w0 (w.setCell ⟨g, j, none⟩ u) := hb.setCell (p := ⟨g, j, none⟩) hg u
end Go.Proofs.Ytkflhcfopejigaa.M

namespace Go.Proofs.Ytkflhcfopejigaa.M
set_option linter.unusedVariables false
set_option linter.unusedSimpArgs false
open Go.RowKit
open T
open V (IntsIn numCells numCells_snoc ints_own drawn_below)
open I (alloc1 own_at own_below)

/-- A row, as far as it is worked out. -/
def Mid (a b xs ys : List Int) (m : Nat) (k : Int) : Prop := ys.length = xs.length ∧ ∀ j : Nat, j < xs.length → ys.getD j 0 = if on a b (m + 1) j ∧ (j + m + 1 + a.length + 1) % 2 = 0 ∧ (j : Int) < k then bk a b xs j else xs.getD j 0
theorem Mid.start (a b xs : List Int) {m : Nat} {k : Int} (hk : k = a.length + 1 - (m + 1)) : Mid a b xs xs m k :=
  ⟨rfl, fun j hj => by rw [if_neg]; rintro ⟨⟨h1, h2, h3, h4⟩, h5, h6⟩; omega⟩
theorem Mid.skip {a b xs ys : List Int} {m : Nat} {k : Int} (h : Mid a b xs ys m k) (hl : xs.length = a.length + b.length + 3) {t : Nat} (ht : k = a.length + 1 - (m + 1) + 2 * t) (hs : k ≤ 0 ∨ (xs.length : Int) - 1 ≤ k) : Mid a b xs ys m (k + 2) := by
  refine ⟨h.1, fun j hj => ?_⟩
  rw [h.2 j hj]
  by_cases c : on a b (m + 1) j ∧ (j + m + 1 + a.length + 1) % 2 = 0 ∧ (j : Int) < k
  · rw [if_pos c, if_pos ⟨c.1, c.2.1, by omega⟩]
  · rw [if_neg c, if_neg]
    rintro ⟨h1, h2, h3⟩
    exact c ⟨h1, h2, by obtain ⟨o1, o2, o3, o4⟩ := h1; omega⟩
theorem Mid.put {a b xs ys : List Int} {m kn : Nat} {k : Int} (h : Mid a b xs ys m k) (hl : xs.length = a.length + b.length + 3) {t : Nat} (ht : k = a.length + 1 - (m + 1) + 2 * t) (hk : (kn : Int) = k) (h1 : 1 ≤ kn) (h2 : kn + 1 < xs.length) (h3 : k ≤ a.length + 1 + (m + 1)) : Mid a b xs (ys.set kn (bk a b xs kn)) m (k + 2) := by
  refine ⟨by rw [List.length_set]; exact h.1, fun j hj => ?_⟩
  rw [getD_set (by rw [h.1]; omega)]
  by_cases e : j = kn
  · subst e
    rw [if_pos rfl, if_pos]
    exact ⟨⟨h1, by omega, by omega, by omega⟩, by omega, by omega⟩
  · rw [if_neg e, h.2 j hj]
    by_cases c : on a b (m + 1) j ∧ (j + m + 1 + a.length + 1) % 2 = 0 ∧ (j : Int) < k
    · rw [if_pos c, if_pos ⟨c.1, c.2.1, by omega⟩]
    · rw [if_neg c, if_neg]
      rintro ⟨q1, q2, q3⟩
      exact c ⟨q1, q2, by omega⟩
theorem Mid.near {a b xs ys : List Int} {m kn : Nat} {k : Int} (h : Mid a b xs ys m k) {t : Nat} (ht : k = a.length + 1 - (m + 1) + 2 * t) (hk : (kn : Int) = k) (h1 : 1 ≤ kn) (h2 : kn + 1 < xs.length) : ys.getD (kn + 1) 0 = xs.getD (kn + 1) 0 ∧ ys.getD (kn - 1) 0 = xs.getD (kn - 1) 0 := by
  constructor
  · rw [h.2 _ h2, if_neg]; rintro ⟨_, q, _⟩; omega
  · rw [h.2 _ (by omega), if_neg]; rintro ⟨_, q, _⟩; omega
theorem Mid.bk {a b xs ys : List Int} {m kn : Nat} {k : Int} (h : Mid a b xs ys m k) {t : Nat} (ht : k = a.length + 1 - (m + 1) + 2 * t) (hk : (kn : Int) = k) (h1 : 1 ≤ kn) (h2 : kn + 1 < xs.length) : bi ys kn = bi xs kn ∧ M.bk a b ys kn = M.bk a b xs kn := by
  obtain ⟨e1, e2⟩ := h.near ht hk h1 h2
  have : bi ys kn = bi xs kn := by unfold bi; rw [e1, e2]
  exact ⟨this, by unfold M.bk; rw [this]⟩
theorem Mid.done {a b xs ys : List Int} {m : Nat} {k : Int} (h : Mid a b xs ys m k) (hk : a.length + 1 + (m + 1) < k) (hr : Ro a b m xs) : Ro a b (m + 1) ys :=
  hr.next h.1 fun j hj => by
    rw [h.2 j hj]
    by_cases c : on a b (m + 1) j ∧ (j + m + 1 + a.length + 1) % 2 = 0
    · rw [if_pos c, if_pos ⟨c.1, c.2, by obtain ⟨o1, o2, o3, o4⟩ := c.1; omega⟩]
    · rw [if_neg c, if_neg]
      exact fun q => c ⟨q.1, q.2.1⟩

/-- A slice that is a whole block. -/
def rowV (L g : Nat) : Value := .slice (some ⟨g, 0, none⟩) L L
/-- The rows so far. -/
def Held (w : World) (a b : List Int) (base : Nat) (gs : List Nat) : Prop := ∀ j (h : j < gs.length), base ≤ gs[j] ∧ ∃ xs, Row w gs[j] xs ∧ Ro a b j xs
theorem Held.kept {w w' : World} {a b : List Int} {base : Nat} {gs : List Nat} (h : Held w a b base gs) (hb : Below w.heap.size w w') : Held w' a b base gs := fun j hj => by
  obtain ⟨h1, xs, h2, h3⟩ := h j hj
  exact ⟨h1, xs, h2.kept hb, h3⟩
theorem Held.grown {w w' : World} {a b : List Int} {base : Nat} {gs : List Nat} (h : Held w a b base gs) {base' n size : Nat} {v : Value} {zs : List Value} (hown : w.ownsRow base' 67 size v n zs) (hg : w.grownBy w' v.ownBlock) : Held w' a b base gs := fun j hj => by
  obtain ⟨h1, xs, h2, h3⟩ := h j hj
  refine ⟨h1, xs, ?_, h3⟩
  refine (hg.block _ h2.lt fun e => ?_).trans h2
  rcases hown.2 with ⟨rfl, _⟩ | ⟨g, cap, cur, rfl, _, hh, _⟩
  · simp [Value.ownBlock] at e
  · simp only [Value.ownBlock, Option.some.injEq] at e
    rw [← e, show w.heap[gs[j]]? = _ from h2] at hh
    injection hh with hh
    injection hh with _ hh
    exact absurd hh (by decide)
theorem Row.grown {w w' : World} {g : Nat} {xs : List Int} (h : Row w g xs) {base' n size : Nat} {v : Value} {zs : List Value} (hown : w.ownsRow base' 67 size v n zs) (hg : w.grownBy w' v.ownBlock) : Row w' g xs := by
  refine (hg.block _ h.lt fun e => ?_).trans h
  rcases hown.2 with ⟨rfl, _⟩ | ⟨g', cap, cur, rfl, _, hh, _⟩
  · simp [Value.ownBlock] at e
  · simp only [Value.ownBlock, Option.some.injEq] at e
    rw [← e, show w.heap[g]? = _ from h] at hh
    injection hh with hh
    injection hh with _ hh
    exact absurd hh (by decide)
theorem Held.snoc {w : World} {a b : List Int} {base : Nat} {gs : List Nat} (h : Held w a b base gs) {g : Nat} {xs : List Int} (h1 : base ≤ g) (h2 : Row w g xs) (h3 : Ro a b gs.length xs) : Held w a b base (gs ++ [g]) := fun j hj => by
  by_cases e : j < gs.length
  · rw [List.getElem_append_left e]; exact h j e
  · obtain rfl : j = gs.length := by simp at hj; omega
    rw [List.getElem_append_right (Nat.le_refl _)]
    simp only [Nat.sub_self, List.getElem_cons_zero]
    exact ⟨h1, xs, h2, h3⟩
/-- The rows, as they are told. -/
def RowsAt (w : World) (a b : List Int) (G N : Nat) : Prop := (∃ cs, w.heap[G]? = some (.cells cs 67 (0, 0))) ∧ ∀ m, m < N → ∃ g xs, w.cell? ⟨G, m, none⟩ = some (rowV (a.length + b.length + 3) g) ∧ Row w g xs ∧ Ro a b m xs
theorem RowsAt.of {w : World} {a b : List Int} {base base' N cap : Nat} {A : Option Addr} {gs : List Nat} (h : Held w a b base gs) (hown : w.ownsRow base' 67 1 (.slice A gs.length cap) gs.length (gs.map (rowV (a.length + b.length + 3)))) (hN : N = gs.length) (hp : 0 < N) :
    ∃ G, A = some ⟨G, 0, none⟩ ∧ base' ≤ G ∧ RowsAt w a b G N := by
  subst hN
  rcases hown.2 with ⟨_, e⟩ | ⟨g, cap', cur, e, hb, hh, hc, hm, hs, ht⟩
  · omega
  · injection e with e1 e2 e3
    refine ⟨g, e1, hb, ⟨cur, hh⟩, fun m hm => ?_⟩
    obtain ⟨-, xs, h2, h3⟩ := h m hm
    refine ⟨gs[m], xs, ?_, h2, h3⟩
    rw [cell_of_row w g m cur _ _ hh]
    have : (cur.toList.take (gs.length * 1))[m]? = (gs.map (rowV (a.length + b.length + 3)))[m]? := by rw [ht]
    rw [Nat.mul_one, List.getElem?_take, if_pos hm, List.getElem?_map, List.getElem?_eq_getElem hm] at this
    simpa using this
theorem RowsAt.kept {w w' : World} {a b : List Int} {G N : Nat} (h : RowsAt w a b G N) (hb : Below w.heap.size w w') : RowsAt w' a b G N := by
  obtain ⟨⟨cs, hc⟩, h⟩ := h
  have hlt := (Array.getElem?_eq_some_iff.1 hc).1
  refine ⟨⟨cs, (hb.block G hlt).trans hc⟩, fun m hm => ?_⟩
  obtain ⟨g, xs, h1, h2, h3⟩ := h m hm
  exact ⟨g, xs, (hb.cell (p := ⟨G, m, none⟩) hlt).trans h1, h2.kept hb, h3⟩
def ReEnd (W : World) (a b : List Int) (e : Ending) (w' : World) : Prop := ∃ G cap, e = .returned (.slice (some ⟨G, 0, none⟩) (D a b 0 0 + 1) cap) ∧ W.heap.size ≤ G ∧ RowsAt w' a b G (D a b 0 0 + 1) ∧ Below W.heap.size W w'
theorem infoRowI : (Try.prog.info? 67).map (fun i => (i.zero, i.size, i.bytes)) = some (some (.slice none 0 0), 1, 24) := by kernel_rfl
theorem rowV_map (L : Nat) (gs : List Nat) (g : Nat) : (gs ++ [g]).map (rowV L) = gs.map (rowV L) ++ [.slice (some ⟨g, 0, none⟩) L L] := by simp [rowV]
theorem splice_all (xs ys : List Value) (h : ys.length = xs.length) : splice xs 0 ys = ys := by simp [splice, h]

theorem alloc_at {w : World} {n : Nat} (o : Obj) (h : w.heap.size = n) : (w.alloc o).heap[n]? = some o := by subst h; exact heap_alloc_new w o
/-- A copy of a row, into a new one. -/
theorem copied (w : World) {g L : Nat} {xs : List Int} (h : Row w g xs) (hl : xs.length = L) :
    ∃ W, (Builtin.copy_ #[67, 67] 3 #[.slice (some ⟨w.heap.size, 0, none⟩) L L, .slice (some ⟨g, 0, none⟩) L L]).run Try.prog (w.alloc (.cells (madeCells #[.int .i64 0] L) 3)) = .ok (.int .i64 (L : Int)) W ∧ Row W w.heap.size xs ∧ Below w.heap.size w W := by
  have hg : (w.alloc (.cells (madeCells #[.int .i64 0] L) 3)).heap[w.heap.size]? = some (.cells (numCells (List.replicate L 0)).toArray 3 (0, 0)) := by rw [made_row]; exact heap_alloc_new w _
  have hcl : (numCells xs).length = L := by simp [numCells, hl]
  have hrun := run_copy_row (P := Try.prog) (w.alloc (.cells (madeCells #[.int .i64 0] L) 3)) 67 67 3 3 w.heap.size 0 L L ⟨g, 0, none⟩ L L _ 3 (numCells xs) Try.underlying67 (by kernel_rfl) hg (by rw [hcl]; exact (Nat.min_self L).symm)
    (fun j v hj => by
      have hjl : j < xs.length := by
        have := (List.getElem?_eq_some_iff.1 hj).1
        simpa [numCells] using this
      have e : v = .int .i64 xs[j] := by
        simp [numCells, List.getElem?_eq_getElem hjl] at hj
        exact hj.symm
      subst e
      rw [show (⟨g, 0, none⟩ : Addr).add j = ⟨g, j, none⟩ by cases j <;> simp [Addr.add]]
      exact (h.kept (alloc1 _ _)).cell hjl)
    (by simp [numCells, hl]) (fun v hv => by
      simp only [numCells, List.mem_map] at hv
      obtain ⟨z, _, rfl⟩ := hv
      rfl)
  rw [hcl] at hrun
  refine ⟨_, hrun, ?_, below_setRow (alloc1 _ _) (Nat.le_refl _) _⟩
  refine (setRow_heap _ _ _ _ _ _ hg).trans ?_
  simp [numCells]

end Go.Proofs.Ytkflhcfopejigaa.M

namespace Go.Proofs.Ytkflhcfopejigaa.M
set_option linter.unusedVariables false
set_option linter.unusedSimpArgs false
open Go.RowKit
open T
open V (IntsIn numCells numCells_snoc ints_own drawn_below)
open I (alloc1 own_at own_below)

theorem D_all (a b : List Int) : D a b 0 0 = ed a b := rfl
theorem quiet_add_left {P : Program} {f : FuncId} {args : Array Value} {w : World} {a n : Nat} {v : Value}
    (h : Calls P f args (w.drewN (a + n)) fun e w' => e = .returned v ∧ w.drewN (a + n) = w') :
    Calls P f args (w.drewN (a + n)) fun e w'' => e = .returned v ∧ ∃ m, w'' = w.drewN (a + m) :=
  h.mono fun _ _ ⟨he, hm⟩ => ⟨he, n, hm.symm⟩
theorem quiet_left {P : Program} {f : FuncId} {args : Array Value} {w : World} {n : Nat} {v : Value}
    (h : Calls P f args (w.drewN n) fun e w' => e = .returned v ∧ w.drewN n = w') : Calls P f args (w.drewN n) fun e w'' => e = .returned v ∧ ∃ m, w'' = w.drewN m :=
  h.mono fun _ _ ⟨he, hm⟩ => ⟨he, n, hm.symm⟩
/-- What lies below n0 stays, and every row of numbers and of rows of numbers. -/
def KpT (n0 : Nat) (W W' : World) : Prop := Below n0 W W' ∧ ∀ (k : Nat) (cs : Array Value) (t : TypeId), W.heap[k]? = some (.cells cs t (0, 0)) → (t = 3 ∨ t = 67) → W'.heap[k]? = W.heap[k]?
theorem KpT.of {n0 : Nat} {W W' : World} (h : Below W.heap.size W W') (hn : n0 ≤ W.heap.size) : KpT n0 W W' := ⟨h.mono hn, fun k cs t hk _ => h.block k (Array.getElem?_eq_some_iff.1 hk).1⟩
theorem RowsAt.keptT {w w' : World} {n0 : Nat} {a b : List Int} {G N : Nat} (h : RowsAt w a b G N) (hb : KpT n0 w w') : RowsAt w' a b G N := by
  obtain ⟨⟨cs, hc⟩, h⟩ := h
  have e := hb.2 G cs _ hc (.inr rfl)
  refine ⟨⟨cs, e.trans hc⟩, fun m hm => ?_⟩
  obtain ⟨g, xs, h1, h2, h3⟩ := h m hm
  exact ⟨g, xs, (World.cell?_of_block (a := ⟨G, m, none⟩) e).trans h1, (hb.2 g _ _ h2 (.inl rfl)).trans h2, h3⟩
/-- Numbers that lie below n0. -/
def IntsLow (w : World) (n0 : Nat) (A : Option Addr) (xs : List Int) : Prop := 0 < xs.length → ∃ bk off, A = some ⟨bk, off, none⟩ ∧ bk < n0 ∧ L.IntsAt w bk off xs
theorem IntsLow.kept {w w' : World} {n0 : Nat} {A : Option Addr} {xs : List Int} (h : IntsLow w n0 A xs) (hb : Below n0 w w') : IntsLow w' n0 A xs := fun hp => by
  obtain ⟨bk, off, e, hlt, hl⟩ := h hp
  exact ⟨bk, off, e, hlt, fun j hj => (hb.cell (p := ⟨bk, off + j, none⟩) hlt).trans (hl j hj)⟩
theorem IntsLow.ints {w : World} {n0 : Nat} {A : Option Addr} {xs : List Int} (h : IntsLow w n0 A xs) (hn : n0 ≤ w.heap.size) : IntsIn w A xs := fun hp => by
  obtain ⟨bk, off, e, hlt, hl⟩ := h hp
  exact ⟨bk, off, e, by omega, hl⟩
theorem told_cons (i j : Nat) (s : Int) (r : List Int) : told i j (s :: r) = (s, i, j) :: told (if s = 3 then i else i + 1) (if s = 2 then j else j + 1) r := rfl
/-- Whoever is told. -/
structure Told (fn : FuncId) (p : Value) (n0 : Nat) (J : List (Int × Nat × Nat) → World → Prop) : Prop where
  enters : ∀ (args : Array Value) (w : World), (callFunc fn args).run Try.prog w = .ok (.enter fn args) w
  keeps : ∀ l W W', J l W → Below W.heap.size W W' → J l W'
  tells : ∀ l (s : Int) (i j : Nat) W, J l W → n0 ≤ W.heap.size → l.length ≤ 800 → Calls Try.prog fn #[.int .i64 s, .int .i64 (i : Int), .int .i64 (j : Int), p] W fun e W' => e = .returned (.tuple #[]) ∧ J (l ++ [(s, i, j)]) W' ∧ KpT n0 W W'

theorem to_keep {a b : List Int} {i j : Nat} {l X : List (Int × Nat × Nat)} (h : X = l ++ told i j (Wy a b i j)) (hk : kept a b i j = true) : X = (l ++ [(1, i, j)]) ++ told (i + 1) (j + 1) (Wy a b (i + 1) (j + 1)) := by
  rw [h, (Wy_kept hk).1, told_cons, if_neg (by decide), if_neg (by decide)]; simp
theorem to_out {a b : List Int} {i j : Nat} {l X : List (Int × Nat × Nat)} (h : X = l ++ told i j (Wy a b i j)) (hk : kept a b i j = false) (ho : outs a b i j = true) : X = (l ++ [(2, i, j)]) ++ told (i + 1) j (Wy a b (i + 1) j) := by
  rw [h, (Wy_out hk ho).1, told_cons, if_neg (by decide), if_pos rfl]; simp
theorem to_in {a b : List Int} {i j : Nat} {l X : List (Int × Nat × Nat)} (h : X = l ++ told i j (Wy a b i j)) (hk : kept a b i j = false) (ho : outs a b i j = false) (hj : j < b.length) : X = (l ++ [(3, i, j)]) ++ told i (j + 1) (Wy a b i (j + 1)) := by
  rw [h, (Wy_in hk ho hj).1, told_cons, if_pos rfl, if_neg (by decide)]; simp

end Go.Proofs.Ytkflhcfopejigaa.M

namespace Go.Proofs.Ytkflhcfopejigaa.M
set_option linter.unusedVariables false
set_option linter.unusedSimpArgs false

/-- A way of n changes. -/
inductive P : List Int → List Int → Nat → Prop
  | nil : P [] [] 0
  | keep {a b : List Int} {n : Nat} (x : Int) : P a b n → P (x :: a) (x :: b) n
  | out {a b : List Int} {n : Nat} (x : Int) : P a b n → P (x :: a) b (n + 1)
  | put {a b : List Int} {n : Nat} (x : Int) : P a b n → P a (x :: b) (n + 1)
theorem P.of_ed : ∀ (n : Nat) (a b : List Int), a.length + b.length ≤ n → P a b (ed a b)
  | _, [], [], _ => by rw [ed_nil1]; exact .nil
  | 0, [], y :: b, h => by simp at h
  | 0, x :: a, _, h => by simp at h
  | n + 1, [], y :: b, h => by
    have := P.of_ed n [] b (by simp at h ⊢; omega)
    rw [ed_nil1] at this ⊢
    exact .put y this
  | n + 1, x :: a, [], h => by
    have := P.of_ed n a [] (by simp at h ⊢; omega)
    rw [ed_nil2] at this ⊢
    exact .out x this
  | n + 1, x :: a, y :: b, h => by
    simp only [List.length_cons] at h
    by_cases e : x = y
    · subst e; rw [ed_eq]; exact .keep x (P.of_ed n a b (by omega))
    · rw [ed_ne e]
      rcases Nat.le_total (ed a (y :: b)) (ed (x :: a) b) with hl | hl
      · rw [Nat.min_eq_left hl]; exact .out x (P.of_ed n a (y :: b) (by simp; omega))
      · rw [Nat.min_eq_right hl]; exact .put y (P.of_ed n (x :: a) b (by simp; omega))
theorem P.ed (a b : List Int) : P a b (ed a b) := P.of_ed _ a b (Nat.le_refl _)
theorem P.le {a b : List Int} {n : Nat} (h : P a b n) : M.ed a b ≤ n := by
  induction h with
  | nil => rw [ed_nil1]; simp
  | keep x _ ih => rw [ed_eq]; exact ih
  | @out a b n x _ ih => have := ed_l1 x a b; omega
  | @put a b n x _ ih => have := ed_r1 x a b; omega
theorem P.symm {a b : List Int} {n : Nat} (h : P a b n) : P b a n := by
  induction h with
  | nil => exact .nil
  | keep x _ ih => exact .keep x ih
  | out x _ ih => exact .put x ih
  | put x _ ih => exact .out x ih
theorem P.trans : ∀ (N : Nat) (a b c : List Int) (n m : Nat), a.length + b.length + c.length ≤ N → P a b n → P b c m → ∃ k, k ≤ n + m ∧ P a c k
  | N, a, b, c, n, m, hN, h1, h2 => by
    cases h2 with
    | nil => exact ⟨n, by omega, h1⟩
    | @put _ c' m' x h2' =>
      match N, hN with
      | 0, hN => simp at hN
      | N + 1, hN =>
        obtain ⟨k, hk, h⟩ := P.trans N a b c' n m' (by simp at hN; omega) h1 h2'
        exact ⟨k + 1, by omega, .put x h⟩
    | @keep b' c' _ x h2' =>
      match N, hN with
      | 0, hN => simp at hN
      | N + 1, hN =>
        cases h1 with
        | @keep a' _ _ _ h1' =>
          obtain ⟨k, hk, h⟩ := P.trans N a' b' c' n m (by simp at hN; omega) h1' h2'
          exact ⟨k, hk, .keep x h⟩
        | @out a' _ n' y h1' =>
          obtain ⟨k, hk, h⟩ := P.trans N a' (x :: b') (x :: c') n' m (by simp at hN ⊢; omega) h1' (.keep x h2')
          exact ⟨k + 1, by omega, .out y h⟩
        | @put _ _ n' _ h1' =>
          obtain ⟨k, hk, h⟩ := P.trans N a b' c' n' m (by simp at hN; omega) h1' h2'
          exact ⟨k + 1, by omega, .put x h⟩
    | @out b' _ m' x h2' =>
      match N, hN with
      | 0, hN => simp at hN
      | N + 1, hN =>
        cases h1 with
        | @keep a' _ _ _ h1' =>
          obtain ⟨k, hk, h⟩ := P.trans N a' b' c n m' (by simp at hN; omega) h1' h2'
          exact ⟨k + 1, by omega, .out x h⟩
        | @out a' _ n' y h1' =>
          obtain ⟨k, hk, h⟩ := P.trans N a' (x :: b') c n' (m' + 1) (by simp at hN ⊢; omega) h1' (.out x h2')
          exact ⟨k + 1, by omega, .out y h⟩
        | @put _ _ n' _ h1' =>
          obtain ⟨k, hk, h⟩ := P.trans N a b' c n' m' (by simp at hN; omega) h1' h2'
          exact ⟨k, by omega, h⟩
theorem P.keepEnd {a b : List Int} {n : Nat} (h : P a b n) (z : Int) : P (a ++ [z]) (b ++ [z]) n := by
  induction h with
  | nil => exact .keep z .nil
  | keep x _ ih => exact .keep x ih
  | out x _ ih => exact .out x ih
  | put x _ ih => exact .put x ih
theorem P.outEnd {a b : List Int} {n : Nat} (h : P a b n) (z : Int) : P (a ++ [z]) b (n + 1) := by
  induction h with
  | nil => exact .out z .nil
  | keep x _ ih => exact .keep x ih
  | out x _ ih => exact .out x ih
  | put x _ ih => exact .put x ih
theorem P.putEnd {a b : List Int} {n : Nat} (h : P a b n) (z : Int) : P a (b ++ [z]) (n + 1) := (h.symm.outEnd z).symm
theorem P.outEnds {a b : List Int} {n : Nat} (h : P a b n) : ∀ z : List Int, P (a ++ z) b (n + z.length)
  | [] => by simpa using h
  | y :: z => by
    have := (h.outEnd y).outEnds z
    rw [List.append_assoc] at this
    simpa [Nat.add_assoc, Nat.add_comm 1] using this
theorem P.putEnds {a b : List Int} {n : Nat} (h : P a b n) (z : List Int) : P a (b ++ z) (n + z.length) := (h.symm.outEnds z).symm
theorem P.rev {a b : List Int} {n : Nat} (h : P a b n) : P a.reverse b.reverse n := by
  induction h with
  | nil => exact .nil
  | keep x _ ih => rw [List.reverse_cons, List.reverse_cons]; exact ih.keepEnd x
  | out x _ ih => rw [List.reverse_cons]; exact ih.outEnd x
  | put x _ ih => rw [List.reverse_cons]; exact ih.putEnd x
theorem P.refl : ∀ a : List Int, P a a 0
  | [] => .nil
  | x :: a => .keep x (P.refl a)
theorem P.zero {a b : List Int} {n : Nat} (h : P a b n) : n = 0 → a = b := by
  induction h with
  | nil => intro _; rfl
  | keep x _ ih => intro e; rw [ih e]
  | out x _ ih => intro e; omega
  | put x _ ih => intro e; omega
theorem ed_symm (a b : List Int) : ed a b = ed b a := by
  have := (P.ed a b).symm.le; have := (P.ed b a).symm.le; omega
theorem ed_tri (a b c : List Int) : ed a c ≤ ed a b + ed b c := by
  obtain ⟨k, hk, h⟩ := P.trans _ a b c _ _ (Nat.le_refl _) (P.ed a b) (P.ed b c)
  have := h.le; omega
theorem ed_rev (a b : List Int) : ed a.reverse b.reverse = ed a b := by
  have h1 := (P.ed a b).rev.le
  have h2 := (P.ed a.reverse b.reverse).rev.le
  rw [List.reverse_reverse, List.reverse_reverse] at h2
  omega
theorem ed_zero (a b : List Int) : ed a b = 0 ↔ a = b := by
  constructor
  · exact (P.ed a b).zero
  · rintro rfl; have := (P.refl a).le; omega
theorem ed_pre (a b : List Int) : ∀ p : List Int, ed (p ++ a) (p ++ b) = ed a b
  | [] => rfl
  | x :: p => by rw [List.cons_append, List.cons_append, ed_eq, ed_pre a b p]
theorem ed_suf (a b s : List Int) : ed (a ++ s) (b ++ s) = ed a b := by
  rw [← ed_rev, List.reverse_append, List.reverse_append, ed_pre, ed_rev]
theorem ed_ends (p a b s : List Int) : ed (p ++ a ++ s) (p ++ b ++ s) = ed a b := by rw [ed_suf, ed_pre]
/-- With one number more at the end it is one away. -/
theorem ed_more (a b : List Int) (z : Int) : ed (a ++ [z]) b = ed a b + 1 ∨ ed (a ++ [z]) b + 1 = ed a b := by
  have e : ed (a ++ [z]) b = ed (z :: a.reverse) b.reverse := by rw [← ed_rev, List.reverse_append]; rfl
  have h1 := ed_l1 z a.reverse b.reverse
  have h2 := ed_l2 z a.reverse b.reverse
  rw [ed_rev] at h1 h2
  have h3 := (ed_low _ a b (Nat.le_refl _)).2.2.2
  have h4 := (ed_low _ (a ++ [z]) b (Nat.le_refl _)).2.2.2
  rw [List.length_append] at h4
  simp only [List.length_cons, List.length_nil] at h4
  omega

/-- How many are kept. -/
theorem way_count : ∀ (n : Nat) (a b : List Int), a.length + b.length ≤ n → ed a b + 2 * (way a b).count 1 = a.length + b.length
  | _, [], [], _ => by simp [way, ed_nil1]
  | 0, [], y :: b, h => by simp at h
  | 0, x :: a, _, h => by simp at h
  | n + 1, [], y :: b, h => by
    have := way_count n [] b (by simp at h ⊢; omega)
    rw [way, ed_nil1] at *
    rw [List.count_cons_of_ne (by decide)]
    simp at this ⊢; omega
  | n + 1, x :: a, [], h => by
    have := way_count n a [] (by simp at h ⊢; omega)
    rw [way, ed_nil2] at *
    rw [List.count_cons_of_ne (by decide)]
    simp at this ⊢; omega
  | n + 1, x :: a, y :: b, h => by
    simp only [List.length_cons] at h
    by_cases e : x = y
    · subst e
      have := way_count n a b (by omega)
      rw [way, if_pos rfl, ed_eq, List.count_cons_self]
      simp only [List.length_cons]; omega
    · have h1 := way_count n a (y :: b) (by simp; omega)
      have h2 := way_count n (x :: a) b (by simp; omega)
      have h3 := ed_ne e a b
      rw [way, if_neg e]
      simp only [List.length_cons] at h1 h2 ⊢
      split
      · rw [List.count_cons_of_ne (by decide)]; omega
      · rw [List.count_cons_of_ne (by decide)]
        omega
theorem prs_told_length : ∀ (s : List Int) (i j : Nat), (prs (told i j s)).length = s.count 1
  | [], _, _ => rfl
  | t :: r, i, j => by
    have ih := prs_told_length r (if t = 3 then i else i + 1) (if t = 2 then j else j + 1)
    unfold prs at ih ⊢
    rw [told, List.length_map] at *
    by_cases h : t = 1
    · subst h; rw [List.count_cons_self, List.filter_cons_of_pos (by simp), List.length_cons, ih]
    · rw [List.count_cons_of_ne h, List.filter_cons_of_neg (by simpa using h), ih]
theorem pairs_length (a b : List Int) : ed a b + 2 * (pairs a b).length = a.length + b.length := by
  unfold pairs
  rw [prs_told_length]
  exact way_count _ a b (Nat.le_refl _)
theorem pairs_turn (a b : List Int) : (pairs a b).length = (pairs b a).length := by
  have h1 := pairs_length a b
  have h2 := pairs_length b a
  rw [ed_symm b a] at h2
  omega
/-- What is told of what is kept: places of both that hold the same, which rise. -/
def Good (a b : List Int) (i j : Nat) (l : List (Int × Int)) : Prop :=
  (∀ k (h : k < l.length), ∃ p q : Nat, l[k] = ((p : Int), (q : Int)) ∧ i ≤ p ∧ j ≤ q ∧ ∃ (hp : p < a.length) (hq : q < b.length), a[p] = b[q]) ∧
  (∀ k (h : k + 1 < l.length), (l[k]'(by omega)).1 < l[k + 1].1 ∧ (l[k]'(by omega)).2 < l[k + 1].2)
theorem Good.nil (a b : List Int) (i j : Nat) : Good a b i j [] := ⟨fun _ h => by simp at h, fun _ h => by simp at h⟩
theorem Good.more {a b : List Int} {i j i' j' : Nat} {l : List (Int × Int)} (h : Good a b i j l) (h1 : i' ≤ i) (h2 : j' ≤ j) : Good a b i' j' l :=
  ⟨fun k hk => by obtain ⟨p, q, e, e1, e2, e3⟩ := h.1 k hk; exact ⟨p, q, e, by omega, by omega, e3⟩, h.2⟩
theorem Good.cons {a b : List Int} {i j : Nat} {l : List (Int × Int)} (h : Good a b (i + 1) (j + 1) l) (hi : i < a.length) (hj : j < b.length) (e : a[i] = b[j]) : Good a b i j (((i : Int), (j : Int)) :: l) := by
  refine ⟨fun k hk => ?_, fun k hk => ?_⟩
  · cases k with
    | zero => exact ⟨i, j, rfl, Nat.le_refl _, Nat.le_refl _, hi, hj, e⟩
    | succ k =>
      obtain ⟨p, q, e', e1, e2, e3⟩ := h.1 k (by simpa using hk)
      exact ⟨p, q, by simpa using e', by omega, by omega, e3⟩
  · cases k with
    | zero =>
      obtain ⟨p, q, e', e1, e2, e3⟩ := h.1 0 (by simpa using hk)
      simp only [List.getElem_cons_zero, List.getElem_cons_succ, e']
      omega
    | succ k =>
      have := h.2 k (by simpa using hk)
      simpa using this
theorem told_good (a b : List Int) : ∀ (n i j : Nat), (a.length - i) + (b.length - j) ≤ n → Good a b i j (prs (told i j (Wy a b i j)))
  | n, i, j, hn => by
    by_cases hk : kept a b i j = true
    · obtain ⟨hi, hj, e⟩ := kept_yes hk
      match n, hn with
      | 0, hn => omega
      | n + 1, hn =>
        have ih := told_good a b n (i + 1) (j + 1) (by omega)
        rw [(Wy_kept hk).1, told]
        have : prs (((1 : Int), i, j) :: told (if (1 : Int) = 3 then i else i + 1) (if (1 : Int) = 2 then j else j + 1) (Wy a b (i + 1) (j + 1))) = ((i : Int), (j : Int)) :: prs (told (i + 1) (j + 1) (Wy a b (i + 1) (j + 1))) := by
          rw [if_neg (by decide), if_neg (by decide)]; unfold prs; rw [List.filter_cons_of_pos (by simp)]; rfl
        rw [this]
        exact ih.cons hi hj e
    · have hk : kept a b i j = false := by simpa using hk
      by_cases hg : i < a.length ∨ j < b.length
      · by_cases ho : outs a b i j = true
        · have hi := (of_decide_eq_true ho).1
          match n, hn with
          | 0, hn => omega
          | n + 1, hn =>
            have ih := told_good a b n (i + 1) j (by omega)
            rw [(Wy_out hk ho).1, told, if_neg (by decide), if_pos rfl]
            have : prs (((2 : Int), i, j) :: told (i + 1) j (Wy a b (i + 1) j)) = prs (told (i + 1) j (Wy a b (i + 1) j)) := by
              unfold prs; rw [List.filter_cons_of_neg (by simp)]
            rw [this]
            exact ih.more (by omega) (Nat.le_refl _)
        · have ho : outs a b i j = false := by simpa using ho
          have hj := in_ends ho hg
          match n, hn with
          | 0, hn => omega
          | n + 1, hn =>
            have ih := told_good a b n i (j + 1) (by omega)
            rw [(Wy_in hk ho hj).1, told, if_pos rfl, if_neg (by decide)]
            have : prs (((3 : Int), i, j) :: told i (j + 1) (Wy a b i (j + 1))) = prs (told i (j + 1) (Wy a b i (j + 1))) := by
              unfold prs; rw [List.filter_cons_of_neg (by simp)]
            rw [this]
            exact ih.more (Nat.le_refl _) (by omega)
      · rw [Wy_end (by omega) (by omega)]; exact Good.nil _ _ _ _
theorem pairs_good (a b : List Int) : Good a b 0 0 (pairs a b) := by
  have := told_good a b _ 0 0 (Nat.le_refl _)
  exact this

/-- A row of both that is found greedily is no longer than what is kept: the beginnings. -/
def Cm (a b : List Int) (p q n : Nat) : Prop := p ≤ a.length ∧ q ≤ b.length ∧ n ≤ p ∧ n ≤ q ∧ P (a.take p) (b.take q) (p + q - 2 * n)
theorem Cm.start (a b : List Int) : Cm a b 0 0 0 := ⟨Nat.zero_le _, Nat.zero_le _, Nat.le_refl _, Nat.le_refl _, .nil⟩
theorem take_more (a : List Int) {p k : Nat} (h : p ≤ k) : a.take k = a.take p ++ (a.drop p).take (k - p) := by
  have := (List.take_append_drop p (a.take k)).symm
  rw [List.take_take, Nat.min_eq_left h, List.drop_take] at this
  exact this
theorem Cm.next {a b : List Int} {p q n k j : Nat} (h : Cm a b p q n) (hk : p ≤ k) (hj : q ≤ j) (hka : k < a.length) (hjb : j < b.length) (e : b[j] = a[k]) : Cm a b (k + 1) (j + 1) (n + 1) := by
  obtain ⟨h1, h2, h3, h4, h5⟩ := h
  refine ⟨by omega, by omega, by omega, by omega, ?_⟩
  have g := ((h5.outEnds ((a.drop p).take (k - p))).putEnds ((b.drop q).take (j - q))).keepEnd a[k]
  rw [← take_more a hk, ← take_more b hj, ← List.take_succ_eq_append_getElem hka, ← e, ← List.take_succ_eq_append_getElem hjb] at g
  have hl1 : ((a.drop p).take (k - p)).length = k - p := by rw [List.length_take, List.length_drop]; omega
  have hl2 : ((b.drop q).take (j - q)).length = j - q := by rw [List.length_take, List.length_drop]; omega
  rw [hl1, hl2] at g
  rw [show k + 1 + (j + 1) - 2 * (n + 1) = p + q - 2 * n + (k - p) + (j - q) by omega]
  exact g
theorem Cm.most {a b : List Int} {p q n : Nat} (h : Cm a b p q n) : n ≤ (pairs a b).length := by
  obtain ⟨h1, h2, h3, h4, h5⟩ := h
  have g := (h5.outEnds (a.drop p)).putEnds (b.drop q)
  rw [List.take_append_drop, List.take_append_drop] at g
  have := g.le
  have hp := pairs_length a b
  rw [List.length_drop, List.length_drop] at this
  omega
/-- The next step of the way. -/
theorem Wy_next {a b : List Int} {i j : Nat} {s : Int} {r : List Int} (h : Wy a b i j = s :: r) :
    (s = 1 ∧ r = Wy a b (i + 1) (j + 1) ∧ ∃ (hi : i < a.length) (hj : j < b.length), a[i] = b[j]) ∨ (s = 2 ∧ r = Wy a b (i + 1) j ∧ i < a.length) ∨ (s = 3 ∧ r = Wy a b i (j + 1) ∧ j < b.length) := by
  by_cases hk : kept a b i j = true
  · rw [(Wy_kept hk).1] at h
    injection h with h1 h2
    exact .inl ⟨h1.symm, h2.symm, kept_yes hk⟩
  · have hk : kept a b i j = false := by simpa using hk
    by_cases hg : i < a.length ∨ j < b.length
    · by_cases ho : outs a b i j = true
      · rw [(Wy_out hk ho).1] at h
        injection h with h1 h2
        exact .inr (.inl ⟨h1.symm, h2.symm, (of_decide_eq_true ho).1⟩)
      · have ho : outs a b i j = false := by simpa using ho
        have hj := in_ends ho hg
        rw [(Wy_in hk ho hj).1] at h
        injection h with h1 h2
        exact .inr (.inr ⟨h1.symm, h2.symm, hj⟩)
    · rw [Wy_end (by omega) (by omega)] at h
      cases h
theorem Wy_nil {a b : List Int} {i j : Nat} (h : Wy a b i j = []) : a.length ≤ i ∧ b.length ≤ j := by
  by_cases hg : i < a.length ∨ j < b.length
  · exfalso
    by_cases hk : kept a b i j = true
    · rw [(Wy_kept hk).1] at h; cases h
    · have hk : kept a b i j = false := by simpa using hk
      by_cases ho : outs a b i j = true
      · rw [(Wy_out hk ho).1] at h; cases h
      · have ho : outs a b i j = false := by simpa using ho
        rw [(Wy_in hk ho (in_ends ho hg)).1] at h; cases h
  · omega
end Go.Proofs.Ytkflhcfopejigaa.M

namespace Go.Proofs.Ytkflhcfopejigaa.M
set_option linter.unusedVariables false
set_option linter.unusedSimpArgs false
open Go.RowKit
open T
open V (IntsIn numCells numCells_snoc ints_own drawn_below)
open I (alloc1 own_at own_below)
open N (prCells prCells_snoc prCells_length)

theorem infoStep : (Try.prog.info? 87).map (fun i => (i.zero, i.size, i.bytes)) = some (some (.int .i64 0), 1, 8) := by kernel_rfl
theorem infoPair : (Try.prog.info? 57).map (fun i => (i.zero, i.size, i.bytes)) = some (some (.agg #[.int .i64 0, .int .i64 0]), 2, 16) := by kernel_rfl
/-- What has been told of steps, in the box at Bp. -/
def JS (w0 : World) (Bp : Nat) (l : List (Int × Nat × Nat)) (W : World) : Prop :=
  ∃ v, W.heap[Bp]? = some (.cells #[v] 85 (0, 0)) ∧ W.ownsRow (Bp + 1) 87 1 v l.length (numCells (l.map (·.1))) ∧ Below Bp w0 W
theorem box_kept {W W' : World} {Bp : Nat} {o : Obj} (h : W.heap[Bp]? = some o) (hb : Below W.heap.size W W') : W'.heap[Bp]? = some o := (hb.block Bp (lt_of_block h)).trans h
/-- Behind an append to a row of elements of type e, and a store of it into its box. -/
theorem put_back {W w4 : World} {Bp : Nat} {v v' : Value} {T e : TypeId} {size n m : Nat} {xs ys : List Value} {o : Obj}
    (hbx : W.heap[Bp]? = some (.cells #[v] T (0, 0))) (hown : W.ownsRow (Bp + 1) e size v n xs) (he : e ≠ 3 ∧ e ≠ 67) (hT : T ≠ 3 ∧ T ≠ 67)
    (hg : (W.alloc o).grownBy w4 v.ownBlock) (hown4 : w4.ownsRow (Bp + 1) e size v' m ys) :
    w4.heap[Bp]? = some (.cells #[v] T (0, 0)) ∧ (w4.setCell ⟨Bp, 0, none⟩ v').heap[Bp]? = some (.cells #[v'] T (0, 0)) ∧ (w4.setCell ⟨Bp, 0, none⟩ v').ownsRow (Bp + 1) e size v' m ys ∧ KpT Bp W (w4.setCell ⟨Bp, 0, none⟩ v') := by
  have hlt := lt_of_block hbx
  have h1 : w4.heap[Bp]? = some (.cells #[v] T (0, 0)) := by
    rw [hg.block Bp (by simp; omega) (fun e => by have := own_base hown Bp e.symm; omega)]
    exact (alloc1 W o).block Bp hlt |>.trans hbx
  refine ⟨h1, one_setCell h1, ?_, ?_, ?_⟩
  · exact ownsRow_setCell_below hown4 (by simp) v'
  · exact (((alloc1 W o).mono (by omega)).grown hg (by simp; omega) (fun k ek => by have := own_base hown k ek; omega)).setCell (by simp) _
  · intro k cs t hk ht
    have hkl := lt_of_block hk
    have hkB : k ≠ Bp := fun e => by
      subst e; rw [hbx] at hk; injection hk with hk; injection hk with _ hk; rcases ht with rfl | rfl
      · exact hT.1 hk
      · exact hT.2 hk
    rw [heap_setCell_other _ ⟨Bp, 0, none⟩ k _ hkB, hg.block k (by simp; omega) (fun ek => ?_)]
    · exact (alloc1 W o).block k hkl
    · rcases hown.2 with ⟨rfl, _⟩ | ⟨g, cap, cur, rfl, _, hh, _⟩
      · simp [Value.ownBlock] at ek
      · simp only [Value.ownBlock, Option.some.injEq] at ek
        subst ek
        rw [hk] at hh; injection hh with hh; injection hh with _ hh
        rcases ht with rfl | rfl
        · exact he.1 hh.symm
        · exact he.2 hh.symm

/-- Pairs, in the box at Bp. -/
def JP (w0 : World) (Bp : Nat) (l : List (Int × Nat × Nat)) (W : World) : Prop :=
  ∃ v, W.heap[Bp]? = some (.cells #[v] 23 (0, 0)) ∧ W.ownsRow (Bp + 1) 57 2 v (prs l).length (prCells (prs l)) ∧ Below Bp w0 W
theorem prs_le (l : List (Int × Nat × Nat)) : (prs l).length ≤ l.length := by unfold prs; rw [List.length_map]; exact List.length_filter_le _ _
/-- Steps: a row of new memory. -/
def StEnd (W : World) (s : List Int) (e : Ending) (w' : World) : Prop := ∃ A cap, e = .returned (.slice A s.length cap) ∧ w'.ownsRow W.heap.size 87 1 (.slice A s.length cap) s.length (numCells s) ∧ Below W.heap.size W w'
def PaEnd (W : World) (ps : List (Int × Int)) (e : Ending) (w' : World) : Prop := ∃ A cap, e = .returned (.slice A ps.length cap) ∧ w'.ownsRow W.heap.size 57 2 (.slice A ps.length cap) ps.length (prCells ps) ∧ Below W.heap.size W w'
theorem ints_low {w w' : World} {A : Option Addr} {a : List Int} (h : IntsIn w A a) (hb : Below w.heap.size w w') : IntsLow w' w.heap.size A a := fun hp => by
  obtain ⟨bk, off, e, hlt, hl⟩ := h hp
  exact ⟨bk, off, e, hlt, fun j hj => (hb.cell (p := ⟨bk, off + j, none⟩) hlt).trans (hl j hj)⟩
theorem told_all (a b : List Int) : (told 0 0 (way a b)).map (·.1) = way a b := told_steps _ _ _
theorem told_len (a b : List Int) : (told 0 0 (way a b)).length = (way a b).length := by rw [← List.length_map (f := (·.1)), told_all]
end Go.Proofs.Ytkflhcfopejigaa.M

namespace Go.Proofs.Ytkflhcfopejigaa.M
set_option linter.unusedVariables false
set_option linter.unusedSimpArgs false
open Go.RowKit
open T
open V (IntsIn numCells numCells_snoc ints_own drawn_below)
open I (alloc1 own_at own_below)
open N (prCells prCells_snoc prCells_length PrIn pr_own pair_eql')

/-- A call that tells true, and keeps what there was. -/
def Lv (fn : FuncId) : Prop := ∀ w : World, Calls Try.prog fn #[] w fun e w' => e = .returned (.bool true) ∧ Below w.heap.size w w'
theorem Lv.at {fn : FuncId} (h : Lv fn) (w : World) : Calls Try.prog fn #[] w fun e w' => e = .returned (.bool true) ∧ Below w.heap.size w w' := h w
theorem ints_of_block {w : World} {g : Nat} {cs : Array Value} {xs : List Int} (h : w.heap[g]? = some (.cells cs 3 (0, 0))) (hc : cs.toList = numCells xs) : IntsIn w (some ⟨g, 0, none⟩) xs := by
  have : Row w g xs := by unfold Row; rw [h, ← hc]
  exact this.ints
theorem way1 : way [1, 2, 3] [2, 4] = [2, 1, 2, 3] := by simp [way, ed]
theorem way2 : pairs [1, 2] [2] = [(1, 0)] := by simp [pairs, way, ed, told, prs]
theorem way3 : ed [1] [] = 1 := by simp [ed]
theorem two (w : World) (o0 o1 : Obj) : ∃ W : World, W = (w.alloc o0).alloc o1 ∧ W.heap[w.heap.size]? = some o0 ∧ W.heap[w.heap.size + 1]? = some o1 ∧ Below w.heap.size w W := by
  refine ⟨_, rfl, ?_, alloc_at _ (by simp), ((alloc1 _ _).alloc (by simp) _)⟩
  exact ((alloc1 (w.alloc o0) o1).block _ (by simp)).trans (alloc_at _ rfl)
theorem st_cells {w : World} {base : Nat} {A : Option Addr} {cap : Nat} {s : List Int} (h : w.ownsRow base 87 1 (.slice A s.length cap) s.length (numCells s)) (hp : 0 < s.length) :
    ∃ g, A = some ⟨g, 0, none⟩ ∧ base ≤ g ∧ g < w.heap.size ∧ ∀ j (hj : j < s.length), w.cell? ⟨g, j, none⟩ = some (.int .i64 s[j]) := by
  obtain ⟨g, hA, hg, hlt, hc⟩ := own_at h hp
  exact ⟨g, hA, hg, hlt, fun j hj => hc j _ (by simp [numCells, List.getElem?_eq_getElem hj])⟩

theorem ints_take {w : World} {A : Option Addr} {a : List Int} (h : IntsIn w A a) (k : Nat) : IntsIn w A (a.take k) := fun hp => by
  obtain ⟨bk, off, rfl, hlt, hI⟩ := h (by rw [List.length_take] at hp; omega)
  refine ⟨bk, off, rfl, hlt, fun j hj => ?_⟩
  rw [List.getElem_take]
  exact hI j (by rw [List.length_take] at hj; omega)
end Go.Proofs.Ytkflhcfopejigaa.M
