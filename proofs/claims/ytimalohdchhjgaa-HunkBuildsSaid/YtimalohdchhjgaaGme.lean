/-
  The contracts of myers' Distance and walk: what is told, step by step, to whoever keeps it.
-/
import Derived.Test.YtimalohdchhjgaaGmd
import Derived.Outline
namespace Go.Proofs.Ytimalohdchhjgaa.M
set_option linter.unusedVariables false
set_option linter.unusedSimpArgs false
open Go.RowKit
open T
open V (IntsIn numCells numCells_snoc ints_own drawn_below)
open I (alloc1 own_at own_below)

theorem D_all (a b : List Int) : D a b 0 0 = ed a b := rfl
theorem quiet_add_left {P : Program} {f : FuncId} {args : Array Value} {w : World} {a n : Nat} {v : Value}
    (h : Calls P f args (w.drewN (a + n)) fun e w' => e = .returned v ∧ w.drewN (a + n) = w') :
    Calls P f args (w.drewN (a + n)) fun e w'' => e = .returned v ∧ ∃ m, w'' = w.drewN (a + m) :=
  h.mono fun _ _ ⟨he, hm⟩ => ⟨he, n, hm.symm⟩
theorem quiet_left {P : Program} {f : FuncId} {args : Array Value} {w : World} {n : Nat} {v : Value}
    (h : Calls P f args (w.drewN n) fun e w' => e = .returned v ∧ w.drewN n = w') : Calls P f args (w.drewN n) fun e w'' => e = .returned v ∧ ∃ m, w'' = w.drewN m :=
  h.mono fun _ _ ⟨he, hm⟩ => ⟨he, n, hm.symm⟩
/-- What lies below n0 stays, and every row of numbers and of rows of numbers. -/
def KpT (n0 : Nat) (W W' : World) : Prop := Below n0 W W' ∧ ∀ (k : Nat) (cs : Array Value) (t : TypeId), W.heap[k]? = some (.cells cs t (0, 0)) → (t = 3 ∨ t = 73) → W'.heap[k]? = W.heap[k]?
theorem KpT.of {n0 : Nat} {W W' : World} (h : Below W.heap.size W W') (hn : n0 ≤ W.heap.size) : KpT n0 W W' := ⟨h.mono hn, fun k cs t hk _ => h.block k (Array.getElem?_eq_some_iff.1 hk).1⟩
theorem RowsAt.keptT {w w' : World} {n0 : Nat} {a b : List Int} {G N : Nat} (h : RowsAt w a b G N) (hb : KpT n0 w w') : RowsAt w' a b G N := by
  obtain ⟨⟨cs, hc⟩, h⟩ := h
  have e := hb.2 G cs _ hc (.inr rfl)
  refine ⟨⟨cs, e.trans hc⟩, fun m hm => ?_⟩
  obtain ⟨g, xs, h1, h2, h3⟩ := h m hm
  exact ⟨g, xs, (World.cell?_of_block (a := ⟨G, m, none⟩) e).trans h1, (hb.2 g _ _ h2 (.inl rfl)).trans h2, h3⟩
/-- Numbers that lie below n0. -/
def IntsLow (w : World) (n0 : Nat) (A : Option Addr) (xs : List Int) : Prop := 0 < xs.length → ∃ bk off, A = some ⟨bk, off, none⟩ ∧ bk < n0 ∧ L.IntsAt w bk off xs
theorem IntsLow.kept {w w' : World} {n0 : Nat} {A : Option Addr} {xs : List Int} (h : IntsLow w n0 A xs) (hb : Below n0 w w') : IntsLow w' n0 A xs := fun hp => by
  obtain ⟨bk, off, e, hlt, hl⟩ := h hp
  exact ⟨bk, off, e, hlt, fun j hj => (hb.cell (p := ⟨bk, off + j, none⟩) hlt).trans (hl j hj)⟩
theorem IntsLow.ints {w : World} {n0 : Nat} {A : Option Addr} {xs : List Int} (h : IntsLow w n0 A xs) (hn : n0 ≤ w.heap.size) : IntsIn w A xs := fun hp => by
  obtain ⟨bk, off, e, hlt, hl⟩ := h hp
  exact ⟨bk, off, e, by omega, hl⟩
theorem told_cons (i j : Nat) (s : Int) (r : List Int) : told i j (s :: r) = (s, i, j) :: told (if s = 3 then i else i + 1) (if s = 2 then j else j + 1) r := rfl
/-- Whoever is told. -/
structure Told (fn : FuncId) (p : Value) (n0 : Nat) (J : List (Int × Nat × Nat) → World → Prop) : Prop where
  enters : ∀ (args : Array Value) (w : World), (callFunc fn args).run Try.prog w = .ok (.enter fn args) w
  keeps : ∀ l W W', J l W → Below W.heap.size W W' → J l W'
  tells : ∀ l (s : Int) (i j : Nat) W, J l W → n0 ≤ W.heap.size → l.length ≤ 800 → Calls Try.prog fn #[.int .i64 s, .int .i64 (i : Int), .int .i64 (j : Int), p] W fun e W' => e = .returned (.tuple #[]) ∧ J (l ++ [(s, i, j)]) W' ∧ KpT n0 W W'

theorem to_keep {a b : List Int} {i j : Nat} {l X : List (Int × Nat × Nat)} (h : X = l ++ told i j (Wy a b i j)) (hk : kept a b i j = true) : X = (l ++ [(1, i, j)]) ++ told (i + 1) (j + 1) (Wy a b (i + 1) (j + 1)) := by
  rw [h, (Wy_kept hk).1, told_cons, if_neg (by decide), if_neg (by decide)]; simp
theorem to_out {a b : List Int} {i j : Nat} {l X : List (Int × Nat × Nat)} (h : X = l ++ told i j (Wy a b i j)) (hk : kept a b i j = false) (ho : outs a b i j = true) : X = (l ++ [(2, i, j)]) ++ told (i + 1) j (Wy a b (i + 1) j) := by
  rw [h, (Wy_out hk ho).1, told_cons, if_neg (by decide), if_pos rfl]; simp
theorem to_in {a b : List Int} {i j : Nat} {l X : List (Int × Nat × Nat)} (h : X = l ++ told i j (Wy a b i j)) (hk : kept a b i j = false) (ho : outs a b i j = false) (hj : j < b.length) : X = (l ++ [(3, i, j)]) ++ told i (j + 1) (Wy a b i (j + 1)) := by
  rw [h, (Wy_in hk ho hj).1, told_cons, if_pos rfl, if_neg (by decide)]; simp

end Go.Proofs.Ytimalohdchhjgaa.M
