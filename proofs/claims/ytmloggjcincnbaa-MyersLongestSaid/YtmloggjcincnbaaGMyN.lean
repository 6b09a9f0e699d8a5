/-
  Numbers, wherever they lie, appended to a row of the call's own.
-/
import Derived.Test.YtmloggjcincnbaaGmf
import Derived.Laws.AppendOwnNone
namespace Go.Proofs.Ytmloggjcincnbaa.M
set_option linter.unusedVariables false
set_option linter.unusedSimpArgs false
open Go.RowKit
open T
open V (IntsIn numCells numCells_snoc ints_own drawn_below)
open I (alloc1 own_at own_below)

theorem numCells_app (xs ys : List Int) : numCells (xs ++ ys) = numCells xs ++ numCells ys := by simp [numCells]
theorem append_ints {P : Program} {w : World} {ops : Array Oper} {rest : List Oper} {o : Oper} {a : Act} {Q : Exit → Act → World → Prop} (hgd : o.guard = none) (s x : Operand) (t : TypeId)
    (ho : o.op = .call { callee := .builtin .append, args := #[s, x], argTypes := #[t, t] })
    (base : Nat) (e : TypeId) (i : TypeInfo) (z : Value) (ht : P.underlying t = some (.slice e)) (hi : P.info? e = some i) (hz : i.zero = some z)
    (hsize : i.size = 1) (hby : i.bytes = 8) (hzs : z.cells.size = 1)
    (v : Value) (xs : List Int) (hs : a.eval s = v) (hown : w.ownsRow base e 1 v xs.length (numCells xs))
    (A : Option Addr) (cap : Nat) (l : List Int) (hx : a.eval x = .slice A l.length cap) (hA : IntsIn w A l) (hn : A = none → cap = 0)
    (zs : List Int) (hzl : zs = xs ++ l) (hlen : xs.length + l.length ≤ 1000) (hbase : base ≤ w.heap.size)
    (h : ∀ V c' w', w'.ownsRow base e 1 (.slice V zs.length c') zs.length (numCells zs) → w.grownBy w' v.ownBlock → wpList P ops Q rest (a.put o.dst (.slice V zs.length c')) w') : wpList P ops Q (o :: rest) a w := by
  subst hzl
  have hK : ∀ v' w', w'.ownsRow base e 1 v' (xs.length + l.length) (numCells xs ++ numCells l) → w.grownBy w' v.ownBlock → wpList P ops Q rest (a.put o.dst v') w' := fun v' w' h1 h2 => by
    rw [← numCells_app, ← List.length_append] at h1
    obtain ⟨V, c', rfl, -, -⟩ := own_form h1
    exact h V c' w' h1 h2
  cases A with
  | none =>
    have hl : l = [] := by
      rcases Nat.eq_zero_or_pos l.length with h0 | hp
      · exact List.length_eq_zero_iff.1 h0
      · obtain ⟨_, _, h0, _⟩ := hA hp; cases h0
    subst hl
    obtain rfl := hn rfl
    refine wpList_append_own_none hgd s x t ho base e i 1 ht hi v _ _ hs hown hx (hK v w (by simpa [numCells] using hown) ⟨rfl, rfl, rfl, Nat.le_refl _, fun _ _ _ => rfl⟩)
  | some ad =>
    refine wpList_append_own w hgd s x t ho base e i z 1 8 ht hi hz hsize hby hzs (by decide) v _ _ hs hown ad l.length cap (numCells l) hx (by simp [numCells]) (fun j u hu => ?_) (fun u hu => ?_) (by unfold maxLen; omega) (by omega) hbase (fun v' w' h1 h2 _ => hK v' w' h1 h2)
    · have hj : j < l.length := by have := (List.getElem?_eq_some_iff.1 hu).1; simpa [numCells] using this
      obtain ⟨bk, off, he, _, hB⟩ := hA (by omega)
      obtain rfl := Option.some.inj he
      rw [show (⟨bk, off, none⟩ : Addr).add j = ⟨bk, off + j, none⟩ by cases j <;> simp [Addr.add], hB j hj, ← hu]
      simp [numCells, List.getElem?_eq_getElem hj]
    · simp only [numCells, List.mem_map] at hu
      obtain ⟨c, _, rfl⟩ := hu; rfl
theorem own_lit0 (w : World) {base : Nat} (hb : base ≤ w.heap.size) : (w.alloc (.cells #[] 3)).ownsRow base 3 1 (.slice (some ⟨w.heap.size, 0, none⟩) 0 0) ([] : List Int).length (numCells []) :=
  World.ownsRow_lit w #[] 0 hb (by decide) rfl
/-- An append's world: below, what there was. -/
theorem below_app {w w1 w2 : World} {base : Nat} {v : Value} {n : Nat} {xs : List Value} {e : TypeId} {size : Nat} (hb : Below base w w1) (ho : w1.ownsRow base e size v n xs) (hg : w1.grownBy w2 v.ownBlock) (h : base ≤ w1.heap.size) : Below base w w2 :=
  hb.grown hg h (fun k ek => own_base ho k ek)
end Go.Proofs.Ytmloggjcincnbaa.M
