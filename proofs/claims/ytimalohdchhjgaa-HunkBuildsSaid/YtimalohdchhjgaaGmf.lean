/-
  How many numbers two rows begin and end with alike: plain, and the contracts of the program's and the reference's Ends.
  The contract of the reference's Cut (layer 5).
  The contract of the reference's IDs (layer 5).
  The contract of the reference's Of (layer 5): a view while it is built.
  How often each number is there: plain; a copy and the order of a row of numbers in memory.
  The contracts of myers' Steps and Pairs, and of what they hand to the walk.
  The contract of the reference's Of (layer 5).
  The contracts of text.has and text.Right.
  The contract of the reference's Same on two rows of the same lines; and what the laws on lines ask of the functions that they call, in one form each.
  Plain facts on numbers and their texts: the text of a number up to 2^31 - 1 is read as that number; what is read as a number is that number's text; reading without a bound and asking at the end comes to the same.
  Small facts on texts as bytes; the contracts of text.Number and text.Decimal in closed form.
  The contract of text.Name: it returns, whatever text it is handed, what the plain function says, and leaves the world as it was.
  The contracts of the reference's Number, Name and Decimal: they come to the same plain functions as the program's own.
  The contract of the reference's Decimal, by induction over the number.
  The contract of the reference's Lines: for all bytes of at most 2^22.
  The contracts of the reference's Right and Join: for all lines of a bulk of at most 2^22.
  What the laws of layer 5 ask of the functions that they call, in one form each.
  A range over the items that are seen, with their places: the iterator's contract.
  The contract of view's Cut.
  A region of a loop's body over a function, walked as a region of any other code: without its fence.
  The contract of view's Of.
  The contract of intern's Counts.
  The contracts of the reference's count and Same.
  What must be whatever is asked of layer 7; a row's first 40 numbers.
-/
import Derived.Test.YtimalohdchhjgaaGmb
import Derived.Deep.DeepCutAuto
import Derived.Deep.CutRange
import Derived.Deep.AppendLies
import Derived.Deep.DrawnRows
import Derived.BigRegion
import Derived.Test.YtimalohdchhjgaaGma
import Derived.Sort.OwnSortedInts
import Derived.Test.YtimalohdchhjgaaGme
import Derived.Test.YtimalohdchhjgaaGmc
import Derived.Shelf.Abstract
import Derived.OneCell
import Derived.Deep.QuietTactic
import Derived.BigQuiet
import Derived.Deep.RegionWith
import Derived.RangeFuncNested
import Derived.RangeFuncBox
import Derived.RangeFuncBound
import Derived.RangeFuncCalls
import Derived.RangeFuncLeaves
import Derived.Shelf.RegionOpen
import Derived.WalkKit
import Derived.OwnWalkIn
import Derived.TacticsInMore
import Derived.LoopNIn
import Derived.LoopIn
import Derived.Maps.AppendAt
import Derived.Deep.RegionHeld
import Derived.Lib.Hide
namespace Go.Proofs.Ytimalohdchhjgaa.N
set_option linter.unusedVariables false
set_option linter.unusedSimpArgs false
open Go.RowKit
open T
open V (IntsIn numCells numCells_snoc ints_own drawn_below)
open I (alloc1 own_at own_below)

/-- How many numbers two rows begin with alike. -/
def cpl : List Int → List Int → Nat
  | x :: a, y :: b => if x = y then cpl a b + 1 else 0
  | _, _ => 0
theorem cpl_is : ∀ (a b : List Int) (k : Nat), (∀ j (hj : j < a.length) (hj' : j < b.length), j < k → a[j] = b[j]) → k ≤ a.length → k ≤ b.length → (∀ (h : k < a.length) (h' : k < b.length), ¬ a[k] = b[k]) → cpl a b = k
  | [], _, k, _, h1, _, _ => by simp only [List.length_nil] at h1; cases b : (‹List Int› : List Int) <;> (simp only [cpl]; omega)
  | x :: a, [], k, _, _, h2, _ => by simp only [List.length_nil] at h2; simp only [cpl]; omega
  | x :: a, y :: b, 0, _, _, _, hn => by
    have := hn (by simp) (by simp)
    simp only [List.getElem_cons_zero] at this
    rw [cpl, if_neg this]
  | x :: a, y :: b, k + 1, h, h1, h2, hn => by
    have h0 := h 0 (by simp) (by simp) (by omega)
    simp only [List.getElem_cons_zero] at h0
    rw [cpl, if_pos h0, cpl_is a b k (fun j hj hj' hjk => by
      have := h (j + 1) (by simpa using hj) (by simpa using hj') (by omega)
      simpa using this) (by simpa using h1) (by simpa using h2) (fun g g' => by
      have := hn (by simpa using g) (by simpa using g')
      simpa using this)]
theorem cpl_le1 : ∀ a b : List Int, cpl a b ≤ a.length
  | [], _ => by simp [cpl]
  | x :: a, [] => by simp [cpl]
  | x :: a, y :: b => by have := cpl_le1 a b; rw [cpl]; split <;> simp; omega
theorem cpl_le2 : ∀ a b : List Int, cpl a b ≤ b.length
  | [], _ => by simp [cpl]
  | x :: a, [] => by simp [cpl]
  | x :: a, y :: b => by have := cpl_le2 a b; rw [cpl]; split <;> simp; omega
/-- .. and, of what is left, end with alike. -/
def csl (a b : List Int) : Nat := cpl (a.drop (cpl a b)).reverse (b.drop (cpl a b)).reverse
theorem csl_is {a b : List Int} {k e : Nat} (hk : cpl a b = k) (h : ∀ j (hj : a.length - 1 - j < a.length) (hj' : b.length - 1 - j < b.length), j < e → a[a.length - 1 - j] = b[b.length - 1 - j]) (h1 : e + k ≤ a.length) (h2 : e + k ≤ b.length)
    (hn : ∀ (_ : e + k < a.length) (_ : e + k < b.length) (hj : a.length - 1 - e < a.length) (hj' : b.length - 1 - e < b.length), ¬ a[a.length - 1 - e] = b[b.length - 1 - e]) : csl a b = e := by
  unfold csl
  rw [hk]
  have g : ∀ (l : List Int) (j : Nat) (hj : j < (l.drop k).reverse.length), (l.drop k).reverse[j] = l[l.length - 1 - j]'(by simp at hj; omega) := fun l j hj => by
    rw [List.getElem_reverse, List.getElem_drop]
    congr 1
    simp at hj ⊢
    omega
  refine cpl_is _ _ e (fun j hj hj' hje => ?_) (by simp; omega) (by simp; omega) (fun q q' => ?_)
  · rw [g, g]; exact h j (by simp at hj; omega) (by simp at hj'; omega) hje
  · rw [g, g]; exact hn (by simp at q; omega) (by simp at q'; omega) (by simp at q; omega) (by simp at q'; omega)
theorem step_eq {a b : List Int} {k : Nat} (hk : k < a.length) (hk' : k < b.length) (h : a[k] = b[k]) (H : ∀ j (hj : j < a.length) (hj' : j < b.length), j < k → a[j] = b[j]) : ∀ j (hj : j < a.length) (hj' : j < b.length), j < k + 1 → a[j] = b[j] := V.ext_step hk hk' h H
theorem step_back {a b : List Int} {e : Nat} (h1 : a.length - 1 - e < a.length) (h2 : b.length - 1 - e < b.length) (h : a[a.length - 1 - e] = b[b.length - 1 - e]) (H : ∀ j (hj : a.length - 1 - j < a.length) (hj' : b.length - 1 - j < b.length), j < e → a[a.length - 1 - j] = b[b.length - 1 - j]) :
    ∀ j (hj : a.length - 1 - j < a.length) (hj' : b.length - 1 - j < b.length), j < e + 1 → a[a.length - 1 - j] = b[b.length - 1 - j] := fun j hj hj' hje => by
  by_cases q : j = e
  · subst q; exact h
  · exact H j hj hj' (by omega)
theorem drewN_add (w : World) (q n : Nat) : (w.drewN q).drewN n = w.drewN (q + n) := by simp [World.drewN, Nat.add_assoc]
theorem getD_at {a : List Int} {k : Nat} (h : k < a.length) : a.getD k 0 = a[k] := by rw [List.getD_eq_getElem?_getD, List.getElem?_eq_getElem h]; rfl
theorem go_true {a b : List Int} {k m : Nat} (hm : m = min a.length b.length) (h : true = (decide (k < m) && decide (a.getD k 0 = b.getD k 0))) (H : ∀ j (hj : j < a.length) (hj' : j < b.length), j < k → a[j] = b[j]) : k < m ∧ ∀ j (hj : j < a.length) (hj' : j < b.length), j < k + 1 → a[j] = b[j] := by
  have h2 := (Bool.and_eq_true _ _).mp h.symm
  have h3 := of_decide_eq_true h2.1
  have h4 := of_decide_eq_true h2.2
  have ha : k < a.length := by omega
  have hb : k < b.length := by omega
  rw [getD_at ha, getD_at hb] at h4
  exact ⟨h3, step_eq ha hb h4 H⟩
theorem go_false {a b : List Int} {k m : Nat} (hm : m = min a.length b.length) (hk : k ≤ m) (h : false = (decide (k < m) && decide (a.getD k 0 = b.getD k 0))) (H : ∀ j (hj : j < a.length) (hj' : j < b.length), j < k → a[j] = b[j]) : cpl a b = k :=
  cpl_is a b k H (by omega) (by omega) fun ha hb e => by
    rw [getD_at ha, getD_at hb, decide_eq_true e, decide_eq_true (show k < m by omega)] at h
    cases h
theorem back_true {a b : List Int} {e n : Nat} (h1 : n ≤ a.length) (h2 : n ≤ b.length) (h : true = (decide (e < n) && decide (a.getD (a.length - 1 - e) 0 = b.getD (b.length - 1 - e) 0))) (H : ∀ j (hj : a.length - 1 - j < a.length) (hj' : b.length - 1 - j < b.length), j < e → a[a.length - 1 - j] = b[b.length - 1 - j]) :
    e < n ∧ ∀ j (hj : a.length - 1 - j < a.length) (hj' : b.length - 1 - j < b.length), j < e + 1 → a[a.length - 1 - j] = b[b.length - 1 - j] := by
  have h2' := (Bool.and_eq_true _ _).mp h.symm
  have h3 := of_decide_eq_true h2'.1
  have h4 := of_decide_eq_true h2'.2
  have ha : a.length - 1 - e < a.length := by omega
  have hb : b.length - 1 - e < b.length := by omega
  rw [getD_at ha, getD_at hb] at h4
  exact ⟨h3, step_back ha hb h4 H⟩
theorem back_false {a b : List Int} {k e n : Nat} (hc : cpl a b = k) (hn : n = min a.length b.length - k) (hk : k ≤ min a.length b.length) (he : e ≤ n) (h : false = (decide (e < n) && decide (a.getD (a.length - 1 - e) 0 = b.getD (b.length - 1 - e) 0))) (H : ∀ j (hj : a.length - 1 - j < a.length) (hj' : b.length - 1 - j < b.length), j < e → a[a.length - 1 - j] = b[b.length - 1 - j]) : csl a b = e :=
  csl_is hc H (by omega) (by omega) fun q1 q2 ha hb e' => by
    rw [getD_at ha, getD_at hb, decide_eq_true e', decide_eq_true (show e < n by omega)] at h
    cases h
/-- Ends, of two rows. -/
def EnC (fn : FuncId) (a b : List Int) : Prop := ∀ (W : World) (A B : Option Addr) (c c' : Nat), IntsIn W A a → IntsIn W B b → Calls Try.prog fn #[.slice A a.length c, .slice B b.length c'] W fun e w' => e = .returned (.tuple #[.int .i64 (cpl a b : Nat), .int .i64 (csl a b : Nat)]) ∧ Below W.heap.size W w'
theorem EnC.at {fn : FuncId} {a b : List Int} (h : EnC fn a b) (W : World) {A B : Option Addr} {c c' : Nat} (h1 : IntsIn W A a) (h2 : IntsIn W B b) : Calls Try.prog fn #[.slice A a.length c, .slice B b.length c'] W fun e w' => e = .returned (.tuple #[.int .i64 (cpl a b : Nat), .int .i64 (csl a b : Nat)]) ∧ Below W.heap.size W w' := h W A B c c' h1 h2

end Go.Proofs.Ytimalohdchhjgaa.N

namespace Go.Proofs.Ytimalohdchhjgaa.V
set_option linter.unusedVariables false
set_option linter.unusedSimpArgs false
open Go.RowKit
open T
open I (It Lb ItemsIn ItemsAt ItemsOk itCells itCells_snoc itCells_at items_cells own_at own_below alloc1)

/-- An item's cells. -/
structure ItAt (w : World) (bk o : Nat) (y : It) : Prop where
  lt : bk < w.heap.size
  c0 : w.cell? ⟨bk, o, none⟩ = some (.int .i64 y.id)
  c1 : w.cell? ⟨bk, o + 1, none⟩ = some (.int .i64 y.lv)
  c2 : w.cell? ⟨bk, o + 2, none⟩ = some (.int .u64 (y.ct : Int))
  c3 : w.cell? ⟨bk, o + 3, none⟩ = some (.bool y.an)
  c4 : w.cell? ⟨bk, o + 4, none⟩ = some (.string ⟨y.tx.toArray⟩)
  c5 : w.cell? ⟨bk, o + 5, none⟩ = some (.bool y.ba)
theorem ItAt.below {w w' : World} {bk o : Nat} {y : It} (h : ItAt w bk o y) (hb : Below w.heap.size w w') : ItAt w' bk o y :=
  ⟨Nat.lt_of_lt_of_le h.lt hb.size, (hb.cell (p := ⟨bk, _, none⟩) h.lt).trans h.c0, (hb.cell (p := ⟨bk, _, none⟩) h.lt).trans h.c1, (hb.cell (p := ⟨bk, _, none⟩) h.lt).trans h.c2, (hb.cell (p := ⟨bk, _, none⟩) h.lt).trans h.c3, (hb.cell (p := ⟨bk, _, none⟩) h.lt).trans h.c4, (hb.cell (p := ⟨bk, _, none⟩) h.lt).trans h.c5⟩
theorem it_at {w : World} {bk off k : Nat} {xs : List It} (h : ItemsAt w bk off xs) (hb : bk < w.heap.size) (hk : k < xs.length) : ItAt w bk (off + k * 6) xs[k] := by
  obtain ⟨c0, c1, c2, c3, c4, c5⟩ := h k hk
  exact ⟨hb, c0, c1, c2, c3, c4, c5⟩
theorem own_base_le {w : World} {base base' : Nat} {e : TypeId} {size n : Nat} {v : Value} {xs : List Value} (h : w.ownsRow base e size v n xs) (hb : base' ≤ base) : w.ownsRow base' e size v n xs := own_more h hb
theorem cut_take {o : Lb} {l : List It} {k : Nat} (hk : k < l.length) : cut o (l.take (k + 1)) = cut o (l.take k) ++ (if sees o l[k] = true then [l[k]] else []) := by
  rw [List.take_succ_eq_append_getElem hk, cut_snoc]
theorem cut_le (o : Lb) (l : List It) : (cut o l).length ≤ l.length := List.length_filter_le _ _

end Go.Proofs.Ytimalohdchhjgaa.V

namespace Go.Proofs.Ytimalohdchhjgaa.V
set_option linter.unusedVariables false
set_option linter.unusedSimpArgs false
open Go.RowKit
open T
open I (It Lb ItemsIn ItemsAt ItemsOk itCells itCells_snoc itCells_at items_cells own_at own_below alloc1)

/-- The ID at a place; 0 where none is. -/
def idAt (l : List It) (a : Int) : Int := if 0 ≤ a then ((l[a.toNat]?).map (·.id)).getD 0 else 0
def ids (l : List It) (t : List Int) : List Int := t.map (idAt l)
theorem idAt_step {l : List It} {j : Nat} (hj : j < l.length) (a : Int) : idAt (l.take (j + 1)) a = if (j : Int) = a then l[j].id else idAt (l.take j) a := by
  unfold idAt
  by_cases h0 : 0 ≤ a
  · obtain ⟨n, rfl⟩ := Int.eq_ofNat_of_zero_le h0
    rw [if_pos h0, if_pos h0, Int.toNat_natCast, List.getElem?_take, List.getElem?_take]
    by_cases h1 : j = n
    · subst h1
      rw [if_pos rfl, if_pos (show j < j + 1 by omega), List.getElem?_eq_getElem hj]; rfl
    · rw [if_neg (show ¬ (j : Int) = (n : Int) by omega)]
      by_cases h2 : n < j
      · rw [if_pos (show n < j + 1 by omega), if_pos h2]
      · rw [if_neg (show ¬ n < j + 1 by omega), if_neg h2]
  · rw [if_neg h0, if_neg h0, if_neg (by omega)]
theorem idAt_none (a : Int) : idAt [] a = 0 := by unfold idAt; split <;> rfl
theorem ids_take {l : List It} {t : List Int} {k : Nat} (hk : k < t.length) : ids l (t.take (k + 1)) = ids l (t.take k) ++ [idAt l t[k]] := by
  unfold ids; rw [List.take_succ_eq_append_getElem hk, List.map_append]; rfl
end Go.Proofs.Ytimalohdchhjgaa.V

namespace Go.Proofs.Ytimalohdchhjgaa.V
set_option linter.unusedVariables false
set_option linter.unusedSimpArgs false
open Go.RowKit
open T
open I (It Lb ItemsIn ItemsAt ItemsOk itCells itCells_snoc itCells_at items_cells own_at own_below alloc1)

theorem own_ne {w : World} {base : Nat} {e : TypeId} {size n : Nat} {v : Value} {xs : List Value} (h : w.ownsRow base e size v n xs) {g : Nat} (hne : ∀ cs, w.heap[g]? ≠ some (.cells cs e (0, 0))) : v.ownBlock = none ∨ v.ownBlock ≠ some g := by
  rcases h.2 with ⟨rfl, _⟩ | ⟨g', cap, cur, rfl, hg, hh, _⟩
  · exact .inl rfl
  · refine .inr fun e' => ?_
    simp [Value.ownBlock] at e'
    subst e'
    exact hne _ hh
theorem own_ne' {w : World} {base : Nat} {e : TypeId} {size n : Nat} {v : Value} {xs : List Value} (h : w.ownsRow base e size v n xs) {g : Nat} (hne : ∀ cs, w.heap[g]? ≠ some (.cells cs e (0, 0))) : some g ≠ v.ownBlock := fun e' => by
  rcases own_ne h hne with h1 | h1
  · rw [h1] at e'; cases e'
  · exact h1 e'.symm
theorem own_apart {w : World} {base base' : Nat} {e e' : TypeId} {size size' n n' : Nat} {v v' : Value} {xs xs' : List Value} (hne : e ≠ e') (h : w.ownsRow base e size v n xs) (h' : w.ownsRow base' e' size' v' n' xs') : v.ownBlock = none ∨ v.ownBlock ≠ v'.ownBlock := by
  rcases h'.2 with ⟨rfl, _⟩ | ⟨g', cap, cur, rfl, hg, hh, _⟩
  · cases hv : v.ownBlock with
    | none => exact .inl rfl
    | some k => exact .inr (by simp [Value.ownBlock])
  · rcases own_ne h (g := g') (fun cs he => by rw [hh] at he; injection he with he; injection he with _ he; exact hne he.symm) with h1 | h1
    · exact .inl h1
    · exact .inr (by simpa [Value.ownBlock] using h1)
theorem grown_of {w w' : World} (hb : Below w.heap.size w w') (row : Option Nat) : w.grownBy w' row := ⟨hb.os, hb.tape, hb.output, hb.size, fun k hk _ => hb.block k hk⟩
theorem grown_set (w : World) (p : Addr) (u : Value) : w.grownBy (w.setCell p u) (some p.block) :=
  ⟨rfl, rfl, rfl, by simp [World.setCell], fun k _ hk => Below.heap_setCell _ _ _ _ (fun e => hk (by rw [e]))⟩
section
variable {w w' : World} {base vb : Nat} {vl va v' : Value} {ls ls' : List (List UInt8 × Bool)} {ts ts' : List Int}
end
def atI (o : Lb) (l : List It) : List Int := (ats o 0 l).map fun n : Nat => (n : Int)
theorem atI_take {o : Lb} {l : List It} {k : Nat} (hk : k < l.length) : atI o (l.take (k + 1)) = atI o (l.take k) ++ (if sees o l[k] = true then [(k : Int)] else []) := by
  unfold atI
  rw [List.take_succ_eq_append_getElem hk, ats_snoc, List.map_append, Nat.zero_add, List.length_take, Nat.min_eq_left (by omega)]
  split <;> rfl
theorem lst_take {o : Lb} {l : List It} {k : Nat} (hk : k < l.length) : lst o 0 (-1) (l.take (k + 1)) = if sees o l[k] = true then (k : Int) else lst o 0 (-1) (l.take k) := by
  rw [List.take_succ_eq_append_getElem hk, lst_snoc, Nat.zero_add, List.length_take, Nat.min_eq_left (by omega)]
theorem rln_take {o : Lb} {h : List UInt8} {z : Int} {l : List It} {k : Nat} (hk : k < l.length) : rln o h z 0 (l.take (k + 1)) = rln o h z 0 (l.take k) ++ (if sees o l[k] = true then [(txt h l[k], decide ((k : Int) = z) && l[k].ba)] else []) := by
  rw [List.take_succ_eq_append_getElem hk, rln_snoc, Nat.zero_add, List.length_take, Nat.min_eq_left (by omega)]
theorem rln_length (o : Lb) (h : List UInt8) (z : Int) : ∀ (l : List It) (k : Nat), (rln o h z k l).length = (cut o l).length
  | [], _ => rfl
  | x :: r, k => by
    rw [rln]
    by_cases hx : sees o x = true
    · rw [if_pos hx, List.length_cons, rln_length o h z r]; simp [cut, hx]
    · rw [if_neg hx, rln_length o h z r]; simp [cut, hx]
theorem lnCells_snoc (xs : List (List UInt8 × Bool)) (t : List UInt8) (b : Bool) : lineCells (xs ++ [(t, b)]) = lineCells xs ++ [.string ⟨t.toArray⟩, .bool b] := lineCells_snoc xs t b
end Go.Proofs.Ytimalohdchhjgaa.V

namespace Go.Proofs.Ytimalohdchhjgaa.N
set_option linter.unusedVariables false
set_option linter.unusedSimpArgs false
open Go.RowKit
open T
open V (grown_of IntsIn numCells numCells_snoc ints_own drawn_below)
open I (alloc1 own_at own_below)

/-- Numbers with how often each is there, rising: of a row. -/
structure Cn (l : List Int) (cs : List (Int × Nat)) : Prop where
  rise : cs.Pairwise (fun p q => p.1 < q.1)
  mem : ∀ p ∈ cs, p.1 ∈ l ∧ p.2 = l.count p.1
  all : ∀ n ∈ l, ∃ p ∈ cs, p.1 = n
theorem pairs_same : ∀ {cs ds : List (Int × Nat)}, cs.Pairwise (fun p q => p.1 < q.1) → ds.Pairwise (fun p q => p.1 < q.1) → (∀ p, p ∈ cs ↔ p ∈ ds) → cs = ds
  | [], [], _, _, _ => rfl
  | [], d :: ds, _, _, h => by have := (h d).2 (by simp); simp at this
  | c :: cs, [], _, _, h => by have := (h c).1 (by simp); simp at this
  | c :: cs, d :: ds, hc, hd, h => by
    rw [List.pairwise_cons] at hc hd
    have e : c = d := by
      have h1 := (h c).1 (by simp)
      have h2 := (h d).2 (by simp)
      rcases List.mem_cons.1 h1 with h1 | h1
      · exact h1
      · rcases List.mem_cons.1 h2 with h2 | h2
        · exact h2.symm
        · have := hd.1 c h1; have := hc.1 d h2; omega
    subst e
    rw [pairs_same hc.2 hd.2 fun p => ?_]
    constructor
    · intro hp
      rcases List.mem_cons.1 ((h p).1 (by simp [hp])) with e | e
      · subst e; have := hc.1 p hp; omega
      · exact e
    · intro hp
      rcases List.mem_cons.1 ((h p).2 (by simp [hp])) with e | e
      · subst e; have := hd.1 p hp; omega
      · exact e
theorem Cn.same {l : List Int} {cs ds : List (Int × Nat)} (h : Cn l cs) (h' : Cn l ds) : cs = ds := by
  have half : ∀ {cs ds : List (Int × Nat)}, Cn l cs → Cn l ds → ∀ p ∈ cs, p ∈ ds := fun {cs ds} h h' p hp => by
    obtain ⟨q, hq, e⟩ := h'.all _ (h.mem p hp).1
    have e2 : q = p := Prod.ext e (by rw [(h'.mem q hq).2, (h.mem p hp).2, e])
    rw [← e2]; exact hq
  exact pairs_same h.rise h'.rise fun p => ⟨half h h' p, half h' h p⟩
theorem Cn.perm {l m : List Int} {cs : List (Int × Nat)} (h : Cn l cs) (hp : l.Perm m) : Cn m cs :=
  ⟨h.rise, fun p hp' => ⟨hp.mem_iff.1 (h.mem p hp').1, by rw [(h.mem p hp').2]; exact hp.count_eq _⟩, fun n hn => h.all n (hp.mem_iff.2 hn)⟩
theorem Cn.new {l : List Int} {cs : List (Int × Nat)} {n : Int} (h : Cn l cs) (hn : ∀ x ∈ l, x < n) : Cn (l ++ [n]) (cs ++ [(n, 1)]) := by
  have hnl : n ∉ l := fun hm => by have := hn n hm; omega
  refine ⟨?_, fun p hp => ?_, fun x hx => ?_⟩
  · rw [List.pairwise_append]
    exact ⟨h.rise, by simp, fun p hp q hq => by simp at hq; subst hq; exact hn _ (h.mem p hp).1⟩
  · rcases List.mem_append.1 hp with hp | hp
    · have hpl := (h.mem p hp).1
      refine ⟨by simp [hpl], ?_⟩
      rw [List.count_append, (h.mem p hp).2, List.count_singleton]
      have : ¬ n = p.1 := fun e => hnl (by rw [e]; exact hpl)
      simp [this]
    · simp at hp; subst hp
      exact ⟨by simp, by rw [List.count_append, List.count_eq_zero_of_not_mem hnl]; simp⟩
  · rcases List.mem_append.1 hx with hx | hx
    · obtain ⟨p, hp, e⟩ := h.all x hx; exact ⟨p, by simp [hp], e⟩
    · simp at hx; subst hx; exact ⟨(x, 1), by simp, rfl⟩
theorem Cn.again {l : List Int} {cs : List (Int × Nat)} {n : Int} {c : Nat} (h : Cn l (cs ++ [(n, c)])) : Cn (l ++ [n]) (cs ++ [(n, c + 1)]) := by
  have hr := h.rise
  rw [List.pairwise_append] at hr
  have hc := h.mem (n, c) (by simp)
  refine ⟨?_, fun p hp => ?_, fun x hx => ?_⟩
  · rw [List.pairwise_append]
    exact ⟨hr.1, by simp, fun p hp q hq => by simp at hq; subst hq; exact hr.2.2 p hp (n, c) (by simp)⟩
  · rcases List.mem_append.1 hp with hp | hp
    · have hm := h.mem p (by simp [hp])
      have hlt := hr.2.2 p hp (n, c) (by simp)
      refine ⟨by simp [hm.1], ?_⟩
      rw [List.count_append, hm.2, List.count_singleton]
      have : ¬ n = p.1 := by simp only at hlt; omega
      simp [this]
    · simp at hp; subst hp
      refine ⟨by simp, ?_⟩
      rw [List.count_append, List.count_singleton, ← hc.2]
      simp
  · have hx' : x ∈ l := by
      rcases List.mem_append.1 hx with hx | hx
      · exact hx
      · simp at hx; subst hx; exact hc.1
    obtain ⟨p, hp, e⟩ := h.all x hx'
    rcases List.mem_append.1 hp with hp | hp
    · exact ⟨p, by simp [hp], e⟩
    · simp at hp; subst hp; exact ⟨(n, c + 1), by simp, e⟩
theorem Cn.nil : Cn [] [] := ⟨.nil, fun p hp => by simp at hp, fun n hn => by simp at hn⟩
def tot (cs : List (Int × Nat)) : Nat := (cs.map (·.2)).sum
theorem tot_snoc (cs : List (Int × Nat)) (p : Int × Nat) : tot (cs ++ [p]) = tot cs + p.2 := by simp [tot]

/-- The cells of pairs. -/
def prCells (ps : List (Int × Int)) : List Value := ps.flatMap fun p => [.int .i64 p.1, .int .i64 p.2]
theorem prCells_snoc (ps : List (Int × Int)) (p : Int × Int) : prCells (ps ++ [p]) = prCells ps ++ [.int .i64 p.1, .int .i64 p.2] := by simp [prCells]
theorem prCells_length : ∀ ps : List (Int × Int), (prCells ps).length = ps.length * 2
  | [] => rfl
  | p :: r => by
    have : prCells (p :: r) = .int .i64 p.1 :: .int .i64 p.2 :: prCells r := by simp [prCells]
    rw [this, List.length_cons, List.length_cons, prCells_length r, List.length_cons]; omega
def srt (l : List Int) : List Int := l.mergeSort fun x y => decide (x ≤ y)
theorem srt_nil : srt [] = [] := by simp [srt]
theorem srt_length (l : List Int) : (srt l).length = l.length := List.length_mergeSort _
theorem srt_perm (l : List Int) : (srt l).Perm l := List.mergeSort_perm _ _
theorem srt_le (l : List Int) : (srt l).Pairwise (· ≤ ·) := by
  have := List.pairwise_mergeSort (le := fun x y : Int => decide (x ≤ y)) (fun a b c h1 h2 => by simp at *; omega) (fun a b => by simp; omega) l
  simpa [srt] using this
end Go.Proofs.Ytimalohdchhjgaa.N

namespace Go.Proofs.Ytimalohdchhjgaa.M
set_option linter.unusedVariables false
set_option linter.unusedSimpArgs false
open Go.RowKit
open T
open V (IntsIn numCells numCells_snoc ints_own drawn_below)
open I (alloc1 own_at own_below)
open N (prCells prCells_snoc prCells_length)

theorem infoStep : (Try.prog.info? 45).map (fun i => (i.zero, i.size, i.bytes)) = some (some (.int .i64 0), 1, 8) := by kernel_rfl
/-- What has been told of steps, in the box at Bp. -/
def JS (w0 : World) (Bp : Nat) (l : List (Int × Nat × Nat)) (W : World) : Prop :=
  ∃ v, W.heap[Bp]? = some (.cells #[v] 66 (0, 0)) ∧ W.ownsRow (Bp + 1) 45 1 v l.length (numCells (l.map (·.1))) ∧ Below Bp w0 W
theorem box_kept {W W' : World} {Bp : Nat} {o : Obj} (h : W.heap[Bp]? = some o) (hb : Below W.heap.size W W') : W'.heap[Bp]? = some o := (hb.block Bp (lt_of_block h)).trans h
/-- Behind an append to a row of elements of type e, and a store of it into its box. -/
theorem put_back {W w4 : World} {Bp : Nat} {v v' : Value} {T e : TypeId} {size n m : Nat} {xs ys : List Value} {o : Obj}
    (hbx : W.heap[Bp]? = some (.cells #[v] T (0, 0))) (hown : W.ownsRow (Bp + 1) e size v n xs) (he : e ≠ 3 ∧ e ≠ 73) (hT : T ≠ 3 ∧ T ≠ 73)
    (hg : (W.alloc o).grownBy w4 v.ownBlock) (hown4 : w4.ownsRow (Bp + 1) e size v' m ys) :
    w4.heap[Bp]? = some (.cells #[v] T (0, 0)) ∧ (w4.setCell ⟨Bp, 0, none⟩ v').heap[Bp]? = some (.cells #[v'] T (0, 0)) ∧ (w4.setCell ⟨Bp, 0, none⟩ v').ownsRow (Bp + 1) e size v' m ys ∧ KpT Bp W (w4.setCell ⟨Bp, 0, none⟩ v') := by
  have hlt := lt_of_block hbx
  have h1 : w4.heap[Bp]? = some (.cells #[v] T (0, 0)) := by
    rw [hg.block Bp (by simp; omega) (fun e => by have := own_base hown Bp e.symm; omega)]
    exact (alloc1 W o).block Bp hlt |>.trans hbx
  refine ⟨h1, one_setCell h1, ?_, ?_, ?_⟩
  · exact ownsRow_setCell_below hown4 (by simp) v'
  · exact (((alloc1 W o).mono (by omega)).grown hg (by simp; omega) (fun k ek => by have := own_base hown k ek; omega)).setCell (by simp) _
  · intro k cs t hk ht
    have hkl := lt_of_block hk
    have hkB : k ≠ Bp := fun e => by
      subst e; rw [hbx] at hk; injection hk with hk; injection hk with _ hk; rcases ht with rfl | rfl
      · exact hT.1 hk
      · exact hT.2 hk
    rw [heap_setCell_other _ ⟨Bp, 0, none⟩ k _ hkB, hg.block k (by simp; omega) (fun ek => ?_)]
    · exact (alloc1 W o).block k hkl
    · rcases hown.2 with ⟨rfl, _⟩ | ⟨g, cap, cur, rfl, _, hh, _⟩
      · simp [Value.ownBlock] at ek
      · simp only [Value.ownBlock, Option.some.injEq] at ek
        subst ek
        rw [hk] at hh; injection hh with hh; injection hh with _ hh
        rcases ht with rfl | rfl
        · exact he.1 hh.symm
        · exact he.2 hh.symm

theorem prs_le (l : List (Int × Nat × Nat)) : (prs l).length ≤ l.length := by unfold prs; rw [List.length_map]; exact List.length_filter_le _ _
/-- Steps: a row of new memory. -/
def StEnd (W : World) (s : List Int) (e : Ending) (w' : World) : Prop := ∃ A cap, e = .returned (.slice A s.length cap) ∧ w'.ownsRow W.heap.size 45 1 (.slice A s.length cap) s.length (numCells s) ∧ Below W.heap.size W w'
theorem ints_low {w w' : World} {A : Option Addr} {a : List Int} (h : IntsIn w A a) (hb : Below w.heap.size w w') : IntsLow w' w.heap.size A a := fun hp => by
  obtain ⟨bk, off, e, hlt, hl⟩ := h hp
  exact ⟨bk, off, e, hlt, fun j hj => (hb.cell (p := ⟨bk, off + j, none⟩) hlt).trans (hl j hj)⟩
theorem told_all (a b : List Int) : (told 0 0 (way a b)).map (·.1) = way a b := told_steps _ _ _
theorem told_len (a b : List Int) : (told 0 0 (way a b)).length = (way a b).length := by rw [← List.length_map (f := (·.1)), told_all]
end Go.Proofs.Ytimalohdchhjgaa.M

namespace Go.Proofs.Ytimalohdchhjgaa.V
set_option linter.unusedVariables false
set_option linter.unusedSimpArgs false
open Go.RowKit
open T
open I (It Lb ItemsIn ItemsAt ItemsOk itCells itCells_snoc itCells_at items_cells own_at own_below alloc1)

def OfEnd (w : World) (o : Lb) (h : List UInt8) (l : List It) (e : Ending) (w' : World) : Prop :=
  (∃ vl va, e = .returned (.agg #[vl, va]) ∧ w'.ownsRow w.heap.size 51 2 vl (lns h (cut o l)).length (lineCells (lns h (cut o l))) ∧ w'.ownsRow w.heap.size 3 1 va (atI o l).length (numCells (atI o l))) ∧ Below w.heap.size w w'
end Go.Proofs.Ytimalohdchhjgaa.V

namespace Go.Proofs.Ytimalohdchhjgaa.T
open Go.RowKit

/-- Is there a byte 10? -/
def hasNl (l : List UInt8) : Bool := l.contains 10
theorem has_at {s : ByteArray} {k : Nat} (hk : k < s.size) (h : (s[k].toNat : Int) = 10) : hasNl s.data.toList = true := by
  unfold hasNl
  have hl : k < s.data.toList.length := by rw [← Lib.size_eq]; exact hk
  rw [List.contains_iff_mem]
  have : s.data.toList[k] = 10 := by rw [byte s k hk hl]; exact UInt8.toNat_inj.1 (show s[k].toNat = 10 by omega)
  rw [← this]; exact List.getElem_mem hl
theorem has_none {s : ByteArray} (h : ∀ j (hj : j < s.size), ¬ (s[j].toNat : Int) = 10) : hasNl s.data.toList = false := by
  unfold hasNl
  rw [← Bool.not_eq_true, List.contains_iff_mem]
  intro hm
  obtain ⟨j, hj, e⟩ := List.getElem_of_mem hm
  have hj' : j < s.size := by rw [Lib.size_eq]; exact hj
  rw [byte s j hj' hj] at e
  exact h j hj' (by rw [e]; rfl)

theorem right_step {xs : List (List UInt8 × Bool)} {k : Nat} (hk : k < xs.length) : P.right (xs.drop k) = (!(hasNl xs[k].1) && !(xs[k].2 && (decide (k + 1 < xs.length) || xs[k].1.isEmpty)) && P.right (xs.drop (k + 1))) := by
  unfold hasNl
  rw [drop_line hk, P.right]
  congr 4
  cases h : (xs.drop (k + 1)).isEmpty with
  | true =>
    have := List.isEmpty_iff.1 h
    have := congrArg List.length this
    simp at this
    rw [decide_eq_false (by omega)]; rfl
  | false =>
    rw [decide_eq_true]; rfl
    have : ¬ xs.drop (k + 1) = [] := fun e => by rw [e] at h; cases h
    rcases Nat.lt_or_ge (k + 1) xs.length with h' | h'
    · exact h'
    · exact absurd (List.drop_eq_nil_of_le h') this
end Go.Proofs.Ytimalohdchhjgaa.T

namespace Go.Proofs.Ytimalohdchhjgaa.T
open Go.RowKit

set_option maxHeartbeats 1000000 in
set_option maxRecDepth 100000 in
theorem same_any (A A' : Option Addr) (cap cap' : Nat) (xs : List (List UInt8 × Bool)) (w : World) (hb : xs.length ≤ maxLen) (hA : LinesIn w A xs) (hA' : LinesIn w A' xs) :
    Calls Try.prog 31 #[.slice A xs.length cap, .slice A' xs.length cap'] w fun e w' => e = .returned (.bool true) ∧ Below w.heap.size w w' := by
  unfold maxLen at hb
  have HA := Lib.hid hA
  have HB := Lib.hid hA'
  clear hA hA'
  have hne : ((xs.length : Int) != (xs.length : Int)) = false := by simp
  go_enter Try.func31, Try.ntmps31
  go_wp2_with fail
  go_loopg [5] xs.length (fun n i wr => ∃ k : Nat, k ≤ xs.length ∧ i = .int .i64 k ∧ xs.length - k ≤ n ∧ ∃ q, wr = w.drewN q)
  case atStart => exact ⟨0, Nat.zero_le _, rfl, by omega, 0, rfl⟩
  case round =>
    obtain ⟨k, hk, rfl, hn, q, rfl⟩ := hrel
    by_cases hlt : k < xs.length
    · obtain ⟨bk, off, hAe, hbk, hL⟩ := HA.out (by omega)
      obtain ⟨bk', off', hAe', hbk', hL'⟩ := HB.out (by omega)
      subst hAe hAe'
      obtain ⟨c0, c1⟩ := hL k hlt
      obtain ⟨d0, d1⟩ := hL' k hlt
      have h0k : (0 : Int) ≤ (k : Int) := Int.natCast_nonneg _
      have h1k : (k : Int) < (xs.length : Int) := by omega
      clear hL hL'
      generalize xs[k].2 = b at *
      generalize xs[k].1 = t at *
      go_wp2_with fail
      go_quiet (fail)
      go_wp2_with fail
      go_roundg (xs.length - (k + 1))
      case measure => omega
      case rel => exact ⟨k + 1, by omega, by go_num, Nat.le_refl _, _, rfl⟩
    · obtain rfl : k = xs.length := by omega
      go_wp2_with fail
      go_ret
      exact ⟨rfl, below_drewN (Below.refl _ _) q⟩

def SameOf (xs : List (List UInt8 × Bool)) : Prop := ∀ (A A' : Option Addr) (cap cap' : Nat) (w : World), LinesIn w A xs → LinesIn w A' xs →
  Calls Try.prog 31 #[.slice A xs.length cap, .slice A' xs.length cap'] w fun e w' => e = .returned (.bool true) ∧ Below w.heap.size w w'
theorem SameOf.call {xs : List (List UInt8 × Bool)} (h : SameOf xs) (A A' : Option Addr) (cap cap' : Nat) (w : World) (hA : LinesIn w A xs) (hA' : LinesIn w A' xs) :
    Calls Try.prog 31 #[.slice A xs.length cap, .slice A' xs.length cap'] w fun e w' => e = .returned (.bool true) ∧ Below w.heap.size w w' := h A A' cap cap' w hA hA'
theorem sameOf (xs : List (List UInt8 × Bool)) (hb : xs.length ≤ maxLen) : SameOf xs := fun A A' cap cap' w hA hA' => same_any A A' cap cap' xs w hb hA hA'
end Go.Proofs.Ytimalohdchhjgaa.T

namespace Go.Proofs.Ytimalohdchhjgaa.P

/-- The digits of a list read on from n, without a bound. -/
def valGo : List UInt8 → Nat → Option Nat
  | [], n => some n
  | c :: r, n => if c.toNat < 48 ∨ 57 < c.toNat then none else valGo r (10 * n + (c.toNat - 48))
/-- Asked at the end. -/
def upTo (o : Option Nat) : Option Nat := o.bind fun m => if 2147483647 < m then none else some m

theorem valGo_ge : ∀ (l : List UInt8) (n m : Nat), valGo l n = some m → n * 10 ^ l.length ≤ m
  | [], n, m, h => by simp [valGo] at h; simp; omega
  | c :: r, n, m, h => by
    rw [valGo] at h
    split at h
    · cases h
    · have := valGo_ge r _ m h
      rw [List.length_cons, Nat.pow_succ]
      have e : (10 * n) * 10 ^ r.length ≤ (10 * n + (c.toNat - 48)) * 10 ^ r.length := Nat.mul_le_mul_right _ (by omega)
      have e2 : n * (10 ^ r.length * 10) = (10 * n) * 10 ^ r.length := by rw [Nat.mul_comm (10 ^ r.length) 10, ← Nat.mul_assoc, Nat.mul_comm n 10]
      omega
theorem valGo_le (l : List UInt8) (n m : Nat) (h : valGo l n = some m) : n ≤ m := by
  have h1 := valGo_ge l n m h
  have h2 : n * 1 ≤ n * 10 ^ l.length := Nat.mul_le_mul_left _ (Nat.pow_pos (by omega))
  omega

theorem numGo_val : ∀ (l : List UInt8) (n : Nat), n ≤ 2147483647 → numGo l n = upTo (valGo l n)
  | [], n, h => by simp [numGo, valGo, upTo]; omega
  | c :: r, n, h => by
    rw [numGo, valGo]
    split
    · rfl
    · split
      · next hb =>
        cases e : valGo r (10 * n + (c.toNat - 48)) with
        | none => rfl
        | some m =>
          have := valGo_le _ _ _ e
          simp [upTo]; omega
      · next hb => exact numGo_val r _ (by omega)

/-- Too long: more than ten digits without a 0 ahead. -/
theorem number_long (l : List UInt8) (h : 10 < l.length) : number l = none := by
  rw [number]
  split
  · rfl
  · next hc =>
    match l, h, hc with
    | c :: r, h, hc =>
      rw [numGo_val _ _ (by omega)]
      cases e : valGo (c :: r) 0 with
      | none => rfl
      | some m =>
        have hne : c ≠ 48 := fun e => hc (.inr ⟨by rw [e]; rfl, by simp at h ⊢; omega⟩)
        rw [valGo] at e
        split at e
        · cases e
        · next hd =>
          have h1 := valGo_ge r _ m e
          have hc48 : c.toNat ≠ 48 := fun e => hne (UInt8.toNat_inj.1 e)
          have h2 : 1 * 10 ^ 10 ≤ (10 * 0 + (c.toNat - 48)) * 10 ^ r.length :=
            Nat.mul_le_mul (by omega) (Nat.pow_le_pow_right (by omega) (by simp at h; omega))
          simp [upTo]; omega
theorem number_val (l : List UInt8) (h0 : l ≠ []) (h : ¬ (1 < l.length ∧ l.head? = some 48)) : number l = upTo (valGo l 0) := by
  rw [number, if_neg (by rintro (e | e); exact h0 e; exact h ⟨e.2, e.1⟩), numGo_val _ _ (by omega)]

theorem numGo_snoc : ∀ (l : List UInt8) (c : UInt8) (n : Nat), numGo (l ++ [c]) n = (numGo l n).bind fun m => numGo [c] m
  | [], c, n => by simp [numGo]
  | x :: r, c, n => by
    rw [List.cons_append, numGo, numGo]
    split
    · rfl
    · split
      · rfl
      · exact numGo_snoc r c _

theorem digit (d : Nat) (h : d < 10) : (UInt8.ofNat (48 + d)).toNat = 48 + d := by
  rw [UInt8.toNat_ofNat']; omega
theorem digit_of (c : UInt8) (h : 48 ≤ c.toNat) (h2 : c.toNat ≤ 57) : UInt8.ofNat (48 + (c.toNat - 48)) = c := by
  rw [show 48 + (c.toNat - 48) = c.toNat by omega]; simp

theorem numGo_dec (u : Nat) (h : u ≤ 2147483647) : numGo (Lib.decDigits u) 0 = some u := by
  induction u using Nat.strongRecOn with
  | ind u ih =>
    rw [Lib.decDigits]
    split
    · next hu => rw [numGo, digit u hu, if_neg (by omega), if_neg (by omega), numGo]; congr 1; omega
    · next hu =>
      rw [numGo_snoc, ih (u / 10) (by omega) (by omega)]
      show numGo [_] (u / 10) = _
      rw [numGo, digit _ (by omega), if_neg (by omega), if_neg (by omega), numGo]
      congr 1; omega
theorem dec_ne (u : Nat) : Lib.decDigits u ≠ [] := by
  rw [Lib.decDigits]; split <;> simp
theorem dec_head (u : Nat) : 1 ≤ u → (Lib.decDigits u).head? ≠ some 48 := by
  induction u using Nat.strongRecOn with
  | ind u ih =>
    intro hu1
    rw [Lib.decDigits]
    split
    · next hu =>
      simp only [List.head?_cons, ne_eq, Option.some.injEq]
      intro e
      have := congrArg UInt8.toNat e
      rw [digit u hu] at this
      simp at this; omega
    · next hu =>
      have hne := dec_ne (u / 10)
      have := ih (u / 10) (by omega) (by omega)
      cases e : Lib.decDigits (u / 10) with
      | nil => exact absurd e hne
      | cons x r => rw [e] at this; simpa using this
theorem number_dec (u : Nat) (h : u ≤ 2147483647) : number (Lib.decDigits u) = some u := by
  rw [number, if_neg, numGo_dec u h]
  rintro (e | ⟨e1, e2⟩)
  · exact dec_ne u e
  · rcases Nat.eq_zero_or_pos u with h0 | h0
    · subst h0; rw [Lib.decDigits_one (by omega)] at e2; simp at e2
    · exact dec_head u h0 e1

theorem numGo_le (l : List UInt8) (n m : Nat) (hn : n ≤ 2147483647) (h : numGo l n = some m) : n ≤ m ∧ m ≤ 2147483647 := by
  rw [numGo_val l n hn] at h
  cases e : valGo l n with
  | none => rw [e] at h; cases h
  | some k =>
    rw [e] at h
    have := valGo_le l n k e
    simp only [upTo, Option.bind_some] at h
    split at h
    · cases h
    · injection h with h; omega

theorem dec_numGo (l : List UInt8) : ∀ n, l ≠ [] → (l.head? = some 48 → l.length = 1) → numGo l 0 = some n → Lib.decDigits n = l := by
  induction hl : l.length generalizing l with
  | zero => intro n h; exact absurd (List.eq_nil_of_length_eq_zero hl) h
  | succ k ih =>
    intro n hne hz h
    obtain ⟨i, c, rfl⟩ : ∃ i c, l = i ++ [c] := ⟨l.dropLast, l.getLast hne, (List.dropLast_concat_getLast hne).symm⟩
    rw [numGo_snoc] at h
    cases em : numGo i 0 with
    | none => rw [em] at h; cases h
    | some m =>
      rw [em] at h
      simp only [Option.bind_some, numGo] at h
      split at h
      · cases h
      · next hd =>
        split at h
        · cases h
        · next hb =>
          injection h with h
          subst h
          by_cases hi : i = []
          · subst hi
            simp only [numGo, Option.some.injEq] at em
            subst em
            rw [Lib.decDigits_one (by omega), show 48 + (10 * 0 + (c.toNat - 48)) = 48 + (c.toNat - 48) by omega, digit_of c (by omega) (by omega)]
            rfl
          · have hih := ih i (by simp at hl; omega) m hi (fun e => by
              have : (i ++ [c]).head? = some 48 := by
                cases i with
                | nil => exact absurd rfl hi
                | cons x r => simpa using e
              have := hz this
              have hik : i.length = k := by simp at hl; omega
              exact absurd (List.eq_nil_of_length_eq_zero (by omega)) hi) em
            have hm : 1 ≤ m := by
              rcases Nat.eq_zero_or_pos m with h0 | h0
              · subst h0
                rw [Lib.decDigits_one (by omega)] at hih
                have : (i ++ [c]).head? = some 48 := by rw [← hih]; rfl
                have := hz this
                have hik : i.length = k := by simp at hl; omega
                exact absurd (List.eq_nil_of_length_eq_zero (by omega)) hi
              · exact h0
            rw [Lib.decDigits, dif_neg (by omega), show (10 * m + (c.toNat - 48)) / 10 = m by omega, show (10 * m + (c.toNat - 48)) % 10 = c.toNat - 48 by omega, hih, digit_of c (by omega) (by omega)]
theorem dec_number (l : List UInt8) (n : Nat) (h : number l = some n) : Lib.decDigits n = l ∧ n ≤ 2147483647 := by
  rw [number] at h
  split at h
  · cases h
  · next hc =>
    refine ⟨dec_numGo l n (fun e => hc (.inl e)) (fun e => ?_) h, (numGo_le l 0 n (by omega) h).2⟩
    have : ¬ 1 < l.length := fun e2 => hc (.inr ⟨e, e2⟩)
    cases l with
    | nil => simp at e
    | cons x r => simp at this ⊢; omega

theorem decimal_in (n : Int) (h0 : 0 ≤ n) (h1 : n ≤ 2147483647) : decimal n = Lib.decDigits n.toNat := by rw [decimal, if_neg (by omega)]
theorem decimal_out (n : Int) (h : n < 0 ∨ 2147483647 < n) : decimal n = [63] := by rw [decimal, if_pos h]
theorem number_decimal (n : Int) (h0 : 0 ≤ n) (h1 : n ≤ 2147483647) : number (decimal n) = some n.toNat := by
  rw [decimal_in n h0 h1, number_dec _ (by omega)]
theorem number_untold (n : Int) (h : n < 0 ∨ 2147483647 < n) : number (decimal n) = none := by
  rw [decimal_out n h]; decide
theorem decimal_number (l : List UInt8) (n : Nat) (h : number l = some n) : decimal n = l := by
  have := dec_number l n h
  rw [decimal_in n (by omega) (by omega)]
  simpa using this.1
theorem decimal_length (n : Int) : (decimal n).length ≤ 10 := by
  by_cases h : n < 0 ∨ 2147483647 < n
  · rw [decimal_out n h]; decide
  · rw [decimal_in n (by omega) (by omega)]
    rcases Nat.lt_or_ge 10 (Lib.decDigits n.toNat).length with hl | hl
    · have := number_long _ hl
      rw [number_dec _ (by omega)] at this
      cases this
    · exact hl
end Go.Proofs.Ytimalohdchhjgaa.P

namespace Go.Proofs.Ytimalohdchhjgaa.T
open Go.RowKit

theorem list_data (l : List UInt8) : (⟨l.toArray⟩ : ByteArray).data.toList = l := by simp
theorem list_size (l : List UInt8) : (⟨l.toArray⟩ : ByteArray).size = l.length := by simp [ByteArray.size]
theorem str_eta (s : ByteArray) : (⟨s.data.toList.toArray⟩ : ByteArray) = s := by cases s; simp

end Go.Proofs.Ytimalohdchhjgaa.T

namespace Go.Proofs.Ytimalohdchhjgaa.T
open Go.RowKit

/-- May a text be a name? -/
theorem name_long (s : ByteArray) (h : s.size < 1 ∨ 64 < s.size) : P.name s.data.toList = false := by
  unfold P.name; rw [← Lib.size_eq]
  rcases h with h | h
  · rw [decide_eq_false (by omega)]; rfl
  · rw [decide_eq_false (p := s.size ≤ 64) (by omega), Bool.and_false]; rfl
theorem name_all (s : ByteArray) (h1 : 1 ≤ s.size) (h2 : s.size ≤ 64) : P.name s.data.toList = s.data.toList.all fun c => decide (33 ≤ c.toNat) && decide (c.toNat ≤ 126) := by
  unfold P.name; rw [← Lib.size_eq, decide_eq_true h1, decide_eq_true h2]; rfl
theorem all_bad (s : ByteArray) (k : Nat) (hk : k < s.size) (h : (s[k].toNat : Int) < 33 ∨ 126 < (s[k].toNat : Int)) : (s.data.toList.all fun c => decide (33 ≤ c.toNat) && decide (c.toNat ≤ 126)) = false := by
  have hl : k < s.data.toList.length := by rw [← Lib.size_eq]; exact hk
  rw [List.all_eq_false]
  refine ⟨s.data.toList[k], List.getElem_mem hl, ?_⟩
  rw [byte s k hk hl]
  simp only [Bool.and_eq_true, decide_eq_true_eq, not_and]
  omega

end Go.Proofs.Ytimalohdchhjgaa.T

namespace Go.Proofs.Ytimalohdchhjgaa.T
open Go.RowKit

theorem val_bad (s : ByteArray) (k n : Nat) (hk : k < s.size) (h : (s[k].toNat : Int) < 48 ∨ 57 < (s[k].toNat : Int)) : P.valGo (s.data.toList.drop k) n = none := by
  have hl : k < s.data.toList.length := by rw [← Lib.size_eq]; exact hk
  rw [List.drop_eq_getElem_cons hl, P.valGo, if_pos (by rw [byte s k hk hl]; omega)]
theorem val_on (s : ByteArray) (k n : Nat) (hk : k < s.size) (h1 : 48 ≤ (s[k].toNat : Int)) (h2 : (s[k].toNat : Int) ≤ 57) :
    P.valGo (s.data.toList.drop k) n = P.valGo (s.data.toList.drop (k + 1)) (10 * n + (s[k].toNat - 48)) := by
  have hl : k < s.data.toList.length := by rw [← Lib.size_eq]; exact hk
  have e := byte s k hk hl
  rw [List.drop_eq_getElem_cons hl, P.valGo, if_neg (by rw [e]; omega), e]
theorem val_end (s : ByteArray) (n : Nat) : P.valGo (s.data.toList.drop s.size) n = some n := by
  rw [Lib.size_eq, List.drop_length, P.valGo]
theorem pow_bound {n d k : Nat} (h : n < 10 ^ k) (hd : d < 10) (hk : k < 10) : 10 * n + d < 10 ^ (k + 1) ∧ 10 * n + d ≤ 9999999999 := by
  have h1 : 10 * n + d < 10 ^ (k + 1) := by rw [Nat.pow_succ]; omega
  have h2 : 10 ^ (k + 1) ≤ 10 ^ 10 := Nat.pow_le_pow_right (by omega) (by omega)
  omega
theorem number_val (s : ByteArray) (h : 0 < s.size) (h0 : s.size ≤ 1 ∨ ¬ s[0].toNat = 48) : P.number s.data.toList = P.upTo (P.valGo s.data.toList 0) := by
  rw [number_go s h (by rcases h0 with h0 | h0; exact .inl (by omega); exact .inr h0), P.numGo_val _ _ (by omega)]
theorem upTo_none : P.upTo none = none := rfl
theorem upTo_big (n : Nat) (h : 2147483647 < n) : P.upTo (some n) = none := by simp [P.upTo, h]
theorem upTo_in (n : Nat) (h : n ≤ 2147483647) : P.upTo (some n) = some n := by simp [P.upTo]; omega

end Go.Proofs.Ytimalohdchhjgaa.T

namespace Go.Proofs.Ytimalohdchhjgaa.T
open Go.RowKit

theorem bcell {W w1 : World} (hb : Below W.heap.size W w1) (b o : Nat) (h : b < W.heap.size) : w1.cell? ⟨b, o, none⟩ = W.cell? ⟨b, o, none⟩ := hb.cell (p := ⟨b, o, none⟩) h
theorem dec_small (m : Nat) (h : m < 10) : Lib.decDigits m = [UInt8.ofNat (48 + m)] := Lib.decDigits_one h
theorem dec_big (m : Nat) (h : ¬ m < 10) : Lib.decDigits m = Lib.decDigits (m / 10) ++ [UInt8.ofNat (48 + m % 10)] := by
  conv => lhs; rw [Lib.decDigits, dif_neg h]
theorem str_append (l r : List UInt8) : (⟨l.toArray⟩ : ByteArray) ++ ⟨r.toArray⟩ = ⟨(l ++ r).toArray⟩ := by
  apply ByteArray.ext
  simp

end Go.Proofs.Ytimalohdchhjgaa.T

namespace Go.Proofs.Ytimalohdchhjgaa.T
open Go.RowKit

theorem lines_nl {l cur : List UInt8} {k : Nat} (hk : k < l.length) (h : l[k].toNat = 10) : P.lines cur (l.drop k) = (cur, false) :: P.lines [] (l.drop (k + 1)) := by
  rw [List.drop_eq_getElem_cons hk, P.lines, if_pos (UInt8.toNat_inj.1 h)]
theorem lines_more {l cur : List UInt8} {k : Nat} (hk : k < l.length) (h : ¬ l[k].toNat = 10) : P.lines cur (l.drop k) = P.lines (cur ++ [l[k]]) (l.drop (k + 1)) := by
  rw [List.drop_eq_getElem_cons hk, P.lines, if_neg (fun e => h (by rw [e]; rfl))]

end Go.Proofs.Ytimalohdchhjgaa.T

namespace Go.Proofs.Ytimalohdchhjgaa.T
open Go.RowKit

end Go.Proofs.Ytimalohdchhjgaa.T

namespace Go.Proofs.Ytimalohdchhjgaa.V
set_option linter.unusedVariables false
set_option linter.unusedSimpArgs false
open Go.RowKit
open T
open I (It Lb ItemsIn ItemsAt ItemsOk itCells itCells_snoc itCells_at items_cells own_at own_below alloc1)

def VoEnd (W : World) (ls : List (List UInt8 × Bool)) (ts : List Int) (e : Ending) (w' : World) : Prop :=
  ∃ LA lcap TA tcap, e = .returned (.agg #[.slice LA ls.length lcap, .slice TA ts.length tcap]) ∧ w'.ownsRow W.heap.size 51 2 (.slice LA ls.length lcap) ls.length (lineCells ls) ∧ w'.ownsRow W.heap.size 3 1 (.slice TA ts.length tcap) ts.length (numCells ts) ∧ Below W.heap.size W w'
theorem lines_own {w : World} {base : Nat} {A : Option Addr} {cap : Nat} {xs : List (List UInt8 × Bool)} (h : w.ownsRow base 51 2 (.slice A xs.length cap) xs.length (lineCells xs)) : LinesIn w A xs := by
  obtain ⟨A', cap', hv, _, hI⟩ := lines_of_own h
  injection hv with e1
  subst e1
  exact hI
/-- A row of a call's own stays when a cell of a block of another type is stored. -/
theorem own_stored {w : World} {base g i : Nat} {u : Value} {e e' : TypeId} {size n : Nat} {v : Value} {xs : List Value} {cs : Array Value} (h : w.ownsRow base e size v n xs) (hg : w.heap[g]? = some (.cells cs e' (0, 0))) (hne : e' ≠ e) : (w.setCell ⟨g, i, none⟩ u).ownsRow base e size v n xs :=
  h.kept (grown_set w ⟨g, i, none⟩ u) (own_ne h fun cs' he => by rw [hg] at he; injection he with he; injection he with _ he; exact hne he)
/-- Of: a view of these lines and places. -/
def VoC (fn : FuncId) (A : Option Addr) (n cap : Nat) (f0 : Int) (f1 : Nat) (hx : ByteArray) (l : List It) (ls : List (List UInt8 × Bool)) (ts : List Int) : Prop :=
  ∀ W : World, ItemsIn W A l → Calls Try.prog fn #[.slice A n cap, .agg #[.int .i64 f0, .int .u64 (f1 : Int)], .string hx] W (VoEnd W ls ts)
theorem VoC.at {fn : FuncId} {A : Option Addr} {n cap : Nat} {f0 : Int} {f1 : Nat} {hx : ByteArray} {l : List It} {ls : List (List UInt8 × Bool)} {ts : List Int} (h : VoC fn A n cap f0 f1 hx l ls ts) (W : World) (h1 : ItemsIn W A l) :
    Calls Try.prog fn #[.slice A n cap, .agg #[.int .i64 f0, .int .u64 (f1 : Int)], .string hx] W (VoEnd W ls ts) := h W h1
def LvC (fn : FuncId) : Prop := ∀ W : World, Calls Try.prog fn #[] W fun e w' => e = .returned (.bool true) ∧ Below W.heap.size W w'
theorem LvC.at {fn : FuncId} (h : LvC fn) (W : World) : Calls Try.prog fn #[] W fun e w' => e = .returned (.bool true) ∧ Below W.heap.size W w' := h W
/-- same, of two views of the same lines and places. -/
def SvC (fn : FuncId) (ls : List (List UInt8 × Bool)) (ts : List Int) : Prop := ∀ (W : World) (LA TA LB TB : Option Addr) (lc tc lc' tc' : Nat), LinesIn W LA ls → IntsIn W TA ts → LinesIn W LB ls → IntsIn W TB ts →
  Calls Try.prog fn #[.agg #[.slice LA ls.length lc, .slice TA ts.length tc], .agg #[.slice LB ls.length lc', .slice TB ts.length tc']] W fun e w' => e = .returned (.bool true) ∧ Below W.heap.size W w'
theorem SvC.at {fn : FuncId} {ls : List (List UInt8 × Bool)} {ts : List Int} (h : SvC fn ls ts) (W : World) {LA TA LB TB : Option Addr} {lc tc lc' tc' : Nat} (h1 : LinesIn W LA ls) (h2 : IntsIn W TA ts) (h3 : LinesIn W LB ls) (h4 : IntsIn W TB ts) :
  Calls Try.prog fn #[.agg #[.slice LA ls.length lc, .slice TA ts.length tc], .agg #[.slice LB ls.length lc', .slice TB ts.length tc']] W fun e w' => e = .returned (.bool true) ∧ Below W.heap.size W w' := h W LA TA LB TB lc tc lc' tc' h1 h2 h3 h4
def BsEnd (W : World) (b : List UInt8) (e : Ending) (w' : World) : Prop := ∃ A cap, e = .returned (.slice A b.length cap) ∧ BytesIn w' A b ∧ Below W.heap.size W w'
/-- Text, of a view. -/
def TxC (fn : FuncId) (ls : List (List UInt8 × Bool)) (b : List UInt8) : Prop := ∀ (W : World) (LA TA : Option Addr) (lc tn tc : Nat), LinesIn W LA ls → Calls Try.prog fn #[.agg #[.slice LA ls.length lc, .slice TA tn tc]] W (BsEnd W b)
theorem TxC.at {fn : FuncId} {ls : List (List UInt8 × Bool)} {b : List UInt8} (h : TxC fn ls b) (W : World) {LA TA : Option Addr} {lc tn tc : Nat} (h1 : LinesIn W LA ls) : Calls Try.prog fn #[.agg #[.slice LA ls.length lc, .slice TA tn tc]] W (BsEnd W b) := h W LA TA lc tn tc h1
/-- Join, of lines. -/
def JnC (fn : FuncId) (ls : List (List UInt8 × Bool)) (b : List UInt8) : Prop := ∀ (W : World) (LA : Option Addr) (lc : Nat), LinesIn W LA ls → Calls Try.prog fn #[.slice LA ls.length lc] W (BsEnd W b)
theorem JnC.at {fn : FuncId} {ls : List (List UInt8 × Bool)} {b : List UInt8} (h : JnC fn ls b) (W : World) {LA : Option Addr} {lc : Nat} (h1 : LinesIn W LA ls) : Calls Try.prog fn #[.slice LA ls.length lc] W (BsEnd W b) := h W LA lc h1
def NsEnd (W : World) (ds : List Int) (e : Ending) (w' : World) : Prop := ∃ A cap, e = .returned (.slice A ds.length cap) ∧ IntsIn w' A ds ∧ Below W.heap.size W w'
/-- IDs, of a view. -/
def IdC (fn : FuncId) (A : Option Addr) (n cap : Nat) (l : List It) (ts ds : List Int) : Prop := ∀ (W : World) (LA TA : Option Addr) (ln lc tc : Nat), ItemsIn W A l → IntsIn W TA ts → Calls Try.prog fn #[.slice A n cap, .agg #[.slice LA ln lc, .slice TA ts.length tc]] W (NsEnd W ds)
theorem IdC.at {fn : FuncId} {A : Option Addr} {n cap : Nat} {l : List It} {ts ds : List Int} (h : IdC fn A n cap l ts ds) (W : World) {LA TA : Option Addr} {ln lc tc : Nat} (h1 : ItemsIn W A l) (h2 : IntsIn W TA ts) :
    Calls Try.prog fn #[.slice A n cap, .agg #[.slice LA ln lc, .slice TA ts.length tc]] W (NsEnd W ds) := h W LA TA ln lc tc h1 h2
/-- Ints, of the same numbers. -/
def InC (fn : FuncId) (ds : List Int) : Prop := ∀ (W : World) (A B : Option Addr) (c c' : Nat), IntsIn W A ds → IntsIn W B ds → Calls Try.prog fn #[.slice A ds.length c, .slice B ds.length c'] W fun e w' => e = .returned (.bool true) ∧ Below W.heap.size W w'
theorem InC.at {fn : FuncId} {ds : List Int} (h : InC fn ds) (W : World) {A B : Option Addr} {c c' : Nat} (h1 : IntsIn W A ds) (h2 : IntsIn W B ds) : Calls Try.prog fn #[.slice A ds.length c, .slice B ds.length c'] W fun e w' => e = .returned (.bool true) ∧ Below W.heap.size W w' := h W A B c c' h1 h2
def IsEnd (W : World) (c : List It) (e : Ending) (w' : World) : Prop := ∃ A cap, e = .returned (.slice A c.length cap) ∧ ItemsIn w' A c ∧ Below W.heap.size W w'
/-- Cut. -/
def CuC (fn : FuncId) (A : Option Addr) (n cap : Nat) (f0 : Int) (f1 : Nat) (l c : List It) : Prop := ∀ W : World, ItemsIn W A l → Calls Try.prog fn #[.slice A n cap, .agg #[.int .i64 f0, .int .u64 (f1 : Int)]] W (IsEnd W c)
theorem CuC.at {fn : FuncId} {A : Option Addr} {n cap : Nat} {f0 : Int} {f1 : Nat} {l c : List It} (h : CuC fn A n cap f0 f1 l c) (W : World) (h1 : ItemsIn W A l) : Calls Try.prog fn #[.slice A n cap, .agg #[.int .i64 f0, .int .u64 (f1 : Int)]] W (IsEnd W c) := h W h1
/-- sameItems, of the same items. -/
def SiC (fn : FuncId) (ds : List It) : Prop := ∀ (W : World) (A B : Option Addr) (c c' : Nat), ItemsIn W A ds → ItemsIn W B ds → Calls Try.prog fn #[.slice A ds.length c, .slice B ds.length c'] W fun e w' => e = .returned (.bool true) ∧ Below W.heap.size W w'
theorem SiC.at {fn : FuncId} {ds : List It} (h : SiC fn ds) (W : World) {A B : Option Addr} {c c' : Nat} (h1 : ItemsIn W A ds) (h2 : ItemsIn W B ds) : Calls Try.prog fn #[.slice A ds.length c, .slice B ds.length c'] W fun e w' => e = .returned (.bool true) ∧ Below W.heap.size W w' := h W A B c c' h1 h2

/-- sameItems, of any items. -/
def SgC (fn : FuncId) (xs ys : List It) (b : Bool) : Prop := ∀ (W : World) (A B : Option Addr) (c c' : Nat), ItemsIn W A xs → ItemsIn W B ys → Calls Try.prog fn #[.slice A xs.length c, .slice B ys.length c'] W fun e w' => e = .returned (.bool b) ∧ Below W.heap.size W w'
theorem SgC.at {fn : FuncId} {xs ys : List It} {b : Bool} (h : SgC fn xs ys b) (W : World) {A B : Option Addr} {c c' : Nat} (h1 : ItemsIn W A xs) (h2 : ItemsIn W B ys) : Calls Try.prog fn #[.slice A xs.length c, .slice B ys.length c'] W fun e w' => e = .returned (.bool b) ∧ Below W.heap.size W w' := h W A B c c' h1 h2
/-- The first place that is n, counted from a number on. -/
def fnd (n : Int) : Nat → List Int → Option Nat
  | _, [] => none
  | k, x :: r => if x = n then some k else fnd n (k + 1) r
def fndK (o : Option Nat) : Int := match o with | some i => (i : Int) | none => 0
theorem fnd_drop {n : Int} {ts : List Int} {j : Nat} (hj : j < ts.length) : fnd n j (ts.drop j) = if ts[j] = n then some j else fnd n (j + 1) (ts.drop (j + 1)) := by
  rw [List.drop_eq_getElem_cons hj, fnd]
/-- Is i no place where an item can be put in? -/
def aftNo (ts : List Int) (n : Int) : Bool := decide (n < 0) || decide ((ts.length : Int) < n) || (decide (0 < n) && (decide (ts.getD (n - 1).toNat 0 < 0) || decide (1073741824 ≤ ts.getD (n - 1).toNat 0)))
/-- Where an item is put in ahead of line n, and an error. -/
def aftK (ts : List Int) (n : Int) : Int := if aftNo ts n = true then 0 else if 0 < n then ts.getD (n - 1).toNat 0 + 1 else 0
def aftE (ts : List Int) (n : Int) : Int := if aftNo ts n = true then 2 else 0
def FdC (fn : FuncId) (ts : List Int) (n k : Int) (b : Bool) : Prop := ∀ (W : World) (LA TA : Option Addr) (ln lc tc : Nat), IntsIn W TA ts → Calls Try.prog fn #[.agg #[.slice LA ln lc, .slice TA ts.length tc], .int .i64 n] W fun e w' => e = .returned (.tuple #[.int .i64 k, .bool b]) ∧ Below W.heap.size W w'
theorem FdC.at {fn : FuncId} {ts : List Int} {n k : Int} {b : Bool} (h : FdC fn ts n k b) (W : World) {LA TA : Option Addr} {ln lc tc : Nat} (h1 : IntsIn W TA ts) : Calls Try.prog fn #[.agg #[.slice LA ln lc, .slice TA ts.length tc], .int .i64 n] W fun e w' => e = .returned (.tuple #[.int .i64 k, .bool b]) ∧ Below W.heap.size W w' := h W LA TA ln lc tc h1
def AfC (fn : FuncId) (ts : List Int) (n k r : Int) : Prop := ∀ (W : World) (LA TA : Option Addr) (ln lc tc : Nat), IntsIn W TA ts → Calls Try.prog fn #[.agg #[.slice LA ln lc, .slice TA ts.length tc], .int .i64 n] W fun e w' => e = .returned (.tuple #[.int .i64 k, .int .i64 r]) ∧ Below W.heap.size W w'
theorem AfC.at {fn : FuncId} {ts : List Int} {n k r : Int} (h : AfC fn ts n k r) (W : World) {LA TA : Option Addr} {ln lc tc : Nat} (h1 : IntsIn W TA ts) : Calls Try.prog fn #[.agg #[.slice LA ln lc, .slice TA ts.length tc], .int .i64 n] W fun e w' => e = .returned (.tuple #[.int .i64 k, .int .i64 r]) ∧ Below W.heap.size W w' := h W LA TA ln lc tc h1
def SlC (ls : List (List UInt8 × Bool)) : Prop := ∀ (W : World) (A B : Option Addr) (c c' : Nat), LinesIn W A ls → LinesIn W B ls → Calls Try.prog 31 #[.slice A ls.length c, .slice B ls.length c'] W fun e w' => e = .returned (.bool true) ∧ Below W.heap.size W w'
theorem SlC.at {ls : List (List UInt8 × Bool)} (h : SlC ls) (W : World) {A B : Option Addr} {c c' : Nat} (h1 : LinesIn W A ls) (h2 : LinesIn W B ls) : Calls Try.prog 31 #[.slice A ls.length c, .slice B ls.length c'] W fun e w' => e = .returned (.bool true) ∧ Below W.heap.size W w' := h W A B c c' h1 h2

end Go.Proofs.Ytimalohdchhjgaa.V

namespace Go.Proofs.Ytimalohdchhjgaa.V
set_option linter.unusedVariables false
set_option linter.unusedSimpArgs false
open Go.RowKit Go.Shelf
open T
open I (It Lb ItemsIn ItemsAt ItemsOk itCells itCells_snoc itCells_at items_cells own_at own_below alloc1)
attribute [local go_sem] Oper.semAt_some

/-- The items that are seen, with their places. -/
def prs (o : Lb) : Nat → List It → List (Nat × It)
  | _, [] => []
  | k, x :: r => if sees o x = true then (k, x) :: prs o (k + 1) r else prs o (k + 1) r
theorem prs_snoc (o : Lb) (x : It) : ∀ (l : List It) (k : Nat), prs o k (l ++ [x]) = prs o k l ++ (if sees o x = true then [(k + l.length, x)] else [])
  | [], k => by simp [prs]
  | y :: r, k => by
    rw [List.cons_append, prs, prs, prs_snoc o x r (k + 1), List.length_cons, show k + 1 + r.length = k + (r.length + 1) by omega]
    split <;> rfl
theorem prs_take {o : Lb} {l : List It} {k : Nat} (hk : k < l.length) : prs o 0 (l.take (k + 1)) = prs o 0 (l.take k) ++ (if sees o l[k] = true then [(k, l[k])] else []) := by
  rw [List.take_succ_eq_append_getElem hk, prs_snoc, Nat.zero_add, List.length_take, Nat.min_eq_left (by omega)]
theorem prs_le (o : Lb) : ∀ (l : List It) (k : Nat), (prs o k l).length ≤ l.length
  | [], _ => Nat.le_refl _
  | x :: r, k => by
    rw [prs]
    have := prs_le o r (k + 1)
    split <;> simp <;> omega
def itV (x : It) : Value := .agg #[.int .i64 x.id, .int .i64 x.lv, .int .u64 (x.ct : Int), .bool x.an, .string ⟨x.tx.toArray⟩, .bool x.ba]
/-- What lies below n₀ stays, and the blocks from za on, below zb. -/
def KpZ (n₀ za zb : Nat) (W W' : World) : Prop := Below n₀ W W' ∧ ∀ k, za ≤ k → k < zb → W'.heap[k]? = W.heap[k]?
theorem KpZ.t {n₀ za zb : Nat} {A B C : World} (h : KpZ n₀ za zb A B) (k : KpZ n₀ za zb B C) : KpZ n₀ za zb A C := ⟨h.1.trans k.1, fun i h1 h2 => (k.2 i h1 h2).trans (h.2 i h1 h2)⟩
theorem KpZ.b {n₀ za zb : Nat} {w : World} (hn : n₀ ≤ w.heap.size) (hz : zb ≤ w.heap.size) (W : World) (l : Nat) (o o' : Obj) (hl : w.heap.size ≤ l) (h : W.heap[l]? = some o) (h1 : o.isCells = false) (h2 : o.isWalk = false) : KpZ n₀ za zb W (W.putObj l o') :=
  ⟨belowK_b hn W l o o' hl h h1 h2, fun k _ hk => by
    have := (belowK_b (n₀ := w.heap.size) (Nat.le_refl _) W l o o' hl h h1 h2).block k (by omega)
    exact this⟩
theorem KpZ.of {n₀ za zb : Nat} {W W' : World} (h : Below W.heap.size W W') (hn : n₀ ≤ W.heap.size) (hz : zb ≤ W.heap.size) : KpZ n₀ za zb W W' := ⟨h.mono hn, fun k _ hk => h.block k (by omega)⟩
theorem KpZ.refl (n₀ za zb : Nat) (W : World) : KpZ n₀ za zb W W := ⟨Below.refl _ _, fun _ _ _ => rfl⟩
end Go.Proofs.Ytimalohdchhjgaa.V

namespace Go.Proofs.Ytimalohdchhjgaa.V
set_option linter.unusedVariables false
set_option linter.unusedSimpArgs false
open Go.RowKit Go.Shelf
open T
open I (It Lb ItemsIn ItemsAt ItemsOk itCells itCells_snoc itCells_at items_cells own_at own_below alloc1)
attribute [local go_sem] Oper.semAt_some

theorem prs_cut (o : Lb) : ∀ (l : List It) (k : Nat), (prs o k l).map (·.2) = cut o l
  | [], _ => rfl
  | x :: r, k => by
    rw [prs]
    by_cases hx : sees o x = true
    · rw [if_pos hx, List.map_cons, prs_cut o r (k + 1)]; simp [cut, hx]
    · rw [if_neg hx, prs_cut o r (k + 1)]; simp [cut, hx]
/-- Behind an append whose row is stored into a box ahead of it: what lies below n₀ stays, and the blocks from za on, below zb. -/
theorem appendedZ {W w1 : World} {n₀ za zb r₀ B : Nat} {t e : TypeId} {size : Nat} {v v' : Value} {k m : Nat} {xs ys : List Value} {tmp : Obj}
    (hv : Boxed W B t v) (hte : t ≠ e) (hrow : W.ownsRow r₀ e size v k xs) (hr₀ : r₀ ≤ W.heap.size) (hB : n₀ ≤ B) (hBz : B < za) (hnr : n₀ ≤ r₀) (hzr : zb ≤ r₀)
    (hown' : w1.ownsRow r₀ e size v' m ys) (hgrow : (W.alloc tmp).grownBy w1 v.ownBlock) :
    Boxed w1 B t v ∧ Boxed (w1.setCell ⟨B, 0, none⟩ v') B t v' ∧ (w1.setCell ⟨B, 0, none⟩ v').ownsRow r₀ e size v' m ys ∧ KeepsOthers W (w1.setCell ⟨B, 0, none⟩ v') ∧ KpZ n₀ za zb W (w1.setCell ⟨B, 0, none⟩ v') := by
  have hv1 : Boxed w1 B t v := (hv.alloc tmp).kept hgrow (hv.not_row hte hrow)
  obtain ⟨-, h2, -, h4, -⟩ := hv.appended hte (own_more hrow (Nat.zero_le r₀)) (Nat.zero_le _) (Nat.zero_le _) (own_more hown' (Nat.zero_le r₀)) hgrow
  have hblk : ∀ i, i < W.heap.size → i < r₀ → i ≠ B → (w1.setCell ⟨B, 0, none⟩ v').heap[i]? = W.heap[i]? := fun i hi hr hne => by
    rw [L.blk_far (g := i) (g' := B) hne v', hgrow.block i (by simp; omega) (fun e' => by have := own_base hrow i e'.symm; omega)]
    exact (alloc1 W tmp).block i hi
  refine ⟨hv1, h2, hown'.kept (grown_set w1 ⟨B, 0, none⟩ v') (own_ne hown' fun cs he => ?_), h4, ⟨?_, fun i h1 h2 => hblk i (by omega) (by omega) (by omega)⟩⟩
  · rw [show w1.heap[B]? = _ from hv1] at he
    injection he with he; injection he with _ he; exact hte he
  · refine (((Below.refl n₀ W).alloc (by omega) tmp).grown hgrow (by simp; omega) fun j ej => ?_).setCell (p := ⟨B, 0, none⟩) hB v'
    have := own_base hrow j ej
    omega
theorem boxed_le {W W' : World} {n : Nat} (h : n ≤ W.heap.size) {row : Option Nat} (hg : W.grownBy W' row) : n ≤ W'.heap.size := Nat.le_trans h hg.size
end Go.Proofs.Ytimalohdchhjgaa.V

namespace Go.Proofs.Ytimalohdchhjgaa.V
set_option linter.unusedVariables false
set_option linter.unusedSimpArgs false

def notDefer (o : Oper) : Bool := match o.op with
  | .defer _ => false
  | _ => true
theorem notDefer_out {o : Oper} (h : notDefer o = true) : ∀ c, o.op ≠ .defer c := fun c e => by
  unfold notDefer at h
  rw [e] at h
  cases h
theorem rows_round {n l : Nat} {P : Program} {row : String} {args : Array Value} {w : World} {R : Value → World → Prop} (h : Rows P row args w R) : RowsIn (Fence.wide.inRound l) n P row args w R := by
  intro c cs _
  obtain ⟨v, w', hR, hs⟩ := h c cs
  exact ⟨v, w', hR, stepsIn_wide.2 hs⟩
theorem op_round {n l : Nat} {P : Program} {o : Oper} {a : Act} {w : World} {K : Act → World → Prop} {Q : Exit → Act → World → Prop} (hd : notDefer o = true) (h : o.wp P a w K Q) : o.wpIn (Fence.wide.inRound l) n P a w K Q := by
  unfold Oper.wpIn
  refine ⟨fun _ _ => trivial, ?_⟩
  rw [Oper.semAt_plain _ _ _ (notDefer_out hd)]
  unfold Oper.wp at h
  generalize (execOp a.eval o).run P w = r at *
  cases r with
  | ok x w' =>
    cases x <;> simp only [Oper.upon, Oper.uponIn] at h ⊢
    case value u => exact h
    case skip => exact h
    case defer d => exact h
    case enter f args => exact ⟨fun h => by simp [Fence.wide] at h, callsIn_wide.2 h⟩
    case row row args => exact ⟨fun h => by simp [Fence.wide] at h, rows_round h⟩
  | halt x w' =>
    cases x <;> simp only [Oper.upon, Oper.uponIn] at h ⊢
    case panic u => exact h
theorem any_round {n l : Nat} {P : Program} {md : Region.Mode} {ops : Array Oper} {Q : Exit → Act → World → Prop} (hd : ops.all notDefer = true) (hq : ¬ LetsOut Q) :
    ∀ (fuel : Nat) (listed : Array Bool) (a : Act) (w : World), wpAny P md ops Q fuel listed a w → wpAnyIn (Fence.wide.inRound l) n P md ops Q fuel listed a w
  | 0, _, _, _, h => h
  | fuel + 1, listed, a, w, h => ⟨h.1, fun i hi => by
    have h2 := h.2 i hi
    unfold wpOp at h2
    unfold wpOpIn
    cases ho : ops[i]? with
    | none => rw [ho] at h2; exact any_round hd hq fuel _ _ _ h2
    | some o =>
      rw [ho] at h2
      simp only at h2 ⊢
      split
      · rename_i hw
        simp only [hw, if_true] at h2
        rcases h2 with h2 | h2
        · exact Oper.wpIn_mono (fun a' w' h' => any_round hd hq fuel _ _ _ h') (op_round (Array.all_eq_true'.1 hd o (Array.mem_of_getElem? ho)) h2)
        · exact absurd h2.2 hq
      · rename_i hw
        simp only [hw] at h2
        exact ⟨fun _ _ => trivial, any_round hd hq fuel _ _ _ h2⟩⟩
/-- A region of a round that draws its order, as one outside of it. -/
theorem region_round {n l id : Nat} {P : Program} {ops : Array Oper} {Q : Exit → Act → World → Prop} {a : Act} {w : World} (S : World → Prop) (hm : P.follows .mixedOrders = true) (hd : ops.all notDefer = true) (hq : ¬ LetsOut Q) (hS : S w.drew)
    (h : S w.drew → wpAnyH P .any ops Q S ops.size (Array.replicate ops.size false) a w.drew) : (Code.region id ops true).wpIn (Fence.wide.inRound l) n P Q a w :=
  wpIn_region_any hm (any_round hd hq _ _ _ _ (wpAny_of_held _ _ _ _ (h hS)))
end Go.Proofs.Ytimalohdchhjgaa.V

namespace Go.Proofs.Ytimalohdchhjgaa.V
set_option linter.unusedVariables false
set_option linter.unusedSimpArgs false
open Go.RowKit Go.Shelf
open T
open I (It Lb ItemsIn ItemsAt ItemsOk itCells itCells_snoc itCells_at items_cells own_at own_below alloc1)
attribute [local go_sem] Oper.semAt_some

def lastBa (pre : List (Nat × It)) : Bool := (pre.getLast?.map (·.2.ba)).getD false
theorem lastBa_snoc (pre : List (Nat × It)) (x : Nat × It) : lastBa (pre ++ [x]) = x.2.ba := by simp [lastBa]
theorem blk_grown {W W' : World} {row : Option Nat} {i : Nat} {o : Obj} (h : W.heap[i]? = some o) (hg : W.grownBy W' row) (hr : row ≠ some i) : W'.heap[i]? = some o := (hg.block i (L.blk_lt h) (fun e => hr e.symm)).trans h
theorem row_cells {W : World} {row : Option Nat} {i : Nat} {cs : Array Value} {t : TypeId} {f : Nat × Nat} (h : W.heap[i]? = some (.cells cs t f)) (hr : ∀ r, row = some r → ∃ o : Obj, W.heap[r]? = some o ∧ o.isCells = false) : row ≠ some i := fun e => by
  obtain ⟨o, ho, hc⟩ := hr i e
  rw [h] at ho; cases ho; cases hc
theorem own_walk {W W' : World} {row : Option Nat} {base : Nat} {e : TypeId} {size n : Nat} {v : Value} {xs : List Value} (h : W.ownsRow base e size v n xs) (hg : W.grownBy W' row) (hr : ∀ r, row = some r → ∃ o : Obj, W.heap[r]? = some o ∧ o.isCells = false) : W'.ownsRow base e size v n xs := by
  refine h.kept hg ?_
  rcases h.2 with ⟨rfl, _⟩ | ⟨g, cap, cur, rfl, _, hgb, _⟩
  · exact .inl rfl
  · exact .inr fun e' => row_cells hgb hr e'.symm
section
variable {b : Nat} {hx : ByteArray} {ub tb vl : Value} {nl : Nat} {ls : List (List UInt8 × Bool)} {vt : Value} {nt : Nat} {ts : List Int} {bb : Bool} {W W' : World}
/-- A row is in no block of another type. -/
theorem own_type {base : Nat} {e t : TypeId} {size n g : Nat} {v : Value} {xs : List Value} {cs : Array Value} {f : Nat × Nat} (h : W.ownsRow base e size v n xs) (hg : W.heap[g]? = some (.cells cs t f)) (hne : t ≠ e) : v.ownBlock ≠ some g := by
  rcases h.2 with ⟨rfl, _⟩ | ⟨g', cap, cur, rfl, _, hgb, _⟩
  · simp [Value.ownBlock]
  · intro e'
    simp only [Value.ownBlock, Option.some.injEq] at e'
    subst e'
    rw [hg] at hgb
    injection hgb with e1
    injection e1 with _ e2
    exact hne e2
theorem own_apart2 {base base' : Nat} {e e' : TypeId} {size size' n n' : Nat} {v v' : Value} {xs xs' : List Value} (h : W.ownsRow base e size v n xs) (h' : W.ownsRow base' e' size' v' n' xs') (hne : e' ≠ e) : v'.ownBlock = none ∨ v'.ownBlock ≠ v.ownBlock := by
  rcases h'.2 with ⟨rfl, _⟩ | ⟨g', cap, cur, rfl, _, hgb, _⟩
  · exact .inl rfl
  · exact .inr fun e1 => own_type h hgb hne e1.symm
/-- What a round keeps. -/
def Kf (b : Nat) (A W : World) : Prop := (KeepsOthers A W ∧ KpZ b (b + 5) (b + 7) A W) ∧ b + 7 ≤ W.heap.size
theorem Kf.below {A : World} (h : Kf b A W) (hb : Below W.heap.size W W') : Kf b A W' :=
  ⟨⟨h.1.1.trans (KeepsOthers.of_grownBy (grown_of hb none) (fun j o e => by cases e)), h.1.2.t (KpZ.of hb (by have := h.2; omega) h.2)⟩, Nat.le_trans h.2 hb.size⟩
theorem Kf.grown {A : World} {e : TypeId} {size n r : Nat} {v : Value} {xs : List Value} (h : Kf b A W) (ho : W.ownsRow r e size v n xs) (hr : b + 7 ≤ r) (hg : W.grownBy W' v.ownBlock) : Kf b A W' := by
  have hf : ∀ j, v.ownBlock = some j → b + 7 ≤ j := fun j ej => by have := own_base ho j ej; omega
  refine ⟨⟨h.1.1.trans (KeepsOthers.of_grownBy hg (fun j o e ho' => ?_)), h.1.2.t ⟨(Below.refl b W).grown hg (by have := h.2; omega) (fun j ej => by have := hf j ej; omega), fun k h1 h2 => hg.block k (by have := h.2; omega) (fun ej => by have := hf k ej.symm; omega)⟩⟩, Nat.le_trans h.2 hg.size⟩
  rcases ho.2 with ⟨rfl, _⟩ | ⟨g', cap, cur, rfl, _, hgb, _⟩
  · cases e
  · simp only [Value.ownBlock, Option.some.injEq] at e
    subst e
    rw [hgb] at ho'; cases ho'; rfl
theorem Kf.setc {A : World} {p : Addr} (h : Kf b A W) (hp : b ≤ p.block) (hp' : p.block < b + 5) (u : Value) : Kf b A (W.setCell p u) :=
  ⟨⟨h.1.1.trans (KeepsOthers.setCell _ _ _), h.1.2.t ⟨(Below.refl b W).setCell hp u, fun k h1 h2 => Below.heap_setCell W p u k (by omega)⟩⟩, by have := h.2; simpa using this⟩
theorem Kf.set {A : World} {i : Nat} (h : Kf b A W) (u : Value) : Kf b A (W.setCell ⟨b + 1 + 1 + 1, i, none⟩ u) := h.setc (p := ⟨b + 1 + 1 + 1, i, none⟩) (by show b ≤ b + 1 + 1 + 1; omega) (by show b + 1 + 1 + 1 < b + 5; omega) u
end
theorem alloc_old {w : World} {i : Nat} {x : Obj} (o : Obj) (h : w.heap[i]? = some x) : (w.alloc o).heap[i]? = some x := by rw [Below.heap_alloc _ _ _ (L.blk_lt h)]; exact h
theorem alloc_at {w : World} {n : Nat} (o : Obj) (h : w.heap.size = n) : (w.alloc o).heap[n]? = some o := by subst h; exact heap_alloc_new w o
theorem seven (w : World) (o0 o1 o2 o3 o4 o5 o6 : Obj) : ∃ W : World, W = ((((((w.alloc o0).alloc o1).alloc o2).alloc o3).alloc o4).alloc o5).alloc o6 ∧ W.heap[w.heap.size + 1]? = some o1 ∧ W.heap[w.heap.size + 2]? = some o2 ∧ W.heap[w.heap.size + 3]? = some o3 ∧ W.heap[w.heap.size + 4]? = some o4 ∧ W.heap[w.heap.size + 5]? = some o5 ∧ W.heap[w.heap.size + 6]? = some o6 ∧ Below w.heap.size w W ∧ W.heap.size = w.heap.size + 7 := by
  refine ⟨_, rfl, ?_, ?_, ?_, ?_, ?_, ?_, ?_, ?_⟩
  · exact alloc_old _ (alloc_old _ (alloc_old _ (alloc_old _ (alloc_old _ (alloc_at _ (by simp))))))
  · exact alloc_old _ (alloc_old _ (alloc_old _ (alloc_old _ (alloc_at _ (by simp)))))
  · exact alloc_old _ (alloc_old _ (alloc_old _ (alloc_at _ (by simp))))
  · exact alloc_old _ (alloc_old _ (alloc_at _ (by simp)))
  · exact alloc_old _ (alloc_at _ (by simp))
  · exact alloc_at _ (by simp)
  · exact ((((((alloc1 _ _).alloc (by simp) _).alloc (by simp; omega) _).alloc (by simp; omega) _).alloc (by simp; omega) _).alloc (by simp; omega) _).alloc (by simp; omega) _
  · simp

theorem nil_or_snoc {α : Type} (l : List α) : l = [] ∨ ∃ p x, l = p ++ [x] := by
  rcases List.eq_nil_or_concat l with h | ⟨p, x, h⟩
  · exact .inl h
  · exact .inr ⟨p, x, by simpa using h⟩
theorem prs_ats (o : Lb) : ∀ (l : List It) (k : Nat), (prs o k l).map (·.1) = ats o k l
  | [], _ => rfl
  | x :: r, k => by
    rw [prs, ats]
    split
    · rw [List.map_cons, prs_ats o r (k + 1)]
    · exact prs_ats o r (k + 1)
theorem prs_atI (o : Lb) (l : List It) : (prs o 0 l).map (fun p => (p.1 : Int)) = atI o l := by
  rw [atI, ← prs_ats, List.map_map]; rfl
/-- A row of at least one element, its block. -/
theorem own_cells {W : World} {base : Nat} {e : TypeId} {size n : Nat} {v : Value} {xs : List Value} (h : W.ownsRow base e size v n xs) (hn : 0 < n) : ∃ g cap cur, v = .slice (some ⟨g, 0, none⟩) n cap ∧ base ≤ g ∧ W.heap[g]? = some (.cells cur e (0, 0)) ∧ n ≤ cap ∧ cap ≤ maxLen ∧ cur.size = cap * size ∧ cur.toList.take (n * size) = xs := by
  rcases h.2 with ⟨_, h0⟩ | h
  · omega
  · exact h
/-- A cell of a row of one's own is stored. -/
theorem own_put {W : World} {base g j : Nat} {e : TypeId} {size n cap : Nat} {xs : List Value} {u : Value} (h : W.ownsRow base e size (.slice (some ⟨g, 0, none⟩) n cap) n xs) (hj : j < n * size) : (W.setCell ⟨g, j, none⟩ u).ownsRow base e size (.slice (some ⟨g, 0, none⟩) n cap) n (xs.set j u) := by
  refine ⟨by rw [List.length_set]; exact h.1, .inr ?_⟩
  rcases h.2 with ⟨h0, _⟩ | ⟨g', cap', cur, hv, hb, hg, h1, h2, h3, h4⟩
  · cases h0
  · cases hv
    exact ⟨g, cap, cur.setIfInBounds j u, rfl, hb, L.blk_set hg j u, h1, h2, by simpa using h3, by rw [Array.toList_setIfInBounds, List.take_set, h4]⟩
end Go.Proofs.Ytimalohdchhjgaa.V

namespace Go.Proofs.Ytimalohdchhjgaa.N
set_option linter.unusedVariables false
set_option linter.unusedSimpArgs false
open Go.RowKit
open T
open V (grown_of IntsIn numCells numCells_snoc ints_own drawn_below own_put own_cells own_type own_apart2)
open I (alloc1 own_at own_below)

def asI (cs : List (Int × Nat)) : List (Int × Int) := cs.map fun p => (p.1, (p.2 : Int))
theorem asI_snoc (cs : List (Int × Nat)) (p : Int × Nat) : asI (cs ++ [p]) = asI cs ++ [(p.1, (p.2 : Int))] := by simp [asI]
theorem asI_length (cs : List (Int × Nat)) : (asI cs).length = cs.length := by simp [asI]
/-- What a walk through ordered numbers holds: of those ahead of place i. -/
theorem Cn.le {l : List Int} {cs : List (Int × Nat)} (h : Cn l cs) : cs.length ≤ tot cs := by
  have : ∀ ds : List (Int × Nat), (∀ p ∈ ds, 0 < p.2) → ds.length ≤ tot ds := fun ds => by
    induction ds with
    | nil => intro _; exact Nat.le_refl _
    | cons p r ih =>
      intro hp
      have h1 := ih (fun q hq => hp q (by simp [hq]))
      have h2 := hp p (by simp)
      simp only [tot, List.map_cons, List.sum_cons, List.length_cons] at h1 ⊢
      omega
  exact this cs fun p hp => by
    rw [(h.mem p hp).2]
    exact List.count_pos_iff.2 (h.mem p hp).1
structure CnI (s : List Int) (i : Nat) (cs : List (Int × Nat)) : Prop where
  cn : Cn (s.take i) cs
  tot : tot cs = i
  last : ∀ j (hj : j < s.length), j + 1 = i → ∃ c0 c, cs = c0 ++ [(s[j], c)]
theorem CnI.start (s : List Int) : CnI s 0 [] := ⟨by rw [List.take_zero]; exact Cn.nil, rfl, fun j _ e => by omega⟩
theorem CnI.new {s : List Int} {i : Nat} {cs : List (Int × Nat)} (h : CnI s i cs) (hs : s.Pairwise (· ≤ ·)) (hi : i < s.length) (hn : ∀ j (hj : j < s.length), j + 1 = i → ¬ s[j] = s[i]) : CnI s (i + 1) (cs ++ [(s[i], 1)]) := by
  refine ⟨?_, by rw [tot_snoc, h.tot], fun j hj e => ⟨cs, 1, by have e' : j = i := (by omega); subst e'; rfl⟩⟩
  rw [List.take_succ_eq_append_getElem hi]
  refine h.cn.new fun x hx => ?_
  obtain ⟨q, hq, rfl⟩ := List.mem_iff_getElem.1 hx
  simp only [List.length_take] at hq
  rw [List.getElem_take]
  have h1 : s[i - 1] ≤ s[i] := List.pairwise_iff_getElem.1 hs (i - 1) i (by omega) hi (by omega)
  have h2 := hn (i - 1) (by omega) (by omega)
  have h3 : s[q] ≤ s[i - 1] := by
    by_cases e : q = i - 1
    · subst e; exact Int.le_refl _
    · exact List.pairwise_iff_getElem.1 hs q (i - 1) (by omega) (by omega) (by omega)
  omega
theorem CnI.again {s : List Int} {i : Nat} {c0 : List (Int × Nat)} {c : Nat} (hi : i < s.length) (h : CnI s i (c0 ++ [(s[i], c)])) : CnI s (i + 1) (c0 ++ [(s[i], c + 1)]) := by
  refine ⟨?_, by have := h.tot; rw [tot_snoc] at this ⊢; simp only at this ⊢; omega, fun j hj e => ⟨c0, c + 1, by have e' : j = i := (by omega); subst e'; rfl⟩⟩
  rw [List.take_succ_eq_append_getElem hi]
  exact h.cn.again
/-- How often each number of a row is there. -/
def CnR (l : List Int) (ps : List (Int × Int)) : Prop := ∃ cs, ps = asI cs ∧ Cn l cs ∧ tot cs = l.length

end Go.Proofs.Ytimalohdchhjgaa.N

namespace Go.Proofs.Ytimalohdchhjgaa.N
set_option linter.unusedVariables false
set_option linter.unusedSimpArgs false
open Go.RowKit
open T
open V (grown_of IntsIn numCells numCells_snoc ints_own drawn_below)
open I (alloc1 own_at own_below)

theorem count_take {l : List Int} {n : Int} {k : Nat} (hk : k < l.length) : (l.take (k + 1)).count n = (l.take k).count n + if l[k] = n then 1 else 0 := by
  rw [List.take_succ_eq_append_getElem hk, List.count_append, List.count_singleton]
  simp
theorem count_le (l : List Int) (n : Int) (k : Nat) : (l.take k).count n ≤ l.length := Nat.le_trans List.count_le_length (by rw [List.length_take]; omega)
/-- Pairs in memory, to be read. -/
def PrIn (w : World) (A : Option Addr) (ps : List (Int × Int)) : Prop :=
  0 < ps.length → ∃ bk off, A = some ⟨bk, off, none⟩ ∧ bk < w.heap.size ∧ ∀ j (h : j < ps.length), w.cell? ⟨bk, off + j * 2, none⟩ = some (.int .i64 ps[j].1) ∧ w.cell? ⟨bk, off + j * 2 + 1, none⟩ = some (.int .i64 ps[j].2)
theorem PrIn.below {w w' : World} {A : Option Addr} {ps : List (Int × Int)} (h : PrIn w A ps) (hb : Below w.heap.size w w') : PrIn w' A ps := fun hp => by
  obtain ⟨bk, off, e, hlt, hl⟩ := h hp
  exact ⟨bk, off, e, Nat.lt_of_lt_of_le hlt hb.size, fun j hj => ⟨(hb.cell (p := ⟨bk, off + j * 2, none⟩) hlt).trans (hl j hj).1, (hb.cell (p := ⟨bk, off + j * 2 + 1, none⟩) hlt).trans (hl j hj).2⟩⟩
theorem prCells_at : ∀ (ps : List (Int × Int)) (j : Nat) (h : j < ps.length), (prCells ps)[j * 2]? = some (.int .i64 ps[j].1) ∧ (prCells ps)[j * 2 + 1]? = some (.int .i64 ps[j].2)
  | [], j, h => by simp at h
  | p :: r, 0, _ => ⟨rfl, rfl⟩
  | p :: r, j + 1, h => by
    have := prCells_at r j (by simpa using h)
    rw [show (j + 1) * 2 = j * 2 + 2 by omega, show j * 2 + 2 + 1 = j * 2 + 1 + 2 by omega]
    exact this
end Go.Proofs.Ytimalohdchhjgaa.N

namespace Go.Proofs.Ytimalohdchhjgaa.M
set_option linter.unusedVariables false
set_option linter.unusedSimpArgs false
open Go.RowKit
open T
open V (IntsIn numCells numCells_snoc ints_own drawn_below)
open I (alloc1 own_at own_below)
open N (prCells prCells_snoc prCells_length PrIn)

/-- A call that tells true, and keeps what there was. -/
def Lv (fn : FuncId) : Prop := ∀ w : World, Calls Try.prog fn #[] w fun e w' => e = .returned (.bool true) ∧ Below w.heap.size w w'
theorem Lv.at {fn : FuncId} (h : Lv fn) (w : World) : Calls Try.prog fn #[] w fun e w' => e = .returned (.bool true) ∧ Below w.heap.size w w' := h w
theorem ints_of_block {w : World} {g : Nat} {cs : Array Value} {xs : List Int} (h : w.heap[g]? = some (.cells cs 3 (0, 0))) (hc : cs.toList = numCells xs) : IntsIn w (some ⟨g, 0, none⟩) xs := by
  have : Row w g xs := by unfold Row; rw [h, ← hc]
  exact this.ints
theorem way1 : way [1, 2, 3] [2, 4] = [2, 1, 2, 3] := by simp [way, ed]
theorem way2 : pairs [1, 2] [2] = [(1, 0)] := by simp [pairs, way, ed, told, prs]
theorem way3 : ed [1] [] = 1 := by simp [ed]
theorem two (w : World) (o0 o1 : Obj) : ∃ W : World, W = (w.alloc o0).alloc o1 ∧ W.heap[w.heap.size]? = some o0 ∧ W.heap[w.heap.size + 1]? = some o1 ∧ Below w.heap.size w W := by
  refine ⟨_, rfl, ?_, alloc_at _ (by simp), ((alloc1 _ _).alloc (by simp) _)⟩
  exact ((alloc1 (w.alloc o0) o1).block _ (by simp)).trans (alloc_at _ rfl)
theorem st_cells {w : World} {base : Nat} {A : Option Addr} {cap : Nat} {s : List Int} (h : w.ownsRow base 45 1 (.slice A s.length cap) s.length (numCells s)) (hp : 0 < s.length) :
    ∃ g, A = some ⟨g, 0, none⟩ ∧ base ≤ g ∧ g < w.heap.size ∧ ∀ j (hj : j < s.length), w.cell? ⟨g, j, none⟩ = some (.int .i64 s[j]) := by
  obtain ⟨g, hA, hg, hlt, hc⟩ := own_at h hp
  exact ⟨g, hA, hg, hlt, fun j hj => hc j _ (by simp [numCells, List.getElem?_eq_getElem hj])⟩

theorem ints_take {w : World} {A : Option Addr} {a : List Int} (h : IntsIn w A a) (k : Nat) : IntsIn w A (a.take k) := fun hp => by
  obtain ⟨bk, off, rfl, hlt, hI⟩ := h (by rw [List.length_take] at hp; omega)
  refine ⟨bk, off, rfl, hlt, fun j hj => ?_⟩
  rw [List.getElem_take]
  exact hI j (by rw [List.length_take] at hj; omega)
end Go.Proofs.Ytimalohdchhjgaa.M
