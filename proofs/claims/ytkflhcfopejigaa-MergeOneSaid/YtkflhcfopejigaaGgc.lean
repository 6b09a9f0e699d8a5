/-
  A range over the items that are seen, with their places: the iterator's contract.
  The contract of view's Cut.
  A region of a loop's body over a function, walked as a region of any other code: without its fence.
  The contract of view's Of.
  The contract of intern's Counts.
  The contracts of the reference's count and Same.
  How often each number is there, by putting in: in plain words.
  What is there once in both rows, in plain words.
  The contract of intern's spots: how often a number is in a row, and where last.
  The contract of intern's spots, walked.
  The contract of the reference's Counts.
  The contract of intern's Once.
  Pairs of places, in plain words: which ones are a match, the other way round, where a place is, behind two of them, and the gaps.
-/
import Derived.RangeFuncNested
import Derived.RangeFuncBox
import Derived.RangeFuncBound
import Derived.RangeFuncCalls
import Derived.RangeFuncLeaves
import Derived.Shelf.Abstract
import Derived.Shelf.RegionOpen
import Derived.WalkKit
import Derived.OwnWalkIn
import Derived.TacticsInMore
import Derived.LoopNIn
import Derived.LoopIn
import Derived.Maps.AppendAt
import Derived.Test.YtkflhcfopejigaaGgb
import Derived.Deep.RegionHeld
import Derived.Lib.Hide
import Derived.Deep.AppendLies
import Derived.BigQuiet
import Derived.Maps.OwnSet
import Derived.Maps.Views
import Derived.Deep.RegionLaw
namespace Go.Proofs.Ytkflhcfopejigaa.V
set_option linter.unusedVariables false
set_option linter.unusedSimpArgs false
open Go.RowKit Go.Shelf
open T
open I (It Lb ItemsIn ItemsAt ItemsOk itCells itCells_snoc itCells_at items_cells own_at own_below alloc1)
attribute [local go_sem] Oper.semAt_some

/-- The items that are seen, with their places. -/
def prs (o : Lb) : Nat → List It → List (Nat × It)
  | _, [] => []
  | k, x :: r => if sees o x = true then (k, x) :: prs o (k + 1) r else prs o (k + 1) r
theorem prs_snoc (o : Lb) (x : It) : ∀ (l : List It) (k : Nat), prs o k (l ++ [x]) = prs o k l ++ (if sees o x = true then [(k + l.length, x)] else [])
  | [], k => by simp [prs]
  | y :: r, k => by
    rw [List.cons_append, prs, prs, prs_snoc o x r (k + 1), List.length_cons, show k + 1 + r.length = k + (r.length + 1) by omega]
    split <;> rfl
theorem prs_take {o : Lb} {l : List It} {k : Nat} (hk : k < l.length) : prs o 0 (l.take (k + 1)) = prs o 0 (l.take k) ++ (if sees o l[k] = true then [(k, l[k])] else []) := by
  rw [List.take_succ_eq_append_getElem hk, prs_snoc, Nat.zero_add, List.length_take, Nat.min_eq_left (by omega)]
theorem prs_le (o : Lb) : ∀ (l : List It) (k : Nat), (prs o k l).length ≤ l.length
  | [], _ => Nat.le_refl _
  | x :: r, k => by
    rw [prs]
    have := prs_le o r (k + 1)
    split <;> simp <;> omega
def itV (x : It) : Value := .agg #[.int .i64 x.id, .int .i64 x.lv, .int .u64 (x.ct : Int), .bool x.an, .string ⟨x.tx.toArray⟩, .bool x.ba]
/-- What lies below n₀ stays, and the blocks from za on, below zb. -/
def KpZ (n₀ za zb : Nat) (W W' : World) : Prop := Below n₀ W W' ∧ ∀ k, za ≤ k → k < zb → W'.heap[k]? = W.heap[k]?
theorem KpZ.t {n₀ za zb : Nat} {A B C : World} (h : KpZ n₀ za zb A B) (k : KpZ n₀ za zb B C) : KpZ n₀ za zb A C := ⟨h.1.trans k.1, fun i h1 h2 => (k.2 i h1 h2).trans (h.2 i h1 h2)⟩
theorem KpZ.b {n₀ za zb : Nat} {w : World} (hn : n₀ ≤ w.heap.size) (hz : zb ≤ w.heap.size) (W : World) (l : Nat) (o o' : Obj) (hl : w.heap.size ≤ l) (h : W.heap[l]? = some o) (h1 : o.isCells = false) (h2 : o.isWalk = false) : KpZ n₀ za zb W (W.putObj l o') :=
  ⟨belowK_b hn W l o o' hl h h1 h2, fun k _ hk => by
    have := (belowK_b (n₀ := w.heap.size) (Nat.le_refl _) W l o o' hl h h1 h2).block k (by omega)
    exact this⟩
theorem KpZ.of {n₀ za zb : Nat} {W W' : World} (h : Below W.heap.size W W') (hn : n₀ ≤ W.heap.size) (hz : zb ≤ W.heap.size) : KpZ n₀ za zb W W' := ⟨h.mono hn, fun k _ hk => h.block k (by omega)⟩
theorem KpZ.refl (n₀ za zb : Nat) (W : World) : KpZ n₀ za zb W W := ⟨Below.refl _ _, fun _ _ _ => rfl⟩
end Go.Proofs.Ytkflhcfopejigaa.V

namespace Go.Proofs.Ytkflhcfopejigaa.V
set_option linter.unusedVariables false
set_option linter.unusedSimpArgs false
open Go.RowKit Go.Shelf
open T
open I (It Lb ItemsIn ItemsAt ItemsOk itCells itCells_snoc itCells_at items_cells own_at own_below alloc1)
attribute [local go_sem] Oper.semAt_some

theorem prs_cut (o : Lb) : ∀ (l : List It) (k : Nat), (prs o k l).map (·.2) = cut o l
  | [], _ => rfl
  | x :: r, k => by
    rw [prs]
    by_cases hx : sees o x = true
    · rw [if_pos hx, List.map_cons, prs_cut o r (k + 1)]; simp [cut, hx]
    · rw [if_neg hx, prs_cut o r (k + 1)]; simp [cut, hx]
/-- Behind an append whose row is stored into a box ahead of it: what lies below n₀ stays, and the blocks from za on, below zb. -/
theorem appendedZ {W w1 : World} {n₀ za zb r₀ B : Nat} {t e : TypeId} {size : Nat} {v v' : Value} {k m : Nat} {xs ys : List Value} {tmp : Obj}
    (hv : Boxed W B t v) (hte : t ≠ e) (hrow : W.ownsRow r₀ e size v k xs) (hr₀ : r₀ ≤ W.heap.size) (hB : n₀ ≤ B) (hBz : B < za) (hnr : n₀ ≤ r₀) (hzr : zb ≤ r₀)
    (hown' : w1.ownsRow r₀ e size v' m ys) (hgrow : (W.alloc tmp).grownBy w1 v.ownBlock) :
    Boxed w1 B t v ∧ Boxed (w1.setCell ⟨B, 0, none⟩ v') B t v' ∧ (w1.setCell ⟨B, 0, none⟩ v').ownsRow r₀ e size v' m ys ∧ KeepsOthers W (w1.setCell ⟨B, 0, none⟩ v') ∧ KpZ n₀ za zb W (w1.setCell ⟨B, 0, none⟩ v') := by
  have hv1 : Boxed w1 B t v := (hv.alloc tmp).kept hgrow (hv.not_row hte hrow)
  obtain ⟨-, h2, -, h4, -⟩ := hv.appended hte (own_more hrow (Nat.zero_le r₀)) (Nat.zero_le _) (Nat.zero_le _) (own_more hown' (Nat.zero_le r₀)) hgrow
  have hblk : ∀ i, i < W.heap.size → i < r₀ → i ≠ B → (w1.setCell ⟨B, 0, none⟩ v').heap[i]? = W.heap[i]? := fun i hi hr hne => by
    rw [L.blk_far (g := i) (g' := B) hne v', hgrow.block i (by simp; omega) (fun e' => by have := own_base hrow i e'.symm; omega)]
    exact (alloc1 W tmp).block i hi
  refine ⟨hv1, h2, hown'.kept (grown_set w1 ⟨B, 0, none⟩ v') (own_ne hown' fun cs he => ?_), h4, ⟨?_, fun i h1 h2 => hblk i (by omega) (by omega) (by omega)⟩⟩
  · rw [show w1.heap[B]? = _ from hv1] at he
    injection he with he; injection he with _ he; exact hte he
  · refine (((Below.refl n₀ W).alloc (by omega) tmp).grown hgrow (by simp; omega) fun j ej => ?_).setCell (p := ⟨B, 0, none⟩) hB v'
    have := own_base hrow j ej
    omega
theorem boxed_le {W W' : World} {n : Nat} (h : n ≤ W.heap.size) {row : Option Nat} (hg : W.grownBy W' row) : n ≤ W'.heap.size := Nat.le_trans h hg.size
end Go.Proofs.Ytkflhcfopejigaa.V

namespace Go.Proofs.Ytkflhcfopejigaa.V
set_option linter.unusedVariables false
set_option linter.unusedSimpArgs false

def notDefer (o : Oper) : Bool := match o.op with
  | .defer _ => false
  | _ => true
theorem notDefer_out {o : Oper} (h : notDefer o = true) : ∀ c, o.op ≠ .defer c := fun c e => by
  unfold notDefer at h
  rw [e] at h
  cases h
theorem rows_round {n l : Nat} {P : Program} {row : String} {args : Array Value} {w : World} {R : Value → World → Prop} (h : Rows P row args w R) : RowsIn (Fence.wide.inRound l) n P row args w R := by
  intro c cs _
  obtain ⟨v, w', hR, hs⟩ := h c cs
  exact ⟨v, w', hR, stepsIn_wide.2 hs⟩
theorem op_round {n l : Nat} {P : Program} {o : Oper} {a : Act} {w : World} {K : Act → World → Prop} {Q : Exit → Act → World → Prop} (hd : notDefer o = true) (h : o.wp P a w K Q) : o.wpIn (Fence.wide.inRound l) n P a w K Q := by
  unfold Oper.wpIn
  refine ⟨fun _ _ => trivial, ?_⟩
  rw [Oper.semAt_plain _ _ _ (notDefer_out hd)]
  unfold Oper.wp at h
  generalize (execOp a.eval o).run P w = r at *
  cases r with
  | ok x w' =>
    cases x <;> simp only [Oper.upon, Oper.uponIn] at h ⊢
    case value u => exact h
    case skip => exact h
    case defer d => exact h
    case enter f args => exact ⟨fun h => by simp [Fence.wide] at h, callsIn_wide.2 h⟩
    case row row args => exact ⟨fun h => by simp [Fence.wide] at h, rows_round h⟩
  | halt x w' =>
    cases x <;> simp only [Oper.upon, Oper.uponIn] at h ⊢
    case panic u => exact h
theorem any_round {n l : Nat} {P : Program} {md : Region.Mode} {ops : Array Oper} {Q : Exit → Act → World → Prop} (hd : ops.all notDefer = true) (hq : ¬ LetsOut Q) :
    ∀ (fuel : Nat) (listed : Array Bool) (a : Act) (w : World), wpAny P md ops Q fuel listed a w → wpAnyIn (Fence.wide.inRound l) n P md ops Q fuel listed a w
  | 0, _, _, _, h => h
  | fuel + 1, listed, a, w, h => ⟨h.1, fun i hi => by
    have h2 := h.2 i hi
    unfold wpOp at h2
    unfold wpOpIn
    cases ho : ops[i]? with
    | none => rw [ho] at h2; exact any_round hd hq fuel _ _ _ h2
    | some o =>
      rw [ho] at h2
      simp only at h2 ⊢
      split
      · rename_i hw
        simp only [hw, if_true] at h2
        rcases h2 with h2 | h2
        · exact Oper.wpIn_mono (fun a' w' h' => any_round hd hq fuel _ _ _ h') (op_round (Array.all_eq_true'.1 hd o (Array.mem_of_getElem? ho)) h2)
        · exact absurd h2.2 hq
      · rename_i hw
        simp only [hw] at h2
        exact ⟨fun _ _ => trivial, any_round hd hq fuel _ _ _ h2⟩⟩
/-- A region of a round that draws its order, as one outside of it. -/
theorem region_round {n l id : Nat} {P : Program} {ops : Array Oper} {Q : Exit → Act → World → Prop} {a : Act} {w : World} (S : World → Prop) (hm : P.follows .mixedOrders = true) (hd : ops.all notDefer = true) (hq : ¬ LetsOut Q) (hS : S w.drew)
    (h : S w.drew → wpAnyH P .any ops Q S ops.size (Array.replicate ops.size false) a w.drew) : (Code.region id ops true).wpIn (Fence.wide.inRound l) n P Q a w :=
  wpIn_region_any hm (any_round hd hq _ _ _ _ (wpAny_of_held _ _ _ _ (h hS)))
end Go.Proofs.Ytkflhcfopejigaa.V

namespace Go.Proofs.Ytkflhcfopejigaa.V
set_option linter.unusedVariables false
set_option linter.unusedSimpArgs false
open Go.RowKit Go.Shelf
open T
open I (It Lb ItemsIn ItemsAt ItemsOk itCells itCells_snoc itCells_at items_cells own_at own_below alloc1)
attribute [local go_sem] Oper.semAt_some

def lastBa (pre : List (Nat × It)) : Bool := (pre.getLast?.map (·.2.ba)).getD false
theorem lastBa_snoc (pre : List (Nat × It)) (x : Nat × It) : lastBa (pre ++ [x]) = x.2.ba := by simp [lastBa]
theorem blk_grown {W W' : World} {row : Option Nat} {i : Nat} {o : Obj} (h : W.heap[i]? = some o) (hg : W.grownBy W' row) (hr : row ≠ some i) : W'.heap[i]? = some o := (hg.block i (L.blk_lt h) (fun e => hr e.symm)).trans h
theorem row_cells {W : World} {row : Option Nat} {i : Nat} {cs : Array Value} {t : TypeId} {f : Nat × Nat} (h : W.heap[i]? = some (.cells cs t f)) (hr : ∀ r, row = some r → ∃ o : Obj, W.heap[r]? = some o ∧ o.isCells = false) : row ≠ some i := fun e => by
  obtain ⟨o, ho, hc⟩ := hr i e
  rw [h] at ho; cases ho; cases hc
theorem own_walk {W W' : World} {row : Option Nat} {base : Nat} {e : TypeId} {size n : Nat} {v : Value} {xs : List Value} (h : W.ownsRow base e size v n xs) (hg : W.grownBy W' row) (hr : ∀ r, row = some r → ∃ o : Obj, W.heap[r]? = some o ∧ o.isCells = false) : W'.ownsRow base e size v n xs := by
  refine h.kept hg ?_
  rcases h.2 with ⟨rfl, _⟩ | ⟨g, cap, cur, rfl, _, hgb, _⟩
  · exact .inl rfl
  · exact .inr fun e' => row_cells hgb hr e'.symm
section
variable {b : Nat} {hx : ByteArray} {ub tb vl : Value} {nl : Nat} {ls : List (List UInt8 × Bool)} {vt : Value} {nt : Nat} {ts : List Int} {bb : Bool} {W W' : World}
/-- A row is in no block of another type. -/
theorem own_type {base : Nat} {e t : TypeId} {size n g : Nat} {v : Value} {xs : List Value} {cs : Array Value} {f : Nat × Nat} (h : W.ownsRow base e size v n xs) (hg : W.heap[g]? = some (.cells cs t f)) (hne : t ≠ e) : v.ownBlock ≠ some g := by
  rcases h.2 with ⟨rfl, _⟩ | ⟨g', cap, cur, rfl, _, hgb, _⟩
  · simp [Value.ownBlock]
  · intro e'
    simp only [Value.ownBlock, Option.some.injEq] at e'
    subst e'
    rw [hg] at hgb
    injection hgb with e1
    injection e1 with _ e2
    exact hne e2
theorem own_apart2 {base base' : Nat} {e e' : TypeId} {size size' n n' : Nat} {v v' : Value} {xs xs' : List Value} (h : W.ownsRow base e size v n xs) (h' : W.ownsRow base' e' size' v' n' xs') (hne : e' ≠ e) : v'.ownBlock = none ∨ v'.ownBlock ≠ v.ownBlock := by
  rcases h'.2 with ⟨rfl, _⟩ | ⟨g', cap, cur, rfl, _, hgb, _⟩
  · exact .inl rfl
  · exact .inr fun e1 => own_type h hgb hne e1.symm
/-- What a round keeps. -/
def Kf (b : Nat) (A W : World) : Prop := (KeepsOthers A W ∧ KpZ b (b + 5) (b + 7) A W) ∧ b + 7 ≤ W.heap.size
theorem Kf.below {A : World} (h : Kf b A W) (hb : Below W.heap.size W W') : Kf b A W' :=
  ⟨⟨h.1.1.trans (KeepsOthers.of_grownBy (grown_of hb none) (fun j o e => by cases e)), h.1.2.t (KpZ.of hb (by have := h.2; omega) h.2)⟩, Nat.le_trans h.2 hb.size⟩
theorem Kf.grown {A : World} {e : TypeId} {size n r : Nat} {v : Value} {xs : List Value} (h : Kf b A W) (ho : W.ownsRow r e size v n xs) (hr : b + 7 ≤ r) (hg : W.grownBy W' v.ownBlock) : Kf b A W' := by
  have hf : ∀ j, v.ownBlock = some j → b + 7 ≤ j := fun j ej => by have := own_base ho j ej; omega
  refine ⟨⟨h.1.1.trans (KeepsOthers.of_grownBy hg (fun j o e ho' => ?_)), h.1.2.t ⟨(Below.refl b W).grown hg (by have := h.2; omega) (fun j ej => by have := hf j ej; omega), fun k h1 h2 => hg.block k (by have := h.2; omega) (fun ej => by have := hf k ej.symm; omega)⟩⟩, Nat.le_trans h.2 hg.size⟩
  rcases ho.2 with ⟨rfl, _⟩ | ⟨g', cap, cur, rfl, _, hgb, _⟩
  · cases e
  · simp only [Value.ownBlock, Option.some.injEq] at e
    subst e
    rw [hgb] at ho'; cases ho'; rfl
theorem Kf.setc {A : World} {p : Addr} (h : Kf b A W) (hp : b ≤ p.block) (hp' : p.block < b + 5) (u : Value) : Kf b A (W.setCell p u) :=
  ⟨⟨h.1.1.trans (KeepsOthers.setCell _ _ _), h.1.2.t ⟨(Below.refl b W).setCell hp u, fun k h1 h2 => Below.heap_setCell W p u k (by omega)⟩⟩, by have := h.2; simpa using this⟩
theorem Kf.set {A : World} {i : Nat} (h : Kf b A W) (u : Value) : Kf b A (W.setCell ⟨b + 1 + 1 + 1, i, none⟩ u) := h.setc (p := ⟨b + 1 + 1 + 1, i, none⟩) (by show b ≤ b + 1 + 1 + 1; omega) (by show b + 1 + 1 + 1 < b + 5; omega) u
end
theorem alloc_old {w : World} {i : Nat} {x : Obj} (o : Obj) (h : w.heap[i]? = some x) : (w.alloc o).heap[i]? = some x := by rw [Below.heap_alloc _ _ _ (L.blk_lt h)]; exact h
theorem alloc_at {w : World} {n : Nat} (o : Obj) (h : w.heap.size = n) : (w.alloc o).heap[n]? = some o := by subst h; exact heap_alloc_new w o
theorem seven (w : World) (o0 o1 o2 o3 o4 o5 o6 : Obj) : ∃ W : World, W = ((((((w.alloc o0).alloc o1).alloc o2).alloc o3).alloc o4).alloc o5).alloc o6 ∧ W.heap[w.heap.size + 1]? = some o1 ∧ W.heap[w.heap.size + 2]? = some o2 ∧ W.heap[w.heap.size + 3]? = some o3 ∧ W.heap[w.heap.size + 4]? = some o4 ∧ W.heap[w.heap.size + 5]? = some o5 ∧ W.heap[w.heap.size + 6]? = some o6 ∧ Below w.heap.size w W ∧ W.heap.size = w.heap.size + 7 := by
  refine ⟨_, rfl, ?_, ?_, ?_, ?_, ?_, ?_, ?_, ?_⟩
  · exact alloc_old _ (alloc_old _ (alloc_old _ (alloc_old _ (alloc_old _ (alloc_at _ (by simp))))))
  · exact alloc_old _ (alloc_old _ (alloc_old _ (alloc_old _ (alloc_at _ (by simp)))))
  · exact alloc_old _ (alloc_old _ (alloc_old _ (alloc_at _ (by simp))))
  · exact alloc_old _ (alloc_old _ (alloc_at _ (by simp)))
  · exact alloc_old _ (alloc_at _ (by simp))
  · exact alloc_at _ (by simp)
  · exact ((((((alloc1 _ _).alloc (by simp) _).alloc (by simp; omega) _).alloc (by simp; omega) _).alloc (by simp; omega) _).alloc (by simp; omega) _).alloc (by simp; omega) _
  · simp

theorem nil_or_snoc {α : Type} (l : List α) : l = [] ∨ ∃ p x, l = p ++ [x] := by
  rcases List.eq_nil_or_concat l with h | ⟨p, x, h⟩
  · exact .inl h
  · exact .inr ⟨p, x, by simpa using h⟩
theorem prs_ats (o : Lb) : ∀ (l : List It) (k : Nat), (prs o k l).map (·.1) = ats o k l
  | [], _ => rfl
  | x :: r, k => by
    rw [prs, ats]
    split
    · rw [List.map_cons, prs_ats o r (k + 1)]
    · exact prs_ats o r (k + 1)
theorem prs_atI (o : Lb) (l : List It) : (prs o 0 l).map (fun p => (p.1 : Int)) = atI o l := by
  rw [atI, ← prs_ats, List.map_map]; rfl
/-- A row of at least one element, its block. -/
theorem own_cells {W : World} {base : Nat} {e : TypeId} {size n : Nat} {v : Value} {xs : List Value} (h : W.ownsRow base e size v n xs) (hn : 0 < n) : ∃ g cap cur, v = .slice (some ⟨g, 0, none⟩) n cap ∧ base ≤ g ∧ W.heap[g]? = some (.cells cur e (0, 0)) ∧ n ≤ cap ∧ cap ≤ maxLen ∧ cur.size = cap * size ∧ cur.toList.take (n * size) = xs := by
  rcases h.2 with ⟨_, h0⟩ | h
  · omega
  · exact h
/-- A cell of a row of one's own is stored. -/
theorem own_put {W : World} {base g j : Nat} {e : TypeId} {size n cap : Nat} {xs : List Value} {u : Value} (h : W.ownsRow base e size (.slice (some ⟨g, 0, none⟩) n cap) n xs) (hj : j < n * size) : (W.setCell ⟨g, j, none⟩ u).ownsRow base e size (.slice (some ⟨g, 0, none⟩) n cap) n (xs.set j u) := by
  refine ⟨by rw [List.length_set]; exact h.1, .inr ?_⟩
  rcases h.2 with ⟨h0, _⟩ | ⟨g', cap', cur, hv, hb, hg, h1, h2, h3, h4⟩
  · cases h0
  · cases hv
    exact ⟨g, cap, cur.setIfInBounds j u, rfl, hb, L.blk_set hg j u, h1, h2, by simpa using h3, by rw [Array.toList_setIfInBounds, List.take_set, h4]⟩
end Go.Proofs.Ytkflhcfopejigaa.V

namespace Go.Proofs.Ytkflhcfopejigaa.N
set_option linter.unusedVariables false
set_option linter.unusedSimpArgs false
open Go.RowKit
open T
open V (grown_of IntsIn numCells numCells_snoc ints_own drawn_below own_put own_cells own_type own_apart2)
open I (alloc1 own_at own_below)

def asI (cs : List (Int × Nat)) : List (Int × Int) := cs.map fun p => (p.1, (p.2 : Int))
theorem asI_snoc (cs : List (Int × Nat)) (p : Int × Nat) : asI (cs ++ [p]) = asI cs ++ [(p.1, (p.2 : Int))] := by simp [asI]
theorem asI_length (cs : List (Int × Nat)) : (asI cs).length = cs.length := by simp [asI]
/-- A row of pairs. -/
def PsEnd (W : World) (ps : List (Int × Int)) (e : Ending) (w' : World) : Prop := ∃ A cap, e = .returned (.slice A ps.length cap) ∧ w'.ownsRow W.heap.size 57 2 (.slice A ps.length cap) ps.length (prCells ps) ∧ Below W.heap.size W w'
/-- What a walk through ordered numbers holds: of those ahead of place i. -/
theorem Cn.le {l : List Int} {cs : List (Int × Nat)} (h : Cn l cs) : cs.length ≤ tot cs := by
  have : ∀ ds : List (Int × Nat), (∀ p ∈ ds, 0 < p.2) → ds.length ≤ tot ds := fun ds => by
    induction ds with
    | nil => intro _; exact Nat.le_refl _
    | cons p r ih =>
      intro hp
      have h1 := ih (fun q hq => hp q (by simp [hq]))
      have h2 := hp p (by simp)
      simp only [tot, List.map_cons, List.sum_cons, List.length_cons] at h1 ⊢
      omega
  exact this cs fun p hp => by
    rw [(h.mem p hp).2]
    exact List.count_pos_iff.2 (h.mem p hp).1
structure CnI (s : List Int) (i : Nat) (cs : List (Int × Nat)) : Prop where
  cn : Cn (s.take i) cs
  tot : tot cs = i
  last : ∀ j (hj : j < s.length), j + 1 = i → ∃ c0 c, cs = c0 ++ [(s[j], c)]
theorem CnI.start (s : List Int) : CnI s 0 [] := ⟨by rw [List.take_zero]; exact Cn.nil, rfl, fun j _ e => by omega⟩
theorem CnI.new {s : List Int} {i : Nat} {cs : List (Int × Nat)} (h : CnI s i cs) (hs : s.Pairwise (· ≤ ·)) (hi : i < s.length) (hn : ∀ j (hj : j < s.length), j + 1 = i → ¬ s[j] = s[i]) : CnI s (i + 1) (cs ++ [(s[i], 1)]) := by
  refine ⟨?_, by rw [tot_snoc, h.tot], fun j hj e => ⟨cs, 1, by have e' : j = i := (by omega); subst e'; rfl⟩⟩
  rw [List.take_succ_eq_append_getElem hi]
  refine h.cn.new fun x hx => ?_
  obtain ⟨q, hq, rfl⟩ := List.mem_iff_getElem.1 hx
  simp only [List.length_take] at hq
  rw [List.getElem_take]
  have h1 : s[i - 1] ≤ s[i] := List.pairwise_iff_getElem.1 hs (i - 1) i (by omega) hi (by omega)
  have h2 := hn (i - 1) (by omega) (by omega)
  have h3 : s[q] ≤ s[i - 1] := by
    by_cases e : q = i - 1
    · subst e; exact Int.le_refl _
    · exact List.pairwise_iff_getElem.1 hs q (i - 1) (by omega) (by omega) (by omega)
  omega
theorem CnI.again {s : List Int} {i : Nat} {c0 : List (Int × Nat)} {c : Nat} (hi : i < s.length) (h : CnI s i (c0 ++ [(s[i], c)])) : CnI s (i + 1) (c0 ++ [(s[i], c + 1)]) := by
  refine ⟨?_, by have := h.tot; rw [tot_snoc] at this ⊢; simp only at this ⊢; omega, fun j hj e => ⟨c0, c + 1, by have e' : j = i := (by omega); subst e'; rfl⟩⟩
  rw [List.take_succ_eq_append_getElem hi]
  exact h.cn.again
/-- How often each number of a row is there. -/
def CnR (l : List Int) (ps : List (Int × Int)) : Prop := ∃ cs, ps = asI cs ∧ Cn l cs ∧ tot cs = l.length

end Go.Proofs.Ytkflhcfopejigaa.N

namespace Go.Proofs.Ytkflhcfopejigaa.N
set_option linter.unusedVariables false
set_option linter.unusedSimpArgs false
open Go.RowKit
open T
open V (grown_of IntsIn numCells numCells_snoc ints_own drawn_below)
open I (alloc1 own_at own_below)

theorem count_take {l : List Int} {n : Int} {k : Nat} (hk : k < l.length) : (l.take (k + 1)).count n = (l.take k).count n + if l[k] = n then 1 else 0 := by
  rw [List.take_succ_eq_append_getElem hk, List.count_append, List.count_singleton]
  simp
theorem count_le (l : List Int) (n : Int) (k : Nat) : (l.take k).count n ≤ l.length := Nat.le_trans List.count_le_length (by rw [List.length_take]; omega)
/-- Pairs in memory, to be read. -/
def PrIn (w : World) (A : Option Addr) (ps : List (Int × Int)) : Prop :=
  0 < ps.length → ∃ bk off, A = some ⟨bk, off, none⟩ ∧ bk < w.heap.size ∧ ∀ j (h : j < ps.length), w.cell? ⟨bk, off + j * 2, none⟩ = some (.int .i64 ps[j].1) ∧ w.cell? ⟨bk, off + j * 2 + 1, none⟩ = some (.int .i64 ps[j].2)
theorem PrIn.below {w w' : World} {A : Option Addr} {ps : List (Int × Int)} (h : PrIn w A ps) (hb : Below w.heap.size w w') : PrIn w' A ps := fun hp => by
  obtain ⟨bk, off, e, hlt, hl⟩ := h hp
  exact ⟨bk, off, e, Nat.lt_of_lt_of_le hlt hb.size, fun j hj => ⟨(hb.cell (p := ⟨bk, off + j * 2, none⟩) hlt).trans (hl j hj).1, (hb.cell (p := ⟨bk, off + j * 2 + 1, none⟩) hlt).trans (hl j hj).2⟩⟩
theorem prCells_at : ∀ (ps : List (Int × Int)) (j : Nat) (h : j < ps.length), (prCells ps)[j * 2]? = some (.int .i64 ps[j].1) ∧ (prCells ps)[j * 2 + 1]? = some (.int .i64 ps[j].2)
  | [], j, h => by simp at h
  | p :: r, 0, _ => ⟨rfl, rfl⟩
  | p :: r, j + 1, h => by
    have := prCells_at r j (by simpa using h)
    rw [show (j + 1) * 2 = j * 2 + 2 by omega, show j * 2 + 2 + 1 = j * 2 + 1 + 2 by omega]
    exact this
theorem pr_own {w : World} {base : Nat} {A : Option Addr} {cap : Nat} {ps : List (Int × Int)} (h : w.ownsRow base 57 2 (.slice A ps.length cap) ps.length (prCells ps)) : PrIn w A ps := fun hp => by
  obtain ⟨g, hA, _, hlt, hc⟩ := own_at h hp
  refine ⟨g, 0, hA, hlt, fun j hj => ?_⟩
  obtain ⟨h0, h1⟩ := prCells_at ps j hj
  rw [Nat.zero_add]
  exact ⟨hc _ _ h0, hc _ _ h1⟩
theorem pair_eql (w : World) (a b c d : Int) : (Op.equal 57 (.agg #[.int .i64 a, .int .i64 b]) (.agg #[.int .i64 c, .int .i64 d])).run Try.prog w = .ok ((a == c) && (b == d)) w := by
  obtain ⟨i0, hi0, hz0, hz1, hz2⟩ := info_parts L.infoInt
  have hc : Try.prog.cellsOf 3 = 1 := by kernel_rfl
  have hk : Try.prog.plainKey 3 = true := by kernel_rfl
  rw [Op.equal, Op.maxDepth, show (10000 : Nat) = 9999 + 1 from rfl, run_equalIn_array w 9999 _ _ Try.underlying57 hi0, hc]
  have p0 : ∀ x y : Int, (part 3 #[.int .i64 x, .int .i64 y] 0).run Try.prog w = .ok (.int .i64 x) w := fun x y => run_part_plain w hk rfl
  have p1 : ∀ x y : Int, (part 3 #[.int .i64 x, .int .i64 y] 1).run Try.prog w = .ok (.int .i64 y) w := fun x y => run_part_plain w hk rfl
  have q' : ∀ (d : Nat) (x y : Int), (Op.equalIn (d + 1) 3 (.int .i64 x) (.int .i64 y)).run Try.prog w = .ok (x == y) w := fun d x y => by
    simp [Op.equalIn, run_underlying Try.underlying3]
  have q := q' 9998
  simp only [show List.range 2 = [0, 1] from rfl, Op.eqItems, Sem.run_bind, Nat.zero_mul, Nat.one_mul, p0, p1, q, Result.andThen_ok]
  cases h1 : a == c <;> cases h2 : b == d <;> simp [p1, q, h2]
theorem pair_eql' (w : World) (a b c d : Int) : (binOp .eql 57 (.agg #[.int .i64 a, .int .i64 b]) (.agg #[.int .i64 c, .int .i64 d])).run Try.prog w = .ok (.bool ((a == c) && (b == d))) w := by
  simp only [binOp, Sem.run_bind, pair_eql, Result.andThen_ok, Sem.run_pure]
theorem pair_neq (w : World) (a b c d : Int) : (binOp .neq 57 (.agg #[.int .i64 a, .int .i64 b]) (.agg #[.int .i64 c, .int .i64 d])).run Try.prog w = .ok (.bool (!((a == c) && (b == d)))) w := by
  simp only [binOp, Sem.run_bind, pair_eql, Result.andThen_ok, Sem.run_pure]
end Go.Proofs.Ytkflhcfopejigaa.N

namespace Go.Proofs.Ytkflhcfopejigaa.N
set_option linter.unusedVariables false
set_option linter.unusedSimpArgs false
open Go.RowKit
open T
open V (grown_of IntsIn numCells numCells_snoc ints_own drawn_below)
open I (alloc1 own_at own_below)

/-- The numbers of a row's first places, rising, each with how often it is in the whole row. -/
structure Cx (l : List Int) (i : Nat) (cs : List (Int × Nat)) : Prop where
  rise : cs.Pairwise (fun p q => p.1 < q.1)
  mem : ∀ p ∈ cs, p.1 ∈ l.take i ∧ p.2 = l.count p.1
  all : ∀ n ∈ l.take i, ∃ p ∈ cs, p.1 = n
theorem Cx.start (l : List Int) : Cx l 0 [] := ⟨.nil, fun p hp => by simp at hp, fun n hn => by simp at hn⟩
theorem Cx.done {l : List Int} {cs : List (Int × Nat)} (h : Cx l l.length cs) : Cn l cs :=
  ⟨h.rise, fun p hp => by have := h.mem p hp; rw [List.take_length] at this; exact this, fun n hn => h.all n (by rw [List.take_length]; exact hn)⟩
theorem Cx.has {l : List Int} {i : Nat} {cs : List (Int × Nat)} (h : Cx l i cs) (hi : i < l.length) {k : Nat} (hk : k < cs.length) (he : cs[k].1 = l[i]) : Cx l (i + 1) cs := by
  refine ⟨h.rise, fun p hp => ⟨?_, (h.mem p hp).2⟩, fun n hn => ?_⟩
  · rw [List.take_succ_eq_append_getElem hi]; exact List.mem_append_left _ (h.mem p hp).1
  · rw [List.take_succ_eq_append_getElem hi] at hn
    rcases List.mem_append.1 hn with hn | hn
    · exact h.all n hn
    · simp at hn; subst hn; exact ⟨_, List.getElem_mem hk, he⟩
theorem Cx.put {l : List Int} {i : Nat} {cs : List (Int × Nat)} (h : Cx l i cs) (hi : i < l.length) {k : Nat} (hlo : ∀ j (hj : j < cs.length), j < k → cs[j].1 < l[i]) (hhi : ∀ hk : k < cs.length, l[i] < cs[k].1) :
    Cx l (i + 1) (cs.take k ++ [(l[i], l.count l[i])] ++ cs.drop k) := by
  have h1 : ∀ p ∈ cs.take k, p.1 < l[i] := fun p hp => by
    obtain ⟨j, hj, rfl⟩ := List.mem_iff_getElem.1 hp
    rw [List.length_take] at hj
    rw [List.getElem_take]
    exact hlo j (by omega) (by omega)
  have h2 : ∀ p ∈ cs.drop k, l[i] < p.1 := fun p hp => by
    obtain ⟨j, hj, rfl⟩ := List.mem_iff_getElem.1 hp
    rw [List.length_drop] at hj
    rw [List.getElem_drop]
    have hk := hhi (by omega)
    by_cases e : j = 0
    · subst e; simpa using hk
    · have := List.pairwise_iff_getElem.1 h.rise k (k + j) (by omega) (by omega) (by omega)
      omega
  have hm : ∀ p, p ∈ cs.take k ++ [(l[i], l.count l[i])] ++ cs.drop k ↔ p ∈ cs ∨ p = (l[i], l.count l[i]) := fun p => by
    conv => rhs; rw [← List.take_append_drop k cs]
    simp only [List.mem_append, List.mem_singleton]
    constructor
    · rintro ((h | h) | h)
      · exact .inl (.inl h)
      · exact .inr h
      · exact .inl (.inr h)
    · rintro ((h | h) | h)
      · exact .inl (.inl h)
      · exact .inr h
      · exact .inl (.inr h)
  refine ⟨?_, fun p hp => ?_, fun n hn => ?_⟩
  · rw [List.pairwise_append, List.pairwise_append]
    refine ⟨⟨h.rise.sublist (List.take_sublist _ _), by simp, fun p hp q hq => by simp at hq; subst hq; exact h1 p hp⟩, h.rise.sublist (List.drop_sublist _ _), fun p hp q hq => ?_⟩
    rcases List.mem_append.1 hp with hp | hp
    · exact Int.lt_trans (h1 p hp) (h2 q hq)
    · simp at hp; subst hp; exact h2 q hq
  · rw [List.take_succ_eq_append_getElem hi]
    rcases (hm p).1 hp with hp | rfl
    · exact ⟨List.mem_append_left _ (h.mem p hp).1, (h.mem p hp).2⟩
    · exact ⟨List.mem_append_right _ (by simp), rfl⟩
  · rw [List.take_succ_eq_append_getElem hi] at hn
    rcases List.mem_append.1 hn with hn | hn
    · obtain ⟨p, hp, e⟩ := h.all n hn; exact ⟨p, (hm p).2 (.inl hp), e⟩
    · simp at hn; subst hn; exact ⟨_, (hm _).2 (.inr rfl), rfl⟩
theorem put_length (cs : List (Int × Nat)) (k : Nat) (p : Int × Nat) : (cs.take k ++ [p] ++ cs.drop k).length = cs.length + 1 := by simp; omega
theorem asI_put (cs : List (Int × Nat)) (k : Nat) (p : Int × Nat) : asI (cs.take k ++ [p] ++ cs.drop k) = (asI cs).take k ++ [(p.1, (p.2 : Int))] ++ (asI cs).drop k := by simp [asI]
theorem prCells_append (a b : List (Int × Int)) : prCells (a ++ b) = prCells a ++ prCells b := by simp [prCells]
theorem prCells_take (a : List (Int × Int)) (k : Nat) : prCells (a.take k) = (prCells a).take (k * 2) := by
  induction a generalizing k with
  | nil => simp [prCells]
  | cons p r ih =>
    cases k with
    | zero => simp [prCells]
    | succ k => rw [List.take_succ_cons, show (k + 1) * 2 = k * 2 + 2 by omega]; show _ :: _ :: prCells (r.take k) = _; rw [ih]; rfl
theorem prCells_one (a : List (Int × Int)) : ∀ u ∈ prCells a, u.oneCell' = true := by
  intro u hu
  simp only [prCells, List.mem_flatMap] at hu
  obtain ⟨x, _, hu⟩ := hu
  simp at hu
  rcases hu with rfl | rfl <;> rfl
end Go.Proofs.Ytkflhcfopejigaa.N

namespace Go.Proofs.Ytkflhcfopejigaa.N
set_option linter.unusedVariables false
set_option linter.unusedSimpArgs false
open Go.RowKit
open T
open V (grown_of IntsIn numCells numCells_snoc ints_own drawn_below)
open I (alloc1 own_at own_below)

/-- A number of place i of a, if it is there once in both rows, and in b ahead of place k. -/
def onc (a b : List Int) (i : Nat) (x : Int) (k : Nat) : List (Int × Int) := if (a.count x = 1 ∧ b.count x = 1) ∧ b.idxOf x < k then [((i : Int), ((b.idxOf x : Nat) : Int))] else []
def oI (a b : List Int) (i k : Nat) : List (Int × Int) := onc a b i (a.getD i 0) k
def oU (a b : List Int) : Nat → List (Int × Int)
  | 0 => []
  | i + 1 => oU a b i ++ oI a b i b.length
theorem idx_once {b : List Int} {x : Int} (h : b.count x = 1) {k : Nat} (hk : k < b.length) (e : b[k] = x) : b.idxOf x = k := by
  have h1 : b.idxOf x ≤ k := by
    refine Nat.le_of_not_lt fun hlt => ?_
    have := List.not_of_lt_findIdx (p := (· == x)) (xs := b) (i := k) hlt
    simp [e] at this
  by_cases h2 : b.idxOf x = k
  · exact h2
  · have hj : b.idxOf x < b.length := by omega
    have hej := List.getElem_idxOf hj
    have hc : b.count x = (b.take (b.idxOf x + 1)).count x + (b.drop (b.idxOf x + 1)).count x := by rw [← List.count_append, List.take_append_drop]
    have c1 : 0 < (b.take (b.idxOf x + 1)).count x := List.count_pos_iff.2 (by rw [List.take_succ_eq_append_getElem hj, hej]; simp)
    have c2 : 0 < (b.drop (b.idxOf x + 1)).count x := List.count_pos_iff.2 (List.mem_iff_getElem.2 ⟨k - (b.idxOf x + 1), by rw [List.length_drop]; omega, by rw [List.getElem_drop]; simp only [show b.idxOf x + 1 + (k - (b.idxOf x + 1)) = k by omega]; exact e⟩)
    omega
theorem oI_hit {a b : List Int} {i k : Nat} (hi : i < a.length) (hk : k < b.length) (e : a[i] = b[k]) (h1 : a.count a[i] = 1) (h2 : b.count a[i] = 1) : oI a b i (k + 1) = oI a b i k ++ [((i : Int), (k : Int))] := by
  have hx : a.getD i 0 = a[i] := by simp [List.getD, List.getElem?_eq_getElem hi]
  have hj : b.idxOf a[i] = k := idx_once h2 hk e.symm
  unfold oI
  rw [hx]
  unfold onc
  rw [hj, if_pos ⟨⟨h1, h2⟩, by omega⟩, if_neg (by omega)]
  rfl
theorem oI_miss {a b : List Int} {i k : Nat} (hi : i < a.length) (hk : k < b.length) (h : ¬ (a[i] = b[k] ∧ a.count a[i] = 1 ∧ b.count a[i] = 1)) : oI a b i (k + 1) = oI a b i k := by
  have hx : a.getD i 0 = a[i] := by simp [List.getD, List.getElem?_eq_getElem hi]
  unfold oI
  rw [hx]
  unfold onc
  by_cases hh : a.count a[i] = 1 ∧ b.count a[i] = 1
  · have hne : b.idxOf a[i] ≠ k := fun e => h ⟨by
      have := List.getElem_idxOf (x := a[i]) (xs := b) (by omega)
      rw [← this]; simp only [e], hh⟩
    have : (b.idxOf a[i] < k + 1) ↔ b.idxOf a[i] < k := by omega
    simp only [this]
  · rw [if_neg (fun q => hh q.1), if_neg (fun q => hh q.1)]
theorem oI_len (a b : List Int) (i k : Nat) : (oI a b i k).length ≤ 1 := by unfold oI onc; split <;> simp
theorem oU_len (a b : List Int) : ∀ i, (oU a b i).length ≤ i
  | 0 => Nat.le_refl _
  | i + 1 => by
    have := oU_len a b i
    have := oI_len a b i b.length
    rw [oU, List.length_append]; omega
end Go.Proofs.Ytkflhcfopejigaa.N

namespace Go.Proofs.Ytkflhcfopejigaa.N
set_option linter.unusedVariables false
set_option linter.unusedSimpArgs false
open Go.RowKit Go.Maps
open T
open V (grown_of IntsIn numCells numCells_snoc ints_own drawn_below)
open I (alloc1 own_at own_below)

/-- How often a number is in a row that is turned, and where last. -/
def sgo : List Int → Int → Nat × Nat
  | [], _ => (0, 0)
  | x :: r, n => if n = x then ((sgo r n).1 + 1, r.length) else sgo r n
def st (xs : List Int) (n : Int) : Nat × Nat := sgo xs.reverse n
theorem st_nil (n : Int) : st [] n = (0, 0) := rfl
theorem st_snoc (xs : List Int) (x n : Int) : st (xs ++ [x]) n = if n = x then ((st xs n).1 + 1, xs.length) else st xs n := by
  unfold st
  rw [List.reverse_append, List.reverse_singleton, List.singleton_append, sgo, List.length_reverse]
theorem st_count : ∀ (r : List Int) (n : Int), (sgo r n).1 = r.count n
  | [], _ => rfl
  | x :: r, n => by
    rw [sgo]
    by_cases h : n = x
    · subst h; rw [if_pos rfl, List.count_cons_self, ← st_count r n]
    · rw [if_neg h, st_count r n, List.count_cons_of_ne (fun e => h e.symm)]
theorem st_is (xs : List Int) (n : Int) : (st xs n).1 = xs.count n := by unfold st; rw [st_count, List.count_reverse]
theorem sgo_at : ∀ (r : List Int) (n : Int), 0 < (sgo r n).1 → (sgo r n).2 < r.length ∧ r.reverse[(sgo r n).2]? = some n
  | [], _, h => absurd h (by simp [sgo])
  | x :: r, n, h => by
    rw [sgo] at h ⊢
    by_cases hx : n = x
    · subst hx
      rw [if_pos rfl]
      refine ⟨Nat.lt_succ_self _, ?_⟩
      rw [List.reverse_cons, List.getElem?_append_right (by simp)]
      simp
    · rw [if_neg hx] at h ⊢
      obtain ⟨h1, h2⟩ := sgo_at r n h
      refine ⟨Nat.lt_succ_of_lt h1, ?_⟩
      rw [List.reverse_cons, List.getElem?_append_left (by simpa using h1)]
      exact h2
theorem st_once {xs : List Int} {n : Int} (h : xs.count n = 1) : (st xs n).2 = xs.idxOf n := by
  have h0 : 0 < (sgo xs.reverse n).1 := by rw [st_count, List.count_reverse]; omega
  obtain ⟨h1, h2⟩ := sgo_at xs.reverse n h0
  rw [List.reverse_reverse] at h2
  rw [List.length_reverse] at h1
  rw [List.getElem?_eq_getElem h1] at h2
  exact (idx_once h h1 (Option.some.inj h2)).symm
theorem st_le (xs : List Int) (n : Int) : (st xs n).1 ≤ xs.length := by rw [st_is]; exact List.count_le_length

def spD (p : Nat × Nat) : DataW Unit := .agg [.lit (.int .i64 p.1), .lit (.int .i64 p.2)]
def spV (p : Nat × Nat) : Value := .agg #[.int .i64 p.1, .int .i64 p.2]
/-- How an element reads. -/
def spL : List Value → Option (DataW Unit × List MemPlace)
  | [.int .i64 t, .int .i64 a] => some (.agg [.lit (.int .i64 t), .lit (.int .i64 a)], [])
  | _ => none
def spR : Value → Option (DataW Unit × List MemPlace)
  | .agg cs => spL cs.toList
  | _ => none
theorem spR_mk (t a : Int) : spR (.agg #[.int .i64 t, .int .i64 a]) = some (.agg [.lit (.int .i64 t), .lit (.int .i64 a)], []) := rfl
theorem spL_inv {l : List Value} {p : Nat × Nat} {ps : List MemPlace} (h : spL l = some (spD p, ps)) : l = [.int .i64 p.1, .int .i64 p.2] := by
  unfold spL at h
  split at h
  · simp only [spD, Option.some.injEq, Prod.mk.injEq, DataW.agg.injEq, List.cons.injEq, DataW.lit.injEq, Lit.int.injEq, true_and, and_true] at h
    obtain ⟨⟨h1, h2⟩, -⟩ := h
    rw [h1, h2]
  · cases h
theorem spR_inv {v : Value} {p : Nat × Nat} {ps : List MemPlace} (h : spR v = some (spD p, ps)) : v = spV p := by
  cases v with
  | agg cs =>
    have := spL_inv (show spL cs.toList = some (spD p, ps) from h)
    obtain ⟨l⟩ := cs
    simp only at this
    subst this
    rfl
  | _ => exact absurd h (by simp [spR])
theorem intLaw : Keyed Try.prog 3 := int_keyed Try.underlying3
/-- Block mb is a map of the spots of a row. -/
def Sp (w : World) (mb : Nat) (xs : List Int) : Prop := ∃ D : DataW Unit, w.ownsMap Try.prog 3 spR mb xs.length D ∧ ∀ n : Int, D.atKey (.int .i64 n) (spD (0, 0)) = spD (st xs n)
theorem Sp.start (w : World) : Sp (w.alloc (.map #[] 0)) w.heap.size [] := ⟨.map [], World.ownsMap_made _ _ _ _, fun _ => rfl⟩
theorem Sp.kept {w w' : World} {mb : Nat} {xs : List Int} {row : Option Nat} (h : Sp w mb xs) (hg : w.grownBy w' row) (hne : some mb ≠ row) : Sp w' mb xs := by
  obtain ⟨D, h1, h2⟩ := h
  exact ⟨D, h1.kept hg hne, h2⟩
theorem Sp.lt {w : World} {mb : Nat} {xs : List Int} (h : Sp w mb xs) : mb < w.heap.size := by
  obtain ⟨D, h1, _⟩ := h
  exact h1.lt
theorem Sp.below {w w' : World} {mb : Nat} {xs : List Int} (h : Sp w mb xs) (hb : Below w.heap.size w w') : Sp w' mb xs := h.kept (grown_of hb none) (by simp)
theorem wf_of {z : Int} (h1 : -9223372036854775808 ≤ z) (h2 : z ≤ 9223372036854775807) : (Lit.int .i64 z).wf = true := WalkArith.wf_i64 ⟨h1, h2⟩

def SpEnd (w : World) (l : List Int) (e : Ending) (w' : World) : Prop := ∃ mb, e = .returned (.map (some mb)) ∧ w.heap.size ≤ mb ∧ Sp w' mb l ∧ Below w.heap.size w w'
end Go.Proofs.Ytkflhcfopejigaa.N

namespace Go.Proofs.Ytkflhcfopejigaa.N
set_option linter.unusedVariables false
set_option linter.unusedSimpArgs false
open Go.RowKit Go.Maps
open T
open V (grown_of IntsIn numCells numCells_snoc ints_own drawn_below)
open I (alloc1 own_at own_below)

end Go.Proofs.Ytkflhcfopejigaa.N

namespace Go.Proofs.Ytkflhcfopejigaa.N
set_option linter.unusedVariables false
set_option linter.unusedSimpArgs false
open Go.RowKit
open T
open V (grown_of IntsIn numCells numCells_snoc ints_own drawn_below)
open I (alloc1 own_at own_below)

theorem own_lt2 {w : World} {base : Nat} {e : TypeId} {size n : Nat} {v : Value} {xs : List Value} (h : w.ownsRow base e size v n xs) : ∀ g, v.ownBlock = some g → g < w.heap.size := fun g e' => by
  rcases h.2 with ⟨rfl, _⟩ | ⟨g', cap, cur, rfl, _, hg, _⟩
  · cases e'
  · simp only [Value.ownBlock, Option.some.injEq] at e'; subst e'; exact L.blk_lt hg
theorem pr_news {w : World} {base g n c : Nat} {ps : List (Int × Int)} (h : w.ownsRow base 57 2 (.slice (some ⟨g, 0, none⟩) n c) n (prCells ps)) (hn : ps.length = n) : ∀ j u, (prCells ps)[j]? = some u → w.cell? ⟨g, j, none⟩ = some u := fun j u hu => by
  have hp : 0 < n := by
    have := (List.getElem?_eq_some_iff.1 hu).1
    rw [prCells_length] at this; omega
  obtain ⟨g', e, _, _, hat⟩ := own_at h hp
  simp only [Option.some.injEq, Addr.mk.injEq] at e
  obtain ⟨rfl, -, -⟩ := e
  exact hat j u hu
theorem pr_news_take {w : World} {base g n c : Nat} {ps : List (Int × Int)} (m : Nat) (h : w.ownsRow base 57 2 (.slice (some ⟨g, 0, none⟩) n c) n (prCells ps)) (hn : ps.length = n) : ∀ j u, (prCells (ps.take m))[j]? = some u → w.cell? ((⟨g, 0, none⟩ : Addr).add j) = some u := fun j u hu => by
  rw [prCells_take] at hu
  have hj : j < m * 2 := by
    have := (List.getElem?_eq_some_iff.1 hu).1
    rw [List.length_take] at this; omega
  rw [List.getElem?_take_of_lt hj] at hu
  have := pr_news h hn j u hu
  rw [show (⟨g, 0, none⟩ : Addr).add j = ⟨g, 0 + j, none⟩ by (unfold Addr.add; split <;> simp_all), Nat.zero_add]
  exact this
theorem prCells_drop (a : List (Int × Int)) (k : Nat) : prCells (a.drop k) = (prCells a).drop (k * 2) := by
  induction a generalizing k with
  | nil => simp [prCells]
  | cons p r ih =>
    cases k with
    | zero => simp
    | succ k => rw [List.drop_succ_cons, show (k + 1) * 2 = k * 2 + 2 by omega, ih]; rfl
theorem pr_news_drop {w : World} {base g n c : Nat} {ps : List (Int × Int)} (m : Nat) (h : w.ownsRow base 57 2 (.slice (some ⟨g, 0, none⟩) n c) n (prCells ps)) (hn : ps.length = n) : ∀ j u, (prCells (ps.drop m))[j]? = some u → w.cell? ((⟨g, m * 2, none⟩ : Addr).add j) = some u := fun j u hu => by
  rw [prCells_drop, List.getElem?_drop] at hu
  have := pr_news h hn _ u hu
  rw [show (⟨g, m * 2, none⟩ : Addr).add j = ⟨g, m * 2 + j, none⟩ by (unfold Addr.add; split <;> simp_all)]
  exact this
end Go.Proofs.Ytkflhcfopejigaa.N

namespace Go.Proofs.Ytkflhcfopejigaa.N
set_option linter.unusedVariables false
set_option linter.unusedSimpArgs false
open Go.RowKit Go.Maps
open T
open V (grown_of IntsIn numCells numCells_snoc ints_own drawn_below)
open I (alloc1 own_at own_below)

theorem oU_hit {a b : List Int} {i : Nat} (hi : i < a.length) (h1 : a.count a[i] = 1) (h2 : b.count a[i] = 1) : oU a b (i + 1) = oU a b i ++ [((i : Int), ((b.idxOf a[i] : Nat) : Int))] := by
  have hx : a.getD i 0 = a[i] := by simp [List.getD, List.getElem?_eq_getElem hi]
  have hm : a[i] ∈ b := List.count_pos_iff.1 (by omega)
  rw [oU, oI, hx, onc, if_pos ⟨⟨h1, h2⟩, List.idxOf_lt_length_iff.2 hm⟩]
theorem oU_miss {a b : List Int} {i : Nat} (hi : i < a.length) (h : ¬ (a.count a[i] = 1 ∧ b.count a[i] = 1)) : oU a b (i + 1) = oU a b i := by
  have hx : a.getD i 0 = a[i] := by simp [List.getD, List.getElem?_eq_getElem hi]
  rw [oU, oI, hx, onc, if_neg (fun q => h q.1), List.append_nil]

end Go.Proofs.Ytkflhcfopejigaa.N

namespace Go.Proofs.Ytkflhcfopejigaa.Mt
open Go.RowKit
open N (oU oI onc oU_hit oU_miss oU_len)

abbrev Pr := Int × Int
/-- Pairs that rise on both sides, above a and b, and below n and m. -/
def rt (n m : Int) : Int → Int → List Pr → Bool
  | _, _, [] => true
  | a, b, p :: r => decide (a < p.1) && decide (p.1 < n) && decide (b < p.2) && decide (p.2 < m) && rt n m p.1 p.2 r
def right (ps : List Pr) (n m : Int) : Bool := rt n m (-1) (-1) ps
def inv (ps : List Pr) : List Pr := ps.map fun p => (p.2, p.1)
def fnd : List Pr → Int → Option Int
  | [], _ => none
  | p :: r, i => if p.1 = i then some p.2 else fnd r i
def comp (p q : List Pr) : List Pr := p.filterMap fun z => (fnd q z.2).map fun k => (z.1, k)
def rise : Int → List Pr → List Pr
  | _, [] => []
  | t, p :: r => if t < p.2 then p :: rise p.2 r else rise t r
def ids (x y : List Int) : List Pr := rise (-1) (oU x y x.length)
structure Gp where
  a : Int
  an : Int
  b : Int
  bn : Int
def keep (g : Gp) : List Gp := if 0 < g.an ∨ 0 < g.bn then [g] else []
def gp (n m : Int) : Int → Int → List Pr → List Gp
  | a, b, [] => keep ⟨a, n - a, b, m - b⟩
  | a, b, p :: r => keep ⟨a, p.1 - a, b, p.2 - b⟩ ++ gp n m (p.1 + 1) (p.2 + 1) r
def gaps (ps : List Pr) (n m : Int) : List Gp := if 0 ≤ n ∧ 0 ≤ m ∧ right ps n m = true then gp n m 0 0 ps else []

/-! Right pairs rise. -/
theorem rt_iff (n m : Int) : ∀ (ps : List Pr) (a b : Int), rt n m a b ps = true ↔ (∀ p ∈ ps, a < p.1 ∧ p.1 < n ∧ b < p.2 ∧ p.2 < m) ∧ ps.Pairwise fun p q => p.1 < q.1 ∧ p.2 < q.2
  | [], a, b => by simp [rt]
  | p :: r, a, b => by
    have ih := rt_iff n m r p.1 p.2
    rw [rt, Bool.and_eq_true, ih, List.pairwise_cons]
    simp only [Bool.and_eq_true, decide_eq_true_eq, List.forall_mem_cons]
    constructor
    · rintro ⟨⟨⟨⟨h1, h2⟩, h3⟩, h4⟩, h5, h6⟩
      exact ⟨⟨⟨h1, h2, h3, h4⟩, fun q hq => ⟨Int.lt_trans h1 (h5 q hq).1, (h5 q hq).2.1, Int.lt_trans h3 (h5 q hq).2.2.1, (h5 q hq).2.2.2⟩⟩, fun q hq => ⟨(h5 q hq).1, (h5 q hq).2.2.1⟩, h6⟩
    · rintro ⟨⟨⟨h1, h2, h3, h4⟩, h5⟩, h6, h7⟩
      exact ⟨⟨⟨⟨h1, h2⟩, h3⟩, h4⟩, fun q hq => ⟨(h6 q hq).1, (h5 q hq).2.1, (h6 q hq).2, (h5 q hq).2.2.2⟩, h7⟩
structure Rt (ps : List Pr) (n m : Int) : Prop where
  all : ∀ p ∈ ps, 0 ≤ p.1 ∧ p.1 < n ∧ 0 ≤ p.2 ∧ p.2 < m
  up : ps.Pairwise fun p q => p.1 < q.1 ∧ p.2 < q.2
theorem right_iff {ps : List Pr} {n m : Int} : right ps n m = true ↔ Rt ps n m := by
  rw [right, rt_iff]
  constructor
  · rintro ⟨h1, h2⟩
    exact ⟨fun p hp => by have := h1 p hp; omega, h2⟩
  · rintro ⟨h1, h2⟩
    exact ⟨fun p hp => by have := h1 p hp; omega, h2⟩
theorem Rt.inv {ps : List Pr} {n m : Int} (h : Rt ps n m) : Rt (inv ps) m n := by
  refine ⟨fun p hp => ?_, ?_⟩
  · obtain ⟨q, hq, rfl⟩ := List.mem_map.1 hp
    have := h.all q hq
    simp only
    omega
  · exact List.Pairwise.map _ (fun _ _ g => ⟨g.2, g.1⟩) h.up
theorem fnd_mem : ∀ {ps : List Pr} {i k : Int}, fnd ps i = some k → (i, k) ∈ ps
  | [], _, _, h => by cases h
  | p :: r, i, k, h => by
    unfold fnd at h
    split at h
    · rename_i e
      injection h with h
      subst e h
      exact List.mem_cons_self
    · exact List.mem_cons_of_mem _ (fnd_mem h)
theorem fnd_of : ∀ {ps : List Pr}, ps.Pairwise (fun p q => p.1 < q.1 ∧ p.2 < q.2) → ∀ {i k : Int}, (i, k) ∈ ps → fnd ps i = some k
  | [], _, _, _, h => by cases h
  | p :: r, hp, i, k, h => by
    rw [List.pairwise_cons] at hp
    unfold fnd
    rcases List.mem_cons.1 h with e | h
    · subst e; simp
    · have := hp.1 _ h
      rw [if_neg (by omega)]
      exact fnd_of hp.2 h
theorem Rt.fnd {ps : List Pr} {n m : Int} (h : Rt ps n m) {i k : Int} : fnd ps i = some k ↔ (i, k) ∈ ps := ⟨fnd_mem, fnd_of h.up⟩
theorem Rt.at {ps : List Pr} {n m : Int} (h : Rt ps n m) {j : Nat} (hj : j < ps.length) : Mt.fnd ps ps[j].1 = some ps[j].2 := h.fnd.2 (List.getElem_mem hj)
theorem Rt.back {ps : List Pr} {n m : Int} (h : Rt ps n m) {j : Nat} (hj : j < ps.length) : Mt.fnd (Mt.inv ps) ps[j].2 = some ps[j].1 := h.inv.fnd.2 (List.mem_map.2 ⟨ps[j], List.getElem_mem hj, rfl⟩)
/-! Behind two matches. -/
theorem comp_mem {p q : List Pr} {m l : Int} (hq : Rt q m l) {x z : Int} : (x, z) ∈ comp p q ↔ ∃ y, (x, y) ∈ p ∧ (y, z) ∈ q := by
  unfold comp
  rw [List.mem_filterMap]
  constructor
  · rintro ⟨⟨a, y⟩, h1, h2⟩
    simp only [Option.map_eq_some_iff, Prod.mk.injEq] at h2
    obtain ⟨k, h3, rfl, rfl⟩ := h2
    exact ⟨y, h1, fnd_mem h3⟩
  · rintro ⟨y, h1, h2⟩
    exact ⟨(x, y), h1, by simp [hq.fnd.2 h2]⟩
theorem comp_up : ∀ {p q : List Pr} {m l : Int}, p.Pairwise (fun p q => p.1 < q.1 ∧ p.2 < q.2) → Rt q m l → (comp p q).Pairwise (fun p q => p.1 < q.1 ∧ p.2 < q.2)
  | [], _, _, _, _, _ => by simp [comp]
  | z :: r, q, m, l, hp, hq => by
    rw [List.pairwise_cons] at hp
    have ih := comp_up hp.2 hq
    unfold comp
    rw [List.filterMap_cons]
    cases hf : Mt.fnd q z.2 with
    | none => exact ih
    | some k =>
      simp only [Option.map_some]
      rw [List.pairwise_cons]
      refine ⟨fun t ht => ?_, ih⟩
      obtain ⟨x, c⟩ := t
      obtain ⟨y, h1, h2⟩ := (comp_mem hq).1 ht
      have h3 := hp.1 _ h1
      have h4 := fnd_mem hf
      refine ⟨h3.1, ?_⟩
      have hup := hq.up
      rw [List.pairwise_iff_getElem] at hup
      obtain ⟨i, hi, ei⟩ := List.mem_iff_getElem.1 h4
      obtain ⟨j, hj, ej⟩ := List.mem_iff_getElem.1 h2
      rcases Nat.lt_trichotomy i j with h | h | h
      · have := hup i j hi hj h; rw [ei, ej] at this; exact this.2
      · subst h; rw [ei] at ej; simp only [Prod.mk.injEq] at ej; simp only at h3; omega
      · have := hup j i hj hi h; rw [ei, ej] at this; simp only at this h3; omega
theorem Rt.comp {p q : List Pr} {n m l : Int} (hp : Rt p n m) (hq : Rt q m l) : Rt (comp p q) n l := by
  refine ⟨fun t ht => ?_, comp_up hp.up hq⟩
  obtain ⟨x, z⟩ := t
  obtain ⟨y, h1, h2⟩ := (comp_mem hq).1 ht
  have := hp.all _ h1
  have := hq.all _ h2
  simp only at *
  omega
/-- Rows that rise and have the same pairs are the same. -/
theorem same_of : ∀ {a b : List Pr}, a.Pairwise (fun p q => p.1 < q.1 ∧ p.2 < q.2) → b.Pairwise (fun p q => p.1 < q.1 ∧ p.2 < q.2) → (∀ z, z ∈ a ↔ z ∈ b) → a = b
  | [], [], _, _, _ => rfl
  | [], y :: s, _, _, h => by have := (h y).2 List.mem_cons_self; cases this
  | x :: r, [], _, _, h => by have := (h x).1 List.mem_cons_self; cases this
  | x :: r, y :: s, ha, hb, h => by
    rw [List.pairwise_cons] at ha hb
    have e : x = y := by
      rcases List.mem_cons.1 ((h x).1 List.mem_cons_self) with e | h1
      · exact e
      · rcases List.mem_cons.1 ((h y).2 List.mem_cons_self) with e | h2
        · exact e.symm
        · have := ha.1 _ h2; have := hb.1 _ h1; omega
    subst e
    rw [same_of ha.2 hb.2 fun z => ?_]
    constructor
    · intro hz
      rcases List.mem_cons.1 ((h z).1 (List.mem_cons_of_mem _ hz)) with e | h1
      · subst e; have := ha.1 _ hz; omega
      · exact h1
    · intro hz
      rcases List.mem_cons.1 ((h z).2 (List.mem_cons_of_mem _ hz)) with e | h1
      · subst e; have := hb.1 _ hz; omega
      · exact h1
theorem comp_comp {p q r : List Pr} {a b c d : Int} (hp : Rt p a b) (hq : Rt q b c) (hr : Rt r c d) : comp (comp p q) r = comp p (comp q r) := by
  refine same_of ((hp.comp hq).comp hr).up (hp.comp (hq.comp hr)).up fun z => ?_
  obtain ⟨x, t⟩ := z
  rw [comp_mem hr, comp_mem (hq.comp hr)]
  constructor
  · rintro ⟨y, h1, h2⟩
    obtain ⟨u, h3, h4⟩ := (comp_mem hq).1 h1
    exact ⟨u, h3, (comp_mem hr).2 ⟨y, h4, h2⟩⟩
  · rintro ⟨u, h3, h5⟩
    obtain ⟨y, h4, h2⟩ := (comp_mem hr).1 h5
    exact ⟨y, (comp_mem hq).2 ⟨u, h3, h4⟩, h2⟩
theorem inv_mem {p : List Pr} {x y : Int} : (x, y) ∈ inv p ↔ (y, x) ∈ p := by
  unfold inv
  rw [List.mem_map]
  constructor
  · rintro ⟨⟨a, b⟩, h, e⟩
    simp only [Prod.mk.injEq] at e
    obtain ⟨rfl, rfl⟩ := e
    exact h
  · intro h; exact ⟨(y, x), h, rfl⟩
theorem inv_comp {p q : List Pr} {a b c : Int} (hp : Rt p a b) (hq : Rt q b c) : inv (comp p q) = comp (inv q) (inv p) := by
  refine same_of (hp.comp hq).inv.up (hq.inv.comp hp.inv).up fun z => ?_
  obtain ⟨x, t⟩ := z
  rw [inv_mem, comp_mem hq, comp_mem hp.inv]
  constructor
  · rintro ⟨y, h1, h2⟩; exact ⟨y, inv_mem.2 h2, inv_mem.2 h1⟩
  · rintro ⟨y, h1, h2⟩; exact ⟨y, inv_mem.1 h2, inv_mem.1 h1⟩
/-! What is there once in both rows, as far as it rises. -/
theorem rise_mem : ∀ {l : List Pr} {t : Int} {p : Pr}, p ∈ rise t l → p ∈ l ∧ t < p.2
  | [], _, _, h => by cases h
  | q :: r, t, p, h => by
    unfold rise at h
    split at h
    · rcases List.mem_cons.1 h with e | h
      · subst e; exact ⟨List.mem_cons_self, by assumption⟩
      · have := rise_mem h; exact ⟨List.mem_cons_of_mem _ this.1, by omega⟩
    · have := rise_mem h; exact ⟨List.mem_cons_of_mem _ this.1, this.2⟩
theorem rise_up : ∀ {l : List Pr}, l.Pairwise (fun p q => p.1 < q.1) → ∀ t, (rise t l).Pairwise (fun p q => p.1 < q.1 ∧ p.2 < q.2)
  | [], _, _ => by simp [rise]
  | q :: r, h, t => by
    rw [List.pairwise_cons] at h
    unfold rise
    split
    · rw [List.pairwise_cons]
      exact ⟨fun p hp => ⟨h.1 _ (rise_mem hp).1, (rise_mem hp).2⟩, rise_up h.2 _⟩
    · exact rise_up h.2 _
theorem oU_all (a b : List Int) : ∀ n, n ≤ a.length → (∀ z ∈ oU a b n, 0 ≤ z.1 ∧ z.1 < n ∧ 0 ≤ z.2 ∧ z.2 < b.length) ∧ (oU a b n).Pairwise (fun p q => p.1 < q.1)
  | 0, _ => by simp [oU]
  | n + 1, h => by
    have ih := oU_all a b n (by omega)
    by_cases hc : a.count a[n] = 1 ∧ b.count a[n] = 1
    · rw [oU_hit (by omega) hc.1 hc.2]
      have hm : a[n] ∈ b := List.count_pos_iff.1 (by omega)
      have hx := List.idxOf_lt_length_iff.2 hm
      refine ⟨fun z hz => ?_, ?_⟩
      · rcases List.mem_append.1 hz with hz | hz
        · have := ih.1 z hz; omega
        · rw [List.mem_singleton] at hz
          subst hz
          simp only
          omega
      · rw [List.pairwise_append]
        refine ⟨ih.2, by simp, fun x hx y hy => ?_⟩
        rw [List.mem_singleton] at hy
        subst hy
        have := ih.1 x hx
        simp only
        omega
    · rw [oU_miss (by omega) hc]
      exact ⟨fun z hz => by have := ih.1 z hz; omega, ih.2⟩
theorem ids_right (x y : List Int) : Rt (ids x y) x.length y.length := by
  have h := oU_all x y x.length (Nat.le_refl _)
  exact ⟨fun p hp => h.1 p (rise_mem hp).1, rise_up h.2 _⟩
theorem rise_len : ∀ (l : List Pr) (t : Int), (rise t l).length ≤ l.length
  | [], _ => Nat.le_refl _
  | q :: r, t => by
    unfold rise
    have := rise_len r q.2
    have := rise_len r t
    split <;> simp <;> omega
theorem ids_len (x y : List Int) : (ids x y).length ≤ x.length := Nat.le_trans (rise_len _ _) (oU_len x y x.length)
theorem comp_len (p q : List Pr) : (comp p q).length ≤ p.length := List.length_filterMap_le _ _
/-! Gaps the other way round. -/
def Gp.turn (g : Gp) : Gp := ⟨g.b, g.bn, g.a, g.an⟩
theorem keep_turn (g : Gp) : keep g.turn = (keep g).map Gp.turn := by
  unfold keep
  by_cases h : 0 < g.an ∨ 0 < g.bn
  · rw [if_pos h, if_pos (by simp only [Gp.turn]; omega)]; rfl
  · rw [if_neg h, if_neg (by simp only [Gp.turn]; omega)]; rfl
theorem gp_turn (n m : Int) : ∀ (ps : List Pr) (a b : Int), gp m n b a (inv ps) = (gp n m a b ps).map Gp.turn
  | [], a, b => keep_turn ⟨a, n - a, b, m - b⟩
  | p :: r, a, b => by
    rw [show inv (p :: r) = (p.2, p.1) :: inv r from rfl, gp, gp, List.map_append, gp_turn n m r (p.1 + 1) (p.2 + 1), ← keep_turn]
    rfl
theorem gaps_turn {ps : List Pr} {n m : Int} (h : Rt ps n m) : gaps (inv ps) m n = (gaps ps n m).map Gp.turn := by
  unfold gaps
  have h1 : right ps n m = true := right_iff.2 h
  have h2 : right (inv ps) m n = true := right_iff.2 h.inv
  by_cases hn : 0 ≤ n ∧ 0 ≤ m
  · rw [if_pos ⟨hn.2, hn.1, h2⟩, if_pos ⟨hn.1, hn.2, h1⟩, gp_turn]
  · rw [if_neg (fun q => hn ⟨q.2.1, q.1⟩), if_neg (fun q => hn ⟨q.1, q.2.1⟩)]; rfl
theorem keep_len (g : Gp) : (keep g).length ≤ 1 := by unfold keep; split <;> simp
theorem gp_len (n m : Int) : ∀ (ps : List Pr) (a b : Int), (gp n m a b ps).length ≤ ps.length + 1
  | [], a, b => keep_len _
  | p :: r, a, b => by
    have := gp_len n m r (p.1 + 1) (p.2 + 1)
    have := keep_len ⟨a, p.1 - a, b, p.2 - b⟩
    rw [gp, List.length_append, List.length_cons]
    omega
theorem gaps_len (ps : List Pr) (n m : Int) : (gaps ps n m).length ≤ ps.length + 1 := by
  unfold gaps
  split
  · exact gp_len n m ps 0 0
  · simp
end Go.Proofs.Ytkflhcfopejigaa.Mt
