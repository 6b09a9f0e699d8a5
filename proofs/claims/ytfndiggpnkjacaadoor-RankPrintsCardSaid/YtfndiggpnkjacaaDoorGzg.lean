/-
  A region of a loop's body over a function, walked as a region of any other code: without its fence.
  The contract of view's Of.
  Of lists the first five count, and of each sixty lines.
  How many numbers two rows begin and end with alike: plain, and the contracts of the program's and the reference's Ends.
  The contract of the reference's Numbers.
  The contracts of myers' Long, spot, slide and back.
  A row of numbers that is a block of memory; the contracts of myers' back and unreached.
-/
import Derived.RangeFuncNested
import Derived.RangeFuncBox
import Derived.RangeFuncCalls
import Derived.RangeFuncLeaves
import Derived.OwnWalkIn
import Derived.Deep.RegionHeld
import Derived.Lib.Hide
import Derived.Test.YtfndiggpnkjacaaDoorGzf
import Derived.Deep.AppendLies
import Derived.Test.YtfndiggpnkjacaaDoorGzc
import Derived.Deep.RegionLaw
import Derived.Test.YtfndiggpnkjacaaDoorGzb
import Derived.Deep.DeepCutAuto
import Derived.Deep.CutRange
import Derived.Test.YtfndiggpnkjacaaDoorGzd
import Derived.Laws.CopyOwn
import Derived.Deep.OwnRows
namespace Go.Proofs.YtfndiggpnkjacaaDoor.V
set_option linter.unusedVariables false
set_option linter.unusedSimpArgs false

def notDefer (o : Oper) : Bool := match o.op with
  | .defer _ => false
  | _ => true
theorem notDefer_out {o : Oper} (h : notDefer o = true) : ∀ c, o.op ≠ .defer c := fun c e => by
  unfold notDefer at h
  rw [e] at h
  cases h
theorem rows_round {n l : Nat} {P : Program} {row : String} {args : Array Value} {w : World} {R : Value → World → Prop} (h : Rows P row args w R) : RowsIn (Fence.wide.inRound l) n P row args w R := by
  intro c cs _
  obtain ⟨v, w', hR, hs⟩ := h c cs
  exact ⟨v, w', hR, stepsIn_wide.2 hs⟩
theorem op_round {n l : Nat} {P : Program} {o : Oper} {a : Act} {w : World} {K : Act → World → Prop} {Q : Exit → Act → World → Prop} (hd : notDefer o = true) (h : o.wp P a w K Q) : o.wpIn (Fence.wide.inRound l) n P a w K Q := by
  unfold Oper.wpIn
  refine ⟨fun _ _ => trivial, ?_⟩
  rw [Oper.semAt_plain _ _ _ (notDefer_out hd)]
  unfold Oper.wp at h
  generalize (execOp a.eval o).run P w = r at *
  cases r with
  | ok x w' =>
    cases x <;> simp only [Oper.upon, Oper.uponIn] at h ⊢
    case value u => exact h
    case skip => exact h
    case defer d => exact h
    case enter f args => exact ⟨fun h => by simp [Fence.wide] at h, callsIn_wide.2 h⟩
    case row row args => exact ⟨fun h => by simp [Fence.wide] at h, rows_round h⟩
  | halt x w' =>
    cases x <;> simp only [Oper.upon, Oper.uponIn] at h ⊢
    case panic u => exact h
theorem any_round {n l : Nat} {P : Program} {md : Region.Mode} {ops : Array Oper} {Q : Exit → Act → World → Prop} (hd : ops.all notDefer = true) (hq : ¬ LetsOut Q) :
    ∀ (fuel : Nat) (listed : Array Bool) (a : Act) (w : World), wpAny P md ops Q fuel listed a w → wpAnyIn (Fence.wide.inRound l) n P md ops Q fuel listed a w
  | 0, _, _, _, h => h
  | fuel + 1, listed, a, w, h => ⟨h.1, fun i hi => by
    have h2 := h.2 i hi
    unfold wpOp at h2
    unfold wpOpIn
    cases ho : ops[i]? with
    | none => rw [ho] at h2; exact any_round hd hq fuel _ _ _ h2
    | some o =>
      rw [ho] at h2
      simp only at h2 ⊢
      split
      · rename_i hw
        simp only [hw, if_true] at h2
        rcases h2 with h2 | h2
        · exact Oper.wpIn_mono (fun a' w' h' => any_round hd hq fuel _ _ _ h') (op_round (Array.all_eq_true'.1 hd o (Array.mem_of_getElem? ho)) h2)
        · exact absurd h2.2 hq
      · rename_i hw
        simp only [hw] at h2
        exact ⟨fun _ _ => trivial, any_round hd hq fuel _ _ _ h2⟩⟩
/-- A region of a round that draws its order, as one outside of it. -/
theorem region_round {n l id : Nat} {P : Program} {ops : Array Oper} {Q : Exit → Act → World → Prop} {a : Act} {w : World} (S : World → Prop) (hm : P.follows .mixedOrders = true) (hd : ops.all notDefer = true) (hq : ¬ LetsOut Q) (hS : S w.drew)
    (h : S w.drew → wpAnyH P .any ops Q S ops.size (Array.replicate ops.size false) a w.drew) : (Code.region id ops true).wpIn (Fence.wide.inRound l) n P Q a w :=
  wpIn_region_any hm (any_round hd hq _ _ _ _ (wpAny_of_held _ _ _ _ (h hS)))
end Go.Proofs.YtfndiggpnkjacaaDoor.V

namespace Go.Proofs.YtfndiggpnkjacaaDoor.V
set_option linter.unusedVariables false
set_option linter.unusedSimpArgs false
open Go.RowKit Go.Shelf
open T
open I (It Lb ItemsIn ItemsAt ItemsOk itCells itCells_snoc itCells_at items_cells own_at own_below alloc1)
attribute [local go_sem] Oper.semAt_some

def lastBa (pre : List (Nat × It)) : Bool := (pre.getLast?.map (·.2.ba)).getD false
theorem lastBa_snoc (pre : List (Nat × It)) (x : Nat × It) : lastBa (pre ++ [x]) = x.2.ba := by simp [lastBa]
theorem blk_grown {W W' : World} {row : Option Nat} {i : Nat} {o : Obj} (h : W.heap[i]? = some o) (hg : W.grownBy W' row) (hr : row ≠ some i) : W'.heap[i]? = some o := (hg.block i (L.blk_lt h) (fun e => hr e.symm)).trans h
theorem row_cells {W : World} {row : Option Nat} {i : Nat} {cs : Array Value} {t : TypeId} {f : Nat × Nat} (h : W.heap[i]? = some (.cells cs t f)) (hr : ∀ r, row = some r → ∃ o : Obj, W.heap[r]? = some o ∧ o.isCells = false) : row ≠ some i := fun e => by
  obtain ⟨o, ho, hc⟩ := hr i e
  rw [h] at ho; cases ho; cases hc
theorem own_walk {W W' : World} {row : Option Nat} {base : Nat} {e : TypeId} {size n : Nat} {v : Value} {xs : List Value} (h : W.ownsRow base e size v n xs) (hg : W.grownBy W' row) (hr : ∀ r, row = some r → ∃ o : Obj, W.heap[r]? = some o ∧ o.isCells = false) : W'.ownsRow base e size v n xs := by
  refine h.kept hg ?_
  rcases h.2 with ⟨rfl, _⟩ | ⟨g, cap, cur, rfl, _, hgb, _⟩
  · exact .inl rfl
  · exact .inr fun e' => row_cells hgb hr e'.symm
section
variable {b : Nat} {hx : ByteArray} {ub tb vl : Value} {nl : Nat} {ls : List (List UInt8 × Bool)} {vt : Value} {nt : Nat} {ts : List Int} {bb : Bool} {W W' : World}
/-- A row is in no block of another type. -/
theorem own_type {base : Nat} {e t : TypeId} {size n g : Nat} {v : Value} {xs : List Value} {cs : Array Value} {f : Nat × Nat} (h : W.ownsRow base e size v n xs) (hg : W.heap[g]? = some (.cells cs t f)) (hne : t ≠ e) : v.ownBlock ≠ some g := by
  rcases h.2 with ⟨rfl, _⟩ | ⟨g', cap, cur, rfl, _, hgb, _⟩
  · simp [Value.ownBlock]
  · intro e'
    simp only [Value.ownBlock, Option.some.injEq] at e'
    subst e'
    rw [hg] at hgb
    injection hgb with e1
    injection e1 with _ e2
    exact hne e2
theorem own_apart2 {base base' : Nat} {e e' : TypeId} {size size' n n' : Nat} {v v' : Value} {xs xs' : List Value} (h : W.ownsRow base e size v n xs) (h' : W.ownsRow base' e' size' v' n' xs') (hne : e' ≠ e) : v'.ownBlock = none ∨ v'.ownBlock ≠ v.ownBlock := by
  rcases h'.2 with ⟨rfl, _⟩ | ⟨g', cap, cur, rfl, _, hgb, _⟩
  · exact .inl rfl
  · exact .inr fun e1 => own_type h hgb hne e1.symm
/-- What a round keeps. -/
def Kf (b : Nat) (A W : World) : Prop := (KeepsOthers A W ∧ KpZ b (b + 5) (b + 7) A W) ∧ b + 7 ≤ W.heap.size
theorem Kf.below {A : World} (h : Kf b A W) (hb : Below W.heap.size W W') : Kf b A W' :=
  ⟨⟨h.1.1.trans (KeepsOthers.of_grownBy (grown_of hb none) (fun j o e => by cases e)), h.1.2.t (KpZ.of hb (by have := h.2; omega) h.2)⟩, Nat.le_trans h.2 hb.size⟩
theorem Kf.grown {A : World} {e : TypeId} {size n r : Nat} {v : Value} {xs : List Value} (h : Kf b A W) (ho : W.ownsRow r e size v n xs) (hr : b + 7 ≤ r) (hg : W.grownBy W' v.ownBlock) : Kf b A W' := by
  have hf : ∀ j, v.ownBlock = some j → b + 7 ≤ j := fun j ej => by have := own_base ho j ej; omega
  refine ⟨⟨h.1.1.trans (KeepsOthers.of_grownBy hg (fun j o e ho' => ?_)), h.1.2.t ⟨(Below.refl b W).grown hg (by have := h.2; omega) (fun j ej => by have := hf j ej; omega), fun k h1 h2 => hg.block k (by have := h.2; omega) (fun ej => by have := hf k ej.symm; omega)⟩⟩, Nat.le_trans h.2 hg.size⟩
  rcases ho.2 with ⟨rfl, _⟩ | ⟨g', cap, cur, rfl, _, hgb, _⟩
  · cases e
  · simp only [Value.ownBlock, Option.some.injEq] at e
    subst e
    rw [hgb] at ho'; cases ho'; rfl
theorem Kf.setc {A : World} {p : Addr} (h : Kf b A W) (hp : b ≤ p.block) (hp' : p.block < b + 5) (u : Value) : Kf b A (W.setCell p u) :=
  ⟨⟨h.1.1.trans (KeepsOthers.setCell _ _ _), h.1.2.t ⟨(Below.refl b W).setCell hp u, fun k h1 h2 => Below.heap_setCell W p u k (by omega)⟩⟩, by have := h.2; simpa using this⟩
theorem Kf.set {A : World} {i : Nat} (h : Kf b A W) (u : Value) : Kf b A (W.setCell ⟨b + 1 + 1 + 1, i, none⟩ u) := h.setc (p := ⟨b + 1 + 1 + 1, i, none⟩) (by show b ≤ b + 1 + 1 + 1; omega) (by show b + 1 + 1 + 1 < b + 5; omega) u
end
theorem alloc_old {w : World} {i : Nat} {x : Obj} (o : Obj) (h : w.heap[i]? = some x) : (w.alloc o).heap[i]? = some x := by rw [Below.heap_alloc _ _ _ (L.blk_lt h)]; exact h
theorem alloc_at {w : World} {n : Nat} (o : Obj) (h : w.heap.size = n) : (w.alloc o).heap[n]? = some o := by subst h; exact heap_alloc_new w o
theorem seven (w : World) (o0 o1 o2 o3 o4 o5 o6 : Obj) : ∃ W : World, W = ((((((w.alloc o0).alloc o1).alloc o2).alloc o3).alloc o4).alloc o5).alloc o6 ∧ W.heap[w.heap.size + 1]? = some o1 ∧ W.heap[w.heap.size + 2]? = some o2 ∧ W.heap[w.heap.size + 3]? = some o3 ∧ W.heap[w.heap.size + 4]? = some o4 ∧ W.heap[w.heap.size + 5]? = some o5 ∧ W.heap[w.heap.size + 6]? = some o6 ∧ Below w.heap.size w W ∧ W.heap.size = w.heap.size + 7 := by
  refine ⟨_, rfl, ?_, ?_, ?_, ?_, ?_, ?_, ?_, ?_⟩
  · exact alloc_old _ (alloc_old _ (alloc_old _ (alloc_old _ (alloc_old _ (alloc_at _ (by simp))))))
  · exact alloc_old _ (alloc_old _ (alloc_old _ (alloc_old _ (alloc_at _ (by simp)))))
  · exact alloc_old _ (alloc_old _ (alloc_old _ (alloc_at _ (by simp))))
  · exact alloc_old _ (alloc_old _ (alloc_at _ (by simp)))
  · exact alloc_old _ (alloc_at _ (by simp))
  · exact alloc_at _ (by simp)
  · exact ((((((alloc1 _ _).alloc (by simp) _).alloc (by simp; omega) _).alloc (by simp; omega) _).alloc (by simp; omega) _).alloc (by simp; omega) _).alloc (by simp; omega) _
  · simp

theorem nil_or_snoc {α : Type} (l : List α) : l = [] ∨ ∃ p x, l = p ++ [x] := by
  rcases List.eq_nil_or_concat l with h | ⟨p, x, h⟩
  · exact .inl h
  · exact .inr ⟨p, x, by simpa using h⟩
theorem prs_ats (o : Lb) : ∀ (l : List It) (k : Nat), (prs o k l).map (·.1) = ats o k l
  | [], _ => rfl
  | x :: r, k => by
    rw [prs, ats]
    split
    · rw [List.map_cons, prs_ats o r (k + 1)]
    · exact prs_ats o r (k + 1)
theorem prs_atI (o : Lb) (l : List It) : (prs o 0 l).map (fun p => (p.1 : Int)) = atI o l := by
  rw [atI, ← prs_ats, List.map_map]; rfl
/-- A row of at least one element, its block. -/
theorem own_cells {W : World} {base : Nat} {e : TypeId} {size n : Nat} {v : Value} {xs : List Value} (h : W.ownsRow base e size v n xs) (hn : 0 < n) : ∃ g cap cur, v = .slice (some ⟨g, 0, none⟩) n cap ∧ base ≤ g ∧ W.heap[g]? = some (.cells cur e (0, 0)) ∧ n ≤ cap ∧ cap ≤ maxLen ∧ cur.size = cap * size ∧ cur.toList.take (n * size) = xs := by
  rcases h.2 with ⟨_, h0⟩ | h
  · omega
  · exact h
/-- A cell of a row of one's own is stored. -/
theorem own_put {W : World} {base g j : Nat} {e : TypeId} {size n cap : Nat} {xs : List Value} {u : Value} (h : W.ownsRow base e size (.slice (some ⟨g, 0, none⟩) n cap) n xs) (hj : j < n * size) : (W.setCell ⟨g, j, none⟩ u).ownsRow base e size (.slice (some ⟨g, 0, none⟩) n cap) n (xs.set j u) := by
  refine ⟨by rw [List.length_set]; exact h.1, .inr ?_⟩
  rcases h.2 with ⟨h0, _⟩ | ⟨g', cap', cur, hv, hb, hg, h1, h2, h3, h4⟩
  · cases h0
  · cases hv
    exact ⟨g, cap, cur.setIfInBounds j u, rfl, hb, L.blk_set hg j u, h1, h2, by simpa using h3, by rw [Array.toList_setIfInBounds, List.take_set, h4]⟩
end Go.Proofs.YtfndiggpnkjacaaDoor.V

namespace Go.Proofs.YtfndiggpnkjacaaDoor.N
set_option linter.unusedVariables false
set_option linter.unusedSimpArgs false
open Go.RowKit
open T
open V (grown_of IntsIn numCells numCells_snoc ints_own drawn_below)
open I (alloc1 own_at own_below)

def fewL (ls : List (List Ln)) : List (List Ln) := (ls.take 5).map (·.take 60)
theorem few_take {ls : List (List Ln)} {k : Nat} (hk : k < ls.length) (h5 : k < 5) : (ls.take (k + 1)).map (·.take 60) = (ls.take k).map (·.take 60) ++ [ls[k].take 60] := by
  rw [List.take_succ_eq_append_getElem hk, List.map_append]; rfl
/-- Slices of lists, as values. -/
def Lss (w : World) (vs : List Value) (ls : List (List Ln)) : Prop :=
  vs.length = ls.length ∧ ∀ j (h : j < ls.length) (h' : j < vs.length), ∃ A c, vs[j] = .slice A ls[j].length c ∧ LinesIn w A ls[j] ∧ ls[j].length ≤ c
theorem Lss.snoc {w : World} {vs : List Value} {ls : List (List Ln)} (h : Lss w vs ls) {A : Option Addr} {c : Nat} {l : List Ln} (hl : LinesIn w A l) (hc : l.length ≤ c) : Lss w (vs ++ [.slice A l.length c]) (ls ++ [l]) := by
  refine ⟨by simp [h.1], fun j hj hj' => ?_⟩
  by_cases e : j < ls.length
  · have e' : j < vs.length := by rw [h.1]; exact e
    rw [List.getElem_append_left e', List.getElem_append_left e]
    exact h.2 j e e'
  · obtain rfl : j = ls.length := by simp at hj; omega
    rw [List.getElem_append_right (by rw [h.1]; exact Nat.le_refl _), List.getElem_append_right (Nat.le_refl _)]
    exact ⟨A, c, by simp [h.1], by simpa using hl, by simpa using hc⟩
theorem lines_take {w : World} {A : Option Addr} {l : List Ln} (h : LinesIn w A l) (n : Nat) : LinesIn w A (l.take n) := fun hp => by
  rw [List.length_take] at hp
  obtain ⟨bk, off, e, hlt, hl⟩ := h (by omega)
  refine ⟨bk, off, e, hlt, fun j hj => ?_⟩
  rw [List.length_take] at hj
  have := hl j (by omega)
  simp only [List.getElem_take]
  exact this
theorem lists_of {w w' : World} {base : Nat} {A : Option Addr} {cap : Nat} {vs : List Value} {ls : List (List Ln)} (ho : w'.ownsRow base 22 1 (.slice A vs.length cap) vs.length vs) (h : Lss w vs ls) (hb : Below w.heap.size w w') : ListsIn w' A ls := fun hp => by
  obtain ⟨g, e, _, hg, hat⟩ := own_at ho (by rw [h.1]; exact hp)
  refine ⟨g, 0, e, hg, fun j hj => ?_⟩
  have hj' : j < vs.length := by rw [h.1]; exact hj
  obtain ⟨B, c, e2, hl, hc⟩ := h.2 j hj hj'
  refine ⟨B, c, ?_, hl.below hb, hc⟩
  rw [Nat.zero_add]
  exact hat j _ (by rw [List.getElem?_eq_getElem hj', e2])
theorem infoLns : (Tryd.prog.info? 22).map (fun i => (i.zero, i.size, i.bytes)) = some (some (.slice none 0 0), 1, 24) := by kernel_rfl

end Go.Proofs.YtfndiggpnkjacaaDoor.N

namespace Go.Proofs.YtfndiggpnkjacaaDoor.N
set_option linter.unusedVariables false
set_option linter.unusedSimpArgs false
open Go.RowKit
open T
open V (IntsIn numCells numCells_snoc ints_own drawn_below)
open I (alloc1 own_at own_below)

/-- How many numbers two rows begin with alike. -/
def cpl : List Int → List Int → Nat
  | x :: a, y :: b => if x = y then cpl a b + 1 else 0
  | _, _ => 0
theorem cpl_is : ∀ (a b : List Int) (k : Nat), (∀ j (hj : j < a.length) (hj' : j < b.length), j < k → a[j] = b[j]) → k ≤ a.length → k ≤ b.length → (∀ (h : k < a.length) (h' : k < b.length), ¬ a[k] = b[k]) → cpl a b = k
  | [], _, k, _, h1, _, _ => by simp only [List.length_nil] at h1; cases b : (‹List Int› : List Int) <;> (simp only [cpl]; omega)
  | x :: a, [], k, _, _, h2, _ => by simp only [List.length_nil] at h2; simp only [cpl]; omega
  | x :: a, y :: b, 0, _, _, _, hn => by
    have := hn (by simp) (by simp)
    simp only [List.getElem_cons_zero] at this
    rw [cpl, if_neg this]
  | x :: a, y :: b, k + 1, h, h1, h2, hn => by
    have h0 := h 0 (by simp) (by simp) (by omega)
    simp only [List.getElem_cons_zero] at h0
    rw [cpl, if_pos h0, cpl_is a b k (fun j hj hj' hjk => by
      have := h (j + 1) (by simpa using hj) (by simpa using hj') (by omega)
      simpa using this) (by simpa using h1) (by simpa using h2) (fun g g' => by
      have := hn (by simpa using g) (by simpa using g')
      simpa using this)]
theorem cpl_le1 : ∀ a b : List Int, cpl a b ≤ a.length
  | [], _ => by simp [cpl]
  | x :: a, [] => by simp [cpl]
  | x :: a, y :: b => by have := cpl_le1 a b; rw [cpl]; split <;> simp; omega
theorem cpl_le2 : ∀ a b : List Int, cpl a b ≤ b.length
  | [], _ => by simp [cpl]
  | x :: a, [] => by simp [cpl]
  | x :: a, y :: b => by have := cpl_le2 a b; rw [cpl]; split <;> simp; omega
/-- .. and, of what is left, end with alike. -/
def csl (a b : List Int) : Nat := cpl (a.drop (cpl a b)).reverse (b.drop (cpl a b)).reverse
theorem csl_is {a b : List Int} {k e : Nat} (hk : cpl a b = k) (h : ∀ j (hj : a.length - 1 - j < a.length) (hj' : b.length - 1 - j < b.length), j < e → a[a.length - 1 - j] = b[b.length - 1 - j]) (h1 : e + k ≤ a.length) (h2 : e + k ≤ b.length)
    (hn : ∀ (_ : e + k < a.length) (_ : e + k < b.length) (hj : a.length - 1 - e < a.length) (hj' : b.length - 1 - e < b.length), ¬ a[a.length - 1 - e] = b[b.length - 1 - e]) : csl a b = e := by
  unfold csl
  rw [hk]
  have g : ∀ (l : List Int) (j : Nat) (hj : j < (l.drop k).reverse.length), (l.drop k).reverse[j] = l[l.length - 1 - j]'(by simp at hj; omega) := fun l j hj => by
    rw [List.getElem_reverse, List.getElem_drop]
    congr 1
    simp at hj ⊢
    omega
  refine cpl_is _ _ e (fun j hj hj' hje => ?_) (by simp; omega) (by simp; omega) (fun q q' => ?_)
  · rw [g, g]; exact h j (by simp at hj; omega) (by simp at hj'; omega) hje
  · rw [g, g]; exact hn (by simp at q; omega) (by simp at q'; omega) (by simp at q; omega) (by simp at q'; omega)
theorem step_eq {a b : List Int} {k : Nat} (hk : k < a.length) (hk' : k < b.length) (h : a[k] = b[k]) (H : ∀ j (hj : j < a.length) (hj' : j < b.length), j < k → a[j] = b[j]) : ∀ j (hj : j < a.length) (hj' : j < b.length), j < k + 1 → a[j] = b[j] := V.ext_step hk hk' h H
theorem step_back {a b : List Int} {e : Nat} (h1 : a.length - 1 - e < a.length) (h2 : b.length - 1 - e < b.length) (h : a[a.length - 1 - e] = b[b.length - 1 - e]) (H : ∀ j (hj : a.length - 1 - j < a.length) (hj' : b.length - 1 - j < b.length), j < e → a[a.length - 1 - j] = b[b.length - 1 - j]) :
    ∀ j (hj : a.length - 1 - j < a.length) (hj' : b.length - 1 - j < b.length), j < e + 1 → a[a.length - 1 - j] = b[b.length - 1 - j] := fun j hj hj' hje => by
  by_cases q : j = e
  · subst q; exact h
  · exact H j hj hj' (by omega)
theorem drewN_add (w : World) (q n : Nat) : (w.drewN q).drewN n = w.drewN (q + n) := by simp [World.drewN, Nat.add_assoc]
theorem getD_at {a : List Int} {k : Nat} (h : k < a.length) : a.getD k 0 = a[k] := by rw [List.getD_eq_getElem?_getD, List.getElem?_eq_getElem h]; rfl
theorem go_true {a b : List Int} {k m : Nat} (hm : m = min a.length b.length) (h : true = (decide (k < m) && decide (a.getD k 0 = b.getD k 0))) (H : ∀ j (hj : j < a.length) (hj' : j < b.length), j < k → a[j] = b[j]) : k < m ∧ ∀ j (hj : j < a.length) (hj' : j < b.length), j < k + 1 → a[j] = b[j] := by
  have h2 := (Bool.and_eq_true _ _).mp h.symm
  have h3 := of_decide_eq_true h2.1
  have h4 := of_decide_eq_true h2.2
  have ha : k < a.length := by omega
  have hb : k < b.length := by omega
  rw [getD_at ha, getD_at hb] at h4
  exact ⟨h3, step_eq ha hb h4 H⟩
theorem go_false {a b : List Int} {k m : Nat} (hm : m = min a.length b.length) (hk : k ≤ m) (h : false = (decide (k < m) && decide (a.getD k 0 = b.getD k 0))) (H : ∀ j (hj : j < a.length) (hj' : j < b.length), j < k → a[j] = b[j]) : cpl a b = k :=
  cpl_is a b k H (by omega) (by omega) fun ha hb e => by
    rw [getD_at ha, getD_at hb, decide_eq_true e, decide_eq_true (show k < m by omega)] at h
    cases h
theorem back_true {a b : List Int} {e n : Nat} (h1 : n ≤ a.length) (h2 : n ≤ b.length) (h : true = (decide (e < n) && decide (a.getD (a.length - 1 - e) 0 = b.getD (b.length - 1 - e) 0))) (H : ∀ j (hj : a.length - 1 - j < a.length) (hj' : b.length - 1 - j < b.length), j < e → a[a.length - 1 - j] = b[b.length - 1 - j]) :
    e < n ∧ ∀ j (hj : a.length - 1 - j < a.length) (hj' : b.length - 1 - j < b.length), j < e + 1 → a[a.length - 1 - j] = b[b.length - 1 - j] := by
  have h2' := (Bool.and_eq_true _ _).mp h.symm
  have h3 := of_decide_eq_true h2'.1
  have h4 := of_decide_eq_true h2'.2
  have ha : a.length - 1 - e < a.length := by omega
  have hb : b.length - 1 - e < b.length := by omega
  rw [getD_at ha, getD_at hb] at h4
  exact ⟨h3, step_back ha hb h4 H⟩
theorem back_false {a b : List Int} {k e n : Nat} (hc : cpl a b = k) (hn : n = min a.length b.length - k) (hk : k ≤ min a.length b.length) (he : e ≤ n) (h : false = (decide (e < n) && decide (a.getD (a.length - 1 - e) 0 = b.getD (b.length - 1 - e) 0))) (H : ∀ j (hj : a.length - 1 - j < a.length) (hj' : b.length - 1 - j < b.length), j < e → a[a.length - 1 - j] = b[b.length - 1 - j]) : csl a b = e :=
  csl_is hc H (by omega) (by omega) fun q1 q2 ha hb e' => by
    rw [getD_at ha, getD_at hb, decide_eq_true e', decide_eq_true (show e < n by omega)] at h
    cases h
/-- Ends, of two rows. -/
def EnC (fn : FuncId) (a b : List Int) : Prop := ∀ (W : World) (A B : Option Addr) (c c' : Nat), IntsIn W A a → IntsIn W B b → Calls Tryd.prog fn #[.slice A a.length c, .slice B b.length c'] W fun e w' => e = .returned (.tuple #[.int .i64 (cpl a b : Nat), .int .i64 (csl a b : Nat)]) ∧ Below W.heap.size W w'
theorem EnC.at {fn : FuncId} {a b : List Int} (h : EnC fn a b) (W : World) {A B : Option Addr} {c c' : Nat} (h1 : IntsIn W A a) (h2 : IntsIn W B b) : Calls Tryd.prog fn #[.slice A a.length c, .slice B b.length c'] W fun e w' => e = .returned (.tuple #[.int .i64 (cpl a b : Nat), .int .i64 (csl a b : Nat)]) ∧ Below W.heap.size W w' := h W A B c c' h1 h2

end Go.Proofs.YtfndiggpnkjacaaDoor.N

namespace Go.Proofs.YtfndiggpnkjacaaDoor.N
set_option linter.unusedVariables false
set_option linter.unusedSimpArgs false
open Go.RowKit
open T
open V (grown_of IntsIn numCells numCells_snoc ints_own drawn_below lines_own)
open I (alloc1 own_at own_below)

theorem own_lt {w : World} {base : Nat} {e : TypeId} {size n : Nat} {v : Value} {xs : List Value} (h : w.ownsRow base e size v n xs) : ∀ g, v.ownBlock = some g → g < w.heap.size := fun g e' => by
  rcases h.2 with ⟨rfl, _⟩ | ⟨g', cap, cur, rfl, _, hg, _⟩
  · cases e'
  · simp only [Value.ownBlock, Option.some.injEq] at e'; subst e'; exact L.blk_lt hg
/-- The place of the first line that is like x, or how many there are. -/
def pos (ks : List Ln) (x : Ln) : Nat := ks.idxOf x
theorem pos_in {ks : List Ln} {x : Ln} (h : x ∈ ks) : (add ks x).idxOf x = pos ks x := by unfold add pos; rw [if_pos h]
theorem pos_not {ks : List Ln} {x : Ln} (h : x ∉ ks) : (add ks x).idxOf x = pos ks x := by
  unfold add pos
  rw [if_neg h, List.idxOf_append, if_neg h, List.idxOf_eq_length h]
  simp
theorem pos_le (ks : List Ln) (x : Ln) : pos ks x ≤ ks.length := List.idxOf_le_length
theorem pos_is {ks : List Ln} {x : Ln} {n : Nat} (h : ∀ j (hj : j < ks.length), j < n → ¬ ks[j] = x) (hn : n ≤ ks.length) (hs : ∀ hn : n < ks.length, ks[n] = x) : pos ks x = n := by
  unfold pos
  by_cases e : n < ks.length
  · have := hs e
    have h1 : ks.idxOf x ≤ n := by
      refine Nat.le_of_not_lt fun hlt => ?_
      have := List.not_of_lt_findIdx (p := (· == x)) (xs := ks) (i := n) hlt
      simp [this, hs e] at this
    have h2 : ¬ ks.idxOf x < n := fun hlt => by
      have hm : x ∈ ks := by rw [← this]; exact List.getElem_mem e
      have hi := List.idxOf_lt_length_iff.2 hm
      exact h _ hi hlt (List.getElem_idxOf hi)
    omega
  · obtain rfl : n = ks.length := by omega
    refine List.idxOf_eq_length fun hm => ?_
    obtain ⟨j, hj, e2⟩ := List.mem_iff_getElem.1 hm
    exact h j hj hj e2
theorem ln_ne {a b : Ln} (h : ¬ a = b) : (⟨a.1.toArray⟩ : ByteArray).toList ≠ (⟨b.1.toArray⟩ : ByteArray).toList ∨ ((⟨a.1.toArray⟩ : ByteArray) = ⟨b.1.toArray⟩ ∧ a.2 ≠ b.2) := by
  obtain ⟨a1, a2⟩ := a
  obtain ⟨b1, b2⟩ := b
  by_cases h1 : a1 = b1
  · exact .inr ⟨by rw [h1], fun e => h (by simp only at e; rw [h1, e])⟩
  · exact .inl fun e => h1 (by simpa [Lib.toList_data] using e)

/-- The rows of a round: the lines that are known, the numbers so far, the rows that are done. -/
structure Rn (w : World) (r0 : Nat) (kv rv ov : Value) (kx : List Ln) (ys : List Int) (vs : List Value) (rs : List (List Int)) (W : World) : Prop where
  k : W.ownsRow w.heap.size 44 2 kv kx.length (lineCells kx)
  r : W.ownsRow r0 3 1 rv ys.length (numCells ys)
  o : W.ownsRow w.heap.size 46 1 ov vs.length vs
  rw : Rws W w.heap.size vs rs
  b : Below w.heap.size w W
  s : r0 ≤ W.heap.size
  s0 : w.heap.size ≤ r0
  sep : ∀ j (h : j < vs.length) (_ : j < rs.length) g, vs[j].ownBlock = some g → g < r0
theorem Rn.below {w : World} {r0 : Nat} {kv rv ov : Value} {kx : List Ln} {ys : List Int} {vs : List Value} {rs : List (List Int)} {W W' : World} (h : Rn w r0 kv rv ov kx ys vs rs W) (hb : Below W.heap.size W W') : Rn w r0 kv rv ov kx ys vs rs W' :=
  ⟨own_below h.k hb, own_below h.r hb, own_below h.o hb, h.rw.below hb, h.b.trans (hb.mono h.b.size), Nat.le_trans h.s hb.size, h.s0, h.sep⟩
theorem Rn.addK {w : World} {r0 : Nat} {kv kv' rv ov : Value} {kx kx' : List Ln} {ys : List Int} {vs : List Value} {rs : List (List Int)} {W W' : World} (h : Rn w r0 kv rv ov kx ys vs rs W) (hg : W.grownBy W' kv.ownBlock) (hk : W'.ownsRow w.heap.size 44 2 kv' kx'.length (lineCells kx')) : Rn w r0 kv' rv ov kx' ys vs rs W' :=
  ⟨hk, h.r.kept hg (V.own_apart (by decide) h.r h.k), h.o.kept hg (V.own_apart (by decide) h.o h.k), h.rw.kept hg (fun j a b => V.own_apart (by decide) (h.rw.2 j a b) h.k), h.b.grown hg h.b.size (own_base h.k), Nat.le_trans h.s hg.size, h.s0, h.sep⟩
theorem Rn.addR {w : World} {r0 : Nat} {kv rv rv' ov : Value} {kx : List Ln} {ys ys' : List Int} {vs : List Value} {rs : List (List Int)} {W W' : World} (h : Rn w r0 kv rv ov kx ys vs rs W) (hg : W.grownBy W' rv.ownBlock) (hk : W'.ownsRow r0 3 1 rv' ys'.length (numCells ys')) : Rn w r0 kv rv' ov kx ys' vs rs W' :=
  ⟨h.k.kept hg (V.own_apart (by decide) h.k h.r), hk, h.o.kept hg (V.own_apart (by decide) h.o h.r), h.rw.kept hg (fun j a b => by
    cases hv : (vs[j]).ownBlock with
    | none => exact .inl rfl
    | some g => exact .inr fun e => absurd (own_base h.r g e.symm) (Nat.not_le.2 (h.sep j b a g hv))), h.b.grown hg h.b.size (fun g e => Nat.le_trans h.s0 (own_base h.r g e)), Nat.le_trans h.s hg.size, h.s0, h.sep⟩

set_option maxRecDepth 100000 in
set_option maxHeartbeats 8000000 in
theorem rnumbers_any (A : Option Addr) (cap : Nat) (ls : List (List Ln)) (w : World) (hA : ListsIn w A ls) (h5 : ls.length ≤ 5) (h60 : ∀ l ∈ ls, l.length ≤ 60) :
    Calls Tryd.prog 25 #[.slice A ls.length cap] w (NmEnd w (numsAll [] ls)) := by
  obtain ⟨i0, hi0, hz0, hz1, hz2⟩ := info_parts infoRow
  obtain ⟨l0, hl0, ly0, ly1, ly2⟩ := info_parts infoLine
  obtain ⟨n0, hn0, ny0, ny1, ny2⟩ := info_parts L.infoInt
  have HA := Lib.hid hA
  have H60 := Lib.hid h60
  clear hA h60
  obtain ⟨W0, hW0⟩ : ∃ W : World, W = (w.alloc (.cells #[] 44)).alloc (.cells #[] 46) := ⟨_, rfl⟩
  have HB0 := Lib.hid (show Below w.heap.size w W0 by rw [hW0]; exact (alloc1 _ _).alloc (by simp) _)
  have HK0 := Lib.hid (show W0.ownsRow w.heap.size 44 2 (.slice (some ⟨w.heap.size, 0, none⟩) 0 0) 0 [] by rw [hW0]; exact (World.ownsRow_made w #[] 0 (Nat.le_refl _) (Nat.zero_le _) rfl).alloc _)
  have HO0 := Lib.hid (show W0.ownsRow w.heap.size 46 1 (.slice (some ⟨w.heap.size + 1, 0, none⟩) 0 0) 0 [] by
    have := World.ownsRow_made (e := 46) (size := 1) (w.alloc (.cells #[] 44)) #[] 0 (Nat.le_refl _) (Nat.zero_le _) rfl
    rw [World.size_alloc] at this
    rw [hW0]
    exact own_more this (by omega))
  go_enter Tryd.func25, Tryd.ntmps25
  go_wp2_with fail
  rw [← hW0]
  clear hW0
  go_loopg [3, 4, 5] ls.length (fun q kv ov i wr => ∃ (k : Nat) (vs : List Value), k ≤ ls.length ∧ i = .int .i64 k ∧ ls.length - k ≤ q ∧ wr.ownsRow w.heap.size 44 2 kv (knownAll [] (ls.take k)).length (lineCells (knownAll [] (ls.take k))) ∧ wr.ownsRow w.heap.size 46 1 ov vs.length vs ∧ Rws wr w.heap.size vs (numsAll [] (ls.take k)) ∧ Below w.heap.size w wr ∧ vs.length = k)
  case atStart => exact ⟨0, [], Nat.zero_le _, rfl, by omega, by simpa [knownAll, lineCells] using HK0.out, HO0.out, by simpa [numsAll] using Rws.nil W0 w.heap.size, HB0.out, rfl⟩
  case round =>
    obtain ⟨k, vs, hk, rfl, hmm, hkn, hout, hrw, hbr, hvl⟩ := hrel
    by_cases hlt : k < ls.length
    · obtain ⟨bk, off, hAe, hbk, hI⟩ := HA.out (by omega)
      subst hAe
      obtain ⟨B, cB, q0, q1, q2⟩ := hI k hlt
      have HQ0 := Lib.hid q0
      have HQ1 := Lib.hid q1
      have HBK := Lib.hid hbk
      have HN := Lib.hid (numsAll_take (ks := []) hlt)
      have HKA := Lib.hid (knownAll_take (ks := []) hlt)
      have h0k : (0 : Int) ≤ (k : Int) := by omega
      have hki : (k : Int) < (ls.length : Int) := by omega
      have hkl := knownAll_length (ls.take k) [] (fun y hy => H60.out y (List.mem_of_mem_take hy))
      have hll := H60.out _ (List.getElem_mem hlt)
      have hkl2 : (knownAll [] (ls.take k)).length ≤ 300 := by rw [List.length_take] at hkl; simp at hkl; omega
      obtain ⟨l, hl⟩ : ∃ l, l = ls[k] := ⟨_, rfl⟩
      obtain ⟨kk, hkk⟩ : ∃ kk, kk = knownAll [] (ls.take k) := ⟨_, rfl⟩
      obtain ⟨rs, hrs⟩ : ∃ rs, rs = numsAll [] (ls.take k) := ⟨_, rfl⟩
      rw [← hl] at HQ0 HQ1 HN HKA hll
      rw [← hkk] at HN HKA hkl2 hkn
      rw [← hrs] at HN hrw
      clear hI q0 q1 hl hkk hrs hkl
      have HSEP := Lib.hid (fun j (h : j < vs.length) (h' : j < rs.length) g (hg : vs[j].ownBlock = some g) => own_lt (hrw.2 j h' h) g hg)
      obtain ⟨W1, hW1⟩ : ∃ W : World, W = wr.alloc (.cells #[] 3) := ⟨_, rfl⟩
      have hb1 : Below wr.heap.size wr W1 := by rw [hW1]; exact alloc1 _ _
      have HR1 := Lib.hid (show W1.ownsRow wr.heap.size 3 1 (.slice (some ⟨wr.heap.size, 0, none⟩) 0 0) 0 [] by rw [hW1]; exact World.ownsRow_made wr #[] 0 (Nat.le_refl _) (Nat.zero_le _) rfl)
      have HK1 := Lib.hid (own_below hkn hb1)
      have HO1 := Lib.hid (own_below hout hb1)
      have HW1 := Lib.hid (hrw.below hb1)
      have hbs := hbr.size
      have hs1 := hb1.size
      have HB1 := Lib.hid (hbr.trans (hb1.mono hbs))
      clear hkn hout hrw hbr hb1
      go_wp2_with fail
      rw [← hW1]
      clear hW1
      obtain ⟨r0, hr0⟩ : ∃ r, r = wr.heap.size := ⟨_, rfl⟩
      rw [← hr0] at HSEP HR1 hbs hs1 ⊢
      clear hr0
      have HRN0 := Lib.hid (show Rn w r0 u3 (.slice (some ⟨r0, 0, none⟩) 0 0) u4 kk [] vs rs W1 from ⟨HK1.out, HR1.out, HO1.out, HW1.out, HB1.out, by omega, hbs, fun j h h' g hg => HSEP.out j h h' g hg⟩)
      go_loopg [3, 6, 7] l.length (fun q kv rv i wx => ∃ (j : Nat) (ys : List Int), j ≤ l.length ∧ i = .int .i64 j ∧ l.length - j ≤ q ∧ Rn w r0 kv rv u4 (known kk (l.take j)) ys vs rs wx ∧ ys.length = j ∧ Hid (ys = row kk (l.take j)))
      case atStart => exact ⟨0, [], Nat.zero_le _, rfl, by omega, by simpa [known] using HRN0.out, rfl, Lib.hid (by simp [row])⟩
      case round =>
        obtain ⟨j, ys, hj, rfl, hjm, hrn, hyl, HY⟩ := hrel
        have HYL := Lib.hid hyl
        have hyb : ys.length ≤ 60 := by omega
        clear hyl
        have c0 := (hrn.b.cell (p := ⟨bk, off + k, none⟩) HBK.out).trans HQ0.out
        have hkxl : (known kk (l.take j)).length ≤ 300 + 60 := by
          have := known_length (l.take j) kk
          rw [List.length_take] at this
          omega
        obtain ⟨KA, kcap, rfl, -, -⟩ := own_form hrn.k
        obtain ⟨RA, rcap, rfl, -, -⟩ := own_form hrn.r
        by_cases hjl : j < l.length
        · obtain ⟨bl, ol, hBe, hbl, hL⟩ := HQ1.out (by omega)
          subst hBe
          obtain ⟨p0, p1⟩ := hL j hjl
          have c1 := (hrn.b.cell (p := ⟨bl, ol + j * 2, none⟩) hbl).trans p0
          have c2 := (hrn.b.cell (p := ⟨bl, ol + j * 2 + 1, none⟩) hbl).trans p1
          have HRT := Lib.hid (row_take (ks := kk) hjl)
          have HKT := Lib.hid (known_take (ks := kk) hjl)
          rw [← HY.out] at HRT
          have h0j : (0 : Int) ≤ (j : Int) := by omega
          have hji : (j : Int) < (l.length : Int) := by omega
          obtain ⟨x, hx⟩ : ∃ x, x = l[j] := ⟨_, rfl⟩
          obtain ⟨kx, hkx⟩ : ∃ kx, kx = known kk (l.take j) := ⟨_, rfl⟩
          rw [← hx] at c1 c2 HRT HKT
          rw [← hkx] at HRT HKT hrn hkxl ⊢
          have HRN := Lib.hid hrn
          have HKL := Lib.hid (V.lines_own hrn.k)
          clear hx hkx hL p0 p1 hrn
          go_wp2_with fail
          go_loopg [8] kx.length (fun q nv wn => ∃ n, n ≤ kx.length ∧ nv = .int .i64 n ∧ kx.length - n ≤ q ∧ (∃ d, wn = wr.drewN d) ∧ Hid (∀ i (hi : i < kx.length), i < n → ¬ kx[i] = x))
          case atStart => exact ⟨0, Nat.zero_le _, rfl, by omega, ⟨0, rfl⟩, Lib.hid fun i hi h => absurd h (by omega)⟩
          case round =>
            obtain ⟨n, hn, rfl, hnm, ⟨d, rfl⟩, HJ⟩ := hrel
            by_cases hnk : n < kx.length
            · obtain ⟨bq, oq, hQe, hbq, hQ⟩ := HKL.out (by omega)
              subst hQe
              obtain ⟨d0, d1⟩ := hQ n hnk
              have h0n : (0 : Int) ≤ (n : Int) := by omega
              have hni : (n : Int) < (kx.length : Int) := by omega
              have HXN := Lib.hid (fun (h : ¬ kx[n] = x) => fun i (hi : i < kx.length) (hin : i < n + 1) => (by
                by_cases e : i = n
                · subst e; exact h
                · exact HJ.out i hi (by omega) : ¬ kx[i] = x))
              have HXY := Lib.hid (fun (h : kx[n] = x) => (⟨by unfold add; rw [if_pos (by rw [← h]; exact List.getElem_mem hnk)], pos_is HJ.out hn (fun _ => h)⟩ : add kx x = kx ∧ pos kx x = n))
              obtain ⟨y, hy⟩ : ∃ y, y = kx[n] := ⟨_, rfl⟩
              rw [← hy] at d0 d1 HXN HXY
              clear hy hQ HJ
              obtain ⟨y1, y2⟩ := y
              by_cases he : (y1, y2) = x
              · obtain ⟨ha, hp⟩ := HXY.out he
                subst he
                rw [ha] at HRT HKT
                have hpi : ((kx.idxOf (y1, y2) : Nat) : Int) = (n : Int) := by unfold pos at hp; rw [hp]
                rw [hpi] at HRT
                clear ha hp hpi HXN HXY
                simp only at c1 c2 d0 d1
                obtain ⟨s, hs⟩ : ∃ s : ByteArray, s = ⟨y1.toArray⟩ := ⟨_, rfl⟩
                rw [← hs] at c1 d0
                have hnn : ((n : Int) == (kx.length : Int)) = false := by simp; omega
                go_wp2_with fail
                have hsr := HRN.out.s
                go_quiet (fail)
                go_wp2_with (at_builtin; refine wpList_append_own _ rfl _ _ 46 rfl r0 3 n0 _ 1 8 Tryd.underlying46 hn0 ny0 ny1 ny2 rfl (by decide) _ ys.length (numCells ys) rfl ((HRN.out.below (drawn_below wr _)).r.alloc _) ⟨_, 0, none⟩ 1 1 [.int .i64 n] rfl rfl (World.news_of_block (alloc_at _ (by first | rfl | simp))) (by intro u hu; simp at hu; rcases hu with rfl; rfl) (by simp only [maxLen]; omega) (by omega) (by first | omega | (simp; omega)) ?_; intro v' w4 hown4 hg4 _)
                have hrn5 : Rn w r0 (.slice (some ⟨bq, oq, none⟩) kx.length kcap) v' u4 kx (ys ++ [(n : Int)]) vs rs w4 := ((HRN.out.below (drawn_below wr _)).below (alloc1 _ _)).addR hg4 (by rw [numCells_snoc]; simpa using hown4)
                clear hown4 hg4
                go_wp2_with fail
                go_roundg (l.length - (j + 1))
                case rel => exact ⟨j + 1, ys ++ [(n : Int)], by omega, by go_num, Nat.le_refl _, by rw [HKT.out]; exact hrn5, by simp [HYL.out], Lib.hid (by rw [HRT.out])⟩
                case measure => omega
              · have HX2 := Lib.hid (HXN.out he)
                clear HXN HXY
                obtain ⟨x1, x2⟩ := x
                simp only at c1 c2 d0 d1
                have HE := Lib.hid (ln_ne he)
                clear he
                simp only at HE
                obtain ⟨s, hs⟩ : ∃ s : ByteArray, s = ⟨y1.toArray⟩ := ⟨_, rfl⟩
                obtain ⟨t, ht⟩ : ∃ t : ByteArray, t = ⟨x1.toArray⟩ := ⟨_, rfl⟩
                rw [← hs] at d0 HE
                rw [← ht] at c1 HE
                clear hs ht
                rcases HE.out with h | ⟨rfl, h⟩
                all_goals
                  have hn1 := beq_eq_false_iff_ne.2 h
                  have hn2 := bne_iff_ne.2 h
                  clear HE
                  go_wp2_with fail
                  go_quiet (fail)
                  go_wp2_with fail
                  go_roundg (kx.length - (n + 1))
                  case rel => exact ⟨n + 1, by omega, by go_num, Nat.le_refl _, ⟨_, rfl⟩, HX2⟩
                  case measure => omega
            · obtain rfl : n = kx.length := by omega
              have hnotin : x ∉ kx := fun hm => by
                obtain ⟨i, hi, e⟩ := List.mem_iff_getElem.1 hm
                exact HJ.out i hi hi e
              have hadd : add kx x = kx ++ [x] := by unfold add; rw [if_neg hnotin]
              have hpos : ((((kx ++ [x]).idxOf x : Nat)) : Int) = (kx.length : Int) := by rw [List.idxOf_append, if_neg hnotin]; simp
              rw [hadd] at HRT HKT
              rw [hpos] at HRT
              clear hadd hpos hnotin HJ
              obtain ⟨x1, x2⟩ := x
              simp only at c1 c2
              have hlc : lineCells (kx ++ [(x1, x2)]) = lineCells kx ++ [.string ⟨x1.toArray⟩, .bool x2] := lineCells_snoc kx x1 x2
              obtain ⟨s, hs⟩ : ∃ s : ByteArray, s = ⟨x1.toArray⟩ := ⟨_, rfl⟩
              rw [← hs] at c1 hlc
              have HLC := Lib.hid hlc
              clear hs hlc
              have hsr := HRN.out.s
              have hsb := HRN.out.b.size
              go_wp2_with fail
              go_quiet (fail)
              go_wp2_with (first
               | (at_builtin; refine wpList_append_own _ rfl _ _ 22 rfl w.heap.size 44 l0 _ 2 24 Tryd.underlying22 hl0 ly0 ly1 ly2 rfl (by decide) _ kx.length (lineCells kx) rfl ((HRN.out.below (drawn_below wr _)).k.alloc _) ⟨_, 0, none⟩ 1 1 [.string s, .bool x2] rfl rfl (World.news_of_block (alloc_at _ (by first | rfl | simp))) (by intro u hu; simp at hu; rcases hu with rfl | rfl <;> rfl) (by simp only [maxLen]; omega) (by omega) (by first | omega | (simp; omega)) ?_; intro v' w4 hown4 hg4 _; have HR4 := Lib.hid (((HRN.out.below (drawn_below wr _)).below (alloc1 _ _)).addK (kx' := kx ++ [(x1, x2)]) hg4 (by rw [HLC.out]; simpa using hown4)); clear hown4 hg4; have hsr4 := HR4.out.s)
               | (at_builtin; refine wpList_append_own _ rfl _ _ 46 rfl r0 3 n0 _ 1 8 Tryd.underlying46 hn0 ny0 ny1 ny2 rfl (by decide) _ ys.length (numCells ys) rfl (HR4.out.r.alloc _) ⟨_, 0, none⟩ 1 1 [.int .i64 kx.length] rfl rfl (World.news_of_block (alloc_at _ (by first | rfl | simp))) (by intro u hu; simp at hu; rcases hu with rfl; rfl) (by simp only [maxLen]; omega) (by omega) (by first | omega | (simp; omega)) ?_; intro v5 w5 hown5 hg5 _))
              have hrn5 : Rn w r0 v' v5 u4 (kx ++ [(x1, x2)]) (ys ++ [(kx.length : Int)]) vs rs w5 := (HR4.out.below (alloc1 _ _)).addR hg5 (by rw [numCells_snoc]; simpa using hown5)
              clear hown5 hg5
              go_wp2_with fail
              go_roundg (l.length - (j + 1))
              case rel => exact ⟨j + 1, ys ++ [(kx.length : Int)], by omega, by go_num, Nat.le_refl _, by rw [HKT.out]; exact hrn5, by simp [HYL.out], Lib.hid (by rw [HRT.out])⟩
              case measure => omega
        · obtain rfl : j = l.length := by omega
          have hy := HY.out
          rw [List.take_length] at hy hrn
          rw [← hy] at HN
          obtain ⟨OA, ocap, rfl, -, -⟩ := own_form hrn.o
          have HRN := Lib.hid hrn
          have hsr := hrn.s
          clear hrn hy HY
          have hvk : vs.length ≤ 5 := by omega
          have HVL := Lib.hid hvl
          clear hvl
          go_wp2_with (at_builtin; refine wpList_append_own _ rfl _ _ 48 rfl w.heap.size 46 i0 _ 1 24 Tryd.underlying48 hi0 hz0 hz1 hz2 rfl (by decide) _ vs.length vs rfl (HRN.out.o.alloc _) ⟨_, 0, none⟩ 1 1 [.slice RA ys.length rcap] rfl rfl (World.news_of_block (alloc_at _ (by first | rfl | simp))) (by intro u hu; simp at hu; rcases hu with rfl; rfl) (by simp only [maxLen]; omega) (by omega) (by first | omega | (simp; omega)) ?_; intro v' w4 hown4 hg4 _)
          have h1 := HRN.out.below (alloc1 wr (.cells #[.slice RA ys.length rcap] 46))
          have hsn := h1.rw.snoc (own_more h1.r hbs)
          have hrw4 := hsn.kept hg4 (fun i a b => V.own_apart (by decide) (hsn.2 i a b) h1.o)
          have hk4 := h1.k.kept hg4 (V.own_apart (by decide) h1.k h1.o)
          have hb4 := h1.b.grown hg4 h1.b.size (own_base h1.o)
          clear hsn h1 hg4
          go_wp2_with fail
          go_roundg (ls.length - (k + 1))
          case rel => exact ⟨k + 1, vs ++ [.slice RA ys.length rcap], by omega, by go_num, Nat.le_refl _, by rw [HKA.out]; exact hk4, by simpa using hown4, by rw [HN.out]; exact hrw4, hb4, by simp [HVL.out]⟩
          case measure => omega
    · obtain rfl : k = ls.length := by omega
      rw [List.take_length] at hrw
      obtain ⟨RA, rcap, rfl, -, -⟩ := own_form hout
      go_wp2_with fail
      go_ret
      exact ⟨RA, rcap, vs, rfl, hout, hrw, hbr⟩
end Go.Proofs.YtfndiggpnkjacaaDoor.N

namespace Go.Proofs.YtfndiggpnkjacaaDoor.M
set_option linter.unusedVariables false
set_option linter.unusedSimpArgs false
open Go.RowKit
open T
open V (IntsIn numCells numCells_snoc ints_own drawn_below)
open I (alloc1 own_at own_below)

theorem drewN_add (w : World) (q n : Nat) : (w.drewN q).drewN n = w.drewN (q + n) := by simp [World.drewN, Nat.add_assoc]
set_option maxHeartbeats 400000 in
theorem long_yes (A B : Option Addr) (n m c c' : Nat) (w : World) (hn : n ≤ maxLen) (hm : m ≤ maxLen) (h : 400 < n ∨ 400 < m) :
    Calls Tryd.prog 41 #[.slice A n c, .slice B m c'] w fun e w' => e = .returned (.bool true) ∧ w = w' := by
  unfold maxLen at hn hm
  by_cases h1 : 400 < n
  · clear h
    go_enter Tryd.func41, Tryd.ntmps41
    go_wp2_with fail
    go_ret
    exact ⟨rfl, rfl⟩
  · have h2 : 400 < m := by omega
    have h1 : n ≤ 400 := by omega
    clear h
    go_enter Tryd.func41, Tryd.ntmps41
    go_wp2_with fail
    go_ret
    exact ⟨ret_of (show Value.bool (decide (400 < (n : Int)) || decide (400 < (m : Int))) = _ by rw [show (decide (400 < (n : Int)) || decide (400 < (m : Int))) = true by rw [Bool.or_eq_true, decide_eq_true_iff, decide_eq_true_iff]; omega]), rfl⟩
set_option maxHeartbeats 400000 in
theorem long_no (A B : Option Addr) (n m c c' : Nat) (w : World) (hn : n ≤ 400) (hm : m ≤ 400) :
    Calls Tryd.prog 41 #[.slice A n c, .slice B m c'] w fun e w' => e = .returned (.bool false) ∧ w = w' := by
  go_enter Tryd.func41, Tryd.ntmps41
  go_wp2_with fail
  go_ret
  exact ⟨ret_of (show Value.bool (decide (400 < (n : Int)) || decide (400 < (m : Int))) = _ by rw [show (decide (400 < (n : Int)) || decide (400 < (m : Int))) = false by rw [Bool.or_eq_false_iff, decide_eq_false_iff_not, decide_eq_false_iff_not]; omega]), rfl⟩
set_option maxHeartbeats 400000 in
theorem spot_any (A : Option Addr) (n c : Nat) (i j r : Int) (w : World) (hr : i - j + n + 1 = r) (hn : n ≤ 1000) (hi : -1000 ≤ i) (hi' : i ≤ 1000) (hj : -1000 ≤ j) (hj' : j ≤ 1000) :
    Calls Tryd.prog 62 #[.slice A n c, .int .i64 i, .int .i64 j] w fun e w' => e = .returned (.int .i64 r) ∧ w = w' := by
  subst hr
  go_enter Tryd.func62, Tryd.ntmps62
  go_wp2_with fail
  go_ret
  exact ⟨rfl, rfl⟩
theorem sl_step {a b : List Int} {p q r : Int} (h : true = decide (0 < p ∧ 0 < q ∧ a.getD (p - 1).toNat 0 = b.getD (q - 1).toNat 0)) (hs : sl a b p q = r) : 0 < p ∧ 0 < q ∧ sl a b (p - 1) (q - 1) = r := by
  have := of_decide_eq_true h.symm
  rw [sl, if_pos this] at hs
  exact ⟨this.1, this.2.1, hs⟩
theorem sl_stop {a b : List Int} {p q r : Int} (h : false = decide (0 < p ∧ 0 < q ∧ a.getD (p - 1).toNat 0 = b.getD (q - 1).toNat 0)) (hs : sl a b p q = r) : r = p := by
  have := of_decide_eq_false h.symm
  rw [sl, if_neg this] at hs
  exact hs.symm

set_option maxHeartbeats 2000000 in
set_option maxRecDepth 100000 in
theorem slide_any (A B : Option Addr) (a b : List Int) (c c' : Nat) (i j : Int) (w : World) (hA : IntsIn w A a) (hB : IntsIn w B b) (ha : a.length ≤ 1000) (hb : b.length ≤ 1000) (hi : i ≤ a.length) (hj : j ≤ b.length) :
    Calls Tryd.prog 68 #[.slice A a.length c, .slice B b.length c', .int .i64 i, .int .i64 j] w fun e w' => e = .returned (.int .i64 (sl a b i j)) ∧ ∃ q, w' = w.drewN q := by
  have HA := Lib.hid hA
  have HB := Lib.hid hB
  clear hA hB
  obtain ⟨la, hla⟩ : ∃ n, n = a.length := ⟨_, rfl⟩
  obtain ⟨lb, hlb⟩ : ∃ n, n = b.length := ⟨_, rfl⟩
  rw [← hla] at ha hi ⊢
  rw [← hlb] at hb hj ⊢
  have HL := Lib.hid (And.intro hla hlb)
  clear hla hlb
  obtain ⟨r, hr⟩ : ∃ r, sl a b i j = r := ⟨_, rfl⟩
  rw [hr]
  have HR := Lib.hid hr
  clear hr
  go_enter Tryd.func68, Tryd.ntmps68
  go_wp2_with fail
  go_loopg [2, 3] i.toNat (fun n x y wr => ∃ p q : Int, x = .int .i64 p ∧ y = .int .i64 q ∧ p ≤ la ∧ q ≤ lb ∧ p.toNat ≤ n ∧ (∃ d, wr = w.drewN d) ∧ Hid (sl a b p q = r))
  case atStart => exact ⟨i, j, rfl, rfl, hi, hj, Nat.le_refl _, ⟨0, rfl⟩, HR⟩
  case round =>
    clear hi hj HR
    obtain ⟨p, q, rfl, rfl, hp, hq, hn, ⟨d, rfl⟩, HS⟩ := hrel
    obtain ⟨go, hgo⟩ : ∃ go : Bool, go = decide (0 < p ∧ 0 < q ∧ a.getD (p - 1).toNat 0 = b.getD (q - 1).toNat 0) := ⟨_, rfl⟩
    have HG := Lib.hid hgo
    clear hgo
    go_upto_region 1 with fail
    go_cut [27] from 9 to 31 (fun c wx => c = .bool go ∧ ∃ q', wx = w.drewN q')
    case first =>
      by_cases h0 : 0 < p
      · by_cases h1 : 0 < q
        · obtain ⟨bk, off, hAe, hbk, hI⟩ := HA.out (by have := HL.out; omega)
          obtain ⟨bk', off', hBe, hbk', hI'⟩ := HB.out (by have := HL.out; omega)
          subst hAe hBe
          obtain ⟨ia, hia⟩ : ∃ n : Nat, n = (p - 1).toNat := ⟨_, rfl⟩
          obtain ⟨ib, hib⟩ : ∃ n : Nat, n = (q - 1).toNat := ⟨_, rfl⟩
          have hka : ia < a.length := by have := HL.out; omega
          have hkb : ib < b.length := by have := HL.out; omega
          have c0 := hI ia hka
          have d0 := hI' ib hkb
          have k0 : (0 : Int) ≤ (ia : Int) := by omega
          have k3 : (0 : Int) ≤ (ib : Int) := by omega
          have k1 : (ia : Int) < (la : Int) := by omega
          have k2 : (ib : Int) < (lb : Int) := by omega
          have w1 : IntKind.i64.wrap (p - 1) = (ia : Int) := by rw [IntKind.wrap_i64]; omega
          have w2 : IntKind.i64.wrap (q - 1) = (ib : Int) := by rw [IntKind.wrap_i64]; omega
          have hgo := HG.out
          rw [← hia, ← hib, getD_at hka, getD_at hkb] at hgo
          clear hI hI' HG HS hia hib
          generalize a[ia] = x at *
          generalize b[ib] = y at *
          by_cases he : x = y
          · subst he
            rw [decide_eq_true ⟨h0, h1, rfl⟩] at hgo
            subst hgo
            go_wp2_with fail
            go_quiet (fail)
            go_wp2_with fail
            go_meet
            case rel => exact ⟨rfl, _, drewN_add _ _ _⟩
          · rw [decide_eq_false (fun h => he h.2.2)] at hgo
            subst hgo
            have hne : (x == y) = false := by simpa using he
            go_wp2_with fail
            go_quiet (fail)
            go_wp2_with fail
            go_meet
            case rel => exact ⟨rfl, _, drewN_add _ _ _⟩
        · have hgo := HG.out
          rw [decide_eq_false (fun h => h1 h.2.1)] at hgo
          subst hgo
          have hd : decide (0 < q) = false := decide_eq_false h1
          clear HG
          go_wp2_with fail
          go_quiet (fail)
          go_wp2_with fail
          go_meet
          case rel => exact ⟨rfl, _, drewN_add _ _ _⟩
      · have hgo := HG.out
        rw [decide_eq_false (fun h => h0 h.1)] at hgo
        subst hgo
        have hd : decide (0 < p) = false := decide_eq_false h0
        clear HG
        go_wp2_with fail
        go_quiet (fail)
        go_wp2_with fail
        go_meet
        case rel => exact ⟨rfl, _, drewN_add _ _ _⟩
    case rest =>
      obtain ⟨rfl, q', rfl⟩ := hcut
      cases go with
      | true =>
        have HN := Lib.hid (sl_step HG.out HS.out)
        have h0 := HN.out.1
        have h1 := HN.out.2.1
        clear HG HS
        have w1 : IntKind.i64.wrap (p - 1) = p - 1 := by rw [IntKind.wrap_i64]; omega
        have w2 : IntKind.i64.wrap (q - 1) = q - 1 := by rw [IntKind.wrap_i64]; omega
        go_wp2_with fail
        go_roundg (p - 1).toNat
        case measure => omega
        case rel => exact ⟨p - 1, q - 1, rfl, rfl, by omega, by omega, Nat.le_refl _, ⟨_, rfl⟩, Lib.hid HN.out.2.2⟩
      | false =>
        obtain rfl := sl_stop HG.out HS.out
        clear HG HS
        go_wp2_with fail
        go_ret
        exact ⟨rfl, _, rfl⟩
end Go.Proofs.YtfndiggpnkjacaaDoor.M

namespace Go.Proofs.YtfndiggpnkjacaaDoor.M
set_option linter.unusedVariables false
set_option linter.unusedSimpArgs false
open Go.RowKit
open T
open V (IntsIn numCells numCells_snoc ints_own drawn_below)
open I (alloc1 own_at own_below)

/-- A block that is a row of numbers. -/
def Row (w : World) (g : Nat) (xs : List Int) : Prop := w.heap[g]? = some (.cells (numCells xs).toArray 3 (0, 0))
theorem Row.lt {w : World} {g : Nat} {xs : List Int} (h : Row w g xs) : g < w.heap.size := (Array.getElem?_eq_some_iff.1 h).1
theorem Row.cell {w : World} {g : Nat} {xs : List Int} (h : Row w g xs) {j : Nat} (hj : j < xs.length) : w.cell? ⟨g, j, none⟩ = some (.int .i64 xs[j]) := by
  rw [cell_of_row w g j _ _ _ h]
  simp [numCells, List.getElem?_eq_getElem hj]
theorem Row.cellD {w : World} {g : Nat} {xs : List Int} (h : Row w g xs) {j : Nat} (hj : j < xs.length) : w.cell? ⟨g, j, none⟩ = some (.int .i64 (xs.getD j 0)) := by
  rw [getD_at hj]; exact h.cell hj
theorem Row.free {w : World} {g : Nat} {xs : List Int} (h : Row w g xs) (j : Nat) : w.frozen? ⟨g, j, none⟩ = false := frozen_of_row w g j _ _ h
theorem Row.kept {w w' : World} {g : Nat} {xs : List Int} (h : Row w g xs) (hb : Below w.heap.size w w') : Row w' g xs := (hb.block g h.lt).trans h
theorem Row.set {w : World} {g : Nat} {xs : List Int} (h : Row w g xs) (j : Nat) (z : Int) : Row (w.setCell ⟨g, j, none⟩ (.int .i64 z)) g (xs.set j z) := by
  unfold Row
  rw [heap_setCell_same w g j _ _ _ h]
  simp [numCells, List.map_set]
theorem Row.ints {w : World} {g : Nat} {xs : List Int} (h : Row w g xs) : IntsIn w (some ⟨g, 0, none⟩) xs := fun _ => ⟨g, 0, rfl, h.lt, fun j hj => by rw [Nat.zero_add]; exact h.cell hj⟩
theorem getD_set {xs : List Int} {j k : Nat} {z : Int} (hj : j < xs.length) : (xs.set j z).getD k 0 = if k = j then z else xs.getD k 0 := by
  rw [List.getD_eq_getElem?_getD, List.getD_eq_getElem?_getD, List.getElem?_set]
  by_cases e : k = j
  · subst e; rw [if_pos rfl, if_pos rfl, if_pos hj]; rfl
  · rw [if_neg (fun q => e q.symm), if_neg e]
theorem infoI : (Tryd.prog.info? 3).map (fun i => (i.zero, i.size, i.bytes)) = some (some (.int .i64 0), 1, 8) := by kernel_rfl
theorem made_row (n : Nat) : madeCells #[.int .i64 0] n = (numCells (List.replicate n 0)).toArray := by
  have h := toList_madeCells_one (.int .i64 0) n
  rw [← Array.toList_inj, h]
  simp [numCells]

/-- What is worked out lies in bounds. -/
theorem Ro.bd {a b row : List Int} {n : Nat} (h : Ro a b n row) (k : Nat) (hon : on a b (n + 1) k) (hpar : (k + n + 1 + a.length + 1) % 2 = 0) : -((n : Int) + 1) ≤ bi row k ∧ bi row k ≤ a.length ∧ bi row k + 1 ≤ k ∧ -((n : Int) + 1) ≤ bi row k + b.length + 1 - k := by
  have hlen := h.len
  obtain ⟨o1, o2, o3, o4⟩ := hon
  have hbi : bi row k = min (row.getD (k + 1) 0 - 1) (row.getD (k - 1) 0) := rfl
  by_cases u : on a b n (k + 1)
  · have hu := h.near _ u
    by_cases v : on a b n (k - 1)
    · have hv := h.near _ v; omega
    · have hv := h.far (k - 1) (by omega) v
      by_cases q : k = a.length + b.length + 1
      · omega
      · omega
  · have hu := h.far (k + 1) (by omega) u
    by_cases v : on a b n (k - 1)
    · have hv := h.near _ v
      omega
    · have hv := h.far (k - 1) (by omega) v
      unfold on at u v
      omega
theorem Ro.val {a b row : List Int} {n : Nat} (h : Ro a b n row) {k : Nat} (hk : k < row.length) : -(n : Int) ≤ row.getD k 0 ∧ row.getD k 0 ≤ a.length + b.length + 1 := by
  by_cases u : on a b n k
  · have := h.near k u; omega
  · have := h.far k hk u; omega

set_option maxHeartbeats 1000000 in
set_option maxRecDepth 100000 in
theorem back_any (A B : Option Addr) (a b row : List Int) (g c c' rc k : Nat) (w : World) (hA : IntsIn w A a) (hB : IntsIn w B b) (hR : Row w g row) (ha : a.length ≤ 400) (hb : b.length ≤ 400) (hk1 : 1 ≤ k) (hk : k + 1 < row.length) (hl : row.length ≤ 1000)
    (hx : -1000 ≤ row.getD (k + 1) 0 ∧ row.getD (k + 1) 0 ≤ 1000) (hy : -1000 ≤ row.getD (k - 1) 0 ∧ row.getD (k - 1) 0 ≤ 1000) (hi : bi row k ≤ a.length) (hj : bi row k + 1 ≤ k) :
    Calls Tryd.prog 69 #[.slice A a.length c, .slice B b.length c', .slice (some ⟨g, 0, none⟩) row.length rc, .int .i64 (k : Int)] w fun e w' => e = .returned (.int .i64 (bk a b row k)) ∧ ∃ q, w' = w.drewN q := by
  have HA := Lib.hid hA
  have HB := Lib.hid hB
  have c0 := hR.cellD hk
  have c1 := hR.cellD (j := k - 1) (by omega)
  obtain ⟨x, hx0⟩ : ∃ x, x = row.getD (k + 1) 0 := ⟨_, rfl⟩
  obtain ⟨y, hy0⟩ : ∃ y, y = row.getD (k - 1) 0 := ⟨_, rfl⟩
  obtain ⟨p, hp0⟩ : ∃ p, p = bi row k := ⟨_, rfl⟩
  obtain ⟨r, hr0⟩ : ∃ r, r = bk a b row k := ⟨_, rfl⟩
  have hpm : min (x - 1) y = p := by rw [hp0, hx0, hy0]; rfl
  have hrb : Hid (r = sl a b p (p + b.length + 1 - k)) := by rw [hr0, hp0]; rfl
  rw [← hx0] at c0 hx
  rw [← hy0] at c1 hy
  rw [← hp0] at hi hj
  rw [← hr0]
  clear hx0 hy0 hp0 hr0 hA hB hR
  obtain ⟨m, hm⟩ : ∃ m : Nat, m = k - 1 := ⟨_, rfl⟩
  rw [← hm] at c1
  have w1 : IntKind.i64.wrap ((k : Int) + 1) = ((k + 1 : Nat) : Int) := by rw [IntKind.wrap_i64]; omega
  have w2 : IntKind.i64.wrap ((k : Int) - 1) = (m : Int) := by rw [IntKind.wrap_i64]; omega
  have w3 : IntKind.i64.wrap (x - 1) = x - 1 := by rw [IntKind.wrap_i64]; omega
  have k0 : (0 : Int) ≤ ((k + 1 : Nat) : Int) := by omega
  have k2 : ((k + 1 : Nat) : Int) < (row.length : Int) := by omega
  have k3 : (0 : Int) ≤ (m : Int) := by omega
  have k4 : (m : Int) < (row.length : Int) := by omega
  clear hm
  go_enter Tryd.func69, Tryd.ntmps69
  go_wp2_with fail
  go_quiet (fail)
  clear w1 w2 w3
  have hp1 : -1001 ≤ p := by omega
  have HPM := Lib.hid hpm
  clear hpm
  go_wp2_with fail
  with_reducible refine (slide_any A B a b c c' p (p + b.length + 1 - k) _ (HA.out.below (drawn_below _ _)) (HB.out.below (drawn_below _ _)) (by omega) (by omega) hi (by omega)).mono ?_
  rintro e w' ⟨rfl, q, rfl⟩
  go_wp2_with fail
  go_ret
  exact ⟨ret_of (by rw [hrb.out]; rfl), _, rfl⟩

theorem slide_at (A B : Option Addr) (a b : List Int) (la lb c c' : Nat) (i j : Int) (w : World) (h1 : la = a.length) (h2 : lb = b.length) (hA : IntsIn w A a) (hB : IntsIn w B b) (ha : la ≤ 1000) (hb : lb ≤ 1000) (hi : i ≤ la) (hj : j ≤ lb) :
    Calls Tryd.prog 68 #[.slice A la c, .slice B lb c', .int .i64 i, .int .i64 j] w fun e w' => e = .returned (.int .i64 (sl a b i j)) ∧ ∃ q, w' = w.drewN q := by
  subst h1 h2; exact slide_any A B a b c c' i j w hA hB ha hb hi hj
theorem back_at (A B : Option Addr) (a b row : List Int) (g la lb L c c' rc k : Nat) (z : Int) (w : World) (h1 : la = a.length) (h2 : lb = b.length) (h3 : L = row.length) (hz : bk a b row k = z) (hA : IntsIn w A a) (hB : IntsIn w B b) (hR : Row w g row) (ha : la ≤ 400) (hb : lb ≤ 400) (hk1 : 1 ≤ k) (hk : k + 1 < L) (hl : L ≤ 1000)
    (hx : -1000 ≤ row.getD (k + 1) 0 ∧ row.getD (k + 1) 0 ≤ 1000) (hy : -1000 ≤ row.getD (k - 1) 0 ∧ row.getD (k - 1) 0 ≤ 1000) (hi : bi row k ≤ la) (hj : bi row k + 1 ≤ k) :
    Calls Tryd.prog 69 #[.slice A la c, .slice B lb c', .slice (some ⟨g, 0, none⟩) L rc, .int .i64 (k : Int)] w fun e w' => e = .returned (.int .i64 z) ∧ ∃ q, w' = w.drewN q := by
  subst h1 h2 h3 hz; exact back_any A B a b row g c c' rc k w hA hB hR ha hb hk1 hk hl hx hy hi hj
/-- Numbers that are all the same. -/
def All (z : Int) (xs : List Int) : Prop := ∀ j, j < xs.length → xs.getD j 0 = z
theorem set_grown (w : World) (g j : Nat) (u : Value) {B : Nat} {w0 : World} (hb : Below B w0 w) (hg : B ≤ g) : Below B w0 (w.setCell ⟨g, j, none⟩ u) := hb.setCell (p := ⟨g, j, none⟩) hg u
set_option maxHeartbeats 1000000 in
set_option maxRecDepth 100000 in
theorem unreached_any (A B : Option Addr) (la lb c c' : Nat) (w : World) (ha : la ≤ 400) (hb : lb ≤ 400) :
    Calls Tryd.prog 67 #[.slice A la c, .slice B lb c'] w fun e w' => e = .returned (.slice (some ⟨w.heap.size, 0, none⟩) (la + lb + 3) (la + lb + 3)) ∧ ∃ xs : List Int, xs.length = la + lb + 3 ∧ All (la + lb + 1) xs ∧ Row w' w.heap.size xs ∧ Below w.heap.size w w' := by
  obtain ⟨n, hn⟩ : ∃ n : Nat, n = la + lb + 3 := ⟨_, rfl⟩
  have hmk := run_make_row' (P := Tryd.prog) 46 3 (.int .i64 0) 8 Tryd.underlying46 infoI rfl .i64 .i64 n (by omega) (by omega)
  have w1 : IntKind.i64.wrap ((la : Int) + lb + 3) = (n : Int) := by rw [IntKind.wrap_i64]; omega
  have HN := Lib.hid hn
  rw [← hn]
  have hn1 : n ≤ 1000 := by omega
  obtain ⟨W0, hW0⟩ : ∃ W : World, W = w.alloc (.cells (madeCells #[.int .i64 0] n) 3) := ⟨_, rfl⟩
  have HR0 := Lib.hid (show Row W0 w.heap.size (List.replicate n 0) by unfold Row; rw [hW0, made_row]; exact heap_alloc_new w _)
  have HB0 := Lib.hid (show Below w.heap.size w W0 by rw [hW0]; exact alloc1 _ _)
  clear hn
  go_enter Tryd.func67, Tryd.ntmps67
  go_wp2_with fail
  rw [← hW0]
  clear hW0 hmk w1
  obtain ⟨g, hg⟩ : ∃ g, g = w.heap.size := ⟨_, rfl⟩
  rw [← hg] at HR0 HB0 ⊢
  have HG := Lib.hid hg
  clear hg
  go_loopw [16] (fun i wr => ∃ (k : Nat) (xs : List Int), k ≤ n ∧ i = .int .i64 k ∧ xs.length = n ∧ Hid (∀ j, j < k → xs.getD j 0 = (la : Int) + lb + 1) ∧ Row wr g xs ∧ Below g w wr) (fun i _ => n - (intOf i).toNat)
  case atStart => exact ⟨0, _, Nat.zero_le _, rfl, by simp, Lib.hid (fun j h => absurd h (by omega)), HR0.out, HB0.out⟩
  case round =>
    obtain ⟨k, xs, hk, rfl, hxl, HX, hrow, hbl⟩ := hrel
    have HXL := Lib.hid hxl
    clear hxl
    by_cases hlt : k < n
    · have c0 := hrow.cellD (j := k) (by rw [HXL.out]; exact hlt)
      have f0 := hrow.free k
      have HROW := Lib.hid hrow
      have k0 : (0 : Int) ≤ (k : Int) := by omega
      have k1 : (k : Int) < (n : Int) := by omega
      clear hrow
      go_wp2_with fail
      go_roundw
      case rel =>
        refine ⟨k + 1, xs.set k ((la : Int) + lb + 1), by omega, by go_num, by rw [List.length_set]; exact HXL.out, Lib.hid (fun j hj => ?_), HROW.out.set k _, set_grown _ _ _ _ hbl (Nat.le_refl _)⟩
        rw [getD_set (by rw [HXL.out]; exact hlt)]
        by_cases e : j = k
        · rw [if_pos e]
        · rw [if_neg e]; exact HX.out j (by omega)
      case measure => simp [intOf]; omega
    · obtain rfl : k = n := by omega
      go_wp2_with fail
      go_ret
      exact ⟨ret_of (by rw [← HG.out]; rfl), xs, HXL.out, fun j hj => HX.out j (by rw [← HXL.out]; exact hj), by rw [← HG.out]; exact hrow, by rw [← HG.out]; exact hbl⟩
end Go.Proofs.YtfndiggpnkjacaaDoor.M
