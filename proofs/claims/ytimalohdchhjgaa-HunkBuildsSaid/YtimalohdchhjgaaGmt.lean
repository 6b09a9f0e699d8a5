/-
  The reference's Table: the distance of what is left behind each two places.
  The reference's Steps.
  The reference's Pairs, Same and Distance (layer 7).
-/
import Derived.Test.YtimalohdchhjgaaGmf
import Derived.StillTailTactics
import Derived.BigQuiet
namespace Go.Proofs.Ytimalohdchhjgaa.M
set_option linter.unusedVariables false
set_option linter.unusedSimpArgs false
open Go.RowKit
open T
open V (IntsIn numCells numCells_snoc ints_own drawn_below)
open I (alloc1 own_at own_below)

/-- A table's rows: their blocks, and what is in them. -/
structure Tb (w : World) (base G la lb : Nat) (gs : List Nat) (R : Nat → List Int) : Prop where
  len : gs.length = la + 1
  head : ∃ cs, w.heap[G]? = some (.cells cs 73 (0, 0))
  row : ∀ i (h : i < gs.length), w.cell? ⟨G, i, none⟩ = some (rowV (lb + 1) gs[i]) ∧ base ≤ gs[i] ∧ Row w gs[i] (R i) ∧ (R i).length = lb + 1
  apart : ∀ i j (hi : i < gs.length) (hj : j < gs.length), i ≠ j → gs[i] ≠ gs[j]
theorem Tb.draw {w : World} {base G la lb : Nat} {gs : List Nat} {R : Nat → List Int} (h : Tb w base G la lb gs R) (q : Nat) : Tb (w.drewN q) base G la lb gs R := ⟨h.len, h.head, h.row, h.apart⟩
theorem Tb.draw1 {w : World} {base G la lb : Nat} {gs : List Nat} {R : Nat → List Int} (h : Tb w base G la lb gs R) : Tb w.drew base G la lb gs R := ⟨h.len, h.head, h.row, h.apart⟩
theorem Tb.put {w : World} {base G la lb : Nat} {gs : List Nat} {R : Nat → List Int} (h : Tb w base G la lb gs R) {i : Nat} (hi : i < gs.length) (j : Nat) (z : Int) :
    Tb (w.setCell ⟨gs[i], j, none⟩ (.int .i64 z)) base G la lb gs (fun k => if k = i then (R i).set j z else R k) := by
  have hG : G ≠ gs[i] := fun e => by
    obtain ⟨cs, hc⟩ := h.head
    have := (h.row i hi).2.2.1
    unfold Row at this
    rw [← e, hc] at this
    injection this with this
    injection this with _ this
    exact absurd this (by decide)
  refine ⟨h.len, ?_, fun k hk => ?_, h.apart⟩
  · obtain ⟨cs, hc⟩ := h.head
    exact ⟨cs, (heap_setCell_other _ _ _ _ hG).trans hc⟩
  · obtain ⟨h1, h2, h3, h4⟩ := h.row k hk
    refine ⟨(World.cell?_of_block (a := ⟨G, k, none⟩) (heap_setCell_other _ _ _ _ hG)).trans h1, h2, ?_, ?_⟩
    · by_cases e : k = i
      · subst e; rw [if_pos rfl]; exact h3.set j z
      · rw [if_neg e]; exact (heap_setCell_other w ⟨gs[i], j, none⟩ gs[k] _ (h.apart k i hk hi e)).trans h3
    · by_cases e : k = i
      · subst e; rw [if_pos rfl, List.length_set]; exact h4
      · rw [if_neg e]; exact h4
/-- What has been worked out: all behind (z, y). -/
def Done (a b : List Int) (R : Nat → List Int) (z y : Int) : Prop := ∀ i j : Nat, i ≤ a.length → j ≤ b.length → (z < i ∨ z = i ∧ y < j) → (R i).getD j 0 = ((D a b i j : Nat) : Int)
theorem Done.put {a b : List Int} {R : Nat → List Int} {i j : Nat} (h : Done a b R i j) (hl : j < (R i).length) {z : Int} (hz : z = ((D a b i j : Nat) : Int)) : Done a b (fun k => if k = i then (R i).set j z else R k) i ((j : Int) - 1) := fun i' j' hi hj hc => by
  show (if i' = i then (R i).set j z else R i').getD j' 0 = _
  by_cases e : i' = i
  · subst e
    rw [if_pos rfl, getD_set hl]
    by_cases e2 : j' = j
    · subst e2; rw [if_pos rfl, hz]
    · rw [if_neg e2]; exact h _ _ hi hj (.inr ⟨rfl, by omega⟩)
  · rw [if_neg e]; exact h _ _ hi hj (.inl (by omega))
theorem Done.line {a b : List Int} {R : Nat → List Int} {z y : Int} (h : Done a b R z y) (hy : y < 0) : Done a b R (z - 1) b.length := fun i j hi hj hc => h i j hi hj (by omega)
def TabEnd (W : World) (a b : List Int) (e : Ending) (w' : World) : Prop := ∃ G cap gs R, e = .returned (.slice (some ⟨G, 0, none⟩) (a.length + 1) cap) ∧ W.heap.size ≤ G ∧ Tb w' W.heap.size G a.length b.length gs R ∧ (∀ i j : Nat, i ≤ a.length → j ≤ b.length → (R i).getD j 0 = ((D a b i j : Nat) : Int)) ∧ Below W.heap.size W w'
/-- The rows while they are laid: their blocks rise. -/
def Lays (w : World) (base lb : Nat) (gs : List Nat) : Prop := (∀ i (h : i < gs.length), base ≤ gs[i] ∧ gs[i] < w.heap.size ∧ Row w gs[i] (List.replicate (lb + 1) 0)) ∧ ∀ i j (hi : i < gs.length) (hj : j < gs.length), i < j → gs[i] < gs[j]
theorem Lays.nil (w : World) (base lb : Nat) : Lays w base lb [] := ⟨fun i h => by simp at h, fun i j hi => by simp at hi⟩
theorem Lays.kept {w w' : World} {base lb : Nat} {gs : List Nat} (h : Lays w base lb gs) (hb : Below w.heap.size w w') : Lays w' base lb gs :=
  ⟨fun i hi => by obtain ⟨h1, h2, h3⟩ := h.1 i hi; exact ⟨h1, Nat.lt_of_lt_of_le h2 hb.size, h3.kept hb⟩, h.2⟩
theorem Lays.grown {w w' : World} {base lb : Nat} {gs : List Nat} (h : Lays w base lb gs) {base' n size : Nat} {v : Value} {zs : List Value} (hown : w.ownsRow base' 73 size v n zs) (hg : w.grownBy w' v.ownBlock) : Lays w' base lb gs :=
  ⟨fun i hi => by obtain ⟨h1, h2, h3⟩ := h.1 i hi; exact ⟨h1, Nat.lt_of_lt_of_le h2 hg.size, h3.grown hown hg⟩, h.2⟩
theorem Lays.snoc {w : World} {base lb : Nat} {gs : List Nat} (h : Lays w base lb gs) {g : Nat} (h1 : base ≤ g) (h2 : ∀ i (hi : i < gs.length), gs[i] < g) (h3 : Row w g (List.replicate (lb + 1) 0)) : Lays w base lb (gs ++ [g]) := by
  refine ⟨fun i hi => ?_, fun i j hi hj hij => ?_⟩
  · by_cases e : i < gs.length
    · rw [List.getElem_append_left e]; exact h.1 i e
    · obtain rfl : i = gs.length := by simp at hi; omega
      rw [List.getElem_append_right (Nat.le_refl _)]
      simp only [Nat.sub_self, List.getElem_cons_zero]
      exact ⟨h1, h3.lt, h3⟩
  · by_cases e : j < gs.length
    · rw [List.getElem_append_left e, List.getElem_append_left (by omega)]; exact h.2 i j _ _ hij
    · obtain rfl : j = gs.length := by simp at hj; omega
      rw [List.getElem_append_left (by omega), List.getElem_append_right (Nat.le_refl _)]
      simp only [Nat.sub_self, List.getElem_cons_zero]
      exact h2 i _
theorem Lays.tb {w : World} {base base' la lb cap : Nat} {A : Option Addr} {gs : List Nat} (h : Lays w base lb gs) (hl : gs.length = la + 1) (hown : w.ownsRow base' 73 1 (.slice A gs.length cap) gs.length (gs.map (rowV (lb + 1)))) :
    ∃ G, A = some ⟨G, 0, none⟩ ∧ base' ≤ G ∧ Tb w base G la lb gs (fun _ => List.replicate (lb + 1) 0) := by
  rcases hown.2 with ⟨_, e⟩ | ⟨g, cap', cur, e, hb, hh, hc, hm, hs, ht⟩
  · omega
  · injection e with e1 e2 e3
    refine ⟨g, e1, hb, hl, ⟨cur, hh⟩, fun m hm => ?_, fun i j hi hj hne => ?_⟩
    · obtain ⟨h1, h2, h3⟩ := h.1 m hm
      refine ⟨?_, h1, h3, by simp⟩
      rw [cell_of_row w g m cur _ _ hh]
      have : (cur.toList.take (gs.length * 1))[m]? = (gs.map (rowV (lb + 1)))[m]? := by rw [ht]
      rw [Nat.mul_one, List.getElem?_take, if_pos hm, List.getElem?_map, List.getElem?_eq_getElem hm] at this
      simpa using this
    · rcases Nat.lt_or_gt_of_ne hne with q | q
      · exact Nat.ne_of_lt (h.2 i j hi hj q)
      · exact (Nat.ne_of_lt (h.2 j i hj hi q)).symm

end Go.Proofs.Ytimalohdchhjgaa.M

namespace Go.Proofs.Ytimalohdchhjgaa.M
set_option linter.unusedVariables false
set_option linter.unusedSimpArgs false
open Go.RowKit
open T
open V (IntsIn numCells numCells_snoc ints_own drawn_below)
open I (alloc1 own_at own_below)

theorem Tb.kept {w w' : World} {base G la lb : Nat} {gs : List Nat} {R : Nat → List Int} (h : Tb w base G la lb gs R) (hb : Below w.heap.size w w') : Tb w' base G la lb gs R := by
  obtain ⟨cs, hc⟩ := h.head
  have hG := (Array.getElem?_eq_some_iff.1 hc).1
  refine ⟨h.len, ⟨cs, (hb.block G hG).trans hc⟩, fun i hi => ?_, h.apart⟩
  obtain ⟨h1, h2, h3, h4⟩ := h.row i hi
  exact ⟨(hb.cell (p := ⟨G, i, none⟩) hG).trans h1, h2, h3.kept hb, h4⟩
theorem Tb.keptT {w w' : World} {base G la lb n0 : Nat} {gs : List Nat} {R : Nat → List Int} (h : Tb w base G la lb gs R) (hb : KpT n0 w w') : Tb w' base G la lb gs R := by
  obtain ⟨cs, hc⟩ := h.head
  have e := hb.2 G cs _ hc (.inr rfl)
  refine ⟨h.len, ⟨cs, e.trans hc⟩, fun i hi => ?_, h.apart⟩
  obtain ⟨h1, h2, h3, h4⟩ := h.row i hi
  exact ⟨(World.cell?_of_block (a := ⟨G, i, none⟩) e).trans h1, h2, (hb.2 _ _ _ h3 (.inl rfl)).trans h3, h4⟩
/-- Behind an append to a row of other elements. -/
theorem kpt_app {W w4 : World} {base size n : Nat} {v : Value} {e : TypeId} {xs : List Value} {o : Obj} (hown : W.ownsRow base e size v n xs) (he : e ≠ 3 ∧ e ≠ 73) (hbs : base ≤ W.heap.size) (hg : (W.alloc o).grownBy w4 v.ownBlock) : KpT base W w4 := by
  refine ⟨((alloc1 W o).mono hbs).grown hg (by simp; omega) (fun k ek => own_base hown k ek), fun k cs t hk ht => ?_⟩
  have hkl := lt_of_block hk
  rw [hg.block k (by simp; omega) (fun ek => ?_)]
  · exact (alloc1 W o).block k hkl
  · rcases hown.2 with ⟨rfl, _⟩ | ⟨g, cap, cur, rfl, _, hh, _⟩
    · simp [Value.ownBlock] at ek
    · simp only [Value.ownBlock, Option.some.injEq] at ek
      subst ek
      rw [hk] at hh; injection hh with hh; injection hh with _ hh
      rcases ht with rfl | rfl
      · exact he.1 hh.symm
      · exact he.2 hh.symm
theorem Tb.at {w : World} {base G la lb : Nat} {gs : List Nat} {R : Nat → List Int} (h : Tb w base G la lb gs R) {i j : Nat} (hi : i ≤ la) (hj : j ≤ lb) : ∃ g, w.cell? ⟨G, i, none⟩ = some (.slice (some ⟨g, 0, none⟩) (lb + 1) (lb + 1)) ∧ w.cell? ⟨g, j, none⟩ = some (.int .i64 ((R i).getD j 0)) := by
  have hl : i < gs.length := by rw [h.len]; omega
  obtain ⟨h1, h2, h3, h4⟩ := h.row i hl
  exact ⟨gs[i], h1, h3.cellD (by rw [h4]; omega)⟩
theorem way_keep {a b : List Int} {i j : Nat} {s X : List Int} (h : X = s ++ Wy a b i j) (hk : kept a b i j = true) : X = (s ++ [1]) ++ Wy a b (i + 1) (j + 1) := by rw [h, (Wy_kept hk).1]; simp
theorem way_out {a b : List Int} {i j : Nat} {s X : List Int} (h : X = s ++ Wy a b i j) (hk : kept a b i j = false) (ho : outs a b i j = true) : X = (s ++ [2]) ++ Wy a b (i + 1) j := by rw [h, (Wy_out hk ho).1]; simp
theorem way_in {a b : List Int} {i j : Nat} {s X : List Int} (h : X = s ++ Wy a b i j) (hk : kept a b i j = false) (ho : outs a b i j = false) (hj : j < b.length) : X = (s ++ [3]) ++ Wy a b i (j + 1) := by rw [h, (Wy_in hk ho hj).1]; simp

end Go.Proofs.Ytimalohdchhjgaa.M

namespace Go.Proofs.Ytimalohdchhjgaa.M
set_option linter.unusedVariables false
set_option linter.unusedSimpArgs false
open Go.RowKit
open T
open V (IntsIn numCells numCells_snoc ints_own drawn_below)
open I (alloc1 own_at own_below)
open N (prCells prCells_snoc prCells_length)

theorem way_mem : ∀ (n : Nat) (a b : List Int), a.length + b.length ≤ n → ∀ t ∈ way a b, t = 1 ∨ t = 2 ∨ t = 3
  | _, [], [], _ => by simp [way]
  | 0, [], y :: b, h => by simp at h
  | 0, x :: a, _, h => by simp at h
  | n + 1, [], y :: b, h => by
    have := way_mem n [] b (by simp at h ⊢; omega)
    rw [way]; intro t ht
    rcases List.mem_cons.1 ht with rfl | ht
    · simp
    · exact this t ht
  | n + 1, x :: a, [], h => by
    have := way_mem n a [] (by simp at h ⊢; omega)
    rw [way]; intro t ht
    rcases List.mem_cons.1 ht with rfl | ht
    · simp
    · exact this t ht
  | n + 1, x :: a, y :: b, h => by
    simp only [List.length_cons] at h
    have h1 := way_mem n a b (by omega)
    have h2 := way_mem n a (y :: b) (by simp; omega)
    have h3 := way_mem n (x :: a) b (by simp; omega)
    rw [way]; intro t ht
    split at ht
    · rcases List.mem_cons.1 ht with rfl | ht
      · simp
      · exact h1 t ht
    · split at ht
      · rcases List.mem_cons.1 ht with rfl | ht
        · simp
        · exact h2 t ht
      · rcases List.mem_cons.1 ht with rfl | ht
        · simp
        · exact h3 t ht
/-- Where one is behind steps. -/
def ci (l : List Int) : Nat := (l.filter fun t => t ≠ 3).length
def cj (l : List Int) : Nat := (l.filter fun t => t ≠ 2).length
theorem told_snoc : ∀ (l : List Int) (i j : Nat) (t : Int), told i j (l ++ [t]) = told i j l ++ [(t, i + ci l, j + cj l)]
  | [], i, j, t => by simp [told, ci, cj]
  | s :: r, i, j, t => by
    rw [List.cons_append, told, told, told_snoc r, List.cons_append]
    congr 3
    have e1 : (if s = 3 then i else i + 1) + ci r = i + ci (s :: r) := by
      unfold ci
      by_cases h : s = 3
      · rw [if_pos h, List.filter_cons_of_neg (by simpa using h)]
      · rw [if_neg h, List.filter_cons_of_pos (by simpa using h), List.length_cons]; omega
    have e2 : (if s = 2 then j else j + 1) + cj r = j + cj (s :: r) := by
      unfold cj
      by_cases h : s = 2
      · rw [if_pos h, List.filter_cons_of_neg (by simpa using h)]
      · rw [if_neg h, List.filter_cons_of_pos (by simpa using h), List.length_cons]; omega
    rw [e1, e2]
theorem ci_snoc (l : List Int) (t : Int) : ci (l ++ [t]) = ci l + if t = 3 then 0 else 1 := by
  unfold ci
  rw [List.filter_append, List.length_append]
  congr 1
  by_cases h : t = 3 <;> simp [h]
theorem cj_snoc (l : List Int) (t : Int) : cj (l ++ [t]) = cj l + if t = 2 then 0 else 1 := by
  unfold cj
  rw [List.filter_append, List.length_append]
  congr 1
  by_cases h : t = 2 <;> simp [h]
/-- The pairs of the first steps. -/
def pk (s : List Int) (k : Nat) : List (Int × Int) := prs (told 0 0 (s.take k))
theorem pk_next {s : List Int} {k : Nat} (hk : k < s.length) : pk s (k + 1) = pk s k ++ (if s[k] = 1 then [(((ci (s.take k) : Nat) : Int), ((cj (s.take k) : Nat) : Int))] else []) ∧ ci (s.take (k + 1)) = ci (s.take k) + (if s[k] = 3 then 0 else 1) ∧ cj (s.take (k + 1)) = cj (s.take k) + (if s[k] = 2 then 0 else 1) := by
  refine ⟨?_, ?_, ?_⟩
  · unfold pk
    rw [List.take_succ_eq_append_getElem hk, told_snoc, prs_snoc]
    simp
  · rw [List.take_succ_eq_append_getElem hk, ci_snoc]
  · rw [List.take_succ_eq_append_getElem hk, cj_snoc]
theorem pk_le (s : List Int) (k : Nat) : (pk s k).length ≤ k ∧ ci (s.take k) ≤ k ∧ cj (s.take k) ≤ k := by
  refine ⟨?_, ?_, ?_⟩
  · refine Nat.le_trans (prs_le _) ?_
    rw [← List.length_map (f := (·.1)), told_steps]
    exact List.length_take_le _ _
  · exact Nat.le_trans (List.length_filter_le _ _) (List.length_take_le _ _)
  · exact Nat.le_trans (List.length_filter_le _ _) (List.length_take_le _ _)

end Go.Proofs.Ytimalohdchhjgaa.M
