/-
  Plain facts on the order of labels.
  What one sees of items, in plain words; what the reference's loops come to.
  The contract of label's Top.
  The contracts of label's Cats and Of.
  The contract of label's Of.
  The contracts of the reference's Has, Right and Below for labels.
  Rows of bytes in memory, and the contract of text.cut.
-/
import Derived.Test.YthkdpokdmkkdjaaDoorGhc
import Derived.Deep.LoopGhost
import Derived.Deep.QuietTactic
import Derived.BigQuiet
import Derived.Laws.Rows
import Derived.Laws.BytesArg
namespace Go.Proofs.YthkdpokdmkkdjaaDoor.L

theorem sub_iff (c d : Nat) : c ||| d = d ↔ ∀ i, c.testBit i = true → d.testBit i = true := by
  constructor
  · intro h i hi
    rw [← h, Nat.testBit_or, hi]; rfl
  · intro h
    apply Nat.eq_of_testBit_eq
    intro i
    rw [Nat.testBit_or]
    cases hb : c.testBit i with
    | false => simp
    | true => rw [h i hb]; rfl
theorem below_iff (l m : Int) (c d : Nat) : belowB l c m d = true ↔ l ≤ m ∧ ∀ i, c.testBit i = true → d.testBit i = true := by
  unfold belowB
  rw [Bool.and_eq_true, decide_eq_true_iff, beq_iff_eq, sub_iff]
theorem below_meet (n l m : Int) (e c d : Nat) (h : belowB n e l c = true) : belowB n e m d = belowB n e (min l m) (c &&& d) := by
  rw [below_iff] at h
  rw [Bool.eq_iff_iff, below_iff, below_iff]
  constructor
  · rintro ⟨h1, h2⟩
    exact ⟨by omega, fun i hi => by rw [Nat.testBit_and, h.2 i hi, h2 i hi]; rfl⟩
  · rintro ⟨h1, h2⟩
    refine ⟨by omega, fun i hi => ?_⟩
    have := h2 i hi
    rw [Nat.testBit_and, Bool.and_eq_true] at this
    exact this.2
theorem below_join (l m n : Int) (c d e : Nat) : belowB (max l m) (c ||| d) n e = (belowB l c n e && belowB m d n e) := by
  rw [Bool.eq_iff_iff, Bool.and_eq_true, below_iff, below_iff, below_iff]
  constructor
  · rintro ⟨h1, h2⟩
    exact ⟨⟨by omega, fun i hi => h2 i (by rw [Nat.testBit_or, hi]; rfl)⟩, by omega, fun i hi => h2 i (by rw [Nat.testBit_or, hi, Bool.or_true])⟩
  · rintro ⟨⟨h1, h2⟩, h3, h4⟩
    refine ⟨by omega, fun i hi => ?_⟩
    rw [Nat.testBit_or, Bool.or_eq_true] at hi
    rcases hi with hi | hi
    · exact h2 i hi
    · exact h4 i hi
theorem and_of_or (c d : Nat) : c ||| d = d ↔ c &&& d = c := by
  rw [sub_iff]
  constructor
  · intro h
    apply Nat.eq_of_testBit_eq
    intro i
    rw [Nat.testBit_and]
    cases hb : c.testBit i with
    | false => rfl
    | true => rw [h i hb]; rfl
  · intro h i hi
    rw [← h, Nat.testBit_and, Bool.and_eq_true] at hi
    exact hi.2
theorem below_refl (l : Int) (c : Nat) : belowB l c l c = true := (below_iff _ _ _ _).2 ⟨Int.le_refl _, fun _ h => h⟩
theorem below_trans {l m n : Int} {c d e : Nat} (h : belowB l c m d = true) (h' : belowB m d n e = true) : belowB l c n e = true := by
  rw [below_iff] at h h' ⊢
  exact ⟨Int.le_trans h.1 h'.1, fun i hi => h'.2 i (h.2 i hi)⟩
theorem below_anti {l m : Int} {c d : Nat} (h : belowB l c m d = true) (h' : belowB m d l c = true) : l = m ∧ c = d := by
  rw [below_iff] at h h'
  refine ⟨Int.le_antisymm h.1 h'.1, Nat.eq_of_testBit_eq fun i => ?_⟩
  cases hb : c.testBit i with
  | true => rw [h.2 i hb]
  | false =>
    cases hd : d.testBit i with
    | true => rw [h'.2 i hd] at hb; cases hb
    | false => rfl
theorem below_j1 (l m : Int) (c d : Nat) : belowB l c (max l m) (c ||| d) = true := (below_iff _ _ _ _).2 ⟨by omega, fun i hi => by rw [Nat.testBit_or, hi]; rfl⟩
theorem below_j2 (l m : Int) (c d : Nat) : belowB m d (max l m) (c ||| d) = true := (below_iff _ _ _ _).2 ⟨by omega, fun i hi => by rw [Nat.testBit_or, hi, Bool.or_true]⟩
theorem below_m1 (l m : Int) (c d : Nat) : belowB (min l m) (c &&& d) l c = true := (below_iff _ _ _ _).2 ⟨by omega, fun i hi => by rw [Nat.testBit_and, Bool.and_eq_true] at hi; exact hi.1⟩
theorem below_m2 (l m : Int) (c d : Nat) : belowB (min l m) (c &&& d) m d = true := (below_iff _ _ _ _).2 ⟨by omega, fun i hi => by rw [Nat.testBit_and, Bool.and_eq_true] at hi; exact hi.2⟩
theorem below_bot {l : Int} (c : Nat) (h : 0 ≤ l) : belowB 0 0 l c = true := (below_iff _ _ _ _).2 ⟨h, fun i hi => by simp at hi⟩
theorem below_top {l : Int} {c : Nat} (h : l ≤ 15) (hc : c < 18446744073709551616) : belowB l c 15 18446744073709551615 = true := by
  refine (below_iff _ _ _ _).2 ⟨h, fun i hi => ?_⟩
  have hi64 : i < 64 := by
    rcases Nat.lt_or_ge i 64 with h | h
    · exact h
    · rw [Nat.testBit_lt_two_pow (Nat.lt_of_lt_of_le hc (Nat.pow_le_pow_right (n := 2) (by omega) h))] at hi
      cases hi
  rw [show 18446744073709551615 = 2 ^ 64 - 1 by rfl, Nat.testBit_two_pow_sub_one]
  simpa using hi64
end Go.Proofs.YthkdpokdmkkdjaaDoor.L

namespace Go.Proofs.YthkdpokdmkkdjaaDoor.V
set_option linter.unusedVariables false
set_option linter.unusedSimpArgs false
open I (It Lb)

/-- Does a label's reader see an item? -/
def sees (o : Lb) (x : It) : Bool := L.belowB x.lv x.ct o.1 o.2
def cut (o : Lb) (l : List It) : List It := l.filter (sees o)
/-- The places of the items that are seen, counted from a number on. -/
def ats (o : Lb) : Nat → List It → List Nat
  | _, [] => []
  | k, x :: r => if sees o x = true then k :: ats o (k + 1) r else ats o (k + 1) r
def txt (h : List UInt8) (x : It) : List UInt8 := if x.an = true then h else x.tx
/-- Lines of items: none is Bare but the last one. -/
def lns (h : List UInt8) : List It → List (List UInt8 × Bool)
  | [] => []
  | [x] => [(txt h x, x.ba)]
  | x :: y :: r => (txt h x, false) :: lns h (y :: r)
/-- The place of the last item that is seen. -/
def lst (o : Lb) : Nat → Int → List It → Int
  | _, z, [] => z
  | k, z, x :: r => lst o (k + 1) (if sees o x = true then (k : Int) else z) r
/-- The lines as the reference makes them, the last one's place being known. -/
def rln (o : Lb) (h : List UInt8) (last : Int) : Nat → List It → List (List UInt8 × Bool)
  | _, [] => []
  | k, x :: r => if sees o x = true then (txt h x, decide ((k : Int) = last) && x.ba) :: rln o h last (k + 1) r else rln o h last (k + 1) r
theorem cut_snoc (o : Lb) (l : List It) (x : It) : cut o (l ++ [x]) = cut o l ++ (if sees o x = true then [x] else []) := by
  unfold cut
  rw [List.filter_append]
  congr 1
  by_cases h : sees o x = true <;> simp [h]
theorem ats_snoc (o : Lb) (x : It) : ∀ (l : List It) (k : Nat), ats o k (l ++ [x]) = ats o k l ++ (if sees o x = true then [k + l.length] else [])
  | [], k => by simp [ats]
  | y :: r, k => by
    rw [List.cons_append, ats, ats, ats_snoc o x r (k + 1), List.length_cons, show k + 1 + r.length = k + (r.length + 1) by omega]
    split <;> rfl
theorem lst_snoc (o : Lb) (x : It) : ∀ (l : List It) (k : Nat) (z : Int), lst o k z (l ++ [x]) = if sees o x = true then ((k + l.length : Nat) : Int) else lst o k z l
  | [], k, z => by simp [lst]
  | y :: r, k, z => by
    rw [List.cons_append, lst, lst, lst_snoc o x r (k + 1), List.length_cons, show k + 1 + r.length = k + (r.length + 1) by omega]
theorem rln_snoc (o : Lb) (h : List UInt8) (last : Int) (x : It) : ∀ (l : List It) (k : Nat), rln o h last k (l ++ [x]) = rln o h last k l ++ (if sees o x = true then [(txt h x, decide (((k + l.length : Nat) : Int) = last) && x.ba)] else [])
  | [], k => by simp [rln]
  | y :: r, k => by
    rw [List.cons_append, rln, rln, rln_snoc o h last x r (k + 1), List.length_cons, show k + 1 + r.length = k + (r.length + 1) by omega]
    split <;> rfl
theorem lst_none (o : Lb) : ∀ (l : List It) (k : Nat) (z : Int), cut o l = [] → lst o k z l = z
  | [], _, _, _ => rfl
  | x :: r, k, z, h => by
    by_cases hx : sees o x = true
    · simp [cut, hx] at h
    · rw [lst, if_neg hx]
      exact lst_none o r (k + 1) z (by simpa [cut, hx] using h)
theorem lst_some (o : Lb) : ∀ (l : List It) (k : Nat) (z : Int), cut o l ≠ [] → (k : Int) ≤ lst o k z l
  | [], _, _, h => absurd rfl h
  | x :: r, k, z, h => by
    rw [lst]
    by_cases hr : cut o r = []
    · rw [lst_none o r _ _ hr]
      by_cases hx : sees o x = true
      · rw [if_pos hx]; exact Int.le_refl _
      · exact absurd (by simpa [cut, hx] using hr) h
    · have := lst_some o r (k + 1) (if sees o x = true then (k : Int) else z) hr
      omega
theorem rln_is (o : Lb) (h : List UInt8) : ∀ (l : List It) (k : Nat) (z : Int), z < (k : Int) → rln o h (lst o k z l) k l = lns h (cut o l)
  | [], _, _, _ => rfl
  | x :: r, k, z, hz => by
    rw [rln, lst]
    by_cases hx : sees o x = true
    · rw [if_pos hx, if_pos hx, rln_is o h r (k + 1) k (by omega)]
      have hc : cut o (x :: r) = x :: cut o r := by simp [cut, hx]
      rw [hc]
      by_cases hr : cut o r = []
      · rw [lst_none o r _ _ hr, hr, decide_eq_true rfl, Bool.true_and]; rfl
      · have := lst_some o r (k + 1) (k : Int) hr
        rw [decide_eq_false (by omega), Bool.false_and]
        cases hq : cut o r with
        | nil => exact absurd hq hr
        | cons y q => rfl
    · rw [if_neg hx, if_neg hx, rln_is o h r (k + 1) z (by omega)]
      have hc : cut o (x :: r) = cut o r := by simp [cut, hx]
      rw [hc]
theorem ats_length (o : Lb) : ∀ (l : List It) (k : Nat), (ats o k l).length = (cut o l).length
  | [], _ => rfl
  | x :: r, k => by
    rw [ats]
    by_cases hx : sees o x = true
    · rw [if_pos hx, List.length_cons, ats_length o r (k + 1)]; simp [cut, hx]
    · rw [if_neg hx, ats_length o r (k + 1)]; simp [cut, hx]
theorem lns_length (h : List UInt8) : ∀ l : List It, (lns h l).length = l.length
  | [] => rfl
  | [_] => rfl
  | _ :: y :: r => by rw [lns, List.length_cons, lns_length h (y :: r)]; rfl
theorem lns_text (h : List UInt8) : ∀ l : List It, (lns h l).map (·.1) = l.map (txt h)
  | [] => rfl
  | [_] => rfl
  | _ :: y :: r => by rw [lns, List.map_cons, lns_text h (y :: r)]; rfl
theorem lns_bare (h : List UInt8) : ∀ (l : List It) (j : Nat) (hj : j < (lns h l).length) (hj' : j < l.length), (lns h l)[j].2 = (decide (j + 1 = l.length) && l[j].ba)
  | [x], 0, _, _ => by simp [lns]
  | x :: y :: r, 0, _, _ => by simp [lns]
  | x :: y :: r, j + 1, hj, hj' => by
    have := lns_bare h (y :: r) j (by simpa [lns] using hj) (by simpa using hj')
    simp only [lns, List.getElem_cons_succ, List.length_cons] at this ⊢
    rw [this]
    congr 1
    simp
/-- The lines while items are gone through, none being Bare yet. -/
def bln (h : List UInt8) (l : List It) : List (List UInt8 × Bool) := l.map fun x => (txt h x, false)
theorem lns_snoc (h : List UInt8) (x : It) : ∀ l : List It, lns h (l ++ [x]) = bln h l ++ [(txt h x, x.ba)]
  | [] => rfl
  | [_] => rfl
  | y :: z :: r => by
    have := lns_snoc h x (z :: r)
    simp only [List.cons_append] at this ⊢
    rw [lns, this]
    rfl
theorem cut_cut (o : Lb) (l : List It) : cut o (cut o l) = cut o l := by simp [cut, List.filter_filter]
theorem sees_join (o m : Lb) (x : It) (h : sees o x = true) : sees (max o.1 m.1, o.2 ||| m.2) x = true := L.below_trans h (L.below_j1 _ _ _ _)
/-- What a place tells. -/
theorem ats_get (o : Lb) : ∀ (l : List It) (k j : Nat) (hj : j < (ats o k l).length), ∃ hi : (ats o k l)[j] - k < l.length, k ≤ (ats o k l)[j] ∧ sees o l[(ats o k l)[j] - k] = true ∧ (cut o l)[j]? = some l[(ats o k l)[j] - k]
  | [], _, _, hj => by simp [ats] at hj
  | x :: r, k, j, hj => by
    by_cases hx : sees o x = true
    · have e : ats o k (x :: r) = k :: ats o (k + 1) r := by rw [ats, if_pos hx]
      have hc : cut o (x :: r) = x :: cut o r := by simp [cut, hx]
      cases j with
      | zero => simp only [e, hc, List.getElem_cons_zero, Nat.sub_self]; exact ⟨by simp, Nat.le_refl _, hx, rfl⟩
      | succ j =>
        simp only [e, hc, List.getElem_cons_succ]
        obtain ⟨hi, h1, h2, h3⟩ := ats_get o r (k + 1) j (by rw [e] at hj; simpa using hj)
        have e2 : (ats o (k + 1) r)[j]'(by rw [e] at hj; simpa using hj) - k = ((ats o (k + 1) r)[j]'(by rw [e] at hj; simpa using hj) - (k + 1)) + 1 := by omega
        refine ⟨by rw [e2]; simpa using hi, by omega, ?_, ?_⟩
        · simp only [e2, List.getElem_cons_succ]; exact h2
        · simp only [e2, List.getElem_cons_succ, List.getElem?_cons_succ]; exact h3
    · have e : ats o k (x :: r) = ats o (k + 1) r := by rw [ats, if_neg hx]
      have hc : cut o (x :: r) = cut o r := by simp [cut, hx]
      simp only [e, hc]
      obtain ⟨hi, h1, h2, h3⟩ := ats_get o r (k + 1) j (by rw [e] at hj; exact hj)
      have e2 : (ats o (k + 1) r)[j]'(by rw [e] at hj; exact hj) - k = ((ats o (k + 1) r)[j]'(by rw [e] at hj; exact hj) - (k + 1)) + 1 := by omega
      refine ⟨by rw [e2]; simpa using hi, by omega, ?_, ?_⟩
      · simp only [e2, List.getElem_cons_succ]; exact h2
      · simp only [e2, List.getElem_cons_succ]; exact h3
theorem ats_ge (o : Lb) : ∀ (l : List It) (k : Nat), ∀ a ∈ ats o k l, k ≤ a
  | [], _, _, h => by simp [ats] at h
  | x :: r, k, a, h => by
    rw [ats] at h
    split at h
    · rcases List.mem_cons.1 h with rfl | h
      · exact Nat.le_refl _
      · have := ats_ge o r (k + 1) a h; omega
    · have := ats_ge o r (k + 1) a h; omega
/-- The places rise. -/
theorem ats_rise (o : Lb) : ∀ (l : List It) (k : Nat), (ats o k l).Pairwise (· < ·)
  | [], _ => .nil
  | x :: r, k => by
    rw [ats]
    split
    · exact List.pairwise_cons.2 ⟨fun a h => by have := ats_ge o r (k + 1) a h; omega, ats_rise o r (k + 1)⟩
    · exact ats_rise o r (k + 1)
theorem ats_lt (o : Lb) {l : List It} {k i j : Nat} (hj : j < (ats o k l).length) (hij : i < j) : (ats o k l)[i]'(by omega) < (ats o k l)[j] :=
  List.pairwise_iff_getElem.1 (ats_rise o l k) i j (by omega) hj hij
/-- Who reads more sees each place, too. -/
theorem ats_more (o m : Lb) : ∀ (l : List It) (k : Nat), ∀ a ∈ ats o k l, a ∈ ats (max o.1 m.1, o.2 ||| m.2) k l
  | [], _, _, h => h
  | x :: r, k, a, h => by
    rw [ats] at h ⊢
    by_cases hx : sees o x = true
    · rw [if_pos hx] at h
      rw [if_pos (sees_join o m x hx)]
      rcases List.mem_cons.1 h with rfl | h
      · exact List.mem_cons_self
      · exact List.mem_cons_of_mem _ (ats_more o m r (k + 1) a h)
    · rw [if_neg hx] at h
      have := ats_more o m r (k + 1) a h
      split
      · exact List.mem_cons_of_mem _ this
      · exact this
/-- What lies ahead of where an item is put in, to stand ahead of line k, is seen as k lines. -/
theorem cut_ahead (o : Lb) : ∀ (l : List It) (s k : Nat) (hk : k < (ats o s l).length), cut o (l.take ((ats o s l)[k] - s + 1)) = (cut o l).take (k + 1)
  | [], _, _, hk => by simp [ats] at hk
  | x :: r, s, k, hk => by
    by_cases hx : sees o x = true
    · have e : ats o s (x :: r) = s :: ats o (s + 1) r := by rw [ats, if_pos hx]
      have hc : ∀ q, cut o (x :: q) = x :: cut o q := fun q => by simp [cut, hx]
      cases k with
      | zero => simp only [e, List.getElem_cons_zero, Nat.sub_self, Nat.zero_add, List.take_succ_cons, List.take_zero, hc]; rfl
      | succ k =>
        have hk' : k < (ats o (s + 1) r).length := by rw [e] at hk; simpa using hk
        have hg := (ats_get o r (s + 1) k hk').2.1
        have ih := cut_ahead o r (s + 1) k hk'
        simp only [e, List.getElem_cons_succ]
        rw [show (ats o (s + 1) r)[k] - s + 1 = ((ats o (s + 1) r)[k] - (s + 1) + 1) + 1 by omega, List.take_succ_cons, hc, hc, ih, List.take_succ_cons]
    · have e : ats o s (x :: r) = ats o (s + 1) r := by rw [ats, if_neg hx]
      have hc : ∀ q, cut o (x :: q) = cut o q := fun q => by simp [cut, hx]
      have hk' : k < (ats o (s + 1) r).length := by rw [e] at hk; exact hk
      have hg := (ats_get o r (s + 1) k hk').2.1
      have ih := cut_ahead o r (s + 1) k hk'
      simp only [e]
      rw [show (ats o (s + 1) r)[k] - s + 1 = ((ats o (s + 1) r)[k] - (s + 1) + 1) + 1 by omega, List.take_succ_cons, hc, hc, ih]
end Go.Proofs.YthkdpokdmkkdjaaDoor.V

namespace Go.Proofs.YthkdpokdmkkdjaaDoor.L
open Go.RowKit
open T

theorem blk_cell {w : World} {g : Nat} {t : TypeId} {cs : Array Value} (h : w.heap[g]? = some (.cells cs t (0, 0))) (i : Nat) : w.cell? ⟨g, i, none⟩ = cs[i]? := cell_of_row w g i cs t (0, 0) h
theorem blk_free {w : World} {g : Nat} {t : TypeId} {cs : Array Value} (h : w.heap[g]? = some (.cells cs t (0, 0))) (i : Nat) : w.frozen? ⟨g, i, none⟩ = false := by simp [World.frozen?, h]
theorem blk_set {w : World} {g : Nat} {t : TypeId} {cs : Array Value} (h : w.heap[g]? = some (.cells cs t (0, 0))) (i : Nat) (u : Value) : (w.setCell ⟨g, i, none⟩ u).heap[g]? = some (.cells (cs.setIfInBounds i u) t (0, 0)) := by
  simp [World.setCell, Array.getElem?_modify, h]
theorem blk_far {w : World} {g g' i : Nat} (hne : g ≠ g') (u : Value) : (w.setCell ⟨g', i, none⟩ u).heap[g]? = w.heap[g]? := Below.heap_setCell w ⟨g', i, none⟩ u g hne
theorem blk_lt {w : World} {g : Nat} {o : Obj} (h : w.heap[g]? = some o) : g < w.heap.size := by
  rcases Nat.lt_or_ge g w.heap.size with hlt | hge
  · exact hlt
  · rw [Array.getElem?_eq_none hge] at h; cases h

/-- All categories below k. -/
theorem ones_or (k : Nat) : (2 ^ k - 1) ||| 2 ^ k = 2 ^ (k + 1) - 1 := by
  have h := nat_join k (2 ^ k) (2 ^ k - 1) (Nat.mod_self _) (by have := Nat.pow_pos (n := k) (show 0 < 2 by omega); omega)
  rw [Nat.or_comm, h, Nat.pow_succ]
  have := Nat.pow_pos (n := k) (show 0 < 2 by omega)
  omega

end Go.Proofs.YthkdpokdmkkdjaaDoor.L

namespace Go.Proofs.YthkdpokdmkkdjaaDoor.L
open Go.RowKit
open T

/-- The categories of a label, from k on up to 64. -/
def catsTo (c k : Nat) : List Nat := (List.range k).filter fun i => c.testBit i
def intCells (xs : List Nat) : List Value := xs.map fun n : Nat => .int .i64 (n : Int)
theorem intCells_snoc (xs : List Nat) (n : Nat) : intCells (xs ++ [n]) = intCells xs ++ [.int .i64 (n : Int)] := by simp [intCells]
theorem catsTo_yes {c k : Nat} (h : c.testBit k = true) : catsTo c (k + 1) = catsTo c k ++ [k] := by simp [catsTo, List.range_succ, h]
theorem catsTo_no {c k : Nat} (h : c.testBit k = false) : catsTo c (k + 1) = catsTo c k := by simp [catsTo, List.range_succ, h]
theorem catsTo_len (c k : Nat) : (catsTo c k).length ≤ k := by
  have := List.length_filter_le (fun i => c.testBit i) (List.range k)
  simpa [catsTo] using this
theorem and_bit (c k : Nat) : (c &&& 2 ^ k = 0) ↔ c.testBit k = false := by
  rw [nat_bit, Nat.testBit_eq_decide_div_mod_eq]
  have hp := Nat.pow_pos (n := k) (show 0 < 2 by omega)
  rcases Nat.mod_two_eq_zero_or_one (c / 2 ^ k) with h | h <;> rw [h] <;> simp
theorem infoInt : (Tryd.prog.info? 3).map (fun i => (i.zero, i.size, i.bytes)) = some (some (.int .i64 0), 1, 8) := by kernel_rfl

set_option maxHeartbeats 1000000 in
set_option maxRecDepth 100000 in
theorem cats_any (l : Int) (c : Nat) (w : World) (hc : c < 18446744073709551616) :
    Calls Tryd.prog 67 #[lab l c] w fun e w' => ∃ v, e = .returned v ∧ w'.ownsRow w.heap.size 3 1 v (catsTo c 64).length (intCells (catsTo c 64)) ∧ Below w.heap.size w w' := by
  obtain ⟨i0, hi0, hz0, hz1, hz2⟩ := info_parts infoInt
  go_enter Tryd.func67, Tryd.ntmps67
  go_wp2_with fail
  go_loopg [3, 5] 64 (fun n v i wr => ∃ k : Nat, k ≤ 64 ∧ i = .int .i64 k ∧ 64 - k ≤ n ∧ wr.ownsRow (w.heap.size + 1) 3 1 v (catsTo c k).length (intCells (catsTo c k)) ∧ wr.heap[w.heap.size]? = some (.cells #[.int .i64 l, .int .u64 (c : Int)] 37 (0, 0)) ∧ Below w.heap.size w wr)
  case atStart => exact ⟨0, by omega, rfl, by omega, ⟨by simp [catsTo, intCells], .inl ⟨rfl, by simp [catsTo]⟩⟩, heap_alloc_new w _, (Below.refl _ _).alloc (Nat.le_refl _) _⟩
  case round =>
    obtain ⟨k, hk, rfl, hn, hown, hb0, hbel⟩ := hrel
    have c1 : wr.cell? ⟨w.heap.size, 1, none⟩ = some (.int .u64 (c : Int)) := blk_cell hb0 1
    have hwr : w.heap.size + 1 ≤ wr.heap.size := blk_lt hb0
    have HB0 := Lib.hid hb0
    clear hb0
    by_cases hlt : k < 64
    · have hpb : 2 ^ k < 18446744073709551616 := Nat.pow_lt_pow_right (a := 2) (n := 64) (by omega) hlt
      have hand := u64_and_nat c (2 ^ k) hc hpb
      have HB := Lib.hid (fun w => bit_any k w hlt)
      have hlen := catsTo_len c k
      by_cases hbit : c.testBit k
      · have hne : ((c &&& 2 ^ k : Nat) : Int) ≠ 0 := by
          intro e
          have := (and_bit c k).1 (by omega)
          rw [hbit] at this; cases this
        have HC := Lib.hid (catsTo_yes hbit)
        clear hpb hbit
        generalize c &&& 2 ^ k = y at *
        generalize 2 ^ k = p at *
        generalize catsTo c k = xs at *
        have hne' : ((y : Int) != 0) = true := by simpa using hne
        clear hne
        go_wp2_with fail
        go_quiet ((go_at_call 78; exact Calls.quiet_of_same ((HB.out _).mono fun _ _ h => ⟨h.1, h.2.symm⟩)))
        go_wp2_with (at_builtin; refine wpList_append_own _ rfl (.tmp 14) (.tmp 16) 80 rfl (w.heap.size + 1) 3 i0 _ 1 8 Tryd.underlying80 hi0 hz0 hz1 hz2 rfl (by decide) _ xs.length (intCells xs) rfl ?ho ⟨wr.heap.size, 0, none⟩ 1 1 [.int .i64 (k : Int)] rfl rfl ?c1 ?c2 ?c3 ?c4 ?c5 ?_)
        case ho => exact hown.alloc _
        case c1 => exact cell_one_new _ _ _
        case c2 => intro u hu; simp at hu; rcases hu with rfl; rfl
        case c3 => simp only [maxLen]; omega
        case c4 => omega
        case c5 => show w.heap.size + 1 ≤ (wr.alloc _).heap.size; simp; omega
        intro v' w2 hown1 hg1 _
        have hbel1 : Below w.heap.size w w2 := (below_drewN (hbel.alloc hbel.size _) _).grown hg1 (by show w.heap.size ≤ (wr.alloc _).heap.size; simp; omega) (fun k hk => by have := own_base hown k hk; omega)
        have hb2 : w2.heap[w.heap.size]? = some (.cells #[.int .i64 l, .int .u64 (c : Int)] 37 (0, 0)) := by
          rw [hg1.block w.heap.size (by show w.heap.size < (wr.alloc _).heap.size; simp; omega) (fun e => by have := own_base hown _ e.symm; omega)]
          exact (Below.heap_alloc wr _ _ (by omega)).trans HB0.out
        have HB2 := Lib.hid hb2
        rw [← intCells_snoc] at hown1
        have hl1 : (xs ++ [k]).length = xs.length + 1 := by simp
        rw [← hl1, ← HC.out] at hown1
        clear hl1 hown hb2
        go_wp2_with fail
        go_roundg (64 - (k + 1))
        case measure => omega
        case rel => exact ⟨k + 1, by omega, by go_num, Nat.le_refl _, hown1, HB2.out, hbel1⟩
      · have hbit' : c.testBit k = false := by simpa using hbit
        have hne' : (((c &&& 2 ^ k : Nat) : Int) != 0) = false := by
          have := (and_bit c k).2 hbit'
          rw [this]; rfl
        have HC := Lib.hid (catsTo_no hbit')
        clear hpb hbit hbit'
        generalize c &&& 2 ^ k = y at *
        generalize 2 ^ k = p at *
        go_wp2_with fail
        go_quiet ((go_at_call 78; exact Calls.quiet_of_same ((HB.out _).mono fun _ _ h => ⟨h.1, h.2.symm⟩)))
        go_wp2_with fail
        go_roundg (64 - (k + 1))
        case measure => omega
        case rel => exact ⟨k + 1, by omega, by go_num, Nat.le_refl _, by rw [HC.out]; exact hown, HB0.out, below_drewN hbel _⟩
    · obtain rfl : k = 64 := by omega
      have hown' := own_more hown (Nat.le_succ w.heap.size)
      clear hown
      go_wp2_with fail
      go_ret
      exact ⟨_, rfl, hown', hbel⟩
end Go.Proofs.YthkdpokdmkkdjaaDoor.L

namespace Go.Proofs.YthkdpokdmkkdjaaDoor.L
open Go.RowKit
open T

/-- The categories of a list of numbers, beside those that are there; none if one is no category. -/
def ofGo : List Int → Nat → Option Nat
  | [], c => some c
  | x :: r, c => if x < 0 ∨ 63 < x then none else ofGo r (c ||| 2 ^ x.toNat)
def ofAll (l : Int) (xs : List Int) : Option Nat := if rightB l then ofGo xs 0 else none
def ofVal (l : Int) (o : Option Nat) : Value := match o with
  | some c => .tuple #[lab l c, .int .i64 0]
  | none => .tuple #[lab 0 0, .int .i64 2]
theorem ofVal_none (l : Int) : ofVal l none = .tuple #[lab 0 0, .int .i64 2] := rfl
theorem ofVal_some (l : Int) (c : Nat) : ofVal l (some c) = .tuple #[lab l c, .int .i64 0] := rfl

/-- A row of numbers in memory. -/
def IntsAt (w : World) (bk off : Nat) (xs : List Int) : Prop := ∀ j (h : j < xs.length), w.cell? ⟨bk, off + j, none⟩ = some (.int .i64 xs[j])
theorem IntsAt.below {w w' : World} {bk off B : Nat} {xs : List Int} (h : IntsAt w bk off xs) (hb : Below B w w') (hB : bk < B) : IntsAt w' bk off xs :=
  fun j hj => (hb.cell (p := ⟨bk, off + j, none⟩) hB).trans (h j hj)

theorem of_bad {xs : List Int} {k c : Nat} (hk : k < xs.length) (h : xs[k] < 0 ∨ 63 < xs[k]) : ofGo (xs.drop k) c = none := by
  rw [List.drop_eq_getElem_cons hk, ofGo, if_pos h]
theorem of_on {xs : List Int} {k c : Nat} (hk : k < xs.length) (h : ¬ (xs[k] < 0 ∨ 63 < xs[k])) : ofGo (xs.drop k) c = ofGo (xs.drop (k + 1)) (c ||| 2 ^ xs[k].toNat) := by
  rw [List.drop_eq_getElem_cons hk, ofGo, if_neg h]
theorem of_end {xs : List Int} {c : Nat} : ofGo (xs.drop xs.length) c = some c := by rw [List.drop_length, ofGo]
theorem or_small {a b : Nat} (ha : a < 18446744073709551616) (hb : b < 18446744073709551616) : a ||| b < 18446744073709551616 := Nat.or_lt_two_pow (n := 64) ha hb

def Rt (l : Int) (b : Bool) : Prop := ∀ w : World, Calls Tryd.prog 61 #[.agg #[.int .i64 l, .int .u64 0]] w fun e w' => e = .returned (.bool b) ∧ Below w.heap.size w w'
theorem Rt.call {l : Int} {b : Bool} (h : Rt l b) (w : World) : Calls Tryd.prog 61 #[.agg #[.int .i64 l, .int .u64 0]] w fun e w' => e = .returned (.bool b) ∧ Below w.heap.size w w' := h w
theorem rt_is (l : Int) : Rt l (rightB l) := fun w => right_any l 0 w

/-- What the result's own block reads as. -/
theorem res_cells {wf : World} {g : Nat} {l : Int} {c : Int} (h : wf.heap[g]? = some (.cells #[.int .i64 l, .int .u64 c] 37 (0, 0))) :
    wf.cell? ⟨g, 0, none⟩ = some (.int .i64 l) ∧ wf.cell? ⟨g, 1, none⟩ = some (.int .u64 c) := ⟨blk_cell h 0, blk_cell h 1⟩
theorem two_blocks (w : World) (a b : Obj) : ((w.alloc a).alloc b).heap[w.heap.size]? = some a ∧ ((w.alloc a).alloc b).heap[w.heap.size + 1]? = some b := by
  refine ⟨?_, ?_⟩
  · rw [Below.heap_alloc _ _ _ (by simp)]; exact heap_alloc_new w _
  · have := heap_alloc_new (w.alloc a) b
    rwa [World.size_alloc] at this

theorem of_not (l : Int) (A : Option Addr) (n cap : Nat) (w : World) (h : rightB l = false) :
    Calls Tryd.prog 81 #[.int .i64 l, .slice A n cap] w fun e w' => e = .returned (.tuple #[lab 0 0, .int .i64 2]) ∧ Below w.heap.size w w' := by
  have HR := Lib.hid (rt_is l)
  rw [h] at HR
  clear h
  go_enter Tryd.func81, Tryd.ntmps81
  go_wp2_with fail
  with_reducible refine (HR.out.call _).mono ?_
  rintro e w1 ⟨rfl, hb1⟩
  have HK0 := Lib.hid ((hb1.block w.heap.size (by simp; omega)).trans (two_blocks w _ _).1)
  have hbel : Below w.heap.size w w1 := (((Below.refl _ _).alloc (Nat.le_refl _) _).alloc (by simp) _).trans (hb1.mono (by simp; omega))
  have d0 := (res_cells HK0.out).1
  have d1 := (res_cells HK0.out).2
  have e0 := blk_free HK0.out 0
  have e1 := blk_free HK0.out 1
  clear hb1
  go_wp2_with fail
  have hfin := blk_set (blk_set HK0.out 0 (.int .i64 0)) 1 (.int .u64 0)
  have hbf := (hbel.setCell (p := ⟨w.heap.size, 0, none⟩) (Nat.le_refl _) (.int .i64 0)).setCell (p := ⟨w.heap.size, 1, none⟩) (Nat.le_refl _) (.int .u64 0)
  clear d0 d1 e0 e1
  generalize (w1.setCell ⟨w.heap.size, 0, none⟩ (.int .i64 0)).setCell ⟨w.heap.size, 1, none⟩ (.int .u64 0) = wf at *
  have q0 : wf.cell? ⟨w.heap.size, 0, none⟩ = some (.int .i64 0) := blk_cell hfin 0
  have q1 : wf.cell? ⟨w.heap.size, 1, none⟩ = some (.int .u64 0) := blk_cell hfin 1
  exact bodyPost_ret (v := .tuple #[lab 0 0, .int .i64 2]) (by simp [results, Tryd.results81, go_sem, q0, q1]) rfl ⟨rfl, hbf⟩

set_option maxHeartbeats 1000000 in
set_option maxRecDepth 100000 in
theorem of_yes (l : Int) (A : Option Addr) (cap : Nat) (xs : List Int) (w : World) (h : rightB l = true) (hlen : xs.length ≤ maxLen) (hA : 0 < xs.length → ∃ bk off, A = some ⟨bk, off, none⟩ ∧ bk < w.heap.size ∧ IntsAt w bk off xs) :
    Calls Tryd.prog 81 #[.int .i64 l, .slice A xs.length cap] w fun e w' => e = .returned (ofVal l (ofGo xs 0)) ∧ Below w.heap.size w w' := by
  have HR := Lib.hid (rt_is l)
  rw [h] at HR
  clear h
  unfold maxLen at hlen
  have HA := Lib.hid hA
  clear hA
  go_enter Tryd.func81, Tryd.ntmps81
  go_wp2_with fail
  with_reducible refine (HR.out.call _).mono ?_
  rintro e w1 ⟨rfl, hb1⟩
  have HK0 := Lib.hid ((hb1.block w.heap.size (by simp; omega)).trans (two_blocks w _ _).1)
  have HK1 := Lib.hid ((hb1.block (w.heap.size + 1) (by simp)).trans (two_blocks w _ _).2)
  have hbel : Below w.heap.size w w1 := (((Below.refl _ _).alloc (Nat.le_refl _) _).alloc (by simp) _).trans (hb1.mono (by simp; omega))
  clear hb1
  go_wp2_with fail
  go_loopg [17] xs.length (fun n i wr => ∃ k c : Nat, k ≤ xs.length ∧ i = .int .i64 k ∧ xs.length - k ≤ n ∧ c < 18446744073709551616 ∧ Hid (ofGo xs 0 = ofGo (xs.drop k) c) ∧ Hid (wr.heap[w.heap.size]? = some (.cells #[.int .i64 0, .int .u64 0] 37 (0, 0))) ∧ Hid (wr.heap[w.heap.size + 1]? = some (.cells #[.int .i64 l, .int .u64 (c : Int)] 37 (0, 0))) ∧ Below w.heap.size w wr)
  case atStart => exact ⟨0, 0, Nat.zero_le _, rfl, by omega, by omega, Lib.hid rfl, HK0, HK1, hbel⟩
  case round =>
    clear HK0 HK1 hbel
    obtain ⟨k, c, hk, rfl, hn, hc, HO, HK0, HK1, hbel⟩ := hrel
    by_cases hlt : k < xs.length
    · obtain ⟨bk, off, hAe, hbk, hI⟩ := HA.out (by omega)
      subst hAe
      have hcell := hI.below hbel hbk k hlt
      by_cases hbad : xs[k] < 0 ∨ 63 < xs[k]
      · have HN := Lib.hid (HO.out.trans (of_bad hlt hbad))
        have d0 := (res_cells HK0.out).1
        have d1 := (res_cells HK0.out).2
        have e0 := blk_free HK0.out 0
        have e1 := blk_free HK0.out 1
        generalize xs[k] = x at *
        rcases hbad with hx | hx
        · go_wp2_with fail
          have hfin := blk_set (blk_set HK0.out 0 (.int .i64 0)) 1 (.int .u64 0)
          have hbf := (hbel.setCell (p := ⟨w.heap.size, 0, none⟩) (Nat.le_refl _) (.int .i64 0)).setCell (p := ⟨w.heap.size, 1, none⟩) (Nat.le_refl _) (.int .u64 0)
          clear d0 d1 e0 e1
          generalize (wr.setCell ⟨w.heap.size, 0, none⟩ (.int .i64 0)).setCell ⟨w.heap.size, 1, none⟩ (.int .u64 0) = wf at *
          have q0 : wf.cell? ⟨w.heap.size, 0, none⟩ = some (.int .i64 0) := blk_cell hfin 0
          have q1 : wf.cell? ⟨w.heap.size, 1, none⟩ = some (.int .u64 0) := blk_cell hfin 1
          exact bodyPost_ret (v := .tuple #[.agg #[.int .i64 0, .int .u64 0], .int .i64 2]) (by simp [results, Tryd.results81, go_sem, q0, q1]) rfl ⟨ret_of (by rw [HN.out]; rfl), hbf⟩
        · go_wp2_with fail
          have hfin := blk_set (blk_set HK0.out 0 (.int .i64 0)) 1 (.int .u64 0)
          have hbf := (hbel.setCell (p := ⟨w.heap.size, 0, none⟩) (Nat.le_refl _) (.int .i64 0)).setCell (p := ⟨w.heap.size, 1, none⟩) (Nat.le_refl _) (.int .u64 0)
          clear d0 d1 e0 e1
          generalize (wr.setCell ⟨w.heap.size, 0, none⟩ (.int .i64 0)).setCell ⟨w.heap.size, 1, none⟩ (.int .u64 0) = wf at *
          have q0 : wf.cell? ⟨w.heap.size, 0, none⟩ = some (.int .i64 0) := blk_cell hfin 0
          have q1 : wf.cell? ⟨w.heap.size, 1, none⟩ = some (.int .u64 0) := blk_cell hfin 1
          exact bodyPost_ret (v := .tuple #[.agg #[.int .i64 0, .int .u64 0], .int .i64 2]) (by simp [results, Tryd.results81, go_sem, q0, q1]) rfl ⟨ret_of (by rw [HN.out]; rfl), hbf⟩
      · have HN := Lib.hid (HO.out.trans (of_on hlt hbad))
        have hx0 : 0 ≤ xs[k] := by omega
        have hx1 : xs[k] ≤ 63 := by omega
        generalize xs[k] = x at *
        obtain ⟨m, rfl⟩ := Int.eq_ofNat_of_zero_le hx0
        rw [Int.toNat_natCast] at HN
        have hm : m < 64 := by omega
        have hpb : 2 ^ m < 18446744073709551616 := Nat.pow_lt_pow_right (a := 2) (n := 64) (by omega) hm
        have hor := u64_or_nat c (2 ^ m) hc hpb
        have hcy := or_small hc hpb
        have HB := Lib.hid (fun w => bit_any m w hm)
        have c1 := (res_cells HK1.out).2
        have f1 := blk_free HK1.out 1
        clear hpb
        generalize c ||| 2 ^ m = y at *
        generalize 2 ^ m = p at *
        go_wp2_with fail
        go_region_with (go_at_call 78; with_reducible refine (HB.out _).mono ?_; rintro e w' ⟨rfl, rfl⟩)
        all_goals
          go_wp2_with fail
          go_roundg (xs.length - (k + 1))
          case measure => omega
          case rel =>
            refine ⟨k + 1, y, by omega, by go_num, Nat.le_refl _, hcy, HN, ?_, ?_, (hbel.setCell (p := ⟨w.heap.size + 1, 1, none⟩) (Nat.le_succ _) _).drew⟩
            · exact Lib.hid ((blk_far (by omega) _).trans HK0.out)
            · exact Lib.hid (blk_set HK1.out 1 _)
    · obtain rfl : k = xs.length := by omega
      have HN := Lib.hid (HO.out.trans of_end)
      have d0 := (res_cells HK0.out).1
      have d1 := (res_cells HK0.out).2
      have e0 := blk_free HK0.out 0
      have e1 := blk_free HK0.out 1
      have c0 := (res_cells HK1.out).1
      have c1 := (res_cells HK1.out).2
      go_wp2_with fail
      clear c0 c1
      have hfin := blk_set (blk_set HK0.out 0 (.int .i64 l)) 1 (.int .u64 (c : Int))
      have hbf := (hbel.setCell (p := ⟨w.heap.size, 0, none⟩) (Nat.le_refl _) (.int .i64 l)).setCell (p := ⟨w.heap.size, 1, none⟩) (Nat.le_refl _) (.int .u64 (c : Int))
      clear d0 d1 e0 e1
      generalize (wr.setCell ⟨w.heap.size, 0, none⟩ (.int .i64 l)).setCell ⟨w.heap.size, 1, none⟩ (.int .u64 (c : Int)) = wf at *
      have q0 : wf.cell? ⟨w.heap.size, 0, none⟩ = some (.int .i64 l) := blk_cell hfin 0
      have q1 : wf.cell? ⟨w.heap.size, 1, none⟩ = some (.int .u64 (c : Int)) := blk_cell hfin 1
      exact bodyPost_ret (v := .tuple #[.agg #[.int .i64 l, .int .u64 (c : Int)], .int .i64 0]) (by simp [results, Tryd.results81, go_sem, q0, q1]) rfl ⟨ret_of (by rw [HN.out]; rfl), hbf⟩

theorem of_any (l : Int) (A : Option Addr) (cap : Nat) (xs : List Int) (w : World) (hlen : xs.length ≤ maxLen) (hA : 0 < xs.length → ∃ bk off, A = some ⟨bk, off, none⟩ ∧ bk < w.heap.size ∧ IntsAt w bk off xs) :
    Calls Tryd.prog 81 #[.int .i64 l, .slice A xs.length cap] w fun e w' => e = .returned (ofVal l (ofAll l xs)) ∧ Below w.heap.size w w' := by
  unfold ofAll
  cases h : rightB l with
  | false => exact of_not l A _ cap w h
  | true => exact of_yes l A cap xs w h hlen hA
end Go.Proofs.YthkdpokdmkkdjaaDoor.L

namespace Go.Proofs.YthkdpokdmkkdjaaDoor.L
open Go.RowKit
open T

theorem refRight_any (l : Int) (c : Nat) (w : World) :
    Calls Tryd.prog 52 #[lab l c] w fun e w' => e = .returned (.bool (rightB l)) ∧ Below w.heap.size w w' := by
  by_cases h0 : 0 ≤ l
  · have HR := Lib.hid (show rightB l = decide (l < 16) by unfold rightB; rw [decide_eq_true h0]; simp; omega)
    go_enter Tryd.func52, Tryd.ntmps52
    go_wp2_with fail
    go_ret
    exact ⟨ret_of (by rw [HR.out]; rfl), (Below.refl _ _).alloc (Nat.le_refl _) _⟩
  · have HR := Lib.hid (show rightB l = false by unfold rightB; rw [decide_eq_false h0]; rfl)
    go_enter Tryd.func52, Tryd.ntmps52
    go_wp2_with fail
    go_ret
    exact ⟨ret_of (by rw [HR.out]; rfl), (Below.refl _ _).alloc (Nat.le_refl _) _⟩

theorem has_bit (c k : Nat) : (((c : Int) / 2 ^ k).tmod 2 == 1) = c.testBit k := by
  have e : (c : Int) / 2 ^ k = ((c / 2 ^ k : Nat) : Int) := by simp
  rw [e, Nat.testBit_eq_decide_div_mod_eq]
  generalize c / 2 ^ k = y
  rw [Int.tmod_eq_emod_of_nonneg (by omega), Bool.eq_iff_iff]
  simp
  omega
theorem has_any (l : Int) (c k : Nat) (w : World) (hk : k < 64) :
    Calls Tryd.prog 68 #[lab l c, .int .i64 k] w fun e w' => e = .returned (.bool (c.testBit k)) ∧ Below w.heap.size w w' := by
  have HB := Lib.hid (has_bit c k)
  go_enter Tryd.func68, Tryd.ntmps68
  go_wp2_with fail
  go_ret
  exact ⟨ret_of (by rw [← HB.out]; rfl), (Below.refl _ _).alloc (Nat.le_refl _) _⟩
def Hs (l : Int) (c k : Nat) (b : Bool) : Prop := ∀ w : World, Calls Tryd.prog 68 #[lab l c, .int .i64 k] w fun e w' => e = .returned (.bool b) ∧ Below w.heap.size w w'
theorem Hs.call {l : Int} {c k : Nat} {b : Bool} (h : Hs l c k b) (w : World) : Calls Tryd.prog 68 #[lab l c, .int .i64 k] w fun e w' => e = .returned (.bool b) ∧ Below w.heap.size w w' := h w
theorem hs_is {l : Int} {c k : Nat} {b : Bool} (hk : k < 64) (h : c.testBit k = b) : Hs l c k b := fun w => by
  have := has_any l c k w hk
  rwa [h] at this

/-- Two labels in boxes of the call's own. -/
abbrev Held2 (w : World) (l : Int) (c : Nat) (m : Int) (d : Nat) (w' : World) : Prop :=
  w'.cell? ⟨w.heap.size, 0, none⟩ = some (.int .i64 l) ∧ w'.cell? ⟨w.heap.size, 1, none⟩ = some (.int .u64 (c : Int)) ∧ w'.cell? ⟨w.heap.size + 1, 0, none⟩ = some (.int .i64 m) ∧ w'.cell? ⟨w.heap.size + 1, 1, none⟩ = some (.int .u64 (d : Int)) ∧ w.heap.size + 2 ≤ w'.heap.size ∧ Below w.heap.size w w'
theorem held2_below {w W W' : World} {l m : Int} {c d : Nat} (h : Held2 w l c m d W) (hb : Below W.heap.size W W') : Held2 w l c m d W' := by
  obtain ⟨h1, h2, h3, h4, h7, h8⟩ := h
  have hs := hb.size
  exact ⟨(bcell hb _ _ (by omega)).trans h1, (bcell hb _ _ (by omega)).trans h2, (bcell hb _ _ (by omega)).trans h3, (bcell hb _ _ (by omega)).trans h4, by omega, h8.trans (hb.mono h8.size)⟩
theorem held2_start (w : World) (l m : Int) (c d : Nat) : Held2 w l c m d ((w.alloc (.cells #[.int .i64 l, .int .u64 (c : Int)] 37)).alloc (.cells #[.int .i64 m, .int .u64 (d : Int)] 37)) := by
  obtain ⟨b0, b1⟩ := two_blocks w (.cells #[.int .i64 l, .int .u64 (c : Int)] 37) (.cells #[.int .i64 m, .int .u64 (d : Int)] 37)
  exact ⟨blk_cell b0 0, blk_cell b0 1, blk_cell b1 0, blk_cell b1 1, by rw [World.size_alloc, World.size_alloc]; omega, ((Below.refl _ _).alloc (Nat.le_refl _) _).alloc (by simp) _⟩
theorem held2_end {w W : World} {l m : Int} {c d : Nat} (h : Held2 w l c m d W) : Below w.heap.size w W := h.2.2.2.2.2

theorem sub_of_bits {c d : Nat} (hc : c < 18446744073709551616) (h : ∀ i, i < 64 → c.testBit i = true → d.testBit i = true) : c ||| d = d := by
  apply Nat.eq_of_testBit_eq
  intro i
  rw [Nat.testBit_or]
  by_cases hi : i < 64
  · cases hb : c.testBit i with
    | false => simp
    | true => rw [h i hi hb]; rfl
  · rw [Nat.testBit_lt_two_pow (Nat.lt_of_lt_of_le hc (Nat.pow_le_pow_right (n := 2) (by omega) (show 64 ≤ i by omega)))]; simp
theorem bit_of_sub {c d : Nat} (h : c ||| d = d) {i : Nat} (hi : c.testBit i = true) : d.testBit i = true := by
  rw [← h, Nat.testBit_or, hi]; rfl

end Go.Proofs.YthkdpokdmkkdjaaDoor.L

namespace Go.Proofs.YthkdpokdmkkdjaaDoor.T
open Go.RowKit

/-- A row of bytes in memory: the cells from an address on hold the bytes of a list. -/
def BytesAt (w : World) (bk off : Nat) (l : List UInt8) : Prop := ∀ j (h : j < l.length), w.cell? ⟨bk, off + j, none⟩ = some (.int .u8 (l[j].toNat : Int))
theorem BytesAt.below {w w' : World} {bk off B : Nat} {l : List UInt8} (h : BytesAt w bk off l) (hb : Below B w w') (hB : bk < B) : BytesAt w' bk off l :=
  fun j hj => (hb.cell (p := ⟨bk, off + j, none⟩) hB).trans (h j hj)
theorem BytesAt.sub {w : World} {bk off i n : Nat} {l : List UInt8} (h : BytesAt w bk off l) : BytesAt w bk (off + i) ((l.drop i).take n) := by
  intro j hj
  have hj' : j < n ∧ j < l.length - i := by simp at hj; omega
  have := h (i + j) (by omega)
  rw [Nat.add_assoc]
  simpa using this

theorem strOfNums_bytes (m : List UInt8) : strOfNums (m.map fun c => (c.toNat : Int)) = ⟨m.toArray⟩ := by
  unfold strOfNums
  congr 1
  congr 1
  rw [List.map_map]
  conv => rhs; rw [← List.map_id m]
  exact List.map_congr_left fun c _ => by simp
theorem conv_bytes (w : World) (bk off len cap : Nat) (m : List UInt8) (hlen : m.length = len) (h : BytesAt w bk off m) :
    (convert 43 9 (.slice (some ⟨bk, off, none⟩) len cap)).run Tryd.prog w = .ok (.string ⟨m.toArray⟩) w := by
  have hc := run_convert_bytes_arg (P := Tryd.prog) w 43 5 Tryd.underlying43 Tryd.underlying5 bk off len cap (m.map fun c => (c.toNat : Int)) (by simpa using hlen)
    (fun i hi => by
      have hi' : i < m.length := by omega
      rw [h i hi']
      simp [List.getElem?_eq_getElem hi']) 9 Tryd.underlying9
  rw [hc, strOfNums_bytes]

set_option maxRecDepth 100000 in
theorem cut_any (bk off cap i j : Nat) (l : List UInt8) (w : World) (h : BytesAt w bk off l) (hij : i ≤ j) (hj : j ≤ l.length) (hn : l.length ≤ cap) :
    Calls Tryd.prog 58 #[.slice (some ⟨bk, off, none⟩) l.length cap, .int .i64 i, .int .i64 j] w fun e w' => e = .returned (.string ⟨((l.drop i).take (j - i)).toArray⟩) ∧ w = w' := by
  obtain ⟨n, hnl⟩ : ∃ n, n = l.length := ⟨_, rfl⟩
  rw [← hnl] at hj hn ⊢
  by_cases e : j = i
  · subst e
    have hcv := conv_bytes w bk off 0 0 [] rfl (fun j hj => absurd hj (by simp))
    have He := Lib.hid (show (l.drop j).take (j - j) = [] by simp)
    clear hnl h hij
    go_enter Tryd.func58, Tryd.ntmps58
    go_wp2
    go_ret
    exact ⟨ret_of (by rw [He.out]; rfl), rfl⟩
  · have hcv := conv_bytes w bk (off + i) (j - i) (j - i) ((l.drop i).take (j - i)) (by simp; omega) h.sub
    generalize (l.drop i).take (j - i) = m at hcv ⊢
    clear hnl h
    go_enter Tryd.func58, Tryd.ntmps58
    go_wp2
    go_ret
    exact ⟨rfl, rfl⟩
end Go.Proofs.YthkdpokdmkkdjaaDoor.T
