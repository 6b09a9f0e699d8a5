/-
  Ways from one row to another one, of any length: the distance is the least; it is a metric; what both begin or end with alike plays no part; how many are kept; rows of both are no longer than what is kept: plain.
  How many numbers two rows begin and end with alike: plain, and the contracts of the program's and the reference's Ends.
  The contract of the reference's Cut (layer 5).
  The contract of the reference's IDs (layer 5).
  The contract of the reference's Of (layer 5): a view while it is built.
  Stub.
  How often each number is there: plain; a copy and the order of a row of numbers in memory.
  The contracts of myers' Steps and Pairs, and of what they hand to the walk.
  The contract of the reference's Of (layer 5).
  The contracts of text.has and text.Right.
  The contract of the reference's Same on two rows of the same lines; and what the laws on lines ask of the functions that they call, in one form each.
-/
import Derived.Test.YtigghcmbdnidnaaGpb
import Derived.Deep.DeepCutAuto
import Derived.Deep.CutRange
import Derived.Deep.AppendLies
import Derived.Deep.DrawnRows
import Derived.BigRegion
import Derived.Test.YtigghcmbdnidnaaGpa
import Derived.Sort.OwnSortedInts
import Derived.Shelf.Abstract
import Derived.OneCell
import Derived.Deep.QuietTactic
import Derived.BigQuiet
namespace Go.Proofs.Ytigghcmbdnidnaa.M
set_option linter.unusedVariables false
set_option linter.unusedSimpArgs false

/-- A way of n changes. -/
inductive P : List Int → List Int → Nat → Prop
  | nil : P [] [] 0
  | keep {a b : List Int} {n : Nat} (x : Int) : P a b n → P (x :: a) (x :: b) n
  | out {a b : List Int} {n : Nat} (x : Int) : P a b n → P (x :: a) b (n + 1)
  | put {a b : List Int} {n : Nat} (x : Int) : P a b n → P a (x :: b) (n + 1)
theorem P.of_ed : ∀ (n : Nat) (a b : List Int), a.length + b.length ≤ n → P a b (ed a b)
  | _, [], [], _ => by rw [ed_nil1]; exact .nil
  | 0, [], y :: b, h => by simp at h
  | 0, x :: a, _, h => by simp at h
  | n + 1, [], y :: b, h => by
    have := P.of_ed n [] b (by simp at h ⊢; omega)
    rw [ed_nil1] at this ⊢
    exact .put y this
  | n + 1, x :: a, [], h => by
    have := P.of_ed n a [] (by simp at h ⊢; omega)
    rw [ed_nil2] at this ⊢
    exact .out x this
  | n + 1, x :: a, y :: b, h => by
    simp only [List.length_cons] at h
    by_cases e : x = y
    · subst e; rw [ed_eq]; exact .keep x (P.of_ed n a b (by omega))
    · rw [ed_ne e]
      rcases Nat.le_total (ed a (y :: b)) (ed (x :: a) b) with hl | hl
      · rw [Nat.min_eq_left hl]; exact .out x (P.of_ed n a (y :: b) (by simp; omega))
      · rw [Nat.min_eq_right hl]; exact .put y (P.of_ed n (x :: a) b (by simp; omega))
theorem P.ed (a b : List Int) : P a b (ed a b) := P.of_ed _ a b (Nat.le_refl _)
theorem P.le {a b : List Int} {n : Nat} (h : P a b n) : M.ed a b ≤ n := by
  induction h with
  | nil => rw [ed_nil1]; simp
  | keep x _ ih => rw [ed_eq]; exact ih
  | @out a b n x _ ih => have := ed_l1 x a b; omega
  | @put a b n x _ ih => have := ed_r1 x a b; omega
theorem P.symm {a b : List Int} {n : Nat} (h : P a b n) : P b a n := by
  induction h with
  | nil => exact .nil
  | keep x _ ih => exact .keep x ih
  | out x _ ih => exact .put x ih
  | put x _ ih => exact .out x ih
theorem P.trans : ∀ (N : Nat) (a b c : List Int) (n m : Nat), a.length + b.length + c.length ≤ N → P a b n → P b c m → ∃ k, k ≤ n + m ∧ P a c k
  | N, a, b, c, n, m, hN, h1, h2 => by
    cases h2 with
    | nil => exact ⟨n, by omega, h1⟩
    | @put _ c' m' x h2' =>
      match N, hN with
      | 0, hN => simp at hN
      | N + 1, hN =>
        obtain ⟨k, hk, h⟩ := P.trans N a b c' n m' (by simp at hN; omega) h1 h2'
        exact ⟨k + 1, by omega, .put x h⟩
    | @keep b' c' _ x h2' =>
      match N, hN with
      | 0, hN => simp at hN
      | N + 1, hN =>
        cases h1 with
        | @keep a' _ _ _ h1' =>
          obtain ⟨k, hk, h⟩ := P.trans N a' b' c' n m (by simp at hN; omega) h1' h2'
          exact ⟨k, hk, .keep x h⟩
        | @out a' _ n' y h1' =>
          obtain ⟨k, hk, h⟩ := P.trans N a' (x :: b') (x :: c') n' m (by simp at hN ⊢; omega) h1' (.keep x h2')
          exact ⟨k + 1, by omega, .out y h⟩
        | @put _ _ n' _ h1' =>
          obtain ⟨k, hk, h⟩ := P.trans N a b' c' n' m (by simp at hN; omega) h1' h2'
          exact ⟨k + 1, by omega, .put x h⟩
    | @out b' _ m' x h2' =>
      match N, hN with
      | 0, hN => simp at hN
      | N + 1, hN =>
        cases h1 with
        | @keep a' _ _ _ h1' =>
          obtain ⟨k, hk, h⟩ := P.trans N a' b' c n m' (by simp at hN; omega) h1' h2'
          exact ⟨k + 1, by omega, .out x h⟩
        | @out a' _ n' y h1' =>
          obtain ⟨k, hk, h⟩ := P.trans N a' (x :: b') c n' (m' + 1) (by simp at hN ⊢; omega) h1' (.out x h2')
          exact ⟨k + 1, by omega, .out y h⟩
        | @put _ _ n' _ h1' =>
          obtain ⟨k, hk, h⟩ := P.trans N a b' c n' m' (by simp at hN; omega) h1' h2'
          exact ⟨k, by omega, h⟩
theorem P.keepEnd {a b : List Int} {n : Nat} (h : P a b n) (z : Int) : P (a ++ [z]) (b ++ [z]) n := by
  induction h with
  | nil => exact .keep z .nil
  | keep x _ ih => exact .keep x ih
  | out x _ ih => exact .out x ih
  | put x _ ih => exact .put x ih
theorem P.outEnd {a b : List Int} {n : Nat} (h : P a b n) (z : Int) : P (a ++ [z]) b (n + 1) := by
  induction h with
  | nil => exact .out z .nil
  | keep x _ ih => exact .keep x ih
  | out x _ ih => exact .out x ih
  | put x _ ih => exact .put x ih
theorem P.putEnd {a b : List Int} {n : Nat} (h : P a b n) (z : Int) : P a (b ++ [z]) (n + 1) := (h.symm.outEnd z).symm
theorem P.outEnds {a b : List Int} {n : Nat} (h : P a b n) : ∀ z : List Int, P (a ++ z) b (n + z.length)
  | [] => by simpa using h
  | y :: z => by
    have := (h.outEnd y).outEnds z
    rw [List.append_assoc] at this
    simpa [Nat.add_assoc, Nat.add_comm 1] using this
theorem P.putEnds {a b : List Int} {n : Nat} (h : P a b n) (z : List Int) : P a (b ++ z) (n + z.length) := (h.symm.outEnds z).symm
theorem P.rev {a b : List Int} {n : Nat} (h : P a b n) : P a.reverse b.reverse n := by
  induction h with
  | nil => exact .nil
  | keep x _ ih => rw [List.reverse_cons, List.reverse_cons]; exact ih.keepEnd x
  | out x _ ih => rw [List.reverse_cons]; exact ih.outEnd x
  | put x _ ih => rw [List.reverse_cons]; exact ih.putEnd x
theorem P.refl : ∀ a : List Int, P a a 0
  | [] => .nil
  | x :: a => .keep x (P.refl a)
theorem P.zero {a b : List Int} {n : Nat} (h : P a b n) : n = 0 → a = b := by
  induction h with
  | nil => intro _; rfl
  | keep x _ ih => intro e; rw [ih e]
  | out x _ ih => intro e; omega
  | put x _ ih => intro e; omega
theorem ed_symm (a b : List Int) : ed a b = ed b a := by
  have := (P.ed a b).symm.le; have := (P.ed b a).symm.le; omega
theorem ed_tri (a b c : List Int) : ed a c ≤ ed a b + ed b c := by
  obtain ⟨k, hk, h⟩ := P.trans _ a b c _ _ (Nat.le_refl _) (P.ed a b) (P.ed b c)
  have := h.le; omega
theorem ed_rev (a b : List Int) : ed a.reverse b.reverse = ed a b := by
  have h1 := (P.ed a b).rev.le
  have h2 := (P.ed a.reverse b.reverse).rev.le
  rw [List.reverse_reverse, List.reverse_reverse] at h2
  omega
theorem ed_zero (a b : List Int) : ed a b = 0 ↔ a = b := by
  constructor
  · exact (P.ed a b).zero
  · rintro rfl; have := (P.refl a).le; omega
theorem ed_pre (a b : List Int) : ∀ p : List Int, ed (p ++ a) (p ++ b) = ed a b
  | [] => rfl
  | x :: p => by rw [List.cons_append, List.cons_append, ed_eq, ed_pre a b p]
theorem ed_suf (a b s : List Int) : ed (a ++ s) (b ++ s) = ed a b := by
  rw [← ed_rev, List.reverse_append, List.reverse_append, ed_pre, ed_rev]
theorem ed_ends (p a b s : List Int) : ed (p ++ a ++ s) (p ++ b ++ s) = ed a b := by rw [ed_suf, ed_pre]
/-- With one number more at the end it is one away. -/
theorem ed_more (a b : List Int) (z : Int) : ed (a ++ [z]) b = ed a b + 1 ∨ ed (a ++ [z]) b + 1 = ed a b := by
  have e : ed (a ++ [z]) b = ed (z :: a.reverse) b.reverse := by rw [← ed_rev, List.reverse_append]; rfl
  have h1 := ed_l1 z a.reverse b.reverse
  have h2 := ed_l2 z a.reverse b.reverse
  rw [ed_rev] at h1 h2
  have h3 := (ed_low _ a b (Nat.le_refl _)).2.2.2
  have h4 := (ed_low _ (a ++ [z]) b (Nat.le_refl _)).2.2.2
  rw [List.length_append] at h4
  simp only [List.length_cons, List.length_nil] at h4
  omega

/-- How many are kept. -/
theorem way_count : ∀ (n : Nat) (a b : List Int), a.length + b.length ≤ n → ed a b + 2 * (way a b).count 1 = a.length + b.length
  | _, [], [], _ => by simp [way, ed_nil1]
  | 0, [], y :: b, h => by simp at h
  | 0, x :: a, _, h => by simp at h
  | n + 1, [], y :: b, h => by
    have := way_count n [] b (by simp at h ⊢; omega)
    rw [way, ed_nil1] at *
    rw [List.count_cons_of_ne (by decide)]
    simp at this ⊢; omega
  | n + 1, x :: a, [], h => by
    have := way_count n a [] (by simp at h ⊢; omega)
    rw [way, ed_nil2] at *
    rw [List.count_cons_of_ne (by decide)]
    simp at this ⊢; omega
  | n + 1, x :: a, y :: b, h => by
    simp only [List.length_cons] at h
    by_cases e : x = y
    · subst e
      have := way_count n a b (by omega)
      rw [way, if_pos rfl, ed_eq, List.count_cons_self]
      simp only [List.length_cons]; omega
    · have h1 := way_count n a (y :: b) (by simp; omega)
      have h2 := way_count n (x :: a) b (by simp; omega)
      have h3 := ed_ne e a b
      rw [way, if_neg e]
      simp only [List.length_cons] at h1 h2 ⊢
      split
      · rw [List.count_cons_of_ne (by decide)]; omega
      · rw [List.count_cons_of_ne (by decide)]
        omega
theorem prs_told_length : ∀ (s : List Int) (i j : Nat), (prs (told i j s)).length = s.count 1
  | [], _, _ => rfl
  | t :: r, i, j => by
    have ih := prs_told_length r (if t = 3 then i else i + 1) (if t = 2 then j else j + 1)
    unfold prs at ih ⊢
    rw [told, List.length_map] at *
    by_cases h : t = 1
    · subst h; rw [List.count_cons_self, List.filter_cons_of_pos (by simp), List.length_cons, ih]
    · rw [List.count_cons_of_ne h, List.filter_cons_of_neg (by simpa using h), ih]
theorem pairs_length (a b : List Int) : ed a b + 2 * (pairs a b).length = a.length + b.length := by
  unfold pairs
  rw [prs_told_length]
  exact way_count _ a b (Nat.le_refl _)
theorem pairs_turn (a b : List Int) : (pairs a b).length = (pairs b a).length := by
  have h1 := pairs_length a b
  have h2 := pairs_length b a
  rw [ed_symm b a] at h2
  omega
/-- What is told of what is kept: places of both that hold the same, which rise. -/
def Good (a b : List Int) (i j : Nat) (l : List (Int × Int)) : Prop :=
  (∀ k (h : k < l.length), ∃ p q : Nat, l[k] = ((p : Int), (q : Int)) ∧ i ≤ p ∧ j ≤ q ∧ ∃ (hp : p < a.length) (hq : q < b.length), a[p] = b[q]) ∧
  (∀ k (h : k + 1 < l.length), (l[k]'(by omega)).1 < l[k + 1].1 ∧ (l[k]'(by omega)).2 < l[k + 1].2)
theorem Good.nil (a b : List Int) (i j : Nat) : Good a b i j [] := ⟨fun _ h => by simp at h, fun _ h => by simp at h⟩
theorem Good.more {a b : List Int} {i j i' j' : Nat} {l : List (Int × Int)} (h : Good a b i j l) (h1 : i' ≤ i) (h2 : j' ≤ j) : Good a b i' j' l :=
  ⟨fun k hk => by obtain ⟨p, q, e, e1, e2, e3⟩ := h.1 k hk; exact ⟨p, q, e, by omega, by omega, e3⟩, h.2⟩
theorem Good.cons {a b : List Int} {i j : Nat} {l : List (Int × Int)} (h : Good a b (i + 1) (j + 1) l) (hi : i < a.length) (hj : j < b.length) (e : a[i] = b[j]) : Good a b i j (((i : Int), (j : Int)) :: l) := by
  refine ⟨fun k hk => ?_, fun k hk => ?_⟩
  · cases k with
    | zero => exact ⟨i, j, rfl, Nat.le_refl _, Nat.le_refl _, hi, hj, e⟩
    | succ k =>
      obtain ⟨p, q, e', e1, e2, e3⟩ := h.1 k (by simpa using hk)
      exact ⟨p, q, by simpa using e', by omega, by omega, e3⟩
  · cases k with
    | zero =>
      obtain ⟨p, q, e', e1, e2, e3⟩ := h.1 0 (by simpa using hk)
      simp only [List.getElem_cons_zero, List.getElem_cons_succ, e']
      omega
    | succ k =>
      have := h.2 k (by simpa using hk)
      simpa using this
theorem told_good (a b : List Int) : ∀ (n i j : Nat), (a.length - i) + (b.length - j) ≤ n → Good a b i j (prs (told i j (Wy a b i j)))
  | n, i, j, hn => by
    by_cases hk : kept a b i j = true
    · obtain ⟨hi, hj, e⟩ := kept_yes hk
      match n, hn with
      | 0, hn => omega
      | n + 1, hn =>
        have ih := told_good a b n (i + 1) (j + 1) (by omega)
        rw [(Wy_kept hk).1, told]
        have : prs (((1 : Int), i, j) :: told (if (1 : Int) = 3 then i else i + 1) (if (1 : Int) = 2 then j else j + 1) (Wy a b (i + 1) (j + 1))) = ((i : Int), (j : Int)) :: prs (told (i + 1) (j + 1) (Wy a b (i + 1) (j + 1))) := by
          rw [if_neg (by decide), if_neg (by decide)]; unfold prs; rw [List.filter_cons_of_pos (by simp)]; rfl
        rw [this]
        exact ih.cons hi hj e
    · have hk : kept a b i j = false := by simpa using hk
      by_cases hg : i < a.length ∨ j < b.length
      · by_cases ho : outs a b i j = true
        · have hi := (of_decide_eq_true ho).1
          match n, hn with
          | 0, hn => omega
          | n + 1, hn =>
            have ih := told_good a b n (i + 1) j (by omega)
            rw [(Wy_out hk ho).1, told, if_neg (by decide), if_pos rfl]
            have : prs (((2 : Int), i, j) :: told (i + 1) j (Wy a b (i + 1) j)) = prs (told (i + 1) j (Wy a b (i + 1) j)) := by
              unfold prs; rw [List.filter_cons_of_neg (by simp)]
            rw [this]
            exact ih.more (by omega) (Nat.le_refl _)
        · have ho : outs a b i j = false := by simpa using ho
          have hj := in_ends ho hg
          match n, hn with
          | 0, hn => omega
          | n + 1, hn =>
            have ih := told_good a b n i (j + 1) (by omega)
            rw [(Wy_in hk ho hj).1, told, if_pos rfl, if_neg (by decide)]
            have : prs (((3 : Int), i, j) :: told i (j + 1) (Wy a b i (j + 1))) = prs (told i (j + 1) (Wy a b i (j + 1))) := by
              unfold prs; rw [List.filter_cons_of_neg (by simp)]
            rw [this]
            exact ih.more (Nat.le_refl _) (by omega)
      · rw [Wy_end (by omega) (by omega)]; exact Good.nil _ _ _ _
theorem pairs_good (a b : List Int) : Good a b 0 0 (pairs a b) := by
  have := told_good a b _ 0 0 (Nat.le_refl _)
  exact this

/-- A row of both that is found greedily is no longer than what is kept: the beginnings. -/
def Cm (a b : List Int) (p q n : Nat) : Prop := p ≤ a.length ∧ q ≤ b.length ∧ n ≤ p ∧ n ≤ q ∧ P (a.take p) (b.take q) (p + q - 2 * n)
theorem Cm.start (a b : List Int) : Cm a b 0 0 0 := ⟨Nat.zero_le _, Nat.zero_le _, Nat.le_refl _, Nat.le_refl _, .nil⟩
theorem take_more (a : List Int) {p k : Nat} (h : p ≤ k) : a.take k = a.take p ++ (a.drop p).take (k - p) := by
  have := (List.take_append_drop p (a.take k)).symm
  rw [List.take_take, Nat.min_eq_left h, List.drop_take] at this
  exact this
theorem Cm.next {a b : List Int} {p q n k j : Nat} (h : Cm a b p q n) (hk : p ≤ k) (hj : q ≤ j) (hka : k < a.length) (hjb : j < b.length) (e : b[j] = a[k]) : Cm a b (k + 1) (j + 1) (n + 1) := by
  obtain ⟨h1, h2, h3, h4, h5⟩ := h
  refine ⟨by omega, by omega, by omega, by omega, ?_⟩
  have g := ((h5.outEnds ((a.drop p).take (k - p))).putEnds ((b.drop q).take (j - q))).keepEnd a[k]
  rw [← take_more a hk, ← take_more b hj, ← List.take_succ_eq_append_getElem hka, ← e, ← List.take_succ_eq_append_getElem hjb] at g
  have hl1 : ((a.drop p).take (k - p)).length = k - p := by rw [List.length_take, List.length_drop]; omega
  have hl2 : ((b.drop q).take (j - q)).length = j - q := by rw [List.length_take, List.length_drop]; omega
  rw [hl1, hl2] at g
  rw [show k + 1 + (j + 1) - 2 * (n + 1) = p + q - 2 * n + (k - p) + (j - q) by omega]
  exact g
theorem Cm.most {a b : List Int} {p q n : Nat} (h : Cm a b p q n) : n ≤ (pairs a b).length := by
  obtain ⟨h1, h2, h3, h4, h5⟩ := h
  have g := (h5.outEnds (a.drop p)).putEnds (b.drop q)
  rw [List.take_append_drop, List.take_append_drop] at g
  have := g.le
  have hp := pairs_length a b
  rw [List.length_drop, List.length_drop] at this
  omega
/-- The next step of the way. -/
theorem Wy_next {a b : List Int} {i j : Nat} {s : Int} {r : List Int} (h : Wy a b i j = s :: r) :
    (s = 1 ∧ r = Wy a b (i + 1) (j + 1) ∧ ∃ (hi : i < a.length) (hj : j < b.length), a[i] = b[j]) ∨ (s = 2 ∧ r = Wy a b (i + 1) j ∧ i < a.length) ∨ (s = 3 ∧ r = Wy a b i (j + 1) ∧ j < b.length) := by
  by_cases hk : kept a b i j = true
  · rw [(Wy_kept hk).1] at h
    injection h with h1 h2
    exact .inl ⟨h1.symm, h2.symm, kept_yes hk⟩
  · have hk : kept a b i j = false := by simpa using hk
    by_cases hg : i < a.length ∨ j < b.length
    · by_cases ho : outs a b i j = true
      · rw [(Wy_out hk ho).1] at h
        injection h with h1 h2
        exact .inr (.inl ⟨h1.symm, h2.symm, (of_decide_eq_true ho).1⟩)
      · have ho : outs a b i j = false := by simpa using ho
        have hj := in_ends ho hg
        rw [(Wy_in hk ho hj).1] at h
        injection h with h1 h2
        exact .inr (.inr ⟨h1.symm, h2.symm, hj⟩)
    · rw [Wy_end (by omega) (by omega)] at h
      cases h
theorem Wy_nil {a b : List Int} {i j : Nat} (h : Wy a b i j = []) : a.length ≤ i ∧ b.length ≤ j := by
  by_cases hg : i < a.length ∨ j < b.length
  · exfalso
    by_cases hk : kept a b i j = true
    · rw [(Wy_kept hk).1] at h; cases h
    · have hk : kept a b i j = false := by simpa using hk
      by_cases ho : outs a b i j = true
      · rw [(Wy_out hk ho).1] at h; cases h
      · have ho : outs a b i j = false := by simpa using ho
        rw [(Wy_in hk ho (in_ends ho hg)).1] at h; cases h
  · omega
end Go.Proofs.Ytigghcmbdnidnaa.M

namespace Go.Proofs.Ytigghcmbdnidnaa.N
set_option linter.unusedVariables false
set_option linter.unusedSimpArgs false
open Go.RowKit
open T
open V (IntsIn numCells numCells_snoc ints_own drawn_below)
open I (alloc1 own_at own_below)

/-- How many numbers two rows begin with alike. -/
def cpl : List Int → List Int → Nat
  | x :: a, y :: b => if x = y then cpl a b + 1 else 0
  | _, _ => 0
theorem cpl_is : ∀ (a b : List Int) (k : Nat), (∀ j (hj : j < a.length) (hj' : j < b.length), j < k → a[j] = b[j]) → k ≤ a.length → k ≤ b.length → (∀ (h : k < a.length) (h' : k < b.length), ¬ a[k] = b[k]) → cpl a b = k
  | [], _, k, _, h1, _, _ => by simp only [List.length_nil] at h1; cases b : (‹List Int› : List Int) <;> (simp only [cpl]; omega)
  | x :: a, [], k, _, _, h2, _ => by simp only [List.length_nil] at h2; simp only [cpl]; omega
  | x :: a, y :: b, 0, _, _, _, hn => by
    have := hn (by simp) (by simp)
    simp only [List.getElem_cons_zero] at this
    rw [cpl, if_neg this]
  | x :: a, y :: b, k + 1, h, h1, h2, hn => by
    have h0 := h 0 (by simp) (by simp) (by omega)
    simp only [List.getElem_cons_zero] at h0
    rw [cpl, if_pos h0, cpl_is a b k (fun j hj hj' hjk => by
      have := h (j + 1) (by simpa using hj) (by simpa using hj') (by omega)
      simpa using this) (by simpa using h1) (by simpa using h2) (fun g g' => by
      have := hn (by simpa using g) (by simpa using g')
      simpa using this)]
theorem cpl_le1 : ∀ a b : List Int, cpl a b ≤ a.length
  | [], _ => by simp [cpl]
  | x :: a, [] => by simp [cpl]
  | x :: a, y :: b => by have := cpl_le1 a b; rw [cpl]; split <;> simp; omega
theorem cpl_le2 : ∀ a b : List Int, cpl a b ≤ b.length
  | [], _ => by simp [cpl]
  | x :: a, [] => by simp [cpl]
  | x :: a, y :: b => by have := cpl_le2 a b; rw [cpl]; split <;> simp; omega
/-- .. and, of what is left, end with alike. -/
def csl (a b : List Int) : Nat := cpl (a.drop (cpl a b)).reverse (b.drop (cpl a b)).reverse
theorem csl_is {a b : List Int} {k e : Nat} (hk : cpl a b = k) (h : ∀ j (hj : a.length - 1 - j < a.length) (hj' : b.length - 1 - j < b.length), j < e → a[a.length - 1 - j] = b[b.length - 1 - j]) (h1 : e + k ≤ a.length) (h2 : e + k ≤ b.length)
    (hn : ∀ (_ : e + k < a.length) (_ : e + k < b.length) (hj : a.length - 1 - e < a.length) (hj' : b.length - 1 - e < b.length), ¬ a[a.length - 1 - e] = b[b.length - 1 - e]) : csl a b = e := by
  unfold csl
  rw [hk]
  have g : ∀ (l : List Int) (j : Nat) (hj : j < (l.drop k).reverse.length), (l.drop k).reverse[j] = l[l.length - 1 - j]'(by simp at hj; omega) := fun l j hj => by
    rw [List.getElem_reverse, List.getElem_drop]
    congr 1
    simp at hj ⊢
    omega
  refine cpl_is _ _ e (fun j hj hj' hje => ?_) (by simp; omega) (by simp; omega) (fun q q' => ?_)
  · rw [g, g]; exact h j (by simp at hj; omega) (by simp at hj'; omega) hje
  · rw [g, g]; exact hn (by simp at q; omega) (by simp at q'; omega) (by simp at q; omega) (by simp at q'; omega)
theorem step_eq {a b : List Int} {k : Nat} (hk : k < a.length) (hk' : k < b.length) (h : a[k] = b[k]) (H : ∀ j (hj : j < a.length) (hj' : j < b.length), j < k → a[j] = b[j]) : ∀ j (hj : j < a.length) (hj' : j < b.length), j < k + 1 → a[j] = b[j] := V.ext_step hk hk' h H
theorem step_back {a b : List Int} {e : Nat} (h1 : a.length - 1 - e < a.length) (h2 : b.length - 1 - e < b.length) (h : a[a.length - 1 - e] = b[b.length - 1 - e]) (H : ∀ j (hj : a.length - 1 - j < a.length) (hj' : b.length - 1 - j < b.length), j < e → a[a.length - 1 - j] = b[b.length - 1 - j]) :
    ∀ j (hj : a.length - 1 - j < a.length) (hj' : b.length - 1 - j < b.length), j < e + 1 → a[a.length - 1 - j] = b[b.length - 1 - j] := fun j hj hj' hje => by
  by_cases q : j = e
  · subst q; exact h
  · exact H j hj hj' (by omega)
theorem drewN_add (w : World) (q n : Nat) : (w.drewN q).drewN n = w.drewN (q + n) := by simp [World.drewN, Nat.add_assoc]
theorem getD_at {a : List Int} {k : Nat} (h : k < a.length) : a.getD k 0 = a[k] := by rw [List.getD_eq_getElem?_getD, List.getElem?_eq_getElem h]; rfl
theorem go_true {a b : List Int} {k m : Nat} (hm : m = min a.length b.length) (h : true = (decide (k < m) && decide (a.getD k 0 = b.getD k 0))) (H : ∀ j (hj : j < a.length) (hj' : j < b.length), j < k → a[j] = b[j]) : k < m ∧ ∀ j (hj : j < a.length) (hj' : j < b.length), j < k + 1 → a[j] = b[j] := by
  have h2 := (Bool.and_eq_true _ _).mp h.symm
  have h3 := of_decide_eq_true h2.1
  have h4 := of_decide_eq_true h2.2
  have ha : k < a.length := by omega
  have hb : k < b.length := by omega
  rw [getD_at ha, getD_at hb] at h4
  exact ⟨h3, step_eq ha hb h4 H⟩
theorem go_false {a b : List Int} {k m : Nat} (hm : m = min a.length b.length) (hk : k ≤ m) (h : false = (decide (k < m) && decide (a.getD k 0 = b.getD k 0))) (H : ∀ j (hj : j < a.length) (hj' : j < b.length), j < k → a[j] = b[j]) : cpl a b = k :=
  cpl_is a b k H (by omega) (by omega) fun ha hb e => by
    rw [getD_at ha, getD_at hb, decide_eq_true e, decide_eq_true (show k < m by omega)] at h
    cases h
theorem back_true {a b : List Int} {e n : Nat} (h1 : n ≤ a.length) (h2 : n ≤ b.length) (h : true = (decide (e < n) && decide (a.getD (a.length - 1 - e) 0 = b.getD (b.length - 1 - e) 0))) (H : ∀ j (hj : a.length - 1 - j < a.length) (hj' : b.length - 1 - j < b.length), j < e → a[a.length - 1 - j] = b[b.length - 1 - j]) :
    e < n ∧ ∀ j (hj : a.length - 1 - j < a.length) (hj' : b.length - 1 - j < b.length), j < e + 1 → a[a.length - 1 - j] = b[b.length - 1 - j] := by
  have h2' := (Bool.and_eq_true _ _).mp h.symm
  have h3 := of_decide_eq_true h2'.1
  have h4 := of_decide_eq_true h2'.2
  have ha : a.length - 1 - e < a.length := by omega
  have hb : b.length - 1 - e < b.length := by omega
  rw [getD_at ha, getD_at hb] at h4
  exact ⟨h3, step_back ha hb h4 H⟩
theorem back_false {a b : List Int} {k e n : Nat} (hc : cpl a b = k) (hn : n = min a.length b.length - k) (hk : k ≤ min a.length b.length) (he : e ≤ n) (h : false = (decide (e < n) && decide (a.getD (a.length - 1 - e) 0 = b.getD (b.length - 1 - e) 0))) (H : ∀ j (hj : a.length - 1 - j < a.length) (hj' : b.length - 1 - j < b.length), j < e → a[a.length - 1 - j] = b[b.length - 1 - j]) : csl a b = e :=
  csl_is hc H (by omega) (by omega) fun q1 q2 ha hb e' => by
    rw [getD_at ha, getD_at hb, decide_eq_true e', decide_eq_true (show e < n by omega)] at h
    cases h
/-- Ends, of two rows. -/
def EnC (fn : FuncId) (a b : List Int) : Prop := ∀ (W : World) (A B : Option Addr) (c c' : Nat), IntsIn W A a → IntsIn W B b → Calls Try.prog fn #[.slice A a.length c, .slice B b.length c'] W fun e w' => e = .returned (.tuple #[.int .i64 (cpl a b : Nat), .int .i64 (csl a b : Nat)]) ∧ Below W.heap.size W w'
theorem EnC.at {fn : FuncId} {a b : List Int} (h : EnC fn a b) (W : World) {A B : Option Addr} {c c' : Nat} (h1 : IntsIn W A a) (h2 : IntsIn W B b) : Calls Try.prog fn #[.slice A a.length c, .slice B b.length c'] W fun e w' => e = .returned (.tuple #[.int .i64 (cpl a b : Nat), .int .i64 (csl a b : Nat)]) ∧ Below W.heap.size W w' := h W A B c c' h1 h2

end Go.Proofs.Ytigghcmbdnidnaa.N

namespace Go.Proofs.Ytigghcmbdnidnaa.V
set_option linter.unusedVariables false
set_option linter.unusedSimpArgs false
open Go.RowKit
open T
open I (It Lb ItemsIn ItemsAt ItemsOk itCells itCells_snoc itCells_at items_cells own_at own_below alloc1)

/-- An item's cells. -/
structure ItAt (w : World) (bk o : Nat) (y : It) : Prop where
  lt : bk < w.heap.size
  c0 : w.cell? ⟨bk, o, none⟩ = some (.int .i64 y.id)
  c1 : w.cell? ⟨bk, o + 1, none⟩ = some (.int .i64 y.lv)
  c2 : w.cell? ⟨bk, o + 2, none⟩ = some (.int .u64 (y.ct : Int))
  c3 : w.cell? ⟨bk, o + 3, none⟩ = some (.bool y.an)
  c4 : w.cell? ⟨bk, o + 4, none⟩ = some (.string ⟨y.tx.toArray⟩)
  c5 : w.cell? ⟨bk, o + 5, none⟩ = some (.bool y.ba)
theorem ItAt.below {w w' : World} {bk o : Nat} {y : It} (h : ItAt w bk o y) (hb : Below w.heap.size w w') : ItAt w' bk o y :=
  ⟨Nat.lt_of_lt_of_le h.lt hb.size, (hb.cell (p := ⟨bk, _, none⟩) h.lt).trans h.c0, (hb.cell (p := ⟨bk, _, none⟩) h.lt).trans h.c1, (hb.cell (p := ⟨bk, _, none⟩) h.lt).trans h.c2, (hb.cell (p := ⟨bk, _, none⟩) h.lt).trans h.c3, (hb.cell (p := ⟨bk, _, none⟩) h.lt).trans h.c4, (hb.cell (p := ⟨bk, _, none⟩) h.lt).trans h.c5⟩
theorem it_at {w : World} {bk off k : Nat} {xs : List It} (h : ItemsAt w bk off xs) (hb : bk < w.heap.size) (hk : k < xs.length) : ItAt w bk (off + k * 6) xs[k] := by
  obtain ⟨c0, c1, c2, c3, c4, c5⟩ := h k hk
  exact ⟨hb, c0, c1, c2, c3, c4, c5⟩
theorem own_base_le {w : World} {base base' : Nat} {e : TypeId} {size n : Nat} {v : Value} {xs : List Value} (h : w.ownsRow base e size v n xs) (hb : base' ≤ base) : w.ownsRow base' e size v n xs := own_more h hb
theorem cut_take {o : Lb} {l : List It} {k : Nat} (hk : k < l.length) : cut o (l.take (k + 1)) = cut o (l.take k) ++ (if sees o l[k] = true then [l[k]] else []) := by
  rw [List.take_succ_eq_append_getElem hk, cut_snoc]
theorem cut_le (o : Lb) (l : List It) : (cut o l).length ≤ l.length := List.length_filter_le _ _

end Go.Proofs.Ytigghcmbdnidnaa.V

namespace Go.Proofs.Ytigghcmbdnidnaa.V
set_option linter.unusedVariables false
set_option linter.unusedSimpArgs false
open Go.RowKit
open T
open I (It Lb ItemsIn ItemsAt ItemsOk itCells itCells_snoc itCells_at items_cells own_at own_below alloc1)

/-- The ID at a place; 0 where none is. -/
def idAt (l : List It) (a : Int) : Int := if 0 ≤ a then ((l[a.toNat]?).map (·.id)).getD 0 else 0
def ids (l : List It) (t : List Int) : List Int := t.map (idAt l)
theorem idAt_step {l : List It} {j : Nat} (hj : j < l.length) (a : Int) : idAt (l.take (j + 1)) a = if (j : Int) = a then l[j].id else idAt (l.take j) a := by
  unfold idAt
  by_cases h0 : 0 ≤ a
  · obtain ⟨n, rfl⟩ := Int.eq_ofNat_of_zero_le h0
    rw [if_pos h0, if_pos h0, Int.toNat_natCast, List.getElem?_take, List.getElem?_take]
    by_cases h1 : j = n
    · subst h1
      rw [if_pos rfl, if_pos (show j < j + 1 by omega), List.getElem?_eq_getElem hj]; rfl
    · rw [if_neg (show ¬ (j : Int) = (n : Int) by omega)]
      by_cases h2 : n < j
      · rw [if_pos (show n < j + 1 by omega), if_pos h2]
      · rw [if_neg (show ¬ n < j + 1 by omega), if_neg h2]
  · rw [if_neg h0, if_neg h0, if_neg (by omega)]
theorem idAt_none (a : Int) : idAt [] a = 0 := by unfold idAt; split <;> rfl
theorem ids_take {l : List It} {t : List Int} {k : Nat} (hk : k < t.length) : ids l (t.take (k + 1)) = ids l (t.take k) ++ [idAt l t[k]] := by
  unfold ids; rw [List.take_succ_eq_append_getElem hk, List.map_append]; rfl
end Go.Proofs.Ytigghcmbdnidnaa.V

namespace Go.Proofs.Ytigghcmbdnidnaa.V
set_option linter.unusedVariables false
set_option linter.unusedSimpArgs false
open Go.RowKit
open T
open I (It Lb ItemsIn ItemsAt ItemsOk itCells itCells_snoc itCells_at items_cells own_at own_below alloc1)

theorem own_ne {w : World} {base : Nat} {e : TypeId} {size n : Nat} {v : Value} {xs : List Value} (h : w.ownsRow base e size v n xs) {g : Nat} (hne : ∀ cs, w.heap[g]? ≠ some (.cells cs e (0, 0))) : v.ownBlock = none ∨ v.ownBlock ≠ some g := by
  rcases h.2 with ⟨rfl, _⟩ | ⟨g', cap, cur, rfl, hg, hh, _⟩
  · exact .inl rfl
  · refine .inr fun e' => ?_
    simp [Value.ownBlock] at e'
    subst e'
    exact hne _ hh
theorem own_ne' {w : World} {base : Nat} {e : TypeId} {size n : Nat} {v : Value} {xs : List Value} (h : w.ownsRow base e size v n xs) {g : Nat} (hne : ∀ cs, w.heap[g]? ≠ some (.cells cs e (0, 0))) : some g ≠ v.ownBlock := fun e' => by
  rcases own_ne h hne with h1 | h1
  · rw [h1] at e'; cases e'
  · exact h1 e'.symm
theorem own_apart {w : World} {base base' : Nat} {e e' : TypeId} {size size' n n' : Nat} {v v' : Value} {xs xs' : List Value} (hne : e ≠ e') (h : w.ownsRow base e size v n xs) (h' : w.ownsRow base' e' size' v' n' xs') : v.ownBlock = none ∨ v.ownBlock ≠ v'.ownBlock := by
  rcases h'.2 with ⟨rfl, _⟩ | ⟨g', cap, cur, rfl, hg, hh, _⟩
  · cases hv : v.ownBlock with
    | none => exact .inl rfl
    | some k => exact .inr (by simp [Value.ownBlock])
  · rcases own_ne h (g := g') (fun cs he => by rw [hh] at he; injection he with he; injection he with _ he; exact hne he.symm) with h1 | h1
    · exact .inl h1
    · exact .inr (by simpa [Value.ownBlock] using h1)
theorem grown_of {w w' : World} (hb : Below w.heap.size w w') (row : Option Nat) : w.grownBy w' row := ⟨hb.os, hb.tape, hb.output, hb.size, fun k hk _ => hb.block k hk⟩
theorem grown_set (w : World) (p : Addr) (u : Value) : w.grownBy (w.setCell p u) (some p.block) :=
  ⟨rfl, rfl, rfl, by simp [World.setCell], fun k _ hk => Below.heap_setCell _ _ _ _ (fun e => hk (by rw [e]))⟩
section
variable {w w' : World} {base vb : Nat} {vl va v' : Value} {ls ls' : List (List UInt8 × Bool)} {ts ts' : List Int}
end
def atI (o : Lb) (l : List It) : List Int := (ats o 0 l).map fun n : Nat => (n : Int)
theorem atI_take {o : Lb} {l : List It} {k : Nat} (hk : k < l.length) : atI o (l.take (k + 1)) = atI o (l.take k) ++ (if sees o l[k] = true then [(k : Int)] else []) := by
  unfold atI
  rw [List.take_succ_eq_append_getElem hk, ats_snoc, List.map_append, Nat.zero_add, List.length_take, Nat.min_eq_left (by omega)]
  split <;> rfl
theorem lst_take {o : Lb} {l : List It} {k : Nat} (hk : k < l.length) : lst o 0 (-1) (l.take (k + 1)) = if sees o l[k] = true then (k : Int) else lst o 0 (-1) (l.take k) := by
  rw [List.take_succ_eq_append_getElem hk, lst_snoc, Nat.zero_add, List.length_take, Nat.min_eq_left (by omega)]
theorem rln_take {o : Lb} {h : List UInt8} {z : Int} {l : List It} {k : Nat} (hk : k < l.length) : rln o h z 0 (l.take (k + 1)) = rln o h z 0 (l.take k) ++ (if sees o l[k] = true then [(txt h l[k], decide ((k : Int) = z) && l[k].ba)] else []) := by
  rw [List.take_succ_eq_append_getElem hk, rln_snoc, Nat.zero_add, List.length_take, Nat.min_eq_left (by omega)]
theorem rln_length (o : Lb) (h : List UInt8) (z : Int) : ∀ (l : List It) (k : Nat), (rln o h z k l).length = (cut o l).length
  | [], _ => rfl
  | x :: r, k => by
    rw [rln]
    by_cases hx : sees o x = true
    · rw [if_pos hx, List.length_cons, rln_length o h z r]; simp [cut, hx]
    · rw [if_neg hx, rln_length o h z r]; simp [cut, hx]
theorem lnCells_snoc (xs : List (List UInt8 × Bool)) (t : List UInt8) (b : Bool) : lineCells (xs ++ [(t, b)]) = lineCells xs ++ [.string ⟨t.toArray⟩, .bool b] := lineCells_snoc xs t b
end Go.Proofs.Ytigghcmbdnidnaa.V



namespace Go.Proofs.Ytigghcmbdnidnaa.N
set_option linter.unusedVariables false
set_option linter.unusedSimpArgs false
open Go.RowKit
open T
open V (grown_of IntsIn numCells numCells_snoc ints_own drawn_below)
open I (alloc1 own_at own_below)

/-- Numbers with how often each is there, rising: of a row. -/
structure Cn (l : List Int) (cs : List (Int × Nat)) : Prop where
  rise : cs.Pairwise (fun p q => p.1 < q.1)
  mem : ∀ p ∈ cs, p.1 ∈ l ∧ p.2 = l.count p.1
  all : ∀ n ∈ l, ∃ p ∈ cs, p.1 = n
theorem pairs_same : ∀ {cs ds : List (Int × Nat)}, cs.Pairwise (fun p q => p.1 < q.1) → ds.Pairwise (fun p q => p.1 < q.1) → (∀ p, p ∈ cs ↔ p ∈ ds) → cs = ds
  | [], [], _, _, _ => rfl
  | [], d :: ds, _, _, h => by have := (h d).2 (by simp); simp at this
  | c :: cs, [], _, _, h => by have := (h c).1 (by simp); simp at this
  | c :: cs, d :: ds, hc, hd, h => by
    rw [List.pairwise_cons] at hc hd
    have e : c = d := by
      have h1 := (h c).1 (by simp)
      have h2 := (h d).2 (by simp)
      rcases List.mem_cons.1 h1 with h1 | h1
      · exact h1
      · rcases List.mem_cons.1 h2 with h2 | h2
        · exact h2.symm
        · have := hd.1 c h1; have := hc.1 d h2; omega
    subst e
    rw [pairs_same hc.2 hd.2 fun p => ?_]
    constructor
    · intro hp
      rcases List.mem_cons.1 ((h p).1 (by simp [hp])) with e | e
      · subst e; have := hc.1 p hp; omega
      · exact e
    · intro hp
      rcases List.mem_cons.1 ((h p).2 (by simp [hp])) with e | e
      · subst e; have := hd.1 p hp; omega
      · exact e
theorem Cn.same {l : List Int} {cs ds : List (Int × Nat)} (h : Cn l cs) (h' : Cn l ds) : cs = ds := by
  have half : ∀ {cs ds : List (Int × Nat)}, Cn l cs → Cn l ds → ∀ p ∈ cs, p ∈ ds := fun {cs ds} h h' p hp => by
    obtain ⟨q, hq, e⟩ := h'.all _ (h.mem p hp).1
    have e2 : q = p := Prod.ext e (by rw [(h'.mem q hq).2, (h.mem p hp).2, e])
    rw [← e2]; exact hq
  exact pairs_same h.rise h'.rise fun p => ⟨half h h' p, half h' h p⟩
theorem Cn.perm {l m : List Int} {cs : List (Int × Nat)} (h : Cn l cs) (hp : l.Perm m) : Cn m cs :=
  ⟨h.rise, fun p hp' => ⟨hp.mem_iff.1 (h.mem p hp').1, by rw [(h.mem p hp').2]; exact hp.count_eq _⟩, fun n hn => h.all n (hp.mem_iff.2 hn)⟩
theorem Cn.new {l : List Int} {cs : List (Int × Nat)} {n : Int} (h : Cn l cs) (hn : ∀ x ∈ l, x < n) : Cn (l ++ [n]) (cs ++ [(n, 1)]) := by
  have hnl : n ∉ l := fun hm => by have := hn n hm; omega
  refine ⟨?_, fun p hp => ?_, fun x hx => ?_⟩
  · rw [List.pairwise_append]
    exact ⟨h.rise, by simp, fun p hp q hq => by simp at hq; subst hq; exact hn _ (h.mem p hp).1⟩
  · rcases List.mem_append.1 hp with hp | hp
    · have hpl := (h.mem p hp).1
      refine ⟨by simp [hpl], ?_⟩
      rw [List.count_append, (h.mem p hp).2, List.count_singleton]
      have : ¬ n = p.1 := fun e => hnl (by rw [e]; exact hpl)
      simp [this]
    · simp at hp; subst hp
      exact ⟨by simp, by rw [List.count_append, List.count_eq_zero_of_not_mem hnl]; simp⟩
  · rcases List.mem_append.1 hx with hx | hx
    · obtain ⟨p, hp, e⟩ := h.all x hx; exact ⟨p, by simp [hp], e⟩
    · simp at hx; subst hx; exact ⟨(x, 1), by simp, rfl⟩
theorem Cn.again {l : List Int} {cs : List (Int × Nat)} {n : Int} {c : Nat} (h : Cn l (cs ++ [(n, c)])) : Cn (l ++ [n]) (cs ++ [(n, c + 1)]) := by
  have hr := h.rise
  rw [List.pairwise_append] at hr
  have hc := h.mem (n, c) (by simp)
  refine ⟨?_, fun p hp => ?_, fun x hx => ?_⟩
  · rw [List.pairwise_append]
    exact ⟨hr.1, by simp, fun p hp q hq => by simp at hq; subst hq; exact hr.2.2 p hp (n, c) (by simp)⟩
  · rcases List.mem_append.1 hp with hp | hp
    · have hm := h.mem p (by simp [hp])
      have hlt := hr.2.2 p hp (n, c) (by simp)
      refine ⟨by simp [hm.1], ?_⟩
      rw [List.count_append, hm.2, List.count_singleton]
      have : ¬ n = p.1 := by simp only at hlt; omega
      simp [this]
    · simp at hp; subst hp
      refine ⟨by simp, ?_⟩
      rw [List.count_append, List.count_singleton, ← hc.2]
      simp
  · have hx' : x ∈ l := by
      rcases List.mem_append.1 hx with hx | hx
      · exact hx
      · simp at hx; subst hx; exact hc.1
    obtain ⟨p, hp, e⟩ := h.all x hx'
    rcases List.mem_append.1 hp with hp | hp
    · exact ⟨p, by simp [hp], e⟩
    · simp at hp; subst hp; exact ⟨(n, c + 1), by simp, e⟩
theorem Cn.nil : Cn [] [] := ⟨.nil, fun p hp => by simp at hp, fun n hn => by simp at hn⟩
def tot (cs : List (Int × Nat)) : Nat := (cs.map (·.2)).sum
theorem tot_snoc (cs : List (Int × Nat)) (p : Int × Nat) : tot (cs ++ [p]) = tot cs + p.2 := by simp [tot]

/-- The cells of pairs. -/
def prCells (ps : List (Int × Int)) : List Value := ps.flatMap fun p => [.int .i64 p.1, .int .i64 p.2]
theorem prCells_snoc (ps : List (Int × Int)) (p : Int × Int) : prCells (ps ++ [p]) = prCells ps ++ [.int .i64 p.1, .int .i64 p.2] := by simp [prCells]
theorem prCells_length : ∀ ps : List (Int × Int), (prCells ps).length = ps.length * 2
  | [] => rfl
  | p :: r => by
    have : prCells (p :: r) = .int .i64 p.1 :: .int .i64 p.2 :: prCells r := by simp [prCells]
    rw [this, List.length_cons, List.length_cons, prCells_length r, List.length_cons]; omega
theorem infoPair : (Try.prog.info? 57).map (fun i => (i.zero, i.size, i.bytes)) = some (some (.agg #[.int .i64 0, .int .i64 0]), 2, 16) := by kernel_rfl
def srt (l : List Int) : List Int := l.mergeSort fun x y => decide (x ≤ y)
theorem srt_nil : srt [] = [] := by simp [srt]
theorem srt_length (l : List Int) : (srt l).length = l.length := List.length_mergeSort _
theorem srt_perm (l : List Int) : (srt l).Perm l := List.mergeSort_perm _ _
theorem srt_le (l : List Int) : (srt l).Pairwise (· ≤ ·) := by
  have := List.pairwise_mergeSort (le := fun x y : Int => decide (x ≤ y)) (fun a b c h1 h2 => by simp at *; omega) (fun a b => by simp; omega) l
  simpa [srt] using this
end Go.Proofs.Ytigghcmbdnidnaa.N

namespace Go.Proofs.Ytigghcmbdnidnaa.M
set_option linter.unusedVariables false
set_option linter.unusedSimpArgs false
open Go.RowKit
open T
open V (IntsIn numCells numCells_snoc ints_own drawn_below)
open I (alloc1 own_at own_below)
open N (prCells prCells_snoc prCells_length)

theorem infoStep : (Try.prog.info? 52).map (fun i => (i.zero, i.size, i.bytes)) = some (some (.int .i64 0), 1, 8) := by kernel_rfl
theorem infoPair : (Try.prog.info? 57).map (fun i => (i.zero, i.size, i.bytes)) = some (some (.agg #[.int .i64 0, .int .i64 0]), 2, 16) := by kernel_rfl
/-- What has been told of steps, in the box at Bp. -/
def JS (w0 : World) (Bp : Nat) (l : List (Int × Nat × Nat)) (W : World) : Prop :=
  ∃ v, W.heap[Bp]? = some (.cells #[v] 69 (0, 0)) ∧ W.ownsRow (Bp + 1) 52 1 v l.length (numCells (l.map (·.1))) ∧ Below Bp w0 W
theorem box_kept {W W' : World} {Bp : Nat} {o : Obj} (h : W.heap[Bp]? = some o) (hb : Below W.heap.size W W') : W'.heap[Bp]? = some o := (hb.block Bp (lt_of_block h)).trans h
/-- Behind an append to a row of elements of type e, and a store of it into its box. -/
theorem put_back {W w4 : World} {Bp : Nat} {v v' : Value} {T e : TypeId} {size n m : Nat} {xs ys : List Value} {o : Obj}
    (hbx : W.heap[Bp]? = some (.cells #[v] T (0, 0))) (hown : W.ownsRow (Bp + 1) e size v n xs) (he : e ≠ 3 ∧ e ≠ 28) (hT : T ≠ 3 ∧ T ≠ 28)
    (hg : (W.alloc o).grownBy w4 v.ownBlock) (hown4 : w4.ownsRow (Bp + 1) e size v' m ys) :
    w4.heap[Bp]? = some (.cells #[v] T (0, 0)) ∧ (w4.setCell ⟨Bp, 0, none⟩ v').heap[Bp]? = some (.cells #[v'] T (0, 0)) ∧ (w4.setCell ⟨Bp, 0, none⟩ v').ownsRow (Bp + 1) e size v' m ys ∧ KpT Bp W (w4.setCell ⟨Bp, 0, none⟩ v') := by
  have hlt := lt_of_block hbx
  have h1 : w4.heap[Bp]? = some (.cells #[v] T (0, 0)) := by
    rw [hg.block Bp (by simp; omega) (fun e => by have := own_base hown Bp e.symm; omega)]
    exact (alloc1 W o).block Bp hlt |>.trans hbx
  refine ⟨h1, one_setCell h1, ?_, ?_, ?_⟩
  · exact ownsRow_setCell_below hown4 (by simp) v'
  · exact (((alloc1 W o).mono (by omega)).grown hg (by simp; omega) (fun k ek => by have := own_base hown k ek; omega)).setCell (by simp) _
  · intro k cs t hk ht
    have hkl := lt_of_block hk
    have hkB : k ≠ Bp := fun e => by
      subst e; rw [hbx] at hk; injection hk with hk; injection hk with _ hk; rcases ht with rfl | rfl
      · exact hT.1 hk
      · exact hT.2 hk
    rw [heap_setCell_other _ ⟨Bp, 0, none⟩ k _ hkB, hg.block k (by simp; omega) (fun ek => ?_)]
    · exact (alloc1 W o).block k hkl
    · rcases hown.2 with ⟨rfl, _⟩ | ⟨g, cap, cur, rfl, _, hh, _⟩
      · simp [Value.ownBlock] at ek
      · simp only [Value.ownBlock, Option.some.injEq] at ek
        subst ek
        rw [hk] at hh; injection hh with hh; injection hh with _ hh
        rcases ht with rfl | rfl
        · exact he.1 hh.symm
        · exact he.2 hh.symm

/-- Pairs, in the box at Bp. -/
def JP (w0 : World) (Bp : Nat) (l : List (Int × Nat × Nat)) (W : World) : Prop :=
  ∃ v, W.heap[Bp]? = some (.cells #[v] 24 (0, 0)) ∧ W.ownsRow (Bp + 1) 57 2 v (prs l).length (prCells (prs l)) ∧ Below Bp w0 W
theorem prs_le (l : List (Int × Nat × Nat)) : (prs l).length ≤ l.length := by unfold prs; rw [List.length_map]; exact List.length_filter_le _ _
/-- Steps: a row of new memory. -/
def StEnd (W : World) (s : List Int) (e : Ending) (w' : World) : Prop := ∃ A cap, e = .returned (.slice A s.length cap) ∧ w'.ownsRow W.heap.size 52 1 (.slice A s.length cap) s.length (numCells s) ∧ Below W.heap.size W w'
def PaEnd (W : World) (ps : List (Int × Int)) (e : Ending) (w' : World) : Prop := ∃ A cap, e = .returned (.slice A ps.length cap) ∧ w'.ownsRow W.heap.size 57 2 (.slice A ps.length cap) ps.length (prCells ps) ∧ Below W.heap.size W w'
theorem ints_low {w w' : World} {A : Option Addr} {a : List Int} (h : IntsIn w A a) (hb : Below w.heap.size w w') : IntsLow w' w.heap.size A a := fun hp => by
  obtain ⟨bk, off, e, hlt, hl⟩ := h hp
  exact ⟨bk, off, e, hlt, fun j hj => (hb.cell (p := ⟨bk, off + j, none⟩) hlt).trans (hl j hj)⟩
theorem told_all (a b : List Int) : (told 0 0 (way a b)).map (·.1) = way a b := told_steps _ _ _
theorem told_len (a b : List Int) : (told 0 0 (way a b)).length = (way a b).length := by rw [← List.length_map (f := (·.1)), told_all]
end Go.Proofs.Ytigghcmbdnidnaa.M

namespace Go.Proofs.Ytigghcmbdnidnaa.V
set_option linter.unusedVariables false
set_option linter.unusedSimpArgs false
open Go.RowKit
open T
open I (It Lb ItemsIn ItemsAt ItemsOk itCells itCells_snoc itCells_at items_cells own_at own_below alloc1)

def OfEnd (w : World) (o : Lb) (h : List UInt8) (l : List It) (e : Ending) (w' : World) : Prop :=
  (∃ vl va, e = .returned (.agg #[vl, va]) ∧ w'.ownsRow w.heap.size 59 2 vl (lns h (cut o l)).length (lineCells (lns h (cut o l))) ∧ w'.ownsRow w.heap.size 3 1 va (atI o l).length (numCells (atI o l))) ∧ Below w.heap.size w w'
end Go.Proofs.Ytigghcmbdnidnaa.V

namespace Go.Proofs.Ytigghcmbdnidnaa.T
open Go.RowKit

/-- Is there a byte 10? -/
def hasNl (l : List UInt8) : Bool := l.contains 10
theorem has_at {s : ByteArray} {k : Nat} (hk : k < s.size) (h : (s[k].toNat : Int) = 10) : hasNl s.data.toList = true := by
  unfold hasNl
  have hl : k < s.data.toList.length := by rw [← Lib.size_eq]; exact hk
  rw [List.contains_iff_mem]
  have : s.data.toList[k] = 10 := by rw [byte s k hk hl]; exact UInt8.toNat_inj.1 (show s[k].toNat = 10 by omega)
  rw [← this]; exact List.getElem_mem hl
theorem has_none {s : ByteArray} (h : ∀ j (hj : j < s.size), ¬ (s[j].toNat : Int) = 10) : hasNl s.data.toList = false := by
  unfold hasNl
  rw [← Bool.not_eq_true, List.contains_iff_mem]
  intro hm
  obtain ⟨j, hj, e⟩ := List.getElem_of_mem hm
  have hj' : j < s.size := by rw [Lib.size_eq]; exact hj
  rw [byte s j hj' hj] at e
  exact h j hj' (by rw [e]; rfl)

set_option maxRecDepth 100000 in
theorem has_any (s : ByteArray) (w : World) (hs : s.size ≤ maxLen) :
    Calls Try.prog 62 #[.string s, .int .u8 10] w fun e w' => e = .returned (.bool (hasNl s.data.toList)) ∧ w = w' := by
  unfold maxLen at hs
  go_enter Try.func62, Try.ntmps62
  go_wp2_with fail
  go_loop [8] (fun i => ∃ k : Nat, k ≤ s.size ∧ i = .int .i64 k ∧ Hid (∀ j (hj : j < s.size), j < k → ¬ (s[j].toNat : Int) = 10)) (fun i => s.size - (intOf i).toNat)
  case atStart => exact ⟨0, Nat.zero_le _, rfl, Lib.hid (fun j _ h => absurd h (by omega))⟩
  case round =>
    obtain ⟨k, hk, rfl, HR⟩ := hrel
    by_cases hlt : k < s.size
    · by_cases h10 : (s[k].toNat : Int) = 10
      · have hb : ((s[k].toNat : Int) == 10) = true := by simp [h10]
        have HY := Lib.hid (has_at hlt h10)
        clear h10
        go_wp2_with fail
        go_ret
        exact ⟨ret_of (by rw [HY.out]; rfl), rfl⟩
      · have hb : ((s[k].toNat : Int) == 10) = false := by simp [h10]
        have HN := Lib.hid h10
        clear h10
        go_wp2_with fail
        go_round
        case rel =>
          refine ⟨k + 1, by omega, by go_num, Lib.hid (fun j hj hjk => ?_)⟩
          by_cases e : j = k
          · subst e; exact HN.out
          · exact HR.out j hj (by omega)
        case measure => simp [intOf]; omega
    · have HY := Lib.hid (has_none (s := s) (fun j hj => HR.out j hj (by omega)))
      go_wp2_with fail
      go_ret
      exact ⟨ret_of (by rw [HY.out]; rfl), rfl⟩
def Hs (s : ByteArray) (b : Bool) : Prop := ∀ w : World, Calls Try.prog 62 #[.string s, .int .u8 10] w fun e w' => e = .returned (.bool b) ∧ w = w'
theorem Hs.call {s : ByteArray} {b : Bool} (h : Hs s b) (w : World) : Calls Try.prog 62 #[.string s, .int .u8 10] w fun e w' => e = .returned (.bool b) ∧ w = w' := h w
theorem hs_is (t : List UInt8) (ht : t.length ≤ maxLen) : Hs ⟨t.toArray⟩ (hasNl t) := fun w => by
  have := has_any ⟨t.toArray⟩ w (by rw [show (⟨t.toArray⟩ : ByteArray).size = t.length by simp [ByteArray.size]]; exact ht)
  rwa [show (⟨t.toArray⟩ : ByteArray).data.toList = t by simp] at this

theorem right_step {xs : List (List UInt8 × Bool)} {k : Nat} (hk : k < xs.length) : P.right (xs.drop k) = (!(hasNl xs[k].1) && !(xs[k].2 && (decide (k + 1 < xs.length) || xs[k].1.isEmpty)) && P.right (xs.drop (k + 1))) := by
  unfold hasNl
  rw [drop_line hk, P.right]
  congr 4
  cases h : (xs.drop (k + 1)).isEmpty with
  | true =>
    have := List.isEmpty_iff.1 h
    have := congrArg List.length this
    simp at this
    rw [decide_eq_false (by omega)]; rfl
  | false =>
    rw [decide_eq_true]; rfl
    have : ¬ xs.drop (k + 1) = [] := fun e => by rw [e] at h; cases h
    rcases Nat.lt_or_ge (k + 1) xs.length with h' | h'
    · exact h'
    · exact absurd (List.drop_eq_nil_of_le h') this
set_option maxHeartbeats 1000000 in
set_option maxRecDepth 100000 in
theorem right_anyT (A : Option Addr) (cap : Nat) (xs : List (List UInt8 × Bool)) (w : World) (hlen : xs.length ≤ 4194304) (hb : ∀ y ∈ xs, y.1.length ≤ maxLen) (hA : LinesIn w A xs) :
    Calls Try.prog 53 #[.slice A xs.length cap] w fun e w' => e = .returned (.bool (P.right xs)) ∧ Below w.heap.size w w' := by
  have HA := Lib.hid hA
  clear hA
  go_enter Try.func53, Try.ntmps53
  go_wp2_with fail
  go_loopg [7] xs.length (fun n i wr => ∃ k : Nat, k ≤ xs.length ∧ i = .int .i64 k ∧ xs.length - k ≤ n ∧ Hid (P.right xs = P.right (xs.drop k)) ∧ Below w.heap.size w wr)
  case atStart => exact ⟨0, Nat.zero_le _, rfl, by omega, Lib.hid rfl, Below.refl _ _⟩
  case round =>
    obtain ⟨k, hk, rfl, hn, HR, hbel⟩ := hrel
    by_cases hlt : k < xs.length
    · obtain ⟨bk, off, hAe, hbk, hL⟩ := HA.out (by omega)
      subst hAe
      obtain ⟨c0, c1⟩ := hL.below hbel hbk k hlt
      have hbkr : bk < wr.heap.size := Nat.lt_of_lt_of_le hbk hbel.size
      have h0k : (0 : Int) ≤ (k : Int) := Int.natCast_nonneg _
      have h1k : (k : Int) < (xs.length : Int) := by omega
      have htl := hb _ (List.getElem_mem hlt)
      have HS := Lib.hid (HR.out.trans (right_step hlt))
      have HH := hs_is xs[k].1 htl
      clear htl
      clear hL HR
      generalize xs[k].2 = b at *
      generalize xs[k].1 = t at *
      generalize hasNl t = nl at *
      have hbel1 := hbel.alloc hbel.size (.cells #[.string ⟨t.toArray⟩, .bool b] 59)
      have hw : IntKind.i64.wrap ((xs.length : Int) - 1) = (xs.length : Int) - 1 := IntWalk.i64_in _ (by omega)
      cases nl with
      | true =>
        go_wp2_with fail
        with_reducible refine (HH.call _).mono ?_
        rintro e w1 ⟨rfl, rfl⟩
        go_wp2_with fail
        go_ret
        exact ⟨ret_of (by rw [HS.out]; rfl), hbel1⟩
      | false =>
        cases b with
        | false =>
          go_wp2_with fail
          with_reducible refine (HH.call _).mono ?_
          rintro e w1 ⟨rfl, rfl⟩
          go_wp2_with fail
          go_roundg (xs.length - (k + 1))
          case measure => omega
          case rel => exact ⟨k + 1, by omega, by go_num, Nat.le_refl _, Lib.hid (by rw [HS.out]; rfl), hbel1⟩
        | true =>
          by_cases hk1 : k + 1 < xs.length
          · have hk2 : (k : Int) < (xs.length : Int) - 1 := by omega
            have HS := Lib.hid (show P.right xs = false by rw [HS.out, decide_eq_true hk1]; rfl)
            go_wp2_with fail
            with_reducible refine (HH.call _).mono ?_
            rintro e w1 ⟨rfl, rfl⟩
            go_wp2_with fail
            go_ret
            exact ⟨ret_of (by rw [HS.out]; rfl), hbel1⟩
          · have hk2 : ¬ (k : Int) < (xs.length : Int) - 1 := by omega
            have HS := Lib.hid (show P.right xs = (!t.isEmpty && P.right (xs.drop (k + 1))) by rw [HS.out, decide_eq_false hk1]; rfl)
            cases em : t.isEmpty with
            | true =>
              go_wp2_with fail
              with_reducible refine (HH.call _).mono ?_
              rintro e w1 ⟨rfl, rfl⟩
              go_wp2_with fail
              go_ret
              exact ⟨ret_of (by rw [HS.out, em]; rfl), hbel1⟩
            | false =>
              go_wp2_with fail
              with_reducible refine (HH.call _).mono ?_
              rintro e w1 ⟨rfl, rfl⟩
              go_wp2_with fail
              go_roundg (xs.length - (k + 1))
              case measure => omega
              case rel => exact ⟨k + 1, by omega, by go_num, Nat.le_refl _, Lib.hid (by rw [HS.out, em]; rfl), hbel1⟩
    · obtain rfl : k = xs.length := by omega
      have HN := Lib.hid (HR.out.trans (by rw [List.drop_length]; rfl : _ = true))
      go_wp2_with fail
      go_ret
      exact ⟨ret_of (by rw [HN.out]; rfl), hbel⟩
theorem right_any (A : Option Addr) (cap : Nat) (xs : List (List UInt8 × Bool)) (w : World) (hb : P.bulk xs ≤ 4194304) (hA : LinesIn w A xs) :
    Calls Try.prog 53 #[.slice A xs.length cap] w fun e w' => e = .returned (.bool (P.right xs)) ∧ Below w.heap.size w w' :=
  right_anyT A cap xs w (Nat.le_trans (P.length_bulk xs) hb) (fun y hy => by
    obtain ⟨j, hj, rfl⟩ := List.mem_iff_getElem.1 hy
    have := text_len hj
    simp only [maxLen]; omega) hA
end Go.Proofs.Ytigghcmbdnidnaa.T

namespace Go.Proofs.Ytigghcmbdnidnaa.T
open Go.RowKit

set_option maxHeartbeats 1000000 in
set_option maxRecDepth 100000 in
theorem same_any (A A' : Option Addr) (cap cap' : Nat) (xs : List (List UInt8 × Bool)) (w : World) (hb : xs.length ≤ maxLen) (hA : LinesIn w A xs) (hA' : LinesIn w A' xs) :
    Calls Try.prog 13 #[.slice A xs.length cap, .slice A' xs.length cap'] w fun e w' => e = .returned (.bool true) ∧ Below w.heap.size w w' := by
  unfold maxLen at hb
  have HA := Lib.hid hA
  have HB := Lib.hid hA'
  clear hA hA'
  have hne : ((xs.length : Int) != (xs.length : Int)) = false := by simp
  go_enter Try.func13, Try.ntmps13
  go_wp2_with fail
  go_loopg [5] xs.length (fun n i wr => ∃ k : Nat, k ≤ xs.length ∧ i = .int .i64 k ∧ xs.length - k ≤ n ∧ ∃ q, wr = w.drewN q)
  case atStart => exact ⟨0, Nat.zero_le _, rfl, by omega, 0, rfl⟩
  case round =>
    obtain ⟨k, hk, rfl, hn, q, rfl⟩ := hrel
    by_cases hlt : k < xs.length
    · obtain ⟨bk, off, hAe, hbk, hL⟩ := HA.out (by omega)
      obtain ⟨bk', off', hAe', hbk', hL'⟩ := HB.out (by omega)
      subst hAe hAe'
      obtain ⟨c0, c1⟩ := hL k hlt
      obtain ⟨d0, d1⟩ := hL' k hlt
      have h0k : (0 : Int) ≤ (k : Int) := Int.natCast_nonneg _
      have h1k : (k : Int) < (xs.length : Int) := by omega
      clear hL hL'
      generalize xs[k].2 = b at *
      generalize xs[k].1 = t at *
      go_wp2_with fail
      go_quiet (fail)
      go_wp2_with fail
      go_roundg (xs.length - (k + 1))
      case measure => omega
      case rel => exact ⟨k + 1, by omega, by go_num, Nat.le_refl _, _, rfl⟩
    · obtain rfl : k = xs.length := by omega
      go_wp2_with fail
      go_ret
      exact ⟨rfl, below_drewN (Below.refl _ _) q⟩

def RightOf (xs : List (List UInt8 × Bool)) (r : Bool) : Prop := ∀ (A : Option Addr) (cap : Nat) (w : World), LinesIn w A xs →
  Calls Try.prog 53 #[.slice A xs.length cap] w fun e w' => e = .returned (.bool r) ∧ Below w.heap.size w w'
theorem RightOf.call {xs : List (List UInt8 × Bool)} {r : Bool} (h : RightOf xs r) (A : Option Addr) (cap : Nat) (w : World) (hA : LinesIn w A xs) :
    Calls Try.prog 53 #[.slice A xs.length cap] w fun e w' => e = .returned (.bool r) ∧ Below w.heap.size w w' := h A cap w hA
theorem rightOf (xs : List (List UInt8 × Bool)) (hb : P.bulk xs ≤ 4194304) : RightOf xs (P.right xs) := fun A cap w hA => right_any A cap xs w hb hA
def SameOf (xs : List (List UInt8 × Bool)) : Prop := ∀ (A A' : Option Addr) (cap cap' : Nat) (w : World), LinesIn w A xs → LinesIn w A' xs →
  Calls Try.prog 13 #[.slice A xs.length cap, .slice A' xs.length cap'] w fun e w' => e = .returned (.bool true) ∧ Below w.heap.size w w'
theorem SameOf.call {xs : List (List UInt8 × Bool)} (h : SameOf xs) (A A' : Option Addr) (cap cap' : Nat) (w : World) (hA : LinesIn w A xs) (hA' : LinesIn w A' xs) :
    Calls Try.prog 13 #[.slice A xs.length cap, .slice A' xs.length cap'] w fun e w' => e = .returned (.bool true) ∧ Below w.heap.size w w' := h A A' cap cap' w hA hA'
theorem sameOf (xs : List (List UInt8 × Bool)) (hb : xs.length ≤ maxLen) : SameOf xs := fun A A' cap cap' w hA hA' => same_any A A' cap cap' xs w hb hA hA'
end Go.Proofs.Ytigghcmbdnidnaa.T
