/-
  The contracts of the reference's count and Same.
  How often each number is there, by putting in: in plain words.
  What is there once in both rows, in plain words.
  The contract of intern's spots: how often a number is in a row, and where last.
  The contract of intern's spots, walked.
  The contract of the reference's Counts.
  The contract of intern's Once.
  Pairs of places, in plain words: which ones are a match, the other way round, where a place is, behind two of them, and the gaps.
-/
import Derived.Test.YtcnnbchaelboeaaGcc
import Derived.BigQuiet
import Derived.Maps.OwnSet
import Derived.Maps.Views
import Derived.Deep.RegionLaw
import Derived.Deep.AppendLies
namespace Go.Proofs.Ytcnnbchaelboeaa.N
set_option linter.unusedVariables false
set_option linter.unusedSimpArgs false
open Go.RowKit
open T
open V (grown_of IntsIn numCells numCells_snoc ints_own drawn_below)
open I (alloc1 own_at own_below)

theorem count_take {l : List Int} {n : Int} {k : Nat} (hk : k < l.length) : (l.take (k + 1)).count n = (l.take k).count n + if l[k] = n then 1 else 0 := by
  rw [List.take_succ_eq_append_getElem hk, List.count_append, List.count_singleton]
  simp
theorem count_le (l : List Int) (n : Int) (k : Nat) : (l.take k).count n ≤ l.length := Nat.le_trans List.count_le_length (by rw [List.length_take]; omega)
/-- Pairs in memory, to be read. -/
def PrIn (w : World) (A : Option Addr) (ps : List (Int × Int)) : Prop :=
  0 < ps.length → ∃ bk off, A = some ⟨bk, off, none⟩ ∧ bk < w.heap.size ∧ ∀ j (h : j < ps.length), w.cell? ⟨bk, off + j * 2, none⟩ = some (.int .i64 ps[j].1) ∧ w.cell? ⟨bk, off + j * 2 + 1, none⟩ = some (.int .i64 ps[j].2)
theorem PrIn.below {w w' : World} {A : Option Addr} {ps : List (Int × Int)} (h : PrIn w A ps) (hb : Below w.heap.size w w') : PrIn w' A ps := fun hp => by
  obtain ⟨bk, off, e, hlt, hl⟩ := h hp
  exact ⟨bk, off, e, Nat.lt_of_lt_of_le hlt hb.size, fun j hj => ⟨(hb.cell (p := ⟨bk, off + j * 2, none⟩) hlt).trans (hl j hj).1, (hb.cell (p := ⟨bk, off + j * 2 + 1, none⟩) hlt).trans (hl j hj).2⟩⟩
theorem prCells_at : ∀ (ps : List (Int × Int)) (j : Nat) (h : j < ps.length), (prCells ps)[j * 2]? = some (.int .i64 ps[j].1) ∧ (prCells ps)[j * 2 + 1]? = some (.int .i64 ps[j].2)
  | [], j, h => by simp at h
  | p :: r, 0, _ => ⟨rfl, rfl⟩
  | p :: r, j + 1, h => by
    have := prCells_at r j (by simpa using h)
    rw [show (j + 1) * 2 = j * 2 + 2 by omega, show j * 2 + 2 + 1 = j * 2 + 1 + 2 by omega]
    exact this
theorem pr_own {w : World} {base : Nat} {A : Option Addr} {cap : Nat} {ps : List (Int × Int)} (h : w.ownsRow base 44 2 (.slice A ps.length cap) ps.length (prCells ps)) : PrIn w A ps := fun hp => by
  obtain ⟨g, hA, _, hlt, hc⟩ := own_at h hp
  refine ⟨g, 0, hA, hlt, fun j hj => ?_⟩
  obtain ⟨h0, h1⟩ := prCells_at ps j hj
  rw [Nat.zero_add]
  exact ⟨hc _ _ h0, hc _ _ h1⟩
theorem pair_eql (w : World) (a b c d : Int) : (Op.equal 44 (.agg #[.int .i64 a, .int .i64 b]) (.agg #[.int .i64 c, .int .i64 d])).run Try.prog w = .ok ((a == c) && (b == d)) w := by
  obtain ⟨i0, hi0, hz0, hz1, hz2⟩ := info_parts L.infoInt
  have hc : Try.prog.cellsOf 3 = 1 := by kernel_rfl
  have hk : Try.prog.plainKey 3 = true := by kernel_rfl
  rw [Op.equal, Op.maxDepth, show (10000 : Nat) = 9999 + 1 from rfl, run_equalIn_array w 9999 _ _ Try.underlying44 hi0, hc]
  have p0 : ∀ x y : Int, (part 3 #[.int .i64 x, .int .i64 y] 0).run Try.prog w = .ok (.int .i64 x) w := fun x y => run_part_plain w hk rfl
  have p1 : ∀ x y : Int, (part 3 #[.int .i64 x, .int .i64 y] 1).run Try.prog w = .ok (.int .i64 y) w := fun x y => run_part_plain w hk rfl
  have q' : ∀ (d : Nat) (x y : Int), (Op.equalIn (d + 1) 3 (.int .i64 x) (.int .i64 y)).run Try.prog w = .ok (x == y) w := fun d x y => by
    simp [Op.equalIn, run_underlying Try.underlying3]
  have q := q' 9998
  simp only [show List.range 2 = [0, 1] from rfl, Op.eqItems, Sem.run_bind, Nat.zero_mul, Nat.one_mul, p0, p1, q, Result.andThen_ok]
  cases h1 : a == c <;> cases h2 : b == d <;> simp [p1, q, h2]
theorem pair_eql' (w : World) (a b c d : Int) : (binOp .eql 44 (.agg #[.int .i64 a, .int .i64 b]) (.agg #[.int .i64 c, .int .i64 d])).run Try.prog w = .ok (.bool ((a == c) && (b == d))) w := by
  simp only [binOp, Sem.run_bind, pair_eql, Result.andThen_ok, Sem.run_pure]
theorem pair_neq (w : World) (a b c d : Int) : (binOp .neq 44 (.agg #[.int .i64 a, .int .i64 b]) (.agg #[.int .i64 c, .int .i64 d])).run Try.prog w = .ok (.bool (!((a == c) && (b == d)))) w := by
  simp only [binOp, Sem.run_bind, pair_eql, Result.andThen_ok, Sem.run_pure]
end Go.Proofs.Ytcnnbchaelboeaa.N

namespace Go.Proofs.Ytcnnbchaelboeaa.N
set_option linter.unusedVariables false
set_option linter.unusedSimpArgs false
open Go.RowKit
open T
open V (grown_of IntsIn numCells numCells_snoc ints_own drawn_below)
open I (alloc1 own_at own_below)

/-- The numbers of a row's first places, rising, each with how often it is in the whole row. -/
structure Cx (l : List Int) (i : Nat) (cs : List (Int × Nat)) : Prop where
  rise : cs.Pairwise (fun p q => p.1 < q.1)
  mem : ∀ p ∈ cs, p.1 ∈ l.take i ∧ p.2 = l.count p.1
  all : ∀ n ∈ l.take i, ∃ p ∈ cs, p.1 = n
theorem Cx.start (l : List Int) : Cx l 0 [] := ⟨.nil, fun p hp => by simp at hp, fun n hn => by simp at hn⟩
theorem Cx.done {l : List Int} {cs : List (Int × Nat)} (h : Cx l l.length cs) : Cn l cs :=
  ⟨h.rise, fun p hp => by have := h.mem p hp; rw [List.take_length] at this; exact this, fun n hn => h.all n (by rw [List.take_length]; exact hn)⟩
theorem Cx.has {l : List Int} {i : Nat} {cs : List (Int × Nat)} (h : Cx l i cs) (hi : i < l.length) {k : Nat} (hk : k < cs.length) (he : cs[k].1 = l[i]) : Cx l (i + 1) cs := by
  refine ⟨h.rise, fun p hp => ⟨?_, (h.mem p hp).2⟩, fun n hn => ?_⟩
  · rw [List.take_succ_eq_append_getElem hi]; exact List.mem_append_left _ (h.mem p hp).1
  · rw [List.take_succ_eq_append_getElem hi] at hn
    rcases List.mem_append.1 hn with hn | hn
    · exact h.all n hn
    · simp at hn; subst hn; exact ⟨_, List.getElem_mem hk, he⟩
theorem Cx.put {l : List Int} {i : Nat} {cs : List (Int × Nat)} (h : Cx l i cs) (hi : i < l.length) {k : Nat} (hlo : ∀ j (hj : j < cs.length), j < k → cs[j].1 < l[i]) (hhi : ∀ hk : k < cs.length, l[i] < cs[k].1) :
    Cx l (i + 1) (cs.take k ++ [(l[i], l.count l[i])] ++ cs.drop k) := by
  have h1 : ∀ p ∈ cs.take k, p.1 < l[i] := fun p hp => by
    obtain ⟨j, hj, rfl⟩ := List.mem_iff_getElem.1 hp
    rw [List.length_take] at hj
    rw [List.getElem_take]
    exact hlo j (by omega) (by omega)
  have h2 : ∀ p ∈ cs.drop k, l[i] < p.1 := fun p hp => by
    obtain ⟨j, hj, rfl⟩ := List.mem_iff_getElem.1 hp
    rw [List.length_drop] at hj
    rw [List.getElem_drop]
    have hk := hhi (by omega)
    by_cases e : j = 0
    · subst e; simpa using hk
    · have := List.pairwise_iff_getElem.1 h.rise k (k + j) (by omega) (by omega) (by omega)
      omega
  have hm : ∀ p, p ∈ cs.take k ++ [(l[i], l.count l[i])] ++ cs.drop k ↔ p ∈ cs ∨ p = (l[i], l.count l[i]) := fun p => by
    conv => rhs; rw [← List.take_append_drop k cs]
    simp only [List.mem_append, List.mem_singleton]
    constructor
    · rintro ((h | h) | h)
      · exact .inl (.inl h)
      · exact .inr h
      · exact .inl (.inr h)
    · rintro ((h | h) | h)
      · exact .inl (.inl h)
      · exact .inr h
      · exact .inl (.inr h)
  refine ⟨?_, fun p hp => ?_, fun n hn => ?_⟩
  · rw [List.pairwise_append, List.pairwise_append]
    refine ⟨⟨h.rise.sublist (List.take_sublist _ _), by simp, fun p hp q hq => by simp at hq; subst hq; exact h1 p hp⟩, h.rise.sublist (List.drop_sublist _ _), fun p hp q hq => ?_⟩
    rcases List.mem_append.1 hp with hp | hp
    · exact Int.lt_trans (h1 p hp) (h2 q hq)
    · simp at hp; subst hp; exact h2 q hq
  · rw [List.take_succ_eq_append_getElem hi]
    rcases (hm p).1 hp with hp | rfl
    · exact ⟨List.mem_append_left _ (h.mem p hp).1, (h.mem p hp).2⟩
    · exact ⟨List.mem_append_right _ (by simp), rfl⟩
  · rw [List.take_succ_eq_append_getElem hi] at hn
    rcases List.mem_append.1 hn with hn | hn
    · obtain ⟨p, hp, e⟩ := h.all n hn; exact ⟨p, (hm p).2 (.inl hp), e⟩
    · simp at hn; subst hn; exact ⟨_, (hm _).2 (.inr rfl), rfl⟩
theorem put_length (cs : List (Int × Nat)) (k : Nat) (p : Int × Nat) : (cs.take k ++ [p] ++ cs.drop k).length = cs.length + 1 := by simp; omega
theorem asI_put (cs : List (Int × Nat)) (k : Nat) (p : Int × Nat) : asI (cs.take k ++ [p] ++ cs.drop k) = (asI cs).take k ++ [(p.1, (p.2 : Int))] ++ (asI cs).drop k := by simp [asI]
theorem prCells_append (a b : List (Int × Int)) : prCells (a ++ b) = prCells a ++ prCells b := by simp [prCells]
theorem prCells_take (a : List (Int × Int)) (k : Nat) : prCells (a.take k) = (prCells a).take (k * 2) := by
  induction a generalizing k with
  | nil => simp [prCells]
  | cons p r ih =>
    cases k with
    | zero => simp [prCells]
    | succ k => rw [List.take_succ_cons, show (k + 1) * 2 = k * 2 + 2 by omega]; show _ :: _ :: prCells (r.take k) = _; rw [ih]; rfl
theorem prCells_one (a : List (Int × Int)) : ∀ u ∈ prCells a, u.oneCell' = true := by
  intro u hu
  simp only [prCells, List.mem_flatMap] at hu
  obtain ⟨x, _, hu⟩ := hu
  simp at hu
  rcases hu with rfl | rfl <;> rfl
end Go.Proofs.Ytcnnbchaelboeaa.N

namespace Go.Proofs.Ytcnnbchaelboeaa.N
set_option linter.unusedVariables false
set_option linter.unusedSimpArgs false
open Go.RowKit
open T
open V (grown_of IntsIn numCells numCells_snoc ints_own drawn_below)
open I (alloc1 own_at own_below)

/-- A number of place i of a, if it is there once in both rows, and in b ahead of place k. -/
def onc (a b : List Int) (i : Nat) (x : Int) (k : Nat) : List (Int × Int) := if (a.count x = 1 ∧ b.count x = 1) ∧ b.idxOf x < k then [((i : Int), ((b.idxOf x : Nat) : Int))] else []
def oI (a b : List Int) (i k : Nat) : List (Int × Int) := onc a b i (a.getD i 0) k
def oU (a b : List Int) : Nat → List (Int × Int)
  | 0 => []
  | i + 1 => oU a b i ++ oI a b i b.length
theorem idx_once {b : List Int} {x : Int} (h : b.count x = 1) {k : Nat} (hk : k < b.length) (e : b[k] = x) : b.idxOf x = k := by
  have h1 : b.idxOf x ≤ k := by
    refine Nat.le_of_not_lt fun hlt => ?_
    have := List.not_of_lt_findIdx (p := (· == x)) (xs := b) (i := k) hlt
    simp [e] at this
  by_cases h2 : b.idxOf x = k
  · exact h2
  · have hj : b.idxOf x < b.length := by omega
    have hej := List.getElem_idxOf hj
    have hc : b.count x = (b.take (b.idxOf x + 1)).count x + (b.drop (b.idxOf x + 1)).count x := by rw [← List.count_append, List.take_append_drop]
    have c1 : 0 < (b.take (b.idxOf x + 1)).count x := List.count_pos_iff.2 (by rw [List.take_succ_eq_append_getElem hj, hej]; simp)
    have c2 : 0 < (b.drop (b.idxOf x + 1)).count x := List.count_pos_iff.2 (List.mem_iff_getElem.2 ⟨k - (b.idxOf x + 1), by rw [List.length_drop]; omega, by rw [List.getElem_drop]; simp only [show b.idxOf x + 1 + (k - (b.idxOf x + 1)) = k by omega]; exact e⟩)
    omega
theorem oI_hit {a b : List Int} {i k : Nat} (hi : i < a.length) (hk : k < b.length) (e : a[i] = b[k]) (h1 : a.count a[i] = 1) (h2 : b.count a[i] = 1) : oI a b i (k + 1) = oI a b i k ++ [((i : Int), (k : Int))] := by
  have hx : a.getD i 0 = a[i] := by simp [List.getD, List.getElem?_eq_getElem hi]
  have hj : b.idxOf a[i] = k := idx_once h2 hk e.symm
  unfold oI
  rw [hx]
  unfold onc
  rw [hj, if_pos ⟨⟨h1, h2⟩, by omega⟩, if_neg (by omega)]
  rfl
theorem oI_miss {a b : List Int} {i k : Nat} (hi : i < a.length) (hk : k < b.length) (h : ¬ (a[i] = b[k] ∧ a.count a[i] = 1 ∧ b.count a[i] = 1)) : oI a b i (k + 1) = oI a b i k := by
  have hx : a.getD i 0 = a[i] := by simp [List.getD, List.getElem?_eq_getElem hi]
  unfold oI
  rw [hx]
  unfold onc
  by_cases hh : a.count a[i] = 1 ∧ b.count a[i] = 1
  · have hne : b.idxOf a[i] ≠ k := fun e => h ⟨by
      have := List.getElem_idxOf (x := a[i]) (xs := b) (by omega)
      rw [← this]; simp only [e], hh⟩
    have : (b.idxOf a[i] < k + 1) ↔ b.idxOf a[i] < k := by omega
    simp only [this]
  · rw [if_neg (fun q => hh q.1), if_neg (fun q => hh q.1)]
theorem oI_len (a b : List Int) (i k : Nat) : (oI a b i k).length ≤ 1 := by unfold oI onc; split <;> simp
theorem oU_len (a b : List Int) : ∀ i, (oU a b i).length ≤ i
  | 0 => Nat.le_refl _
  | i + 1 => by
    have := oU_len a b i
    have := oI_len a b i b.length
    rw [oU, List.length_append]; omega
end Go.Proofs.Ytcnnbchaelboeaa.N

namespace Go.Proofs.Ytcnnbchaelboeaa.N
set_option linter.unusedVariables false
set_option linter.unusedSimpArgs false
open Go.RowKit Go.Maps
open T
open V (grown_of IntsIn numCells numCells_snoc ints_own drawn_below)
open I (alloc1 own_at own_below)

/-- How often a number is in a row that is turned, and where last. -/
def sgo : List Int → Int → Nat × Nat
  | [], _ => (0, 0)
  | x :: r, n => if n = x then ((sgo r n).1 + 1, r.length) else sgo r n
def st (xs : List Int) (n : Int) : Nat × Nat := sgo xs.reverse n
theorem st_nil (n : Int) : st [] n = (0, 0) := rfl
theorem st_snoc (xs : List Int) (x n : Int) : st (xs ++ [x]) n = if n = x then ((st xs n).1 + 1, xs.length) else st xs n := by
  unfold st
  rw [List.reverse_append, List.reverse_singleton, List.singleton_append, sgo, List.length_reverse]
theorem st_count : ∀ (r : List Int) (n : Int), (sgo r n).1 = r.count n
  | [], _ => rfl
  | x :: r, n => by
    rw [sgo]
    by_cases h : n = x
    · subst h; rw [if_pos rfl, List.count_cons_self, ← st_count r n]
    · rw [if_neg h, st_count r n, List.count_cons_of_ne (fun e => h e.symm)]
theorem st_is (xs : List Int) (n : Int) : (st xs n).1 = xs.count n := by unfold st; rw [st_count, List.count_reverse]
theorem sgo_at : ∀ (r : List Int) (n : Int), 0 < (sgo r n).1 → (sgo r n).2 < r.length ∧ r.reverse[(sgo r n).2]? = some n
  | [], _, h => absurd h (by simp [sgo])
  | x :: r, n, h => by
    rw [sgo] at h ⊢
    by_cases hx : n = x
    · subst hx
      rw [if_pos rfl]
      refine ⟨Nat.lt_succ_self _, ?_⟩
      rw [List.reverse_cons, List.getElem?_append_right (by simp)]
      simp
    · rw [if_neg hx] at h ⊢
      obtain ⟨h1, h2⟩ := sgo_at r n h
      refine ⟨Nat.lt_succ_of_lt h1, ?_⟩
      rw [List.reverse_cons, List.getElem?_append_left (by simpa using h1)]
      exact h2
theorem st_once {xs : List Int} {n : Int} (h : xs.count n = 1) : (st xs n).2 = xs.idxOf n := by
  have h0 : 0 < (sgo xs.reverse n).1 := by rw [st_count, List.count_reverse]; omega
  obtain ⟨h1, h2⟩ := sgo_at xs.reverse n h0
  rw [List.reverse_reverse] at h2
  rw [List.length_reverse] at h1
  rw [List.getElem?_eq_getElem h1] at h2
  exact (idx_once h h1 (Option.some.inj h2)).symm
theorem st_le (xs : List Int) (n : Int) : (st xs n).1 ≤ xs.length := by rw [st_is]; exact List.count_le_length

def spD (p : Nat × Nat) : DataW Unit := .agg [.lit (.int .i64 p.1), .lit (.int .i64 p.2)]
def spV (p : Nat × Nat) : Value := .agg #[.int .i64 p.1, .int .i64 p.2]
/-- How an element reads. -/
def spL : List Value → Option (DataW Unit × List MemPlace)
  | [.int .i64 t, .int .i64 a] => some (.agg [.lit (.int .i64 t), .lit (.int .i64 a)], [])
  | _ => none
def spR : Value → Option (DataW Unit × List MemPlace)
  | .agg cs => spL cs.toList
  | _ => none
theorem spR_mk (t a : Int) : spR (.agg #[.int .i64 t, .int .i64 a]) = some (.agg [.lit (.int .i64 t), .lit (.int .i64 a)], []) := rfl
theorem spL_inv {l : List Value} {p : Nat × Nat} {ps : List MemPlace} (h : spL l = some (spD p, ps)) : l = [.int .i64 p.1, .int .i64 p.2] := by
  unfold spL at h
  split at h
  · simp only [spD, Option.some.injEq, Prod.mk.injEq, DataW.agg.injEq, List.cons.injEq, DataW.lit.injEq, Lit.int.injEq, true_and, and_true] at h
    obtain ⟨⟨h1, h2⟩, -⟩ := h
    rw [h1, h2]
  · cases h
theorem spR_inv {v : Value} {p : Nat × Nat} {ps : List MemPlace} (h : spR v = some (spD p, ps)) : v = spV p := by
  cases v with
  | agg cs =>
    have := spL_inv (show spL cs.toList = some (spD p, ps) from h)
    obtain ⟨l⟩ := cs
    simp only at this
    subst this
    rfl
  | _ => exact absurd h (by simp [spR])
theorem intLaw : Keyed Try.prog 3 := int_keyed Try.underlying3
/-- Block mb is a map of the spots of a row. -/
def Sp (w : World) (mb : Nat) (xs : List Int) : Prop := ∃ D : DataW Unit, w.ownsMap Try.prog 3 spR mb xs.length D ∧ ∀ n : Int, D.atKey (.int .i64 n) (spD (0, 0)) = spD (st xs n)
theorem Sp.start (w : World) : Sp (w.alloc (.map #[] 0)) w.heap.size [] := ⟨.map [], World.ownsMap_made _ _ _ _, fun _ => rfl⟩
theorem Sp.kept {w w' : World} {mb : Nat} {xs : List Int} {row : Option Nat} (h : Sp w mb xs) (hg : w.grownBy w' row) (hne : some mb ≠ row) : Sp w' mb xs := by
  obtain ⟨D, h1, h2⟩ := h
  exact ⟨D, h1.kept hg hne, h2⟩
theorem Sp.lt {w : World} {mb : Nat} {xs : List Int} (h : Sp w mb xs) : mb < w.heap.size := by
  obtain ⟨D, h1, _⟩ := h
  exact h1.lt
theorem Sp.below {w w' : World} {mb : Nat} {xs : List Int} (h : Sp w mb xs) (hb : Below w.heap.size w w') : Sp w' mb xs := h.kept (grown_of hb none) (by simp)
theorem wf_of {z : Int} (h1 : -9223372036854775808 ≤ z) (h2 : z ≤ 9223372036854775807) : (Lit.int .i64 z).wf = true := WalkArith.wf_i64 ⟨h1, h2⟩

def SpEnd (w : World) (l : List Int) (e : Ending) (w' : World) : Prop := ∃ mb, e = .returned (.map (some mb)) ∧ w.heap.size ≤ mb ∧ Sp w' mb l ∧ Below w.heap.size w w'
end Go.Proofs.Ytcnnbchaelboeaa.N

namespace Go.Proofs.Ytcnnbchaelboeaa.N
set_option linter.unusedVariables false
set_option linter.unusedSimpArgs false
open Go.RowKit Go.Maps
open T
open V (grown_of IntsIn numCells numCells_snoc ints_own drawn_below)
open I (alloc1 own_at own_below)

end Go.Proofs.Ytcnnbchaelboeaa.N

namespace Go.Proofs.Ytcnnbchaelboeaa.N
set_option linter.unusedVariables false
set_option linter.unusedSimpArgs false
open Go.RowKit
open T
open V (grown_of IntsIn numCells numCells_snoc ints_own drawn_below)
open I (alloc1 own_at own_below)

theorem own_lt2 {w : World} {base : Nat} {e : TypeId} {size n : Nat} {v : Value} {xs : List Value} (h : w.ownsRow base e size v n xs) : ∀ g, v.ownBlock = some g → g < w.heap.size := fun g e' => by
  rcases h.2 with ⟨rfl, _⟩ | ⟨g', cap, cur, rfl, _, hg, _⟩
  · cases e'
  · simp only [Value.ownBlock, Option.some.injEq] at e'; subst e'; exact L.blk_lt hg
theorem pr_news {w : World} {base g n c : Nat} {ps : List (Int × Int)} (h : w.ownsRow base 44 2 (.slice (some ⟨g, 0, none⟩) n c) n (prCells ps)) (hn : ps.length = n) : ∀ j u, (prCells ps)[j]? = some u → w.cell? ⟨g, j, none⟩ = some u := fun j u hu => by
  have hp : 0 < n := by
    have := (List.getElem?_eq_some_iff.1 hu).1
    rw [prCells_length] at this; omega
  obtain ⟨g', e, _, _, hat⟩ := own_at h hp
  simp only [Option.some.injEq, Addr.mk.injEq] at e
  obtain ⟨rfl, -, -⟩ := e
  exact hat j u hu
theorem pr_news_take {w : World} {base g n c : Nat} {ps : List (Int × Int)} (m : Nat) (h : w.ownsRow base 44 2 (.slice (some ⟨g, 0, none⟩) n c) n (prCells ps)) (hn : ps.length = n) : ∀ j u, (prCells (ps.take m))[j]? = some u → w.cell? ((⟨g, 0, none⟩ : Addr).add j) = some u := fun j u hu => by
  rw [prCells_take] at hu
  have hj : j < m * 2 := by
    have := (List.getElem?_eq_some_iff.1 hu).1
    rw [List.length_take] at this; omega
  rw [List.getElem?_take_of_lt hj] at hu
  have := pr_news h hn j u hu
  rw [show (⟨g, 0, none⟩ : Addr).add j = ⟨g, 0 + j, none⟩ by (unfold Addr.add; split <;> simp_all), Nat.zero_add]
  exact this
theorem prCells_drop (a : List (Int × Int)) (k : Nat) : prCells (a.drop k) = (prCells a).drop (k * 2) := by
  induction a generalizing k with
  | nil => simp [prCells]
  | cons p r ih =>
    cases k with
    | zero => simp
    | succ k => rw [List.drop_succ_cons, show (k + 1) * 2 = k * 2 + 2 by omega, ih]; rfl
theorem pr_news_drop {w : World} {base g n c : Nat} {ps : List (Int × Int)} (m : Nat) (h : w.ownsRow base 44 2 (.slice (some ⟨g, 0, none⟩) n c) n (prCells ps)) (hn : ps.length = n) : ∀ j u, (prCells (ps.drop m))[j]? = some u → w.cell? ((⟨g, m * 2, none⟩ : Addr).add j) = some u := fun j u hu => by
  rw [prCells_drop, List.getElem?_drop] at hu
  have := pr_news h hn _ u hu
  rw [show (⟨g, m * 2, none⟩ : Addr).add j = ⟨g, m * 2 + j, none⟩ by (unfold Addr.add; split <;> simp_all)]
  exact this
end Go.Proofs.Ytcnnbchaelboeaa.N

namespace Go.Proofs.Ytcnnbchaelboeaa.N
set_option linter.unusedVariables false
set_option linter.unusedSimpArgs false
open Go.RowKit Go.Maps
open T
open V (grown_of IntsIn numCells numCells_snoc ints_own drawn_below)
open I (alloc1 own_at own_below)

theorem oU_hit {a b : List Int} {i : Nat} (hi : i < a.length) (h1 : a.count a[i] = 1) (h2 : b.count a[i] = 1) : oU a b (i + 1) = oU a b i ++ [((i : Int), ((b.idxOf a[i] : Nat) : Int))] := by
  have hx : a.getD i 0 = a[i] := by simp [List.getD, List.getElem?_eq_getElem hi]
  have hm : a[i] ∈ b := List.count_pos_iff.1 (by omega)
  rw [oU, oI, hx, onc, if_pos ⟨⟨h1, h2⟩, List.idxOf_lt_length_iff.2 hm⟩]
theorem oU_miss {a b : List Int} {i : Nat} (hi : i < a.length) (h : ¬ (a.count a[i] = 1 ∧ b.count a[i] = 1)) : oU a b (i + 1) = oU a b i := by
  have hx : a.getD i 0 = a[i] := by simp [List.getD, List.getElem?_eq_getElem hi]
  rw [oU, oI, hx, onc, if_neg (fun q => h q.1), List.append_nil]

end Go.Proofs.Ytcnnbchaelboeaa.N

namespace Go.Proofs.Ytcnnbchaelboeaa.Mt
open Go.RowKit
open N (oU oI onc oU_hit oU_miss oU_len)

abbrev Pr := Int × Int
/-- Pairs that rise on both sides, above a and b, and below n and m. -/
def rt (n m : Int) : Int → Int → List Pr → Bool
  | _, _, [] => true
  | a, b, p :: r => decide (a < p.1) && decide (p.1 < n) && decide (b < p.2) && decide (p.2 < m) && rt n m p.1 p.2 r
def right (ps : List Pr) (n m : Int) : Bool := rt n m (-1) (-1) ps
def inv (ps : List Pr) : List Pr := ps.map fun p => (p.2, p.1)
def fnd : List Pr → Int → Option Int
  | [], _ => none
  | p :: r, i => if p.1 = i then some p.2 else fnd r i
def comp (p q : List Pr) : List Pr := p.filterMap fun z => (fnd q z.2).map fun k => (z.1, k)
def rise : Int → List Pr → List Pr
  | _, [] => []
  | t, p :: r => if t < p.2 then p :: rise p.2 r else rise t r
def ids (x y : List Int) : List Pr := rise (-1) (oU x y x.length)
structure Gp where
  a : Int
  an : Int
  b : Int
  bn : Int
def keep (g : Gp) : List Gp := if 0 < g.an ∨ 0 < g.bn then [g] else []
def gp (n m : Int) : Int → Int → List Pr → List Gp
  | a, b, [] => keep ⟨a, n - a, b, m - b⟩
  | a, b, p :: r => keep ⟨a, p.1 - a, b, p.2 - b⟩ ++ gp n m (p.1 + 1) (p.2 + 1) r
def gaps (ps : List Pr) (n m : Int) : List Gp := if 0 ≤ n ∧ 0 ≤ m ∧ right ps n m = true then gp n m 0 0 ps else []

/-! Right pairs rise. -/
theorem rt_iff (n m : Int) : ∀ (ps : List Pr) (a b : Int), rt n m a b ps = true ↔ (∀ p ∈ ps, a < p.1 ∧ p.1 < n ∧ b < p.2 ∧ p.2 < m) ∧ ps.Pairwise fun p q => p.1 < q.1 ∧ p.2 < q.2
  | [], a, b => by simp [rt]
  | p :: r, a, b => by
    have ih := rt_iff n m r p.1 p.2
    rw [rt, Bool.and_eq_true, ih, List.pairwise_cons]
    simp only [Bool.and_eq_true, decide_eq_true_eq, List.forall_mem_cons]
    constructor
    · rintro ⟨⟨⟨⟨h1, h2⟩, h3⟩, h4⟩, h5, h6⟩
      exact ⟨⟨⟨h1, h2, h3, h4⟩, fun q hq => ⟨Int.lt_trans h1 (h5 q hq).1, (h5 q hq).2.1, Int.lt_trans h3 (h5 q hq).2.2.1, (h5 q hq).2.2.2⟩⟩, fun q hq => ⟨(h5 q hq).1, (h5 q hq).2.2.1⟩, h6⟩
    · rintro ⟨⟨⟨h1, h2, h3, h4⟩, h5⟩, h6, h7⟩
      exact ⟨⟨⟨⟨h1, h2⟩, h3⟩, h4⟩, fun q hq => ⟨(h6 q hq).1, (h5 q hq).2.1, (h6 q hq).2, (h5 q hq).2.2.2⟩, h7⟩
structure Rt (ps : List Pr) (n m : Int) : Prop where
  all : ∀ p ∈ ps, 0 ≤ p.1 ∧ p.1 < n ∧ 0 ≤ p.2 ∧ p.2 < m
  up : ps.Pairwise fun p q => p.1 < q.1 ∧ p.2 < q.2
theorem right_iff {ps : List Pr} {n m : Int} : right ps n m = true ↔ Rt ps n m := by
  rw [right, rt_iff]
  constructor
  · rintro ⟨h1, h2⟩
    exact ⟨fun p hp => by have := h1 p hp; omega, h2⟩
  · rintro ⟨h1, h2⟩
    exact ⟨fun p hp => by have := h1 p hp; omega, h2⟩
theorem Rt.inv {ps : List Pr} {n m : Int} (h : Rt ps n m) : Rt (inv ps) m n := by
  refine ⟨fun p hp => ?_, ?_⟩
  · obtain ⟨q, hq, rfl⟩ := List.mem_map.1 hp
    have := h.all q hq
    simp only
    omega
  · exact List.Pairwise.map _ (fun _ _ g => ⟨g.2, g.1⟩) h.up
theorem fnd_mem : ∀ {ps : List Pr} {i k : Int}, fnd ps i = some k → (i, k) ∈ ps
  | [], _, _, h => by cases h
  | p :: r, i, k, h => by
    unfold fnd at h
    split at h
    · rename_i e
      injection h with h
      subst e h
      exact List.mem_cons_self
    · exact List.mem_cons_of_mem _ (fnd_mem h)
theorem fnd_of : ∀ {ps : List Pr}, ps.Pairwise (fun p q => p.1 < q.1 ∧ p.2 < q.2) → ∀ {i k : Int}, (i, k) ∈ ps → fnd ps i = some k
  | [], _, _, _, h => by cases h
  | p :: r, hp, i, k, h => by
    rw [List.pairwise_cons] at hp
    unfold fnd
    rcases List.mem_cons.1 h with e | h
    · subst e; simp
    · have := hp.1 _ h
      rw [if_neg (by omega)]
      exact fnd_of hp.2 h
theorem Rt.fnd {ps : List Pr} {n m : Int} (h : Rt ps n m) {i k : Int} : fnd ps i = some k ↔ (i, k) ∈ ps := ⟨fnd_mem, fnd_of h.up⟩
theorem Rt.at {ps : List Pr} {n m : Int} (h : Rt ps n m) {j : Nat} (hj : j < ps.length) : Mt.fnd ps ps[j].1 = some ps[j].2 := h.fnd.2 (List.getElem_mem hj)
theorem Rt.back {ps : List Pr} {n m : Int} (h : Rt ps n m) {j : Nat} (hj : j < ps.length) : Mt.fnd (Mt.inv ps) ps[j].2 = some ps[j].1 := h.inv.fnd.2 (List.mem_map.2 ⟨ps[j], List.getElem_mem hj, rfl⟩)
/-! Behind two matches. -/
theorem comp_mem {p q : List Pr} {m l : Int} (hq : Rt q m l) {x z : Int} : (x, z) ∈ comp p q ↔ ∃ y, (x, y) ∈ p ∧ (y, z) ∈ q := by
  unfold comp
  rw [List.mem_filterMap]
  constructor
  · rintro ⟨⟨a, y⟩, h1, h2⟩
    simp only [Option.map_eq_some_iff, Prod.mk.injEq] at h2
    obtain ⟨k, h3, rfl, rfl⟩ := h2
    exact ⟨y, h1, fnd_mem h3⟩
  · rintro ⟨y, h1, h2⟩
    exact ⟨(x, y), h1, by simp [hq.fnd.2 h2]⟩
theorem comp_up : ∀ {p q : List Pr} {m l : Int}, p.Pairwise (fun p q => p.1 < q.1 ∧ p.2 < q.2) → Rt q m l → (comp p q).Pairwise (fun p q => p.1 < q.1 ∧ p.2 < q.2)
  | [], _, _, _, _, _ => by simp [comp]
  | z :: r, q, m, l, hp, hq => by
    rw [List.pairwise_cons] at hp
    have ih := comp_up hp.2 hq
    unfold comp
    rw [List.filterMap_cons]
    cases hf : Mt.fnd q z.2 with
    | none => exact ih
    | some k =>
      simp only [Option.map_some]
      rw [List.pairwise_cons]
      refine ⟨fun t ht => ?_, ih⟩
      obtain ⟨x, c⟩ := t
      obtain ⟨y, h1, h2⟩ := (comp_mem hq).1 ht
      have h3 := hp.1 _ h1
      have h4 := fnd_mem hf
      refine ⟨h3.1, ?_⟩
      have hup := hq.up
      rw [List.pairwise_iff_getElem] at hup
      obtain ⟨i, hi, ei⟩ := List.mem_iff_getElem.1 h4
      obtain ⟨j, hj, ej⟩ := List.mem_iff_getElem.1 h2
      rcases Nat.lt_trichotomy i j with h | h | h
      · have := hup i j hi hj h; rw [ei, ej] at this; exact this.2
      · subst h; rw [ei] at ej; simp only [Prod.mk.injEq] at ej; simp only at h3; omega
      · have := hup j i hj hi h; rw [ei, ej] at this; simp only at this h3; omega
theorem Rt.comp {p q : List Pr} {n m l : Int} (hp : Rt p n m) (hq : Rt q m l) : Rt (comp p q) n l := by
  refine ⟨fun t ht => ?_, comp_up hp.up hq⟩
  obtain ⟨x, z⟩ := t
  obtain ⟨y, h1, h2⟩ := (comp_mem hq).1 ht
  have := hp.all _ h1
  have := hq.all _ h2
  simp only at *
  omega
/-- Rows that rise and have the same pairs are the same. -/
theorem same_of : ∀ {a b : List Pr}, a.Pairwise (fun p q => p.1 < q.1 ∧ p.2 < q.2) → b.Pairwise (fun p q => p.1 < q.1 ∧ p.2 < q.2) → (∀ z, z ∈ a ↔ z ∈ b) → a = b
  | [], [], _, _, _ => rfl
  | [], y :: s, _, _, h => by have := (h y).2 List.mem_cons_self; cases this
  | x :: r, [], _, _, h => by have := (h x).1 List.mem_cons_self; cases this
  | x :: r, y :: s, ha, hb, h => by
    rw [List.pairwise_cons] at ha hb
    have e : x = y := by
      rcases List.mem_cons.1 ((h x).1 List.mem_cons_self) with e | h1
      · exact e
      · rcases List.mem_cons.1 ((h y).2 List.mem_cons_self) with e | h2
        · exact e.symm
        · have := ha.1 _ h2; have := hb.1 _ h1; omega
    subst e
    rw [same_of ha.2 hb.2 fun z => ?_]
    constructor
    · intro hz
      rcases List.mem_cons.1 ((h z).1 (List.mem_cons_of_mem _ hz)) with e | h1
      · subst e; have := ha.1 _ hz; omega
      · exact h1
    · intro hz
      rcases List.mem_cons.1 ((h z).2 (List.mem_cons_of_mem _ hz)) with e | h1
      · subst e; have := hb.1 _ hz; omega
      · exact h1
theorem comp_comp {p q r : List Pr} {a b c d : Int} (hp : Rt p a b) (hq : Rt q b c) (hr : Rt r c d) : comp (comp p q) r = comp p (comp q r) := by
  refine same_of ((hp.comp hq).comp hr).up (hp.comp (hq.comp hr)).up fun z => ?_
  obtain ⟨x, t⟩ := z
  rw [comp_mem hr, comp_mem (hq.comp hr)]
  constructor
  · rintro ⟨y, h1, h2⟩
    obtain ⟨u, h3, h4⟩ := (comp_mem hq).1 h1
    exact ⟨u, h3, (comp_mem hr).2 ⟨y, h4, h2⟩⟩
  · rintro ⟨u, h3, h5⟩
    obtain ⟨y, h4, h2⟩ := (comp_mem hr).1 h5
    exact ⟨y, (comp_mem hq).2 ⟨u, h3, h4⟩, h2⟩
theorem inv_mem {p : List Pr} {x y : Int} : (x, y) ∈ inv p ↔ (y, x) ∈ p := by
  unfold inv
  rw [List.mem_map]
  constructor
  · rintro ⟨⟨a, b⟩, h, e⟩
    simp only [Prod.mk.injEq] at e
    obtain ⟨rfl, rfl⟩ := e
    exact h
  · intro h; exact ⟨(y, x), h, rfl⟩
theorem inv_comp {p q : List Pr} {a b c : Int} (hp : Rt p a b) (hq : Rt q b c) : inv (comp p q) = comp (inv q) (inv p) := by
  refine same_of (hp.comp hq).inv.up (hq.inv.comp hp.inv).up fun z => ?_
  obtain ⟨x, t⟩ := z
  rw [inv_mem, comp_mem hq, comp_mem hp.inv]
  constructor
  · rintro ⟨y, h1, h2⟩; exact ⟨y, inv_mem.2 h2, inv_mem.2 h1⟩
  · rintro ⟨y, h1, h2⟩; exact ⟨y, inv_mem.1 h2, inv_mem.1 h1⟩
/-! What is there once in both rows, as far as it rises. -/
theorem rise_mem : ∀ {l : List Pr} {t : Int} {p : Pr}, p ∈ rise t l → p ∈ l ∧ t < p.2
  | [], _, _, h => by cases h
  | q :: r, t, p, h => by
    unfold rise at h
    split at h
    · rcases List.mem_cons.1 h with e | h
      · subst e; exact ⟨List.mem_cons_self, by assumption⟩
      · have := rise_mem h; exact ⟨List.mem_cons_of_mem _ this.1, by omega⟩
    · have := rise_mem h; exact ⟨List.mem_cons_of_mem _ this.1, this.2⟩
theorem rise_up : ∀ {l : List Pr}, l.Pairwise (fun p q => p.1 < q.1) → ∀ t, (rise t l).Pairwise (fun p q => p.1 < q.1 ∧ p.2 < q.2)
  | [], _, _ => by simp [rise]
  | q :: r, h, t => by
    rw [List.pairwise_cons] at h
    unfold rise
    split
    · rw [List.pairwise_cons]
      exact ⟨fun p hp => ⟨h.1 _ (rise_mem hp).1, (rise_mem hp).2⟩, rise_up h.2 _⟩
    · exact rise_up h.2 _
theorem oU_all (a b : List Int) : ∀ n, n ≤ a.length → (∀ z ∈ oU a b n, 0 ≤ z.1 ∧ z.1 < n ∧ 0 ≤ z.2 ∧ z.2 < b.length) ∧ (oU a b n).Pairwise (fun p q => p.1 < q.1)
  | 0, _ => by simp [oU]
  | n + 1, h => by
    have ih := oU_all a b n (by omega)
    by_cases hc : a.count a[n] = 1 ∧ b.count a[n] = 1
    · rw [oU_hit (by omega) hc.1 hc.2]
      have hm : a[n] ∈ b := List.count_pos_iff.1 (by omega)
      have hx := List.idxOf_lt_length_iff.2 hm
      refine ⟨fun z hz => ?_, ?_⟩
      · rcases List.mem_append.1 hz with hz | hz
        · have := ih.1 z hz; omega
        · rw [List.mem_singleton] at hz
          subst hz
          simp only
          omega
      · rw [List.pairwise_append]
        refine ⟨ih.2, by simp, fun x hx y hy => ?_⟩
        rw [List.mem_singleton] at hy
        subst hy
        have := ih.1 x hx
        simp only
        omega
    · rw [oU_miss (by omega) hc]
      exact ⟨fun z hz => by have := ih.1 z hz; omega, ih.2⟩
theorem ids_right (x y : List Int) : Rt (ids x y) x.length y.length := by
  have h := oU_all x y x.length (Nat.le_refl _)
  exact ⟨fun p hp => h.1 p (rise_mem hp).1, rise_up h.2 _⟩
theorem rise_len : ∀ (l : List Pr) (t : Int), (rise t l).length ≤ l.length
  | [], _ => Nat.le_refl _
  | q :: r, t => by
    unfold rise
    have := rise_len r q.2
    have := rise_len r t
    split <;> simp <;> omega
theorem ids_len (x y : List Int) : (ids x y).length ≤ x.length := Nat.le_trans (rise_len _ _) (oU_len x y x.length)
theorem comp_len (p q : List Pr) : (comp p q).length ≤ p.length := List.length_filterMap_le _ _
/-! Gaps the other way round. -/
def Gp.turn (g : Gp) : Gp := ⟨g.b, g.bn, g.a, g.an⟩
theorem keep_turn (g : Gp) : keep g.turn = (keep g).map Gp.turn := by
  unfold keep
  by_cases h : 0 < g.an ∨ 0 < g.bn
  · rw [if_pos h, if_pos (by simp only [Gp.turn]; omega)]; rfl
  · rw [if_neg h, if_neg (by simp only [Gp.turn]; omega)]; rfl
theorem gp_turn (n m : Int) : ∀ (ps : List Pr) (a b : Int), gp m n b a (inv ps) = (gp n m a b ps).map Gp.turn
  | [], a, b => keep_turn ⟨a, n - a, b, m - b⟩
  | p :: r, a, b => by
    rw [show inv (p :: r) = (p.2, p.1) :: inv r from rfl, gp, gp, List.map_append, gp_turn n m r (p.1 + 1) (p.2 + 1), ← keep_turn]
    rfl
theorem gaps_turn {ps : List Pr} {n m : Int} (h : Rt ps n m) : gaps (inv ps) m n = (gaps ps n m).map Gp.turn := by
  unfold gaps
  have h1 : right ps n m = true := right_iff.2 h
  have h2 : right (inv ps) m n = true := right_iff.2 h.inv
  by_cases hn : 0 ≤ n ∧ 0 ≤ m
  · rw [if_pos ⟨hn.2, hn.1, h2⟩, if_pos ⟨hn.1, hn.2, h1⟩, gp_turn]
  · rw [if_neg (fun q => hn ⟨q.2.1, q.1⟩), if_neg (fun q => hn ⟨q.1, q.2.1⟩)]; rfl
theorem keep_len (g : Gp) : (keep g).length ≤ 1 := by unfold keep; split <;> simp
theorem gp_len (n m : Int) : ∀ (ps : List Pr) (a b : Int), (gp n m a b ps).length ≤ ps.length + 1
  | [], a, b => keep_len _
  | p :: r, a, b => by
    have := gp_len n m r (p.1 + 1) (p.2 + 1)
    have := keep_len ⟨a, p.1 - a, b, p.2 - b⟩
    rw [gp, List.length_append, List.length_cons]
    omega
theorem gaps_len (ps : List Pr) (n m : Int) : (gaps ps n m).length ≤ ps.length + 1 := by
  unfold gaps
  split
  · exact gp_len n m ps 0 0
  · simp
end Go.Proofs.Ytcnnbchaelboeaa.Mt
