/-
  The contracts of the reference's count and Same.
  How often each number is there, by putting in: in plain words.
  What is there once in both rows, in plain words.
  The contract of intern's spots: how often a number is in a row, and where last.
  The contract of intern's spots, walked.
  The contract of the reference's Counts.
  The contract of intern's Once.
-/
import Derived.Test.YthcmljknpealhaaGcc
import Derived.BigQuiet
import Derived.Maps.OwnSet
import Derived.Maps.Views
import Derived.Deep.RegionLaw
import Derived.Deep.AppendLies
namespace Go.Proofs.Ythcmljknpealhaa.N
set_option linter.unusedVariables false
set_option linter.unusedSimpArgs false
open Go.RowKit
open T
open V (grown_of IntsIn numCells numCells_snoc ints_own drawn_below)
open I (alloc1 own_at own_below)

theorem count_take {l : List Int} {n : Int} {k : Nat} (hk : k < l.length) : (l.take (k + 1)).count n = (l.take k).count n + if l[k] = n then 1 else 0 := by
  rw [List.take_succ_eq_append_getElem hk, List.count_append, List.count_singleton]
  simp
theorem count_le (l : List Int) (n : Int) (k : Nat) : (l.take k).count n ≤ l.length := Nat.le_trans List.count_le_length (by rw [List.length_take]; omega)
set_option maxRecDepth 100000 in
set_option maxHeartbeats 1000000 in
theorem rcount_any (A : Option Addr) (cap : Nat) (l : List Int) (n : Int) (w : World) (hA : IntsIn w A l) (hl : l.length ≤ 1000000) :
    Calls Try.prog 26 #[.slice A l.length cap, .int .i64 n] w fun e w' => e = .returned (.int .i64 ((l.count n : Nat) : Int)) ∧ w' = w := by
  have HA := Lib.hid hA
  clear hA
  go_enter Try.func26, Try.ntmps26
  go_wp2_with fail
  go_loopg [5, 6] l.length (fun q o i wx => ∃ k : Nat, k ≤ l.length ∧ o = .int .i64 (((l.take k).count n : Nat) : Int) ∧ i = .int .i64 k ∧ l.length - k ≤ q ∧ wx = w)
  case atStart => exact ⟨0, Nat.zero_le _, by simp, rfl, by omega, rfl⟩
  case round =>
    obtain ⟨k, hk, rfl, rfl, hm, rfl⟩ := hrel
    by_cases hlt : k < l.length
    · obtain ⟨bk, off, hAe, hbk, hI⟩ := HA.out (by omega)
      subst hAe
      have c0 := hI k hlt
      have h0k : (0 : Int) ≤ (k : Int) := by omega
      have hki : (k : Int) < (l.length : Int) := by omega
      have HC := Lib.hid (count_take (n := n) hlt)
      have hcl := count_le l n k
      obtain ⟨c, hc⟩ : ∃ c, c = (l.take k).count n := ⟨_, rfl⟩
      rw [← hc] at HC hcl ⊢
      clear hc hI
      obtain ⟨x, hx⟩ : ∃ x, x = l[k] := ⟨_, rfl⟩
      rw [← hx] at c0 HC
      clear hx
      by_cases he : x = n
      · subst he
        have hcc := HC.out
        rw [if_pos rfl] at hcc
        have hw : IntKind.i64.wrap ((c : Int) + 1) = ((c + 1 : Nat) : Int) := by rw [IntKind.wrap_i64]; omega
        go_wp2_with fail
        go_roundg (l.length - (k + 1))
        case rel => exact ⟨k + 1, by omega, by rw [hcc]; rfl, by go_num, Nat.le_refl _, rfl⟩
        case measure => omega
      · have hcc := HC.out
        rw [if_neg he] at hcc
        have hb : (x == n) = false := beq_eq_false_iff_ne.2 he
        go_wp2_with fail
        go_roundg (l.length - (k + 1))
        case rel => exact ⟨k + 1, by omega, by rw [hcc]; rfl, by go_num, Nat.le_refl _, rfl⟩
        case measure => omega
    · obtain rfl : k = l.length := by omega
      rw [List.take_length]
      go_wp2_with fail
      go_ret
      exact ⟨rfl, rfl⟩

/-- Pairs in memory, to be read. -/
def PrIn (w : World) (A : Option Addr) (ps : List (Int × Int)) : Prop :=
  0 < ps.length → ∃ bk off, A = some ⟨bk, off, none⟩ ∧ bk < w.heap.size ∧ ∀ j (h : j < ps.length), w.cell? ⟨bk, off + j * 2, none⟩ = some (.int .i64 ps[j].1) ∧ w.cell? ⟨bk, off + j * 2 + 1, none⟩ = some (.int .i64 ps[j].2)
theorem PrIn.below {w w' : World} {A : Option Addr} {ps : List (Int × Int)} (h : PrIn w A ps) (hb : Below w.heap.size w w') : PrIn w' A ps := fun hp => by
  obtain ⟨bk, off, e, hlt, hl⟩ := h hp
  exact ⟨bk, off, e, Nat.lt_of_lt_of_le hlt hb.size, fun j hj => ⟨(hb.cell (p := ⟨bk, off + j * 2, none⟩) hlt).trans (hl j hj).1, (hb.cell (p := ⟨bk, off + j * 2 + 1, none⟩) hlt).trans (hl j hj).2⟩⟩
theorem prCells_at : ∀ (ps : List (Int × Int)) (j : Nat) (h : j < ps.length), (prCells ps)[j * 2]? = some (.int .i64 ps[j].1) ∧ (prCells ps)[j * 2 + 1]? = some (.int .i64 ps[j].2)
  | [], j, h => by simp at h
  | p :: r, 0, _ => ⟨rfl, rfl⟩
  | p :: r, j + 1, h => by
    have := prCells_at r j (by simpa using h)
    rw [show (j + 1) * 2 = j * 2 + 2 by omega, show j * 2 + 2 + 1 = j * 2 + 1 + 2 by omega]
    exact this
theorem pr_own {w : World} {base : Nat} {A : Option Addr} {cap : Nat} {ps : List (Int × Int)} (h : w.ownsRow base 40 2 (.slice A ps.length cap) ps.length (prCells ps)) : PrIn w A ps := fun hp => by
  obtain ⟨g, hA, _, hlt, hc⟩ := own_at h hp
  refine ⟨g, 0, hA, hlt, fun j hj => ?_⟩
  obtain ⟨h0, h1⟩ := prCells_at ps j hj
  rw [Nat.zero_add]
  exact ⟨hc _ _ h0, hc _ _ h1⟩
theorem pair_eql (w : World) (a b c d : Int) : (Op.equal 40 (.agg #[.int .i64 a, .int .i64 b]) (.agg #[.int .i64 c, .int .i64 d])).run Try.prog w = .ok ((a == c) && (b == d)) w := by
  obtain ⟨i0, hi0, hz0, hz1, hz2⟩ := info_parts L.infoInt
  have hc : Try.prog.cellsOf 3 = 1 := by kernel_rfl
  have hk : Try.prog.plainKey 3 = true := by kernel_rfl
  rw [Op.equal, Op.maxDepth, show (10000 : Nat) = 9999 + 1 from rfl, run_equalIn_array w 9999 _ _ Try.underlying40 hi0, hc]
  have p0 : ∀ x y : Int, (part 3 #[.int .i64 x, .int .i64 y] 0).run Try.prog w = .ok (.int .i64 x) w := fun x y => run_part_plain w hk rfl
  have p1 : ∀ x y : Int, (part 3 #[.int .i64 x, .int .i64 y] 1).run Try.prog w = .ok (.int .i64 y) w := fun x y => run_part_plain w hk rfl
  have q' : ∀ (d : Nat) (x y : Int), (Op.equalIn (d + 1) 3 (.int .i64 x) (.int .i64 y)).run Try.prog w = .ok (x == y) w := fun d x y => by
    simp [Op.equalIn, run_underlying Try.underlying3]
  have q := q' 9998
  simp only [show List.range 2 = [0, 1] from rfl, Op.eqItems, Sem.run_bind, Nat.zero_mul, Nat.one_mul, p0, p1, q, Result.andThen_ok]
  cases h1 : a == c <;> cases h2 : b == d <;> simp [p1, q, h2]
theorem pair_eql' (w : World) (a b c d : Int) : (binOp .eql 40 (.agg #[.int .i64 a, .int .i64 b]) (.agg #[.int .i64 c, .int .i64 d])).run Try.prog w = .ok (.bool ((a == c) && (b == d))) w := by
  simp only [binOp, Sem.run_bind, pair_eql, Result.andThen_ok, Sem.run_pure]
theorem pair_neq (w : World) (a b c d : Int) : (binOp .neq 40 (.agg #[.int .i64 a, .int .i64 b]) (.agg #[.int .i64 c, .int .i64 d])).run Try.prog w = .ok (.bool (!((a == c) && (b == d)))) w := by
  simp only [binOp, Sem.run_bind, pair_eql, Result.andThen_ok, Sem.run_pure]
set_option maxRecDepth 100000 in
set_option maxHeartbeats 1000000 in
theorem rsame_any (A B : Option Addr) (c c' : Nat) (ps : List (Int × Int)) (w : World) (hA : PrIn w A ps) (hB : PrIn w B ps) (hl : ps.length ≤ 1000000) :
    Calls Try.prog 8 #[.slice A ps.length c, .slice B ps.length c'] w fun e w' => e = .returned (.bool true) ∧ Below w.heap.size w w' := by
  have HA := Lib.hid hA
  have HB := Lib.hid hB
  clear hA hB
  have hne : ((ps.length : Int) != (ps.length : Int)) = false := by simp
  have qN := pair_neq
  go_enter Try.func8, Try.ntmps8
  go_wp2_with fail
  go_loopg [5] ps.length (fun q i wx => ∃ k : Nat, k ≤ ps.length ∧ i = .int .i64 k ∧ ps.length - k ≤ q ∧ ∃ d, wx = w.drewN d)
  case atStart => exact ⟨0, Nat.zero_le _, rfl, by omega, 0, rfl⟩
  case round =>
    obtain ⟨k, hk, rfl, hm, d, rfl⟩ := hrel
    by_cases hlt : k < ps.length
    · obtain ⟨b1, o1, hAe, hb1, hI1⟩ := HA.out (by omega)
      subst hAe
      obtain ⟨b2, o2, hBe, hb2, hI2⟩ := HB.out (by omega)
      subst hBe
      obtain ⟨c0, c1⟩ := hI1 k hlt
      obtain ⟨d0, d1⟩ := hI2 k hlt
      have h0k : (0 : Int) ≤ (k : Int) := by omega
      have hki : (k : Int) < (ps.length : Int) := by omega
      clear hI1 hI2
      obtain ⟨p, hp⟩ : ∃ p, p = ps[k] := ⟨_, rfl⟩
      rw [← hp] at c0 c1 d0 d1
      clear hp
      obtain ⟨p0, p1⟩ := p
      simp only at c0 c1 d0 d1
      go_wp2_with fail
      go_quiet (fail)
      go_wp2_with fail
      go_roundg (ps.length - (k + 1))
      case rel => exact ⟨k + 1, by omega, by go_num, Nat.le_refl _, _, rfl⟩
      case measure => omega
    · obtain rfl : k = ps.length := by omega
      go_wp2_with fail
      go_ret
      exact ⟨rfl, drawn_below _ _⟩
end Go.Proofs.Ythcmljknpealhaa.N

namespace Go.Proofs.Ythcmljknpealhaa.N
set_option linter.unusedVariables false
set_option linter.unusedSimpArgs false
open Go.RowKit
open T
open V (grown_of IntsIn numCells numCells_snoc ints_own drawn_below)
open I (alloc1 own_at own_below)

/-- The numbers of a row's first places, rising, each with how often it is in the whole row. -/
structure Cx (l : List Int) (i : Nat) (cs : List (Int × Nat)) : Prop where
  rise : cs.Pairwise (fun p q => p.1 < q.1)
  mem : ∀ p ∈ cs, p.1 ∈ l.take i ∧ p.2 = l.count p.1
  all : ∀ n ∈ l.take i, ∃ p ∈ cs, p.1 = n
theorem Cx.start (l : List Int) : Cx l 0 [] := ⟨.nil, fun p hp => by simp at hp, fun n hn => by simp at hn⟩
theorem Cx.done {l : List Int} {cs : List (Int × Nat)} (h : Cx l l.length cs) : Cn l cs :=
  ⟨h.rise, fun p hp => by have := h.mem p hp; rw [List.take_length] at this; exact this, fun n hn => h.all n (by rw [List.take_length]; exact hn)⟩
theorem Cx.has {l : List Int} {i : Nat} {cs : List (Int × Nat)} (h : Cx l i cs) (hi : i < l.length) {k : Nat} (hk : k < cs.length) (he : cs[k].1 = l[i]) : Cx l (i + 1) cs := by
  refine ⟨h.rise, fun p hp => ⟨?_, (h.mem p hp).2⟩, fun n hn => ?_⟩
  · rw [List.take_succ_eq_append_getElem hi]; exact List.mem_append_left _ (h.mem p hp).1
  · rw [List.take_succ_eq_append_getElem hi] at hn
    rcases List.mem_append.1 hn with hn | hn
    · exact h.all n hn
    · simp at hn; subst hn; exact ⟨_, List.getElem_mem hk, he⟩
theorem Cx.put {l : List Int} {i : Nat} {cs : List (Int × Nat)} (h : Cx l i cs) (hi : i < l.length) {k : Nat} (hlo : ∀ j (hj : j < cs.length), j < k → cs[j].1 < l[i]) (hhi : ∀ hk : k < cs.length, l[i] < cs[k].1) :
    Cx l (i + 1) (cs.take k ++ [(l[i], l.count l[i])] ++ cs.drop k) := by
  have h1 : ∀ p ∈ cs.take k, p.1 < l[i] := fun p hp => by
    obtain ⟨j, hj, rfl⟩ := List.mem_iff_getElem.1 hp
    rw [List.length_take] at hj
    rw [List.getElem_take]
    exact hlo j (by omega) (by omega)
  have h2 : ∀ p ∈ cs.drop k, l[i] < p.1 := fun p hp => by
    obtain ⟨j, hj, rfl⟩ := List.mem_iff_getElem.1 hp
    rw [List.length_drop] at hj
    rw [List.getElem_drop]
    have hk := hhi (by omega)
    by_cases e : j = 0
    · subst e; simpa using hk
    · have := List.pairwise_iff_getElem.1 h.rise k (k + j) (by omega) (by omega) (by omega)
      omega
  have hm : ∀ p, p ∈ cs.take k ++ [(l[i], l.count l[i])] ++ cs.drop k ↔ p ∈ cs ∨ p = (l[i], l.count l[i]) := fun p => by
    conv => rhs; rw [← List.take_append_drop k cs]
    simp only [List.mem_append, List.mem_singleton]
    constructor
    · rintro ((h | h) | h)
      · exact .inl (.inl h)
      · exact .inr h
      · exact .inl (.inr h)
    · rintro ((h | h) | h)
      · exact .inl (.inl h)
      · exact .inr h
      · exact .inl (.inr h)
  refine ⟨?_, fun p hp => ?_, fun n hn => ?_⟩
  · rw [List.pairwise_append, List.pairwise_append]
    refine ⟨⟨h.rise.sublist (List.take_sublist _ _), by simp, fun p hp q hq => by simp at hq; subst hq; exact h1 p hp⟩, h.rise.sublist (List.drop_sublist _ _), fun p hp q hq => ?_⟩
    rcases List.mem_append.1 hp with hp | hp
    · exact Int.lt_trans (h1 p hp) (h2 q hq)
    · simp at hp; subst hp; exact h2 q hq
  · rw [List.take_succ_eq_append_getElem hi]
    rcases (hm p).1 hp with hp | rfl
    · exact ⟨List.mem_append_left _ (h.mem p hp).1, (h.mem p hp).2⟩
    · exact ⟨List.mem_append_right _ (by simp), rfl⟩
  · rw [List.take_succ_eq_append_getElem hi] at hn
    rcases List.mem_append.1 hn with hn | hn
    · obtain ⟨p, hp, e⟩ := h.all n hn; exact ⟨p, (hm p).2 (.inl hp), e⟩
    · simp at hn; subst hn; exact ⟨_, (hm _).2 (.inr rfl), rfl⟩
theorem put_length (cs : List (Int × Nat)) (k : Nat) (p : Int × Nat) : (cs.take k ++ [p] ++ cs.drop k).length = cs.length + 1 := by simp; omega
theorem asI_put (cs : List (Int × Nat)) (k : Nat) (p : Int × Nat) : asI (cs.take k ++ [p] ++ cs.drop k) = (asI cs).take k ++ [(p.1, (p.2 : Int))] ++ (asI cs).drop k := by simp [asI]
theorem prCells_append (a b : List (Int × Int)) : prCells (a ++ b) = prCells a ++ prCells b := by simp [prCells]
theorem prCells_take (a : List (Int × Int)) (k : Nat) : prCells (a.take k) = (prCells a).take (k * 2) := by
  induction a generalizing k with
  | nil => simp [prCells]
  | cons p r ih =>
    cases k with
    | zero => simp [prCells]
    | succ k => rw [List.take_succ_cons, show (k + 1) * 2 = k * 2 + 2 by omega]; show _ :: _ :: prCells (r.take k) = _; rw [ih]; rfl
theorem prCells_one (a : List (Int × Int)) : ∀ u ∈ prCells a, u.oneCell' = true := by
  intro u hu
  simp only [prCells, List.mem_flatMap] at hu
  obtain ⟨x, _, hu⟩ := hu
  simp at hu
  rcases hu with rfl | rfl <;> rfl
end Go.Proofs.Ythcmljknpealhaa.N

namespace Go.Proofs.Ythcmljknpealhaa.N
set_option linter.unusedVariables false
set_option linter.unusedSimpArgs false
open Go.RowKit
open T
open V (grown_of IntsIn numCells numCells_snoc ints_own drawn_below)
open I (alloc1 own_at own_below)

/-- A number of place i of a, if it is there once in both rows, and in b ahead of place k. -/
def onc (a b : List Int) (i : Nat) (x : Int) (k : Nat) : List (Int × Int) := if (a.count x = 1 ∧ b.count x = 1) ∧ b.idxOf x < k then [((i : Int), ((b.idxOf x : Nat) : Int))] else []
def oI (a b : List Int) (i k : Nat) : List (Int × Int) := onc a b i (a.getD i 0) k
def oU (a b : List Int) : Nat → List (Int × Int)
  | 0 => []
  | i + 1 => oU a b i ++ oI a b i b.length
theorem idx_once {b : List Int} {x : Int} (h : b.count x = 1) {k : Nat} (hk : k < b.length) (e : b[k] = x) : b.idxOf x = k := by
  have h1 : b.idxOf x ≤ k := by
    refine Nat.le_of_not_lt fun hlt => ?_
    have := List.not_of_lt_findIdx (p := (· == x)) (xs := b) (i := k) hlt
    simp [e] at this
  by_cases h2 : b.idxOf x = k
  · exact h2
  · have hj : b.idxOf x < b.length := by omega
    have hej := List.getElem_idxOf hj
    have hc : b.count x = (b.take (b.idxOf x + 1)).count x + (b.drop (b.idxOf x + 1)).count x := by rw [← List.count_append, List.take_append_drop]
    have c1 : 0 < (b.take (b.idxOf x + 1)).count x := List.count_pos_iff.2 (by rw [List.take_succ_eq_append_getElem hj, hej]; simp)
    have c2 : 0 < (b.drop (b.idxOf x + 1)).count x := List.count_pos_iff.2 (List.mem_iff_getElem.2 ⟨k - (b.idxOf x + 1), by rw [List.length_drop]; omega, by rw [List.getElem_drop]; simp only [show b.idxOf x + 1 + (k - (b.idxOf x + 1)) = k by omega]; exact e⟩)
    omega
theorem oI_hit {a b : List Int} {i k : Nat} (hi : i < a.length) (hk : k < b.length) (e : a[i] = b[k]) (h1 : a.count a[i] = 1) (h2 : b.count a[i] = 1) : oI a b i (k + 1) = oI a b i k ++ [((i : Int), (k : Int))] := by
  have hx : a.getD i 0 = a[i] := by simp [List.getD, List.getElem?_eq_getElem hi]
  have hj : b.idxOf a[i] = k := idx_once h2 hk e.symm
  unfold oI
  rw [hx]
  unfold onc
  rw [hj, if_pos ⟨⟨h1, h2⟩, by omega⟩, if_neg (by omega)]
  rfl
theorem oI_miss {a b : List Int} {i k : Nat} (hi : i < a.length) (hk : k < b.length) (h : ¬ (a[i] = b[k] ∧ a.count a[i] = 1 ∧ b.count a[i] = 1)) : oI a b i (k + 1) = oI a b i k := by
  have hx : a.getD i 0 = a[i] := by simp [List.getD, List.getElem?_eq_getElem hi]
  unfold oI
  rw [hx]
  unfold onc
  by_cases hh : a.count a[i] = 1 ∧ b.count a[i] = 1
  · have hne : b.idxOf a[i] ≠ k := fun e => h ⟨by
      have := List.getElem_idxOf (x := a[i]) (xs := b) (by omega)
      rw [← this]; simp only [e], hh⟩
    have : (b.idxOf a[i] < k + 1) ↔ b.idxOf a[i] < k := by omega
    simp only [this]
  · rw [if_neg (fun q => hh q.1), if_neg (fun q => hh q.1)]
theorem oI_len (a b : List Int) (i k : Nat) : (oI a b i k).length ≤ 1 := by unfold oI onc; split <;> simp
theorem oU_len (a b : List Int) : ∀ i, (oU a b i).length ≤ i
  | 0 => Nat.le_refl _
  | i + 1 => by
    have := oU_len a b i
    have := oI_len a b i b.length
    rw [oU, List.length_append]; omega
end Go.Proofs.Ythcmljknpealhaa.N

namespace Go.Proofs.Ythcmljknpealhaa.N
set_option linter.unusedVariables false
set_option linter.unusedSimpArgs false
open Go.RowKit Go.Maps
open T
open V (grown_of IntsIn numCells numCells_snoc ints_own drawn_below)
open I (alloc1 own_at own_below)

/-- How often a number is in a row that is turned, and where last. -/
def sgo : List Int → Int → Nat × Nat
  | [], _ => (0, 0)
  | x :: r, n => if n = x then ((sgo r n).1 + 1, r.length) else sgo r n
def st (xs : List Int) (n : Int) : Nat × Nat := sgo xs.reverse n
theorem st_nil (n : Int) : st [] n = (0, 0) := rfl
theorem st_snoc (xs : List Int) (x n : Int) : st (xs ++ [x]) n = if n = x then ((st xs n).1 + 1, xs.length) else st xs n := by
  unfold st
  rw [List.reverse_append, List.reverse_singleton, List.singleton_append, sgo, List.length_reverse]
theorem st_count : ∀ (r : List Int) (n : Int), (sgo r n).1 = r.count n
  | [], _ => rfl
  | x :: r, n => by
    rw [sgo]
    by_cases h : n = x
    · subst h; rw [if_pos rfl, List.count_cons_self, ← st_count r n]
    · rw [if_neg h, st_count r n, List.count_cons_of_ne (fun e => h e.symm)]
theorem st_is (xs : List Int) (n : Int) : (st xs n).1 = xs.count n := by unfold st; rw [st_count, List.count_reverse]
theorem sgo_at : ∀ (r : List Int) (n : Int), 0 < (sgo r n).1 → (sgo r n).2 < r.length ∧ r.reverse[(sgo r n).2]? = some n
  | [], _, h => absurd h (by simp [sgo])
  | x :: r, n, h => by
    rw [sgo] at h ⊢
    by_cases hx : n = x
    · subst hx
      rw [if_pos rfl]
      refine ⟨Nat.lt_succ_self _, ?_⟩
      rw [List.reverse_cons, List.getElem?_append_right (by simp)]
      simp
    · rw [if_neg hx] at h ⊢
      obtain ⟨h1, h2⟩ := sgo_at r n h
      refine ⟨Nat.lt_succ_of_lt h1, ?_⟩
      rw [List.reverse_cons, List.getElem?_append_left (by simpa using h1)]
      exact h2
theorem st_once {xs : List Int} {n : Int} (h : xs.count n = 1) : (st xs n).2 = xs.idxOf n := by
  have h0 : 0 < (sgo xs.reverse n).1 := by rw [st_count, List.count_reverse]; omega
  obtain ⟨h1, h2⟩ := sgo_at xs.reverse n h0
  rw [List.reverse_reverse] at h2
  rw [List.length_reverse] at h1
  rw [List.getElem?_eq_getElem h1] at h2
  exact (idx_once h h1 (Option.some.inj h2)).symm
theorem st_le (xs : List Int) (n : Int) : (st xs n).1 ≤ xs.length := by rw [st_is]; exact List.count_le_length

def spD (p : Nat × Nat) : DataW Unit := .agg [.lit (.int .i64 p.1), .lit (.int .i64 p.2)]
def spV (p : Nat × Nat) : Value := .agg #[.int .i64 p.1, .int .i64 p.2]
/-- How an element reads. -/
def spL : List Value → Option (DataW Unit × List MemPlace)
  | [.int .i64 t, .int .i64 a] => some (.agg [.lit (.int .i64 t), .lit (.int .i64 a)], [])
  | _ => none
def spR : Value → Option (DataW Unit × List MemPlace)
  | .agg cs => spL cs.toList
  | _ => none
theorem spR_mk (t a : Int) : spR (.agg #[.int .i64 t, .int .i64 a]) = some (.agg [.lit (.int .i64 t), .lit (.int .i64 a)], []) := rfl
theorem spL_inv {l : List Value} {p : Nat × Nat} {ps : List MemPlace} (h : spL l = some (spD p, ps)) : l = [.int .i64 p.1, .int .i64 p.2] := by
  unfold spL at h
  split at h
  · simp only [spD, Option.some.injEq, Prod.mk.injEq, DataW.agg.injEq, List.cons.injEq, DataW.lit.injEq, Lit.int.injEq, true_and, and_true] at h
    obtain ⟨⟨h1, h2⟩, -⟩ := h
    rw [h1, h2]
  · cases h
theorem spR_inv {v : Value} {p : Nat × Nat} {ps : List MemPlace} (h : spR v = some (spD p, ps)) : v = spV p := by
  cases v with
  | agg cs =>
    have := spL_inv (show spL cs.toList = some (spD p, ps) from h)
    obtain ⟨l⟩ := cs
    simp only at this
    subst this
    rfl
  | _ => exact absurd h (by simp [spR])
theorem intLaw : Keyed Try.prog 3 := int_keyed Try.underlying3
theorem zeroSp (w : World) : (zeroValue 52).run Try.prog w = .ok (spV (0, 0)) w := by kernel_rfl
/-- Block mb is a map of the spots of a row. -/
def Sp (w : World) (mb : Nat) (xs : List Int) : Prop := ∃ D : DataW Unit, w.ownsMap Try.prog 3 spR mb xs.length D ∧ ∀ n : Int, D.atKey (.int .i64 n) (spD (0, 0)) = spD (st xs n)
theorem Sp.start (w : World) : Sp (w.alloc (.map #[] 0)) w.heap.size [] := ⟨.map [], World.ownsMap_made _ _ _ _, fun _ => rfl⟩
theorem Sp.kept {w w' : World} {mb : Nat} {xs : List Int} {row : Option Nat} (h : Sp w mb xs) (hg : w.grownBy w' row) (hne : some mb ≠ row) : Sp w' mb xs := by
  obtain ⟨D, h1, h2⟩ := h
  exact ⟨D, h1.kept hg hne, h2⟩
theorem Sp.lt {w : World} {mb : Nat} {xs : List Int} (h : Sp w mb xs) : mb < w.heap.size := by
  obtain ⟨D, h1, _⟩ := h
  exact h1.lt
theorem Sp.below {w w' : World} {mb : Nat} {xs : List Int} (h : Sp w mb xs) (hb : Below w.heap.size w w') : Sp w' mb xs := h.kept (grown_of hb none) (by simp)
theorem Sp.at {w : World} {mb : Nat} {xs : List Int} (h : Sp w mb xs) {n : Int} (hn : (Lit.int .i64 n).wf = true) : (Instr.lookup 49 (.map (some mb)) (.int .i64 n) false).run Try.prog w = .ok (spV (st xs n)) w := by
  obtain ⟨D, h1, h2⟩ := h
  obtain ⟨v, ps, hrun, hv⟩ := h1.lookup intLaw Try.underlying49 (zeroSp w) (zd := spD (0, 0)) (zp := []) rfl (keyOf_int_mk Try.underlying3 hn)
  rw [h2] at hv
  rw [hrun, spR_inv hv]
theorem Sp.put {w : World} {mb : Nat} {xs : List Int} (h : Sp w mb xs) (hl : xs.length < maxLen) {n : Int} (hn : (Lit.int .i64 n).wf = true) :
    ∃ w', (Instr.mapUpdate 49 (.map (some mb)) (.int .i64 n) (.agg #[.int .i64 ((st xs n).1 + 1 : Nat), .int .i64 xs.length])).run Try.prog w = .ok () w' ∧ Sp w' mb (xs ++ [n]) ∧ w.grownBy w' (some mb) := by
  obtain ⟨D, h1, h2⟩ := h
  obtain ⟨w', hrun, r1, r2⟩ := h1.update intLaw Try.underlying49 hl (keyOf_int_mk Try.underlying3 hn) (spR_mk ((st xs n).1 + 1 : Nat) xs.length)
  refine ⟨w', hrun, ⟨_, by rw [List.length_append]; exact r1, fun m => ?_⟩, r2⟩
  have hk : WideAt.IsKeyLit (.int .i64 n) := trivial
  rw [st_snoc]
  by_cases e : m = n
  · subst e
    rw [if_pos rfl, atKey_put_same h1.isMap hk]; rfl
  · rw [if_neg e, atKey_put_other (fun q => e (by injection q))]
    exact h2 m
theorem wf_of {z : Int} (h1 : -9223372036854775808 ≤ z) (h2 : z ≤ 9223372036854775807) : (Lit.int .i64 z).wf = true := WalkArith.wf_i64 ⟨h1, h2⟩

def SpEnd (w : World) (l : List Int) (e : Ending) (w' : World) : Prop := ∃ mb, e = .returned (.map (some mb)) ∧ w.heap.size ≤ mb ∧ Sp w' mb l ∧ Below w.heap.size w w'
end Go.Proofs.Ythcmljknpealhaa.N

namespace Go.Proofs.Ythcmljknpealhaa.N
set_option linter.unusedVariables false
set_option linter.unusedSimpArgs false
open Go.RowKit Go.Maps
open T
open V (grown_of IntsIn numCells numCells_snoc ints_own drawn_below)
open I (alloc1 own_at own_below)

theorem Sp.at2 {w : World} {mb : Nat} {xs : List Int} (h : Sp w mb xs) {n : Int} (hn : (Lit.int .i64 n).wf = true) : (Instr.lookup 49 (.map (some mb)) (.int .i64 n) false).run Try.prog w = .ok (.agg #[.int .i64 ((st xs n).1 : Nat), .int .i64 ((st xs n).2 : Nat)]) w := h.at hn
theorem Sp.put2 {w : World} {mb : Nat} {xs : List Int} (h : Sp w mb xs) (hl : xs.length < maxLen) {n : Int} (hn : (Lit.int .i64 n).wf = true) :
    ∃ w', (Instr.mapUpdate 49 (.map (some mb)) (.int .i64 n) (.agg #[.int .i64 (((st xs n).1 : Nat) + 1), .int .i64 (xs.length : Nat)])).run Try.prog w = .ok () w' ∧ Sp w' mb (xs ++ [n]) ∧ w.grownBy w' (some mb) := by
  have := h.put hl hn
  simpa only [Int.natCast_add, Int.natCast_one] using this

theorem field_sp0 (x y : Int) (wz : World) : (Instr.field 52 (.agg #[.int .i64 x, .int .i64 y]) 0).run Try.prog wz = .ok (.int .i64 x) wz := by kernel_rfl
theorem field_sp1 (x y : Int) (wz : World) : (Instr.field 52 (.agg #[.int .i64 x, .int .i64 y]) 1).run Try.prog wz = .ok (.int .i64 y) wz := by kernel_rfl

set_option maxRecDepth 100000 in
set_option maxHeartbeats 4000000 in
theorem spots_any (A : Option Addr) (c : Nat) (l : List Int) (w : World) (hA : IntsIn w A l) (hl : l.length ≤ 60) (hw : ∀ z ∈ l, -9223372036854775808 ≤ z ∧ z ≤ 9223372036854775807) :
    Calls Try.prog 25 #[.slice A l.length c] w (SpEnd w l) := by
  have HA := Lib.hid hA
  have HW := Lib.hid hw
  have hmm0 := @run_makeMap Try.prog
  clear hA hw
  obtain ⟨W0, hW0⟩ : ∃ W : World, W = w.alloc (.map #[] 0) := ⟨_, rfl⟩
  have HB0 := Lib.hid (show Below w.heap.size w W0 by rw [hW0]; exact alloc1 _ _)
  have HS0 := Lib.hid (show Sp W0 w.heap.size [] by rw [hW0]; exact Sp.start w)
  go_enter Try.func25, Try.ntmps25
  go_wp2_with fail
  rw [← hW0]
  clear hW0 hmm0
  go_loopg [9] l.length (fun m i wr => ∃ k : Nat, k ≤ l.length ∧ i = .int .i64 k ∧ l.length - k ≤ m ∧ Hid (Sp wr w.heap.size (l.take k)) ∧ Hid (Below w.heap.size w wr))
  case atStart => exact ⟨0, Nat.zero_le _, rfl, by omega, by rw [List.take_zero]; exact HS0, HB0⟩
  case round =>
    obtain ⟨k, hk, rfl, hmm, HS, HB⟩ := hrel
    by_cases hlt : k < l.length
    · obtain ⟨bk, off, hAe, hbk, hI⟩ := HA.out (by omega)
      subst hAe
      have c0 := (HB.out.cell (p := ⟨bk, off + k, none⟩) hbk).trans (hI k hlt)
      have HT := Lib.hid (List.take_succ_eq_append_getElem hlt)
      have hwf : (Lit.int .i64 l[k]).wf = true := wf_of (HW.out _ (List.getElem_mem hlt)).1 (HW.out _ (List.getElem_mem hlt)).2
      obtain ⟨n, hn⟩ : ∃ n, n = l[k] := ⟨_, rfl⟩
      rw [← hn] at c0 HT hwf
      have hrl := HS.out.at2 hwf
      have htk : (l.take k).length = k := by rw [List.length_take]; omega
      obtain ⟨w2, hru, hS2, hg2⟩ := HS.out.put2 (by rw [htk]; unfold maxLen; omega) hwf
      rw [htk] at hru
      have hle := st_le (l.take k) n
      rw [htk] at hle
      have HS2 := Lib.hid hS2
      have HB2 := Lib.hid (Below.grown HB.out hg2 HB.out.size (fun q hq => by injection hq with hq; omega))
      generalize (st (l.take k) n).1 = t at *
      generalize (st (l.take k) n).2 = a at *
      have h0k : (0 : Int) ≤ (k : Int) := by omega
      have hki : (k : Int) < (l.length : Int) := by omega
      have hwr : IntKind.i64.wrap ((t : Int) + 1) = (t : Int) + 1 := by rw [IntKind.wrap_i64]; omega
      have hfs := field_sp0 (t : Int) (a : Int) wr
      clear hn hI hS2 hg2 htk hwf
      go_wp2_with fail
      go_roundg (l.length - (k + 1))
      case rel => exact ⟨k + 1, by omega, by go_num, Nat.le_refl _, by rw [HT.out]; exact HS2, HB2⟩
      case measure => omega
    · obtain rfl : k = l.length := by omega
      rw [List.take_length] at HS
      go_wp2_with fail
      go_ret
      exact ⟨_, rfl, Nat.le_refl _, HS.out, HB.out⟩
end Go.Proofs.Ythcmljknpealhaa.N

namespace Go.Proofs.Ythcmljknpealhaa.N
set_option linter.unusedVariables false
set_option linter.unusedSimpArgs false
open Go.RowKit
open T
open V (grown_of IntsIn numCells numCells_snoc ints_own drawn_below)
open I (alloc1 own_at own_below)

theorem own_lt2 {w : World} {base : Nat} {e : TypeId} {size n : Nat} {v : Value} {xs : List Value} (h : w.ownsRow base e size v n xs) : ∀ g, v.ownBlock = some g → g < w.heap.size := fun g e' => by
  rcases h.2 with ⟨rfl, _⟩ | ⟨g', cap, cur, rfl, _, hg, _⟩
  · cases e'
  · simp only [Value.ownBlock, Option.some.injEq] at e'; subst e'; exact L.blk_lt hg
theorem pr_news {w : World} {base g n c : Nat} {ps : List (Int × Int)} (h : w.ownsRow base 40 2 (.slice (some ⟨g, 0, none⟩) n c) n (prCells ps)) (hn : ps.length = n) : ∀ j u, (prCells ps)[j]? = some u → w.cell? ⟨g, j, none⟩ = some u := fun j u hu => by
  have hp : 0 < n := by
    have := (List.getElem?_eq_some_iff.1 hu).1
    rw [prCells_length] at this; omega
  obtain ⟨g', e, _, _, hat⟩ := own_at h hp
  simp only [Option.some.injEq, Addr.mk.injEq] at e
  obtain ⟨rfl, -, -⟩ := e
  exact hat j u hu
theorem pr_news_take {w : World} {base g n c : Nat} {ps : List (Int × Int)} (m : Nat) (h : w.ownsRow base 40 2 (.slice (some ⟨g, 0, none⟩) n c) n (prCells ps)) (hn : ps.length = n) : ∀ j u, (prCells (ps.take m))[j]? = some u → w.cell? ((⟨g, 0, none⟩ : Addr).add j) = some u := fun j u hu => by
  rw [prCells_take] at hu
  have hj : j < m * 2 := by
    have := (List.getElem?_eq_some_iff.1 hu).1
    rw [List.length_take] at this; omega
  rw [List.getElem?_take_of_lt hj] at hu
  have := pr_news h hn j u hu
  rw [show (⟨g, 0, none⟩ : Addr).add j = ⟨g, 0 + j, none⟩ by (unfold Addr.add; split <;> simp_all), Nat.zero_add]
  exact this
theorem prCells_drop (a : List (Int × Int)) (k : Nat) : prCells (a.drop k) = (prCells a).drop (k * 2) := by
  induction a generalizing k with
  | nil => simp [prCells]
  | cons p r ih =>
    cases k with
    | zero => simp
    | succ k => rw [List.drop_succ_cons, show (k + 1) * 2 = k * 2 + 2 by omega, ih]; rfl
theorem pr_news_drop {w : World} {base g n c : Nat} {ps : List (Int × Int)} (m : Nat) (h : w.ownsRow base 40 2 (.slice (some ⟨g, 0, none⟩) n c) n (prCells ps)) (hn : ps.length = n) : ∀ j u, (prCells (ps.drop m))[j]? = some u → w.cell? ((⟨g, m * 2, none⟩ : Addr).add j) = some u := fun j u hu => by
  rw [prCells_drop, List.getElem?_drop] at hu
  have := pr_news h hn _ u hu
  rw [show (⟨g, m * 2, none⟩ : Addr).add j = ⟨g, m * 2 + j, none⟩ by (unfold Addr.add; split <;> simp_all)]
  exact this
end Go.Proofs.Ythcmljknpealhaa.N

namespace Go.Proofs.Ythcmljknpealhaa.N
set_option linter.unusedVariables false
set_option linter.unusedSimpArgs false
open Go.RowKit Go.Maps
open T
open V (grown_of IntsIn numCells numCells_snoc ints_own drawn_below)
open I (alloc1 own_at own_below)

theorem oU_hit {a b : List Int} {i : Nat} (hi : i < a.length) (h1 : a.count a[i] = 1) (h2 : b.count a[i] = 1) : oU a b (i + 1) = oU a b i ++ [((i : Int), ((b.idxOf a[i] : Nat) : Int))] := by
  have hx : a.getD i 0 = a[i] := by simp [List.getD, List.getElem?_eq_getElem hi]
  have hm : a[i] ∈ b := List.count_pos_iff.1 (by omega)
  rw [oU, oI, hx, onc, if_pos ⟨⟨h1, h2⟩, List.idxOf_lt_length_iff.2 hm⟩]
theorem oU_miss {a b : List Int} {i : Nat} (hi : i < a.length) (h : ¬ (a.count a[i] = 1 ∧ b.count a[i] = 1)) : oU a b (i + 1) = oU a b i := by
  have hx : a.getD i 0 = a[i] := by simp [List.getD, List.getElem?_eq_getElem hi]
  rw [oU, oI, hx, onc, if_neg (fun q => h q.1), List.append_nil]

set_option maxRecDepth 100000 in
set_option maxHeartbeats 4000000 in
theorem once_any (A B : Option Addr) (c c' : Nat) (a b : List Int) (w : World) (hA : IntsIn w A a) (hB : IntsIn w B b) (ha : a.length ≤ 60) (hb : b.length ≤ 60)
    (hwa : ∀ z ∈ a, -9223372036854775808 ≤ z ∧ z ≤ 9223372036854775807) (hwb : ∀ z ∈ b, -9223372036854775808 ≤ z ∧ z ≤ 9223372036854775807) :
    Calls Try.prog 20 #[.slice A a.length c, .slice B b.length c'] w (PsEnd w (oU a b a.length)) := by
  obtain ⟨i0, hi0, hz0, hz1, hz2⟩ := info_parts infoPair
  have HA := Lib.hid hA
  have HB := Lib.hid hB
  have HWA := Lib.hid hwa
  have HWB := Lib.hid hwb
  clear hA hB hwa hwb
  go_enter Try.func20, Try.ntmps20
  go_wp2_with fail
  with_reducible refine (spots_any A c a w HA.out ha HWA.out).mono ?_
  rintro e w1 ⟨m1, rfl, hm1, hS1, hb1⟩
  go_wp2_with fail
  with_reducible refine (spots_any B c' b w1 (HB.out.below hb1) hb HWB.out).mono ?_
  rintro e w2 ⟨m2, rfl, hm2, hS2, hb2⟩
  have HS1 := Lib.hid (hS1.below hb2)
  have HS2 := Lib.hid hS2
  have HB2 := Lib.hid (hb1.trans (hb2.mono hb1.size))
  have HM1 := Lib.hid hS1.lt
  have HM2 := Lib.hid hm2
  clear hS1 hS2 hb1 hb2 hm2
  go_wp2_with fail
  go_loopg [7, 16] a.length (fun m v i wr => ∃ (k : Nat) (ps : List (Int × Int)), k ≤ a.length ∧ i = .int .i64 k ∧ a.length - k ≤ m ∧ wr.ownsRow w2.heap.size 40 2 v ps.length (prCells ps) ∧ Below w2.heap.size w2 wr ∧ Hid (ps = oU a b k))
  case atStart => exact ⟨0, [], Nat.zero_le _, rfl, by omega, World.ownsRow_nil _ _ _ _, Below.refl _ _, Lib.hid rfl⟩
  case round =>
    obtain ⟨k, ps, hk, rfl, hmm, hown, hbr, HP⟩ := hrel
    have HSa := Lib.hid (HS1.out.below (hbr.mono (Nat.le_refl _)))
    have HSb := Lib.hid (HS2.out.below (hbr.mono (Nat.le_refl _)))
    by_cases hlt : k < a.length
    · obtain ⟨bk, off, hAe, hbk, hI⟩ := HA.out (by omega)
      subst hAe
      have hs2 := HB2.out.size
      have c0 := (hbr.cell (p := ⟨bk, off + k, none⟩) (by show bk < _; omega)).trans ((HB2.out.cell (p := ⟨bk, off + k, none⟩) hbk).trans (hI k hlt))
      have hwf : (Lit.int .i64 a[k]).wf = true := wf_of (HWA.out _ (List.getElem_mem hlt)).1 (HWA.out _ (List.getElem_mem hlt)).2
      have HHIT := Lib.hid (fun h1 h2 => oU_hit (b := b) hlt h1 h2)
      have HMISS := Lib.hid (fun h => oU_miss (b := b) hlt h)
      have hpl := oU_len a b k
      rw [← HP.out] at hpl HHIT HMISS
      obtain ⟨n, hn⟩ : ∃ n, n = a[k] := ⟨_, rfl⟩
      rw [← hn] at c0 HHIT HMISS hwf
      have hla := HSa.out.at2 hwf
      have hlb := HSb.out.at2 hwf
      rw [st_is] at hla hlb
      have hld := fun h => st_once (xs := b) (n := n) h
      generalize (st a n).2 = xa at *
      generalize (st b n).2 = xb at *
      have hf0 := field_sp0
      have hf1 := field_sp1
      generalize a.count n = ca at *
      generalize b.count n = cb at *
      have h0k : (0 : Int) ≤ (k : Int) := by omega
      have hki : (k : Int) < (a.length : Int) := by omega
      have hsb := hbr.size
      obtain ⟨RA, rcap, rfl, -, -⟩ := own_form hown
      have HOW := Lib.hid hown
      have HBR := Lib.hid hbr
      clear hn hI hown hbr hwf
      by_cases hc1 : ca = 1
      · by_cases hc2 : cb = 1
        · have HN := Lib.hid (HHIT.out hc1 hc2)
          rw [← hld hc2] at HN
          subst hc1 hc2
          clear HHIT HMISS hld
          go_wp2_with (at_builtin; refine wpList_append_own _ rfl (.tmp 33) (.tmp 40) 22 rfl w2.heap.size 40 i0 _ 2 16 Try.underlying22 hi0 hz0 hz1 hz2 rfl (by decide) _ ps.length (prCells ps) rfl (HOW.out.alloc _) ⟨_, 0, none⟩ 1 1 [.int .i64 k, .int .i64 xb] rfl rfl (World.news_of_block (heap_alloc_new wr _)) (by intro u hu; simp at hu; rcases hu with rfl | rfl <;> rfl) (by unfold maxLen; omega) (by omega) (by first | omega | (simp; done) | (simp; omega)) ?_; intro v' w4 hown4 hg4 _)
          have hb4 := (HBR.out.trans ((alloc1 _ _).mono hsb)).grown hg4 (by first | omega | (simp; omega)) (own_base HOW.out)
          have ho4 : w4.ownsRow w2.heap.size 40 2 v' (ps ++ [((k : Int), (xb : Int))]).length (prCells (ps ++ [((k : Int), (xb : Int))])) := by rw [prCells_snoc]; simpa using hown4
          clear hown4 hg4
          go_wp2_with fail
          go_roundg (a.length - (k + 1))
          case rel => exact ⟨k + 1, ps ++ [((k : Int), (xb : Int))], by omega, by go_num, Nat.le_refl _, ho4, hb4, Lib.hid (by rw [HN.out])⟩
          case measure => omega
        · have HN := Lib.hid (HMISS.out (fun h => hc2 h.2))
          have hcb2 : ((cb : Int) == 1) = false := by simp; omega
          subst hc1
          clear HHIT HMISS hc2 hld
          go_wp2_with fail
          go_roundg (a.length - (k + 1))
          case rel => exact ⟨k + 1, ps, by omega, by go_num, Nat.le_refl _, HOW.out, HBR.out, Lib.hid (by rw [HN.out])⟩
          case measure => omega
      · have HN := Lib.hid (HMISS.out (fun h => hc1 h.1))
        have hca2 : ((ca : Int) == 1) = false := by simp; omega
        clear HHIT HMISS hc1 hld
        go_wp2_with fail
        go_roundg (a.length - (k + 1))
        case rel => exact ⟨k + 1, ps, by omega, by go_num, Nat.le_refl _, HOW.out, HBR.out, Lib.hid (by rw [HN.out])⟩
        case measure => omega
    · obtain rfl : k = a.length := by omega
      have hp := HP.out
      subst hp
      obtain ⟨RA, rcap, rfl, -, -⟩ := own_form hown
      go_wp2_with fail
      go_ret
      exact ⟨RA, rcap, rfl, V.own_base_le hown HB2.out.size, HB2.out.trans (hbr.mono HB2.out.size)⟩
end Go.Proofs.Ythcmljknpealhaa.N
