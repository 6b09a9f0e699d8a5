/-
  How often each number is there: plain; a copy and the order of a row of numbers in memory.
  The contract of intern's Counts.
  What must be whatever is asked of layer 6.
-/
import Derived.Test.YtllgeffjkjdadaaGna
import Derived.Test.YtllgeffjkjdadaaGvc
import Derived.Test.YtllgeffjkjdadaaGva
import Derived.Sort.OwnSortedInts
import Derived.Test.YtllgeffjkjdadaaGve
import Derived.Test.YtllgeffjkjdadaaGnb
import Derived.Test.YtllgeffjkjdadaaGvf
namespace Go.Proofs.Ytllgeffjkjdadaa.N
set_option linter.unusedVariables false
set_option linter.unusedSimpArgs false
open Go.RowKit
open T
open V (grown_of IntsIn numCells numCells_snoc ints_own drawn_below)
open I (alloc1 own_at own_below)

/-- Numbers with how often each is there, rising: of a row. -/
structure Cn (l : List Int) (cs : List (Int × Nat)) : Prop where
  rise : cs.Pairwise (fun p q => p.1 < q.1)
  mem : ∀ p ∈ cs, p.1 ∈ l ∧ p.2 = l.count p.1
  all : ∀ n ∈ l, ∃ p ∈ cs, p.1 = n
theorem pairs_same : ∀ {cs ds : List (Int × Nat)}, cs.Pairwise (fun p q => p.1 < q.1) → ds.Pairwise (fun p q => p.1 < q.1) → (∀ p, p ∈ cs ↔ p ∈ ds) → cs = ds
  | [], [], _, _, _ => rfl
  | [], d :: ds, _, _, h => by have := (h d).2 (by simp); simp at this
  | c :: cs, [], _, _, h => by have := (h c).1 (by simp); simp at this
  | c :: cs, d :: ds, hc, hd, h => by
    rw [List.pairwise_cons] at hc hd
    have e : c = d := by
      have h1 := (h c).1 (by simp)
      have h2 := (h d).2 (by simp)
      rcases List.mem_cons.1 h1 with h1 | h1
      · exact h1
      · rcases List.mem_cons.1 h2 with h2 | h2
        · exact h2.symm
        · have := hd.1 c h1; have := hc.1 d h2; omega
    subst e
    rw [pairs_same hc.2 hd.2 fun p => ?_]
    constructor
    · intro hp
      rcases List.mem_cons.1 ((h p).1 (by simp [hp])) with e | e
      · subst e; have := hc.1 p hp; omega
      · exact e
    · intro hp
      rcases List.mem_cons.1 ((h p).2 (by simp [hp])) with e | e
      · subst e; have := hd.1 p hp; omega
      · exact e
theorem Cn.same {l : List Int} {cs ds : List (Int × Nat)} (h : Cn l cs) (h' : Cn l ds) : cs = ds := by
  have half : ∀ {cs ds : List (Int × Nat)}, Cn l cs → Cn l ds → ∀ p ∈ cs, p ∈ ds := fun {cs ds} h h' p hp => by
    obtain ⟨q, hq, e⟩ := h'.all _ (h.mem p hp).1
    have e2 : q = p := Prod.ext e (by rw [(h'.mem q hq).2, (h.mem p hp).2, e])
    rw [← e2]; exact hq
  exact pairs_same h.rise h'.rise fun p => ⟨half h h' p, half h' h p⟩
theorem Cn.perm {l m : List Int} {cs : List (Int × Nat)} (h : Cn l cs) (hp : l.Perm m) : Cn m cs :=
  ⟨h.rise, fun p hp' => ⟨hp.mem_iff.1 (h.mem p hp').1, by rw [(h.mem p hp').2]; exact hp.count_eq _⟩, fun n hn => h.all n (hp.mem_iff.2 hn)⟩
theorem Cn.new {l : List Int} {cs : List (Int × Nat)} {n : Int} (h : Cn l cs) (hn : ∀ x ∈ l, x < n) : Cn (l ++ [n]) (cs ++ [(n, 1)]) := by
  have hnl : n ∉ l := fun hm => by have := hn n hm; omega
  refine ⟨?_, fun p hp => ?_, fun x hx => ?_⟩
  · rw [List.pairwise_append]
    exact ⟨h.rise, by simp, fun p hp q hq => by simp at hq; subst hq; exact hn _ (h.mem p hp).1⟩
  · rcases List.mem_append.1 hp with hp | hp
    · have hpl := (h.mem p hp).1
      refine ⟨by simp [hpl], ?_⟩
      rw [List.count_append, (h.mem p hp).2, List.count_singleton]
      have : ¬ n = p.1 := fun e => hnl (by rw [e]; exact hpl)
      simp [this]
    · simp at hp; subst hp
      exact ⟨by simp, by rw [List.count_append, List.count_eq_zero_of_not_mem hnl]; simp⟩
  · rcases List.mem_append.1 hx with hx | hx
    · obtain ⟨p, hp, e⟩ := h.all x hx; exact ⟨p, by simp [hp], e⟩
    · simp at hx; subst hx; exact ⟨(x, 1), by simp, rfl⟩
theorem Cn.again {l : List Int} {cs : List (Int × Nat)} {n : Int} {c : Nat} (h : Cn l (cs ++ [(n, c)])) : Cn (l ++ [n]) (cs ++ [(n, c + 1)]) := by
  have hr := h.rise
  rw [List.pairwise_append] at hr
  have hc := h.mem (n, c) (by simp)
  refine ⟨?_, fun p hp => ?_, fun x hx => ?_⟩
  · rw [List.pairwise_append]
    exact ⟨hr.1, by simp, fun p hp q hq => by simp at hq; subst hq; exact hr.2.2 p hp (n, c) (by simp)⟩
  · rcases List.mem_append.1 hp with hp | hp
    · have hm := h.mem p (by simp [hp])
      have hlt := hr.2.2 p hp (n, c) (by simp)
      refine ⟨by simp [hm.1], ?_⟩
      rw [List.count_append, hm.2, List.count_singleton]
      have : ¬ n = p.1 := by simp only at hlt; omega
      simp [this]
    · simp at hp; subst hp
      refine ⟨by simp, ?_⟩
      rw [List.count_append, List.count_singleton, ← hc.2]
      simp
  · have hx' : x ∈ l := by
      rcases List.mem_append.1 hx with hx | hx
      · exact hx
      · simp at hx; subst hx; exact hc.1
    obtain ⟨p, hp, e⟩ := h.all x hx'
    rcases List.mem_append.1 hp with hp | hp
    · exact ⟨p, by simp [hp], e⟩
    · simp at hp; subst hp; exact ⟨(n, c + 1), by simp, e⟩
theorem Cn.nil : Cn [] [] := ⟨.nil, fun p hp => by simp at hp, fun n hn => by simp at hn⟩
def tot (cs : List (Int × Nat)) : Nat := (cs.map (·.2)).sum
theorem tot_snoc (cs : List (Int × Nat)) (p : Int × Nat) : tot (cs ++ [p]) = tot cs + p.2 := by simp [tot]

/-- The cells of pairs. -/
def prCells (ps : List (Int × Int)) : List Value := ps.flatMap fun p => [.int .i64 p.1, .int .i64 p.2]
theorem prCells_snoc (ps : List (Int × Int)) (p : Int × Int) : prCells (ps ++ [p]) = prCells ps ++ [.int .i64 p.1, .int .i64 p.2] := by simp [prCells]
theorem prCells_length : ∀ ps : List (Int × Int), (prCells ps).length = ps.length * 2
  | [] => rfl
  | p :: r => by
    have : prCells (p :: r) = .int .i64 p.1 :: .int .i64 p.2 :: prCells r := by simp [prCells]
    rw [this, List.length_cons, List.length_cons, prCells_length r, List.length_cons]; omega
theorem infoPair : (Try.prog.info? 43).map (fun i => (i.zero, i.size, i.bytes)) = some (some (.agg #[.int .i64 0, .int .i64 0]), 2, 16) := by kernel_rfl
theorem clone_any (A : Option Addr) (cap : Nat) (l : List Int) (w : World) (hA : IntsIn w A l) (hb : l.length * 8 ≤ 140737488355328) :
    Calls Try.prog 24 #[.slice A l.length cap] w fun e w' => (∃ v, e = .returned v ∧ w'.ownsRow w.heap.size 3 1 v l.length (numCells l)) ∧ Below w.heap.size w w' := by
  cases A with
  | none =>
    obtain rfl : l = [] := by
      cases l with
      | nil => rfl
      | cons x r => obtain ⟨_, _, h, _⟩ := hA (by simp); cases h
    exact (Try.slices_Clone_int_nil 0 cap w).mono fun e w' ⟨he, hw⟩ => ⟨⟨_, he, World.ownsRow_nil _ _ _ _⟩, by rw [hw]; exact Below.refl _ _⟩
  | some a =>
    by_cases hp : 0 < l.length
    · obtain ⟨bk, off, e, hlt, hI⟩ := hA hp
      cases e
      refine (Try.slices_Clone_int bk off l.length cap l w (Nat.le_refl _) hb (fun j hj => by rw [hI j hj, getD_at hj])).mono fun e w' ⟨v, he, ho, _, hbl⟩ => ⟨⟨v, he, ?_⟩, hbl⟩
      rw [List.take_length] at ho
      exact ho
    · obtain rfl : l = [] := List.length_eq_zero_iff.1 (by omega)
      exact (Try.slices_Clone_int_zero a cap w).mono fun e w' ⟨v, he, ho, _, hbl⟩ => ⟨⟨v, he, ho⟩, hbl⟩
def srt (l : List Int) : List Int := l.mergeSort fun x y => decide (x ≤ y)
theorem srt_nil : srt [] = [] := by simp [srt]
theorem srt_length (l : List Int) : (srt l).length = l.length := List.length_mergeSort _
theorem srt_perm (l : List Int) : (srt l).Perm l := List.mergeSort_perm _ _
theorem srt_le (l : List Int) : (srt l).Pairwise (· ≤ ·) := by
  have := List.pairwise_mergeSort (le := fun x y : Int => decide (x ≤ y)) (fun a b c h1 h2 => by simp at *; omega) (fun a b => by simp; omega) l
  simpa [srt] using this
theorem sort_any {w : World} {base : Nat} {v : Value} {l : List Int} (h : w.ownsRow base 3 1 v l.length (numCells l)) (hl : l.length ≤ maxLen) (hl2 : l.length < 4611686018427387904) :
    Calls Try.prog 25 #[v] w fun e w' => e = .returned (.tuple #[]) ∧ w'.ownsRow base 3 1 v (srt l).length (numCells (srt l)) ∧ w.grownBy w' v.ownBlock := by
  rcases h.2 with ⟨rfl, h0⟩ | ⟨g, cap, cur, rfl, hbase, hg, h1, h2, h3, h4⟩
  · obtain rfl : l = [] := List.length_eq_zero_iff.1 h0
    exact (Try.slices_Sort_int_none none 0 w).mono fun e w' ⟨he, hw⟩ => ⟨he, by subst hw; rw [srt_nil]; exact World.ownsRow_nil _ _ _ _, by subst hw; exact ⟨rfl, rfl, rfl, Nat.le_refl _, fun _ _ _ => rfl⟩⟩
  · refine (Try.slices_Sort_int g 0 cap l w (holds_of_blockI hg (by rw [Nat.mul_one] at h4; exact h4)) (L.blk_lt hg) hl2).mono fun e w' ⟨he, n, os, hw⟩ => ⟨he, ?_, ?_⟩
    · subst hw
      rw [srt_length]
      exact ownsRow_sortedI (ts := srt l) (srt_length l) hbase hg h1 h2 h3
    · subst hw
      exact grownBy_sortedI _
end Go.Proofs.Ytllgeffjkjdadaa.N

namespace Go.Proofs.Ytllgeffjkjdadaa.N
set_option linter.unusedVariables false
set_option linter.unusedSimpArgs false
open Go.RowKit
open T
open V (grown_of IntsIn numCells numCells_snoc ints_own drawn_below own_put own_cells own_type own_apart2)
open I (alloc1 own_at own_below)

def asI (cs : List (Int × Nat)) : List (Int × Int) := cs.map fun p => (p.1, (p.2 : Int))
theorem asI_snoc (cs : List (Int × Nat)) (p : Int × Nat) : asI (cs ++ [p]) = asI cs ++ [(p.1, (p.2 : Int))] := by simp [asI]
theorem asI_length (cs : List (Int × Nat)) : (asI cs).length = cs.length := by simp [asI]
/-- A row of pairs. -/
def PsEnd (W : World) (ps : List (Int × Int)) (e : Ending) (w' : World) : Prop := ∃ A cap, e = .returned (.slice A ps.length cap) ∧ w'.ownsRow W.heap.size 43 2 (.slice A ps.length cap) ps.length (prCells ps) ∧ Below W.heap.size W w'
/-- What a walk through ordered numbers holds: of those ahead of place i. -/
theorem Cn.le {l : List Int} {cs : List (Int × Nat)} (h : Cn l cs) : cs.length ≤ tot cs := by
  have : ∀ ds : List (Int × Nat), (∀ p ∈ ds, 0 < p.2) → ds.length ≤ tot ds := fun ds => by
    induction ds with
    | nil => intro _; exact Nat.le_refl _
    | cons p r ih =>
      intro hp
      have h1 := ih (fun q hq => hp q (by simp [hq]))
      have h2 := hp p (by simp)
      simp only [tot, List.map_cons, List.sum_cons, List.length_cons] at h1 ⊢
      omega
  exact this cs fun p hp => by
    rw [(h.mem p hp).2]
    exact List.count_pos_iff.2 (h.mem p hp).1
structure CnI (s : List Int) (i : Nat) (cs : List (Int × Nat)) : Prop where
  cn : Cn (s.take i) cs
  tot : tot cs = i
  last : ∀ j (hj : j < s.length), j + 1 = i → ∃ c0 c, cs = c0 ++ [(s[j], c)]
theorem CnI.start (s : List Int) : CnI s 0 [] := ⟨by rw [List.take_zero]; exact Cn.nil, rfl, fun j _ e => by omega⟩
theorem CnI.new {s : List Int} {i : Nat} {cs : List (Int × Nat)} (h : CnI s i cs) (hs : s.Pairwise (· ≤ ·)) (hi : i < s.length) (hn : ∀ j (hj : j < s.length), j + 1 = i → ¬ s[j] = s[i]) : CnI s (i + 1) (cs ++ [(s[i], 1)]) := by
  refine ⟨?_, by rw [tot_snoc, h.tot], fun j hj e => ⟨cs, 1, by have e' : j = i := (by omega); subst e'; rfl⟩⟩
  rw [List.take_succ_eq_append_getElem hi]
  refine h.cn.new fun x hx => ?_
  obtain ⟨q, hq, rfl⟩ := List.mem_iff_getElem.1 hx
  simp only [List.length_take] at hq
  rw [List.getElem_take]
  have h1 : s[i - 1] ≤ s[i] := List.pairwise_iff_getElem.1 hs (i - 1) i (by omega) hi (by omega)
  have h2 := hn (i - 1) (by omega) (by omega)
  have h3 : s[q] ≤ s[i - 1] := by
    by_cases e : q = i - 1
    · subst e; exact Int.le_refl _
    · exact List.pairwise_iff_getElem.1 hs q (i - 1) (by omega) (by omega) (by omega)
  omega
theorem CnI.again {s : List Int} {i : Nat} {c0 : List (Int × Nat)} {c : Nat} (hi : i < s.length) (h : CnI s i (c0 ++ [(s[i], c)])) : CnI s (i + 1) (c0 ++ [(s[i], c + 1)]) := by
  refine ⟨?_, by have := h.tot; rw [tot_snoc] at this ⊢; simp only at this ⊢; omega, fun j hj e => ⟨c0, c + 1, by have e' : j = i := (by omega); subst e'; rfl⟩⟩
  rw [List.take_succ_eq_append_getElem hi]
  exact h.cn.again
/-- How often each number of a row is there. -/
def CnR (l : List Int) (ps : List (Int × Int)) : Prop := ∃ cs, ps = asI cs ∧ Cn l cs ∧ tot cs = l.length

set_option maxRecDepth 100000 in
set_option maxHeartbeats 4000000 in
theorem counts_any (A : Option Addr) (cap : Nat) (l : List Int) (w : World) (hA : IntsIn w A l) (hl : l.length ≤ 1000000) :
    Calls Try.prog 10 #[.slice A l.length cap] w fun e w' => ∃ ps, CnR l ps ∧ PsEnd w ps e w' := by
  obtain ⟨i0, hi0, hz0, hz1, hz2⟩ := info_parts infoPair
  have HCL := Lib.hid (clone_any A cap l w hA (by omega))
  clear hA
  go_enter Try.func10, Try.ntmps10
  go_wp2_with fail
  with_reducible refine (HCL.out).mono ?_
  rintro e w1 ⟨⟨v, rfl, ho1⟩, hb1⟩
  have HSO := Lib.hid (sort_any ho1 (by unfold maxLen; omega) (by omega))
  have HF1 := Lib.hid (own_base ho1)
  have HB1 := Lib.hid hb1
  go_wp2_with fail
  with_reducible refine (HSO.out).mono ?_
  rintro e w2 ⟨rfl, ho2, hg2⟩
  have HB2 := Lib.hid (HB1.out.grown hg2 HB1.out.size HF1.out)
  obtain ⟨SA, scap, rfl, -, -⟩ := own_form ho2
  have HI := Lib.hid (ints_own ho2)
  have HSL := Lib.hid (srt_le l)
  have HSP := Lib.hid (srt_perm l)
  have hsl : (srt l).length = l.length := srt_length l
  have HSZ := Lib.hid HB2.out.size
  obtain ⟨s, hs⟩ : ∃ s, s = srt l := ⟨_, rfl⟩
  rw [← hs] at HI HSL HSP hsl ho2 ⊢
  have HSN := Lib.hid hsl
  have hsb : s.length ≤ 1000000 := by omega
  clear hs HSO HCL ho1 hb1 hg2 HB1 hsl hl
  have HO2 := Lib.hid ho2
  clear ho2
  go_wp2_with fail
  go_loopg [4, 13] s.length (fun m v i wr => ∃ (k : Nat) (cs : List (Int × Nat)), k ≤ s.length ∧ i = .int .i64 k ∧ s.length - k ≤ m ∧ wr.ownsRow w2.heap.size 43 2 v (asI cs).length (prCells (asI cs)) ∧ Below w2.heap.size w2 wr ∧ Hid (CnI s k cs))
  case atStart => exact ⟨0, [], Nat.zero_le _, rfl, by omega, World.ownsRow_nil _ _ _ _, Below.refl _ _, Lib.hid (CnI.start s)⟩
  case round =>
    obtain ⟨k, cs, hk, rfl, hmm, hown, hbr, HC⟩ := hrel
    by_cases hlt : k < s.length
    · obtain ⟨bk, off, hAe, hbk, hI⟩ := HI.out (by omega)
      subst hAe
      have c0 := (hI.below hbr hbk) k hlt
      have h0k : (0 : Int) ≤ (k : Int) := by omega
      have hki : (k : Int) < (s.length : Int) := by omega
      have hcl : cs.length ≤ k := by have := HC.out.cn.le; rw [HC.out.tot] at this; exact this
      have HOW := Lib.hid hown
      have HBR := Lib.hid hbr
      clear hown hbr
      obtain ⟨n, hn⟩ : ∃ n, n = s[k] := ⟨_, rfl⟩
      rw [← hn] at c0
      have HNN := Lib.hid hn
      clear hn
      by_cases hk0 : k = 0
      · subst hk0
        rw [Nat.add_zero] at c0
        have HNEW : Hid (∀ j (hj : j < s.length), j + 1 = 0 → ¬ s[j] = s[0]) := Lib.hid (fun j hj e => by omega)
        have HC2 := Lib.hid (CnI.new HC.out HSL.out hlt HNEW.out)
        rw [← HNN.out] at HC2
        have hbs := HBR.out.size
        go_wp2_with (at_builtin; refine wpList_append_own _ rfl _ _ 41 rfl w2.heap.size 43 i0 _ 2 16 Try.underlying41 hi0 hz0 hz1 hz2 rfl (by decide) _ (asI cs).length (prCells (asI cs)) rfl (HOW.out.alloc _) ⟨_, 0, none⟩ 1 1 [.int .i64 n, .int .i64 0] rfl rfl (World.news_of_block (V.alloc_at _ rfl)) (by intro u hu; simp at hu; rcases hu with rfl | rfl <;> rfl) (by rw [asI_length]; simp only [maxLen]; omega) (by rw [asI_length]; omega) (by simp; omega) ?_; intro v' w4 hown4 hg4 _)
        have HBR4 := Lib.hid ((HBR.out.trans ((alloc1 wr (.cells #[.int .i64 n, .int .i64 0] 43)).mono hbs)).grown hg4 (by simp; omega) (own_base HOW.out))
        have HOW4 : Hid (w4.ownsRow w2.heap.size 43 2 v' (asI (cs ++ [(n, 0)])).length (prCells (asI (cs ++ [(n, 0)])))) := Lib.hid (by rw [asI_snoc, prCells_snoc, List.length_append]; exact hown4)
        clear hown4 hg4 hbs HOW HBR
        obtain ⟨q, hq⟩ : ∃ q, q = cs.length := ⟨_, rfl⟩
        have hml : (asI (cs ++ [(n, 0)])).length = q + 1 := by rw [asI_length, List.length_append, hq]; rfl
        rw [hml] at HOW4
        obtain ⟨g, cp, cur, hve, hgb, hgc, hn1, hn2, hcs, htk⟩ := own_cells HOW4.out (by omega)
        subst hve
        have hcur : cur[q * 2 + 1]? = some (.int .i64 (0 : Nat)) := by
          rw [← Array.getElem?_toList, ← List.getElem?_take_of_lt (show q * 2 + 1 < (q + 1) * 2 by omega), htk, asI_snoc, prCells_snoc, List.getElem?_append_right (by rw [prCells_length, asI_length]; omega), prCells_length, asI_length, ← hq, show q * 2 + 1 - q * 2 = 1 by omega]
          rfl
        have d0 := (L.blk_cell hgc (q * 2 + 1)).trans hcur
        have d1 := L.blk_free hgc (q * 2 + 1)
        have HOWX := Lib.hid (own_put (j := q * 2 + 1) (u := .int .i64 ((0 + 1 : Nat) : Int)) HOW4.out (by omega))
        have hset : (prCells (asI (cs ++ [(n, 0)]))).set (q * 2 + 1) (.int .i64 ((0 + 1 : Nat) : Int)) = prCells (asI (cs ++ [(n, 0 + 1)])) := by
          rw [asI_snoc, asI_snoc, prCells_snoc, prCells_snoc, List.set_append_right _ _ (by rw [prCells_length, asI_length]; omega), prCells_length, asI_length, ← hq, show q * 2 + 1 - q * 2 = 1 by omega]
          rfl
        rw [hset] at HOWX
        obtain ⟨m, hm⟩ : ∃ m, m = q + 1 := ⟨_, rfl⟩
        rw [← hm] at HOWX
        try rw [← hm]
        have HLM : Hid ((asI (cs ++ [(n, 0 + 1)])).length = m) := Lib.hid (by rw [asI_length, List.length_append, hm, hq]; rfl)
        have hqb : q ≤ 1000000 := by rw [hq]; first | omega | (simp only [List.length_append, List.length_singleton] at hcl; omega)
        have w2' : IntKind.i64.wrap ((m : Int) - 1) = (q : Int) := by rw [IntKind.wrap_i64]; omega
        have z3 : (0 : Int) ≤ (q : Int) := by omega
        have z4 : (q : Int) < (m : Int) := by omega
        have w3 : IntKind.i64.wrap (((0 : Nat) : Int) + 1) = ((0 + 1 : Nat) : Int) := by rw [IntKind.wrap_i64]; omega
        have HBX := Lib.hid (HBR4.out.setCell (p := ⟨g, q * 2 + 1, none⟩) hgb (.int .i64 ((0 + 1 : Nat) : Int)))
        clear hq hm hml hcur htk hcs hset HOW4 hn1 hn2
        go_region
        all_goals
          go_wp2_with fail
          go_roundg (s.length - (0 + 1))
          case rel => exact ⟨0 + 1, cs ++ [(n, 0 + 1)], by omega, by go_num, Nat.le_refl _, by rw [HLM.out]; exact HOWX.out, HBX.out.drew, HC2⟩
          case measure => omega
      · have hp1 : k - 1 < s.length := by omega
        have c1 := (hI.below HBR.out hbk) (k - 1) hp1
        obtain ⟨p, hp⟩ : ∃ p, p = k - 1 := ⟨_, rfl⟩
        obtain ⟨y, hy⟩ : ∃ y, y = s[k - 1] := ⟨_, rfl⟩
        have w1 : IntKind.i64.wrap ((k : Int) - 1) = (p : Int) := by rw [IntKind.wrap_i64]; omega
        have z0 : (0 : Int) ≤ (p : Int) := by omega
        have z1 : (p : Int) < (s.length : Int) := by omega
        rw [← hy, ← hp] at c1
        have hk0' : ((k : Int) == 0) = false := by simp; omega
        by_cases he : y = n
        · obtain ⟨c0', c, hcc⟩ := HC.out.last (k - 1) hp1 (by omega)
          rw [← hy, he] at hcc
          subst hcc he
          have HC2 := Lib.hid (CnI.again (c0 := c0') (c := c) hlt (by rw [← HNN.out]; exact HC.out))
          rw [← HNN.out] at HC2
          have hct : c ≤ k := by
            have := HC.out.tot
            rw [tot_snoc] at this
            simp only at this
            omega
          clear hI hy hp hk0
          obtain ⟨q, hq⟩ : ∃ q, q = c0'.length := ⟨_, rfl⟩
          have hml : (asI (c0' ++ [(y, c)])).length = q + 1 := by rw [asI_length, List.length_append, hq]; rfl
          rw [hml] at HOW
          obtain ⟨g, cp, cur, hve, hgb, hgc, hn1, hn2, hcs, htk⟩ := own_cells HOW.out (by omega)
          subst hve
          have hcur : cur[q * 2 + 1]? = some (.int .i64 (c : Nat)) := by
            rw [← Array.getElem?_toList, ← List.getElem?_take_of_lt (show q * 2 + 1 < (q + 1) * 2 by omega), htk, asI_snoc, prCells_snoc, List.getElem?_append_right (by rw [prCells_length, asI_length]; omega), prCells_length, asI_length, ← hq, show q * 2 + 1 - q * 2 = 1 by omega]
            rfl
          have d0 := (L.blk_cell hgc (q * 2 + 1)).trans hcur
          have d1 := L.blk_free hgc (q * 2 + 1)
          have HOWX := Lib.hid (own_put (j := q * 2 + 1) (u := .int .i64 ((c + 1 : Nat) : Int)) HOW.out (by omega))
          have hset : (prCells (asI (c0' ++ [(y, c)]))).set (q * 2 + 1) (.int .i64 ((c + 1 : Nat) : Int)) = prCells (asI (c0' ++ [(y, c + 1)])) := by
            rw [asI_snoc, asI_snoc, prCells_snoc, prCells_snoc, List.set_append_right _ _ (by rw [prCells_length, asI_length]; omega), prCells_length, asI_length, ← hq, show q * 2 + 1 - q * 2 = 1 by omega]
            rfl
          rw [hset] at HOWX
          obtain ⟨m, hm⟩ : ∃ m, m = q + 1 := ⟨_, rfl⟩
          rw [← hm] at HOWX
          try rw [← hm]
          have HLM : Hid ((asI (c0' ++ [(y, c + 1)])).length = m) := Lib.hid (by rw [asI_length, List.length_append, hm, hq]; rfl)
          have hqb : q ≤ 1000000 := by rw [hq]; first | omega | (simp only [List.length_append, List.length_singleton] at hcl; omega)
          have w2' : IntKind.i64.wrap ((m : Int) - 1) = (q : Int) := by rw [IntKind.wrap_i64]; omega
          have z3 : (0 : Int) ≤ (q : Int) := by omega
          have z4 : (q : Int) < (m : Int) := by omega
          have w3 : IntKind.i64.wrap (((c : Nat) : Int) + 1) = ((c + 1 : Nat) : Int) := by rw [IntKind.wrap_i64]; omega
          have HBX := Lib.hid (HBR.out.setCell (p := ⟨g, q * 2 + 1, none⟩) hgb (.int .i64 ((c + 1 : Nat) : Int)))
          clear hq hm hml hcur htk hcs hset HOW hn1 hn2
          go_wp2_with fail
          go_region
          all_goals
            go_wp2_with fail
            go_roundg (s.length - (k + 1))
            case rel => exact ⟨k + 1, c0' ++ [(y, c + 1)], by omega, by go_num, Nat.le_refl _, by rw [HLM.out]; exact HOWX.out, HBX.out.drew, HC2⟩
            case measure => omega
        · have HNEW : Hid (∀ j (hj : j < s.length), j + 1 = k → ¬ s[j] = s[k]) := Lib.hid (fun j hj e => by
            have e' : j = k - 1 := by omega
            subst e'
            rw [← hy, ← HNN.out]
            exact he)
          have hyn : (y != n) = true := by simpa using he
          clear hI hy hp he
          have HC2 := Lib.hid (CnI.new HC.out HSL.out hlt HNEW.out)
          rw [← HNN.out] at HC2
          have hbs := HBR.out.size
          go_wp2_with (at_builtin; refine wpList_append_own _ rfl _ _ 41 rfl w2.heap.size 43 i0 _ 2 16 Try.underlying41 hi0 hz0 hz1 hz2 rfl (by decide) _ (asI cs).length (prCells (asI cs)) rfl (HOW.out.alloc _) ⟨_, 0, none⟩ 1 1 [.int .i64 n, .int .i64 0] rfl rfl (World.news_of_block (V.alloc_at _ rfl)) (by intro u hu; simp at hu; rcases hu with rfl | rfl <;> rfl) (by rw [asI_length]; simp only [maxLen]; omega) (by rw [asI_length]; omega) (by simp; omega) ?_; intro v' w4 hown4 hg4 _)
          have HBR4 := Lib.hid ((HBR.out.trans ((alloc1 wr (.cells #[.int .i64 n, .int .i64 0] 43)).mono hbs)).grown hg4 (by simp; omega) (own_base HOW.out))
          have HOW4 : Hid (w4.ownsRow w2.heap.size 43 2 v' (asI (cs ++ [(n, 0)])).length (prCells (asI (cs ++ [(n, 0)])))) := Lib.hid (by rw [asI_snoc, prCells_snoc, List.length_append]; exact hown4)
          clear hown4 hg4 hbs HOW HBR
          obtain ⟨q, hq⟩ : ∃ q, q = cs.length := ⟨_, rfl⟩
          have hml : (asI (cs ++ [(n, 0)])).length = q + 1 := by rw [asI_length, List.length_append, hq]; rfl
          rw [hml] at HOW4
          obtain ⟨g, cp, cur, hve, hgb, hgc, hn1, hn2, hcs, htk⟩ := own_cells HOW4.out (by omega)
          subst hve
          have hcur : cur[q * 2 + 1]? = some (.int .i64 (0 : Nat)) := by
            rw [← Array.getElem?_toList, ← List.getElem?_take_of_lt (show q * 2 + 1 < (q + 1) * 2 by omega), htk, asI_snoc, prCells_snoc, List.getElem?_append_right (by rw [prCells_length, asI_length]; omega), prCells_length, asI_length, ← hq, show q * 2 + 1 - q * 2 = 1 by omega]
            rfl
          have d0 := (L.blk_cell hgc (q * 2 + 1)).trans hcur
          have d1 := L.blk_free hgc (q * 2 + 1)
          have HOWX := Lib.hid (own_put (j := q * 2 + 1) (u := .int .i64 ((0 + 1 : Nat) : Int)) HOW4.out (by omega))
          have hset : (prCells (asI (cs ++ [(n, 0)]))).set (q * 2 + 1) (.int .i64 ((0 + 1 : Nat) : Int)) = prCells (asI (cs ++ [(n, 0 + 1)])) := by
            rw [asI_snoc, asI_snoc, prCells_snoc, prCells_snoc, List.set_append_right _ _ (by rw [prCells_length, asI_length]; omega), prCells_length, asI_length, ← hq, show q * 2 + 1 - q * 2 = 1 by omega]
            rfl
          rw [hset] at HOWX
          obtain ⟨m, hm⟩ : ∃ m, m = q + 1 := ⟨_, rfl⟩
          rw [← hm] at HOWX
          try rw [← hm]
          have HLM : Hid ((asI (cs ++ [(n, 0 + 1)])).length = m) := Lib.hid (by rw [asI_length, List.length_append, hm, hq]; rfl)
          have hqb : q ≤ 1000000 := by rw [hq]; first | omega | (simp only [List.length_append, List.length_singleton] at hcl; omega)
          have w2' : IntKind.i64.wrap ((m : Int) - 1) = (q : Int) := by rw [IntKind.wrap_i64]; omega
          have z3 : (0 : Int) ≤ (q : Int) := by omega
          have z4 : (q : Int) < (m : Int) := by omega
          have w3 : IntKind.i64.wrap (((0 : Nat) : Int) + 1) = ((0 + 1 : Nat) : Int) := by rw [IntKind.wrap_i64]; omega
          have HBX := Lib.hid (HBR4.out.setCell (p := ⟨g, q * 2 + 1, none⟩) hgb (.int .i64 ((0 + 1 : Nat) : Int)))
          clear hq hm hml hcur htk hcs hset HOW4 hn1 hn2
          go_region
          all_goals
            go_wp2_with fail
            go_roundg (s.length - (k + 1))
            case rel => exact ⟨k + 1, cs ++ [(n, 0 + 1)], by omega, by go_num, Nat.le_refl _, by rw [HLM.out]; exact HOWX.out, HBX.out.drew, HC2⟩
            case measure => omega
    · obtain rfl : k = s.length := by omega
      have hcn := HC.out.cn
      rw [List.take_length] at hcn
      obtain ⟨RA, rcap, rfl, -, -⟩ := own_form hown
      go_wp2_with fail
      go_ret
      exact ⟨asI cs, ⟨cs, rfl, hcn.perm HSP.out, by rw [HC.out.tot, HSN.out]⟩, RA, rcap, rfl, own_more hown HSZ.out, HB2.out.trans (hbr.mono HSZ.out)⟩
end Go.Proofs.Ytllgeffjkjdadaa.N

namespace Go.Proofs.Ytllgeffjkjdadaa.N
set_option linter.unusedVariables false
set_option linter.unusedSimpArgs false
open Go.RowKit
open T
open V (grown_of IntsIn numCells numCells_snoc ints_own drawn_below ints_of_block I2C LvC rints_any)
open I (alloc1 own_at own_below)

def ll : List (List Ln) := [[([97], false), ([98], false), ([97], false)], [([99], false), ([98], false)]]
theorem ll_is : numsAll [] ll = [[0, 1, 0], [2, 1]] := by decide
theorem lines_of_block {w : World} {g : Nat} {cs : Array Value} {xs : List Ln} (h : w.heap[g]? = some (.cells cs 35 (0, 0))) (hc : cs.toList = lineCells xs) : LinesIn w (some ⟨g, 0, none⟩) xs := fun hp => by
  refine ⟨g, 0, rfl, L.blk_lt h, fun j hj => ?_⟩
  obtain ⟨h0, h1⟩ := lineCells_at xs j hj
  rw [← hc] at h0 h1
  rw [Nat.zero_add]
  exact ⟨(L.blk_cell h _).trans (by rw [← Array.getElem?_toList]; exact h0), (L.blk_cell h _).trans (by rw [← Array.getElem?_toList]; exact h1)⟩
theorem cn4 {ps : List (Int × Int)} (h : CnR [4] ps) : ps.length = 1 := by
  obtain ⟨cs, rfl, hc, -⟩ := h
  have h1 : Cn [4] [(4, 1)] := ⟨by simp, fun p hp => by simp at hp; subst hp; exact ⟨by simp, by decide⟩, fun n hn => by simp at hn; subst hn; exact ⟨(4, 1), by simp, rfl⟩⟩
  rw [hc.same h1]; rfl
theorem three (w : World) (o0 o1 o2 : Obj) : ∃ W : World, W = ((w.alloc o0).alloc o1).alloc o2 ∧ W.heap[w.heap.size]? = some o0 ∧ W.heap[w.heap.size + 1]? = some o1 ∧ W.heap[w.heap.size + 1 + 1]? = some o2 ∧ Below w.heap.size w W := by
  refine ⟨_, rfl, ?_, ?_, ?_, ?_⟩
  · exact V.alloc_old _ (V.alloc_old _ (V.alloc_at _ rfl))
  · exact V.alloc_old _ (V.alloc_at _ (by simp))
  · exact V.alloc_at _ (by simp)
  · exact ((alloc1 _ _).alloc (by simp) _).alloc (by simp; omega) _

set_option maxRecDepth 100000 in
set_option maxHeartbeats 4000000 in
theorem live6 : LvC 11 := fun w => by
  obtain ⟨W1, hW1, k0, k1, k2, hB1⟩ := three w (.cells #[.string ⟨#[97]⟩, .bool false, .string ⟨#[98]⟩, .bool false, .string ⟨#[97]⟩, .bool false] 35) (.cells #[.string ⟨#[99]⟩, .bool false, .string ⟨#[98]⟩, .bool false] 35) (.cells #[.slice (some ⟨w.heap.size, 0, none⟩) 3 3, .slice (some ⟨w.heap.size + 1, 0, none⟩) 2 2] 26)
  have hL : ListsIn W1 (some ⟨w.heap.size + 1 + 1, 0, none⟩) ll := fun _ => by
    refine ⟨_, 0, rfl, L.blk_lt k2, fun j hj => ?_⟩
    have hj2 : j < 2 := hj
    match j, hj2 with
    | 0, _ => exact ⟨_, 3, L.blk_cell k2 0, lines_of_block (xs := [([97], false), ([98], false), ([97], false)]) k0 rfl, Nat.le_refl _⟩
    | 1, _ => exact ⟨_, 2, L.blk_cell k2 1, lines_of_block (xs := [([99], false), ([98], false)]) k1 rfl, Nat.le_refl _⟩
  have HNM : Hid (Calls Try.prog 26 #[.slice (some ⟨w.heap.size + 1 + 1, 0, none⟩) 2 2] W1 (NmEnd W1 [[0, 1, 0], [2, 1]])) := Lib.hid (by
    have := numbers_any (some ⟨w.heap.size + 1 + 1, 0, none⟩) 2 ll W1 hL (by decide) (by decide) (by decide)
    rw [ll_is] at this
    exact this)
  have HB1 := Lib.hid hB1
  clear k0 k1 k2 hL hB1
  go_enter Try.func11, Try.ntmps11
  go_wp2_with fail
  rw [← hW1]
  clear hW1
  with_reducible refine (HNM.out).mono ?_
  rintro e w2 ⟨RA, rcap, vs, rfl, ho, hr, hb2⟩
  obtain ⟨v0, v1, rfl⟩ : ∃ a b, vs = [a, b] := by
    have h := hr.1
    match vs, h with
    | [a, b], _ => exact ⟨a, b, rfl⟩
  have r0 := hr.2 0 (by simp) (by simp)
  have r1 := hr.2 1 (by simp) (by simp)
  simp only [List.getElem_cons_zero, List.getElem_cons_succ] at r0 r1
  obtain ⟨A0, c0, rfl, -, -⟩ := own_form r0
  obtain ⟨A1, c1, rfl, -, -⟩ := own_form r1
  have HR0 := Lib.hid (ints_own r0)
  have HR1 := Lib.hid (ints_own r1)
  obtain ⟨g, hRA, -, hgl, hat⟩ := own_at ho (by simp)
  subst hRA
  have d0 := hat 0 _ rfl
  have d1 := hat 1 _ rfl
  have HB2 := Lib.hid (HB1.out.trans (hb2.mono HB1.out.size))
  have HD := Lib.hid (And.intro hgl (And.intro d0 d1))
  clear HNM HB1 ho hr hb2 r0 r1 hat d0 d1 hgl
  simp only [List.length_cons, List.length_nil, Nat.zero_add, Nat.reduceAdd] at HD ⊢
  obtain ⟨W3, hW3⟩ : ∃ W : World, W = (w2.alloc (.cells #[.int .i64 1, .int .i64 2, .int .i64 3, .int .i64 1] 3)).alloc (.cells #[.int .i64 1, .int .i64 3, .int .i64 1] 3) := ⟨_, rfl⟩
  have HB3 := Lib.hid (show Below w2.heap.size w2 W3 by rw [hW3]; exact (alloc1 _ _).alloc (by simp) _)
  have HEN : Hid (Calls Try.prog 27 #[.slice (some ⟨w2.heap.size, 0, none⟩) 4 4, .slice (some ⟨w2.heap.size + 1, 0, none⟩) 3 3] W3 fun e w' => e = .returned (.tuple #[.int .i64 1, .int .i64 2]) ∧ Below W3.heap.size W3 w') := Lib.hid (by
    have h0 : W3.heap[w2.heap.size]? = some (.cells #[.int .i64 1, .int .i64 2, .int .i64 3, .int .i64 1] 3 (0, 0)) := by rw [hW3]; exact (L.two_blocks w2 _ _).1
    have h1 : W3.heap[w2.heap.size + 1]? = some (.cells #[.int .i64 1, .int .i64 3, .int .i64 1] 3 (0, 0)) := by rw [hW3]; exact (L.two_blocks w2 _ _).2
    have := ends_is [1, 2, 3, 1] [1, 3, 1] (by decide) (by decide) W3 (some ⟨w2.heap.size, 0, none⟩) (some ⟨w2.heap.size + 1, 0, none⟩) 4 3 (ints_of_block h0 rfl) (ints_of_block h1 rfl)
    exact this)
  go_wp2_with fail
  rw [← hW3]
  clear hW3
  with_reducible refine (HEN.out).mono ?_
  rintro e w4 ⟨rfl, hb4⟩
  have HB4 := Lib.hid (HB3.out.trans (hb4.mono HB3.out.size))
  have e0 := (HB4.out.cell (p := ⟨g, 0, none⟩) HD.out.1).trans HD.out.2.1
  have e1 := (HB4.out.cell (p := ⟨g, 1, none⟩) HD.out.1).trans HD.out.2.2
  clear hb4 HEN HB3
  have HI1 : Hid (∀ (B : Option Addr) (W : World), Below w2.heap.size w2 W → IntsIn W B [0, 1, 0] → Calls Try.prog 21 #[.slice A0 3 c0, .slice B 3 3] W fun e w' => e = .returned (.bool true) ∧ Below W.heap.size W w') := Lib.hid (fun B W hb hB =>
    (rints_any A0 B c0 3 [0, 1, 0] [0, 1, 0] W (by decide) (HR0.out.below hb) hB).mono fun e w' h => ⟨by rw [h.1, decide_eq_true rfl], h.2⟩)
  have HI2 : Hid (∀ (B : Option Addr) (W : World), Below w2.heap.size w2 W → IntsIn W B [2, 1] → Calls Try.prog 21 #[.slice A1 2 c1, .slice B 2 2] W fun e w' => e = .returned (.bool true) ∧ Below W.heap.size W w') := Lib.hid (fun B W hb hB =>
    (rints_any A1 B c1 2 [2, 1] [2, 1] W (by decide) (HR1.out.below hb) hB).mono fun e w' h => ⟨by rw [h.1, decide_eq_true rfl], h.2⟩)
  have hs4 := HB4.out.size
  have HB5 := Lib.hid (HB4.out.trans ((alloc1 w4 (.cells #[.int .i64 0, .int .i64 1, .int .i64 0] 3)).mono hs4))
  have HX5 := Lib.hid (ints_of_block (xs := [0, 1, 0]) (heap_alloc_new w4 (.cells #[.int .i64 0, .int .i64 1, .int .i64 0] 3)) rfl)
  go_wp2_with fail
  with_reducible refine (HI1.out _ _ HB5.out HX5.out).mono ?_
  rintro e w6 ⟨rfl, hb6⟩
  have HB6 := Lib.hid (HB5.out.trans (hb6.mono HB5.out.size))
  have f1 := (HB6.out.cell (p := ⟨g, 1, none⟩) HD.out.1).trans HD.out.2.2
  clear e0 e1 hb6 HB5 HX5 HI1 HB4 hs4
  have hs6 := HB6.out.size
  have HB7 := Lib.hid (HB6.out.trans ((alloc1 w6 (.cells #[.int .i64 2, .int .i64 1] 3)).mono hs6))
  have HX7 := Lib.hid (ints_of_block (xs := [2, 1]) (heap_alloc_new w6 (.cells #[.int .i64 2, .int .i64 1] 3)) rfl)
  go_wp2_with fail
  with_reducible refine (HI2.out _ _ HB7.out HX7.out).mono ?_
  rintro e w8 ⟨rfl, hb8⟩
  have HB8 := Lib.hid (HB7.out.trans (hb8.mono HB7.out.size))
  clear f1 hb8 HB7 HX7 HI2 HB6 hs6
  have hs8 := HB8.out.size
  have HB9 := Lib.hid (HB8.out.trans ((alloc1 w8 (.cells #[.int .i64 4] 3)).mono hs8))
  have HC9 := Lib.hid (counts_any (some ⟨w8.heap.size, 0, none⟩) 1 [4] (w8.alloc (.cells #[.int .i64 4] 3)) (ints_of_block (heap_alloc_new w8 (.cells #[.int .i64 4] 3)) rfl) (by decide))
  simp only [List.length_cons, List.length_nil, Nat.zero_add] at HC9
  go_wp2_with fail
  with_reducible refine (HC9.out).mono ?_
  rintro e w10 ⟨ps, hps, PA, pcap, rfl, -, hb10⟩
  rw [cn4 hps]
  go_wp2_with fail
  go_ret
  exact ⟨rfl, HB2.out.trans ((HB9.out.trans (hb10.mono HB9.out.size)).mono HB2.out.size)⟩
end Go.Proofs.Ytllgeffjkjdadaa.N
