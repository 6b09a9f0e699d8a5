/-
  What follows of merging, in plain words: the pieces' kinds; the merge with both others changed for one another; how many lines the marked ones are; one of the others the base, matched line by line.
  What follows of merging, in plain words: the match of two texts by the shortest way is right, what it matches is the same, and of a text with itself it is all of it; both others the same.
  The match of two texts by the shortest way, as the laws ask it of the reference: the numbers tell lines apart, so what is matched is the same.
  The reference's fits: are pieces those of three texts?
  The contracts of merge.mark, of slices.Grow from nothing and slices.Concat at rows of lines.
-/
import Derived.Test.YtkflhcfopejigaaGgi
import Derived.Test.YtkflhcfopejigaaGgp
import Derived.Test.YtkflhcfopejigaaGga
import Derived.Test.YtkflhcfopejigaaGgo
import Derived.Test.YtkflhcfopejigaaGgq
import Derived.Test.YtkflhcfopejigaaGgl
import Derived.Test.YtkflhcfopejigaaGgm
import Derived.Lib.AppendZerosOnto
namespace Go.Proofs.Ytkflhcfopejigaa.Mg
set_option linter.unusedVariables false
set_option linter.unusedSimpArgs false
open Go.RowKit
open Mt (Pr fnd Rt right right_iff fnd_mem fnd_of)
open Ck

theorem side_le (c : Ck) (o a b : List Ln) : 1 ≤ side c o a b ∧ side c o a b ≤ 4 := by
  unfold side
  split
  · decide
  · split
    · decide
    · split <;> decide
theorem side_one {c : Ck} {o a b : List Ln} (h : side c o a b = 1) : c.st = true ∨ cutl a c.a c.an = cutl b c.b c.bn := by
  unfold side at h
  split at h
  · assumption
  · split at h
    · cases h
    · split at h <;> cases h
theorem pieces_mem {o a b : List Ln} {p q : List Pr} {x : Pc} (h : x ∈ pieces o a b p q) : x.ck ∈ chunks p q o.length a.length b.length ∧ x.sd = side x.ck o a b ∧ like p o a = true ∧ like q o b = true := by
  unfold pieces at h
  by_cases hl : like p o a = true ∧ like q o b = true
  · rw [if_pos hl] at h
    obtain ⟨c, hc, rfl⟩ := List.mem_map.1 h
    exact ⟨hc, rfl, hl⟩
  · rw [if_neg hl] at h; cases h
theorem pieces_map {o a b : List Ln} {p q : List Pr} (h : like p o a = true ∧ like q o b = true) : (pieces o a b p q).map (·.ck) = chunks p q o.length a.length b.length := by
  rw [pieces, if_pos h, List.map_map]
  exact List.map_id _
theorem chunks_can {p q : List Pr} {o a b : Int} {c : Ck} (h : c ∈ chunks p q o a b) : can p q o a b := by
  by_cases hc : can p q o a b
  · exact hc
  · rw [show chunks p q o a b = [] from if_neg hc] at h; cases h
/-- The lines of a piece that does not clash are the same with both others changed for one another. -/
theorem plines_turn {o a b : List Ln} {p q : List Pr} (hp : Alike p o a) (hq : Alike q o b) {x : Pc} (h : x ∈ pieces o a b p q) (h4 : x.sd ≠ 4) : plines o b a (pturn x) = plines o a b x := by
  obtain ⟨h1, h2, -⟩ := pieces_mem h
  have hb := side_le x.ck o a b
  rw [← h2] at hb
  unfold plines pturn tsd turn
  simp only
  rcases (by omega : x.sd = 1 ∨ x.sd = 2 ∨ x.sd = 3) with e | e | e
  · rw [e]
    have hs := side_one (h2.symm.trans e)
    have hh : cutl a x.ck.a x.ck.an = cutl b x.ck.b x.ck.bn := by
      rcases hs with hs | hs
      · have := stable_same (chunks_can h1) hp hq h1 hs
        exact this.1.trans this.2.symm
      · exact hs
    exact hh
  · rw [e]; rfl
  · rw [e]; rfl
theorem flat_turn {o a b : List Ln} {p q : List Pr} (hp : Alike p o a) (hq : Alike q o b) : ∀ {l : List Pc}, (∀ x ∈ l, x ∈ pieces o a b p q) → clean l = true → (l.map pturn).flatMap (plines o b a) = l.flatMap (plines o a b)
  | [], _, _ => rfl
  | x :: r, h, hc => by
    unfold clean at hc
    rw [List.all_cons, Bool.and_eq_true] at hc
    rw [List.map_cons, List.flatMap_cons, List.flatMap_cons, flat_turn hp hq (fun y hy => h y (List.mem_cons_of_mem _ hy)) hc.2, plines_turn hp hq (h x List.mem_cons_self) (by simpa using hc.1)]
/-- WITH BOTH OTHERS CHANGED FOR ONE ANOTHER the lines are the same, if it is clean. -/
theorem whole_turn {o a b : List Ln} {p q : List Pr} (hp : Alike p o a) (hq : Alike q o b) (hc : clean (pieces o a b p q) = true) : whole (pieces o b a q p) o b a = whole (pieces o a b p q) o a b := by
  unfold whole
  rw [(pieces_turn o a b p q).1, flat_turn hp hq (fun x hx => hx) hc]
/-! How many lines the marked ones are. -/
def psum : List Pc → Int
  | [] => 0
  | x :: r => (if x.sd = 2 then x.ck.an else if x.sd = 4 then x.ck.an + x.ck.on + x.ck.bn + 4 else x.ck.bn) + psum r
theorem plines_len {o a b : List Ln} {x : Pc} (h1 : 0 ≤ x.ck.o ∧ 0 ≤ x.ck.on ∧ x.ck.o + x.ck.on ≤ o.length) (h2 : 0 ≤ x.ck.a ∧ 0 ≤ x.ck.an ∧ x.ck.a + x.ck.an ≤ a.length) (h3 : 0 ≤ x.ck.b ∧ 0 ≤ x.ck.bn ∧ x.ck.b + x.ck.bn ≤ b.length) :
    ((plines o a b x).length : Int) = if x.sd = 2 then x.ck.an else if x.sd = 4 then x.ck.an + x.ck.on + x.ck.bn + 4 else x.ck.bn := by
  have e1 := cutl_len h1.2.1 h1.1 h1.2.2
  have e2 := cutl_len h2.2.1 h2.1 h2.2.2
  have e3 := cutl_len h3.2.1 h3.1 h3.2.2
  unfold plines
  split
  · rw [e2]; omega
  · split
    · simp only [List.length_cons, List.length_append, List.length_nil, e1, e2, e3]; omega
    · rw [e3]; omega
theorem flat_len {o a b : List Ln} : ∀ {l : List Pc}, (∀ x ∈ l, (0 ≤ x.ck.o ∧ 0 ≤ x.ck.on ∧ x.ck.o + x.ck.on ≤ o.length) ∧ (0 ≤ x.ck.a ∧ 0 ≤ x.ck.an ∧ x.ck.a + x.ck.an ≤ a.length) ∧ (0 ≤ x.ck.b ∧ 0 ≤ x.ck.bn ∧ x.ck.b + x.ck.bn ≤ b.length)) → ((l.flatMap (plines o a b)).length : Int) = psum l
  | [], _ => rfl
  | x :: r, h => by
    have h0 := h x List.mem_cons_self
    have h1 := plines_len h0.1 h0.2.1 h0.2.2
    have h2 := flat_len (l := r) fun y hy => h y (List.mem_cons_of_mem _ hy)
    rw [List.flatMap_cons, List.length_append, psum, ← h1, ← h2]; omega
theorem right_tiles {o a b : List Ln} {l : List Pc} (h : cright (l.map (·.ck)) o.length a.length b.length = true) :
    (∀ x ∈ l, (0 ≤ x.ck.o ∧ 0 ≤ x.ck.on ∧ x.ck.o + x.ck.on ≤ o.length) ∧ (0 ≤ x.ck.a ∧ 0 ≤ x.ck.an ∧ x.ck.a + x.ck.an ≤ a.length) ∧ (0 ≤ x.ck.b ∧ 0 ≤ x.ck.bn ∧ x.ck.b + x.ck.bn ≤ b.length)) ∧
    (l.map (·.ck)).flatMap (fun c => cutl o c.o c.on) = o ∧ (l.map (·.ck)).flatMap (fun c => cutl a c.a c.an) = a ∧ (l.map (·.ck)).flatMap (fun c => cutl b c.b c.bn) = b := by
  obtain ⟨h1, h2, h3, h4⟩ := ckr_tiles o a b (e := ((o.length : Int), (a.length : Int), (b.length : Int))) ⟨rfl, rfl, rfl⟩ (t := (0, 0, 0)) ⟨Int.le_refl _, Int.le_refl _, Int.le_refl _⟩ ⟨by simp only; omega, by simp only; omega, by simp only; omega⟩ h
  refine ⟨fun x hx => ?_, h2, h3, h4⟩
  have := h1 x.ck (List.mem_map_of_mem hx)
  exact ⟨this.1, this.2.1, this.2.2.1⟩
theorem pieces_fits {o a b : List Ln} {p q : List Pr} (hc : can p q o.length a.length b.length) (hl : like p o a = true ∧ like q o b = true) : fits (pieces o a b p q) o.length a.length b.length = true := by
  unfold fits
  rw [pieces_map hl, chunks_right hc, Bool.and_true]
  refine List.all_eq_true.2 fun x hx => decide_eq_true ?_
  rw [(pieces_mem hx).2.1]
  exact side_le _ _ _ _
/-- The marked lines are as many as the pieces tell. -/
theorem whole_len {o a b : List Ln} {p q : List Pr} (hc : can p q o.length a.length b.length) (hl : like p o a = true ∧ like q o b = true) : ((whole (pieces o a b p q) o a b).length : Int) = psum (pieces o a b p q) := by
  unfold whole
  rw [bared_len]
  exact flat_len (right_tiles (by rw [pieces_map hl]; exact chunks_right hc)).1
/-! One of the others is the base, matched line by line. -/
theorem one_lines {o a b : List Ln} : ∀ {l : List Pc}, (∀ x ∈ l, plines o a b x = cutl a x.ck.a x.ck.an) → l.flatMap (plines o a b) = (l.map (·.ck)).flatMap (fun c => cutl a c.a c.an)
  | [], _ => rfl
  | x :: r, h => by rw [List.flatMap_cons, List.map_cons, List.flatMap_cons, h x List.mem_cons_self, one_lines fun y hy => h y (List.mem_cons_of_mem _ hy)]
theorem one_piece {o a : List Ln} {p : List Pr} (hc : can p (idp o.length) o.length a.length o.length) (hp : Alike p o a) (hq : Alike (idp o.length) o o) {x : Pc} (h : x ∈ pieces o a o p (idp o.length)) :
    plines o a o x = cutl a x.ck.a x.ck.an ∧ x.sd ≠ 4 := by
  obtain ⟨h1, h2, -⟩ := pieces_mem h
  have e : chunks p (idp o.length) o.length a.length o.length = walk p (idp o.length) ((o.length : Int), (a.length : Int), (o.length : Int)) (0, 0, 0) := if_pos hc
  have hl : Le3 (0, 0, 0) ((o.length : Int), (a.length : Int), (o.length : Int)) := ⟨hc.1.1.1, hc.1.2.1.1, hc.1.2.2.1⟩
  have hrt := right_iff.1 hc.2.1
  have hw := walk_one hrt hl ⟨rfl, fun m hm _ => (sh_bound (e := ((o.length : Int), (a.length : Int), (o.length : Int))) hrt (idp_rt o.length) hm).2.1.1⟩
  have hh := hw.1 x.ck (by rw [← e]; exact h1)
  have hob : cutl o x.ck.b x.ck.bn = cutl o x.ck.o x.ck.on := by rw [hh.1, hh.2]
  have hs := h2
  unfold side at hs
  by_cases g1 : x.ck.st = true ∨ cutl a x.ck.a x.ck.an = cutl o x.ck.b x.ck.bn
  · rw [if_pos g1] at hs
    refine ⟨?_, by rw [hs]; decide⟩
    unfold plines
    rw [hs, if_neg (by decide), if_neg (by decide)]
    rcases g1 with g1 | g1
    · have := stable_same hc hp hq h1 g1
      exact this.2.trans this.1.symm
    · exact g1.symm
  · rw [if_neg g1] at hs
    have g2 : ¬ cutl a x.ck.a x.ck.an = cutl o x.ck.o x.ck.on := fun g => g1 (.inr (g.trans hob.symm))
    rw [if_neg g2, if_pos hob] at hs
    refine ⟨?_, by rw [hs]; decide⟩
    unfold plines
    rw [hs, if_pos rfl]
/-- IF ONE HAS CHANGED NOTHING, THE MERGE IS THE OTHER ONE, and it is clean. -/
theorem merge_one {o a : List Ln} {p : List Pr} (hc : can p (idp o.length) o.length a.length o.length) (hp : Alike p o a) (hq : Alike (idp o.length) o o) :
    (pieces o a o p (idp o.length)).flatMap (plines o a o) = a ∧ clean (pieces o a o p (idp o.length)) = true := by
  refine ⟨?_, List.all_eq_true.2 fun x hx => by have := (one_piece hc hp hq hx).2; simpa using this⟩
  rw [one_lines fun x hx => (one_piece hc hp hq hx).1]
  exact (right_tiles (b := o) (by rw [pieces_map ⟨hp.like, hq.like⟩]; exact chunks_right hc)).2.2.1
theorem idp_alike (o : List Ln) (n : Nat) : Alike (idp n) o o := fun z hz => by
  obtain ⟨i, -, rfl⟩ := idp_mem.1 hz
  rfl
end Go.Proofs.Ytkflhcfopejigaa.Mg

namespace Go.Proofs.Ytkflhcfopejigaa.Mg
set_option linter.unusedVariables false
set_option linter.unusedSimpArgs false
open Go.RowKit
open Mt (Pr fnd Rt right right_iff fnd_mem fnd_of)
open Ck

theorem pw_of_adj : ∀ {l : List Pr}, (∀ k (h : k + 1 < l.length), (l[k]'(by omega)).1 < l[k + 1].1 ∧ (l[k]'(by omega)).2 < l[k + 1].2) → l.Pairwise fun p q => p.1 < q.1 ∧ p.2 < q.2
  | [], _ => .nil
  | [x], _ => by simp
  | x :: y :: r, h => by
    have ih := pw_of_adj (l := y :: r) fun k hk => by
      have := h (k + 1) (by simpa using hk)
      simpa using this
    have h0 := h 0 (by simp)
    simp only [List.getElem_cons_zero, List.getElem_cons_succ] at h0
    refine List.pairwise_cons.2 ⟨fun z hz => ?_, ih⟩
    rcases List.mem_cons.1 hz with rfl | hz
    · exact h0
    · have := (List.pairwise_cons.1 ih).1 z hz
      omega
theorem mt_rt (xs ys : List Int) : Rt (M.pairs xs ys) xs.length ys.length := by
  have hg := M.pairs_good xs ys
  refine ⟨fun z hz => ?_, pw_of_adj hg.2⟩
  obtain ⟨k, hk, rfl⟩ := List.getElem_of_mem hz
  obtain ⟨p, q, e, -, -, hp, hq, -⟩ := hg.1 k hk
  rw [e]
  simp only
  omega
/-- The numbers of two texts' lines: the same number, the same line. -/
structure Nm (a b : List Ln) (xs ys : List Int) : Prop where
  l1 : xs.length = a.length
  l2 : ys.length = b.length
  same : ∀ i j (hi : i < xs.length) (hj : j < ys.length), xs[i] = ys[j] → a[i]? = b[j]?
theorem mt_alike {a b : List Ln} {xs ys : List Int} (h : Nm a b xs ys) : Alike (M.pairs xs ys) a b := fun z hz => by
  obtain ⟨k, hk, rfl⟩ := List.getElem_of_mem hz
  obtain ⟨p, q, e, -, -, hp, hq, e2⟩ := (M.pairs_good xs ys).1 k hk
  rw [e]
  exact h.same p q hp hq e2
theorem idp_at : ∀ (n i : Nat), i < n → (idp n)[i]? = some ((i : Int), (i : Int))
  | 0, i, h => by omega
  | n + 1, i, h => by
    rw [idp]
    by_cases e : i < n
    · rw [List.getElem?_append_left (by rw [idp_len]; exact e)]
      exact idp_at n i e
    · obtain rfl : i = n := by omega
      rw [List.getElem?_append_right (by rw [idp_len]; omega), idp_len, Nat.sub_self]; rfl
theorem rt_low {l : List Pr} {n m : Int} (h : Rt l n m) : ∀ i (hi : i < l.length), (i : Int) ≤ l[i].1 ∧ (i : Int) ≤ l[i].2
  | 0, hi => by have := h.all _ (List.getElem_mem hi); omega
  | i + 1, hi => by
    have ih := rt_low h i (by omega)
    have := List.pairwise_iff_getElem.1 h.up i (i + 1) (by omega) hi (by omega)
    omega
theorem rt_high {l : List Pr} {n : Nat} (h : Rt l n n) (hl : l.length = n) : ∀ (d i : Nat) (hi : i < l.length), i + d + 1 = n → l[i].1 ≤ i ∧ l[i].2 ≤ i
  | 0, i, hi, e => by have := h.all _ (List.getElem_mem hi); omega
  | d + 1, i, hi, e => by
    have ih := rt_high h hl d (i + 1) (by omega) (by omega)
    have := List.pairwise_iff_getElem.1 h.up i (i + 1) hi (by omega) (by omega)
    omega
theorem rt_full {l : List Pr} {n : Nat} (h : Rt l n n) (hl : l.length = n) : l = idp n := by
  refine List.ext_getElem? fun i => ?_
  by_cases hi : i < n
  · have h1 := rt_low h i (by omega)
    have h2 := rt_high h hl (n - i - 1) i (by omega) (by omega)
    rw [idp_at n i hi, List.getElem?_eq_getElem (by omega)]
    congr 1
    exact Prod.ext (by simp only; omega) (by simp only; omega)
  · rw [List.getElem?_eq_none (by omega), List.getElem?_eq_none (by rw [idp_len]; omega)]
theorem mt_self (xs : List Int) : M.pairs xs xs = idp xs.length := by
  refine rt_full (mt_rt xs xs) ?_
  have h1 := M.pairs_length xs xs
  have h2 := (M.ed_zero xs xs).2 rfl
  omega
/-! Both others the same. -/
theorem sh_self {p : List Pr} {n m : Int} (hp : Rt p n m) {t : Tr} (h : t ∈ sh p p) : t.2.1 = t.2.2 := by
  rw [sh_mem hp hp] at h
  have e1 := fnd_of hp.up h.1
  have e2 := fnd_of hp.up h.2
  rw [e1] at e2
  exact Option.some.inj e2
theorem walk_self {p : List Pr} {o a : Int} (hp : Rt p o a) {t : Tr} (hl : Le3 t (o, a, a)) (h0 : t.2.1 = t.2.2) : ∀ c ∈ walk p p (o, a, a) t, c.a = c.b ∧ c.an = c.bn := by
  refine walk_ind (e := (o, a, a)) (M := fun t l => t.2.1 = t.2.2 → ∀ c ∈ l, c.a = c.b ∧ c.an = c.bn) hp hp (fun _ c hc => by cases hc) (fun t r h1 h2 h3 h4 h5 h6 => ?_) _ t (Nat.le_refl _) hl h0
  by_cases hr : 0 < run p p t
  · rw [step_pos hr, beh_stab'] at h5
    rw [step_pos hr]
    intro c hc
    rcases List.mem_cons.1 hc with rfl | hc
    · exact ⟨h6, rfl⟩
    · exact h5 (by simp only [plus]; omega) c hc
  · have hz : run p p t = 0 := by omega
    rw [step_zero hz, beh_unst'] at h5
    rw [step_zero hz]
    have hx : ((nxt p p t).getD (o, a, a)).2.1 = ((nxt p p t).getD (o, a, a)).2.2 := by
      cases hn : nxt p p t with
      | none => rfl
      | some x => exact sh_self hp (nxt_mem hn).1
    intro c hc
    rcases List.mem_cons.1 hc with rfl | hc
    · exact ⟨h6, by simp only [unst]; omega⟩
    · exact h5 hx c hc
/-- If both are the same text, matched alike, the merge is that, and it is clean. -/
theorem merge_both {o a : List Ln} {p : List Pr} (hc : can p p o.length a.length a.length) (hp : Alike p o a) : (pieces o a a p p).flatMap (plines o a a) = a ∧ clean (pieces o a a p p) = true := by
  have e : chunks p p o.length a.length a.length = walk p p (o.length, a.length, a.length) (0, 0, 0) := if_pos hc
  have hl : Le3 (0, 0, 0) ((o.length : Int), (a.length : Int), (a.length : Int)) := ⟨hc.1.1.1, hc.1.2.1.1, hc.1.2.2.1⟩
  have hw := walk_self (right_iff.1 hc.2.1) hl rfl
  have h1 : ∀ x ∈ pieces o a a p p, x.sd = 1 ∧ plines o a a x = cutl a x.ck.a x.ck.an := fun x hx => by
    obtain ⟨g1, g2, -⟩ := pieces_mem hx
    obtain ⟨k1, k2⟩ := hw x.ck (by rw [← e]; exact g1)
    have hs : x.sd = 1 := by rw [g2, side, if_pos (.inr (by rw [k1, k2]))]
    refine ⟨hs, ?_⟩
    unfold plines
    rw [hs, if_neg (by decide), if_neg (by decide), k1, k2]
  refine ⟨?_, List.all_eq_true.2 fun x hx => by rw [(h1 x hx).1]; rfl⟩
  rw [one_lines fun x hx => (h1 x hx).2]
  exact (right_tiles (b := a) (by rw [pieces_map ⟨hp.like, hp.like⟩]; exact chunks_right hc)).2.2.1
theorem right_bare : ∀ {l : List Ln}, P.right l = true → ∀ i (hi : i + 1 < l.length), l[i].2 = false
  | [], _, i, hi => by simp at hi
  | [x], _, i, hi => by simp at hi
  | (t, b) :: y :: r, h, i, hi => by
    rw [P.right] at h
    simp only [List.isEmpty_cons, Bool.not_false, Bool.true_or, Bool.and_true, Bool.and_eq_true] at h
    cases i with
    | zero => simpa using h.1.2
    | succ i =>
      have := right_bare h.2 i (by simpa using hi)
      simpa using this
/-- IF ONE HAS CHANGED NOTHING, THE MERGE IS THE OTHER ONE: of texts that are right, line for line. -/
theorem bared_right {l : List Ln} (h : P.right l = true) : bared l = l := bared_id fun i hi => right_bare h i hi
end Go.Proofs.Ytkflhcfopejigaa.Mg

namespace Go.Proofs.Ytkflhcfopejigaa.Mg
set_option linter.unusedVariables false
set_option linter.unusedSimpArgs false
open Go.RowKit
open T
open V (grown_of IntsIn numCells numCells_snoc ints_own drawn_below)
open I (alloc1 own_at own_below)
open Mt (Pr fnd Rt right right_iff fnd_mem fnd_of)
open N (PrIn PrIn.below pr_own)
open Ck

theorem al_row : ∀ (l ks xs : List Ln) (ys : List Int), N.Al ks xs ys → N.Al (N.known ks l) (xs ++ l) (ys ++ N.row ks l)
  | [], ks, xs, ys, h => by simpa [N.known, N.row] using h
  | x :: r, ks, xs, ys, h => by
    have := al_row r (N.add ks x) _ _ (h.step x)
    have e1 : N.known ks (x :: r) = N.known (N.add ks x) r := rfl
    have e2 : N.row ks (x :: r) = (((N.add ks x).idxOf x : Nat) : Int) :: N.row (N.add ks x) r := rfl
    rw [e1, e2]
    simpa using this
/-- The rows of numbers are the lines' numbers, one number to a line. -/
theorem nm_rows (a b : List Ln) : Nm a b (N.row [] a) (N.row (N.known [] a) b) := by
  have h := al_row b _ _ _ (al_row a [] [] [] (N.Al.nil []))
  simp only [List.nil_append] at h
  have hl1 := N.row_length a []
  have hl2 := N.row_length b (N.known [] a)
  refine ⟨hl1, hl2, fun i j hi hj e => ?_⟩
  have hi' : i < (a ++ b).length := by simp; omega
  have hj' : a.length + j < (a ++ b).length := by simp; omega
  have k1 : i < (N.row [] a ++ N.row (N.known [] a) b).length := by simp; omega
  have k2 : a.length + j < (N.row [] a ++ N.row (N.known [] a) b).length := by simp; omega
  have h2 := (h.alike hi' hj' k1 k2).1 (by
    rw [List.getElem_append_left hi, List.getElem_append_right (by omega)]
    simp only [hl1, Nat.add_sub_cancel_left]
    exact e)
  rw [List.getElem_append_left (by omega), List.getElem_append_right (by omega)] at h2
  simp only [Nat.add_sub_cancel_left] at h2
  rw [List.getElem?_eq_getElem (by omega), List.getElem?_eq_getElem (by omega), h2]
theorem row_self (a : List Ln) : N.row (N.known [] a) a = N.row [] a := by
  have h := al_row a _ _ _ (al_row a [] [] [] (N.Al.nil []))
  simp only [List.nil_append] at h
  have hl1 := N.row_length a []
  have hl2 := N.row_length a (N.known [] a)
  refine List.ext_getElem (by omega) fun i h1 h2 => ?_
  have k1 : i < (N.row [] a ++ N.row (N.known [] a) a).length := by simp; omega
  have k2 : a.length + i < (N.row [] a ++ N.row (N.known [] a) a).length := by simp; omega
  have := (h.alike (i := i) (j := a.length + i) (by simp; omega) (by simp; omega) k1 k2).2 (by
    rw [List.getElem_append_left (by omega), List.getElem_append_right (by omega)]
    simp only [Nat.add_sub_cancel_left])
  rw [List.getElem_append_left h2, List.getElem_append_right (by omega)] at this
  simp only [hl1, Nat.add_sub_cancel_left] at this
  exact this.symm
def mt (a b : List Ln) : List Pr := M.pairs (N.row [] a) (N.row (N.known [] a) b)
theorem mt_right (a b : List Ln) : Rt (mt a b) a.length b.length := by
  have h := mt_rt (N.row [] a) (N.row (N.known [] a) b)
  rw [N.row_length, N.row_length] at h
  exact h
theorem mt_like (a b : List Ln) : Alike (mt a b) a b := mt_alike (nm_rows a b)
theorem mt_idp (a : List Ln) : mt a a = idp a.length := by
  unfold mt
  rw [row_self, mt_self, N.row_length]
theorem mt_len (a b : List Ln) : (mt a b).length ≤ a.length := by
  have h := mt_right a b
  by_cases e : 0 < (mt a b).length
  · have h1 := rt_low h ((mt a b).length - 1) (by omega)
    have h2 := h.all _ (List.getElem_mem (l := mt a b) (n := (mt a b).length - 1) (by omega))
    omega
  · omega
def MtEnd (w : World) (ps : List Pr) (e : Ending) (w' : World) : Prop := ∃ P cp, e = .returned (.slice P ps.length cp) ∧ PrIn w' P ps ∧ Below w.heap.size w w'

set_option maxRecDepth 100000 in
set_option maxHeartbeats 4000000 in
theorem pairs_any (A B : Option Addr) (a b : List Ln) (c c' : Nat) (w : World) (hA : LinesIn w A a) (hB : LinesIn w B b) (ha : a.length ≤ 60) (hb : b.length ≤ 60) (hca : a.length ≤ c) (hcb : b.length ≤ c') :
    Calls Try.prog 22 #[.slice A a.length c, .slice B b.length c'] w (MtEnd w (mt a b)) := by
  obtain ⟨W0, hW0⟩ : ∃ W : World, W = w.alloc (.cells #[.slice A a.length c, .slice B b.length c'] 22) := ⟨_, rfl⟩
  have HB0 := Lib.hid (show Below w.heap.size w W0 by rw [hW0]; exact alloc1 _ _)
  have HNA : Hid (Calls Try.prog 34 #[.slice (some ⟨w.heap.size, 0, none⟩) 2 2] W0 (N.NmEnd W0 [N.row [] a, N.row (N.known [] a) b])) := Lib.hid (by
    have hX := heap_alloc_new w (.cells #[.slice A a.length c, .slice B b.length c'] 22)
    rw [← hW0] at hX
    refine N.rnumbers_any (some ⟨w.heap.size, 0, none⟩) 2 [a, b] W0 (fun _ => ⟨w.heap.size, 0, rfl, L.blk_lt hX, fun j hj => ?_⟩) (by simp) (fun l hl => by simp only [List.mem_cons, List.not_mem_nil, or_false] at hl; rcases hl with rfl | rfl <;> assumption)
    match j, hj with
    | 0, _ => exact ⟨A, c, L.blk_cell hX 0, hA.below HB0.out, hca⟩
    | 1, _ => exact ⟨B, c', L.blk_cell hX 1, hB.below HB0.out, hcb⟩)
  have HLX : Hid ((N.row [] a).length = a.length ∧ (N.row (N.known [] a) b).length = b.length) := Lib.hid ⟨N.row_length _ _, N.row_length _ _⟩
  have HMT : Hid (mt a b = M.pairs (N.row [] a) (N.row (N.known [] a) b)) := Lib.hid rfl
  generalize mt a b = ps at *
  clear hA hB
  generalize N.row [] a = x at *
  generalize N.row (N.known [] a) b = y at *
  obtain ⟨la, hla⟩ : ∃ n, n = a.length := ⟨_, rfl⟩
  obtain ⟨lb, hlb⟩ : ∃ n, n = b.length := ⟨_, rfl⟩
  rw [← hla] at ha hca HLX hW0 ⊢
  rw [← hlb] at hb hcb HLX hW0 ⊢
  clear hla hlb
  go_enter Try.func22, Try.ntmps22
  go_wp2_with fail
  rw [← hW0]
  clear hW0
  with_reducible refine (HNA.out).mono ?_
  rintro e w1 ⟨NA, ncap, vs, rfl, hno, hrw, hb1⟩
  have hvl : vs.length = 2 := hrw.1
  match vs, hvl with
  | [v0, v1], _ =>
  have HO0 := Lib.hid (hrw.2 0 (by simp) (by simp))
  have HO1 := Lib.hid (hrw.2 1 (by simp) (by simp))
  simp only [List.getElem_cons_zero, List.getElem_cons_succ] at HO0 HO1
  obtain ⟨XA, xc, rfl, -, -⟩ := own_form HO0.out
  obtain ⟨YA, yc, rfl, -, -⟩ := own_form HO1.out
  obtain ⟨g, rfl, -, hg2, hgc⟩ := own_at hno (by simp)
  have c0 := hgc 0 _ rfl
  have c1 := hgc 1 _ rfl
  have HX1 := Lib.hid (ints_own HO0.out)
  have HY1 := Lib.hid (ints_own HO1.out)
  have HBW := Lib.hid (HB0.out.trans (hb1.mono HB0.out.size))
  have HST := Lib.hid (M.rpairs_any XA YA x y xc yc w1.drew (HX1.out.below ((Below.refl _ w1).drew)) (HY1.out.below ((Below.refl _ w1).drew)) (by rw [HLX.out.1]; omega) (by rw [HLX.out.2]; omega))
  clear hno hrw hgc hvl HO0 HO1 hb1
  go_wp2_with fail
  go_region_with ((go_at_call 35; refine (HST.out).mono ?_; rintro e w2 ⟨SA, sc, rfl, hso, hb2⟩; have HSO := Lib.hid hso; have HSB := Lib.hid hb2; clear hso hb2))
  all_goals
    go_wp2_with fail
    go_ret
    exact ⟨SA, sc, by rw [HMT.out]; rfl, by rw [HMT.out]; exact pr_own HSO.out, HBW.out.trans ((((Below.refl _ w1).drew).trans HSB.out).mono HBW.out.size)⟩
end Go.Proofs.Ytkflhcfopejigaa.Mg

namespace Go.Proofs.Ytkflhcfopejigaa.Mg
set_option linter.unusedVariables false
set_option linter.unusedSimpArgs false
open Go.RowKit
open T
open V (drawn_below)
open I (alloc1 own_below)
open Ck

set_option maxRecDepth 100000 in
set_option maxHeartbeats 4000000 in
theorem rfits_any (A : Option Addr) (c : Nat) (l : List Pc) (OA AA BA : Option Addr) (no na nb co ca cb : Nat) (w : World) (hA : PcIn w A l) (hl : l.length ≤ 1000000) (ho : no ≤ maxLen) (ha : na ≤ maxLen) (hb : nb ≤ maxLen) :
    Calls Try.prog 33 #[.slice A l.length c, .slice OA no co, .slice AA na ca, .slice BA nb cb] w fun e w' => e = .returned (.bool (fits l no na nb)) ∧ Below w.heap.size w w' := by
  obtain ⟨i0, hi0, hz0, hz1, hz2⟩ := info_parts infoCk
  have HA := Lib.hid hA
  have HCR := Lib.hid (c_rright (l.map (·.ck)) no na nb (by rw [List.length_map]; unfold maxLen; omega) ⟨by omega, by unfold maxLen at ho; omega⟩ ⟨by omega, by unfold maxLen at ha; omega⟩ ⟨by omega, by unfold maxLen at hb; omega⟩)
  have HBD := Lib.hid (fun (k : Nat) (hk : k < l.length) (h : ¬ (1 ≤ (l[k]'hk).sd ∧ (l[k]'hk).sd ≤ 4)) => sok_bad hk h no na nb)
  have HGD := Lib.hid (fun (h : sok l = true) => show fits l no na nb = cright (l.map (·.ck)) no na nb by unfold fits; unfold sok at h; rw [h, Bool.true_and])
  generalize fits l no na nb = fv at *
  generalize cright (l.map (·.ck)) no na nb = cv at *
  clear hA ho ha hb
  go_enter Try.func33, Try.ntmps33
  go_wp2_with fail
  go_loopg [9, 10] l.length (fun m v i wr => ∃ (k : Nat) (vc : Nat) (VA : Option Addr), k ≤ l.length ∧ i = .int .i64 (k : Int) ∧ v = .slice VA k vc ∧ l.length - k ≤ m ∧ wr.ownsRow w.heap.size 41 7 (.slice VA k vc) k (ckCells ((l.take k).map (·.ck))) ∧ Below w.heap.size w wr ∧ Hid (sok (l.take k) = true))
  case atStart => exact ⟨0, 0, some ⟨w.heap.size, 0, none⟩, Nat.zero_le _, rfl, rfl, by omega, World.ownsRow_made (size := 7) (e := 41) w #[] 0 (Nat.le_refl _) (by unfold maxLen; omega) rfl, alloc1 _ _, Lib.hid rfl⟩
  case round =>
    obtain ⟨k, vc, VA, hk, rfl, rfl, hm, hown, hbr, HF⟩ := hrel
    by_cases hlt : k < l.length
    · obtain ⟨bk, off, hAe, hbk, hI⟩ := HA.out (by omega)
      subst hAe
      obtain ⟨q0, q1, q2, q3, q4, q5, q6, q7⟩ := hI k hlt
      have g0 := (hbr.cell (p := ⟨bk, _, none⟩) hbk).trans q0
      have g1 := (hbr.cell (p := ⟨bk, _, none⟩) hbk).trans q1
      have g2 := (hbr.cell (p := ⟨bk, _, none⟩) hbk).trans q2
      have g3 := (hbr.cell (p := ⟨bk, _, none⟩) hbk).trans q3
      have g4 := (hbr.cell (p := ⟨bk, _, none⟩) hbk).trans q4
      have g5 := (hbr.cell (p := ⟨bk, _, none⟩) hbk).trans q5
      have g6 := (hbr.cell (p := ⟨bk, _, none⟩) hbk).trans q6
      have g7 := (hbr.cell (p := ⟨bk, _, none⟩) hbk).trans q7
      have HSK := Lib.hid (sok_take hlt)
      have HB1 := Lib.hid (HBD.out k hlt)
      have HTK : Hid ((l.take (k + 1)).map (·.ck) = (l.take k).map (·.ck) ++ [(l[k]'hlt).ck]) := Lib.hid (by rw [List.take_succ_eq_append_getElem hlt, List.map_append]; rfl)
      obtain ⟨sd, x0, x1, x2, x3, x4, x5, x6, hx⟩ : ∃ sd x0 x1 x2 x3 x4 x5 x6, l[k]'hlt = ⟨sd, x0, x1, x2, x3, x4, x5, x6⟩ := ⟨_, _, _, _, _, _, _, _, rfl⟩
      rw [hx] at g0 g1 g2 g3 g4 g5 g6 g7 HSK HB1 HTK
      simp only at g0 g1 g2 g3 g4 g5 g6 g7 HSK HB1 HTK
      have h0k : (0 : Int) ≤ (k : Int) := by omega
      have hki : (k : Int) < (l.length : Int) := by omega
      have HOR := Lib.hid hown
      have HBR := Lib.hid hbr
      have hsb := hbr.size
      clear hI q0 q1 q2 q3 q4 q5 q6 q7 hx hbk hown hbr
      by_cases hs : 1 ≤ sd ∧ sd ≤ 4
      · have n1 : ¬ sd < 1 := by omega
        have n2 : ¬ 4 < sd := by omega
        have HV := Lib.hid (show sok (l.take (k + 1)) = true by rw [HSK.out, HF.out, decide_eq_true hs]; rfl)
        clear HSK HB1 hs
        go_wp2_with (at_builtin; refine wpList_append_own _ rfl _ _ 52 rfl w.heap.size 41 i0 _ 7 56 Try.underlying52 hi0 hz0 hz1 hz2 rfl (by decide) _ k (ckCells ((l.take k).map (·.ck))) rfl (HOR.out.alloc _) ⟨_, 0, none⟩ 1 1 [.bool x0, .int .i64 x1, .int .i64 x2, .int .i64 x3, .int .i64 x4, .int .i64 x5, .int .i64 x6] rfl rfl (World.news_of_block (V.alloc_at _ (by first | rfl | simp))) (by intro u hu; simp at hu; rcases hu with rfl | rfl | rfl | rfl | rfl | rfl | rfl <;> rfl) (by unfold maxLen; omega) (by omega) (by first | omega | (simp; done) | (simp; omega)) ?_; intro v' w4 hown4 hg4 _)
        have hb4 := Lib.hid ((HBR.out.trans ((alloc1 _ _).mono hsb)).grown hg4 (by first | omega | (simp; omega)) (own_base HOR.out))
        have ho4 : w4.ownsRow w.heap.size 41 7 v' (k + 1) (ckCells ((l.take (k + 1)).map (·.ck))) := by rw [HTK.out, ckCells_snoc]; exact hown4
        obtain ⟨RA, rcap, rfl, -, -⟩ := own_form ho4
        have HO4 := Lib.hid ho4
        clear hown4 hg4 ho4
        go_wp2_with fail
        go_roundg (l.length - (k + 1))
        case rel => exact ⟨k + 1, rcap, RA, by omega, by go_num, rfl, Nat.le_refl _, HO4.out, hb4.out, HV⟩
        case measure => omega
      · have HV := Lib.hid (HB1.out hs)
        have n1 : sd < 1 ∨ (¬ sd < 1 ∧ 4 < sd) := by omega
        clear HSK HB1 hs
        rcases n1 with n1 | ⟨n1, n2⟩
        · go_wp2_with fail
          go_ret
          exact ⟨by rw [HV.out]; rfl, HBR.out⟩
        · go_wp2_with fail
          go_ret
          exact ⟨by rw [HV.out]; rfl, HBR.out⟩
    · obtain rfl : k = l.length := by omega
      rw [List.take_length] at hown HF
      have HV := Lib.hid (HGD.out HF.out)
      have hck := ck_own (l := l.map (·.ck)) (A := VA) (cap := vc) (w := wr) (base := w.heap.size) (by rw [List.length_map]; exact hown)
      have HC := Lib.hid (HCR.out.at vc hck)
      rw [List.length_map] at HC
      clear HF hown hck HCR
      go_wp2_with fail
      with_reducible refine HC.out.mono ?_
      rintro e w2 ⟨rfl, hb2⟩
      go_wp2_with fail
      go_ret
      exact ⟨by rw [HV.out]; rfl, hbr.trans (hb2.mono hbr.size)⟩
end Go.Proofs.Ytkflhcfopejigaa.Mg

namespace Go.Proofs.Ytkflhcfopejigaa.Mg
set_option linter.unusedVariables false
set_option linter.unusedSimpArgs false
open Go.RowKit
open T
open V (grown_of IntsIn numCells numCells_snoc ints_own drawn_below)
open I (alloc1 own_at own_below)

set_option maxRecDepth 100000 in
theorem mark_any (s : ByteArray) (w : World) : Calls Try.prog 57 #[.string s] w fun e w' => e = .returned (.slice (some ⟨w.heap.size, 0, none⟩) 1 1) ∧ LinesIn w' (some ⟨w.heap.size, 0, none⟩) [(s.data.toList, false)] ∧ Below w.heap.size w w' := by
  obtain ⟨W1, hW1⟩ : ∃ W : World, W = w.alloc (.cells #[.string s, .bool false] 51) := ⟨_, rfl⟩
  have hb1 : Below w.heap.size w W1 := by rw [hW1]; exact alloc1 _ _
  have hx1 : W1.heap[w.heap.size]? = some (.cells #[.string s, .bool false] 51 (0, 0)) := by rw [hW1]; exact heap_alloc_new w _
  go_enter Try.func57, Try.ntmps57
  go_wp2_with fail
  go_ret
  rw [← hW1]
  exact ⟨rfl, fun _ => ⟨_, 0, rfl, L.blk_lt hx1, fun j hj => by
    simp only [List.length_cons, List.length_nil, Nat.zero_add] at hj
    obtain rfl : j = 0 := by omega
    exact ⟨L.blk_cell hx1 0, L.blk_cell hx1 1⟩⟩, hb1⟩
set_option maxRecDepth 100000 in
set_option maxHeartbeats 2000000 in
theorem grow_any (n : Nat) (w : World) (h0 : 0 < n) (hn : n ≤ 1000000) :
    Calls Try.prog 61 #[.slice none 0 0, .int .i64 (n : Int)] w fun e w' => ∃ A cap, e = .returned (.slice A 0 cap) ∧ w'.ownsRow w.heap.size 51 2 (.slice A 0 cap) 0 [] ∧ Below w.heap.size w w' := by
  cases hi0 : Try.prog.info? 51 with
  | none => have h := infoLine; rw [hi0] at h; simp at h
  | some i0 =>
  have hi := infoLine
  rw [hi0] at hi
  simp only [Option.map_some, Option.some.injEq, Prod.mk.injEq] at hi
  obtain ⟨hz, hsz, hby⟩ := hi
  have hrz := Lib.run_append_nil_zeros w 22 3 22 51 i0 _ .i64 .i64 Try.underlying22 Try.underlying3 hi0 hz n h0 (by rw [hsz]; decide) (by omega) (by rw [hby]; omega)
  have hGn : n ≤ grownCap w n 0 51 := grownCap_ge w _ _ _
  have hGm := grownCap_le_maxLen w n 0 51 (by unfold maxLen; omega)
  have hown : (w.drew.alloc (.cells (Builtin.zeroCells (Value.cells (.agg #[.string ⟨#[]⟩, .bool false])) n ++ Builtin.zeroCells (Value.cells (.agg #[.string ⟨#[]⟩, .bool false])) (grownCap w n 0 51 - n)) 51)).ownsRow w.heap.size 51 2 (.slice (some ⟨w.heap.size, 0, none⟩) 0 (grownCap w n 0 51)) 0 [] := World.ownsRow_made (size := 2) (e := 51) (base := w.heap.size) w.drew (Builtin.zeroCells (Value.cells (.agg #[.string ⟨#[]⟩, .bool false])) n ++ Builtin.zeroCells (Value.cells (.agg #[.string ⟨#[]⟩, .bool false])) (grownCap w n 0 51 - n)) (grownCap w n 0 51) (by simp) hGm (by rw [Array.size_append, size_zeroCells, size_zeroCells]; show n * 2 + (_ - n) * 2 = _; omega)
  have hbw : Below w.heap.size w (w.drew.alloc (.cells (Builtin.zeroCells (Value.cells (.agg #[.string ⟨#[]⟩, .bool false])) n ++ Builtin.zeroCells (Value.cells (.agg #[.string ⟨#[]⟩, .bool false])) (grownCap w n 0 51 - n)) 51)) := (drawn_below w 1).alloc (by simp) _
  obtain ⟨W1, hW1⟩ : ∃ W : World, W = w.drew.alloc (.cells (Builtin.zeroCells (Value.cells (.agg #[.string ⟨#[]⟩, .bool false])) n ++ Builtin.zeroCells (Value.cells (.agg #[.string ⟨#[]⟩, .bool false])) (grownCap w n 0 51 - n)) 51) := ⟨_, rfl⟩
  rw [← hW1] at hown hbw
  have hrz' : (Builtin.append_ #[22, 3] 22 #[.slice none 0 0, .int .i64 (n : Int)]).run Try.prog w = .ok (.slice (some ⟨w.heap.size, 0, none⟩) n (grownCap w n 0 51)) W1 := by rw [hW1]; exact hrz
  have HO := Lib.hid hown
  have HB := Lib.hid hbw
  obtain ⟨G, hG⟩ : ∃ G, G = grownCap w n 0 51 := ⟨_, rfl⟩
  rw [← hG] at hrz' hGn HO hGm
  clear hrz hown hbw hW1 hG hz hsz hby hi0
  unfold maxLen at hGm
  have h1 : ¬ ((n : Int) < 0) := by omega
  have h2 : (0 : Int) < (n : Int) := by omega
  have h3 : wrap64 (n : Int) = (n : Int) := by unfold wrap64; omega
  have h4 : IntKind.i64.wrap (n : Int) = (n : Int) := by rw [IntKind.wrap_i64]; omega
  have h5 : IntKind.i64.wrap ((n : Int) - IntKind.i64.wrap (0 - 0)) = (n : Int) := by rw [IntKind.wrap_i64, IntKind.wrap_i64]; omega
  obtain ⟨g, hg⟩ : ∃ g, g = w.heap.size := ⟨_, rfl⟩
  rw [← hg] at hrz' HO HB ⊢
  clear hg
  go_enter Try.func61, Try.ntmps61
  go_wp2_with (at_builtin; refine Lib.wpList_append_run _ rfl _ _ _ _ rfl _ _ rfl rfl _ _ hrz' ?_)
  go_wp2_with fail
  go_ret
  exact ⟨_, _, rfl, HO.out, HB.out⟩
/-- Texts in a row of texts. -/
def LsZ (w : World) (A : Option Addr) (ls : List (List Ln)) : Prop :=
  0 < ls.length → ∃ bk off, A = some ⟨bk, off, none⟩ ∧ bk < w.heap.size ∧ ∀ j (hj : j < ls.length), ∃ B c, w.cell? ⟨bk, off + j, none⟩ = some (.slice B ls[j].length c) ∧ LinesIn w B ls[j] ∧ (B = none → c = 0)
theorem LsZ.below {w w' : World} {A : Option Addr} {ls : List (List Ln)} (h : LsZ w A ls) (hb : Below w.heap.size w w') : LsZ w' A ls := fun hp => by
  obtain ⟨bk, off, e, hlt, hl⟩ := h hp
  refine ⟨bk, off, e, Nat.lt_of_lt_of_le hlt hb.size, fun j hj => ?_⟩
  obtain ⟨B, c, h1, h2, h3⟩ := hl j hj
  exact ⟨B, c, (hb.cell (p := ⟨bk, off + j, none⟩) hlt).trans h1, h2.below hb, h3⟩
def fl (ls : List (List Ln)) (k : Nat) : List Ln := (ls.take k).flatten
theorem fl_all (ls : List (List Ln)) : fl ls ls.length = ls.flatten := by rw [fl, List.take_length]
theorem fl_zero (ls : List (List Ln)) : fl ls 0 = [] := rfl
theorem flat_take {ls : List (List Ln)} {k : Nat} (hk : k < ls.length) : fl ls (k + 1) = fl ls k ++ ls[k] := by
  rw [fl, fl, List.take_succ_eq_append_getElem hk, List.flatten_append]
  simp only [List.flatten_cons, List.flatten_nil, List.append_nil]
theorem flat_le {ls : List (List Ln)} (k : Nat) : (fl ls k).length ≤ ls.flatten.length := by
  have : ls.flatten = fl ls k ++ (ls.drop k).flatten := by rw [fl, ← List.flatten_append, List.take_append_drop]
  rw [this, List.length_append]; omega
set_option maxRecDepth 100000 in
set_option maxHeartbeats 4000000 in
theorem concat_any (A : Option Addr) (cap : Nat) (ls : List (List Ln)) (t : List Ln) (w : World) (hft : ls.flatten = t) (hA : LsZ w A ls) (hn : ls.length ≤ 1000) (h0 : 0 < t.length) (ht : t.length ≤ 100000) :
    Calls Try.prog 56 #[.slice A ls.length cap] w fun e w' => ∃ C cc, e = .returned (.slice C t.length cc) ∧ w'.ownsRow w.heap.size 51 2 (.slice C t.length cc) t.length (lineCells t) ∧ Below w.heap.size w w' := by
  have HA := Lib.hid hA
  have HLE := Lib.hid (fun k => Nat.le_trans (flat_le (ls := ls) k) (Nat.le_trans (Nat.le_of_eq (congrArg List.length hft)) ht))
  have HFA : Hid (fl ls ls.length = t) := Lib.hid (by rw [fl_all, hft])
  clear hA hft
  go_enter Try.func56, Try.ntmps56
  go_wp2_with fail
  go_loopg [3, 5, 11] ls.length (fun m z s i wr => ∃ k : Nat, k ≤ ls.length ∧ i = .int .i64 (k : Int) ∧ z = .int .i64 (((fl ls k).length : Nat) : Int) ∧ ls.length - k ≤ m ∧ Below w.heap.size w wr)
  case atStart => exact ⟨0, Nat.zero_le _, rfl, rfl, by omega, Below.refl _ _⟩
  case round =>
    obtain ⟨k, hk, rfl, rfl, hm, hbr⟩ := hrel
    by_cases hlt : k < ls.length
    · obtain ⟨bk, off, hAe, hbk, hI⟩ := (HA.out.below hbr) (by omega)
      subst hAe
      obtain ⟨B, c, q0, -, -⟩ := hI k hlt
      have HT := Lib.hid (flat_take hlt)
      have h1 := HLE.out (k + 1)
      rw [HT.out, List.length_append] at h1
      have h0k : (0 : Int) ≤ (k : Int) := by omega
      have hki : (k : Int) < (ls.length : Int) := by omega
      have HL1 : Hid ((fl ls (k + 1)).length = (fl ls k).length + (ls[k]'hlt).length) := Lib.hid (by rw [HT.out, List.length_append])
      obtain ⟨x, hx⟩ : ∃ x, x = (ls[k]'hlt).length := ⟨_, rfl⟩
      obtain ⟨y, hy⟩ : ∃ y, y = (fl ls k).length := ⟨_, rfl⟩
      rw [← hx] at q0 h1 HL1
      rw [← hy] at h1 HL1 ⊢
      have h2 : ¬ ((y : Int) + (x : Int) < 0) := by omega
      have hwr : IntKind.i64.wrap ((y : Int) + (x : Int)) = ((y : Int) + (x : Int)) := by rw [IntKind.wrap_i64]; omega
      have hwr2 : wrap64 ((y : Int) + (x : Int)) = ((y : Int) + (x : Int)) := by unfold wrap64; omega
      clear hx hy hI HT
      go_wp2_with fail
      go_roundg (ls.length - (k + 1))
      case rel => exact ⟨k + 1, by omega, by go_num, by rw [HL1.out, Int.natCast_add], Nat.le_refl _, hbr⟩
      case measure => omega
    · obtain rfl : k = ls.length := by omega
      rw [HFA.out]
      have HG := Lib.hid (grow_any t.length wr h0 (by omega))
      have HBR := Lib.hid hbr
      clear hbr
      go_wp2_with fail
      with_reducible refine HG.out.mono ?_
      rintro e w1 ⟨GA, gc, rfl, hg1, hb1⟩
      have HO1 := Lib.hid (V.own_base_le hg1 HBR.out.size)
      have HB1 := Lib.hid (HBR.out.trans (hb1.mono HBR.out.size))
      clear HG hg1 hb1
      go_wp2_with fail
      go_loopg [6, 8, 27] ls.length (fun m v s i wr => ∃ (k : Nat) (VA : Option Addr) (vc : Nat), k ≤ ls.length ∧ i = .int .i64 (k : Int) ∧ v = .slice VA (fl ls k).length vc ∧ ls.length - k ≤ m ∧ wr.ownsRow w.heap.size 51 2 (.slice VA (fl ls k).length vc) (fl ls k).length (lineCells (fl ls k)) ∧ Below w.heap.size w wr)
      case atStart => exact ⟨0, GA, gc, Nat.zero_le _, rfl, rfl, by omega, HO1.out, HB1.out⟩
      case round =>
        obtain ⟨k, VA, vc, hk2, rfl, rfl, hm2, hown, hbr⟩ := hrel
        by_cases hlt : k < ls.length
        · obtain ⟨bk, off, hAe, hbk, hI⟩ := (HA.out.below hbr) (by omega)
          subst hAe
          obtain ⟨B, c, q0, q1, q2⟩ := hI k hlt
          have HT := Lib.hid (flat_take hlt)
          have h1 := HLE.out (k + 1)
          rw [HT.out, List.length_append] at h1
          have h0k : (0 : Int) ≤ (k : Int) := by omega
          have hki : (k : Int) < (ls.length : Int) := by omega
          have HQ1 := Lib.hid q1
          have HQ2 := Lib.hid q2
          have HOW := Lib.hid hown
          have HBR := Lib.hid hbr
          have hsb := hbr.size
          obtain ⟨x, hx⟩ : ∃ x, x = ls[k]'hlt := ⟨_, rfl⟩
          obtain ⟨y, hy⟩ : ∃ y, y = (fl ls k) := ⟨_, rfl⟩
          rw [← hx] at q0 h1 HT HQ1
          rw [← hy] at h1 HT HOW ⊢
          clear hx hy hI hown hbr q1 q2
          go_wp2_with (at_builtin; refine wpList_append_lines rfl (.tmp 31) (.tmp 32) rfl w.heap.size _ y x rfl HOW.out B c rfl HQ1.out HQ2.out (by omega) hsb ?_; intro v1 w1 ho1 hg1 hat1)
          have HB2 := Lib.hid (HBR.out.grown hg1 hsb (own_base HOW.out))
          obtain ⟨RA, rcap, rfl, -, -⟩ := own_form ho1
          have HO2 := Lib.hid ho1
          clear ho1 hg1 hat1
          go_wp2_with fail
          go_roundg (ls.length - (k + 1))
          case rel => exact ⟨k + 1, RA, rcap, by omega, by go_num, by rw [HT.out], Nat.le_refl _, by rw [HT.out]; exact HO2.out, HB2.out⟩
          case measure => omega
        · obtain rfl : k = ls.length := by omega
          rw [HFA.out] at hown ⊢
          go_wp2_with fail
          go_ret
          exact ⟨VA, vc, rfl, hown, hbr⟩
end Go.Proofs.Ytkflhcfopejigaa.Mg
