/-
  The whole text of a script's hunks; few; what each law on hunks asks first (live).
  Patches, in plain words: the script that hunks make of a text, what is told of it line by line, and the hunks that go back.
  The hunks that go back, in plain words; how much hunks put in and take out.
  The contracts on hunks as the laws take them: one form each.
-/
import Derived.Test.YtigghcmbdnidnaaGpo
import Derived.Test.YtigghcmbdnidnaaGpk
import Derived.Test.YtigghcmbdnidnaaGpl
namespace Go.Proofs.Ytigghcmbdnidnaa.H
set_option linter.unusedVariables false
set_option linter.unusedSimpArgs false
open Go.RowKit
open T S
open V (grown_of)
open I (alloc1 own_at own_below)
open N (Ln)
open M (Lv)

theorem on_stn {a : List Ln} {c : Nat} {x : Hk} (hc : Cl c x) (ht : tl x.es ≤ 400) (h : On a x) : stn a x = true := by
  obtain ⟨q, h1, h2, R, h3⟩ := h
  have hk := hc.ck ht
  unfold stn
  rw [hk.2.2.2.1, h1, hc.o]
  refine decide_eq_true ⟨by omega, ?_⟩
  simp only [Int.toNat_natCast]
  rw [h3, List.take_left]
theorem wl_good {a : List Ln} : ∀ (hs : List Hk) (p : Nat), (∀ h ∈ hs, Good3 h.es) → Good3 (wl a p hs)
  | [], p, _, e, he => by simp only [wl, List.mem_singleton] at he; subst he; exact .inl rfl
  | h :: r, p, hh, e, he => by
    rw [wl] at he
    rcases List.mem_cons.1 he with rfl | he
    · exact .inl rfl
    · rcases List.mem_append.1 he with he | he
      · exact hh h (List.mem_cons_self ..) e he
      · exact wl_good r _ (fun z hz => hh z (List.mem_cons_of_mem _ hz)) e he
theorem wl_count (a : List Ln) : ∀ (hs : List Hk) (p : Nat), (wl a p hs).length = 1 + hs.length + (join hs).length
  | [], p => by simp [wl, join]
  | h :: r, p => by
    have := wl_count a r (h.oa + h.o).toNat
    rw [wl, List.length_cons, List.length_append, this, List.length_cons, show join (h :: r) = h.es ++ join r from rfl, List.length_append]
    omega
theorem join_len_tl : ∀ (hs : List Hk), (∀ h ∈ hs, Nf h.es) → (join hs).length ≤ tl (join hs)
  | [], _ => Nat.le_refl _
  | h :: r, hh => by
    have h1 := full_len (hh h (List.mem_cons_self ..))
    have h2 := join_len_tl r (fun z hz => hh z (List.mem_cons_of_mem _ hz))
    rw [show join (h :: r) = h.es ++ join r from rfl, List.length_append, tl_app]
    omega
/-- Whole of Build of a script is its normal form. -/
theorem whl_bld {es : List Ed} (c : Nat) (hk : ck es = 0) (hl : es.length ≤ 120) (ht : tl es ≤ 120) : whl (bld c (norm es)) (sd 3 es) = (norm es, 0) := by
  have h3 := (ck_ok hk).2.2
  obtain ⟨hn1, hn2, hn3, hn4⟩ := norm_ok hk
  have hnf := nf_norm h3
  have hcl := bld_cl (c := c) hnf
  have hs3 : sd 3 (norm es) = sd 3 es := (norm_sides hk).1
  have hb := bld_wl (c := c) (norm es) hnf
  rw [hs3] at hb
  have h0 := bld_ck (c := c) hnf (by omega)
  have hsl := sd_len 3 es
  have htj := bld_tl (c := c) (norm es)
  have hall : (bld c (norm es)).all (stn (sd 3 es)) = true := by
    rw [List.all_eq_true]
    intro x hx
    have h1 := tl_mem hx
    exact on_stn (hcl x hx) (by omega) (hb.2 x hx)
  have hg : Good3 (wl (sd 3 es) 0 (bld c (norm es))) := wl_good _ _ (fun h hm => (hcl h hm).nf.good)
  have hwf : flat (wl (sd 3 es) 0 (bld c (norm es))) = flat (norm es) := hb.1
  have hwt : tl (wl (sd 3 es) 0 (bld c (norm es))) ≤ 800 := by rw [tl_flat, hwf, ← tl_flat]; omega
  have hwl : (wl (sd 3 es) 0 (bld c (norm es))).length ≤ 800 := by
    have h1 := wl_count (sd 3 es) (bld c (norm es)) 0
    have h2 := join_len_tl (bld c (norm es)) (fun h hm => (hcl h hm).nf)
    have h4 := bld_many (c := c) (norm es)
    have h5 := full_len hnf
    omega
  have hck := ck_of hwl hwt hg
  have hnm : norm (wl (sd 3 es) 0 (bld c (norm es))) = norm es := by
    have e1 : ∀ X, Good3 X → flat X = flat (norm es) → norm X = norm (norm es) := fun X h1 h2 => by
      show grp (laid X) = grp (laid (norm es))
      rw [laid_flat h1, laid_flat hn3, h2]
    rw [e1 _ hg hwf, norm_norm hk]
  unfold whl
  rw [if_pos h0, if_neg (by omega), if_pos hall, hck]
  unfold nrm
  rw [if_pos hck, hnm]
def sm (es : List Ed) : Nat := (es.map fun e => min e.2.length 200).sum
theorem sm_take {es : List Ed} {k : Nat} (hk : k < es.length) : sm (es.take (k + 1)) = sm (es.take k) + min es[k].2.length 200 := by
  unfold sm
  rw [List.take_succ_eq_append_getElem hk, List.map_append, List.sum_append, List.map_cons, List.map_nil, List.sum_cons, List.sum_nil, Nat.add_zero]
theorem sm_le : ∀ (es : List Ed), sm es ≤ es.length * 200
  | [] => Nat.le_refl _
  | e :: r => by
    have := sm_le r
    rw [show sm (e :: r) = min e.2.length 200 + sm r by simp [sm], List.length_cons]; omega
theorem sm_tl : ∀ (es : List Ed), sm es ≤ 120 → tl es = sm es
  | [], _ => rfl
  | e :: r, h => by
    rw [show sm (e :: r) = min e.2.length 200 + sm r by simp [sm]] at h ⊢
    rw [show tl (e :: r) = e.2.length + tl r by simp [tl], sm_tl r (by omega)]; omega
def FwEnd (w : World) (es : List Ed) (e : Ending) (w' : World) : Prop := ∃ v : Bool, e = .returned (.bool v) ∧ (v = true → es.length ≤ 120 ∧ tl es ≤ 120) ∧ Below w.heap.size w w'
abbrev es9 : List Ed := [(1, [lnA, lnB]), (2, [lnC])]
abbrev hs9 : List Hk := [⟨1, 2, 1, 1, [(1, [lnB]), (2, [lnC])]⟩]
theorem nf9 : Nf es9 := by simp [Nfc, okp]
theorem norm9 : norm es9 = es9 := norm_nf nf9
theorem ck9 : ck es9 = 0 := ck_of (by simp) (by simp [tl]) (nf9.good)
theorem bld9 : bld 1 es9 = hs9 := by simp [bld, hg, putH, newH, lenO, lenN]
theorem build9 : build es9 1 = (hs9, 0) := by
  unfold build
  rw [if_pos ck9, if_neg (by omega), norm9, show (1 : Int).toNat = 1 from rfl, bld9]
theorem whole9 : whl hs9 [lnA, lnB, lnC] = (es9, 0) := by
  have := whl_bld 1 ck9 (by simp) (by simp [tl])
  rw [norm9, bld9] at this
  exact this
theorem check9 : hck hs9 = 0 := by
  have := bld_ck (c := 1) nf9 (by simp [tl])
  rwa [bld9] at this
theorem ok9 : HksOk hs9 := ⟨by simp [maxLen], fun h hm => by
  obtain rfl := List.mem_singleton.1 hm
  exact ⟨by simp [maxLen], fun e he => by simp at he; rcases he with rfl | rfl <;> simp [maxLen]⟩⟩
theorem three (w : World) (o0 o1 o2 : Obj) : ∃ W : World, W = ((w.alloc o0).alloc o1).alloc o2 ∧ W.heap[w.heap.size]? = some o0 ∧ W.heap[w.heap.size + 1]? = some o1 ∧ W.heap[w.heap.size + 1 + 1]? = some o2 ∧ Below w.heap.size w W := by
  have step : ∀ (V : World) (o : Obj) (k : Nat) (q : Obj), V.heap[k]? = some q → (V.alloc o).heap[k]? = some q := fun V o k q h => ((alloc1 V o).block k (Array.getElem?_eq_some_iff.1 h).1).trans h
  have new : ∀ (V : World) (o : Obj) (k : Nat), V.heap.size = k → (V.alloc o).heap[k]? = some o := fun V o k h => by subst h; exact heap_alloc_new V o
  refine ⟨_, rfl, ?_, ?_, ?_, ?_⟩
  · exact step _ _ _ _ (step _ _ _ _ (new _ _ _ rfl))
  · exact step _ _ _ _ (new _ _ _ (by simp))
  · exact new _ _ _ (by simp)
  · exact ((alloc1 w o0).alloc (by simp) _).alloc (by simp; omega) _
theorem lines_three {w : World} {g : Nat} {x y z : Ln} (h : w.heap[g]? = some (.cells #[.string ⟨x.1.toArray⟩, .bool x.2, .string ⟨y.1.toArray⟩, .bool y.2, .string ⟨z.1.toArray⟩, .bool z.2] 59 (0, 0))) : LinesIn w (some ⟨g, 0, none⟩) [x, y, z] := fun _ => ⟨g, 0, rfl, L.blk_lt h, fun j hj => by
  match j, hj with
  | 0, _ => exact ⟨L.blk_cell h 0, L.blk_cell h 1⟩
  | 1, _ => exact ⟨L.blk_cell h 2, L.blk_cell h 3⟩
  | 2, _ => exact ⟨L.blk_cell h 4, L.blk_cell h 5⟩⟩
end Go.Proofs.Ytigghcmbdnidnaa.H

namespace Go.Proofs.Ytigghcmbdnidnaa.Pa
open Go.RowKit
open T S H
open N (Ln)

/-- The hunks that go back. -/
def rv (h : Hk) : Hk := ⟨h.na, h.n, h.oa, h.o, inv h.es⟩
def rvs (hs : List Hk) : List Hk := hs.map rv
def rev (hs : List Hk) : List Hk × Int := if hck hs = 0 then (rvs hs, 0) else ([], hck hs)
/-- How many lines a script puts in, or takes out. -/
def wgt (d : Int) (es : List Ed) : Nat := (es.map fun e => if e.1 = d then e.2.length else 0).sum
/-- What is told of a script, line by line: what is done, and its places. -/
def tks : Nat → Nat → List Sl → List (Int × Nat × Nat)
  | _, _, [] => []
  | i, j, x :: r => (x.1, i, j) :: tks (if x.1 = 3 then i else i + 1) (if x.1 = 2 then j else j + 1) r
def prT (l : List (Int × Nat × Nat)) : List (Int × Int) := (l.filter fun z => z.1 = 1).map fun z => ((z.2.1 : Int), (z.2.2 : Int))
def goT (l : List (Int × Nat × Nat)) : List Int := (l.filter fun z => z.1 = 2).map fun z => (z.2.1 : Int)
def maT (l : List (Int × Nat × Nat)) : List Int := (l.filter fun z => z.1 = 3).map fun z => (z.2.2 : Int)
/-- The text that hunks make, and the script of all of it. -/
def mde (hs : List Hk) (a : List Ln) : List Ln × Int :=
  if (whl hs a).2 = 0 then (if 400 < (sd 2 (whl hs a).1).length then ([], 4) else if P.right (sd 2 (whl hs a).1) = true then (sd 2 (whl hs a).1, 0) else ([], 3)) else ([], (whl hs a).2)
def scr (hs : List Hk) (a : List Ln) : List Ed := if (mde hs a).2 = 0 then (whl hs a).1 else []
def tld (hs : List Hk) (a : List Ln) : List (Int × Nat × Nat) := tks 0 0 (flat (scr hs a))

/-! A whole text's script is of that text. -/
theorem rgt_is {h : Hk} (hr : rgt h = true) : (0 ≤ h.oa ∧ h.oa ≤ 400 ∧ 0 ≤ h.o ∧ h.o ≤ 400 ∧ 0 ≤ h.na ∧ h.na ≤ 400 ∧ 0 ≤ h.n ∧ h.n ≤ 400) ∧ ck h.es = 0 ∧ norm h.es = h.es ∧ chg h.es ≠ 0 ∧ h.o = ((sd 3 h.es).length : Int) ∧ h.n = ((sd 2 h.es).length : Int) := by
  have hk := rgt_ck hr
  unfold rgt sides at hr
  rw [if_pos hk] at hr
  simp only [Bool.and_eq_true, decide_eq_true_eq] at hr
  obtain ⟨h1, h2, h3, h4, h5⟩ := hr
  exact ⟨h1, h2, h3, h4, h5⟩
theorem wl_old {a : List Ln} : ∀ (hs : List Hk) (p : Nat) (y : Int), chain p y hs = true → (∀ h ∈ hs, stn a h = true) → sd 3 (wl a p hs) = a.drop p
  | [], p, y, _, _ => by rw [wl, sd_one, if_neg (by decide)]
  | h :: r, p, y, hc, hs => by
    rw [chain, Bool.and_eq_true, Bool.and_eq_true] at hc
    obtain ⟨⟨h1, h2⟩, h3⟩ := hc
    obtain ⟨hb, hk, -, -, ho, -⟩ := rgt_is h1
    have h4 := hs h (List.mem_cons_self ..)
    unfold stn sides at h4
    rw [if_pos hk] at h4
    have h5 := of_decide_eq_true h4
    have h52 : sd 3 h.es = (a.drop h.oa.toNat).take h.o.toNat := h5.2
    unfold flw at h2
    have h6 := of_decide_eq_true h2
    have ih := wl_old r (h.oa + h.o).toNat (h.na + h.n) (by rw [Int.toNat_of_nonneg (by omega)]; exact h3) (fun z hz => hs z (List.mem_cons_of_mem _ hz))
    rw [wl, show ((1, (a.drop p).take (h.oa.toNat - p)) :: (h.es ++ wl a (h.oa + h.o).toNat r)) = [(1, (a.drop p).take (h.oa.toNat - p))] ++ (h.es ++ wl a (h.oa + h.o).toNat r) from rfl, sd_app, sd_app, sd_one, if_neg (by decide), ih, h52]
    have e1 : a.drop p = (a.drop p).take (h.oa.toNat - p) ++ a.drop h.oa.toNat := by
      have := (List.take_append_drop (h.oa.toNat - p) (a.drop p)).symm
      rw [List.drop_drop, show p + (h.oa.toNat - p) = h.oa.toNat by omega] at this
      exact this
    have e2 : a.drop h.oa.toNat = (a.drop h.oa.toNat).take h.o.toNat ++ a.drop (h.oa + h.o).toNat := by
      have := (List.take_append_drop h.o.toNat (a.drop h.oa.toNat)).symm
      rw [List.drop_drop, show h.oa.toNat + h.o.toNat = (h.oa + h.o).toNat by omega] at this
      exact this
    rw [← e2, ← e1]
theorem whl_ok {hs : List Hk} {a : List Ln} (h : (whl hs a).2 = 0) : hck hs = 0 ∧ a.length ≤ 400 ∧ (∀ h ∈ hs, stn a h = true) ∧ ck (wl a 0 hs) = 0 ∧ (whl hs a).1 = norm (wl a 0 hs) := by
  unfold whl at h ⊢
  by_cases h1 : hck hs = 0
  · rw [if_pos h1] at h ⊢
    by_cases h2 : 400 < a.length
    · rw [if_pos h2] at h; cases h
    · rw [if_neg h2] at h ⊢
      by_cases h3 : hs.all (stn a) = true
      · rw [if_pos h3] at h ⊢
        refine ⟨h1, by omega, List.all_eq_true.1 h3, h, ?_⟩
        show nrm _ = _
        unfold nrm
        rw [if_pos h]
      · rw [if_neg h3] at h; cases h
  · rw [if_neg h1] at h; exact absurd h h1
/-- What is so of a whole text's script. -/
structure Wo (es : List Ed) (a : List Ln) : Prop where
  ck : ck es = 0
  old : sd 3 es = a
  nf : Nf es
  tl : tl es ≤ 800
  len : a.length ≤ 400
theorem whl_is {hs : List Hk} {a : List Ln} (h : (whl hs a).2 = 0) : Wo (whl hs a).1 a := by
  obtain ⟨h1, h2, h3, h4, h5⟩ := whl_ok h
  obtain ⟨k1, k2, k3, -⟩ := norm_ok h4
  have ho := wl_old hs 0 0 (hck_ok h1).2 h3
  rw [h5]
  exact ⟨k1, by rw [(norm_sides h4).1, ho, List.drop_zero], nf_norm (ck_ok h4).2.2, by have := (ck_ok h4).2.1; omega, h2⟩
theorem whl_good {hs : List Hk} {a : List Ln} (h : (whl hs a).2 = 0) : sd 2 (whl hs a).1 = sd 2 (wl a 0 hs) := by
  obtain ⟨h1, h2, h3, h4, h5⟩ := whl_ok h
  rw [h5, (norm_sides h4).2]

/-! What is told. -/
theorem tks_len : ∀ (F : List Sl) (i j : Nat), (tks i j F).length = F.length
  | [], _, _ => rfl
  | x :: r, i, j => by rw [tks, List.length_cons, tks_len r, List.length_cons]
theorem prT_len (l : List (Int × Nat × Nat)) : (prT l).length ≤ l.length := by unfold prT; rw [List.length_map]; exact List.length_filter_le _ _
theorem goT_len (l : List (Int × Nat × Nat)) : (goT l).length ≤ l.length := by unfold goT; rw [List.length_map]; exact List.length_filter_le _ _
theorem maT_len (l : List (Int × Nat × Nat)) : (maT l).length ≤ l.length := by unfold maT; rw [List.length_map]; exact List.length_filter_le _ _
theorem prT_cons (z : Int × Nat × Nat) (l) : prT (z :: l) = (if z.1 = 1 then [((z.2.1 : Int), (z.2.2 : Int))] else []) ++ prT l := by unfold prT; by_cases h : z.1 = 1 <;> simp [h]
theorem goT_cons (z : Int × Nat × Nat) (l) : goT (z :: l) = (if z.1 = 2 then [(z.2.1 : Int)] else []) ++ goT l := by unfold goT; by_cases h : z.1 = 2 <;> simp [h]
theorem maT_cons (z : Int × Nat × Nat) (l) : maT (z :: l) = (if z.1 = 3 then [(z.2.2 : Int)] else []) ++ maT l := by unfold maT; by_cases h : z.1 = 3 <;> simp [h]
theorem sdl_cons (b : Int) (x : Sl) (r : List Sl) : sdl b (x :: r) = (if x.1 = b then [] else [x.2]) ++ sdl b r := by unfold sdl; by_cases h : x.1 = b <;> simp [h]
theorem cnt_old : ∀ (F : List Sl) (i j k : Nat), GoodX F → ((prT (tks i j F)).map (·.1)).count (k : Int) + (goT (tks i j F)).count (k : Int) = if i ≤ k ∧ k < i + (sdl 3 F).length then 1 else 0
  | [], i, j, k, _ => by rw [if_neg (by simp [sdl])]; simp [tks, prT, goT]
  | x :: r, i, j, k, hg => by
    have ih := cnt_old r (if x.1 = 3 then i else i + 1) (if x.1 = 2 then j else j + 1) k (fun y hy => hg y (List.mem_cons_of_mem _ hy))
    rw [tks, prT_cons, goT_cons, sdl_cons]
    simp only [List.map_append, List.count_append, List.length_append]
    rcases hg x (List.mem_cons_self ..) with h | h | h
    · simp only [h, if_true, show ¬ (1 : Int) = 2 by decide, show ¬ (1 : Int) = 3 by decide, if_false] at ih ⊢
      by_cases hk : i = k
      · subst hk
        rw [if_neg (by omega)] at ih
        rw [if_pos (by simp; omega)]
        simp at ih ⊢; omega
      · have : (i : Int) ≠ (k : Int) := by omega
        have e : (i ≤ k ∧ k < i + (([x.2] : List Ln).length + (sdl 3 r).length)) ↔ (i + 1 ≤ k ∧ k < i + 1 + (sdl 3 r).length) := by simp; omega
        simp only [e]
        rw [← ih]
        simp [this]
    · simp only [h, if_true, show ¬ (2 : Int) = 1 by decide, show ¬ (2 : Int) = 3 by decide, if_false] at ih ⊢
      by_cases hk : i = k
      · subst hk
        rw [if_neg (by omega)] at ih
        rw [if_pos (by simp; omega)]
        simp at ih ⊢; omega
      · have : (i : Int) ≠ (k : Int) := by omega
        have e : (i ≤ k ∧ k < i + (([x.2] : List Ln).length + (sdl 3 r).length)) ↔ (i + 1 ≤ k ∧ k < i + 1 + (sdl 3 r).length) := by simp; omega
        simp only [e]
        rw [← ih]
        simp [this]
    · simp only [h, if_true, show ¬ (3 : Int) = 1 by decide, show ¬ (3 : Int) = 2 by decide, if_false] at ih ⊢
      simpa using ih
theorem cnt_new : ∀ (F : List Sl) (i j k : Nat), GoodX F → ((prT (tks i j F)).map (·.2)).count (k : Int) + (maT (tks i j F)).count (k : Int) = if j ≤ k ∧ k < j + (sdl 2 F).length then 1 else 0
  | [], i, j, k, _ => by rw [if_neg (by simp [sdl])]; simp [tks, prT, maT]
  | x :: r, i, j, k, hg => by
    have ih := cnt_new r (if x.1 = 3 then i else i + 1) (if x.1 = 2 then j else j + 1) k (fun y hy => hg y (List.mem_cons_of_mem _ hy))
    rw [tks, prT_cons, maT_cons, sdl_cons]
    simp only [List.map_append, List.count_append, List.length_append]
    rcases hg x (List.mem_cons_self ..) with h | h | h
    · simp only [h, if_true, show ¬ (1 : Int) = 2 by decide, show ¬ (1 : Int) = 3 by decide, if_false] at ih ⊢
      by_cases hk : j = k
      · subst hk
        rw [if_neg (by omega)] at ih
        rw [if_pos (by simp; omega)]
        simp at ih ⊢; omega
      · have : (j : Int) ≠ (k : Int) := by omega
        have e : (j ≤ k ∧ k < j + (([x.2] : List Ln).length + (sdl 2 r).length)) ↔ (j + 1 ≤ k ∧ k < j + 1 + (sdl 2 r).length) := by simp; omega
        simp only [e]
        rw [← ih]
        simp [this]
    · simp only [h, if_true, show ¬ (2 : Int) = 1 by decide, show ¬ (2 : Int) = 3 by decide, if_false] at ih ⊢
      simpa using ih
    · simp only [h, if_true, show ¬ (3 : Int) = 1 by decide, show ¬ (3 : Int) = 2 by decide, if_false] at ih ⊢
      by_cases hk : j = k
      · subst hk
        rw [if_neg (by omega)] at ih
        rw [if_pos (by simp; omega)]
        simp at ih ⊢; omega
      · have : (j : Int) ≠ (k : Int) := by omega
        have e : (j ≤ k ∧ k < j + (([x.2] : List Ln).length + (sdl 2 r).length)) ↔ (j + 1 ≤ k ∧ k < j + 1 + (sdl 2 r).length) := by simp; omega
        simp only [e]
        rw [← ih]
        simp [this]
theorem prT_at : ∀ (F : List Sl) (i j : Nat) (z : Int × Int), z ∈ prT (tks i j F) → ∃ (p q : Nat) (l : Ln), z = (((i + p : Nat) : Int), ((j + q : Nat) : Int)) ∧ (sdl 3 F)[p]? = some l ∧ (sdl 2 F)[q]? = some l
  | [], i, j, z, h => by simp [tks, prT] at h
  | x :: r, i, j, z, h => by
    rw [tks, prT_cons] at h
    rw [sdl_cons, sdl_cons]
    rcases List.mem_append.1 h with h | h
    · by_cases h1 : x.1 = 1
      · simp only [h1, if_true, List.mem_singleton] at h
        exact ⟨0, 0, x.2, by rw [h]; simp, by simp [h1], by simp [h1]⟩
      · simp [h1] at h
    · obtain ⟨p, q, l, e1, e2, e3⟩ := prT_at r _ _ z h
      by_cases h3 : x.1 = 3
      · have h2 : ¬ x.1 = 2 := by omega
        simp only [h3, if_true, show ¬ (3 : Int) = 2 by decide, if_false] at e1 ⊢
        exact ⟨p, q + 1, l, by rw [e1]; simp; omega, by simpa using e2, by simpa using e3⟩
      · by_cases h2 : x.1 = 2
        · simp only [h2, if_true, show ¬ (2 : Int) = 3 by decide, if_false] at e1 ⊢
          exact ⟨p + 1, q, l, by rw [e1]; simp; omega, by simpa using e2, by simpa using e3⟩
        · simp only [h2, h3, if_false] at e1 ⊢
          exact ⟨p + 1, q + 1, l, by rw [e1]; simp; omega, by simpa using e2, by simpa using e3⟩
/-- What the law asks of what stays, is gone, and is made. -/
structure Parts (a b : List Ln) (ps : List (Int × Int)) (gs ms : List Int) : Prop where
  same : ∀ z ∈ ps, ∃ (p q : Nat) (hp : p < a.length) (hq : q < b.length), z = ((p : Int), (q : Int)) ∧ a[p] = b[q]
  gone : ∀ g ∈ gs, ∃ p : Nat, g = (p : Int) ∧ p < a.length
  made : ∀ m ∈ ms, ∃ q : Nat, m = (q : Int) ∧ q < b.length
  old : ∀ k : Nat, k < a.length → (ps.map (·.1)).count (k : Int) + gs.count (k : Int) = 1
  now : ∀ k : Nat, k < b.length → (ps.map (·.2)).count (k : Int) + ms.count (k : Int) = 1
theorem parts_of {F : List Sl} (hg : GoodX F) : Parts (sdl 3 F) (sdl 2 F) (prT (tks 0 0 F)) (goT (tks 0 0 F)) (maT (tks 0 0 F)) := by
  refine ⟨fun z hz => ?_, fun g hm => ?_, fun m hm => ?_, fun k hk => ?_, fun k hk => ?_⟩
  · obtain ⟨p, q, l, e1, e2, e3⟩ := prT_at F 0 0 z hz
    obtain ⟨hp, e2⟩ := List.getElem?_eq_some_iff.1 e2
    obtain ⟨hq, e3⟩ := List.getElem?_eq_some_iff.1 e3
    exact ⟨p, q, hp, hq, by rw [e1]; simp, by rw [e2, e3]⟩
  · have h1 := hm
    unfold goT at hm
    obtain ⟨z, -, rfl⟩ := List.mem_map.1 hm
    have h2 := cnt_old F 0 0 z.2.1 hg
    have h3 := List.count_pos_iff.2 h1
    by_cases h : 0 ≤ z.2.1 ∧ z.2.1 < 0 + (sdl 3 F).length
    · exact ⟨_, rfl, by omega⟩
    · rw [if_neg h] at h2; omega
  · have h1 := hm
    unfold maT at hm
    obtain ⟨z, -, rfl⟩ := List.mem_map.1 hm
    have h2 := cnt_new F 0 0 z.2.2 hg
    have h3 := List.count_pos_iff.2 h1
    by_cases h : 0 ≤ z.2.2 ∧ z.2.2 < 0 + (sdl 2 F).length
    · exact ⟨_, rfl, by omega⟩
    · rw [if_neg h] at h2; omega
  · rw [cnt_old F 0 0 k hg, if_pos (by omega)]
  · rw [cnt_new F 0 0 k hg, if_pos (by omega)]
theorem mde_ok {hs : List Hk} {a : List Ln} (h : (mde hs a).2 = 0) : (whl hs a).2 = 0 ∧ (mde hs a).1 = sd 2 (whl hs a).1 ∧ (mde hs a).1.length ≤ 400 ∧ P.right (mde hs a).1 = true ∧ scr hs a = (whl hs a).1 := by
  have hs' : scr hs a = (whl hs a).1 := by unfold scr; rw [if_pos h]
  unfold mde at h ⊢
  by_cases h1 : (whl hs a).2 = 0
  · rw [if_pos h1] at h ⊢
    by_cases h2 : 400 < (sd 2 (whl hs a).1).length
    · rw [if_pos h2] at h; cases h
    · rw [if_neg h2] at h ⊢
      by_cases h3 : P.right (sd 2 (whl hs a).1) = true
      · rw [if_pos h3]; exact ⟨h1, rfl, by simp only; omega, h3, hs'⟩
      · rw [if_neg h3] at h; cases h
  · rw [if_neg h1] at h; exact absurd h h1
theorem mde_bad {hs : List Hk} {a : List Ln} (h : (mde hs a).2 ≠ 0) : (mde hs a).1 = [] ∧ scr hs a = [] ∧ tld hs a = [] := by
  have hs' : scr hs a = [] := by unfold scr; rw [if_neg h]
  refine ⟨?_, hs', by unfold tld; rw [hs']; rfl⟩
  unfold mde at h ⊢
  by_cases h1 : (whl hs a).2 = 0
  · rw [if_pos h1] at h ⊢
    by_cases h2 : 400 < (sd 2 (whl hs a).1).length
    · rw [if_pos h2]
    · rw [if_neg h2] at h ⊢
      by_cases h3 : P.right (sd 2 (whl hs a).1) = true
      · rw [if_pos h3] at h; exact absurd rfl h
      · rw [if_neg h3]
  · rw [if_neg h1]
theorem mde_parts {hs : List Hk} {a : List Ln} (h : (mde hs a).2 = 0) : Parts a (mde hs a).1 (prT (tld hs a)) (goT (tld hs a)) (maT (tld hs a)) := by
  obtain ⟨h1, h2, -, -, h3⟩ := mde_ok h
  have hw := whl_is h1
  have := parts_of (good_flat (ck_ok hw.ck).2.2)
  rw [← sd_flat, ← sd_flat, hw.old, ← h2, ← h3] at this
  exact this
end Go.Proofs.Ytigghcmbdnidnaa.Pa

namespace Go.Proofs.Ytigghcmbdnidnaa.Pa
open Go.RowKit
open T S H
open N (Ln)

theorem ck_inv {es : List Ed} (hk : ck es = 0) : ck (inv es) = 0 ∧ inv es = norm (es.map iv) ∧ tl (inv es) = tl es ∧ Nf (inv es) ∧ sd 3 (inv es) = sd 2 es ∧ sd 2 (inv es) = sd 3 es ∧ chgN (inv es) = chgN es := by
  have h1 : ck (es.map iv) = 0 := (ck_iv es).trans hk
  have h2 : inv es = norm (es.map iv) := by unfold inv; rw [if_pos hk]
  have h3 := (ck_ok hk).2.2
  obtain ⟨k1, k2, k3, -⟩ := norm_ok h1
  have hs := norm_sides h1
  have hi := iv_sides h3
  rw [h2]
  exact ⟨k1, rfl, by rw [k2, tl_iv], nf_norm (good_iv h3), hs.1.trans hi.1, hs.2.trans hi.2, (norm_chg h1).trans (iv_chg h3)⟩
theorem inv_back {es : List Ed} (hk : ck es = 0) (hn : norm es = es) : inv (inv es) = es := by
  obtain ⟨h1, h2, -⟩ := ck_inv hk
  rw [show inv (inv es) = norm ((inv es).map iv) by unfold inv; rw [if_pos (by unfold inv at h1; exact h1)], h2, inv_inv hk, hn]
theorem rgt_tl {h : Hk} (hr : rgt h = true) : tl h.es ≤ 800 := (ck_ok (rgt_ck hr)).2.1
theorem rv_rgt {h : Hk} (hr : rgt h = true) : rgt (rv h) = true := by
  obtain ⟨hb, hk, hn, hc, ho, hnn⟩ := rgt_is hr
  obtain ⟨i1, i2, i3, i4, i5, i6, i7⟩ := ck_inv hk
  have ht := rgt_tl hr
  unfold rgt rv sides
  simp only
  rw [if_pos i1]
  simp only [Bool.and_eq_true, decide_eq_true_eq]
  refine ⟨by omega, i1, norm_nf i4, ?_, by rw [i5]; exact hnn, by rw [i6]; exact ho⟩
  rw [chg_small (by omega)] at hc ⊢
  omega
theorem rv_rv {h : Hk} (hr : rgt h = true) : rv (rv h) = h := by
  obtain ⟨hb, hk, hn, -⟩ := rgt_is hr
  unfold rv
  simp only
  rw [inv_back hk hn]
theorem rvs_chain : ∀ (hs : List Hk) (x y : Int), chain x y hs = true → chain y x (rvs hs) = true
  | [], _, _, _ => rfl
  | h :: r, x, y, hc => by
    rw [chain, Bool.and_eq_true, Bool.and_eq_true] at hc
    obtain ⟨⟨h1, h2⟩, h3⟩ := hc
    have ih := rvs_chain r _ _ h3
    unfold flw at h2
    have h6 := of_decide_eq_true h2
    show chain y x (rv h :: rvs r) = true
    rw [chain, rv_rgt h1, Bool.true_and, Bool.and_eq_true]
    refine ⟨?_, ih⟩
    unfold flw rv
    simp only
    exact decide_eq_true ⟨by omega, by omega⟩
theorem rvs_len (hs : List Hk) : (rvs hs).length = hs.length := by simp [rvs]
theorem rvs_ck {hs : List Hk} (h : hck hs = 0) : hck (rvs hs) = 0 := by
  obtain ⟨h1, h2⟩ := hck_ok h
  have hm := chain_mem (rvs_chain hs 0 0 h2)
  unfold hck
  rw [if_neg, if_pos (rvs_chain hs 0 0 h2)]
  rintro (h3 | h3)
  · rw [rvs_len] at h3; omega
  · obtain ⟨x, hx, h4⟩ := List.any_eq_true.1 h3
    have := rgt_ck (hm x hx)
    rw [this] at h4; simp at h4
theorem rvs_rvs {hs : List Hk} (h : hck hs = 0) : rvs (rvs hs) = hs := by
  have hm := chain_mem (hck_ok h).2
  unfold rvs
  rw [List.map_map]
  have : hs.map (rv ∘ rv) = hs.map id := List.map_congr_left fun x hx => rv_rv (hm x hx)
  rw [this, List.map_id]
theorem rev_rev {hs : List Hk} (h : hck hs = 0) : rev hs = (rvs hs, 0) ∧ rev (rvs hs) = (hs, 0) := by
  unfold rev
  rw [if_pos h, if_pos (rvs_ck h), rvs_rvs h]
  exact ⟨rfl, rfl⟩
/-! What hunks make, the hunks that go back take back. -/
theorem wl_back {a b : List Ln} : ∀ (hs : List Hk) (p q : Nat), chain p q hs = true → (∀ h ∈ hs, stn a h = true) → b.drop q = sd 2 (wl a p hs) → q ≤ b.length → (∀ h ∈ rvs hs, stn b h = true) ∧ sd 2 (wl b q (rvs hs)) = a.drop p
  | [], p, q, _, _, hb, _ => by
    refine ⟨fun h hm => by simp [rvs] at hm, ?_⟩
    rw [wl, sd_one, if_neg (by decide)] at hb
    show sd 2 (wl b q []) = _
    rw [wl, sd_one, if_neg (by decide), hb]
  | h :: r, p, q, hc, hs, hb, hqb => by
    rw [chain, Bool.and_eq_true, Bool.and_eq_true] at hc
    obtain ⟨⟨h1, h2⟩, h3⟩ := hc
    obtain ⟨hbd, hk, -, -, ho, hnn⟩ := rgt_is h1
    obtain ⟨i1, -, -, -, i5, i6, -⟩ := ck_inv hk
    have h4 := hs h (List.mem_cons_self ..)
    unfold stn sides at h4
    rw [if_pos hk] at h4
    have h5 := of_decide_eq_true h4
    have h52 : sd 3 h.es = (a.drop h.oa.toNat).take h.o.toNat := h5.2
    unfold flw at h2
    have h6 := of_decide_eq_true h2
    rw [wl, show ((1, (a.drop p).take (h.oa.toNat - p)) :: (h.es ++ wl a (h.oa + h.o).toNat r)) = [(1, (a.drop p).take (h.oa.toNat - p))] ++ (h.es ++ wl a (h.oa + h.o).toNat r) from rfl, sd_app, sd_app, sd_one, if_neg (by decide)] at hb
    have l1 : ((a.drop p).take (h.oa.toNat - p)).length = h.na.toNat - q := by rw [List.length_take, List.length_drop]; omega
    have e1 : b.drop h.na.toNat = sd 2 h.es ++ sd 2 (wl a (h.oa + h.o).toNat r) := by
      have := congrArg (List.drop (h.na.toNat - q)) hb
      rw [List.drop_drop, show q + (h.na.toNat - q) = h.na.toNat by omega, List.drop_left' l1] at this
      exact this
    have e0 : (b.drop q).take (h.na.toNat - q) = (a.drop p).take (h.oa.toNat - p) := by
      rw [hb, List.take_left' l1]
    have l2 : (sd 2 h.es).length = h.n.toNat := by omega
    have e2 : b.drop (h.na + h.n).toNat = sd 2 (wl a (h.oa + h.o).toNat r) := by
      have := congrArg (List.drop h.n.toNat) e1
      rw [List.drop_drop, show h.na.toNat + h.n.toNat = (h.na + h.n).toNat by omega, List.drop_left' l2] at this
      exact this
    have e3 : (b.drop h.na.toNat).take h.n.toNat = sd 2 h.es := by
      rw [e1, List.take_left' l2]
    have hle : (h.na + h.n).toNat ≤ b.length := by
      have hl := congrArg List.length hb
      have hl2 := congrArg List.length e1
      rw [List.length_append, l1, List.length_drop] at hl
      rw [List.length_append, l2, List.length_drop] at hl2
      rw [List.length_append] at hl
      omega
    obtain ⟨j1, j2⟩ := wl_back (a := a) (b := b) r (h.oa + h.o).toNat (h.na + h.n).toNat (by rw [Int.toNat_of_nonneg (by omega), Int.toNat_of_nonneg (by omega)]; exact h3) (fun z hz => hs z (List.mem_cons_of_mem _ hz)) e2 hle
    refine ⟨fun z hz => ?_, ?_⟩
    · rcases List.mem_cons.1 hz with rfl | hz
      · unfold stn sides rv
        simp only
        rw [if_pos i1]
        simp only [i5]
        exact decide_eq_true ⟨by omega, e3.symm⟩
      · exact j1 z hz
    · show sd 2 (wl b q (rv h :: rvs r)) = _
      rw [wl, show ((1, (b.drop q).take ((rv h).oa.toNat - q)) :: ((rv h).es ++ wl b ((rv h).oa + (rv h).o).toNat (rvs r))) = [(1, (b.drop q).take (h.na.toNat - q))] ++ (inv h.es ++ wl b (h.na + h.n).toNat (rvs r)) from rfl, sd_app, sd_app, sd_one, if_neg (by decide), i6, j2, e0, h52]
      have f2 : (a.drop h.oa.toNat).take h.o.toNat ++ a.drop (h.oa + h.o).toNat = a.drop h.oa.toNat := by
        have := List.take_append_drop h.o.toNat (a.drop h.oa.toNat)
        rw [List.drop_drop, show h.oa.toNat + h.o.toNat = (h.oa + h.o).toNat by omega] at this
        exact this
      have f1 : (a.drop p).take (h.oa.toNat - p) ++ a.drop h.oa.toNat = a.drop p := by
        have := List.take_append_drop (h.oa.toNat - p) (a.drop p)
        rw [List.drop_drop, show p + (h.oa.toNat - p) = h.oa.toNat by omega] at this
        exact this
      rw [f2, f1]
theorem whl_back {hs : List Hk} {a b : List Ln} (h : (whl hs a).2 = 0) (hb : b = sd 2 (whl hs a).1) (hl : b.length ≤ 400) (hck : S.ck (wl b 0 (rvs hs)) = 0) : (whl (rvs hs) b).2 = 0 ∧ sd 2 (whl (rvs hs) b).1 = a := by
  obtain ⟨h1, h2, h3, h4, h5⟩ := whl_ok h
  have hg := whl_good h
  obtain ⟨j1, j2⟩ := wl_back (a := a) (b := b) hs 0 0 (hck_ok h1).2 h3 (by rw [List.drop_zero, hb, hg]) (Nat.zero_le _)
  have hw : whl (rvs hs) b = (nrm (wl b 0 (rvs hs)), S.ck (wl b 0 (rvs hs))) := by
    unfold whl
    rw [if_pos (rvs_ck h1), if_neg (by omega), if_pos (List.all_eq_true.2 j1)]
  refine ⟨by rw [hw]; exact hck, ?_⟩
  rw [hw]
  show sd 2 (nrm _) = _
  unfold nrm
  rw [if_pos hck, (norm_sides hck).2, j2, List.drop_zero]

/-! How much. -/
theorem wgt_nil (d : Int) : wgt d [] = 0 := rfl
theorem wgt_cons (d : Int) (e : Ed) (r : List Ed) : wgt d (e :: r) = (if e.1 = d then e.2.length else 0) + wgt d r := by simp [wgt]
theorem wgt_app (d : Int) (a b : List Ed) : wgt d (a ++ b) = wgt d a + wgt d b := by simp [wgt, List.sum_append]
theorem wgt_put (d s : Int) (l : List Ln) (h : Hk) : wgt d (putH s l h).es = wgt d h.es + if s = d then l.length else 0 := by
  unfold putH
  by_cases e : l = []
  · subst e; simp
  · rw [if_neg e, wgt_app, wgt_cons]; simp [wgt]
theorem wgt_le (d : Int) (es : List Ed) : wgt d es ≤ tl es := by
  induction es with
  | nil => simp [wgt]
  | cons e r ih => rw [wgt_cons, tl_cons]; split <;> omega
theorem flt_tag (d s : Int) : ∀ l : List Ln, ((tag s l).filter fun x => x.1 = d).length = if s = d then l.length else 0
  | [] => by simp [tag]
  | x :: r => by
    have ih := flt_tag d s r
    rw [tag_cons, List.filter_cons]
    by_cases h : s = d
    · rw [if_pos h] at ih ⊢
      rw [if_pos (by simpa using h), List.length_cons, ih, List.length_cons]
    · rw [if_neg h] at ih ⊢
      rw [if_neg (by simpa using h), ih]
theorem wgt_flat (d : Int) (es : List Ed) : wgt d es = ((flat es).filter fun x => x.1 = d).length := by
  induction es with
  | nil => rfl
  | cons e r ih =>
    rw [wgt_cons, flat_cons, List.filter_append, List.length_append, ih, flt_tag]
theorem hg_wgt {c : Nat} {d : Int} (hd : d ≠ 1) : ∀ (r : List Ed) (a b : Nat) (h : Hk), wgt d (join (hg c a b h r)) = wgt d h.es + wgt d r
  | [], a, b, h => by simp [hg, join, wgt]
  | e :: r, a, b, h => by
    rw [hg, wgt_cons]
    have h1 : ¬ (1 : Int) = d := fun q => hd q.symm
    by_cases hs : e.1 = 1
    · rw [if_pos hs, if_neg (show ¬ e.1 = d by rw [hs]; exact h1), Nat.zero_add]
      by_cases hr : r = []
      · rw [if_pos hr, hr]
        simp only [join, List.flatMap_cons, List.flatMap_nil, List.append_nil]
        rw [wgt_put, if_neg h1, wgt_nil]
      · rw [if_neg hr]
        by_cases hl : e.2.length ≤ 2 * c
        · rw [if_pos hl, hg_wgt hd r, wgt_put, if_neg h1, Nat.add_zero]
        · rw [if_neg hl, flat_join_cons, wgt_app, hg_wgt hd r, wgt_put, wgt_put, if_neg h1, if_neg h1]
          show wgt d h.es + 0 + (wgt d [] + 0 + wgt d r) = _
          rw [wgt_nil]; omega
    · rw [if_neg hs, hg_wgt hd r, wgt_put]; omega
theorem bld_wgt {c : Nat} {d : Int} (hd : d ≠ 1) (es : List Ed) : wgt d (join (bld c es)) = wgt d es := by
  cases es with
  | nil => rfl
  | cons e r =>
    have h1 : ¬ (1 : Int) = d := fun q => hd q.symm
    rw [bld, wgt_cons]
    by_cases hs : e.1 = 1
    · rw [if_pos hs, if_neg (show ¬ e.1 = d by rw [hs]; exact h1), Nat.zero_add]
      by_cases hr : r = []
      · rw [if_pos hr, hr]; rfl
      · rw [if_neg hr, hg_wgt hd, wgt_put, if_neg h1]
        show wgt d [] + 0 + wgt d r = _
        rw [wgt_nil]; omega
    · rw [if_neg hs, hg_wgt hd, wgt_put]
      show wgt d [] + _ + wgt d r = _
      rw [wgt_nil]; omega
/-- Both sides differ by what is put in, and taken out. -/
theorem wgt_sides {es : List Ed} (h : Good3 es) : (sd 2 es).length + wgt 2 es = (sd 3 es).length + wgt 3 es := by
  induction es with
  | nil => rfl
  | cons e r ih =>
    have ih := ih (fun x hx => h x (List.mem_cons_of_mem _ hx))
    rw [show e :: r = [e] ++ r from rfl, sd_app, sd_app, wgt_app, wgt_app]
    obtain ⟨s, l⟩ := e
    rw [sd_one, sd_one, wgt_cons, wgt_cons, wgt_nil, wgt_nil, List.length_append, List.length_append]
    rcases h (s, l) (List.mem_cons_self ..) with q | q | q
    all_goals
      simp only at q
      subst q
      simp
      omega
theorem wgt_inv {es : List Ed} (hk : ck es = 0) : wgt 2 (inv es) = wgt 3 es ∧ wgt 3 (inv es) = wgt 2 es := by
  obtain ⟨i1, i2, i3, i4, i5, i6, i7⟩ := ck_inv hk
  have h1 := wgt_sides (ck_ok hk).2.2
  have h2 := wgt_sides i4.good
  have h3 : ∀ {es : List Ed}, Good3 es → wgt 2 es + wgt 3 es = chgN es := fun {es} h => by
    induction es with
    | nil => rfl
    | cons e r ih =>
      have ih := ih (fun x hx => h x (List.mem_cons_of_mem _ hx))
      rw [wgt_cons, wgt_cons, chgN_cons, ← ih]
      rcases h e (List.mem_cons_self ..) with q | q | q <;> simp [q] <;> omega
  have h4 := h3 (ck_ok hk).2.2
  have h5 := h3 i4.good
  rw [i5, i6] at h2
  omega
theorem wgt_rvs : ∀ {hs : List Hk}, (∀ h ∈ hs, rgt h = true) → wgt 2 (join (rvs hs)) = wgt 3 (join hs) ∧ wgt 3 (join (rvs hs)) = wgt 2 (join hs)
  | [], _ => ⟨rfl, rfl⟩
  | h :: r, hh => by
    have ih := wgt_rvs (hs := r) (fun x hx => hh x (List.mem_cons_of_mem _ hx))
    have h1 := wgt_inv (rgt_ck (hh h (List.mem_cons_self ..)))
    show wgt 2 (join (rv h :: rvs r)) = _ ∧ wgt 3 (join (rv h :: rvs r)) = _
    rw [flat_join_cons, flat_join_cons, wgt_app, wgt_app, wgt_app, wgt_app, ih.1, ih.2]
    exact ⟨by rw [← h1.1]; rfl, by rw [← h1.2]; rfl⟩
theorem tl_rvs : ∀ {hs : List Hk}, (∀ h ∈ hs, rgt h = true) → tl (join (rvs hs)) = tl (join hs)
  | [], _ => rfl
  | h :: r, hh => by
    have ih := tl_rvs (hs := r) (fun x hx => hh x (List.mem_cons_of_mem _ hx))
    have h1 := (ck_inv (rgt_ck (hh h (List.mem_cons_self ..)))).2.2.1
    show tl (join (rv h :: rvs r)) = _
    rw [flat_join_cons, flat_join_cons, tl_app, tl_app, ih]
    show tl (inv h.es) + _ = _
    rw [h1]
end Go.Proofs.Ytigghcmbdnidnaa.Pa

namespace Go.Proofs.Ytigghcmbdnidnaa.H
set_option linter.unusedVariables false
set_option linter.unusedSimpArgs false
open Go.RowKit
open T S
open I (alloc1 own_at own_below)
open N (Ln)
open M (Lv)

def BdC (fn : FuncId) (es : List Ed) (x : Int) (hs : List Hk) (q : Int) : Prop := ∀ (w : World) (A : Option Addr) (c : Nat), EdsIn 0 w A es → Calls Try.prog fn #[.slice A es.length c, .int .i64 x] w (HnEnd w hs q)
def CkC (fn : FuncId) (hs : List Hk) (q : Int) : Prop := ∀ (w : World) (A : Option Addr) (c : Nat), HksIn 0 w A hs → Calls Try.prog fn #[.slice A hs.length c] w (CkEnd w q)
def JnC (fn : FuncId) (hs : List Hk) (es : List Ed) : Prop := ∀ (w : World) (A : Option Addr) (c : Nat), HksIn 0 w A hs → Calls Try.prog fn #[.slice A hs.length c] w (JnEnd w es)
def WhC (fn : FuncId) (hs : List Hk) (a : List Ln) (r : List Ed) (q : Int) : Prop := ∀ (w : World) (A B : Option Addr) (c c' : Nat), HksIn 0 w A hs → LinesIn w B a → a.length ≤ c' → Calls Try.prog fn #[.slice A hs.length c, .slice B a.length c'] w (RnEnd w r q)
theorem BdC.at {fn : FuncId} {es : List Ed} {x : Int} {hs : List Hk} {q : Int} (h : BdC fn es x hs q) {w : World} {A : Option Addr} (c : Nat) (hE : EdsIn 0 w A es) : Calls Try.prog fn #[.slice A es.length c, .int .i64 x] w (HnEnd w hs q) := h w A c hE
theorem CkC.at {fn : FuncId} {hs : List Hk} {q : Int} (h : CkC fn hs q) {w : World} {A : Option Addr} (c : Nat) (hE : HksIn 0 w A hs) : Calls Try.prog fn #[.slice A hs.length c] w (CkEnd w q) := h w A c hE
theorem JnC.at {fn : FuncId} {hs : List Hk} {es : List Ed} (h : JnC fn hs es) {w : World} {A : Option Addr} (c : Nat) (hE : HksIn 0 w A hs) : Calls Try.prog fn #[.slice A hs.length c] w (JnEnd w es) := h w A c hE
theorem WhC.at {fn : FuncId} {hs : List Hk} {a : List Ln} {r : List Ed} {q : Int} (h : WhC fn hs a r q) {w : World} {A B : Option Addr} (c c' : Nat) (hE : HksIn 0 w A hs) (hL : LinesIn w B a) (hc : a.length ≤ c') : Calls Try.prog fn #[.slice A hs.length c, .slice B a.length c'] w (RnEnd w r q) := h w A B c c' hE hL hc
theorem c_hcheck {hs : List Hk} (hok : HksOk hs) : CkC 34 hs (hck hs) := fun w A c hH => hcheck_any A c 0 hs w hH hok
theorem c_rhcheck {hs : List Hk} (hok : HksOk hs) : CkC 36 hs (hck hs) := fun w A c hH => rhcheck_any A c 0 hs w hH hok
theorem c_rjoin {hs : List Hk} (hok : HksOk hs) (hj : (join hs).length ≤ 2000000) : JnC 23 hs (join hs) := fun w A c hH => rjoin_any A c 0 hs w hH hok hj
theorem c_whole {hs : List Hk} {a : List Ln} (hok : HksOk hs) (ha : a.length ≤ maxLen) : WhC 51 hs a (whl hs a).1 (whl hs a).2 := fun w A B c c' hH hL hc => whole_any A B c c' 0 hs a w hH hok hL hc ha
/-- A script of few lines: what its hunks are. -/
structure Fw (es : List Ed) (c : Nat) (hs : List Hk) : Prop where
  e : hs = bld c (norm es)
  cl : ∀ x ∈ hs, Cl c x
  ok : HksOk hs
  jl : (join hs).length ≤ 2000000
  ll : ∀ h ∈ hs, ∀ e ∈ h.es, e.2.length ≤ 1000000
  jok : EdsOk (join hs)
  chg : chg (join hs) = chg es
  len : hs.length ≤ 120
theorem fw_of {es : List Ed} {c : Nat} (hk : ck es = 0) (hl : es.length ≤ 120) (ht : tl es ≤ 120) : Fw es c (bld c (norm es)) := by
  have h3 := (ck_ok hk).2.2
  obtain ⟨hn1, hn2, hn3, hn4⟩ := norm_ok hk
  have hnf := nf_norm h3
  have hcl := bld_cl (c := c) hnf
  have htj := bld_tl (c := c) (norm es)
  have hjl := join_len_tl (bld c (norm es)) (fun h hm => (hcl h hm).nf)
  have hm := bld_many (c := c) (norm es)
  have h5 := full_len hnf
  have hte : ∀ h ∈ bld c (norm es), ∀ e ∈ h.es, e.2.length ≤ 120 := fun h hm e he => by
    have := tl_mem hm; have := tl_each he; omega
  refine ⟨rfl, hcl, ⟨by unfold maxLen; omega, fun h hm => ⟨?_, fun e he => by have := hte h hm e he; unfold maxLen; omega⟩⟩, by omega, fun h hm e he => by have := hte h hm e he; omega, ⟨by unfold maxLen; omega, fun e he => ?_⟩, ?_, by omega⟩
  · have := full_len (hcl h hm).nf; have := tl_mem hm; unfold maxLen; omega
  · have := tl_each he; unfold maxLen; omega
  · rw [chg_small (by omega), chg_small (by omega), bld_chg, norm_chg hk]
theorem build_ok {es : List Ed} {c : Nat} (hk : ck es = 0) (hc : c ≤ 20) : build es c = (bld c (norm es), 0) := by
  unfold build
  rw [if_pos hk, if_neg (by omega), Int.toNat_natCast]
theorem build_bad {es : List Ed} {c : Int} (hk : ck es ≠ 0) : build es c = ([], ck es) := by
  unfold build
  rw [if_neg hk]
theorem u8_rem {x : Nat} (hx : x < 256) : Int.tmod (x : Int) 21 = ((x % 21 : Nat) : Int) := by
  rw [Int.tmod_eq_emod_of_nonneg (by omega)]; omega
end Go.Proofs.Ytigghcmbdnidnaa.H
