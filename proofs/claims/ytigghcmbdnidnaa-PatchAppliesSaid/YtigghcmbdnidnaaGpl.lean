/-
  Scripts line by line: plain. What a normal form keeps; turned twice; the edits of the steps make the one text of the other one, and none changes less.
  The contracts on scripts as the laws take them: one form each.
  Scripts that are normal (plain).
-/
import Derived.Test.YtigghcmbdnidnaaGpi
import Derived.Test.YtigghcmbdnidnaaGpc
import Derived.Test.YtigghcmbdnidnaaGph
import Derived.Test.YtigghcmbdnidnaaGpk
namespace Go.Proofs.Ytigghcmbdnidnaa.S
open Go.RowKit
open T
open V (grown_of IntsIn numCells numCells_snoc ints_own drawn_below)
open I (alloc1 own_at own_below)
open N (Ln)

def flat (es : List Ed) : List Sl := es.flatMap fun e => tag e.1 e.2
theorem flat_grp : ∀ d : List Sl, flat (grp d) = d
  | [] => rfl
  | (s, l) :: r => by
    have ih := flat_grp r
    rw [grp]
    cases h : grp r with
    | nil =>
      rw [h] at ih
      have : r = [] := ih.symm
      subst this
      rfl
    | cons e q =>
      obtain ⟨t, ls⟩ := e
      rw [h] at ih
      simp only
      by_cases hs : s = t
      · subst hs
        rw [if_pos rfl]
        have e1 : flat ((s, l :: ls) :: q) = (s, l) :: flat ((s, ls) :: q) := rfl
        rw [e1, ih]
      · rw [if_neg hs]
        have e1 : flat ((s, [l]) :: (t, ls) :: q) = (s, l) :: flat ((t, ls) :: q) := rfl
        rw [e1, ih]
def nst1 (t : Nst) (x : Sl) : Nst := if x.1 = 2 then ⟨t.d, t.o ++ [x.2], t.i⟩ else if x.1 = 3 then ⟨t.d, t.o, t.i ++ [x.2]⟩ else ⟨t.d ++ tag 2 t.o ++ tag 3 t.i ++ [x], [], []⟩
def nss (X : List Sl) : Nst := X.foldl nst1 ⟨[], [], []⟩
def fin (t : Nst) : List Sl := t.d ++ tag 2 t.o ++ tag 3 t.i
theorem run2 (l : List Ln) : ∀ (d : List Sl) (o i : List Ln), (tag 2 l).foldl nst1 ⟨d, o, i⟩ = ⟨d, o ++ l, i⟩ := by
  induction l with
  | nil => intro d o i; simp [tag]
  | cons x l ih =>
    intro d o i
    have e : tag 2 (x :: l) = (2, x) :: tag 2 l := rfl
    rw [e, List.foldl_cons]
    have e1 : nst1 ⟨d, o, i⟩ (2, x) = ⟨d, o ++ [x], i⟩ := by simp [nst1]
    rw [e1, ih]; simp
theorem run3 (l : List Ln) : ∀ (d : List Sl) (o i : List Ln), (tag 3 l).foldl nst1 ⟨d, o, i⟩ = ⟨d, o, i ++ l⟩ := by
  induction l with
  | nil => intro d o i; simp [tag]
  | cons x l ih =>
    intro d o i
    have e : tag 3 (x :: l) = (3, x) :: tag 3 l := rfl
    rw [e, List.foldl_cons]
    have e1 : nst1 ⟨d, o, i⟩ (3, x) = ⟨d, o, i ++ [x]⟩ := by simp [nst1]
    rw [e1, ih]; simp
theorem run1 (l : List Ln) : ∀ (d : List Sl), (tag 1 l).foldl nst1 ⟨d, [], []⟩ = ⟨d ++ tag 1 l, [], []⟩ := by
  induction l with
  | nil => intro d; simp [tag]
  | cons x l ih =>
    intro d
    have e : tag 1 (x :: l) = (1, x) :: tag 1 l := rfl
    rw [e, List.foldl_cons]
    have e1 : nst1 ⟨d, [], []⟩ (1, x) = ⟨d ++ [(1, x)], [], []⟩ := by simp [nst1, tag]
    rw [e1, ih]; simp
theorem nst_run (t : Nst) (e : Ed) (h : e.1 = 1 ∨ e.1 = 2 ∨ e.1 = 3) : nst t e = (tag e.1 e.2).foldl nst1 t := by
  obtain ⟨s, l⟩ := e
  obtain ⟨d, o, i⟩ := t
  simp only at h
  rcases h with rfl | rfl | rfl
  · cases l with
    | nil => simp [nst, tag]
    | cons x l =>
      have e : tag 1 (x :: l) = (1, x) :: tag 1 l := rfl
      simp only [e, List.foldl_cons]
      have e1 : nst1 ⟨d, o, i⟩ (1, x) = ⟨d ++ tag 2 o ++ tag 3 i ++ [(1, x)], [], []⟩ := by simp [nst1]
      rw [e1, run1]
      simp [nst, e]
  · simp only [run2]; simp [nst]
  · simp only [run3]; simp [nst]
def Good3 (es : List Ed) : Prop := ∀ e ∈ es, e.1 = 1 ∨ e.1 = 2 ∨ e.1 = 3
theorem nsts_flat {es : List Ed} (h : Good3 es) : nsts es = nss (flat es) := by
  have key : ∀ (es : List Ed) (t : Nst), Good3 es → es.foldl nst t = (flat es).foldl nst1 t := by
    intro es
    induction es with
    | nil => intro t _; rfl
    | cons e es ih =>
      intro t h
      have e1 : flat (e :: es) = tag e.1 e.2 ++ flat es := rfl
      rw [List.foldl_cons, e1, List.foldl_append, ← nst_run t e (h e (by simp)), ih _ (fun x hx => h x (by simp [hx]))]
  exact key es _ h
theorem laid_flat {es : List Ed} (h : Good3 es) : laid es = fin (nss (flat es)) := by
  unfold laid fin
  rw [nsts_flat h]
theorem flat_norm {es : List Ed} (h : Good3 es) : flat (norm es) = fin (nss (flat es)) := by
  unfold norm
  rw [flat_grp, laid_flat h]
/-- A state whose laid part would be laid again as it is. -/
def Shut (t : Nst) : Prop := nss t.d = ⟨t.d, [], []⟩
theorem shut_step {t : Nst} (h : Shut t) (x : Sl) : Shut (nst1 t x) := by
  obtain ⟨d, o, i⟩ := t
  obtain ⟨s, l⟩ := x
  unfold Shut at *
  simp only at h
  unfold nst1
  split
  · exact h
  · split
    · exact h
    · rename_i h2 h3
      simp only at h2 h3 ⊢
      unfold nss at *
      rw [List.foldl_append, List.foldl_append, List.foldl_append, h, run2, run3]
      simp [nst1, h2, h3]
theorem shut_all : ∀ (X : List Sl) (t : Nst), Shut t → Shut (X.foldl nst1 t)
  | [], _, h => h
  | x :: X, _, h => shut_all X _ (shut_step h x)
theorem nss_fin (X : List Sl) : nss (fin (nss X)) = nss X := by
  have h : Shut (nss X) := shut_all X _ rfl
  generalize nss X = t at *
  obtain ⟨d, o, i⟩ := t
  unfold Shut at h
  unfold fin nss at *
  simp only at h ⊢
  rw [List.foldl_append, List.foldl_append, h, run2, run3]
  simp
def sw (x : Sl) : Sl := (tn x.1, x.2)
theorem flat_iv (es : List Ed) : flat (es.map iv) = (flat es).map sw := by
  induction es with
  | nil => rfl
  | cons e es ih =>
    have e1 : flat (e :: es) = tag e.1 e.2 ++ flat es := rfl
    have e2 : flat ((e :: es).map iv) = tag (tn e.1) e.2 ++ flat (es.map iv) := rfl
    rw [e1, e2, ih, List.map_append]
    congr 1
    simp [tag, sw]
theorem sw_tag2 (l : List Ln) : (tag 2 l).map sw = tag 3 l := by simp [tag, sw, tn]
theorem sw_tag3 (l : List Ln) : (tag 3 l).map sw = tag 2 l := by simp [tag, sw, tn]
theorem tn_tn (s : Int) : tn (tn s) = s := by
  unfold tn
  split
  · subst s; rfl
  · split
    · subst s; rfl
    · simp_all
theorem sw_sw (X : List Sl) : (X.map sw).map sw = X := by
  rw [List.map_map]
  have : sw ∘ sw = id := by funext x; obtain ⟨s, l⟩ := x; simp [sw, tn_tn]
  rw [this, List.map_id]
structure Tw (t t' : Nst) : Prop where
  o : t'.o = t.i
  i : t'.i = t.o
  d : nss (t.d.map sw) = ⟨t'.d, [], []⟩
theorem tw_step {t t' : Nst} (h : Tw t t') (x : Sl) (hx : x.1 = 1 ∨ x.1 = 2 ∨ x.1 = 3) : Tw (nst1 t x) (nst1 t' (sw x)) := by
  obtain ⟨d, o, i⟩ := t
  obtain ⟨d', o', i'⟩ := t'
  obtain ⟨s, l⟩ := x
  obtain ⟨ho, hi, hd⟩ := h
  simp only at ho hi hd hx
  subst ho hi
  rcases hx with rfl | rfl | rfl
  · refine ⟨by simp [nst1, sw, tn], by simp [nst1, sw, tn], ?_⟩
    simp only [nst1, sw, tn]
    simp only [show ¬ ((1 : Int) = 2) by decide, show ¬ ((1 : Int) = 3) by decide, if_false]
    unfold nss at *
    rw [List.map_append, List.map_append, List.map_append, sw_tag2, sw_tag3, List.foldl_append, List.foldl_append, List.foldl_append, hd, run3, run2]
    simp [nst1, sw, tn]
  · exact ⟨by simp [nst1, sw, tn], by simp [nst1, sw, tn], by simpa [nst1, sw, tn] using hd⟩
  · exact ⟨by simp [nst1, sw, tn], by simp [nst1, sw, tn], by simpa [nst1, sw, tn] using hd⟩
def GoodX (X : List Sl) : Prop := ∀ x ∈ X, x.1 = 1 ∨ x.1 = 2 ∨ x.1 = 3
theorem tw_all : ∀ (X : List Sl) (t t' : Nst), GoodX X → Tw t t' → Tw (X.foldl nst1 t) ((X.map sw).foldl nst1 t')
  | [], _, _, _, h => h
  | x :: X, t, t', hX, h => tw_all X _ _ (fun y hy => hX y (by simp [hy])) (tw_step h x (hX x (by simp)))
theorem nss_sw {X : List Sl} (h : GoodX X) : nss ((fin (nss X)).map sw) = nss (X.map sw) := by
  have ht := tw_all X ⟨[], [], []⟩ ⟨[], [], []⟩ h ⟨rfl, rfl, rfl⟩
  change Tw (nss X) (nss (X.map sw)) at ht
  generalize nss (X.map sw) = t' at *
  generalize nss X = t at *
  obtain ⟨d, o, i⟩ := t
  obtain ⟨d', o', i'⟩ := t'
  obtain ⟨ho, hi, hd⟩ := ht
  simp only at ho hi hd
  subst ho hi
  unfold fin nss at *
  simp only
  rw [List.map_append, List.map_append, sw_tag2, sw_tag3, List.foldl_append, List.foldl_append, hd, run3, run2]
  simp
def sdl (but : Int) (X : List Sl) : List Ln := (X.filter fun x => x.1 ≠ but).map (·.2)
theorem sdl_app (but : Int) (X Y : List Sl) : sdl but (X ++ Y) = sdl but X ++ sdl but Y := by simp [sdl]
theorem sdl_tag (but s : Int) (l : List Ln) : sdl but (tag s l) = if s = but then [] else l := by
  unfold sdl tag
  split
  · subst s
    induction l with
    | nil => rfl
    | cons x l ih => simpa using ih
  · rename_i h
    induction l with
    | nil => rfl
    | cons x l ih => simp [h] at ih ⊢; exact ih
theorem sd_flat (but : Int) (es : List Ed) : sd but es = sdl but (flat es) := by
  induction es with
  | nil => rfl
  | cons e es ih =>
    have e1 : flat (e :: es) = tag e.1 e.2 ++ flat es := rfl
    have e2 : sd but (e :: es) = (if e.1 = but then [] else e.2) ++ sd but es := by simp [sd]
    rw [e1, e2, sdl_app, sdl_tag, ih]
theorem sdl3_step (t : Nst) (x : Sl) (h : x.1 = 1 ∨ x.1 = 2 ∨ x.1 = 3) : sdl 3 (fin (nst1 t x)) = sdl 3 (fin t) ++ sdl 3 [x] ∧ sdl 2 (fin (nst1 t x)) = sdl 2 (fin t) ++ sdl 2 [x] := by
  obtain ⟨d, o, i⟩ := t
  obtain ⟨s, l⟩ := x
  simp only at h
  rcases h with rfl | rfl | rfl
  · have e : fin (nst1 ⟨d, o, i⟩ (1, l)) = fin ⟨d, o, i⟩ ++ [(1, l)] := by simp [nst1, fin, tag]
    rw [e, sdl_app, sdl_app]
    exact ⟨rfl, rfl⟩
  · have e : fin (nst1 ⟨d, o, i⟩ (2, l)) = d ++ tag 2 (o ++ [l]) ++ tag 3 i := by simp [nst1, fin]
    rw [e, fin]
    simp only [sdl_app, sdl_tag]
    simp [sdl]
  · have e : fin (nst1 ⟨d, o, i⟩ (3, l)) = d ++ tag 2 o ++ tag 3 (i ++ [l]) := by simp [nst1, fin]
    rw [e, fin]
    simp only [sdl_app, sdl_tag]
    simp [sdl]
theorem sdl_fin {X : List Sl} (h : GoodX X) : sdl 3 (fin (nss X)) = sdl 3 X ∧ sdl 2 (fin (nss X)) = sdl 2 X := by
  have key : ∀ (X : List Sl) (t : Nst), GoodX X → sdl 3 (fin (X.foldl nst1 t)) = sdl 3 (fin t) ++ sdl 3 X ∧ sdl 2 (fin (X.foldl nst1 t)) = sdl 2 (fin t) ++ sdl 2 X := by
    intro X
    induction X with
    | nil => intro t _; simp [sdl]
    | cons x X ih =>
      intro t h
      obtain ⟨h1, h2⟩ := ih (nst1 t x) (fun y hy => h y (by simp [hy]))
      obtain ⟨h3, h4⟩ := sdl3_step t x (h x (by simp))
      rw [List.foldl_cons, h1, h2, h3, h4, List.append_assoc, List.append_assoc, ← sdl_app 3 [x] X, ← sdl_app 2 [x] X]
      exact ⟨rfl, rfl⟩
  have := key X ⟨[], [], []⟩ h
  change sdl 3 (fin (nss X)) = [] ++ sdl 3 X ∧ sdl 2 (fin (nss X)) = [] ++ sdl 2 X at this
  simpa only [List.nil_append] using this
theorem sdl_sw (X : List Sl) (h : GoodX X) : sdl 3 (X.map sw) = sdl 2 X ∧ sdl 2 (X.map sw) = sdl 3 X := by
  induction X with
  | nil => exact ⟨rfl, rfl⟩
  | cons x X ih =>
    obtain ⟨h1, h2⟩ := ih (fun y hy => h y (by simp [hy]))
    obtain ⟨s, l⟩ := x
    have e : (s, l) :: X = [(s, l)] ++ X := rfl
    have e' : ((s, l) :: X).map sw = [(tn s, l)] ++ X.map sw := rfl
    rw [e', e, sdl_app, sdl_app, sdl_app, sdl_app, h1, h2]
    rcases h (s, l) (by simp) with h | h | h <;> simp only at h <;> subst h <;> simp [sdl, tn]
/-- How many lines change, and how many stay. -/
def cnt (X : List Sl) : Nat := (X.filter fun x => x.1 == 2 || x.1 == 3).length
def kp (X : List Sl) : Nat := (X.filter fun x => x.1 == 1).length
theorem cnt_app (X Y : List Sl) : cnt (X ++ Y) = cnt X + cnt Y := by simp [cnt]
theorem cnt_tag (s : Int) (l : List Ln) : cnt (tag s l) = if s == 2 || s == 3 then l.length else 0 := by
  induction l with
  | nil => simp [cnt, tag]
  | cons x l ih =>
    have e : tag s (x :: l) = [(s, x)] ++ tag s l := rfl
    rw [e, cnt_app, ih]
    simp only [cnt]
    split <;> rename_i h <;> simp [h] <;> omega
theorem chgN_flat (es : List Ed) : chgN es = cnt (flat es) := by
  induction es with
  | nil => rfl
  | cons e es ih =>
    have e1 : flat (e :: es) = tag e.1 e.2 ++ flat es := rfl
    have e2 : chgN (e :: es) = (if e.1 == 2 || e.1 == 3 then e.2.length else 0) + chgN es := by simp [chgN]
    rw [e1, e2, cnt_app, cnt_tag, ih]
theorem cnt_step (t : Nst) (x : Sl) (h : x.1 = 1 ∨ x.1 = 2 ∨ x.1 = 3) : cnt (fin (nst1 t x)) = cnt (fin t) + cnt [x] := by
  obtain ⟨d, o, i⟩ := t
  obtain ⟨s, l⟩ := x
  simp only at h
  rcases h with rfl | rfl | rfl
  · have e : fin (nst1 ⟨d, o, i⟩ (1, l)) = fin ⟨d, o, i⟩ ++ [(1, l)] := by simp [nst1, fin, tag]
    rw [e, cnt_app]
  · have e : fin (nst1 ⟨d, o, i⟩ (2, l)) = d ++ tag 2 (o ++ [l]) ++ tag 3 i := by simp [nst1, fin]
    rw [e, cnt_app, cnt_app, cnt_tag, cnt_tag, fin, cnt_app, cnt_app, cnt_tag, cnt_tag]
    simp [cnt]; omega
  · have e : fin (nst1 ⟨d, o, i⟩ (3, l)) = d ++ tag 2 o ++ tag 3 (i ++ [l]) := by simp [nst1, fin]
    rw [e, cnt_app, cnt_app, cnt_tag, cnt_tag, fin, cnt_app, cnt_app, cnt_tag, cnt_tag]
    simp [cnt]; omega
theorem cnt_fin {X : List Sl} (h : GoodX X) : cnt (fin (nss X)) = cnt X := by
  have key : ∀ (X : List Sl) (t : Nst), GoodX X → cnt (fin (X.foldl nst1 t)) = cnt (fin t) + cnt X := by
    intro X
    induction X with
    | nil => intro t _; simp [cnt]
    | cons x X ih =>
      intro t h
      have e : cnt (x :: X) = cnt [x] + cnt X := cnt_app [x] X
      rw [List.foldl_cons, ih (nst1 t x) (fun y hy => h y (by simp [hy])), cnt_step t x (h x (by simp)), e]
      omega
  have := key X ⟨[], [], []⟩ h
  change cnt (fin (nss X)) = 0 + cnt X at this
  omega
theorem cnt_sw (X : List Sl) (h : GoodX X) : cnt (X.map sw) = cnt X := by
  induction X with
  | nil => rfl
  | cons x X ih =>
    obtain ⟨s, l⟩ := x
    have e : cnt ((s, l) :: X) = cnt [(s, l)] + cnt X := cnt_app [(s, l)] X
    have e' : cnt (((s, l) :: X).map sw) = cnt [(tn s, l)] + cnt (X.map sw) := cnt_app [(tn s, l)] (X.map sw)
    rw [e, e', ih (fun y hy => h y (by simp [hy]))]
    rcases h (s, l) (by simp) with h | h | h <;> simp only at h <;> subst h <;> simp [cnt, tn]
theorem len_step (t : Nst) (x : Sl) : (fin (nst1 t x)).length = (fin t).length + 1 := by
  obtain ⟨d, o, i⟩ := t
  unfold nst1 fin
  split
  · simp only [List.length_append, tag_len, List.length_cons, List.length_nil]; omega
  · split
    · simp only [List.length_append, tag_len, List.length_cons, List.length_nil]; omega
    · simp only [List.length_append, tag_len, List.length_cons, List.length_nil, Nat.zero_add, Nat.add_zero]
theorem len_fin (X : List Sl) : (fin (nss X)).length = X.length := by
  have key : ∀ (X : List Sl) (t : Nst), (fin (X.foldl nst1 t)).length = (fin t).length + X.length := by
    intro X
    induction X with
    | nil => intro t; simp
    | cons x X ih => intro t; rw [List.foldl_cons, ih, len_step, List.length_cons]; omega
  have := key X ⟨[], [], []⟩
  change (fin (nss X)).length = 0 + X.length at this
  omega
theorem good_step {t : Nst} (h : GoodX (fin t)) (x : Sl) (hx : x.1 = 1 ∨ x.1 = 2 ∨ x.1 = 3) : GoodX (fin (nst1 t x)) := by
  obtain ⟨d, o, i⟩ := t
  obtain ⟨s, l⟩ := x
  intro y hy
  simp only at hx
  rcases hx with rfl | rfl | rfl
  · have e : fin (nst1 ⟨d, o, i⟩ (1, l)) = fin ⟨d, o, i⟩ ++ [(1, l)] := by simp [nst1, fin, tag]
    rw [e] at hy
    rcases List.mem_append.1 hy with hy | hy
    · exact h y hy
    · simp at hy; subst hy; exact .inl rfl
  · have e : fin (nst1 ⟨d, o, i⟩ (2, l)) = d ++ tag 2 (o ++ [l]) ++ tag 3 i := by simp [nst1, fin]
    rw [e] at hy
    rcases List.mem_append.1 hy with hy | hy
    · rcases List.mem_append.1 hy with hy | hy
      · exact h y (by unfold fin; simp [hy])
      · simp only [tag, List.mem_map] at hy; obtain ⟨z, _, rfl⟩ := hy; exact .inr (.inl rfl)
    · exact h y (by unfold fin; simp [hy])
  · have e : fin (nst1 ⟨d, o, i⟩ (3, l)) = d ++ tag 2 o ++ tag 3 (i ++ [l]) := by simp [nst1, fin]
    rw [e] at hy
    rcases List.mem_append.1 hy with hy | hy
    · rcases List.mem_append.1 hy with hy | hy
      · exact h y (by unfold fin; simp [hy])
      · exact h y (by unfold fin; simp [hy])
    · simp only [tag, List.mem_map] at hy; obtain ⟨z, _, rfl⟩ := hy; exact .inr (.inr rfl)
theorem good_fin {X : List Sl} (h : GoodX X) : GoodX (fin (nss X)) := by
  have key : ∀ (X : List Sl) (t : Nst), GoodX X → GoodX (fin t) → GoodX (fin (X.foldl nst1 t)) := by
    intro X
    induction X with
    | nil => intro t _ h; exact h
    | cons x X ih => intro t h h2; exact ih _ (fun y hy => h y (by simp [hy])) (good_step h2 x (h x (by simp)))
  exact key X ⟨[], [], []⟩ h (fun y hy => by simp [fin, tag] at hy)
theorem good_flat {es : List Ed} (h : Good3 es) : GoodX (flat es) := fun x hx => by
  simp only [flat, List.mem_flatMap, tag, List.mem_map] at hx
  obtain ⟨e, he, y, _, rfl⟩ := hx
  exact h e he
theorem good_sw {X : List Sl} (h : GoodX X) : GoodX (X.map sw) := fun x hx => by
  obtain ⟨y, hy, rfl⟩ := List.mem_map.1 hx
  have := h y hy
  simp only [sw, tn]
  split
  · simp
  · split
    · simp
    · omega
theorem good_grp : ∀ {d : List Sl}, GoodX d → Good3 (grp d)
  | [], _ => fun e he => by simp [grp] at he
  | (s, l) :: r, h => by
    have ih := good_grp (d := r) (fun x hx => h x (by simp [hx]))
    have hs := h (s, l) (by simp)
    rw [grp]
    cases hg : grp r with
    | nil => intro e he; simp at he; subst he; exact hs
    | cons e q =>
      obtain ⟨t, ls⟩ := e
      rw [hg] at ih
      simp only
      split
      · intro e he
        rcases List.mem_cons.1 he with rfl | he
        · exact hs
        · exact ih e (by simp [he])
      · intro e he
        rcases List.mem_cons.1 he with rfl | he
        · exact hs
        · exact ih e he
theorem tl_flat (es : List Ed) : tl es = (flat es).length := by
  induction es with
  | nil => rfl
  | cons e es ih =>
    have e1 : flat (e :: es) = tag e.1 e.2 ++ flat es := rfl
    have e2 : tl (e :: es) = e.2.length + tl es := by simp [tl]
    rw [e1, e2, List.length_append, tag_len, ih]
theorem grp_len : ∀ d : List Sl, (grp d).length ≤ d.length
  | [] => Nat.le_refl _
  | (s, l) :: r => by
    have ih := grp_len r
    rw [grp]
    cases h : grp r with
    | nil => simp
    | cons e q =>
      obtain ⟨t, ls⟩ := e
      rw [h] at ih
      simp only [List.length_cons] at ih ⊢
      split <;> simp only [List.length_cons] <;> omega
theorem ck_of {es : List Ed} (h1 : es.length ≤ 800) (h2 : tl es ≤ 800) (h : Good3 es) : ck es = 0 := by
  unfold ck
  rw [if_neg (by omega), if_pos]
  rw [List.all_eq_true]
  intro e he
  rcases h e he with h | h | h <;> rw [h] <;> rfl
/-- What is so of a script's normal form. -/
theorem norm_ok {es : List Ed} (hc : ck es = 0) : ck (norm es) = 0 ∧ tl (norm es) = tl es ∧ Good3 (norm es) ∧ flat (norm es) = fin (nss (flat es)) := by
  obtain ⟨h1, h2, h3⟩ := ck_ok hc
  have hf := flat_norm h3
  have ht : tl (norm es) = tl es := by rw [tl_flat, hf, len_fin, ← tl_flat]
  have hg : Good3 (norm es) := by
    unfold norm
    rw [laid_flat h3]
    exact good_grp (good_fin (good_flat h3))
  refine ⟨ck_of ?_ (by omega) hg, ht, hg, hf⟩
  have := grp_len (laid es)
  rw [laid_flat h3, len_fin, ← tl_flat] at this
  unfold norm
  rw [laid_flat h3]
  omega
theorem norm_sides {es : List Ed} (hc : ck es = 0) : sd 3 (norm es) = sd 3 es ∧ sd 2 (norm es) = sd 2 es := by
  obtain ⟨-, -, -, hf⟩ := norm_ok hc
  have h := sdl_fin (good_flat (ck_ok hc).2.2)
  rw [sd_flat, sd_flat, sd_flat, sd_flat, hf]
  exact h
theorem norm_chg {es : List Ed} (hc : ck es = 0) : chgN (norm es) = chgN es := by
  obtain ⟨-, -, -, hf⟩ := norm_ok hc
  rw [chgN_flat, chgN_flat, hf]
  exact cnt_fin (good_flat (ck_ok hc).2.2)
theorem norm_norm {es : List Ed} (hc : ck es = 0) : norm (norm es) = norm es := by
  obtain ⟨-, -, hg, hf⟩ := norm_ok hc
  have h3 := (ck_ok hc).2.2
  show grp (laid (norm es)) = grp (laid es)
  rw [laid_flat hg, laid_flat h3, hf, nss_fin]
theorem good_iv {es : List Ed} (h : Good3 es) : Good3 (es.map iv) := fun e he => by
  obtain ⟨x, hx, rfl⟩ := List.mem_map.1 he
  have := h x hx
  simp only [iv, tn]
  split
  · simp
  · split
    · simp
    · omega
theorem iv_sides {es : List Ed} (h : Good3 es) : sd 3 (es.map iv) = sd 2 es ∧ sd 2 (es.map iv) = sd 3 es := by
  rw [sd_flat, sd_flat, sd_flat, sd_flat, flat_iv]
  exact sdl_sw _ (good_flat h)
theorem iv_chg {es : List Ed} (h : Good3 es) : chgN (es.map iv) = chgN es := by
  rw [chgN_flat, chgN_flat, flat_iv]
  exact cnt_sw _ (good_flat h)
theorem inv_inv {es : List Ed} (hc : ck es = 0) : norm ((norm (es.map iv)).map iv) = norm es := by
  have hc1 : ck (es.map iv) = 0 := (ck_iv es).trans hc
  obtain ⟨-, -, hg1, hf1⟩ := norm_ok hc1
  have h3 := (ck_ok hc).2.2
  have hx := good_flat h3
  show grp (laid _) = grp (laid es)
  rw [laid_flat (good_iv hg1), laid_flat h3, flat_iv, hf1, flat_iv, nss_sw (good_sw hx), sw_sw]
theorem al_row : ∀ (l ks xs : List Ln) (ys : List Int), N.Al ks xs ys → N.Al (N.known ks l) (xs ++ l) (ys ++ N.row ks l)
  | [], ks, xs, ys, h => by simpa [N.known, N.row] using h
  | x :: r, ks, xs, ys, h => by
    have := al_row r (N.add ks x) _ _ (h.step x)
    have e1 : N.known ks (x :: r) = N.known (N.add ks x) r := rfl
    have e2 : N.row ks (x :: r) = (((N.add ks x).idxOf x : Nat) : Int) :: N.row (N.add ks x) r := rfl
    rw [e1, e2]
    simpa using this
/-- The rows of numbers are the lines' numbers, one number to a line. -/
theorem rows_map (a b : List Ln) : ∃ f : Ln → Int, N.row [] a = a.map f ∧ N.row (N.known [] a) b = b.map f ∧ ∀ x ∈ a ++ b, ∀ y ∈ a ++ b, f x = f y → x = y := by
  have h := al_row b _ _ _ (al_row a [] [] [] (N.Al.nil []))
  simp only [List.nil_append] at h
  have hl1 := N.row_length a []
  have hl2 := N.row_length b (N.known [] a)
  refine ⟨fun x => (((N.known (N.known [] a) b).idxOf x : Nat) : Int), ?_, ?_, ?_⟩
  · refine List.ext_getElem (by simp [hl1]) (fun j h1 h2 => ?_)
    have := h.at_ j (by simp; omega) (by simp; omega)
    rw [List.getElem_append_left h1, List.getElem_append_left (by omega)] at this
    rw [this, List.getElem_map]
  · refine List.ext_getElem (by simp [hl2]) (fun j h1 h2 => ?_)
    have := h.at_ (a.length + j) (by simp; omega) (by simp; omega)
    rw [List.getElem_append_right (by omega), List.getElem_append_right (by omega)] at this
    simp only [hl1, Nat.add_sub_cancel_left] at this
    rw [this, List.getElem_map]
  · intro x hx y hy e
    have e' : (N.known (N.known [] a) b).idxOf x = (N.known (N.known [] a) b).idxOf y := by simp only at e; omega
    have mi := List.idxOf_lt_length_iff.2 (h.mem _ hx)
    have mj := List.idxOf_lt_length_iff.2 (h.mem _ hy)
    have h1 := List.getElem_idxOf mi
    have h2 := List.getElem_idxOf mj
    rw [← h1, ← h2]
    simp only [e']
theorem lnAt_eq {l : List Ln} {i : Nat} (h : i < l.length) : lnAt l i = l[i] := by unfold lnAt; rw [List.getD_eq_getElem?_getD, List.getElem?_eq_getElem h]; rfl
theorem mk_sides {a b : List Ln} {x y : List Int} {f : Ln → Int} (hx : x = a.map f) (hy : y = b.map f) (hf : ∀ p ∈ a ++ b, ∀ q ∈ a ++ b, f p = f q → p = q) : ∀ (s : List Int) (i j : Nat), s = M.Wy x y i j → sd 3 (mk a b i j s) = a.drop i ∧ sd 2 (mk a b i j s) = b.drop j := by
  intro s
  induction s with
  | nil =>
    intro i j h
    have := M.Wy_nil h.symm
    rw [hx, hy, List.length_map, List.length_map] at this
    rw [List.drop_eq_nil_of_le this.1, List.drop_eq_nil_of_le this.2]
    exact ⟨rfl, rfl⟩
  | cons t r ih =>
    intro i j h
    have sc : ∀ (but : Int) (e : Ed) (es : List Ed), sd but (e :: es) = (if e.1 = but then [] else e.2) ++ sd but es := fun but e es => by simp [sd]
    have lx : x.length = a.length := by rw [hx, List.length_map]
    have ly : y.length = b.length := by rw [hy, List.length_map]
    rcases M.Wy_next h.symm with ⟨rfl, hr, hi, hj, he⟩ | ⟨rfl, hr, hi⟩ | ⟨rfl, hr, hj⟩
    · obtain ⟨h1, h2⟩ := ih (i + 1) (j + 1) hr
      have hia : i < a.length := by omega
      have hjb : j < b.length := by omega
      have hab : a[i] = b[j] := by
        subst hx hy
        rw [List.getElem_map, List.getElem_map] at he
        exact hf _ (by simp) _ (by simp) he
      have em : mk a b i j (1 :: r) = (1, [lnAt a i]) :: mk a b (i + 1) (j + 1) r := rfl
      rw [em, sc, sc, h1, h2, List.drop_eq_getElem_cons hia, List.drop_eq_getElem_cons hjb, lnAt_eq hia, ← hab]
      simp
    · obtain ⟨h1, h2⟩ := ih (i + 1) j hr
      have hia : i < a.length := by omega
      have em : mk a b i j (2 :: r) = (2, [lnAt a i]) :: mk a b (i + 1) j r := rfl
      rw [em, sc, sc, h1, h2, List.drop_eq_getElem_cons hia, lnAt_eq hia]
      simp
    · obtain ⟨h1, h2⟩ := ih i (j + 1) hr
      have hjb : j < b.length := by omega
      have em : mk a b i j (3 :: r) = (3, [lnAt b j]) :: mk a b i (j + 1) r := rfl
      rw [em, sc, sc, h1, h2, List.drop_eq_getElem_cons hjb, lnAt_eq hjb]
      simp
theorem mkE_sides (a b : List Ln) : sd 3 (mkE a b) = a ∧ sd 2 (mkE a b) = b := by
  obtain ⟨f, h1, h2, h3⟩ := rows_map a b
  have := mk_sides h1 h2 h3 _ 0 0 (rfl : M.way (N.row [] a) (N.row (N.known [] a) b) = M.Wy (N.row [] a) (N.row (N.known [] a) b) 0 0)
  simpa [mkE] using this
theorem mkE_ck {a b : List Ln} (ha : a.length ≤ 60) (hb : b.length ≤ 60) : ck (mkE a b) = 0 := by
  have h1 := M.way_le _ (N.row [] a) (N.row (N.known [] a) b) (Nat.le_refl _)
  rw [N.row_length, N.row_length] at h1
  exact mk_ck (by omega) (M.way_mem _ _ _ (Nat.le_refl _))
theorem way_P {f : Ln → Int} : ∀ {X : List Sl}, GoodX X → M.P ((sdl 3 X).map f) ((sdl 2 X).map f) (cnt X)
  | [], _ => .nil
  | (s, l) :: X, h => by
    have ih := way_P (f := f) (X := X) (fun x hx => h x (by simp [hx]))
    have e3 : sdl 3 ((s, l) :: X) = sdl 3 [(s, l)] ++ sdl 3 X := sdl_app 3 [(s, l)] X
    have e2 : sdl 2 ((s, l) :: X) = sdl 2 [(s, l)] ++ sdl 2 X := sdl_app 2 [(s, l)] X
    have ec : cnt ((s, l) :: X) = cnt [(s, l)] + cnt X := cnt_app [(s, l)] X
    rw [e3, e2, ec]
    rcases h (s, l) (by simp) with h | h | h <;> simp only at h <;> subst h
    · have : cnt [((1 : Int), l)] + cnt X = cnt X := by simp [cnt]
      rw [this]
      simpa [sdl] using M.P.keep (f l) ih
    · have : cnt [((2 : Int), l)] + cnt X = cnt X + 1 := by simp [cnt]; omega
      rw [this]
      simpa [sdl] using M.P.out (f l) ih
    · have : cnt [((3 : Int), l)] + cnt X = cnt X + 1 := by simp [cnt]; omega
      rw [this]
      simpa [sdl] using M.P.put (f l) ih
theorem cnt_kp : ∀ {X : List Sl}, GoodX X → cnt X + 2 * kp X = (sdl 3 X).length + (sdl 2 X).length
  | [], _ => rfl
  | (s, l) :: X, h => by
    have ih := cnt_kp (X := X) (fun x hx => h x (by simp [hx]))
    have e3 : sdl 3 ((s, l) :: X) = sdl 3 [(s, l)] ++ sdl 3 X := sdl_app 3 [(s, l)] X
    have e2 : sdl 2 ((s, l) :: X) = sdl 2 [(s, l)] ++ sdl 2 X := sdl_app 2 [(s, l)] X
    have ec : cnt ((s, l) :: X) = cnt [(s, l)] + cnt X := cnt_app [(s, l)] X
    have ek : kp ((s, l) :: X) = kp [(s, l)] + kp X := by simp [kp, List.filter_cons]; split <;> simp <;> omega
    rw [e3, e2, ec, ek, List.length_append, List.length_append]
    rcases h (s, l) (by simp) with h | h | h <;> simp only at h <;> subst h <;> simp [cnt, kp, sdl] at ih ⊢ <;> omega
theorem mk_kp (a b : List Ln) : ∀ (s : List Int) (i j : Nat), kp (flat (mk a b i j s)) = s.count 1
  | [], _, _ => rfl
  | t :: r, i, j => by
    have ih := mk_kp a b r (if t = 3 then i else i + 1) (if t = 2 then j else j + 1)
    have e1 : flat (mk a b i j (t :: r)) = [(t, if t = 3 then lnAt b j else lnAt a i)] ++ flat (mk a b (if t = 3 then i else i + 1) (if t = 2 then j else j + 1) r) := rfl
    have ek : ∀ (z : Sl) (X : List Sl), kp ([z] ++ X) = (if z.1 = 1 then 1 else 0) + kp X := fun z X => by simp only [kp, List.singleton_append, List.filter_cons, beq_iff_eq]; split <;> simp <;> omega
    rw [e1, ek, ih, List.count_cons]
    simp only [beq_iff_eq]
    omega
theorem mkE_good (a b : List Ln) : Good3 (mkE a b) := fun e he => by
  have := mk_do a b _ 0 0 (M.way_mem _ (N.row [] a) (N.row (N.known [] a) b) (Nat.le_refl _)) e he
  simp only [okDo, Bool.or_eq_true, beq_iff_eq] at this
  omega
/-- No script from one text to another one changes fewer lines. -/
theorem mkE_least {es : List Ed} (h : Good3 es) : chgN (mkE (sd 3 es) (sd 2 es)) ≤ chgN es := by
  obtain ⟨f, h1, h2, -⟩ := rows_map (sd 3 es) (sd 2 es)
  have hp := (way_P (f := f) (good_flat h)).le
  rw [← sd_flat, ← sd_flat, ← h1, ← h2, ← chgN_flat] at hp
  have hk := cnt_kp (good_flat (mkE_good (sd 3 es) (sd 2 es)))
  rw [← sd_flat, ← sd_flat, (mkE_sides _ _).1, (mkE_sides _ _).2, ← chgN_flat] at hk
  have hm : kp (flat (mkE (sd 3 es) (sd 2 es))) = _ := mk_kp (sd 3 es) (sd 2 es) _ 0 0
  rw [hm] at hk
  have hw := M.way_count _ (N.row [] (sd 3 es)) (N.row (N.known [] (sd 3 es)) (sd 2 es)) (Nat.le_refl _)
  rw [N.row_length, N.row_length] at hw
  omega
end Go.Proofs.Ytigghcmbdnidnaa.S

namespace Go.Proofs.Ytigghcmbdnidnaa.S
open Go.RowKit
open T
open V (grown_of IntsIn numCells numCells_snoc ints_own drawn_below)
open I (alloc1 own_at own_below)
open N (Ln)
open M (Lv)

def TrEnd (w : World) (e : Ending) (w' : World) : Prop := e = .returned (.bool true) ∧ Below w.heap.size w w'
def InEnd (w : World) (n : Int) (e : Ending) (w' : World) : Prop := e = .returned (.int .i64 n) ∧ Below w.heap.size w w'
theorem sides_read (A : Option Addr) (c b : Nat) (es : List Ed) (w : World) (hE : EdsIn b w A es) (hok : EdsOk es) :
    Calls Try.prog 52 #[.slice A es.length c] w (RsEnd w (sides es).1 (sides es).2 (ck es)) := by
  have read : ∀ {r1 r2 : List Ln} {e0 : Int} {e : Ending} {w' : World}, SsEnd w r1 r2 e0 e w' → RsEnd w r1 r2 e0 e w' := fun h => by
    obtain ⟨XA, xc, YA, yc, h1, h2⟩ := h
    exact ⟨XA, xc, YA, yc, h1, h2.lo rfl, h2.turn.lo rfl, h2.b⟩
  unfold sides
  by_cases hc : ck es = 0
  · rw [if_pos hc, hc]; exact (sides_good A c b es w hE hok hc).mono fun _ _ h => read h
  · rw [if_neg hc]; exact (sides_bad A c b es w hE hok hc).mono fun _ _ h => read h
/-- Functions of a script. -/
def SdC (fn : FuncId) (es : List Ed) (x y : List Ln) (q : Int) : Prop := ∀ (w : World) (A : Option Addr) (c : Nat), EdsIn 0 w A es → Calls Try.prog fn #[.slice A es.length c] w (RsEnd w x y q)
def NmC (fn : FuncId) (es r : List Ed) (q : Int) : Prop := ∀ (w : World) (A : Option Addr) (c : Nat), EdsIn 0 w A es → Calls Try.prog fn #[.slice A es.length c] w (RnEnd w r q)
def InC (fn : FuncId) (es : List Ed) (q : Int) : Prop := ∀ (w : World) (A : Option Addr) (c : Nat), EdsIn 0 w A es → Calls Try.prog fn #[.slice A es.length c] w (InEnd w q)
def ApC (fn : FuncId) (es : List Ed) (a r : List Ln) (q : Int) : Prop := ∀ (w : World) (A B : Option Addr) (c c' : Nat), EdsIn 0 w A es → LinesIn w B a → Calls Try.prog fn #[.slice A es.length c, .slice B a.length c'] w (ApEnd w r q)
def EsC (es : List Ed) : Prop := ∀ (w : World) (A B : Option Addr) (c c' : Nat), EdsIn 0 w A es → EdsIn 0 w B es → Calls Try.prog 38 #[.slice A es.length c, .slice B es.length c'] w (TrEnd w)
def LsC (l : List Ln) : Prop := ∀ (w : World) (A B : Option Addr) (c c' : Nat), LinesIn w A l → LinesIn w B l → Calls Try.prog 13 #[.slice A l.length c, .slice B l.length c'] w (TrEnd w)
theorem SdC.at {fn : FuncId} {es : List Ed} {x y : List Ln} {q : Int} (h : SdC fn es x y q) {w : World} {A : Option Addr} (c : Nat) (hE : EdsIn 0 w A es) : Calls Try.prog fn #[.slice A es.length c] w (RsEnd w x y q) := h w A c hE
theorem NmC.at {fn : FuncId} {es r : List Ed} {q : Int} (h : NmC fn es r q) {w : World} {A : Option Addr} (c : Nat) (hE : EdsIn 0 w A es) : Calls Try.prog fn #[.slice A es.length c] w (RnEnd w r q) := h w A c hE
theorem InC.at {fn : FuncId} {es : List Ed} {q : Int} (h : InC fn es q) {w : World} {A : Option Addr} (c : Nat) (hE : EdsIn 0 w A es) : Calls Try.prog fn #[.slice A es.length c] w (InEnd w q) := h w A c hE
theorem ApC.at {fn : FuncId} {es : List Ed} {a r : List Ln} {q : Int} (h : ApC fn es a r q) {w : World} {A B : Option Addr} (c c' : Nat) (hE : EdsIn 0 w A es) (hL : LinesIn w B a) : Calls Try.prog fn #[.slice A es.length c, .slice B a.length c'] w (ApEnd w r q) := h w A B c c' hE hL
theorem EsC.at {es : List Ed} (h : EsC es) {w : World} {A B : Option Addr} (c c' : Nat) (hA : EdsIn 0 w A es) (hB : EdsIn 0 w B es) : Calls Try.prog 38 #[.slice A es.length c, .slice B es.length c'] w (TrEnd w) := h w A B c c' hA hB
theorem LsC.at {l : List Ln} (h : LsC l) {w : World} {A B : Option Addr} (c c' : Nat) (hA : LinesIn w A l) (hB : LinesIn w B l) : Calls Try.prog 13 #[.slice A l.length c, .slice B l.length c'] w (TrEnd w) := h w A B c c' hA hB
theorem c_sides {es : List Ed} (hok : EdsOk es) : SdC 52 es (sides es).1 (sides es).2 (ck es) := fun w A c hE => sides_read A c 0 es w hE hok
theorem c_rsides {es : List Ed} (hok : EdsOk es) : SdC 40 es (sides es).1 (sides es).2 (ck es) := fun w A c hE => rsides_any A c 0 es w hE hok
theorem c_normal {es : List Ed} (hok : EdsOk es) : NmC 49 es (nrm es) (ck es) := fun w A c hE => (normal_any A c 0 es w hE hok).mono fun _ _ h => h.read
theorem c_rnormal {es : List Ed} (hok : EdsOk es) : NmC 32 es (nrm es) (ck es) := fun w A c hE => rnormal_any A c 0 es w hE hok
theorem c_invert {es : List Ed} (hok : EdsOk es) : NmC 35 es (inv es) (ck es) := fun w A c hE => (invert_any A c 0 es w hE hok).mono fun _ _ h => h.read
theorem c_rinvert {es : List Ed} (hok : EdsOk es) (hsz : es.length * 32 ≤ 140737488351232) : NmC 37 es (inv es) (ck es) := fun w A c hE => rinvert_any A c 0 es w hE hok hsz
theorem c_check {es : List Ed} (hok : EdsOk es) : InC 47 es (ck es) := fun w A c hE => check_any A c 0 es w hE hok
theorem c_rcheck {es : List Ed} (hok : EdsOk es) : InC 42 es (ck es) := fun w A c hE => rcheck_any A c 0 es w hE hok
theorem c_changed {es : List Ed} (hok : EdsOk es) : InC 57 es (chg es) := fun w A c hE => changed_any A c 0 es w hE hok
theorem c_rchanged {es : List Ed} (hok : EdsOk es) : InC 50 es (chg es) := fun w A c hE => rchanged_any A c 0 es w hE hok
theorem c_esame {es : List Ed} (hok : EdsOk es) : EsC es := fun w A B c c' hA hB => (esame_any A B c c' es w hok hA hB).mono fun e w' ⟨h, q, hq⟩ => ⟨h, by rw [hq]; exact drawn_below w q⟩
theorem c_lsame {l : List Ln} (hl : l.length ≤ maxLen) : LsC l := fun w A B c c' hA hB => (rsame_q A B c c' l w hl hA hB).mono fun e w' ⟨h, q, hq⟩ => ⟨h, by rw [hq]; exact drawn_below w q⟩
theorem sides_len (es : List Ed) : (sides es).1.length ≤ 800 ∧ (sides es).2.length ≤ 800 := by
  unfold sides
  by_cases hc : ck es = 0
  · have := (ck_ok hc).2.1
    have := sd_len 3 es; have := sd_len 2 es
    rw [if_pos hc]; simp only; omega
  · rw [if_neg hc]; simp
theorem ck_nil : ck [] = 0 := rfl
theorem nrm_ck (es : List Ed) : ck (nrm es) = 0 := by
  unfold nrm
  by_cases hc : ck es = 0
  · rw [if_pos hc]; exact (norm_ok hc).1
  · rw [if_neg hc]; rfl
theorem inv_ck (es : List Ed) : ck (inv es) = 0 := by
  unfold inv
  by_cases hc : ck es = 0
  · rw [if_pos hc]; exact (norm_ok ((ck_iv es).trans hc)).1
  · rw [if_neg hc]; rfl
theorem sides_nrm (es : List Ed) : sides (nrm es) = sides es := by
  unfold sides
  rw [if_pos (nrm_ck es)]
  by_cases hc : ck es = 0
  · rw [if_pos hc]
    unfold nrm
    rw [if_pos hc, (norm_sides hc).1, (norm_sides hc).2]
  · rw [if_neg hc]
    unfold nrm
    rw [if_neg hc]; rfl
theorem sides_inv (es : List Ed) : sides (inv es) = ((sides es).2, (sides es).1) := by
  unfold sides
  rw [if_pos (inv_ck es)]
  by_cases hc : ck es = 0
  · have hc1 := (ck_iv es).trans hc
    have h3 := (ck_ok hc).2.2
    rw [if_pos hc]
    unfold inv
    rw [if_pos hc, (norm_sides hc1).1, (norm_sides hc1).2, (iv_sides h3).1, (iv_sides h3).2]
  · rw [if_neg hc]
    unfold inv
    rw [if_neg hc]; rfl
theorem lines_take {w : World} {A : Option Addr} {a : List Ln} (h : LinesIn w A a) (k : Nat) : LinesIn w A (a.take k) := fun hp => by
  obtain ⟨bk, off, rfl, hlt, hI⟩ := h (by rw [List.length_take] at hp; omega)
  refine ⟨bk, off, rfl, hlt, fun j hj => ?_⟩
  rw [List.getElem_take]
  exact hI j (by rw [List.length_take] at hj; omega)
end Go.Proofs.Ytigghcmbdnidnaa.S

namespace Go.Proofs.Ytigghcmbdnidnaa.H
set_option linter.unusedVariables false
set_option linter.unusedSimpArgs false
open T S
open N (Ln)

/-- May an edit that does y stand behind one that does x? -/
def okp (x y : Int) : Prop := x ≠ y ∧ ¬ (x = 3 ∧ y = 2)
/-- Edits that stand as in a normal script, behind one that does d. -/
def Nfc : Int → List Ed → Prop
  | _, [] => True
  | d, e :: r => okp d e.1 ∧ e.2 ≠ [] ∧ (e.1 = 1 ∨ e.1 = 2 ∨ e.1 = 3) ∧ Nfc e.1 r
/-- A normal script. -/
abbrev Nf (es : List Ed) : Prop := Nfc 0 es
theorem Nfc.weak {d : Int} {es : List Ed} (h : Nfc d es) : Nf es := by
  cases es with
  | nil => trivial
  | cons e r => exact ⟨⟨by have := h.2.2.1; omega, by omega⟩, h.2⟩
theorem Nfc.good {es : List Ed} : ∀ {d : Int}, Nfc d es → Good3 es := by
  induction es with
  | nil => intro d _ e he; cases he
  | cons e r ih =>
    intro d h x hx
    rcases List.mem_cons.1 hx with rfl | hx
    · exact h.2.2.1
    · exact ih h.2.2.2 x hx
theorem Nfc.full {es : List Ed} : ∀ {d : Int}, Nfc d es → ∀ e ∈ es, e.2 ≠ [] := by
  induction es with
  | nil => intro d _ e he; cases he
  | cons e r ih =>
    intro d h x hx
    rcases List.mem_cons.1 hx with rfl | hx
    · exact h.2.1
    · exact ih h.2.2.2 x hx
/-- What the last one does, d if there is none. -/
def ldo (d : Int) (es : List Ed) : Int := es.foldl (fun _ e => e.1) d
theorem ldo_snoc (d : Int) (es : List Ed) (e : Ed) : ldo d (es ++ [e]) = e.1 := by simp [ldo]
theorem Nfc.app {es r : List Ed} : ∀ {d : Int}, Nfc d es → Nfc (ldo d es) r → Nfc d (es ++ r) := by
  induction es with
  | nil => intro d _ h; exact h
  | cons e t ih => intro d h h'; exact ⟨h.1, h.2.1, h.2.2.1, ih h.2.2.2 h'⟩
theorem nfc_snoc {es : List Ed} {d : Int} {e : Ed} (h : Nfc d es) (h1 : okp (ldo d es) e.1) (h2 : e.2 ≠ []) (h3 : e.1 = 1 ∨ e.1 = 2 ∨ e.1 = 3) : Nfc d (es ++ [e]) :=
  h.app ⟨h1, h2, h3, trivial⟩
theorem tag_cons (s : Int) (x : Ln) (l : List Ln) : tag s (x :: l) = (s, x) :: tag s l := rfl
theorem tag_app (s : Int) (l m : List Ln) : tag s (l ++ m) = tag s l ++ tag s m := by simp [tag]
theorem flat_app (a b : List Ed) : flat (a ++ b) = flat a ++ flat b := by simp [flat]
theorem flat_cons (e : Ed) (r : List Ed) : flat (e :: r) = tag e.1 e.2 ++ flat r := rfl
theorem flat_nil : flat [] = [] := rfl
/-- The first line of edits that stand so does what the first edit does. -/
theorem flat_head {es : List Ed} {d : Int} (h : Nfc d es) : ∀ x t, flat es = x :: t → okp d x.1 := by
  intro x t hx
  cases es with
  | nil => cases hx
  | cons e r =>
    obtain ⟨s, l⟩ := e
    cases l with
    | nil => exact absurd rfl h.2.1
    | cons y l =>
      rw [flat_cons, tag_cons, List.cons_append] at hx
      cases hx
      exact h.1
theorem grp_flat : ∀ {es : List Ed} {d : Int}, Nfc d es → grp (flat es) = es
  | [], _, _ => rfl
  | (s, l) :: r, d, h => by
    rw [flat_cons, grp_run (s := s) (rest := flat r) (fun x t hx => by have := (flat_head h.2.2.2 x t hx).1; exact fun e => this e.symm) (tag s l) (by have := h.2.1; cases l with | nil => exact absurd rfl this | cons y l => simp [tag]) (fun x hx => by obtain ⟨y, _, rfl⟩ := List.mem_map.1 hx; rfl), tag_snd, grp_flat h.2.2.2]
/-- No line that is put in stands just ahead of one that is taken out. -/
def Cio : Int → List Sl → Prop
  | _, [] => True
  | d, x :: r => ¬ (d = 3 ∧ x.1 = 2) ∧ (x.1 = 1 ∨ x.1 = 2 ∨ x.1 = 3) ∧ Cio x.1 r
theorem cio_tag (s : Int) (hs : s = 1 ∨ s = 2 ∨ s = 3) (r : List Sl) : ∀ (l : List Ln) (d : Int), ¬ (d = 3 ∧ s = 2) → Cio s r → l ≠ [] → Cio d (tag s l ++ r)
  | [], _, _, _, h => absurd rfl h
  | [x], d, h1, h2, _ => ⟨h1, hs, h2⟩
  | x :: y :: l, d, h1, h2, _ => ⟨h1, hs, cio_tag s hs r (y :: l) s (by omega) h2 (by simp)⟩
theorem cio_flat : ∀ {es : List Ed} {d : Int}, Nfc d es → Cio d (flat es)
  | [], _, _ => trivial
  | (s, l) :: r, d, h => by
    rw [flat_cons]
    exact cio_tag s h.2.2.1 _ l d h.1.2 (cio_flat h.2.2.2) h.2.1
theorem fin_fold : ∀ (X : List Sl) (t : Nst), Cio (if t.i = [] then 1 else 3) X → fin (X.foldl nst1 t) = fin t ++ X
  | [], t, _ => by simp
  | x :: X, ⟨d, o, i⟩, h => by
    obtain ⟨s, y⟩ := x
    obtain ⟨h1, h2, h3⟩ := h
    rw [List.foldl_cons]
    simp only at h1 h2 h3
    by_cases e2 : s = 2
    · subst e2
      have hi : i = [] := by
        by_cases hi : i = []
        · exact hi
        · rw [if_neg hi] at h1; exact absurd ⟨rfl, rfl⟩ h1
      subst hi
      have e : nst1 ⟨d, o, []⟩ (2, y) = ⟨d, o ++ [y], []⟩ := by simp [nst1]
      rw [e, fin_fold X _ (by
        simp only [if_true]
        cases X with
        | nil => trivial
        | cons z Z => exact ⟨by omega, h3.2⟩)]
      simp [fin, tag]
    · by_cases e3 : s = 3
      · subst e3
        have e : nst1 ⟨d, o, i⟩ (3, y) = ⟨d, o, i ++ [y]⟩ := by simp [nst1]
        rw [e, fin_fold X _ (by simp only [List.append_eq_nil_iff, List.cons_ne_nil, and_false, if_false]; exact h3)]
        simp [fin, tag]
      · have e : nst1 ⟨d, o, i⟩ (s, y) = ⟨d ++ tag 2 o ++ tag 3 i ++ [(s, y)], [], []⟩ := by simp [nst1, e2, e3]
        rw [e, fin_fold X _ (by
          simp only [if_true]
          cases X with
          | nil => trivial
          | cons z Z => exact ⟨by omega, h3.2⟩)]
        simp [fin, tag]
/-- A script that stands as a normal one is its own normal form. -/
theorem norm_nf {es : List Ed} (h : Nf es) : norm es = es := by
  have h1 : fin (nss (flat es)) = flat es := by
    have := fin_fold (flat es) ⟨[], [], []⟩ (by
      simp only [if_true]
      have := cio_flat h
      cases hf : flat es with
      | nil => trivial
      | cons z Z => rw [hf] at this; exact ⟨by omega, this.2⟩)
    unfold nss
    rw [this]; simp [fin, tag]
  unfold norm
  rw [laid_flat h.good, h1, grp_flat h]
theorem cio_snoc : ∀ (X : List Sl) (d : Int) (x : Sl), Cio d X → (x.1 = 1 ∨ x.1 = 2 ∨ x.1 = 3) → ¬ (X.foldl (fun _ y => y.1) d = 3 ∧ x.1 = 2) → Cio d (X ++ [x])
  | [], _, _, _, h2, h3 => ⟨h3, h2, trivial⟩
  | y :: X, d, x, h1, h2, h3 => ⟨h1.1, h1.2.1, cio_snoc X y.1 x h1.2.2 h2 h3⟩
theorem last_app (X : List Sl) (x : Sl) (d : Int) : (X ++ [x]).foldl (fun _ y => y.1) d = x.1 := by simp
/-- The lines of a normal form. -/
structure Kept (t : Nst) : Prop where
  c : Cio 1 t.d
  e : t.d.foldl (fun _ y => y.1) 1 = 1
theorem cio_run (s : Int) (hs : s = 1 ∨ s = 2 ∨ s = 3) : ∀ (l : List Ln) (X : List Sl) (d : Int), Cio d X → ¬ (X.foldl (fun _ y => y.1) d = 3 ∧ s = 2) → Cio d (X ++ tag s l)
  | [], X, d, h, _ => by simpa [tag] using h
  | x :: l, X, d, h, h2 => by
    rw [tag_cons, show X ++ (s, x) :: tag s l = (X ++ [(s, x)]) ++ tag s l by simp]
    exact cio_run s hs l _ d (cio_snoc X d _ h hs h2) (by rw [last_app]; simp only; omega)
theorem last_run (s : Int) (l : List Ln) (X : List Sl) (d : Int) : (X ++ tag s l).foldl (fun _ y => y.1) d = if l = [] then X.foldl (fun _ y => y.1) d else s := by
  rcases List.eq_nil_or_concat l with rfl | ⟨l, x, rfl⟩
  · simp [tag]
  · rw [List.concat_eq_append, tag_app, ← List.append_assoc]
    simp [tag]
theorem kept_fin {t : Nst} (h : Kept t) : Cio 1 (fin t) := by
  unfold fin
  refine cio_run 3 (by omega) _ _ _ (cio_run 2 (by omega) _ _ _ h.c (by rw [h.e]; omega)) (by omega)
theorem kept_step {t : Nst} (h : Kept t) (x : Sl) (hx : x.1 = 1 ∨ x.1 = 2 ∨ x.1 = 3) : Kept (nst1 t x) := by
  unfold nst1
  by_cases e2 : x.1 = 2
  · rw [if_pos e2]; exact ⟨h.c, h.e⟩
  · rw [if_neg e2]
    by_cases e3 : x.1 = 3
    · rw [if_pos e3]; exact ⟨h.c, h.e⟩
    · rw [if_neg e3]
      refine ⟨cio_snoc _ _ _ (kept_fin h) hx (by omega), ?_⟩
      simp only [last_app]
      omega
theorem kept_all : ∀ (X : List Sl) (t : Nst), GoodX X → Kept t → Kept (X.foldl nst1 t)
  | [], _, _, h => h
  | x :: X, t, hg, h => kept_all X _ (fun y hy => hg y (List.mem_cons_of_mem _ hy)) (kept_step h x (hg x (List.mem_cons_self ..)))
theorem nf_grp : ∀ {X : List Sl} {d : Int}, Cio d X → Nf (grp X)
  | [], _, _ => trivial
  | (s, l) :: r, d, h => by
    have ih := nf_grp h.2.2
    have hs := h.2.1
    simp only at hs
    cases r with
    | nil => exact ⟨⟨by omega, by omega⟩, by simp, hs, trivial⟩
    | cons y r =>
      obtain ⟨s', l'⟩ := y
      obtain ⟨ls, q, hq⟩ := grp_head s' l' r
      rw [hq] at ih
      have hio := h.2.2.1
      simp only at hio
      rw [grp, hq]
      simp only
      by_cases e : s = s'
      · subst e
        simp only [if_true]
        exact ⟨⟨by omega, by omega⟩, by simp, hs, ih.2.2.2⟩
      · first | rw [if_neg e] | simp only [if_neg e]
        exact ⟨⟨by omega, by omega⟩, by simp, hs, ⟨⟨e, hio⟩, ih.2⟩⟩
/-- A normal form stands as one. -/
theorem nf_norm {es : List Ed} (h : Good3 es) : Nf (norm es) := by
  unfold norm
  rw [laid_flat h]
  exact nf_grp (kept_fin (kept_all (flat es) _ (good_flat h) ⟨trivial, rfl⟩))
theorem nf_nrm (es : List Ed) : Nf (nrm es) := by
  unfold nrm
  by_cases hc : ck es = 0
  · rw [if_pos hc]; exact nf_norm (ck_ok hc).2.2
  · rw [if_neg hc]; trivial
end Go.Proofs.Ytigghcmbdnidnaa.H
