/-
  Scripts that are normal (plain).
  Hunks (plain): what they are, those of a script, what holds of them.
  Hunks (plain): the whole text of them, how many, how much they change.
  The reference's Sides, with the room of its rows.
-/
import Derived.Test.YtimalohdchhjgaaGsh
import Derived.Test.YtimalohdchhjgaaGse
namespace Go.Proofs.Ytimalohdchhjgaa.H
set_option linter.unusedVariables false
set_option linter.unusedSimpArgs false
open T S
open N (Ln)

/-- May an edit that does y stand behind one that does x? -/
def okp (x y : Int) : Prop := x ≠ y ∧ ¬ (x = 3 ∧ y = 2)
/-- Edits that stand as in a normal script, behind one that does d. -/
def Nfc : Int → List Ed → Prop
  | _, [] => True
  | d, e :: r => okp d e.1 ∧ e.2 ≠ [] ∧ (e.1 = 1 ∨ e.1 = 2 ∨ e.1 = 3) ∧ Nfc e.1 r
/-- A normal script. -/
abbrev Nf (es : List Ed) : Prop := Nfc 0 es
theorem Nfc.weak {d : Int} {es : List Ed} (h : Nfc d es) : Nf es := by
  cases es with
  | nil => trivial
  | cons e r => exact ⟨⟨by have := h.2.2.1; omega, by omega⟩, h.2⟩
theorem Nfc.good {es : List Ed} : ∀ {d : Int}, Nfc d es → Good3 es := by
  induction es with
  | nil => intro d _ e he; cases he
  | cons e r ih =>
    intro d h x hx
    rcases List.mem_cons.1 hx with rfl | hx
    · exact h.2.2.1
    · exact ih h.2.2.2 x hx
theorem Nfc.full {es : List Ed} : ∀ {d : Int}, Nfc d es → ∀ e ∈ es, e.2 ≠ [] := by
  induction es with
  | nil => intro d _ e he; cases he
  | cons e r ih =>
    intro d h x hx
    rcases List.mem_cons.1 hx with rfl | hx
    · exact h.2.1
    · exact ih h.2.2.2 x hx
/-- What the last one does, d if there is none. -/
def ldo (d : Int) (es : List Ed) : Int := es.foldl (fun _ e => e.1) d
theorem ldo_snoc (d : Int) (es : List Ed) (e : Ed) : ldo d (es ++ [e]) = e.1 := by simp [ldo]
theorem Nfc.app {es r : List Ed} : ∀ {d : Int}, Nfc d es → Nfc (ldo d es) r → Nfc d (es ++ r) := by
  induction es with
  | nil => intro d _ h; exact h
  | cons e t ih => intro d h h'; exact ⟨h.1, h.2.1, h.2.2.1, ih h.2.2.2 h'⟩
theorem nfc_snoc {es : List Ed} {d : Int} {e : Ed} (h : Nfc d es) (h1 : okp (ldo d es) e.1) (h2 : e.2 ≠ []) (h3 : e.1 = 1 ∨ e.1 = 2 ∨ e.1 = 3) : Nfc d (es ++ [e]) :=
  h.app ⟨h1, h2, h3, trivial⟩
theorem tag_cons (s : Int) (x : Ln) (l : List Ln) : tag s (x :: l) = (s, x) :: tag s l := rfl
theorem tag_app (s : Int) (l m : List Ln) : tag s (l ++ m) = tag s l ++ tag s m := by simp [tag]
theorem flat_app (a b : List Ed) : flat (a ++ b) = flat a ++ flat b := by simp [flat]
theorem flat_cons (e : Ed) (r : List Ed) : flat (e :: r) = tag e.1 e.2 ++ flat r := rfl
theorem flat_nil : flat [] = [] := rfl
/-- The first line of edits that stand so does what the first edit does. -/
theorem flat_head {es : List Ed} {d : Int} (h : Nfc d es) : ∀ x t, flat es = x :: t → okp d x.1 := by
  intro x t hx
  cases es with
  | nil => cases hx
  | cons e r =>
    obtain ⟨s, l⟩ := e
    cases l with
    | nil => exact absurd rfl h.2.1
    | cons y l =>
      rw [flat_cons, tag_cons, List.cons_append] at hx
      cases hx
      exact h.1
theorem grp_flat : ∀ {es : List Ed} {d : Int}, Nfc d es → grp (flat es) = es
  | [], _, _ => rfl
  | (s, l) :: r, d, h => by
    rw [flat_cons, grp_run (s := s) (rest := flat r) (fun x t hx => by have := (flat_head h.2.2.2 x t hx).1; exact fun e => this e.symm) (tag s l) (by have := h.2.1; cases l with | nil => exact absurd rfl this | cons y l => simp [tag]) (fun x hx => by obtain ⟨y, _, rfl⟩ := List.mem_map.1 hx; rfl), tag_snd, grp_flat h.2.2.2]
/-- No line that is put in stands just ahead of one that is taken out. -/
def Cio : Int → List Sl → Prop
  | _, [] => True
  | d, x :: r => ¬ (d = 3 ∧ x.1 = 2) ∧ (x.1 = 1 ∨ x.1 = 2 ∨ x.1 = 3) ∧ Cio x.1 r
theorem cio_tag (s : Int) (hs : s = 1 ∨ s = 2 ∨ s = 3) (r : List Sl) : ∀ (l : List Ln) (d : Int), ¬ (d = 3 ∧ s = 2) → Cio s r → l ≠ [] → Cio d (tag s l ++ r)
  | [], _, _, _, h => absurd rfl h
  | [x], d, h1, h2, _ => ⟨h1, hs, h2⟩
  | x :: y :: l, d, h1, h2, _ => ⟨h1, hs, cio_tag s hs r (y :: l) s (by omega) h2 (by simp)⟩
theorem cio_flat : ∀ {es : List Ed} {d : Int}, Nfc d es → Cio d (flat es)
  | [], _, _ => trivial
  | (s, l) :: r, d, h => by
    rw [flat_cons]
    exact cio_tag s h.2.2.1 _ l d h.1.2 (cio_flat h.2.2.2) h.2.1
theorem fin_fold : ∀ (X : List Sl) (t : Nst), Cio (if t.i = [] then 1 else 3) X → fin (X.foldl nst1 t) = fin t ++ X
  | [], t, _ => by simp
  | x :: X, ⟨d, o, i⟩, h => by
    obtain ⟨s, y⟩ := x
    obtain ⟨h1, h2, h3⟩ := h
    rw [List.foldl_cons]
    simp only at h1 h2 h3
    by_cases e2 : s = 2
    · subst e2
      have hi : i = [] := by
        by_cases hi : i = []
        · exact hi
        · rw [if_neg hi] at h1; exact absurd ⟨rfl, rfl⟩ h1
      subst hi
      have e : nst1 ⟨d, o, []⟩ (2, y) = ⟨d, o ++ [y], []⟩ := by simp [nst1]
      rw [e, fin_fold X _ (by
        simp only [if_true]
        cases X with
        | nil => trivial
        | cons z Z => exact ⟨by omega, h3.2⟩)]
      simp [fin, tag]
    · by_cases e3 : s = 3
      · subst e3
        have e : nst1 ⟨d, o, i⟩ (3, y) = ⟨d, o, i ++ [y]⟩ := by simp [nst1]
        rw [e, fin_fold X _ (by simp only [List.append_eq_nil_iff, List.cons_ne_nil, and_false, if_false]; exact h3)]
        simp [fin, tag]
      · have e : nst1 ⟨d, o, i⟩ (s, y) = ⟨d ++ tag 2 o ++ tag 3 i ++ [(s, y)], [], []⟩ := by simp [nst1, e2, e3]
        rw [e, fin_fold X _ (by
          simp only [if_true]
          cases X with
          | nil => trivial
          | cons z Z => exact ⟨by omega, h3.2⟩)]
        simp [fin, tag]
/-- A script that stands as a normal one is its own normal form. -/
theorem norm_nf {es : List Ed} (h : Nf es) : norm es = es := by
  have h1 : fin (nss (flat es)) = flat es := by
    have := fin_fold (flat es) ⟨[], [], []⟩ (by
      simp only [if_true]
      have := cio_flat h
      cases hf : flat es with
      | nil => trivial
      | cons z Z => rw [hf] at this; exact ⟨by omega, this.2⟩)
    unfold nss
    rw [this]; simp [fin, tag]
  unfold norm
  rw [laid_flat h.good, h1, grp_flat h]
theorem cio_snoc : ∀ (X : List Sl) (d : Int) (x : Sl), Cio d X → (x.1 = 1 ∨ x.1 = 2 ∨ x.1 = 3) → ¬ (X.foldl (fun _ y => y.1) d = 3 ∧ x.1 = 2) → Cio d (X ++ [x])
  | [], _, _, _, h2, h3 => ⟨h3, h2, trivial⟩
  | y :: X, d, x, h1, h2, h3 => ⟨h1.1, h1.2.1, cio_snoc X y.1 x h1.2.2 h2 h3⟩
theorem last_app (X : List Sl) (x : Sl) (d : Int) : (X ++ [x]).foldl (fun _ y => y.1) d = x.1 := by simp
/-- The lines of a normal form. -/
structure Kept (t : Nst) : Prop where
  c : Cio 1 t.d
  e : t.d.foldl (fun _ y => y.1) 1 = 1
theorem cio_run (s : Int) (hs : s = 1 ∨ s = 2 ∨ s = 3) : ∀ (l : List Ln) (X : List Sl) (d : Int), Cio d X → ¬ (X.foldl (fun _ y => y.1) d = 3 ∧ s = 2) → Cio d (X ++ tag s l)
  | [], X, d, h, _ => by simpa [tag] using h
  | x :: l, X, d, h, h2 => by
    rw [tag_cons, show X ++ (s, x) :: tag s l = (X ++ [(s, x)]) ++ tag s l by simp]
    exact cio_run s hs l _ d (cio_snoc X d _ h hs h2) (by rw [last_app]; simp only; omega)
theorem last_run (s : Int) (l : List Ln) (X : List Sl) (d : Int) : (X ++ tag s l).foldl (fun _ y => y.1) d = if l = [] then X.foldl (fun _ y => y.1) d else s := by
  rcases List.eq_nil_or_concat l with rfl | ⟨l, x, rfl⟩
  · simp [tag]
  · rw [List.concat_eq_append, tag_app, ← List.append_assoc]
    simp [tag]
theorem kept_fin {t : Nst} (h : Kept t) : Cio 1 (fin t) := by
  unfold fin
  refine cio_run 3 (by omega) _ _ _ (cio_run 2 (by omega) _ _ _ h.c (by rw [h.e]; omega)) (by omega)
theorem kept_step {t : Nst} (h : Kept t) (x : Sl) (hx : x.1 = 1 ∨ x.1 = 2 ∨ x.1 = 3) : Kept (nst1 t x) := by
  unfold nst1
  by_cases e2 : x.1 = 2
  · rw [if_pos e2]; exact ⟨h.c, h.e⟩
  · rw [if_neg e2]
    by_cases e3 : x.1 = 3
    · rw [if_pos e3]; exact ⟨h.c, h.e⟩
    · rw [if_neg e3]
      refine ⟨cio_snoc _ _ _ (kept_fin h) hx (by omega), ?_⟩
      simp only [last_app]
      omega
theorem kept_all : ∀ (X : List Sl) (t : Nst), GoodX X → Kept t → Kept (X.foldl nst1 t)
  | [], _, _, h => h
  | x :: X, t, hg, h => kept_all X _ (fun y hy => hg y (List.mem_cons_of_mem _ hy)) (kept_step h x (hg x (List.mem_cons_self ..)))
theorem nf_grp : ∀ {X : List Sl} {d : Int}, Cio d X → Nf (grp X)
  | [], _, _ => trivial
  | (s, l) :: r, d, h => by
    have ih := nf_grp h.2.2
    have hs := h.2.1
    simp only at hs
    cases r with
    | nil => exact ⟨⟨by omega, by omega⟩, by simp, hs, trivial⟩
    | cons y r =>
      obtain ⟨s', l'⟩ := y
      obtain ⟨ls, q, hq⟩ := grp_head s' l' r
      rw [hq] at ih
      have hio := h.2.2.1
      simp only at hio
      rw [grp, hq]
      simp only
      by_cases e : s = s'
      · subst e
        simp only [if_true]
        exact ⟨⟨by omega, by omega⟩, by simp, hs, ih.2.2.2⟩
      · first | rw [if_neg e] | simp only [if_neg e]
        exact ⟨⟨by omega, by omega⟩, by simp, hs, ⟨⟨e, hio⟩, ih.2⟩⟩
/-- A normal form stands as one. -/
theorem nf_norm {es : List Ed} (h : Good3 es) : Nf (norm es) := by
  unfold norm
  rw [laid_flat h]
  exact nf_grp (kept_fin (kept_all (flat es) _ (good_flat h) ⟨trivial, rfl⟩))
theorem nf_nrm (es : List Ed) : Nf (nrm es) := by
  unfold nrm
  by_cases hc : ck es = 0
  · rw [if_pos hc]; exact nf_norm (ck_ok hc).2.2
  · rw [if_neg hc]; trivial
end Go.Proofs.Ytimalohdchhjgaa.H

namespace Go.Proofs.Ytimalohdchhjgaa.H
set_option linter.unusedVariables false
set_option linter.unusedSimpArgs false
open T S
open N (Ln)

/-- A hunk. -/
structure Hk where
  oa : Int
  o : Int
  na : Int
  n : Int
  es : List Ed
def lenO (d : Int) (l : List Ln) : Nat := if d = 3 then 0 else l.length
def lenN (d : Int) (l : List Ln) : Nat := if d = 2 then 0 else l.length
/-- A hunk with an edit more. -/
def putH (d : Int) (l : List Ln) (h : Hk) : Hk := if l = [] then h else ⟨h.oa, h.o + lenO d l, h.na, h.n + lenN d l, h.es ++ [(d, l)]⟩
/-- A hunk without edits. -/
def newH (a b : Nat) : Hk := ⟨a, 0, b, 0, []⟩
/-- The hunks of a normal script's rest, behind a hunk that goes on. -/
def hg (c a b : Nat) (h : Hk) : List Ed → List Hk
  | [] => [h]
  | e :: r => if e.1 = 1 then
      (if r = [] then [putH 1 (e.2.take c) h]
      else if e.2.length ≤ 2 * c then hg c (a + e.2.length) (b + e.2.length) (putH 1 e.2 h) r
      else putH 1 (e.2.take c) h :: hg c (a + e.2.length) (b + e.2.length) (putH 1 (e.2.drop (e.2.length - c)) (newH (a + (e.2.length - c)) (b + (e.2.length - c)))) r)
    else hg c (a + lenO e.1 e.2) (b + lenN e.1 e.2) (putH e.1 e.2 h) r
/-- The hunks of a normal script. -/
def bld (c : Nat) : List Ed → List Hk
  | [] => []
  | e :: r => if e.1 = 1 then (if r = [] then [] else hg c e.2.length e.2.length (putH 1 (e.2.drop (e.2.length - c)) (newH (e.2.length - c) (e.2.length - c))) r)
    else hg c (lenO e.1 e.2) (lenN e.1 e.2) (putH e.1 e.2 (newH 0 0)) r
def join (hs : List Hk) : List Ed := hs.flatMap fun h => h.es
/-- Is a hunk right? -/
def rgt (h : Hk) : Bool := decide (0 ≤ h.oa ∧ h.oa ≤ 400 ∧ 0 ≤ h.o ∧ h.o ≤ 400 ∧ 0 ≤ h.na ∧ h.na ≤ 400 ∧ 0 ≤ h.n ∧ h.n ≤ 400) && (decide (ck h.es = 0) && (decide (norm h.es = h.es) && (decide (chg h.es ≠ 0) && decide (h.o = ((sides h.es).1.length : Int) ∧ h.n = ((sides h.es).2.length : Int)))))
/-- Does a hunk stand behind places x and y? -/
def flw (x y : Int) (h : Hk) : Bool := decide (x ≤ h.oa ∧ h.oa - x = h.na - y)
def chain : Int → Int → List Hk → Bool
  | _, _, [] => true
  | x, y, h :: r => rgt h && flw x y h && chain (h.oa + h.o) (h.na + h.n) r
/-- Check. -/
def hck (hs : List Hk) : Int := if 400 < hs.length ∨ hs.any (fun h => decide (ck h.es = 4)) then 4 else if chain 0 0 hs then 0 else 3
/-- Does a hunk's old side stand in a text? -/
def stn (a : List Ln) (h : Hk) : Bool := decide (h.oa + h.o ≤ (a.length : Int) ∧ (sides h.es).1 = (a.drop h.oa.toNat).take h.o.toNat)
/-- A whole text's edits, from a place on. -/
def wl (a : List Ln) : Nat → List Hk → List Ed
  | p, [] => [(1, a.drop p)]
  | p, h :: r => (1, (a.drop p).take (h.oa.toNat - p)) :: (h.es ++ wl a (h.oa + h.o).toNat r)
/-- Whole. -/
def whl (hs : List Hk) (a : List Ln) : List Ed × Int :=
  if hck hs = 0 then (if 400 < a.length then ([], 4) else if hs.all (stn a) then (nrm (wl a 0 hs), ck (wl a 0 hs)) else ([], 8)) else ([], hck hs)
/-- Build. -/
def build (es : List Ed) (c : Int) : List Hk × Int := if ck es = 0 then (if c < 0 ∨ 20 < c then ([], 2) else (bld c.toNat (norm es), 0)) else ([], ck es)

theorem putH_nil (d : Int) (h : Hk) : putH d [] h = h := by simp [putH]
theorem putH_es (d : Int) (l : List Ln) (h : Hk) : flat (putH d l h).es = flat h.es ++ tag d l := by
  unfold putH
  by_cases e : l = []
  · subst e; simp [tag]
  · rw [if_neg e]; simp [flat]
theorem putH_oa (d : Int) (l : List Ln) (h : Hk) : (putH d l h).oa = h.oa := by unfold putH; split <;> rfl
theorem putH_na (d : Int) (l : List Ln) (h : Hk) : (putH d l h).na = h.na := by unfold putH; split <;> rfl
theorem putH_o (d : Int) (l : List Ln) (h : Hk) : (putH d l h).o = h.o + lenO d l := by
  unfold putH
  by_cases e : l = []
  · subst e; simp [lenO]
  · rw [if_neg e]
theorem putH_n (d : Int) (l : List Ln) (h : Hk) : (putH d l h).n = h.n + lenN d l := by
  unfold putH
  by_cases e : l = []
  · subst e; simp [lenN]
  · rw [if_neg e]
theorem lenO_sdl (d : Int) (l : List Ln) : (sdl 3 (tag d l)).length = lenO d l := by rw [sdl_tag]; unfold lenO; split <;> rfl
theorem lenN_sdl (d : Int) (l : List Ln) : (sdl 2 (tag d l)).length = lenN d l := by rw [sdl_tag]; unfold lenN; split <;> rfl

/-- A hunk that goes on: what was done last is d. -/
structure Op (c : Nat) (d : Int) (h : Hk) : Prop where
  nf : Nf h.es
  last : h.es ≠ [] → ldo 0 h.es = d
  emp : h.es = [] → d = 1
  o : h.o = ((sd 3 h.es).length : Int)
  n : h.n = ((sd 2 h.es).length : Int)
  keep : ∀ e ∈ h.es, e.1 = 1 → e.2.length ≤ 2 * c
  first : ∀ e, h.es.head? = some e → e.1 = 1 → e.2.length ≤ c
/-- A hunk that has ended. -/
structure Cl (c : Nat) (h : Hk) : Prop where
  nf : Nf h.es
  o : h.o = ((sd 3 h.es).length : Int)
  n : h.n = ((sd 2 h.es).length : Int)
  keep : ∀ e ∈ h.es, e.1 = 1 → e.2.length ≤ 2 * c
  first : ∀ e, h.es.head? = some e → e.1 = 1 → e.2.length ≤ c
  last : ∀ e, h.es.getLast? = some e → e.1 = 1 → e.2.length ≤ c
  some : ∃ e ∈ h.es, e.1 ≠ 1
theorem ldo_last (es : List Ed) (h : es ≠ []) : ldo 0 es = (es.getLast h).1 := by
  rcases List.eq_nil_or_concat es with rfl | ⟨l, x, rfl⟩
  · exact absurd rfl h
  · simp [ldo]
theorem sd_app (b : Int) (x y : List Ed) : sd b (x ++ y) = sd b x ++ sd b y := by simp [sd]
theorem sd_one (b d : Int) (l : List Ln) : sd b [(d, l)] = if d = b then [] else l := by simp [sd]
theorem Op.put {c : Nat} {d : Int} {h : Hk} (ho : Op c d h) {s : Int} {l : List Ln} (h1 : okp d s) (h2 : l ≠ []) (h3 : s = 1 ∨ s = 2 ∨ s = 3) (hk : s = 1 → l.length ≤ 2 * c) (hf : h.es = [] → s = 1 → l.length ≤ c) : Op c s (putH s l h) := by
  unfold putH
  rw [if_neg h2]
  refine ⟨?_, fun _ => by simp [ldo], fun e => by simp at e, ?_, ?_, ?_, ?_⟩
  · refine nfc_snoc ho.nf ?_ h2 h3
    by_cases e : h.es = []
    · rw [e]; exact ⟨by simp [ldo]; omega, by simp [ldo]⟩
    · rw [ho.last e]; exact h1
  · simp only [sd_app, sd_one, List.length_append]
    rw [ho.o]; unfold lenO
    split <;> simp
  · simp only [sd_app, sd_one, List.length_append]
    rw [ho.n]; unfold lenN
    split <;> simp
  · intro e he h1
    rcases List.mem_append.1 he with he | he
    · exact ho.keep e he h1
    · obtain rfl := List.mem_singleton.1 he
      exact hk h1
  · intro e he h1
    by_cases q : h.es = []
    · simp only [q, List.nil_append, List.head?_cons, Option.some.injEq] at he
      subst he
      exact hf q h1
    · refine ho.first e ?_ h1
      cases hh : h.es with
      | nil => exact absurd hh q
      | cons x t => rw [hh] at he; simpa using he
theorem Op.close {c : Nat} {d : Int} {h : Hk} (ho : Op c d h) (hd : d ≠ 1) : Cl c h := by
  have hne : h.es ≠ [] := fun e => hd (ho.emp e)
  have hl := ldo_last h.es hne
  rw [ho.last hne] at hl
  refine ⟨ho.nf, ho.o, ho.n, ho.keep, ho.first, fun e he h1 => ?_, ⟨_, List.getLast_mem hne, by rw [← hl]; exact hd⟩⟩
  rw [List.getLast?_eq_some_getLast hne] at he
  obtain rfl := Option.some.inj he
  exact absurd (hl.trans h1) hd
theorem Op.shut {c : Nat} {d : Int} {h : Hk} (ho : Op c d h) (hd : okp d 1) {l : List Ln} (hl : l.length ≤ c) : Cl c (putH 1 l h) := by
  have hd1 := hd.1
  by_cases e : l = []
  · subst e; rw [putH_nil]; exact ho.close hd1
  · have hp := ho.put hd e (.inl rfl) (fun _ => by omega) (fun q _ => hl)
    refine ⟨hp.nf, hp.o, hp.n, hp.keep, hp.first, fun x hx _ => ?_, ?_⟩
    · unfold putH at hx
      rw [if_neg e] at hx
      simp at hx
      subst hx
      exact hl
    · obtain ⟨x, hx, h1⟩ := (ho.close hd1).some
      exact ⟨x, by unfold putH; rw [if_neg e]; exact List.mem_append_left _ hx, h1⟩
theorem op_new (c a b : Nat) : Op c 1 (newH a b) := ⟨trivial, fun h => absurd rfl h, fun _ => rfl, rfl, rfl, fun e he => by simp [newH] at he, fun e he => by simp [newH] at he⟩
theorem op_keep {c a b : Nat} {l : List Ln} (hl : l.length ≤ c) : Op c 1 (putH 1 l (newH a b)) := by
  by_cases e : l = []
  · subst e; rw [putH_nil]; exact op_new c a b
  · unfold putH
    rw [if_neg e]
    refine ⟨⟨⟨by simp, by simp⟩, e, .inl rfl, trivial⟩, fun _ => rfl, fun h => by simp [newH] at h, ?_, ?_, ?_, ?_⟩
    · simp [newH, sd, lenO]
    · simp [newH, sd, lenN]
    · intro x hx _
      simp [newH] at hx
      subst hx
      simp only; omega
    · intro x hx _
      simp [newH] at hx
      subst hx
      exact hl
theorem op_chg {c a b : Nat} {d : Int} {l : List Ln} (hd : d = 2 ∨ d = 3) (h : l ≠ []) : Op c d (putH d l (newH a b)) :=
  (op_new c a b).put ⟨by omega, by omega⟩ h (by omega) (fun e => by omega) (fun _ e => by omega)
/-- Each of a script's hunks has ended right. -/
theorem hg_cl {c : Nat} : ∀ (r : List Ed) (a b : Nat) (d : Int) (h : Hk), Op c d h → Nfc d r → (r = [] → d ≠ 1) → ∀ x ∈ hg c a b h r, Cl c x
  | [], a, b, d, h, ho, _, hd, x, hx => by
    obtain rfl := List.mem_singleton.1 hx
    exact ho.close (hd rfl)
  | e :: r, a, b, d, h, ho, hn, _, x, hx => by
    obtain ⟨s, l⟩ := e
    obtain ⟨h1, h2, h3, h4⟩ := hn
    simp only at h1 h2 h3 h4
    rw [hg] at hx
    simp only at hx
    by_cases hs : s = 1
    · subst hs
      rw [if_pos rfl] at hx
      by_cases hr : r = []
      · rw [if_pos hr] at hx
        obtain rfl := List.mem_singleton.1 hx
        exact ho.shut h1 (by rw [List.length_take]; omega)
      · rw [if_neg hr] at hx
        by_cases hl : l.length ≤ 2 * c
        · rw [if_pos hl] at hx
          by_cases he : h.es = []
          · exact absurd (ho.emp he) h1.1
          · exact hg_cl r _ _ 1 _ (ho.put h1 h2 (.inl rfl) (fun _ => hl) (fun q => absurd q he)) h4 (fun q => absurd q hr) x hx
        · rw [if_neg hl] at hx
          rcases List.mem_cons.1 hx with rfl | hx
          · exact ho.shut h1 (by rw [List.length_take]; omega)
          · exact hg_cl r _ _ 1 _ (op_keep (by rw [List.length_drop]; omega)) h4 (fun q => absurd q hr) x hx
    · rw [if_neg hs] at hx
      exact hg_cl r _ _ s _ (ho.put h1 h2 h3 (fun q => absurd q hs) (fun _ q => absurd q hs)) h4 (fun _ => hs) x hx
theorem bld_cl {c : Nat} {es : List Ed} (h : Nf es) : ∀ x ∈ bld c es, Cl c x := by
  intro x hx
  cases es with
  | nil => cases hx
  | cons e r =>
    obtain ⟨s, l⟩ := e
    obtain ⟨h1, h2, h3, h4⟩ := h
    simp only at h1 h2 h3 h4
    rw [bld] at hx
    simp only at hx
    by_cases hs : s = 1
    · subst hs
      rw [if_pos rfl] at hx
      by_cases hr : r = []
      · rw [if_pos hr] at hx; cases hx
      · rw [if_neg hr] at hx
        exact hg_cl r _ _ 1 _ (op_keep (by rw [List.length_drop]; omega)) h4 (fun q => absurd q hr) x hx
    · rw [if_neg hs] at hx
      exact hg_cl r _ _ s _ (op_chg (by omega) h2) h4 (fun _ => hs) x hx
/-- Hunks that stand behind each other, from places x and y on, all ahead of p and q. -/
def Row (p q : Nat) : Bool → Int → Int → List Hk → Prop
  | _, x, y, [] => x ≤ p ∧ y ≤ q
  | st, x, y, h :: r => x ≤ h.oa ∧ (st = true → x < h.oa) ∧ h.oa - x = h.na - y ∧ 0 ≤ h.o ∧ 0 ≤ h.n ∧ Row p q true (h.oa + h.o) (h.na + h.n) r
theorem hg_row {c p q : Nat} : ∀ (r : List Ed) (a b : Nat) (h : Hk) (st : Bool) (x y : Int), (a : Int) = h.oa + h.o → (b : Int) = h.na + h.n → 0 ≤ h.o → 0 ≤ h.n → x ≤ h.oa → (st = true → x < h.oa) → h.oa - x = h.na - y → a + tl r ≤ p → b + tl r ≤ q → Row p q st x y (hg c a b h r)
  | [], a, b, h, st, x, y, h1, h2, h3, h4, h5, h6, h7, h8, h9 => ⟨h5, h6, h7, h3, h4, by simp [tl] at h8; omega, by simp [tl] at h9; omega⟩
  | e :: r, a, b, h, st, x, y, h1, h2, h3, h4, h5, h6, h7, h8, h9 => by
    obtain ⟨s, l⟩ := e
    have ht : tl ((s, l) :: r) = l.length + tl r := by simp [tl]
    rw [ht] at h8 h9
    rw [hg]
    simp only
    have o1 := putH_oa; have n1 := putH_na; have o2 := putH_o; have n2 := putH_n
    have z1 : lenO s l ≤ l.length := by unfold lenO; split <;> omega
    have z2 : lenN s l ≤ l.length := by unfold lenN; split <;> omega
    by_cases hs : s = 1
    · subst hs
      have y1 : ∀ m : List Ln, lenO 1 m = m.length := fun m => rfl
      have y2 : ∀ m : List Ln, lenN 1 m = m.length := fun m => rfl
      rw [if_pos rfl]
      by_cases hr : r = []
      · rw [if_pos hr]
        have hm : (l.take c).length ≤ l.length := by rw [List.length_take]; omega
        refine ⟨by rw [o1]; exact h5, fun q => by rw [o1]; exact h6 q, by rw [o1, n1]; exact h7, by rw [o2]; omega, by rw [n2]; omega, ?_, ?_⟩
        · rw [o1, o2, y1]; omega
        · rw [n1, n2, y2]; omega
      · rw [if_neg hr]
        by_cases hl : l.length ≤ 2 * c
        · rw [if_pos hl]
          exact hg_row r _ _ _ st x y (by rw [o1, o2, y1]; push_cast; omega) (by rw [n1, n2, y2]; push_cast; omega) (by rw [o2]; omega) (by rw [n2]; omega) (by rw [o1]; exact h5) (fun q => by rw [o1]; exact h6 q) (by rw [o1, n1]; exact h7) (by omega) (by omega)
        · rw [if_neg hl]
          have hm : (l.take c).length = c := by rw [List.length_take]; omega
          have hd : (l.drop (l.length - c)).length = c := by rw [List.length_drop]; omega
          refine ⟨by rw [o1]; exact h5, fun q => by rw [o1]; exact h6 q, by rw [o1, n1]; exact h7, by rw [o2]; omega, by rw [n2]; omega, ?_⟩
          have oo : (newH (a + (l.length - c)) (b + (l.length - c))).oa = ((a + (l.length - c) : Nat) : Int) := rfl
          have nn : (newH (a + (l.length - c)) (b + (l.length - c))).na = ((b + (l.length - c) : Nat) : Int) := rfl
          have o0 : (newH (a + (l.length - c)) (b + (l.length - c))).o = 0 := rfl
          have n0 : (newH (a + (l.length - c)) (b + (l.length - c))).n = 0 := rfl
          exact hg_row r _ _ _ true _ _ (by rw [o1, o2, y1, hd, oo, o0]; omega) (by rw [n1, n2, y2, hd, nn, n0]; omega) (by rw [o2, y1, hd, o0]; omega) (by rw [n2, y2, hd, n0]; omega) (by rw [o1, o1, o2, y1, hm, oo]; omega) (fun _ => by rw [o1, o1, o2, y1, hm, oo]; omega) (by rw [o1, n1, o1, n1, o2, n2, y1, y2, hm, oo, nn]; omega) (by omega) (by omega)
    · rw [if_neg hs]
      exact hg_row r _ _ _ st x y (by rw [o1, o2]; push_cast; omega) (by rw [n1, n2]; push_cast; omega) (by rw [o2]; omega) (by rw [n2]; omega) (by rw [o1]; exact h5) (fun q => by rw [o1]; exact h6 q) (by rw [o1, n1]; exact h7) (by omega) (by omega)
theorem bld_row {c : Nat} {es : List Ed} : Row (tl es) (tl es) false 0 0 (bld c es) := by
  cases es with
  | nil => exact ⟨Int.le_refl _, Int.le_refl _⟩
  | cons e r =>
    obtain ⟨s, l⟩ := e
    have ht : tl ((s, l) :: r) = l.length + tl r := by simp [tl]
    have o1 := putH_oa; have n1 := putH_na; have o2 := putH_o; have n2 := putH_n
    have z1 : lenO s l ≤ l.length := by unfold lenO; split <;> omega
    have z2 : lenN s l ≤ l.length := by unfold lenN; split <;> omega
    rw [bld]
    simp only
    by_cases hs : s = 1
    · subst hs
      have y1 : ∀ m : List Ln, lenO 1 m = m.length := fun m => rfl
      have y2 : ∀ m : List Ln, lenN 1 m = m.length := fun m => rfl
      rw [if_pos rfl]
      by_cases hr : r = []
      · rw [if_pos hr]; exact ⟨by omega, by omega⟩
      · rw [if_neg hr]
        have hd : (l.drop (l.length - c)).length = min l.length c := by rw [List.length_drop]; omega
        have oo : (newH (l.length - c) (l.length - c)).oa = ((l.length - c : Nat) : Int) := rfl
        have nn : (newH (l.length - c) (l.length - c)).na = ((l.length - c : Nat) : Int) := rfl
        have o0 : (newH (l.length - c) (l.length - c)).o = 0 := rfl
        have n0 : (newH (l.length - c) (l.length - c)).n = 0 := rfl
        exact hg_row r _ _ _ false 0 0 (by rw [o1, o2, y1, hd, oo, o0]; omega) (by rw [n1, n2, y2, hd, nn, n0]; omega) (by rw [o2, y1, hd, o0]; omega) (by rw [n2, y2, hd, n0]; omega) (by rw [o1, oo] <;> omega) (fun q => by cases q) (by rw [o1, n1, oo, nn] <;> omega) (by omega) (by omega)
    · rw [if_neg hs]
      have oo : (newH 0 0).oa = 0 := rfl
      have nn : (newH 0 0).na = 0 := rfl
      have o0 : (newH 0 0).o = 0 := rfl
      have n0 : (newH 0 0).n = 0 := rfl
      exact hg_row r _ _ _ false 0 0 (by rw [o1, o2, oo, o0]; omega) (by rw [n1, n2, nn, n0]; omega) (by rw [o2, o0]; omega) (by rw [n2, n0]; omega) (by rw [o1, oo] <;> omega) (fun q => by cases q) (by rw [o1, n1, oo, nn] <;> omega) (by omega) (by omega)
theorem row_fits {p q : Nat} : ∀ (hs : List Hk) (st : Bool) (x y : Int), Row p q st x y hs → x ≤ p ∧ y ≤ q
  | [], _, _, _, h => h
  | h :: r, st, x, y, ⟨h1, _, h3, h4, h5, h6⟩ => by
    have := row_fits r _ _ _ h6
    omega
end Go.Proofs.Ytimalohdchhjgaa.H

namespace Go.Proofs.Ytimalohdchhjgaa.H
set_option linter.unusedVariables false
set_option linter.unusedSimpArgs false
open T S
open N (Ln)

theorem flat_join_cons (h : Hk) (r : List Hk) : join (h :: r) = h.es ++ join r := rfl
theorem chgN_app (a b : List Ed) : chgN (a ++ b) = chgN a + chgN b := by simp [chgN, List.sum_append]
theorem chgN_cons (e : Ed) (r : List Ed) : chgN (e :: r) = (if e.1 == 2 || e.1 == 3 then e.2.length else 0) + chgN r := by simp [chgN]
theorem tl_cons (e : Ed) (r : List Ed) : tl (e :: r) = e.2.length + tl r := by simp [tl]
theorem putH_chg (d : Int) (l : List Ln) (h : Hk) : chgN (putH d l h).es = chgN h.es + if d == 2 || d == 3 then l.length else 0 := by
  rw [chgN_flat, chgN_flat, putH_es, cnt_app, cnt_tag]
theorem putH_tl (d : Int) (l : List Ln) (h : Hk) : tl (putH d l h).es = tl h.es + l.length := by
  rw [tl_flat, tl_flat, putH_es, List.length_append, tag_len]
theorem hg_chg {c : Nat} : ∀ (r : List Ed) (a b : Nat) (h : Hk), chgN (join (hg c a b h r)) = chgN h.es + chgN r
  | [], a, b, h => by simp [hg, join, chgN]
  | (s, l) :: r, a, b, h => by
    rw [hg, chgN_cons]
    simp only
    by_cases hs : s = 1
    · subst hs
      rw [if_pos rfl]
      have e1 : ∀ m : List Ln, ∀ g : Hk, chgN (putH 1 m g).es = chgN g.es := fun m g => by rw [putH_chg]; simp
      by_cases hr : r = []
      · subst hr
        rw [if_pos rfl, flat_join_cons, chgN_app, e1]; simp [join, chgN]
      · rw [if_neg hr]
        by_cases hl : l.length ≤ 2 * c
        · rw [if_pos hl, hg_chg r, e1]; simp
        · rw [if_neg hl, flat_join_cons, chgN_app, hg_chg r, e1, e1]; simp [newH, chgN]
    · rw [if_neg hs, hg_chg r, putH_chg]; omega
theorem bld_chg {c : Nat} (es : List Ed) : chgN (join (bld c es)) = chgN es := by
  cases es with
  | nil => rfl
  | cons e r =>
    obtain ⟨s, l⟩ := e
    rw [bld, chgN_cons]
    simp only
    by_cases hs : s = 1
    · subst hs
      rw [if_pos rfl]
      by_cases hr : r = []
      · subst hr; rw [if_pos rfl]; simp [join, chgN]
      · rw [if_neg hr, hg_chg, putH_chg]; simp [newH, chgN]
    · rw [if_neg hs, hg_chg, putH_chg]; simp [newH, chgN]
theorem hg_tl {c : Nat} : ∀ (r : List Ed) (a b : Nat) (h : Hk), tl (join (hg c a b h r)) ≤ tl h.es + tl r
  | [], a, b, h => by simp [hg, join, tl]
  | (s, l) :: r, a, b, h => by
    rw [hg, tl_cons]
    simp only
    by_cases hs : s = 1
    · subst hs
      rw [if_pos rfl]
      by_cases hr : r = []
      · subst hr
        rw [if_pos rfl, flat_join_cons, tl_app, putH_tl, List.length_take]; simp [join, tl]; omega
      · rw [if_neg hr]
        by_cases hl : l.length ≤ 2 * c
        · rw [if_pos hl]
          have := hg_tl (c := c) r (a + l.length) (b + l.length) (putH 1 l h)
          rw [putH_tl] at this
          omega
        · rw [if_neg hl, flat_join_cons, tl_app, putH_tl, List.length_take]
          have := hg_tl (c := c) r (a + l.length) (b + l.length) (putH 1 (l.drop (l.length - c)) (newH (a + (l.length - c)) (b + (l.length - c))))
          rw [putH_tl, List.length_drop] at this
          have e0 : tl (newH (a + (l.length - c)) (b + (l.length - c))).es = 0 := rfl
          omega
    · rw [if_neg hs]
      have := hg_tl (c := c) r (a + lenO s l) (b + lenN s l) (putH s l h)
      rw [putH_tl] at this
      omega
theorem bld_tl {c : Nat} (es : List Ed) : tl (join (bld c es)) ≤ tl es := by
  cases es with
  | nil => exact Nat.le_refl _
  | cons e r =>
    obtain ⟨s, l⟩ := e
    rw [bld, tl_cons]
    simp only
    by_cases hs : s = 1
    · subst hs
      rw [if_pos rfl]
      by_cases hr : r = []
      · subst hr; rw [if_pos rfl]; simp [join, tl]
      · rw [if_neg hr]
        have := hg_tl (c := c) r l.length l.length (putH 1 (l.drop (l.length - c)) (newH (l.length - c) (l.length - c)))
        rw [putH_tl, List.length_drop] at this
        have e0 : tl (newH (l.length - c) (l.length - c)).es = 0 := rfl
        omega
    · rw [if_neg hs]
      have := hg_tl (c := c) r (lenO s l) (lenN s l) (putH s l (newH 0 0))
      rw [putH_tl] at this
      have e0 : tl (newH 0 0).es = 0 := rfl
      omega
theorem hg_len {c c' : Nat} (hc : c ≤ c') : ∀ (r : List Ed) (a b a' b' : Nat) (h h' : Hk), (hg c' a' b' h' r).length ≤ (hg c a b h r).length ∧ 1 ≤ (hg c' a' b' h' r).length
  | [], _, _, _, _, _, _ => ⟨Nat.le_refl _, Nat.le_refl _⟩
  | (s, l) :: r, a, b, a', b', h, h' => by
    rw [hg, hg]
    simp only
    by_cases hs : s = 1
    · subst hs
      rw [if_pos rfl, if_pos rfl]
      by_cases hr : r = []
      · rw [if_pos hr, if_pos hr]; exact ⟨Nat.le_refl _, Nat.le_refl _⟩
      · rw [if_neg hr, if_neg hr]
        by_cases hl : l.length ≤ 2 * c
        · rw [if_pos hl, if_pos (by omega)]; exact hg_len hc r _ _ _ _ _ _
        · rw [if_neg hl]
          by_cases hl' : l.length ≤ 2 * c'
          · rw [if_pos hl']
            have := hg_len hc r (a + l.length) (b + l.length) (a' + l.length) (b' + l.length) (putH 1 (l.drop (l.length - c)) (newH (a + (l.length - c)) (b + (l.length - c)))) (putH 1 l h')
            rw [List.length_cons]; omega
          · rw [if_neg hl']
            have := hg_len hc r (a + l.length) (b + l.length) (a' + l.length) (b' + l.length) (putH 1 (l.drop (l.length - c)) (newH (a + (l.length - c)) (b + (l.length - c)))) (putH 1 (l.drop (l.length - c')) (newH (a' + (l.length - c')) (b' + (l.length - c'))))
            rw [List.length_cons, List.length_cons]; omega
    · rw [if_neg hs, if_neg hs]; exact hg_len hc r _ _ _ _ _ _
/-- With more lines around there are not more hunks. -/
theorem bld_fewer {c c' : Nat} (hc : c ≤ c') (es : List Ed) : (bld c' es).length ≤ (bld c es).length := by
  cases es with
  | nil => exact Nat.le_refl _
  | cons e r =>
    rw [bld, bld]
    by_cases hs : e.1 = 1
    · rw [if_pos hs, if_pos hs]
      by_cases hr : r = []
      · rw [if_pos hr, if_pos hr]; exact Nat.le_refl _
      · rw [if_neg hr, if_neg hr]; exact (hg_len hc r _ _ _ _ _ _).1
    · rw [if_neg hs, if_neg hs]; exact (hg_len hc r _ _ _ _ _ _).1
theorem hg_many {c : Nat} : ∀ (r : List Ed) (a b : Nat) (h : Hk), (hg c a b h r).length ≤ r.length + 1
  | [], _, _, _ => Nat.le_refl _
  | e :: r, a, b, h => by
    rw [hg, List.length_cons]
    by_cases hs : e.1 = 1
    · rw [if_pos hs]
      by_cases hr : r = []
      · rw [if_pos hr]; simp
      · rw [if_neg hr]
        by_cases hl : e.2.length ≤ 2 * c
        · rw [if_pos hl]; exact Nat.le_succ_of_le (hg_many r _ _ _)
        · rw [if_neg hl, List.length_cons]; exact Nat.succ_le_succ (hg_many r _ _ _)
    · rw [if_neg hs]; exact Nat.le_succ_of_le (hg_many r _ _ _)
theorem bld_many {c : Nat} (es : List Ed) : (bld c es).length ≤ es.length := by
  cases es with
  | nil => exact Nat.le_refl _
  | cons e r =>
    rw [bld, List.length_cons]
    by_cases hs : e.1 = 1
    · rw [if_pos hs]
      by_cases hr : r = []
      · rw [if_pos hr]; simp
      · rw [if_neg hr]; exact hg_many r _ _ _
    · rw [if_neg hs]; exact hg_many r _ _ _
theorem full_len : ∀ {es : List Ed} {d : Int}, Nfc d es → es.length ≤ tl es
  | [], _, _ => Nat.le_refl _
  | e :: r, d, h => by
    have := full_len h.2.2.2
    have h1 : 0 < e.2.length := List.length_pos_iff.2 h.2.1
    rw [List.length_cons, tl_cons]; omega
theorem tl_mem : ∀ {hs : List Hk} {h : Hk}, h ∈ hs → tl h.es ≤ tl (join hs)
  | x :: r, h, hm => by
    rw [flat_join_cons, tl_app]
    rcases List.mem_cons.1 hm with rfl | hm
    · omega
    · have := tl_mem hm; omega
/-- What is right with a hunk that has ended. -/
theorem Cl.ck {c : Nat} {h : Hk} (hc : Cl c h) (ht : tl h.es ≤ 400) : ck h.es = 0 ∧ norm h.es = h.es ∧ chg h.es ≠ 0 ∧ sides h.es = (sd 3 h.es, sd 2 h.es) ∧ h.o ≤ 400 ∧ h.n ≤ 400 ∧ 0 ≤ h.o ∧ 0 ≤ h.n := by
  have h1 := full_len hc.nf
  have hk : S.ck h.es = 0 := ck_of (by omega) (by omega) hc.nf.good
  refine ⟨hk, norm_nf hc.nf, ?_, by unfold sides; rw [if_pos hk], ?_⟩
  · rw [chg_small (by omega)]
    obtain ⟨e, he, h2⟩ := hc.some
    have h3 := hc.nf.good e he
    have h4 := hc.nf.full e he
    have : 0 < chgN h.es := by
      clear hk h1 hc ht
      generalize h.es = es at *
      induction es with
      | nil => cases he
      | cons x r ih =>
        rw [chgN_cons]
        rcases List.mem_cons.1 he with rfl | he
        · have := List.length_pos_iff.2 h4
          have h5 : (e.1 == 2 || e.1 == 3) = true := by simp; omega
          rw [if_pos h5]; omega
        · have := ih he; omega
    omega
  · have := sd_len 3 h.es
    have := sd_len 2 h.es
    have := hc.o
    have := hc.n
    omega
theorem row_chain {p q : Nat} (hp : p ≤ 400) (hq : q ≤ 400) : ∀ (hs : List Hk) (st : Bool) (x y : Int), 0 ≤ x → 0 ≤ y → Row p q st x y hs → (∀ h ∈ hs, ∃ c, Cl c h ∧ tl h.es ≤ 400) → chain x y hs = true
  | [], _, _, _, _, _, _, _ => rfl
  | h :: r, st, x, y, hx, hy, ⟨h1, h2, h3, h4, h5, h6⟩, hc => by
    have hf := row_fits _ _ _ _ h6
    obtain ⟨c, hc1, hc2⟩ := hc h (List.mem_cons_self ..)
    obtain ⟨k1, k2, k3, k4, k5, k6, k7, k8⟩ := hc1.ck hc2
    have ho := hc1.o; have hn := hc1.n
    unfold chain
    rw [row_chain hp hq r true _ _ (by omega) (by omega) h6 (fun z hz => hc z (List.mem_cons_of_mem _ hz)), Bool.and_true, Bool.and_eq_true]
    constructor
    · unfold rgt
      rw [k4]
      simp only [Bool.and_eq_true, decide_eq_true_eq]
      exact ⟨⟨by omega, by omega, k7, k5, by omega, by omega, k8, k6⟩, k1, k2, k3, ho, hn⟩
    · unfold flw; exact decide_eq_true ⟨h1, h3⟩
/-- A script's hunks are right. -/
theorem bld_ck {c : Nat} {es : List Ed} (h : Nf es) (ht : tl es ≤ 400) : hck (bld c es) = 0 := by
  have h1 := bld_many (c := c) es
  have h2 := full_len h
  have h3 : ∀ x ∈ bld c es, ∃ c, Cl c x ∧ tl x.es ≤ 400 := fun x hx => ⟨c, bld_cl h x hx, by have := tl_mem hx; have := bld_tl (c := c) es; omega⟩
  unfold hck
  rw [if_neg, if_pos (row_chain (p := tl es) (q := tl es) ht ht _ false 0 0 (Int.le_refl _) (Int.le_refl _) bld_row h3)]
  rintro (h4 | h4)
  · omega
  · obtain ⟨x, hx, h5⟩ := List.any_eq_true.1 h4
    obtain ⟨d, hd1, hd2⟩ := h3 x hx
    have := (hd1.ck hd2).1
    simp [this] at h5
theorem drop_take_sub {l : List Ln} {c : Nat} (h : 2 * c ≤ l.length) : l.take c ++ ((l.drop c).take (l.length - c - c) ++ l.drop (l.length - c)) = l := by
  have h1 : l.drop (l.length - c) = (l.drop c).drop (l.length - c - c) := by rw [List.drop_drop]; congr 1; omega
  rw [h1, List.take_append_drop, List.take_append_drop]
/-- What a hunk of a script stands on. -/
def On (A : List Ln) (x : Hk) : Prop := ∃ q : Nat, x.oa = (q : Int) ∧ q + (sd 3 x.es).length ≤ A.length ∧ ∃ R, A.drop q = sd 3 x.es ++ R
theorem hg_wl {c : Nat} (A : List Ln) : ∀ (r : List Ed) (a b p q : Nat) (h : Hk), h.oa = (q : Int) → h.o = ((sd 3 h.es).length : Int) → p ≤ q → a = q + (sd 3 h.es).length → A.drop q = sd 3 h.es ++ sd 3 r → q + (sd 3 h.es).length + (sd 3 r).length = A.length →
    flat (wl A p (hg c a b h r)) = tag 1 ((A.drop p).take (q - p)) ++ flat h.es ++ flat r ∧ ∀ x ∈ hg c a b h r, On A x
  | [], a, b, p, q, h, h1, h2, h3, h4, h5, h6 => by
    have e0 : sd 3 ([] : List Ed) = [] := rfl
    rw [e0] at h5 h6
    rw [hg]
    constructor
    · rw [wl, wl, flat_cons, flat_app, h1, h2, show ((q : Int) + ((sd 3 h.es).length : Int)).toNat = q + (sd 3 h.es).length by omega, Int.toNat_natCast, ← List.drop_drop, h5, List.append_nil, List.drop_length]
      simp [flat, tag]
    · intro x hx
      obtain rfl := List.mem_singleton.1 hx
      exact ⟨q, h1, by omega, [], by rw [h5]⟩
  | (s, l) :: r, a, b, p, q, h, h1, h2, h3, h4, h5, h6 => by
    have esd : sd 3 ((s, l) :: r) = (if s = 3 then [] else l) ++ sd 3 r := by simp [sd]
    have pes : ∀ (m : List Ln) (g : Hk), sd 3 (putH s m g).es = sd 3 g.es ++ if s = 3 then [] else m := fun m g => by
      rw [sd_flat, putH_es, sdl_app, ← sd_flat, sdl_tag]
    have pno : ∀ (m : List Ln), (if s = 3 then [] else m : List Ln).length = lenO s m := fun m => by unfold lenO; split <;> rfl
    have po : ∀ (m : List Ln) (g : Hk), g.o = ((sd 3 g.es).length : Int) → (putH s m g).o = ((sd 3 (putH s m g).es).length : Int) := fun m g hg => by
      rw [putH_o, pes, List.length_append, pno, hg]; push_cast; rfl
    rw [esd, List.length_append, pno] at h6
    rw [esd] at h5
    rw [hg]
    simp only
    by_cases hs : s = 1
    · subst hs
      have e13 : ∀ m : List Ln, (if (1 : Int) = 3 then [] else m) = m := fun m => if_neg (by omega)
      have y1 : ∀ m : List Ln, lenO 1 m = m.length := fun m => rfl
      simp only [e13] at h5 pes
      rw [y1] at h6
      rw [if_pos rfl]
      by_cases hr : r = []
      · subst hr
        have e0 : sd 3 ([] : List Ed) = [] := rfl
        rw [e0, List.append_nil] at h5
        rw [e0] at h6
        rw [if_pos rfl]
        have hlt := List.length_take (i := c) (l := l)
        constructor
        · rw [wl, wl, flat_cons, flat_app, putH_oa, putH_o, putH_es, h1, h2, y1, show ((q : Int) + (((sd 3 h.es).length : Int) + ((l.take c).length : Int))).toNat = q + ((sd 3 h.es).length + (l.take c).length) by omega, Int.toNat_natCast, ← List.drop_drop, h5, ← List.drop_drop, List.drop_left]
          have : l.take c ++ l.drop (l.take c).length = l := by
            rw [hlt]
            by_cases hcl : c ≤ l.length
            · rw [Nat.min_eq_left hcl, List.take_append_drop]
            · rw [Nat.min_eq_right (by omega), List.take_of_length_le (by omega), List.drop_length, List.append_nil]
          rw [flat_cons, flat_cons, flat_nil, List.append_nil, List.append_nil]
          simp only [List.append_assoc]
          rw [← tag_app, this]
        · intro x hx
          obtain rfl := List.mem_singleton.1 hx
          refine ⟨q, by rw [putH_oa, h1], by rw [pes, List.length_append, hlt]; simp only [List.length_nil] at h6; omega, l.drop c, ?_⟩
          rw [pes, h5, List.append_assoc, List.take_append_drop]
      · rw [if_neg hr]
        by_cases hl : l.length ≤ 2 * c
        · rw [if_pos hl]
          have ih := hg_wl (c := c) A r (a + l.length) (b + l.length) p q (putH 1 l h) (by rw [putH_oa, h1]) (po l h h2) h3 (by rw [pes, List.length_append]; omega) (by rw [pes, h5, List.append_assoc]) (by rw [pes, List.length_append]; omega)
          refine ⟨?_, ih.2⟩
          rw [ih.1, putH_es, flat_cons]
          simp only [List.append_assoc]
        · rw [if_neg hl]
          have hm : (l.take c).length = c := by rw [List.length_take]; omega
          have hdl : (l.drop (l.length - c)).length = c := by rw [List.length_drop]; omega
          have ha : A.drop a = l ++ sd 3 r := by rw [h4, ← List.drop_drop, h5, List.drop_left]
          obtain ⟨g, hg⟩ : ∃ g, g = newH (a + (l.length - c)) (b + (l.length - c)) := ⟨_, rfl⟩
          have g1 : g.oa = ((a + (l.length - c) : Nat) : Int) := by rw [hg]; rfl
          have g2 : g.o = ((sd 3 g.es).length : Int) := by rw [hg]; rfl
          have g3 : sd 3 g.es = [] := by rw [hg]; rfl
          have g4 : flat g.es = [] := by rw [hg]; rfl
          rw [← hg]
          have ih := hg_wl (c := c) A r (a + l.length) (b + l.length) (a + c) (a + (l.length - c)) (putH 1 (l.drop (l.length - c)) g) (by rw [putH_oa, g1]) (po _ g g2) (by omega) (by rw [pes, g3, List.nil_append, hdl]; omega)
            (by rw [pes, g3, List.nil_append, ← List.drop_drop, ha, List.drop_append_of_le_length (by omega)]) (by rw [pes, g3, List.nil_append, hdl]; omega)
          constructor
          · rw [wl, flat_cons, flat_app, putH_oa, putH_o, putH_es, h1, h2, y1, hm, show ((q : Int) + (((sd 3 h.es).length : Int) + ((c : Nat) : Int))).toNat = a + c by omega, Int.toNat_natCast, ih.1, putH_es, g4, List.nil_append, ← List.drop_drop, ha, List.drop_append_of_le_length (by omega), List.take_append_of_le_length (by rw [List.length_drop]; omega), flat_cons]
            have hx := drop_take_sub (l := l) (c := c) (by omega)
            rw [show a + (l.length - c) - (a + c) = l.length - c - c by omega]
            have : tag 1 l = tag 1 (l.take c) ++ (tag 1 ((l.drop c).take (l.length - c - c)) ++ tag 1 (l.drop (l.length - c))) := by rw [← tag_app, ← tag_app, hx]
            rw [this]
            simp only [List.append_assoc]
          · intro x hx
            rcases List.mem_cons.1 hx with rfl | hx
            · refine ⟨q, by rw [putH_oa, h1], by rw [pes, List.length_append, hm]; omega, l.drop c ++ sd 3 r, ?_⟩
              rw [pes, h5, List.append_assoc, ← List.append_assoc (l.take c), List.take_append_drop]
            · exact ih.2 x hx
    · rw [if_neg hs]
      have ih := hg_wl (c := c) A r (a + lenO s l) (b + lenN s l) p q (putH s l h) (by rw [putH_oa, h1]) (po l h h2) h3 (by rw [pes, List.length_append, pno]; omega) (by rw [pes, h5, List.append_assoc]) (by rw [pes, List.length_append, pno]; omega)
      refine ⟨?_, ih.2⟩
      rw [ih.1, putH_es, flat_cons]
      simp only [List.append_assoc]
/-- The whole text's edits are the script's, line by line. -/
theorem bld_wl {c : Nat} (es : List Ed) (hn : Nf es) : flat (wl (sd 3 es) 0 (bld c es)) = flat es ∧ ∀ x ∈ bld c es, On (sd 3 es) x := by
  cases es with
  | nil => exact ⟨rfl, fun x hx => by cases hx⟩
  | cons e r =>
    obtain ⟨s, l⟩ := e
    have h3 := hn.2.2.1
    simp only at h3
    obtain ⟨A, hA⟩ : ∃ A, A = sd 3 ((s, l) :: r) := ⟨_, rfl⟩
    have esd : sd 3 ((s, l) :: r) = (if s = 3 then [] else l) ++ sd 3 r := by simp [sd]
    have pes : ∀ (m : List Ln) (g : Hk), sd 3 (putH s m g).es = sd 3 g.es ++ if s = 3 then [] else m := fun m g => by
      rw [sd_flat, putH_es, sdl_app, ← sd_flat, sdl_tag]
    have pno : ∀ (m : List Ln), (if s = 3 then [] else m : List Ln).length = lenO s m := fun m => by unfold lenO; split <;> rfl
    have po : ∀ (m : List Ln) (g : Hk), g.o = ((sd 3 g.es).length : Int) → (putH s m g).o = ((sd 3 (putH s m g).es).length : Int) := fun m g hg => by
      rw [putH_o, pes, List.length_append, pno, hg]; push_cast; rfl
    rw [esd] at hA
    rw [← esd] at hA
    rw [← hA]
    rw [esd] at hA
    rw [bld]
    simp only
    by_cases hs : s = 1
    · subst hs
      have e13 : ∀ m : List Ln, (if (1 : Int) = 3 then [] else m) = m := fun m => if_neg (by omega)
      simp only [e13] at hA pes
      rw [if_pos rfl]
      by_cases hr : r = []
      · subst hr
        rw [if_pos rfl]
        have e0 : sd 3 ([] : List Ed) = [] := rfl
        rw [e0, List.append_nil] at hA
        subst hA
        exact ⟨by simp [wl, flat], fun x hx => by cases hx⟩
      · rw [if_neg hr]
        obtain ⟨g, hg⟩ : ∃ g, g = newH (l.length - c) (l.length - c) := ⟨_, rfl⟩
        have g1 : g.oa = ((l.length - c : Nat) : Int) := by rw [hg]; rfl
        have g2 : g.o = ((sd 3 g.es).length : Int) := by rw [hg]; rfl
        have g3 : sd 3 g.es = [] := by rw [hg]; rfl
        have g4 : flat g.es = [] := by rw [hg]; rfl
        rw [← hg]
        have hdl : (l.drop (l.length - c)).length = min l.length c := by rw [List.length_drop]; omega
        have hAl : A.length = l.length + (sd 3 r).length := by rw [hA, List.length_append]
        have ih := hg_wl (c := c) A r l.length l.length 0 (l.length - c) (putH 1 (l.drop (l.length - c)) g) (by rw [putH_oa, g1]) (po _ g g2) (by omega) (by rw [pes, g3, List.nil_append, hdl]; omega)
            (by rw [pes, g3, List.nil_append, hA, List.drop_append_of_le_length (by omega)]) (by rw [pes, g3, List.nil_append, hdl, hAl]; omega)
        refine ⟨?_, ih.2⟩
        rw [ih.1, putH_es, g4, List.nil_append, List.drop_zero, Nat.sub_zero, hA, List.take_append_of_le_length (by omega), flat_cons, ← tag_app, List.take_append_drop]
    · rw [if_neg hs]
      have g3 : sd 3 (newH 0 0).es = [] := rfl
      have hAl : A.length = lenO s l + (sd 3 r).length := by rw [hA, List.length_append, pno]
      have ih := hg_wl (c := c) A r (lenO s l) (lenN s l) 0 0 (putH s l (newH 0 0)) (by rw [putH_oa]; rfl) (po l _ rfl) (Nat.le_refl _) (by rw [pes, g3, List.nil_append, pno]; omega) (by rw [pes, g3, List.nil_append, List.drop_zero, hA]) (by rw [pes, g3, List.nil_append, pno]; omega)
      refine ⟨?_, ih.2⟩
      rw [ih.1, putH_es, flat_cons]
      simp [tag, newH, flat]
end Go.Proofs.Ytimalohdchhjgaa.H

namespace Go.Proofs.Ytimalohdchhjgaa.H
set_option linter.unusedVariables false
set_option linter.unusedSimpArgs false
open Go.RowKit
open T S
open V (grown_of)
open I (alloc1 own_at own_below)
open N (Ln)

def LpEnd (w : World) (r : List Ln) (e : Ending) (w' : World) : Prop := ∃ A cap, e = .returned (.slice A r.length cap) ∧ LinesIn w' A r ∧ r.length ≤ cap ∧ Below w.heap.size w w'
set_option maxRecDepth 100000 in
set_option maxHeartbeats 4000000 in
theorem rside_cap (but : Int) (A : Option Addr) (c b : Nat) (es : List Ed) (w : World) (hE : EdsIn b w A es) (hel : es.length ≤ 800) (htl : tl es ≤ 800) :
    Calls Try.prog 34 #[.slice A es.length c, .int .i64 but] w (LpEnd w (sd but es)) := by
  have HE := Lib.hid hE
  obtain ⟨W0, hW0⟩ : ∃ W : World, W = w.alloc (.cells #[] 51) := ⟨_, rfl⟩
  have HO0 : Hid (W0.ownsRow w.heap.size 51 2 (.slice (some ⟨w.heap.size, 0, none⟩) 0 0) ([] : List Ln).length (lineCells [])) := Lib.hid (by rw [hW0]; exact World.ownsRow_made (size := 2) (e := 51) w #[] 0 (Nat.le_refl _) (by unfold maxLen; omega) rfl)
  have HB0 := Lib.hid (show Below w.heap.size w W0 by rw [hW0]; exact alloc1 _ _)
  clear hE
  go_enter Try.func34, Try.ntmps34
  go_wp2_with fail
  rw [← hW0]
  clear hW0
  go_loopg [5, 6] es.length (fun m ov iv wr => ∃ (k : Nat) (o : List Ln), k ≤ es.length ∧ iv = .int .i64 k ∧ es.length - k ≤ m ∧ Hid (o = sd but (es.take k)) ∧ Hid (wr.ownsRow w.heap.size 51 2 ov o.length (lineCells o)) ∧ Hid (Below w.heap.size w wr))
  case atStart => exact ⟨0, [], Nat.zero_le _, rfl, by omega, Lib.hid rfl, HO0, HB0⟩
  case round =>
    clear HO0 HB0
    obtain ⟨k, o, hk, rfl, hmm, HT, HO, HB⟩ := hrel
    obtain ⟨oA, ocap, rfl, hoc, -⟩ := own_form HO.out
    have HOC := Lib.hid hoc
    clear hoc
    have hol : o.length ≤ 800 := by rw [HT.out]; have := sd_len but (es.take k); have := tl_le es k; omega
    by_cases hlt : k < es.length
    · obtain ⟨bk, off, LA, lc, hAe, c0, c1, g2, -, g4⟩ := edit_at HE.out HB.out hlt
      subst hAe
      have HL1 : Hid (LinesIn wr LA es[k].2) := Lib.hid (g2.below HB.out)
      have HLN := Lib.hid g4
      have hel4 : es[k].2.length ≤ 800 := by have := tl_take hlt; have := tl_le es (k + 1); omega
      have HNS : Hid (sd but (es.take (k + 1)) = o ++ (if es[k].1 = but then [] else es[k].2)) := Lib.hid (by rw [sd_take hlt, ← HT.out])
      generalize es[k] = e at *
      obtain ⟨d, l⟩ := e
      simp only at c0 c1 hel4 HL1 HLN HNS
      have h0k : (0 : Int) ≤ (k : Int) := by omega
      have hki : (k : Int) < (es.length : Int) := by omega
      have hbr := HB.out.size
      clear g2 g4
      by_cases hd : d = but
      · have hnb : (d != but) = false := by simp [hd]
        have HN2 : Hid (sd but (es.take (k + 1)) = o) := Lib.hid (by rw [HNS.out, if_pos hd]; simp)
        clear hd
        go_wp2_with fail
        go_roundg (es.length - (k + 1))
        case rel => exact ⟨k + 1, o, by omega, by go_num, Nat.le_refl _, Lib.hid HN2.out.symm, HO, HB⟩
        case measure => omega
      · have hnb : (d != but) = true := by simpa [bne] using hd
        have HN2 : Hid (sd but (es.take (k + 1)) = o ++ l) := Lib.hid (by rw [HNS.out, if_neg hd])
        clear hd
        go_wp2_with (at_builtin; refine wpList_append_lines (w := wr) rfl (.tmp 21) (.tmp 26) rfl w.heap.size (.slice oA o.length ocap) o l rfl HO.out LA lc rfl HL1.out HLN.out (by omega) hbr ?_; intro v' w4 ho4 hg4 hat4; have HO4 := Lib.hid ho4; have HB4 := Lib.hid (HB.out.grown hg4 hbr (fun q e => own_base HO.out q e)); clear ho4 hg4 hat4)
        go_roundg (es.length - (k + 1))
        case rel => exact ⟨k + 1, o ++ l, by omega, by go_num, Nat.le_refl _, Lib.hid HN2.out.symm, HO4, HB4⟩
        case measure => omega
    · obtain rfl : k = es.length := by omega
      rw [List.take_length] at HT
      have ht := HT.out
      subst ht
      go_wp2_with fail
      go_ret
      exact ⟨oA, ocap, rfl, own_lines HO.out, HOC.out, HB.out⟩
def RpEnd (w : World) (b a : List Ln) (e : Ending) (w' : World) : Prop :=
  ∃ A ca B cb, e = .returned (.tuple #[.slice A b.length ca, .slice B a.length cb, .int .i64 0]) ∧ LinesIn w' A b ∧ b.length ≤ ca ∧ Below w.heap.size w w'
set_option maxRecDepth 100000 in
set_option maxHeartbeats 4000000 in
theorem rsides_cap (A : Option Addr) (c b : Nat) (es : List Ed) (w : World) (hE : EdsIn b w A es) (hok : EdsOk es) (hc : ck es = 0) :
    Calls Try.prog 19 #[.slice A es.length c] w (RpEnd w (sd 3 es) (sd 2 es)) := by
  have HC := Lib.hid (rcheck_any A c b es w hE hok)
  · obtain ⟨hel, htl, hd3⟩ := ck_ok hc
    have H3 := Lib.hid (fun (W : World) (h : Below w.heap.size w W) => rside_cap 3 A c b es W (hE.below h) hel htl)
    have H2 := Lib.hid (fun (W : World) (h : Below w.heap.size w W) => rside_cap 2 A c b es W (hE.below h) hel htl)
    rw [hc] at HC
    clear hE hok hd3 hc
    go_enter Try.func19, Try.ntmps19
    go_wp2_with fail
    with_reducible refine (HC.out).mono ?_
    rintro e w1 ⟨rfl, hb1⟩
    have HB1 := Lib.hid hb1
    clear hb1
    go_wp2_with fail
    with_reducible refine (H3.out w1 HB1.out).mono ?_
    rintro e w2 ⟨XA, xc, rfl, hx2, hxc, hb2⟩
    have HXC := Lib.hid hxc
    clear hxc
    have HX2 := Lib.hid hx2
    have HB2 := Lib.hid (HB1.out.trans (hb2.mono HB1.out.size))
    clear hx2 hb2
    go_wp2_with fail
    with_reducible refine (H2.out w2 HB2.out).mono ?_
    rintro e w3 ⟨YA, yc, rfl, hx3, -, hb3⟩
    have HX3 := Lib.hid (HX2.out.below hb3)
    have HY3 := Lib.hid hx3
    have HB3 := Lib.hid (HB2.out.trans (hb3.mono HB2.out.size))
    clear hx3 hb3
    go_wp2_with fail
    go_ret3
    exact ⟨XA, xc, YA, yc, rfl, HX3.out, HXC.out, HB3.out⟩
end Go.Proofs.Ytimalohdchhjgaa.H
