/-
  Hunks (plain): what they are, those of a script, what holds of them.
  Hunks in memory: read, and while they are made.
  put: an edit more in a hunk that is made.
  end and begin: a hunk that is ended, and one that begins.
  stay and change: what a hunk does with lines that stay, and with a change.
  Build.
  same, EqualFunc and the reference's Same on any two scripts.
-/
import Derived.Test.YtigghcmbdnidnaaGpl
import Derived.BigQuiet
import Derived.Test.YtigghcmbdnidnaaGpj
namespace Go.Proofs.Ytigghcmbdnidnaa.H
set_option linter.unusedVariables false
set_option linter.unusedSimpArgs false
open T S
open N (Ln)

/-- A hunk. -/
structure Hk where
  oa : Int
  o : Int
  na : Int
  n : Int
  es : List Ed
def lenO (d : Int) (l : List Ln) : Nat := if d = 3 then 0 else l.length
def lenN (d : Int) (l : List Ln) : Nat := if d = 2 then 0 else l.length
/-- A hunk with an edit more. -/
def putH (d : Int) (l : List Ln) (h : Hk) : Hk := if l = [] then h else ⟨h.oa, h.o + lenO d l, h.na, h.n + lenN d l, h.es ++ [(d, l)]⟩
/-- A hunk without edits. -/
def newH (a b : Nat) : Hk := ⟨a, 0, b, 0, []⟩
/-- The hunks of a normal script's rest, behind a hunk that goes on. -/
def hg (c a b : Nat) (h : Hk) : List Ed → List Hk
  | [] => [h]
  | e :: r => if e.1 = 1 then
      (if r = [] then [putH 1 (e.2.take c) h]
      else if e.2.length ≤ 2 * c then hg c (a + e.2.length) (b + e.2.length) (putH 1 e.2 h) r
      else putH 1 (e.2.take c) h :: hg c (a + e.2.length) (b + e.2.length) (putH 1 (e.2.drop (e.2.length - c)) (newH (a + (e.2.length - c)) (b + (e.2.length - c)))) r)
    else hg c (a + lenO e.1 e.2) (b + lenN e.1 e.2) (putH e.1 e.2 h) r
/-- The hunks of a normal script. -/
def bld (c : Nat) : List Ed → List Hk
  | [] => []
  | e :: r => if e.1 = 1 then (if r = [] then [] else hg c e.2.length e.2.length (putH 1 (e.2.drop (e.2.length - c)) (newH (e.2.length - c) (e.2.length - c))) r)
    else hg c (lenO e.1 e.2) (lenN e.1 e.2) (putH e.1 e.2 (newH 0 0)) r
def join (hs : List Hk) : List Ed := hs.flatMap fun h => h.es
/-- Is a hunk right? -/
def rgt (h : Hk) : Bool := decide (0 ≤ h.oa ∧ h.oa ≤ 400 ∧ 0 ≤ h.o ∧ h.o ≤ 400 ∧ 0 ≤ h.na ∧ h.na ≤ 400 ∧ 0 ≤ h.n ∧ h.n ≤ 400) && (decide (ck h.es = 0) && (decide (norm h.es = h.es) && (decide (chg h.es ≠ 0) && decide (h.o = ((sides h.es).1.length : Int) ∧ h.n = ((sides h.es).2.length : Int)))))
/-- Does a hunk stand behind places x and y? -/
def flw (x y : Int) (h : Hk) : Bool := decide (x ≤ h.oa ∧ h.oa - x = h.na - y)
def chain : Int → Int → List Hk → Bool
  | _, _, [] => true
  | x, y, h :: r => rgt h && flw x y h && chain (h.oa + h.o) (h.na + h.n) r
/-- Check. -/
def hck (hs : List Hk) : Int := if 400 < hs.length ∨ hs.any (fun h => decide (ck h.es = 4)) then 4 else if chain 0 0 hs then 0 else 3
/-- Does a hunk's old side stand in a text? -/
def stn (a : List Ln) (h : Hk) : Bool := decide (h.oa + h.o ≤ (a.length : Int) ∧ (sides h.es).1 = (a.drop h.oa.toNat).take h.o.toNat)
/-- A whole text's edits, from a place on. -/
def wl (a : List Ln) : Nat → List Hk → List Ed
  | p, [] => [(1, a.drop p)]
  | p, h :: r => (1, (a.drop p).take (h.oa.toNat - p)) :: (h.es ++ wl a (h.oa + h.o).toNat r)
/-- Whole. -/
def whl (hs : List Hk) (a : List Ln) : List Ed × Int :=
  if hck hs = 0 then (if 400 < a.length then ([], 4) else if hs.all (stn a) then (nrm (wl a 0 hs), ck (wl a 0 hs)) else ([], 8)) else ([], hck hs)
/-- Build. -/
def build (es : List Ed) (c : Int) : List Hk × Int := if ck es = 0 then (if c < 0 ∨ 20 < c then ([], 2) else (bld c.toNat (norm es), 0)) else ([], ck es)

theorem putH_nil (d : Int) (h : Hk) : putH d [] h = h := by simp [putH]
theorem putH_es (d : Int) (l : List Ln) (h : Hk) : flat (putH d l h).es = flat h.es ++ tag d l := by
  unfold putH
  by_cases e : l = []
  · subst e; simp [tag]
  · rw [if_neg e]; simp [flat]
theorem putH_oa (d : Int) (l : List Ln) (h : Hk) : (putH d l h).oa = h.oa := by unfold putH; split <;> rfl
theorem putH_na (d : Int) (l : List Ln) (h : Hk) : (putH d l h).na = h.na := by unfold putH; split <;> rfl
theorem putH_o (d : Int) (l : List Ln) (h : Hk) : (putH d l h).o = h.o + lenO d l := by
  unfold putH
  by_cases e : l = []
  · subst e; simp [lenO]
  · rw [if_neg e]
theorem putH_n (d : Int) (l : List Ln) (h : Hk) : (putH d l h).n = h.n + lenN d l := by
  unfold putH
  by_cases e : l = []
  · subst e; simp [lenN]
  · rw [if_neg e]
theorem lenO_sdl (d : Int) (l : List Ln) : (sdl 3 (tag d l)).length = lenO d l := by rw [sdl_tag]; unfold lenO; split <;> rfl
theorem lenN_sdl (d : Int) (l : List Ln) : (sdl 2 (tag d l)).length = lenN d l := by rw [sdl_tag]; unfold lenN; split <;> rfl

/-- A hunk that goes on: what was done last is d. -/
structure Op (c : Nat) (d : Int) (h : Hk) : Prop where
  nf : Nf h.es
  last : h.es ≠ [] → ldo 0 h.es = d
  emp : h.es = [] → d = 1
  o : h.o = ((sd 3 h.es).length : Int)
  n : h.n = ((sd 2 h.es).length : Int)
  keep : ∀ e ∈ h.es, e.1 = 1 → e.2.length ≤ 2 * c
  first : ∀ e, h.es.head? = some e → e.1 = 1 → e.2.length ≤ c
/-- A hunk that has ended. -/
structure Cl (c : Nat) (h : Hk) : Prop where
  nf : Nf h.es
  o : h.o = ((sd 3 h.es).length : Int)
  n : h.n = ((sd 2 h.es).length : Int)
  keep : ∀ e ∈ h.es, e.1 = 1 → e.2.length ≤ 2 * c
  first : ∀ e, h.es.head? = some e → e.1 = 1 → e.2.length ≤ c
  last : ∀ e, h.es.getLast? = some e → e.1 = 1 → e.2.length ≤ c
  some : ∃ e ∈ h.es, e.1 ≠ 1
theorem ldo_last (es : List Ed) (h : es ≠ []) : ldo 0 es = (es.getLast h).1 := by
  rcases List.eq_nil_or_concat es with rfl | ⟨l, x, rfl⟩
  · exact absurd rfl h
  · simp [ldo]
theorem sd_app (b : Int) (x y : List Ed) : sd b (x ++ y) = sd b x ++ sd b y := by simp [sd]
theorem sd_one (b d : Int) (l : List Ln) : sd b [(d, l)] = if d = b then [] else l := by simp [sd]
theorem Op.put {c : Nat} {d : Int} {h : Hk} (ho : Op c d h) {s : Int} {l : List Ln} (h1 : okp d s) (h2 : l ≠ []) (h3 : s = 1 ∨ s = 2 ∨ s = 3) (hk : s = 1 → l.length ≤ 2 * c) (hf : h.es = [] → s = 1 → l.length ≤ c) : Op c s (putH s l h) := by
  unfold putH
  rw [if_neg h2]
  refine ⟨?_, fun _ => by simp [ldo], fun e => by simp at e, ?_, ?_, ?_, ?_⟩
  · refine nfc_snoc ho.nf ?_ h2 h3
    by_cases e : h.es = []
    · rw [e]; exact ⟨by simp [ldo]; omega, by simp [ldo]⟩
    · rw [ho.last e]; exact h1
  · simp only [sd_app, sd_one, List.length_append]
    rw [ho.o]; unfold lenO
    split <;> simp
  · simp only [sd_app, sd_one, List.length_append]
    rw [ho.n]; unfold lenN
    split <;> simp
  · intro e he h1
    rcases List.mem_append.1 he with he | he
    · exact ho.keep e he h1
    · obtain rfl := List.mem_singleton.1 he
      exact hk h1
  · intro e he h1
    by_cases q : h.es = []
    · simp only [q, List.nil_append, List.head?_cons, Option.some.injEq] at he
      subst he
      exact hf q h1
    · refine ho.first e ?_ h1
      cases hh : h.es with
      | nil => exact absurd hh q
      | cons x t => rw [hh] at he; simpa using he
theorem Op.close {c : Nat} {d : Int} {h : Hk} (ho : Op c d h) (hd : d ≠ 1) : Cl c h := by
  have hne : h.es ≠ [] := fun e => hd (ho.emp e)
  have hl := ldo_last h.es hne
  rw [ho.last hne] at hl
  refine ⟨ho.nf, ho.o, ho.n, ho.keep, ho.first, fun e he h1 => ?_, ⟨_, List.getLast_mem hne, by rw [← hl]; exact hd⟩⟩
  rw [List.getLast?_eq_some_getLast hne] at he
  obtain rfl := Option.some.inj he
  exact absurd (hl.trans h1) hd
theorem Op.shut {c : Nat} {d : Int} {h : Hk} (ho : Op c d h) (hd : okp d 1) {l : List Ln} (hl : l.length ≤ c) : Cl c (putH 1 l h) := by
  have hd1 := hd.1
  by_cases e : l = []
  · subst e; rw [putH_nil]; exact ho.close hd1
  · have hp := ho.put hd e (.inl rfl) (fun _ => by omega) (fun q _ => hl)
    refine ⟨hp.nf, hp.o, hp.n, hp.keep, hp.first, fun x hx _ => ?_, ?_⟩
    · unfold putH at hx
      rw [if_neg e] at hx
      simp at hx
      subst hx
      exact hl
    · obtain ⟨x, hx, h1⟩ := (ho.close hd1).some
      exact ⟨x, by unfold putH; rw [if_neg e]; exact List.mem_append_left _ hx, h1⟩
theorem op_new (c a b : Nat) : Op c 1 (newH a b) := ⟨trivial, fun h => absurd rfl h, fun _ => rfl, rfl, rfl, fun e he => by simp [newH] at he, fun e he => by simp [newH] at he⟩
theorem op_keep {c a b : Nat} {l : List Ln} (hl : l.length ≤ c) : Op c 1 (putH 1 l (newH a b)) := by
  by_cases e : l = []
  · subst e; rw [putH_nil]; exact op_new c a b
  · unfold putH
    rw [if_neg e]
    refine ⟨⟨⟨by simp, by simp⟩, e, .inl rfl, trivial⟩, fun _ => rfl, fun h => by simp [newH] at h, ?_, ?_, ?_, ?_⟩
    · simp [newH, sd, lenO]
    · simp [newH, sd, lenN]
    · intro x hx _
      simp [newH] at hx
      subst hx
      simp only; omega
    · intro x hx _
      simp [newH] at hx
      subst hx
      exact hl
theorem op_chg {c a b : Nat} {d : Int} {l : List Ln} (hd : d = 2 ∨ d = 3) (h : l ≠ []) : Op c d (putH d l (newH a b)) :=
  (op_new c a b).put ⟨by omega, by omega⟩ h (by omega) (fun e => by omega) (fun _ e => by omega)
/-- Each of a script's hunks has ended right. -/
theorem hg_cl {c : Nat} : ∀ (r : List Ed) (a b : Nat) (d : Int) (h : Hk), Op c d h → Nfc d r → (r = [] → d ≠ 1) → ∀ x ∈ hg c a b h r, Cl c x
  | [], a, b, d, h, ho, _, hd, x, hx => by
    obtain rfl := List.mem_singleton.1 hx
    exact ho.close (hd rfl)
  | e :: r, a, b, d, h, ho, hn, _, x, hx => by
    obtain ⟨s, l⟩ := e
    obtain ⟨h1, h2, h3, h4⟩ := hn
    simp only at h1 h2 h3 h4
    rw [hg] at hx
    simp only at hx
    by_cases hs : s = 1
    · subst hs
      rw [if_pos rfl] at hx
      by_cases hr : r = []
      · rw [if_pos hr] at hx
        obtain rfl := List.mem_singleton.1 hx
        exact ho.shut h1 (by rw [List.length_take]; omega)
      · rw [if_neg hr] at hx
        by_cases hl : l.length ≤ 2 * c
        · rw [if_pos hl] at hx
          by_cases he : h.es = []
          · exact absurd (ho.emp he) h1.1
          · exact hg_cl r _ _ 1 _ (ho.put h1 h2 (.inl rfl) (fun _ => hl) (fun q => absurd q he)) h4 (fun q => absurd q hr) x hx
        · rw [if_neg hl] at hx
          rcases List.mem_cons.1 hx with rfl | hx
          · exact ho.shut h1 (by rw [List.length_take]; omega)
          · exact hg_cl r _ _ 1 _ (op_keep (by rw [List.length_drop]; omega)) h4 (fun q => absurd q hr) x hx
    · rw [if_neg hs] at hx
      exact hg_cl r _ _ s _ (ho.put h1 h2 h3 (fun q => absurd q hs) (fun _ q => absurd q hs)) h4 (fun _ => hs) x hx
theorem bld_cl {c : Nat} {es : List Ed} (h : Nf es) : ∀ x ∈ bld c es, Cl c x := by
  intro x hx
  cases es with
  | nil => cases hx
  | cons e r =>
    obtain ⟨s, l⟩ := e
    obtain ⟨h1, h2, h3, h4⟩ := h
    simp only at h1 h2 h3 h4
    rw [bld] at hx
    simp only at hx
    by_cases hs : s = 1
    · subst hs
      rw [if_pos rfl] at hx
      by_cases hr : r = []
      · rw [if_pos hr] at hx; cases hx
      · rw [if_neg hr] at hx
        exact hg_cl r _ _ 1 _ (op_keep (by rw [List.length_drop]; omega)) h4 (fun q => absurd q hr) x hx
    · rw [if_neg hs] at hx
      exact hg_cl r _ _ s _ (op_chg (by omega) h2) h4 (fun _ => hs) x hx
/-- Hunks that stand behind each other, from places x and y on, all ahead of p and q. -/
def Row (p q : Nat) : Bool → Int → Int → List Hk → Prop
  | _, x, y, [] => x ≤ p ∧ y ≤ q
  | st, x, y, h :: r => x ≤ h.oa ∧ (st = true → x < h.oa) ∧ h.oa - x = h.na - y ∧ 0 ≤ h.o ∧ 0 ≤ h.n ∧ Row p q true (h.oa + h.o) (h.na + h.n) r
theorem hg_row {c p q : Nat} : ∀ (r : List Ed) (a b : Nat) (h : Hk) (st : Bool) (x y : Int), (a : Int) = h.oa + h.o → (b : Int) = h.na + h.n → 0 ≤ h.o → 0 ≤ h.n → x ≤ h.oa → (st = true → x < h.oa) → h.oa - x = h.na - y → a + tl r ≤ p → b + tl r ≤ q → Row p q st x y (hg c a b h r)
  | [], a, b, h, st, x, y, h1, h2, h3, h4, h5, h6, h7, h8, h9 => ⟨h5, h6, h7, h3, h4, by simp [tl] at h8; omega, by simp [tl] at h9; omega⟩
  | e :: r, a, b, h, st, x, y, h1, h2, h3, h4, h5, h6, h7, h8, h9 => by
    obtain ⟨s, l⟩ := e
    have ht : tl ((s, l) :: r) = l.length + tl r := by simp [tl]
    rw [ht] at h8 h9
    rw [hg]
    simp only
    have o1 := putH_oa; have n1 := putH_na; have o2 := putH_o; have n2 := putH_n
    have z1 : lenO s l ≤ l.length := by unfold lenO; split <;> omega
    have z2 : lenN s l ≤ l.length := by unfold lenN; split <;> omega
    by_cases hs : s = 1
    · subst hs
      have y1 : ∀ m : List Ln, lenO 1 m = m.length := fun m => rfl
      have y2 : ∀ m : List Ln, lenN 1 m = m.length := fun m => rfl
      rw [if_pos rfl]
      by_cases hr : r = []
      · rw [if_pos hr]
        have hm : (l.take c).length ≤ l.length := by rw [List.length_take]; omega
        refine ⟨by rw [o1]; exact h5, fun q => by rw [o1]; exact h6 q, by rw [o1, n1]; exact h7, by rw [o2]; omega, by rw [n2]; omega, ?_, ?_⟩
        · rw [o1, o2, y1]; omega
        · rw [n1, n2, y2]; omega
      · rw [if_neg hr]
        by_cases hl : l.length ≤ 2 * c
        · rw [if_pos hl]
          exact hg_row r _ _ _ st x y (by rw [o1, o2, y1]; push_cast; omega) (by rw [n1, n2, y2]; push_cast; omega) (by rw [o2]; omega) (by rw [n2]; omega) (by rw [o1]; exact h5) (fun q => by rw [o1]; exact h6 q) (by rw [o1, n1]; exact h7) (by omega) (by omega)
        · rw [if_neg hl]
          have hm : (l.take c).length = c := by rw [List.length_take]; omega
          have hd : (l.drop (l.length - c)).length = c := by rw [List.length_drop]; omega
          refine ⟨by rw [o1]; exact h5, fun q => by rw [o1]; exact h6 q, by rw [o1, n1]; exact h7, by rw [o2]; omega, by rw [n2]; omega, ?_⟩
          have oo : (newH (a + (l.length - c)) (b + (l.length - c))).oa = ((a + (l.length - c) : Nat) : Int) := rfl
          have nn : (newH (a + (l.length - c)) (b + (l.length - c))).na = ((b + (l.length - c) : Nat) : Int) := rfl
          have o0 : (newH (a + (l.length - c)) (b + (l.length - c))).o = 0 := rfl
          have n0 : (newH (a + (l.length - c)) (b + (l.length - c))).n = 0 := rfl
          exact hg_row r _ _ _ true _ _ (by rw [o1, o2, y1, hd, oo, o0]; omega) (by rw [n1, n2, y2, hd, nn, n0]; omega) (by rw [o2, y1, hd, o0]; omega) (by rw [n2, y2, hd, n0]; omega) (by rw [o1, o1, o2, y1, hm, oo]; omega) (fun _ => by rw [o1, o1, o2, y1, hm, oo]; omega) (by rw [o1, n1, o1, n1, o2, n2, y1, y2, hm, oo, nn]; omega) (by omega) (by omega)
    · rw [if_neg hs]
      exact hg_row r _ _ _ st x y (by rw [o1, o2]; push_cast; omega) (by rw [n1, n2]; push_cast; omega) (by rw [o2]; omega) (by rw [n2]; omega) (by rw [o1]; exact h5) (fun q => by rw [o1]; exact h6 q) (by rw [o1, n1]; exact h7) (by omega) (by omega)
theorem bld_row {c : Nat} {es : List Ed} : Row (tl es) (tl es) false 0 0 (bld c es) := by
  cases es with
  | nil => exact ⟨Int.le_refl _, Int.le_refl _⟩
  | cons e r =>
    obtain ⟨s, l⟩ := e
    have ht : tl ((s, l) :: r) = l.length + tl r := by simp [tl]
    have o1 := putH_oa; have n1 := putH_na; have o2 := putH_o; have n2 := putH_n
    have z1 : lenO s l ≤ l.length := by unfold lenO; split <;> omega
    have z2 : lenN s l ≤ l.length := by unfold lenN; split <;> omega
    rw [bld]
    simp only
    by_cases hs : s = 1
    · subst hs
      have y1 : ∀ m : List Ln, lenO 1 m = m.length := fun m => rfl
      have y2 : ∀ m : List Ln, lenN 1 m = m.length := fun m => rfl
      rw [if_pos rfl]
      by_cases hr : r = []
      · rw [if_pos hr]; exact ⟨by omega, by omega⟩
      · rw [if_neg hr]
        have hd : (l.drop (l.length - c)).length = min l.length c := by rw [List.length_drop]; omega
        have oo : (newH (l.length - c) (l.length - c)).oa = ((l.length - c : Nat) : Int) := rfl
        have nn : (newH (l.length - c) (l.length - c)).na = ((l.length - c : Nat) : Int) := rfl
        have o0 : (newH (l.length - c) (l.length - c)).o = 0 := rfl
        have n0 : (newH (l.length - c) (l.length - c)).n = 0 := rfl
        exact hg_row r _ _ _ false 0 0 (by rw [o1, o2, y1, hd, oo, o0]; omega) (by rw [n1, n2, y2, hd, nn, n0]; omega) (by rw [o2, y1, hd, o0]; omega) (by rw [n2, y2, hd, n0]; omega) (by rw [o1, oo] <;> omega) (fun q => by cases q) (by rw [o1, n1, oo, nn] <;> omega) (by omega) (by omega)
    · rw [if_neg hs]
      have oo : (newH 0 0).oa = 0 := rfl
      have nn : (newH 0 0).na = 0 := rfl
      have o0 : (newH 0 0).o = 0 := rfl
      have n0 : (newH 0 0).n = 0 := rfl
      exact hg_row r _ _ _ false 0 0 (by rw [o1, o2, oo, o0]; omega) (by rw [n1, n2, nn, n0]; omega) (by rw [o2, o0]; omega) (by rw [n2, n0]; omega) (by rw [o1, oo] <;> omega) (fun q => by cases q) (by rw [o1, n1, oo, nn] <;> omega) (by omega) (by omega)
theorem row_fits {p q : Nat} : ∀ (hs : List Hk) (st : Bool) (x y : Int), Row p q st x y hs → x ≤ p ∧ y ≤ q
  | [], _, _, _, h => h
  | h :: r, st, x, y, ⟨h1, _, h3, h4, h5, h6⟩ => by
    have := row_fits r _ _ _ h6
    omega
end Go.Proofs.Ytigghcmbdnidnaa.H

namespace Go.Proofs.Ytigghcmbdnidnaa.H
set_option linter.unusedVariables false
set_option linter.unusedSimpArgs false
open Go.RowKit
open T S
open V (grown_of)
open I (alloc1 own_at own_below)
open N (Ln)

/-- A hunk in memory. -/
def HkAt (b : Nat) (w : World) (bk o : Nat) (h : Hk) : Prop :=
  ∃ EA ec, w.cell? ⟨bk, o, none⟩ = some (.int .i64 h.oa) ∧ w.cell? ⟨bk, o + 1, none⟩ = some (.int .i64 h.o) ∧ w.cell? ⟨bk, o + 2, none⟩ = some (.int .i64 h.na) ∧ w.cell? ⟨bk, o + 3, none⟩ = some (.int .i64 h.n) ∧ w.cell? ⟨bk, o + 4, none⟩ = some (.slice EA h.es.length ec) ∧ EdsIn b w EA h.es ∧ h.es.length ≤ ec ∧ (EA = none → ec = 0)
/-- A slice's hunks. -/
def HksIn (b : Nat) (w : World) (A : Option Addr) (hs : List Hk) : Prop :=
  0 < hs.length → ∃ bk off, A = some ⟨bk, off, none⟩ ∧ b ≤ bk ∧ bk < w.heap.size ∧ ∀ j (h : j < hs.length), HkAt b w bk (off + j * 5) hs[j]
theorem HkAt.below {b : Nat} {w w' : World} {bk o : Nat} {h : Hk} (hh : HkAt b w bk o h) (hb : Below w.heap.size w w') (hk : bk < w.heap.size) : HkAt b w' bk o h := by
  obtain ⟨EA, ec, h0, h1, h2, h3, h4, h5, h6, h7⟩ := hh
  exact ⟨EA, ec, (hb.cell (p := ⟨bk, o, none⟩) hk).trans h0, (hb.cell (p := ⟨bk, o + 1, none⟩) hk).trans h1, (hb.cell (p := ⟨bk, o + 2, none⟩) hk).trans h2, (hb.cell (p := ⟨bk, o + 3, none⟩) hk).trans h3, (hb.cell (p := ⟨bk, o + 4, none⟩) hk).trans h4, h5.below hb, h6, h7⟩
theorem HksIn.below {b : Nat} {w w' : World} {A : Option Addr} {hs : List Hk} (h : HksIn b w A hs) (hb : Below w.heap.size w w') : HksIn b w' A hs := fun hp => by
  obtain ⟨bk, off, rfl, h1, h2, h3⟩ := h hp
  exact ⟨bk, off, rfl, h1, Nat.lt_of_lt_of_le h2 hb.size, fun j hj => (h3 j hj).below hb h2⟩
theorem HksIn.low {b b' : Nat} {w : World} {A : Option Addr} {hs : List Hk} (h : HksIn b w A hs) (hb : b' ≤ b) : HksIn b' w A hs := fun hp => by
  obtain ⟨bk, off, e, h1, h2, h3⟩ := h hp
  refine ⟨bk, off, e, by omega, h2, fun j hj => ?_⟩
  obtain ⟨EA, ec, g0, g1, g2, g3, g4, g5, g6, g7⟩ := h3 j hj
  exact ⟨EA, ec, g0, g1, g2, g3, g4, g5.low hb, g6, g7⟩
theorem HksIn.take {b : Nat} {w : World} {A : Option Addr} {hs : List Hk} (h : HksIn b w A hs) (k : Nat) : HksIn b w A (hs.take k) := fun hp => by
  rw [List.length_take] at hp
  obtain ⟨bk, off, e, h1, h2, h3⟩ := h (by omega)
  refine ⟨bk, off, e, h1, h2, fun j hj => ?_⟩
  rw [List.length_take] at hj
  rw [List.getElem_take]
  exact h3 j (by omega)
/-- What of hunks a call may rely on. -/
structure HksOk (hs : List Hk) : Prop where
  len : hs.length ≤ maxLen
  es : ∀ h ∈ hs, EdsOk h.es
/-- A hunk's cells, and those of its edits. -/
structure Hr where
  h : Hk
  A : Option Addr
  c : Nat
  rs : List Raw
def Hr.v (x : Hr) : Value := .slice x.A x.rs.length x.c
def hrCell (x : Hr) : List Value := [.int .i64 x.h.oa, .int .i64 x.h.o, .int .i64 x.h.na, .int .i64 x.h.n, x.v]
def hrCells (xs : List Hr) : List Value := xs.flatMap hrCell
theorem hrCells_app (a b : List Hr) : hrCells (a ++ b) = hrCells a ++ hrCells b := by simp [hrCells]
theorem hrCells_one (x : Hr) : hrCells [x] = hrCell x := by simp [hrCells]
theorem hrCells_len : ∀ xs : List Hr, (hrCells xs).length = xs.length * 5
  | [] => rfl
  | x :: xs => by
    have := hrCells_len xs
    simp only [hrCells, List.flatMap_cons, List.length_append, List.length_cons] at this ⊢
    rw [this]; simp [hrCell]; omega
theorem hrCells_at (xs : List Hr) (j : Nat) (h : j < xs.length) (i : Nat) (hi : i < 5) : (hrCells xs)[j * 5 + i]? = (hrCell xs[j])[i]? := by
  induction xs generalizing j with
  | nil => simp at h
  | cons x r ih =>
    have e : hrCells (x :: r) = hrCell x ++ hrCells r := by simp [hrCells]
    have l5 : (hrCell x).length = 5 := rfl
    cases j with
    | zero => rw [e, Nat.zero_mul, Nat.zero_add, List.getElem?_append_left (by omega)]; rfl
    | succ j =>
      rw [e, List.getElem?_append_right (by omega), l5, show (j + 1) * 5 + i - 5 = j * 5 + i by omega]
      exact ih j (by simpa using h)
theorem hrCells_set (ys : List Hr) (x : Hr) (i : Nat) (u : Value) : (hrCells (ys ++ [x])).set (ys.length * 5 + i) u = hrCells ys ++ (hrCell x).set i u := by
  rw [hrCells_app, hrCells_one, List.set_append_right _ _ (by rw [hrCells_len]; omega), hrCells_len, show ys.length * 5 + i - ys.length * 5 = i by omega]
structure HrOk (w0 w : World) (base : Nat) (x : Hr) : Prop where
  r : w.ownsRow base 54 2 x.v x.rs.length (rawCells x.rs)
  e : RawsOk 0 w0 x.rs x.h.es
/-- A row of hunks that the call owns. -/
structure Hs (w0 w : World) (base : Nat) (vh : Value) (xs : List Hr) : Prop where
  own : w.ownsRow base 65 5 vh xs.length (hrCells xs)
  ok : ∀ x ∈ xs, HrOk w0 w base x
  ap : xs.Pairwise fun x y => Apart x.v y.v
  b : Below w0.heap.size w0 w
  hb : w0.heap.size ≤ base
  hs : base ≤ w.heap.size
theorem HrOk.below {w0 w w' : World} {base : Nat} {x : Hr} (h : HrOk w0 w base x) (hb : Below w.heap.size w w') : HrOk w0 w' base x := ⟨own_below h.r hb, h.e⟩
theorem Hs.below {w0 w w' : World} {base : Nat} {vh : Value} {xs : List Hr} (h : Hs w0 w base vh xs) (hb : Below w.heap.size w w') : Hs w0 w' base vh xs :=
  ⟨own_below h.own hb, fun x hx => (h.ok x hx).below hb, h.ap, h.b.trans (hb.mono h.b.size), h.hb, Nat.le_trans h.hs hb.size⟩
theorem Hs.drew {w0 w : World} {base : Nat} {vh : Value} {xs : List Hr} (h : Hs w0 w base vh xs) : Hs w0 w.drew base vh xs := h.below ((Below.refl _ _).drew)
/-- A value of a last hunk is laid. -/
theorem Hs.setH {w0 w : World} {base g n cap : Nat} {ys : List Hr} {x x' : Hr} (h : Hs w0 w base (.slice (some ⟨g, 0, none⟩) n cap) (ys ++ [x])) (i : Nat) (u : Value) (hx : (hrCell x).set i u = hrCell x') (hv : x'.v = x.v) (hr : x'.rs = x.rs) (he : x'.h.es = x.h.es) :
    Hs w0 (w.setCell ⟨g, ys.length * 5 + i, none⟩ u) base (.slice (some ⟨g, 0, none⟩) n cap) (ys ++ [x']) := by
  have hn : n = (ys ++ [x]).length := by
    rcases h.own.2 with ⟨h', _⟩ | ⟨g', cap', cur, h', _⟩
    · cases h'
    · injection h'
  subst hn
  obtain ⟨h1, h2⟩ := World.ownsRow.stored h.own (ys.length * 5 + i) u
  rw [hrCells_set, hx, ← hrCells_one, ← hrCells_app] at h1
  obtain ⟨cs, hh⟩ := own_heap h.own rfl
  have keep : ∀ y, HrOk w0 w base y → HrOk w0 (w.setCell ⟨g, ys.length * 5 + i, none⟩ u) base y := fun y hy => ⟨V.own_stored hy.r hh (by decide), hy.e⟩
  refine ⟨by simpa using h1, fun y hy => ?_, ?_, h.b.grown h2 h.b.size (fun k e => by obtain rfl := Option.some.inj e; exact Nat.le_trans h.hb (own_base h.own _ rfl)), h.hb, Nat.le_trans h.hs h2.size⟩
  · rcases List.mem_append.1 hy with hy | hy
    · exact keep y (h.ok y (List.mem_append_left _ hy))
    · obtain rfl := List.mem_singleton.1 hy
      have := keep x (h.ok x (by simp))
      exact ⟨by rw [hv, hr]; exact this.r, by rw [hr, he]; exact this.e⟩
  · have := h.ap
    rw [List.pairwise_append] at this ⊢
    exact ⟨this.1, List.pairwise_singleton _ _, fun a ha b hb => by obtain rfl := List.mem_singleton.1 hb; rw [hv]; exact this.2.2 a ha x (List.mem_singleton_self _)⟩
/-- The last hunk's edits grow, and are laid. -/
theorem Hs.putE {w0 w w1 : World} {base g n cap H : Nat} {ys : List Hr} {x x' : Hr} {r : Raw} {e : Ed} (h : Hs w0 w base (.slice (some ⟨g, 0, none⟩) n cap) (ys ++ [x])) (hg : w.grownBy w1 x.v.ownBlock) (ho : w1.ownsRow base 54 2 x'.v x'.rs.length (rawCells x'.rs)) (hH : w.heap.size ≤ H)
    (hn : x'.v.ownBlock = x.v.ownBlock ∨ x'.v.ownBlock = some H) (hr : x'.rs = x.rs ++ [r]) (he : x'.h = ⟨x.h.oa, x.h.o, x.h.na, x.h.n, x.h.es ++ [e]⟩) (hre : RawOk 0 w0 r e) :
    Hs w0 (w1.setCell ⟨g, ys.length * 5 + 4, none⟩ x'.v) base (.slice (some ⟨g, 0, none⟩) n cap) (ys ++ [x']) := by
  have hnn : n = (ys ++ [x]).length := by
    rcases h.own.2 with ⟨h', _⟩ | ⟨g', cap', cur, h', _⟩
    · cases h'
    · injection h'
  subst hnn
  have hx := h.ok x (by simp)
  have hown1 := own_grown h.own hx.r (by decide) hg
  obtain ⟨h1, h2⟩ := World.ownsRow.stored hown1 (ys.length * 5 + 4) x'.v
  have hx4 : (hrCell x).set 4 x'.v = hrCell x' := by unfold hrCell; rw [he]; rfl
  rw [hrCells_set, hx4, ← hrCells_one, ← hrCells_app] at h1
  obtain ⟨cs, hh⟩ := own_heap hown1 rfl
  have hn' : x'.v.ownBlock = x.v.ownBlock ∨ ∃ g, x'.v.ownBlock = some g ∧ w.heap.size ≤ g := by
    rcases hn with e | e
    · exact .inl e
    · exact .inr ⟨_, e, hH⟩
  have hap := h.ap
  rw [List.pairwise_append] at hap
  have apx : ∀ y ∈ ys, Apart y.v x.v := fun y hy => hap.2.2 y hy x (List.mem_singleton_self _)
  have hb1 : Below w0.heap.size w0 w1 := h.b.grown hg h.b.size (fun k e => Nat.le_trans h.hb (own_base hx.r _ e))
  refine ⟨by simpa using h1, fun y hy => ?_, ?_, hb1.grown h2 hb1.size (fun k e => by obtain rfl := Option.some.inj e; exact Nat.le_trans h.hb (own_base h.own _ rfl)), h.hb, Nat.le_trans (Nat.le_trans h.hs hg.size) h2.size⟩
  · rcases List.mem_append.1 hy with hy | hy
    · have := h.ok y (List.mem_append_left _ hy)
      exact ⟨V.own_stored (own_keep this.r hg (apx y hy).symm) hh (by decide), this.e⟩
    · obtain rfl := List.mem_singleton.1 hy
      refine ⟨V.own_stored ho hh (by decide), ?_⟩
      rw [hr, he]
      exact hx.e.snoc hre
  · rw [List.pairwise_append]
    refine ⟨hap.1, List.pairwise_singleton _ _, fun a ha b hb => ?_⟩
    obtain rfl := List.mem_singleton.1 hb
    exact (Apart.new (apx a ha).symm hn' (S.own_lt (h.ok a (List.mem_append_left _ ha)).r)).symm
/-- A hunk more. -/
theorem Hs.add {w0 w w' : World} {base : Nat} {vh vh' : Value} {xs : List Hr} (h : Hs w0 w base vh xs) (hg : w.grownBy w' vh.ownBlock) (hk : Hk) (he : hk.es = []) (ho : w'.ownsRow base 65 5 vh' (xs ++ [Hr.mk hk none 0 []]).length (hrCells (xs ++ [Hr.mk hk none 0 []]))) :
    Hs w0 w' base vh' (xs ++ [Hr.mk hk none 0 []]) := by
  refine ⟨ho, fun y hy => ?_, ?_, h.b.grown hg h.b.size (fun k e => Nat.le_trans h.hb (own_base h.own _ e)), h.hb, Nat.le_trans h.hs hg.size⟩
  · rcases List.mem_append.1 hy with hy | hy
    · have := h.ok y hy
      exact ⟨own_grown this.r h.own (by decide) hg, this.e⟩
    · obtain rfl := List.mem_singleton.1 hy
      exact ⟨World.ownsRow_nil _ _ _ _, by rw [he]; exact ⟨rfl, fun j h => by simp at h⟩⟩
  · rw [List.pairwise_append]
    exact ⟨h.ap, List.pairwise_singleton _ _, fun a _ b hb => by obtain rfl := List.mem_singleton.1 hb; exact Apart.nil _⟩
/-- Hunks that the call owns may be read. -/
theorem Hs.read {w0 w : World} {base n cap : Nat} {A : Option Addr} {xs : List Hr} (h : Hs w0 w base (.slice A n cap) xs) : n = xs.length ∧ xs.length ≤ cap ∧ HksIn 0 w A (xs.map (·.h)) := by
  have hn : n = xs.length := by
    rcases h.own.2 with ⟨h', h2⟩ | ⟨g', cap', cur, h', _⟩
    · injection h' with _ h' _; have := h.own.1; omega
    · injection h'
  subst hn
  refine ⟨rfl, ?_, fun hp => ?_⟩
  · obtain ⟨A', cap', hv, hc, _⟩ := own_form h.own
    injection hv with _ _ hv
    omega
  rw [List.length_map] at hp
  obtain ⟨g, rfl, h1, h2, h3⟩ := own_at h.own hp
  refine ⟨g, 0, rfl, Nat.zero_le _, h2, fun j hj => ?_⟩
  rw [List.length_map] at hj
  rw [List.getElem_map, Nat.zero_add]
  have hx := h.ok xs[j] (List.getElem_mem hj)
  have at5 := fun i hi => hrCells_at xs j hj i hi
  have hl : xs[j].rs.length = xs[j].h.es.length := hx.e.1
  have hr := hx.r
  unfold Hr.v at hr
  obtain ⟨A', cap', hv, hc, _⟩ := own_form hr
  injection hv with _ _ hv
  rw [hl] at hr hc
  refine ⟨xs[j].A, xs[j].c, h3 _ _ (at5 0 (by omega)), h3 _ _ (at5 1 (by omega)), h3 _ _ (at5 2 (by omega)), h3 _ _ (at5 3 (by omega)), ?_, raws_eds hr (hx.e.below h.b) (Nat.zero_le _), by omega, fun e => ?_⟩
  · have := h3 _ _ (at5 4 (by omega))
    rw [this]
    show some (Value.slice xs[j].A xs[j].rs.length xs[j].c) = _
    rw [hl]
  · rw [e] at hr
    exact own_none hr
theorem infoHunk : (Try.prog.info? 65).map (fun i => (i.zero, i.size, i.bytes)) = some (some (.agg #[.int .i64 0, .int .i64 0, .int .i64 0, .int .i64 0, .slice none 0 0]), 5, 56) := by kernel_rfl
end Go.Proofs.Ytigghcmbdnidnaa.H

namespace Go.Proofs.Ytigghcmbdnidnaa.H
set_option linter.unusedVariables false
set_option linter.unusedSimpArgs false
open Go.RowKit
open T S
open V (grown_of)
open I (alloc1 own_at own_below)
open N (Ln)

end Go.Proofs.Ytigghcmbdnidnaa.H

namespace Go.Proofs.Ytigghcmbdnidnaa.H
set_option linter.unusedVariables false
set_option linter.unusedSimpArgs false
open Go.RowKit
open T S
open V (grown_of)
open I (alloc1 own_at own_below)
open N (Ln)

theorem lines_drop {w : World} {k off : Nat} {l : List Ln} (h : LinesIn w (some ⟨k, off, none⟩) l) (n : Nat) : LinesIn w (some ⟨k, off + n * 2, none⟩) (l.drop n) := fun hp => by
  rw [List.length_drop] at hp
  obtain ⟨bk, o, e, hlt, hI⟩ := h (by omega)
  obtain ⟨rfl, rfl⟩ : k = bk ∧ off = o := by injection e with e; injection e with e1 e2; exact ⟨e1, e2⟩
  refine ⟨k, off + n * 2, rfl, hlt, fun j hj => ?_⟩
  rw [List.length_drop] at hj
  rw [List.getElem_drop]
  have := hI (n + j) (by omega)
  rw [show off + (n + j) * 2 = off + n * 2 + j * 2 by omega] at this
  exact this
/-- What stays when a hunk begins. -/
def Fr (w w' : World) (bb : Nat) (vh : Value) : Prop := ∀ k, k < w.heap.size → k ≠ bb → vh.ownBlock ≠ some k → w'.heap[k]? = w.heap[k]?
end Go.Proofs.Ytigghcmbdnidnaa.H

namespace Go.Proofs.Ytigghcmbdnidnaa.H
set_option linter.unusedVariables false
set_option linter.unusedSimpArgs false
open Go.RowKit
open T S
open V (grown_of)
open I (alloc1 own_at own_below)
open N (Ln)

/-- What may be relied on of a builder's hunks. -/
structure Fits (xs : List Hr) (x : Hr) (a b : Nat) (l : List Ln) : Prop where
  h1 : xs.length ≤ 50000
  h2 : x.rs.length ≤ 50000
  h3 : a ≤ 20000
  h4 : b ≤ 20000
  h5 : l.length ≤ 20000
  h6 : 0 ≤ x.h.o ∧ x.h.o ≤ 50000
  h7 : 0 ≤ x.h.n ∧ x.h.n ≤ 50000
end Go.Proofs.Ytigghcmbdnidnaa.H

namespace Go.Proofs.Ytigghcmbdnidnaa.H
set_option linter.unusedVariables false
set_option linter.unusedSimpArgs false
open Go.RowKit
open T S
open V (grown_of)
open I (alloc1 own_at own_below)
open N (Ln)

/-- What the builder holds behind k edits. -/
def BInv (c : Nat) (N : List Ed) (k : Nat) (op : Bool) (a b : Nat) (hs : List Hk) : Prop :=
  (k = 0 ∧ op = false ∧ a = 0 ∧ b = 0 ∧ hs = []) ∨
  (op = true ∧ ∃ ys h, hs = ys ++ [h] ∧ ys ++ hg c a b h (N.drop k) = bld c N ∧ ys.length ≤ k ∧ h.es.length ≤ 2 * k ∧ a ≤ tl (N.take k) ∧ b ≤ tl (N.take k) ∧ 0 ≤ h.o ∧ h.o ≤ tl (N.take k) ∧ 0 ≤ h.n ∧ h.n ≤ tl (N.take k)) ∨
  (k = N.length ∧ hs = bld c N)
theorem BInv.done {c : Nat} {N : List Ed} {op : Bool} {a b : Nat} {hs : List Hk} (h : BInv c N N.length op a b hs) : hs = bld c N := by
  rcases h with ⟨h1, -, -, -, rfl⟩ | ⟨-, ys, h, rfl, h2, -⟩ | ⟨-, h⟩
  · rw [List.length_eq_zero_iff.1 h1]; rfl
  · rw [List.drop_length] at h2; exact h2
  · exact h
theorem lenO_le (d : Int) (l : List Ln) : lenO d l ≤ l.length := by unfold lenO; split <;> omega
theorem lenN_le (d : Int) (l : List Ln) : lenN d l ≤ l.length := by unfold lenN; split <;> omega
theorem putH_eslen (d : Int) (l : List Ln) (h : Hk) : (putH d l h).es.length ≤ h.es.length + 1 := by unfold putH; split <;> simp
/-- The bounds of a hunk with an edit more. -/
theorem BInv.step {c : Nat} {N : List Ed} {k : Nat} (hk : k < N.length) {d : Int} {l : List Ln} (hl : l.length ≤ N[k].2.length) {ys : List Hk} {h : Hk} {a b a' b' : Nat} (hg1 : ys ++ hg c a' b' (putH d l h) (N.drop (k + 1)) = bld c N) (h1 : ys.length ≤ k + 1) (h2 : h.es.length ≤ 2 * k) (ha : a' ≤ a + N[k].2.length) (hb : b' ≤ b + N[k].2.length) (h3 : a ≤ tl (N.take k)) (h4 : b ≤ tl (N.take k)) (h5 : 0 ≤ h.o) (h6 : h.o ≤ tl (N.take k)) (h7 : 0 ≤ h.n) (h8 : h.n ≤ tl (N.take k)) :
    BInv c N (k + 1) true a' b' (ys ++ [putH d l h]) := by
  have ht := tl_take hk
  have e1 := lenO_le d l
  have e2 := lenN_le d l
  have e3 := putH_eslen d l h
  refine .inr (.inl ⟨rfl, ys, putH d l h, rfl, hg1, h1, by omega, by omega, by omega, ?_, ?_, ?_, ?_⟩)
  · rw [putH_o]; omega
  · rw [putH_o]; omega
  · rw [putH_n]; omega
  · rw [putH_n]; omega
theorem fits_of {ys : List Hr} {x : Hr} {c a b k : Nat} {N : List Ed} {l : List Ln} (hk : k < N.length) (hl : N[k].2 = l) (hN : N.length ≤ 800) (ht : tl N ≤ 800) (hrl : x.rs.length = x.h.es.length) (h1 : ys.length ≤ k) (h2 : x.h.es.length ≤ 2 * k) (h3 : a ≤ tl (N.take k)) (h4 : b ≤ tl (N.take k)) (h5 : 0 ≤ x.h.o) (h6 : x.h.o ≤ tl (N.take k)) (h7 : 0 ≤ x.h.n) (h8 : x.h.n ≤ tl (N.take k)) : Fits ys x a b l := by
  have e1 := tl_take hk
  have e2 := tl_le N (k + 1)
  rw [hl] at e1
  exact ⟨by omega, by omega, by omega, by omega, by omega, ⟨h5, by omega⟩, ⟨h7, by omega⟩⟩
theorem snoc_of_map {xs : List Hr} {ys : List Hk} {h : Hk} (e : xs.map (·.h) = ys ++ [h]) : ∃ ys' x, xs = ys' ++ [x] ∧ ys'.map (·.h) = ys ∧ x.h = h := by
  rcases List.eq_nil_or_concat xs with rfl | ⟨ys', x, rfl⟩
  · simp at e
  · rw [List.concat_eq_append, List.map_append, List.map_singleton] at e
    obtain ⟨e1, e2⟩ := List.append_inj' e rfl
    exact ⟨ys', x, List.concat_eq_append, e1, by simpa using e2⟩
def HnEnd (w : World) (hs : List Hk) (e0 : Int) (e : Ending) (w' : World) : Prop :=
  ∃ A cap, e = .returned (.tuple #[.slice A hs.length cap, .int .i64 e0]) ∧ HksIn 0 w' A hs ∧ Below w.heap.size w w'

end Go.Proofs.Ytigghcmbdnidnaa.H

namespace Go.Proofs.Ytigghcmbdnidnaa.H
set_option linter.unusedVariables false
set_option linter.unusedSimpArgs false
open Go.RowKit
open T S
open V (grown_of)
open I (alloc1 own_at own_below)
open N (Ln)

set_option maxHeartbeats 1000000 in
set_option maxRecDepth 100000 in
theorem rsame_genq (A B : Option Addr) (c c' : Nat) (xs ys : List Ln) (w : World) (h1 : xs.length ≤ maxLen) (h2 : ys.length ≤ maxLen) (hA : LinesIn w A xs) (hB : LinesIn w B ys) :
    Calls Try.prog 13 #[.slice A xs.length c, .slice B ys.length c'] w fun e w' => e = .returned (.bool (decide (xs = ys))) ∧ ∃ q, w' = w.drewN q := by
  unfold maxLen at h1 h2
  have HA := Lib.hid hA
  have HB := Lib.hid hB
  clear hA hB
  by_cases hl : xs.length = ys.length
  · have hne : ((xs.length : Int) != (ys.length : Int)) = false := by simp [hl]
    have HL := Lib.hid hl
    clear hl
    go_enter Try.func13, Try.ntmps13
    go_wp2_with fail
    go_loopg [5] xs.length (fun n i wr => ∃ k : Nat, k ≤ xs.length ∧ i = .int .i64 k ∧ xs.length - k ≤ n ∧ Hid (xs.take k = ys.take k) ∧ ∃ q, wr = w.drewN q)
    case atStart => exact ⟨0, Nat.zero_le _, rfl, by omega, Lib.hid rfl, 0, rfl⟩
    case round =>
      obtain ⟨k, hk, rfl, hn, HT, q, rfl⟩ := hrel
      by_cases hlt : k < xs.length
      · have hlt2 : k < ys.length := by have := HL.out; omega
        obtain ⟨bk, off, hAe, hbk, hL⟩ := HA.out (by omega)
        obtain ⟨bk', off', hAe', hbk', hL'⟩ := HB.out (by omega)
        subst hAe hAe'
        obtain ⟨c0, c1⟩ := hL k hlt
        obtain ⟨d0, d1⟩ := hL' k hlt2
        have h0k : (0 : Int) ≤ (k : Int) := Int.natCast_nonneg _
        have h1k : (k : Int) < (xs.length : Int) := by omega
        have h2k : (k : Int) < (ys.length : Int) := by omega
        have HTK := Lib.hid (take_eq_succ hlt hlt2 HT.out)
        have HNE := Lib.hid (ne_of_at hlt hlt2)
        have hq0 := fun W => ln_neq W xs[k] ys[k]
        clear hL hL'
        by_cases he : xs[k] = ys[k]
        · have HTE := Lib.hid (HTK.out he)
          rw [decide_eq_true he] at hq0
          simp only [lnV] at hq0
          clear he HNE HTK
          generalize xs[k].2 = b at *
          generalize xs[k].1 = t at *
          generalize ys[k].2 = b' at *
          generalize ys[k].1 = t' at *
          have hq : ∀ W, (binOp .neq 59 (.agg #[.string ⟨t.toArray⟩, .bool b]) (.agg #[.string ⟨t'.toArray⟩, .bool b'])).run Try.prog W = .ok (.bool false) W := hq0
          clear hq0
          go_wp2_with fail
          go_quiet (fail)
          clear hq
          go_wp2_with fail
          go_roundg (xs.length - (k + 1))
          case measure => omega
          case rel => exact ⟨k + 1, by omega, by go_num, Nat.le_refl _, HTE, _, rfl⟩
        · have HTE := Lib.hid (HNE.out he)
          rw [decide_eq_false he] at hq0
          simp only [lnV] at hq0
          clear he HNE HTK
          generalize xs[k].2 = b at *
          generalize xs[k].1 = t at *
          generalize ys[k].2 = b' at *
          generalize ys[k].1 = t' at *
          have hq : ∀ W, (binOp .neq 59 (.agg #[.string ⟨t.toArray⟩, .bool b]) (.agg #[.string ⟨t'.toArray⟩, .bool b'])).run Try.prog W = .ok (.bool true) W := hq0
          clear hq0
          go_wp2_with fail
          go_quiet (fail)
          clear hq
          have hd := decide_eq_false HTE.out
          go_wp2_with fail
          go_ret
          exact ⟨by rw [hd]; rfl, _, World.drewN_drewN _ _ _⟩
      · obtain rfl : k = xs.length := by omega
        have hT := HT.out
        rw [List.take_length, HL.out, List.take_length] at hT
        have hd := decide_eq_true hT
        clear hT HT
        go_wp2_with fail
        go_ret
        exact ⟨by rw [hd]; rfl, _, rfl⟩
  · have hne : ((xs.length : Int) != (ys.length : Int)) = true := by simp [bne]; omega
    have hd := decide_eq_false (fun e : xs = ys => hl (by rw [e]))
    clear hl
    go_enter Try.func13, Try.ntmps13
    go_wp2_with fail
    go_ret
    exact ⟨by rw [hd]; rfl, 0, rfl⟩

theorem take_eq_ed {xs ys : List Ed} {k : Nat} (h1 : k < xs.length) (h2 : k < ys.length) (h : xs.take k = ys.take k) (he : xs[k] = ys[k]) : xs.take (k + 1) = ys.take (k + 1) := by
  rw [List.take_succ_eq_append_getElem h1, List.take_succ_eq_append_getElem h2, h, he]
theorem ne_of_ed {xs ys : List Ed} {k : Nat} (h1 : k < xs.length) (h2 : k < ys.length) (he : xs[k] ≠ ys[k]) : xs ≠ ys := fun e => by
  subst e; exact he rfl
set_option maxHeartbeats 2000000 in
set_option maxRecDepth 100000 in
theorem esame_gen (A B : Option Addr) (c c' : Nat) (xs ys : List Ed) (w : World) (hx : EdsOk xs) (hy : EdsOk ys) (hA : EdsIn 0 w A xs) (hB : EdsIn 0 w B ys) :
    Calls Try.prog 38 #[.slice A xs.length c, .slice B ys.length c'] w fun e w' => e = .returned (.bool (decide (xs = ys))) ∧ ∃ q, w' = w.drewN q := by
  have h1 := hx.len
  have h2 := hy.len
  have HLX := Lib.hid hx.ls
  have HLY := Lib.hid hy.ls
  unfold maxLen at h1 h2
  have HA := Lib.hid hA
  have HB := Lib.hid hB
  clear hA hB hx hy
  by_cases hl : xs.length = ys.length
  · have hne : ((xs.length : Int) != (ys.length : Int)) = false := by simp [hl]
    have HL := Lib.hid hl
    clear hl
    go_enter Try.func38, Try.ntmps38
    go_wp2_with fail
    go_loopg [5] xs.length (fun n i wr => ∃ k : Nat, k ≤ xs.length ∧ i = .int .i64 k ∧ xs.length - k ≤ n ∧ Hid (xs.take k = ys.take k) ∧ Hid (∃ q, wr = w.drewN q))
    case atStart => exact ⟨0, Nat.zero_le _, rfl, by omega, Lib.hid rfl, Lib.hid ⟨0, rfl⟩⟩
    case round =>
      obtain ⟨k, hk, rfl, hn, HT, HQ⟩ := hrel
      by_cases hlt : k < xs.length
      · have hlt2 : k < ys.length := by have := HL.out; omega
        have hbw : Below w.heap.size w wr := by obtain ⟨q, rfl⟩ := HQ.out; exact V.drawn_below w q
        obtain ⟨bk, off, LA, lc, hAe, c0, c1, g2, -⟩ := edit_at HA.out hbw hlt
        obtain ⟨bk', off', LB, lc', hBe, d0, d1, g3, -⟩ := edit_at HB.out hbw hlt2
        subst hAe hBe
        have hl1 := HLX.out _ (List.getElem_mem hlt)
        have hl2 := HLY.out _ (List.getElem_mem hlt2)
        have HC : Hid (∀ n, Calls Try.prog 13 #[.slice LA xs[k].2.length lc, .slice LB ys[k].2.length lc'] (wr.drewN n) fun e w' => e = .returned (.bool (decide (xs[k].2 = ys[k].2))) ∧ ∃ m, w' = (wr.drewN n).drewN m) := Lib.hid (fun n => rsame_genq LA LB lc lc' xs[k].2 ys[k].2 (wr.drewN n) hl1 hl2 ((g2.below hbw).below (V.drawn_below wr n)) ((g3.below hbw).below (V.drawn_below wr n)))
        have HTK := Lib.hid (take_eq_ed hlt hlt2 HT.out)
        have HNE := Lib.hid (ne_of_ed hlt hlt2)
        have h0k : (0 : Int) ≤ (k : Int) := Int.natCast_nonneg _
        have h1k : (k : Int) < (xs.length : Int) := by omega
        have h2k : (k : Int) < (ys.length : Int) := by omega
        have hlt3 : xs[k] = (xs[k].1, xs[k].2) := rfl
        have hlt4 : ys[k] = (ys[k].1, ys[k].2) := rfl
        rw [hlt3, hlt4] at HTK HNE
        clear hbw g2 g3 hl1 hl2 hlt3 hlt4
        generalize xs[k].2 = l at *
        generalize xs[k].1 = d at *
        generalize ys[k].2 = l' at *
        generalize ys[k].1 = d' at *
        by_cases hd : d = d'
        · subst hd
          have hnd : (d != d) = false := by simp
          by_cases he : l = l'
          · have HTE := Lib.hid (HTK.out (by rw [he]))
            rw [decide_eq_true he] at HC
            clear HTK HNE he
            go_wp2_with fail
            go_quiet ((go_at_call 13; exact Calls.quiet_of (HC.out _)))
            go_wp2_with fail
            go_roundg (xs.length - (k + 1))
            case measure => omega
            case rel => exact ⟨k + 1, by omega, by go_num, Nat.le_refl _, HTE, Lib.hid (by obtain ⟨q, rfl⟩ := HQ.out; exact ⟨_, World.drewN_drewN _ _ _⟩)⟩
          · have HTE := Lib.hid (HNE.out (by simpa using he))
            rw [decide_eq_false he] at HC
            clear HTK HNE he
            go_wp2_with fail
            go_quiet ((go_at_call 13; exact Calls.quiet_of (HC.out _)))
            have hdd := decide_eq_false HTE.out
            go_wp2_with fail
            go_ret
            exact ⟨by rw [hdd]; rfl, by obtain ⟨q, rfl⟩ := HQ.out; exact ⟨_, World.drewN_drewN _ _ _⟩⟩
        · have hnd : (d != d') = true := by simp [bne, hd]
          have HTE := Lib.hid (HNE.out (fun e => hd (by injection e)))
          clear HTK HNE hd HC
          go_wp2_with fail
          go_quiet (fail)
          have hdd := decide_eq_false HTE.out
          go_wp2_with fail
          go_ret
          exact ⟨by rw [hdd]; rfl, by obtain ⟨q, rfl⟩ := HQ.out; exact ⟨_, World.drewN_drewN _ _ _⟩⟩
      · obtain rfl : k = xs.length := by omega
        have hT := HT.out
        rw [List.take_length, HL.out, List.take_length] at hT
        have hdd := decide_eq_true hT
        clear hT HT
        go_wp2_with fail
        go_ret
        exact ⟨by rw [hdd]; rfl, HQ.out⟩
  · have hne : ((xs.length : Int) != (ys.length : Int)) = true := by simp [bne]; omega
    have hdd : decide (xs = ys) = false := decide_eq_false (fun e => hl (by rw [e]))
    clear hl
    go_enter Try.func38, Try.ntmps38
    go_wp2_with fail
    go_ret
    exact ⟨by rw [hdd]; rfl, 0, rfl⟩
theorem two (w : World) (o0 o1 : Obj) : ∃ W : World, W = (w.alloc o0).alloc o1 ∧ W.heap[w.heap.size]? = some o0 ∧ W.heap[w.heap.size + 1]? = some o1 ∧ Below w.heap.size w W := by
  refine ⟨_, rfl, ?_, ?_, ?_⟩
  · exact ((alloc1 (w.alloc o0) o1).block w.heap.size (by simp)).trans (heap_alloc_new w o0)
  · have := heap_alloc_new (w.alloc o0) o1
    simpa using this
  · exact (alloc1 w o0).alloc (by simp) _
def BlEnd (w : World) (v : Bool) (e : Ending) (w' : World) : Prop := e = .returned (.bool v) ∧ Below w.heap.size w w'
set_option maxHeartbeats 2000000 in
set_option maxRecDepth 100000 in
theorem same_any (LA LB : Option Addr) (c c' : Nat) (d d' : Int) (l l' : List Ln) (w : World) (h1 : l.length ≤ maxLen) (h2 : l'.length ≤ maxLen) (hA : LinesIn w LA l) (hB : LinesIn w LB l') :
    Calls Try.prog 56 #[.agg #[.int .i64 d, .slice LA l.length c], .agg #[.int .i64 d', .slice LB l'.length c']] w (BlEnd w (decide ((d, l) = (d', l')))) := by
  obtain ⟨W, hW, x0, x1, hb⟩ := two w (.cells #[.int .i64 d, .slice LA l.length c] 54) (.cells #[.int .i64 d', .slice LB l'.length c'] 54)
  have a0 := L.blk_cell x0 0
  have a1 := L.blk_cell x0 1
  have b0 := L.blk_cell x1 0
  have b1 := L.blk_cell x1 1
  simp only [List.getElem?_toArray, List.getElem?_cons_zero, List.getElem?_cons_succ] at a0 a1 b0 b1
  have HC := Lib.hid (equal_gen LA LB c c' l l' W h1 h2 (hA.below hb) (hB.below hb))
  have HB := Lib.hid hb
  clear x0 x1 hb hA hB h1 h2
  unfold BlEnd
  by_cases hd : d = d'
  · subst hd
    have hdd : (d == d) = true := by simp
    have HE : Hid (decide ((d, l) = (d, l')) = decide (l = l')) := Lib.hid (by simp)
    rw [HE.out]
    generalize decide (l = l') = v at *
    go_enter Try.func56, Try.ntmps56
    go_upto_region 1 with fail
    rw [← hW]
    clear hW
    go_wp2_with fail
    with_reducible refine (HC.out).mono ?_
    rintro e w2 ⟨rfl, hb2⟩
    have HB2 := Lib.hid (HB.out.trans (hb2.mono HB.out.size))
    clear hb2
    go_wp2_with fail
    go_ret
    exact ⟨rfl, HB2.out⟩
  · have hdd : (d == d') = false := beq_eq_false_iff_ne.2 hd
    have HE : Hid (decide ((d, l) = (d', l')) = false) := Lib.hid (by simp [hd])
    rw [HE.out]
    clear hd HC
    go_enter Try.func56, Try.ntmps56
    go_upto_region 1 with fail
    rw [← hW]
    clear hW
    go_wp2_with fail
    go_ret
    exact ⟨rfl, HB.out⟩
set_option maxHeartbeats 2000000 in
set_option maxRecDepth 100000 in
theorem equalf_any (A B : Option Addr) (c c' : Nat) (xs ys : List Ed) (w : World) (hx : EdsOk xs) (hy : EdsOk ys) (hA : EdsIn 0 w A xs) (hB : EdsIn 0 w B ys) :
    Calls Try.prog 55 #[.slice A xs.length c, .slice B ys.length c', .func (.func 56) #[] #[]] w (BlEnd w (decide (xs = ys))) := by
  have h1 := hx.len
  have h2 := hy.len
  have HLX := Lib.hid hx.ls
  have HLY := Lib.hid hy.ls
  unfold maxLen at h1 h2
  have HA := Lib.hid hA
  have HB := Lib.hid hB
  clear hA hB hx hy
  unfold BlEnd
  by_cases hl : xs.length = ys.length
  · have hne : ((xs.length : Int) != (ys.length : Int)) = false := by simp [hl]
    have HL := Lib.hid hl
    clear hl
    go_enter Try.func55, Try.ntmps55
    go_wp2_with fail
    go_loopg [17] xs.length (fun n i wr => ∃ k : Nat, k ≤ xs.length ∧ i = .int .i64 k ∧ xs.length - k ≤ n ∧ Hid (xs.take k = ys.take k) ∧ Hid (Below w.heap.size w wr))
    case atStart => exact ⟨0, Nat.zero_le _, rfl, by omega, Lib.hid rfl, Lib.hid (Below.refl _ _)⟩
    case round =>
      obtain ⟨k, hk, rfl, hn, HT, HQ⟩ := hrel
      by_cases hlt : k < xs.length
      · have hlt2 : k < ys.length := by have := HL.out; omega
        obtain ⟨bk, off, LA, lc, hAe, c0, c1, g2, -⟩ := edit_at HA.out HQ.out hlt
        obtain ⟨bk', off', LB, lc', hBe, d0', d1', g3, -⟩ := edit_at HB.out HQ.out hlt2
        subst hAe hBe
        have hl1 := HLX.out _ (List.getElem_mem hlt)
        have hl2 := HLY.out _ (List.getElem_mem hlt2)
        obtain ⟨W, hW, x0, x1, hb⟩ := two wr (.cells #[.int .i64 xs[k].1, .slice LA xs[k].2.length lc] 54) (.cells #[.int .i64 ys[k].1, .slice LB ys[k].2.length lc'] 54)
        have HC := Lib.hid (same_any LA LB lc lc' xs[k].1 ys[k].1 xs[k].2 ys[k].2 W hl1 hl2 ((g2.below HQ.out).below hb) ((g3.below HQ.out).below hb))
        have HTK := Lib.hid (take_eq_ed hlt hlt2 HT.out)
        have HNE := Lib.hid (ne_of_ed hlt hlt2)
        have hbk : bk' < wr.heap.size := World.block_lt_of_cell? wr _ d0'
        have d0 : ∀ o, (wr.alloc o).cell? ⟨bk', off' + k * 2, none⟩ = some (.int .i64 ys[k].1) := fun o => ((alloc1 wr o).cell (p := ⟨bk', off' + k * 2, none⟩) hbk).trans d0'
        have d1 : ∀ o, (wr.alloc o).cell? ⟨bk', off' + k * 2 + 1, none⟩ = some (.slice LB ys[k].2.length lc') := fun o => ((alloc1 wr o).cell (p := ⟨bk', off' + k * 2 + 1, none⟩) hbk).trans d1'
        have a0 := L.blk_cell x0 0
        have a1 := L.blk_cell x0 1
        have b0 := L.blk_cell x1 0
        have b1 := L.blk_cell x1 1
        simp only [List.getElem?_toArray, List.getElem?_cons_zero, List.getElem?_cons_succ] at a0 a1 b0 b1
        have HB1 := Lib.hid (HQ.out.trans (hb.mono HQ.out.size))
        have h0k : (0 : Int) ≤ (k : Int) := Int.natCast_nonneg _
        have h1k : (k : Int) < (xs.length : Int) := by omega
        have h2k : (k : Int) < (ys.length : Int) := by omega
        have hlt3 : xs[k] = (xs[k].1, xs[k].2) := rfl
        have hlt4 : ys[k] = (ys[k].1, ys[k].2) := rfl
        rw [hlt3, hlt4] at HTK HNE
        clear g2 g3 hl1 hl2 hlt3 hlt4 d0' d1' x0 x1 hb HQ
        generalize xs[k].2 = l at *
        generalize xs[k].1 = d at *
        generalize ys[k].2 = l' at *
        generalize ys[k].1 = d' at *
        by_cases he : (d, l) = (d', l')
        · have HTE := Lib.hid (HTK.out he)
          rw [decide_eq_true he] at HC
          clear HTK HNE he
          go_upto_region 7 with fail
          rw [← hW]
          clear hW c0 c1 d0 d1
          go_wp2_with fail
          with_reducible refine (HC.out).mono ?_
          rintro e w2 ⟨rfl, hb2⟩
          have HB2 := Lib.hid (HB1.out.trans (hb2.mono HB1.out.size))
          clear hb2 HC
          go_wp2_with fail
          go_roundg (xs.length - (k + 1))
          case measure => omega
          case rel => exact ⟨k + 1, by omega, by go_num, Nat.le_refl _, HTE, HB2⟩
        · have HTE := Lib.hid (HNE.out he)
          rw [decide_eq_false he] at HC
          clear HTK HNE he
          go_upto_region 7 with fail
          rw [← hW]
          clear hW c0 c1 d0 d1
          go_wp2_with fail
          with_reducible refine (HC.out).mono ?_
          rintro e w2 ⟨rfl, hb2⟩
          have HB2 := Lib.hid (HB1.out.trans (hb2.mono HB1.out.size))
          clear hb2 HC
          have hdd := decide_eq_false HTE.out
          go_wp2_with fail
          go_ret
          exact ⟨by rw [hdd]; rfl, HB2.out⟩
      · obtain rfl : k = xs.length := by omega
        have hT := HT.out
        rw [List.take_length, HL.out, List.take_length] at hT
        have hdd := decide_eq_true hT
        clear hT HT
        go_wp2_with fail
        go_ret
        exact ⟨by rw [hdd]; rfl, HQ.out⟩
  · have hne : ((xs.length : Int) != (ys.length : Int)) = true := by simp [bne]; omega
    have hdd : decide (xs = ys) = false := decide_eq_false (fun e => hl (by rw [e]))
    clear hl
    go_enter Try.func55, Try.ntmps55
    go_wp2_with fail
    go_ret
    exact ⟨by rw [hdd]; rfl, Below.refl _ _⟩
end Go.Proofs.Ytigghcmbdnidnaa.H
