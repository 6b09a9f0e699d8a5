/-
  Hunks (plain): the reference's way, line by line, makes the same ones.
  The reference's Same of hunks, near and Single.
  Single: a script, line by line.
-/
import Derived.Test.YtigghcmbdnidnaaGpo
import Derived.BigQuiet
import Derived.Deep.RegionHeldLaw
namespace Go.Proofs.Ytigghcmbdnidnaa.H
set_option linter.unusedVariables false
set_option linter.unusedSimpArgs false
open T S
open N (Ln)

def sng (x : Sl) : Ed := (x.1, [x.2])
/-- A script, line by line. -/
def sgl (es : List Ed) : List Ed := (flat es).map sng
def sg (h : Hk) : Hk := ⟨h.oa, h.o, h.na, h.n, sgl h.es⟩
def doAt (F : List Sl) (k : Nat) : Int := (F.getD k (1, ([], false))).1
/-- Is there a change at most c lines away? -/
def near (F : List Sl) (i c : Nat) : Bool := (List.range F.length).any fun k => decide (i ≤ k + c ∧ k ≤ i + c) && decide (doAt F k ≠ 1)
theorem near_iff (F : List Sl) (i c : Nat) : near F i c = true ↔ ∃ k, k < F.length ∧ i ≤ k + c ∧ k ≤ i + c ∧ doAt F k ≠ 1 := by
  unfold near
  rw [List.any_eq_true]
  constructor
  · rintro ⟨k, hk, h⟩
    rw [Bool.and_eq_true, decide_eq_true_eq, decide_eq_true_eq] at h
    exact ⟨k, List.mem_range.1 hk, h.1.1, h.1.2, h.2⟩
  · rintro ⟨k, hk, h1, h2, h3⟩
    exact ⟨k, List.mem_range.2 hk, by rw [Bool.and_eq_true, decide_eq_true_eq, decide_eq_true_eq]; exact ⟨⟨h1, h2⟩, h3⟩⟩
theorem doAt_app {X Y : List Sl} {k : Nat} : doAt (X ++ Y) k = if k < X.length then doAt X k else doAt Y (k - X.length) := by
  unfold doAt
  rw [List.getD_eq_getElem?_getD]
  by_cases h : k < X.length
  · rw [if_pos h, List.getElem?_append_left h, List.getD_eq_getElem?_getD]
  · rw [if_neg h, List.getElem?_append_right (by omega), List.getD_eq_getElem?_getD]
theorem doAt_tag {s : Int} {l : List Ln} {k : Nat} (h : k < l.length) : doAt (tag s l) k = s := by
  unfold doAt tag
  rw [List.getD_eq_getElem?_getD, List.getElem?_map, List.getElem?_eq_getElem h]
  rfl
/-- The lines that stay: which are near a change. -/
theorem near_keep {X Y : List Sl} {l : List Ln} {j c : Nat} (hX : X = [] ∨ doAt X (X.length - 1) ≠ 1) (hY : Y = [] ∨ doAt Y 0 ≠ 1) (hj : j < l.length) :
    near (X ++ (tag 1 l ++ Y)) (X.length + j) c = (decide (X ≠ [] ∧ j < c) || decide (Y ≠ [] ∧ l.length ≤ j + c)) := by
  have ht := tag_len 1 l
  have hp : X ≠ [] → 0 < X.length := List.length_pos_iff.2
  have hq : Y ≠ [] → 0 < Y.length := List.length_pos_iff.2
  rw [Bool.eq_iff_iff, near_iff, Bool.or_eq_true, decide_eq_true_eq, decide_eq_true_eq, List.length_append, List.length_append, ht]
  constructor
  · rintro ⟨k, hk, h1, h2, h3⟩
    rw [doAt_app] at h3
    by_cases hk1 : k < X.length
    · exact .inl ⟨fun e => by rw [e] at hk1; simp at hk1, by omega⟩
    · rw [if_neg hk1, doAt_app, ht] at h3
      by_cases hk2 : k - X.length < l.length
      · rw [if_pos hk2, doAt_tag hk2] at h3; exact absurd rfl h3
      · exact .inr ⟨fun e => by rw [e] at hk; simp at hk; omega, by omega⟩
  · rintro (⟨h1, h2⟩ | ⟨h1, h2⟩)
    · have := hp h1
      refine ⟨X.length - 1, by omega, by omega, by omega, ?_⟩
      rw [doAt_app, if_pos (by omega)]
      rcases hX with h | h
      · exact absurd h h1
      · exact h
    · have := hq h1
      refine ⟨X.length + l.length, by omega, by omega, by omega, ?_⟩
      rw [doAt_app, if_neg (by omega), doAt_app, ht, if_neg (by omega), show X.length + l.length - X.length - l.length = 0 by omega]
      rcases hY with h | h
      · exact absurd h h1
      · exact h
/-- The reference's state: hunks, does the last one go on, how many lines of each side. -/
structure Rf where
  hs : List Hk
  i : Bool
  a : Nat
  b : Nat
def upd (f : Hk → Hk) (hs : List Hk) : List Hk := hs.dropLast ++ (hs.getLast?.map f).toList
theorem upd_snoc (f : Hk → Hk) (hs : List Hk) (h : Hk) : upd f (hs ++ [h]) = hs ++ [f h] := by simp [upd]
def dO (d : Int) : Nat := if d = 3 then 0 else 1
def dN (d : Int) : Nat := if d = 2 then 0 else 1
def ent (is : Bool) (s : Rf) : List Hk := if is && !s.i then s.hs ++ [newH s.a s.b] else s.hs
def layH (x : Sl) (a b : Nat) (h : Hk) : Hk := ⟨h.oa, a - h.oa, h.na, b - h.na, h.es ++ [sng x]⟩
def rst (is : Bool) (x : Sl) (s : Rf) : Rf :=
  ⟨if is then upd (layH x (s.a + dO x.1) (s.b + dN x.1)) (ent is s) else ent is s, is, s.a + dO x.1, s.b + dN x.1⟩
def flg (c : Nat) (F : List Sl) (i : Nat) (x : Sl) : Bool := decide (x.1 ≠ 1) || near F i c
def rrun (c : Nat) (F : List Sl) : Nat → List Sl → Rf → Rf
  | _, [], s => s
  | i, x :: X, s => rrun c F (i + 1) X (rst (flg c F i x) x s)
/-- The reference's hunks. -/
def rbld (c : Nat) (es : List Ed) : List Hk := (rrun c (flat es) 0 (flat es) ⟨[], false, 0, 0⟩).hs.map fun h => ⟨h.oa, h.o, h.na, h.n, nrm h.es⟩

def putS (d : Int) (l : List Ln) (g : Hk) : Hk := ⟨g.oa, g.o + lenO d l, g.na, g.n + lenN d l, g.es ++ (tag d l).map sng⟩
theorem sg_put (d : Int) (l : List Ln) (h : Hk) : sg (putH d l h) = putS d l (sg h) := by
  unfold sg putS sgl
  rw [putH_oa, putH_na, putH_o, putH_n, putH_es, List.map_append]
theorem sg_new (a b : Nat) : sg (newH a b) = newH a b := rfl
theorem lenO_cons (d : Int) (x : Ln) (l : List Ln) : lenO d (x :: l) = dO d + lenO d l := by unfold lenO dO; split <;> simp; omega
theorem lenN_cons (d : Int) (x : Ln) (l : List Ln) : lenN d (x :: l) = dN d + lenN d l := by unfold lenN dN; split <;> simp; omega
theorem putS_cons (d : Int) (x : Ln) (l : List Ln) (g : Hk) : putS d (x :: l) g = putS d l (putS d [x] g) := by
  unfold putS
  simp only [lenO_cons, lenN_cons, show lenO d [] = 0 by unfold lenO; split <;> rfl, show lenN d [] = 0 by unfold lenN; split <;> rfl, tag_cons, List.map_cons, List.append_assoc]
  simp only [Hk.mk.injEq, and_true, true_and]
  refine ⟨by omega, by omega, by simp [tag]⟩
theorem on_one {dn : List Hk} {g : Hk} {a b : Nat} (d : Int) (x : Ln) (h1 : (a : Int) = g.oa + g.o) (h2 : (b : Int) = g.na + g.n) :
    rst true (d, x) ⟨dn ++ [g], true, a, b⟩ = ⟨dn ++ [putS d [x] g], true, a + dO d, b + dN d⟩ := by
  unfold rst ent
  simp only [if_true, Bool.not_true, Bool.and_false, Bool.false_eq_true, if_false, upd_snoc]
  congr 2
  unfold layH putS
  simp only [lenO_cons, lenN_cons, show lenO d [] = 0 by unfold lenO; split <;> rfl, show lenN d [] = 0 by unfold lenN; split <;> rfl]
  congr 2
  · omega
  · omega
theorem on_new {dn : List Hk} {a b : Nat} (d : Int) (x : Ln) :
    rst true (d, x) ⟨dn, false, a, b⟩ = ⟨dn ++ [putS d [x] (newH a b)], true, a + dO d, b + dN d⟩ := by
  unfold rst ent
  simp only [if_true, Bool.not_false, Bool.and_true, upd_snoc]
  congr 2
  unfold layH putS newH
  simp only [lenO_cons, lenN_cons, show lenO d [] = 0 by unfold lenO; split <;> rfl, show lenN d [] = 0 by unfold lenN; split <;> rfl]
  congr 2
  · omega
  · omega
theorem off_one (d : Int) (x : Ln) (s : Rf) : rst false (d, x) s = ⟨s.hs, false, s.a + dO d, s.b + dN d⟩ := by
  unfold rst ent; simp
theorem putS_end {d : Int} {l : List Ln} {g : Hk} {a b : Nat} (h1 : (a : Int) = g.oa + g.o) (h2 : (b : Int) = g.na + g.n) : ((a + lenO d l : Nat) : Int) = (putS d l g).oa + (putS d l g).o ∧ ((b + lenN d l : Nat) : Int) = (putS d l g).na + (putS d l g).n := by
  unfold putS; simp only; omega
theorem on_run {c : Nat} {F Y : List Sl} {d : Int} {dn : List Hk} : ∀ (l : List Ln) (i a b : Nat) (g : Hk), (a : Int) = g.oa + g.o → (b : Int) = g.na + g.n → (∀ j (h : j < l.length), flg c F (i + j) (d, l[j]) = true) →
    rrun c F i (tag d l ++ Y) ⟨dn ++ [g], true, a, b⟩ = rrun c F (i + l.length) Y ⟨dn ++ [putS d l g], true, a + lenO d l, b + lenN d l⟩
  | [], i, a, b, g, h1, h2, hf => by
    simp [tag, putS, lenO, lenN]
  | x :: l, i, a, b, g, h1, h2, hf => by
    have h0 := hf 0 (by simp)
    simp only [List.getElem_cons_zero, Nat.add_zero] at h0
    have hd := putS_end (d := d) (l := [x]) h1 h2
    have e1 : lenO d [x] = dO d := by rw [lenO_cons]; unfold lenO; simp
    have e2 : lenN d [x] = dN d := by rw [lenN_cons]; unfold lenN; simp
    rw [e1, e2] at hd
    rw [tag_cons, List.cons_append, rrun, h0, on_one d x h1 h2, on_run l (i + 1) (a + dO d) (b + dN d) (putS d [x] g) hd.1 hd.2 (fun j hj => by
      have := hf (j + 1) (by simp; exact hj)
      simp only [List.getElem_cons_succ] at this
      rw [show i + 1 + j = i + (j + 1) by omega]; exact this), ← putS_cons, lenO_cons, lenN_cons, List.length_cons]
    simp only [Nat.add_assoc, Nat.add_comm 1]
theorem off_run {c : Nat} {F Y : List Sl} {d : Int} : ∀ (l : List Ln) (i : Nat) (s : Rf), l ≠ [] → (∀ j (h : j < l.length), flg c F (i + j) (d, l[j]) = false) →
    rrun c F i (tag d l ++ Y) s = rrun c F (i + l.length) Y ⟨s.hs, false, s.a + lenO d l, s.b + lenN d l⟩
  | [], i, s, h, hf => absurd rfl h
  | x :: l, i, s, h, hf => by
    have h0 := hf 0 (by simp)
    simp only [List.getElem_cons_zero, Nat.add_zero] at h0
    rw [tag_cons, List.cons_append, rrun, h0, off_one, lenO_cons, lenN_cons, List.length_cons]
    by_cases e : l = []
    · subst e
      simp [tag, lenO, lenN]
    · rw [off_run l (i + 1) _ e (fun j hj => by
        have := hf (j + 1) (by simp; exact hj)
        simp only [List.getElem_cons_succ] at this
        rw [show i + 1 + j = i + (j + 1) by omega]; exact this)]
      simp only [Nat.add_assoc, Nat.add_comm 1]
/-- The reference's state, where a hunk goes on. -/
def opn (dn : List Hk) (h : Hk) (a b : Nat) : Rf := if h.es = [] then ⟨dn, false, a, b⟩ else ⟨dn ++ [sg h], true, a, b⟩
structure Fit (h : Hk) (a b : Nat) : Prop where
  fa : (a : Int) = h.oa + h.o
  fb : (b : Int) = h.na + h.n
  z : h.es = [] → h = newH a b
theorem Fit.put {h : Hk} {a b : Nat} (hf : Fit h a b) (d : Int) {l : List Ln} (hl : l ≠ []) : Fit (putH d l h) (a + lenO d l) (b + lenN d l) :=
  ⟨by rw [putH_oa, putH_o]; have := hf.fa; push_cast; omega, by rw [putH_na, putH_n]; have := hf.fb; push_cast; omega, fun e => by unfold putH at e; rw [if_neg hl] at e; simp at e⟩
theorem put_ne {d : Int} {l : List Ln} {h : Hk} (hl : l ≠ []) : (putH d l h).es ≠ [] := fun e => by unfold putH at e; rw [if_neg hl] at e; simp at e
theorem on_opn {c : Nat} {F Y : List Sl} {d : Int} {dn : List Hk} {l : List Ln} {i a b : Nat} {h : Hk} (hf : Fit h a b) (hl : l ≠ []) (hg : ∀ j (h : j < l.length), flg c F (i + j) (d, l[j]) = true) :
    rrun c F i (tag d l ++ Y) (opn dn h a b) = rrun c F (i + l.length) Y (opn dn (putH d l h) (a + lenO d l) (b + lenN d l)) := by
  rw [opn, opn, if_neg (put_ne hl), sg_put]
  by_cases he : h.es = []
  · rw [if_pos he]
    have hz := hf.z he
    rw [hz]
    cases l with
    | nil => exact absurd rfl hl
    | cons x l =>
      have h0 := hg 0 (by simp)
      simp only [List.getElem_cons_zero, Nat.add_zero] at h0
      have hd := putS_end (d := d) (l := [x]) (g := newH a b) (a := a) (b := b) (by simp [newH]) (by simp [newH])
      have e1 : lenO d [x] = dO d := by rw [lenO_cons]; unfold lenO; simp
      have e2 : lenN d [x] = dN d := by rw [lenN_cons]; unfold lenN; simp
      rw [e1, e2] at hd
      rw [tag_cons, List.cons_append, rrun, h0, on_new, on_run l (i + 1) (a + dO d) (b + dN d) _ hd.1 hd.2 (fun j hj => by
        have := hg (j + 1) (by simp; exact hj)
        simp only [List.getElem_cons_succ] at this
        rw [show i + 1 + j = i + (j + 1) by omega]; exact this), ← putS_cons, lenO_cons, lenN_cons, List.length_cons, sg_new]
      simp only [Nat.add_assoc, Nat.add_comm 1]
  · rw [if_neg he, on_run l i a b (sg h) hf.fa hf.fb hg]
theorem flg_do {c : Nat} {F : List Sl} {i : Nat} {x : Sl} (h : x.1 ≠ 1) : flg c F i x = true := by simp [flg, h]
theorem flg_keep {c : Nat} {F : List Sl} {i : Nat} {y : Ln} : flg c F i (1, y) = near F i c := by simp [flg]
theorem last_tag {X : List Sl} {s : Int} {l : List Ln} (h : l ≠ []) : doAt (X ++ tag s l) ((X ++ tag s l).length - 1) = s := by
  have := List.length_pos_iff.2 h
  rw [List.length_append, tag_len, doAt_app, if_neg (by omega), show X.length + l.length - 1 - X.length = l.length - 1 by omega, doAt_tag (by omega)]
theorem head_nfc {r : List Ed} (h : Nfc 1 r) : flat r = [] ∨ doAt (flat r) 0 ≠ 1 := by
  cases hf : flat r with
  | nil => exact .inl rfl
  | cons x t => exact .inr (by have := (flat_head h x t hf).1; simpa [doAt] using fun e => this e.symm)
theorem flat_ne {r : List Ed} {d : Int} (h : Nfc d r) (hr : r ≠ []) : flat r ≠ [] := fun e => by
  cases r with
  | nil => exact hr rfl
  | cons x t =>
    have := h.2.1
    rw [flat_cons] at e
    have := (List.append_eq_nil_iff.1 e).1
    have h2 := tag_len x.1 x.2
    rw [this] at h2
    exact h.2.1 (List.length_eq_zero_iff.1 h2.symm)
theorem split3 (l : List Ln) (c : Nat) (h : 2 * c < l.length) (Y : List Sl) : tag 1 l ++ Y = tag 1 (l.take c) ++ (tag 1 ((l.drop c).take (l.length - c - c)) ++ (tag 1 (l.drop (l.length - c)) ++ Y)) := by
  have := drop_take_sub (l := l) (c := c) (by omega)
  rw [← List.append_assoc, ← List.append_assoc, ← tag_app, ← tag_app, List.append_assoc, this]
theorem opn_new (dn : List Hk) (a b a' b' : Nat) : opn dn (newH a b) a' b' = ⟨dn, false, a', b'⟩ := by rw [opn]; exact if_pos rfl
theorem opn_hs (dn : List Hk) (h : Hk) (a b : Nat) (he : h.es ≠ []) : (opn dn h a b).hs = dn ++ [sg h] := by rw [opn, if_neg he]
theorem rr_hg {c : Nat} {F : List Sl} : ∀ (r : List Ed) (X : List Sl) (a b : Nat) (d : Int) (dn : List Hk) (h : Hk), F = X ++ flat r → X ≠ [] → doAt X (X.length - 1) = d → Fit h a b → (h.es = [] → d = 1) → Nfc d r → (r = [] → d ≠ 1) →
    (rrun c F X.length (flat r) (opn dn h a b)).hs = dn ++ (hg c a b h r).map sg
  | [], X, a, b, d, dn, h, hF, hX, hd, hf, he, hn, hr => by
    rw [flat_nil, rrun, hg, opn_hs _ _ _ _ (fun e => hr rfl (he e))]
    rfl
  | (s, l) :: r, X, a, b, d, dn, h, hF, hX, hd, hf, he, hn, hr => by
    obtain ⟨h1, h2, h3, h4⟩ := hn
    simp only at h1 h2 h3 h4
    rw [flat_cons] at hF ⊢
    simp only at hF ⊢
    have hXl : (X ++ tag s l).length = X.length + l.length := by rw [List.length_append, tag_len]
    have hXn : X ++ tag s l ≠ [] := fun e => hX (List.append_eq_nil_iff.1 e).1
    have hF' : F = (X ++ tag s l) ++ flat r := by rw [hF, List.append_assoc]
    rw [hg]
    simp only
    by_cases hs : s = 1
    · subst hs
      have hdn : d ≠ 1 := h1.1
      have hne : h.es ≠ [] := fun e => hdn (he e)
      have y1 : ∀ m : List Ln, lenO 1 m = m.length := fun m => rfl
      have y2 : ∀ m : List Ln, lenN 1 m = m.length := fun m => rfl
      have hfl : ∀ j (hj : j < l.length), flg c F (X.length + j) (1, l[j]) = (decide (j < c) || decide (r ≠ [] ∧ l.length ≤ j + c)) := fun j hj => by
        rw [flg_keep, hF, near_keep (.inr (by rw [hd]; exact hdn)) (head_nfc h4) hj]
        congr 1
        · simp [hX]
        · by_cases hr0 : r = []
          · subst hr0; simp [flat]
          · have := flat_ne h4 hr0; simp [this, hr0]
      rw [if_pos rfl]
      by_cases hr0 : r = []
      · subst hr0
        rw [if_pos rfl, flat_nil]
        have hfl' : ∀ j (hj : j < l.length), flg c F (X.length + j) (1, l[j]) = decide (j < c) := fun j hj => by rw [hfl j hj]; simp
        by_cases hlc : l.length ≤ c
        · rw [on_opn hf h2 (fun j hj => by rw [hfl' j hj]; exact decide_eq_true (by omega)), rrun, opn_hs _ _ _ _ (put_ne h2), List.take_of_length_le hlc]
          rfl
        · have hl0 : l.drop c ≠ [] := fun e => by have := List.length_drop (i := c) (l := l); rw [e] at this; simp at this; omega
          have hoff : ∀ (st : Rf), (rrun c F (X.length + c) (tag 1 (l.drop c) ++ []) st).hs = st.hs := fun st => by
            rw [off_run (l.drop c) _ _ hl0 (fun j hj => by
              rw [List.length_drop] at hj
              have := hfl' (c + j) (by omega)
              rw [List.getElem_drop, show X.length + c + j = X.length + (c + j) by omega, this]; exact decide_eq_false (by omega)), rrun]
          have hsp : tag 1 l ++ [] = tag 1 (l.take c) ++ (tag 1 (l.drop c) ++ []) := by rw [List.append_nil, List.append_nil, ← tag_app, List.take_append_drop]
          by_cases hc0 : c = 0
          · subst hc0
            rw [List.drop_zero] at hoff
            rw [show X.length = X.length + 0 from rfl, hoff, opn_hs _ _ _ _ hne, List.take_zero, putH_nil]
            rfl
          · have ht0 : l.take c ≠ [] := fun e => by have := List.length_take (i := c) (l := l); rw [e] at this; simp at this; omega
            have htl : (l.take c).length = c := by rw [List.length_take]; omega
            rw [hsp, on_opn hf ht0 (fun j hj => by
              rw [htl] at hj
              rw [List.getElem_take, hfl' j (by omega)]; exact decide_eq_true hj), htl, hoff, opn_hs _ _ _ _ (put_ne ht0)]
            rfl
      · rw [if_neg hr0]
        have hfl' : ∀ j (hj : j < l.length), flg c F (X.length + j) (1, l[j]) = (decide (j < c) || decide (l.length ≤ j + c)) := fun j hj => by rw [hfl j hj]; simp [hr0]
        by_cases hl : l.length ≤ 2 * c
        · rw [if_pos hl, on_opn hf h2 (fun j hj => by rw [hfl' j hj]; simp; omega), ← hXl]
          exact rr_hg r (X ++ tag 1 l) _ _ 1 dn _ hF' hXn (last_tag h2) (hf.put 1 h2) (fun e => absurd e (put_ne h2)) h4 (fun e => absurd e hr0)
        · rw [if_neg hl]
          have htl : (l.take c).length = c := by rw [List.length_take]; omega
          have hml : ((l.drop c).take (l.length - c - c)).length = l.length - c - c := by rw [List.length_take, List.length_drop]; omega
          have hdl : (l.drop (l.length - c)).length = c := by rw [List.length_drop]; omega
          have hm0 : (l.drop c).take (l.length - c - c) ≠ [] := fun e => by rw [e] at hml; simp at hml; omega
          have ih := rr_hg (c := c) (F := F) r (X ++ tag 1 l) (a + l.length) (b + l.length) 1 (dn ++ [sg (putH 1 (l.take c) h)]) (putH 1 (l.drop (l.length - c)) (newH (a + (l.length - c)) (b + (l.length - c)))) hF' hXn (last_tag h2)
          have hmid : ∀ (st : Rf) (Y : List Sl), rrun c F (X.length + c) (tag 1 ((l.drop c).take (l.length - c - c)) ++ Y) st = rrun c F (X.length + (l.length - c)) Y ⟨st.hs, false, st.a + (l.length - c - c), st.b + (l.length - c - c)⟩ := fun st Y => by
            rw [off_run _ _ _ hm0 (fun j hj => by
              rw [hml] at hj
              have := hfl' (c + j) (by omega)
              rw [List.getElem_take, List.getElem_drop, show X.length + c + j = X.length + (c + j) by omega, this]; simp; omega), hml, y1, y2, hml, show X.length + c + (l.length - c - c) = X.length + (l.length - c) by omega]
          by_cases hc0 : c = 0
          · subst hc0
            have e0 : l.drop (l.length - 0) = [] := by simp
            have em : (l.drop 0).take (l.length - 0 - 0) = l := by simp
            have hmid' := hmid (opn dn h a b) (flat r)
            rw [em] at hmid'
            rw [e0, putH_nil] at ih ⊢
            rw [List.take_zero, putH_nil] at ih ⊢
            have hnf : Fit (newH (a + (l.length - 0)) (b + (l.length - 0))) (a + l.length) (b + l.length) := ⟨by simp [newH], by simp [newH], fun _ => by simp⟩
            have := ih hnf (fun _ => rfl) h4 (fun e => absurd e hr0)
            rw [hXl, opn_new] at this
            rw [opn, if_neg hne] at hmid' ⊢
            simp only [Nat.sub_zero, Nat.add_zero] at hmid' this ⊢
            rw [hmid', this, List.map_cons, List.append_assoc, List.singleton_append]
          · have ht0 : l.take c ≠ [] := fun e => by rw [e] at htl; simp at htl; omega
            have hd0 : l.drop (l.length - c) ≠ [] := fun e => by rw [e] at hdl; simp at hdl; omega
            have hnf : Fit (newH (a + (l.length - c)) (b + (l.length - c))) (a + (l.length - c)) (b + (l.length - c)) := ⟨by simp [newH], by simp [newH], fun _ => rfl⟩
            rw [split3 l c (by omega), on_opn hf ht0 (fun j hj => by
              rw [htl] at hj
              rw [List.getElem_take, hfl' j (by omega)]; simp; omega), htl, hmid, opn_hs _ _ _ _ (put_ne ht0), opn, if_neg (put_ne ht0)]
            simp only
            rw [y1, y2, htl, show a + c + (l.length - c - c) = a + (l.length - c) by omega, show b + c + (l.length - c - c) = b + (l.length - c) by omega]
            have hop : (⟨dn ++ [sg (putH 1 (l.take c) h)], false, a + (l.length - c), b + (l.length - c)⟩ : Rf) = opn (dn ++ [sg (putH 1 (l.take c) h)]) (newH (a + (l.length - c)) (b + (l.length - c))) (a + (l.length - c)) (b + (l.length - c)) := (opn_new _ _ _ _ _).symm
            rw [hop, on_opn hnf hd0 (fun j hj => by
              rw [hdl] at hj
              have := hfl' (l.length - c + j) (by omega)
              rw [List.getElem_drop, show X.length + (l.length - c) + j = X.length + (l.length - c + j) by omega, this]; simp; omega), hdl, y1, y2, hdl]
            have hnf' := hnf.put 1 hd0
            rw [y1, y2, hdl, show a + (l.length - c) + c = a + l.length by omega, show b + (l.length - c) + c = b + l.length by omega] at hnf'
            have := ih hnf' (fun e => absurd e (put_ne hd0)) h4 (fun e => absurd e hr0)
            rw [hXl] at this
            rw [show X.length + (l.length - c) + c = X.length + l.length by omega, show a + (l.length - c) + c = a + l.length by omega, show b + (l.length - c) + c = b + l.length by omega, this, List.map_cons, List.append_assoc, List.singleton_append]
    · rw [if_neg hs, on_opn hf h2 (fun j hj => flg_do hs), ← hXl]
      exact rr_hg r (X ++ tag s l) _ _ s dn _ hF' hXn (last_tag h2) (hf.put s h2) (fun e => absurd e (put_ne h2)) h4 (fun _ => hs)
theorem rr_bld {c : Nat} (es : List Ed) (hn : Nf es) : (rrun c (flat es) 0 (flat es) ⟨[], false, 0, 0⟩).hs = (bld c es).map sg := by
  cases es with
  | nil => rfl
  | cons e r =>
    obtain ⟨s, l⟩ := e
    obtain ⟨h1, h2, h3, h4⟩ := hn
    simp only at h1 h2 h3 h4
    obtain ⟨F, hF⟩ : ∃ F, F = flat ((s, l) :: r) := ⟨_, rfl⟩
    rw [← hF, bld]
    simp only
    have hFs : F = tag s l ++ flat r := by rw [hF, flat_cons]
    have hF0 : F = [] ++ (tag s l ++ flat r) := hFs
    have hpos := List.length_pos_iff.2 h2
    have htn : tag s l ≠ [] := fun e => by have := tag_len s l; rw [e] at this; simp at this; omega
    have hlast : doAt (tag s l) ((tag s l).length - 1) = s := by have := last_tag (X := []) (s := s) h2; simpa using this
    by_cases hs : s = 1
    · subst hs
      have y1 : ∀ m : List Ln, lenO 1 m = m.length := fun m => rfl
      have y2 : ∀ m : List Ln, lenN 1 m = m.length := fun m => rfl
      have hfl : ∀ j (hj : j < l.length), flg c F j (1, l[j]) = decide (r ≠ [] ∧ l.length ≤ j + c) := fun j hj => by
        have := near_keep (X := []) (Y := flat r) (l := l) (j := j) (c := c) (.inl rfl) (head_nfc h4) hj
        rw [List.length_nil, Nat.zero_add] at this
        rw [flg_keep, hF0, this]
        by_cases hr0 : r = []
        · subst hr0; simp [flat]
        · have := flat_ne h4 hr0; simp [this, hr0]
      rw [if_pos rfl]
      by_cases hr0 : r = []
      · subst hr0
        rw [if_pos rfl]
        rw [flat_nil] at hFs
        have hk := off_run (c := c) (F := F) (Y := []) l 0 ⟨[], false, 0, 0⟩ h2 (fun j hj => by rw [Nat.zero_add, hfl j hj]; simp)
        rw [← hFs] at hk
        rw [hk]
        rfl
      · rw [if_neg hr0]
        have hgo := rr_hg (c := c) (F := F) r (tag 1 l) l.length l.length 1 [] (putH 1 (l.drop (l.length - c)) (newH (l.length - c) (l.length - c))) hFs htn hlast
        have hnf : Fit (newH (l.length - c) (l.length - c)) (l.length - c) (l.length - c) := ⟨by simp [newH], by simp [newH], fun _ => rfl⟩
        have hsp : F = tag 1 (l.take (l.length - c)) ++ (tag 1 (l.drop (l.length - c)) ++ flat r) := by rw [← List.append_assoc, ← tag_app, List.take_append_drop]; exact hFs
        have htl : (l.take (l.length - c)).length = l.length - c := by rw [List.length_take]; omega
        have hdl : (l.drop (l.length - c)).length = l.length - (l.length - c) := by rw [List.length_drop]
        have hst : ∀ Y, rrun c F 0 (tag 1 (l.take (l.length - c)) ++ Y) ⟨[], false, 0, 0⟩ = rrun c F (l.length - c) Y (opn [] (newH (l.length - c) (l.length - c)) (l.length - c) (l.length - c)) := fun Y => by
          rw [opn_new]
          by_cases e : l.take (l.length - c) = []
          · have hz : l.length - c = 0 := by rw [← htl, e]; rfl
            rw [hz]; simp [tag]
          · rw [off_run _ _ _ e (fun j hj => by
              rw [htl] at hj
              rw [List.getElem_take, Nat.zero_add, hfl j (by omega)]; exact decide_eq_false (fun q => by omega)), htl, y1, y2, htl]
            simp only [Nat.zero_add]
        have hrun : rrun c F 0 F ⟨[], false, 0, 0⟩ = rrun c F l.length (flat r) (opn [] (putH 1 (l.drop (l.length - c)) (newH (l.length - c) (l.length - c))) l.length l.length) := by
          have key : ∀ G, G = F → rrun c F 0 G ⟨[], false, 0, 0⟩ = rrun c F l.length (flat r) (opn [] (putH 1 (l.drop (l.length - c)) (newH (l.length - c) (l.length - c))) l.length l.length) := fun G hG => by
            rw [hG.trans hsp, hst]
            by_cases e : l.drop (l.length - c) = []
            · have hz : l.length - c = l.length := by rw [e] at hdl; simp at hdl; omega
              rw [e, putH_nil, hz]; simp [tag]
            · rw [on_opn hnf e (fun j hj => by
                rw [hdl] at hj
                have := hfl (l.length - c + j) (by omega)
                rw [List.getElem_drop, this]; exact decide_eq_true ⟨hr0, by omega⟩), hdl, y1, y2, hdl, show l.length - c + (l.length - (l.length - c)) = l.length by omega]
          exact key F rfl
        have hfit : Fit (putH 1 (l.drop (l.length - c)) (newH (l.length - c) (l.length - c))) l.length l.length := by
          by_cases e : l.drop (l.length - c) = []
          · have hz : l.length - c = l.length := by rw [e] at hdl; simp at hdl; omega
            rw [e, putH_nil, hz]; exact ⟨by simp [newH], by simp [newH], fun _ => rfl⟩
          · have := hnf.put 1 e
            rw [y1, y2, hdl, show l.length - c + (l.length - (l.length - c)) = l.length by omega] at this
            exact this
        have := hgo hfit (fun _ => rfl) h4 (fun e => absurd e hr0)
        rw [tag_len] at this
        rw [hrun, this]; rfl
    · rw [if_neg hs]
      have hnf : Fit (newH 0 0) 0 0 := ⟨rfl, rfl, fun _ => rfl⟩
      have hop : (⟨[], false, 0, 0⟩ : Rf) = opn [] (newH 0 0) 0 0 := (opn_new _ _ _ _ _).symm
      have hgo := rr_hg (c := c) (F := F) r (tag s l) (lenO s l) (lenN s l) s [] (putH s l (newH 0 0)) hFs htn hlast (by have := hnf.put s h2; rw [Nat.zero_add, Nat.zero_add] at this; exact this) (fun e => absurd e (put_ne h2)) h4 (fun _ => hs)
      have key : ∀ G, G = F → rrun c F 0 G ⟨[], false, 0, 0⟩ = rrun c F l.length (flat r) (opn [] (putH s l (newH 0 0)) (lenO s l) (lenN s l)) := fun G hG => by
        rw [hG.trans hFs, hop, on_opn hnf h2 (fun j hj => flg_do hs)]
        simp only [Nat.zero_add]
      rw [key F rfl]
      rw [tag_len] at hgo
      rw [hgo]; rfl
theorem flat_sgl (es : List Ed) : flat (sgl es) = flat es := by
  unfold sgl
  generalize flat es = X
  induction X with
  | nil => rfl
  | cons x r ih => rw [List.map_cons, flat_cons, ih]; rfl
/-- The reference's hunks are the code's. -/
theorem rbld_eq {c : Nat} {es : List Ed} (hn : Nf es) (ht : tl es ≤ 800) : rbld c es = bld c es := by
  unfold rbld
  rw [rr_bld es hn, List.map_map]
  refine (List.map_congr_left (fun x hx => ?_)).trans (List.map_id _)
  have hc := bld_cl hn x hx
  have h1 := tl_mem hx
  have h2 := bld_tl (c := c) es
  have hk : Good3 (sgl x.es) := fun e he => by
    obtain ⟨y, hy, rfl⟩ := List.mem_map.1 he
    exact good_flat hc.nf.good y hy
  have hl : (sgl x.es).length ≤ 800 := by unfold sgl; rw [List.length_map, ← tl_flat]; omega
  have ht : tl (sgl x.es) ≤ 800 := by rw [tl_flat, flat_sgl, ← tl_flat]; omega
  have hn : nrm (sgl x.es) = x.es := by
    have e1 : nrm (sgl x.es) = norm (sgl x.es) := by unfold nrm; rw [if_pos (ck_of hl ht hk)]
    have e2 : norm (sgl x.es) = norm x.es := by unfold norm; rw [laid_flat hk, laid_flat hc.nf.good, flat_sgl]
    rw [e1, e2, norm_nf hc.nf]
  show (⟨x.oa, x.o, x.na, x.n, nrm (sgl x.es)⟩ : Hk) = x
  rw [hn]
end Go.Proofs.Ytigghcmbdnidnaa.H

namespace Go.Proofs.Ytigghcmbdnidnaa.H
set_option linter.unusedVariables false
set_option linter.unusedSimpArgs false
open Go.RowKit
open T S
open V (grown_of)
open I (alloc1 own_at own_below)
open N (Ln)

set_option maxHeartbeats 2000000 in
set_option maxRecDepth 100000 in
theorem hsame_any (A B : Option Addr) (c c' : Nat) (hs : List Hk) (w : World) (hok : HksOk hs) (hA : HksIn 0 w A hs) (hB : HksIn 0 w B hs) :
    Calls Try.prog 24 #[.slice A hs.length c, .slice B hs.length c'] w fun e w' => e = .returned (.bool true) ∧ Below w.heap.size w w' := by
  have hl := hok.len
  have HES := Lib.hid hok.es
  unfold maxLen at hl
  have HA := Lib.hid hA
  have HB := Lib.hid hB
  clear hA hB hok
  have hne : ((hs.length : Int) != (hs.length : Int)) = false := by simp
  go_enter Try.func24, Try.ntmps24
  go_wp2_with fail
  go_loopg [5] hs.length (fun n i wr => ∃ k : Nat, k ≤ hs.length ∧ i = .int .i64 k ∧ hs.length - k ≤ n ∧ Hid (∃ q, wr = w.drewN q))
  case atStart => exact ⟨0, Nat.zero_le _, rfl, by omega, Lib.hid ⟨0, rfl⟩⟩
  case round =>
    obtain ⟨k, hk, rfl, hn, HQ⟩ := hrel
    by_cases hlt : k < hs.length
    · have hbw : Below w.heap.size w wr := by obtain ⟨q, rfl⟩ := HQ.out; exact V.drawn_below w q
      obtain ⟨bk, off, EA, ec, hAe, c0, c1, c2, c3, c4, g2, -⟩ := hunk_at HA.out hbw hlt
      obtain ⟨bk', off', EB, ec', hBe, d0, d1, d2, d3, d4, g3, -⟩ := hunk_at HB.out hbw hlt
      subst hAe hBe
      have hes := HES.out _ (List.getElem_mem hlt)
      have HC : Hid (∀ n, Calls Try.prog 38 #[.slice EA hs[k].es.length ec, .slice EB hs[k].es.length ec'] (wr.drewN n) fun e w' => e = .returned (.bool true) ∧ ∃ m, w' = (wr.drewN n).drewN m) := Lib.hid (fun n => esame_any EA EB ec ec' hs[k].es (wr.drewN n) hes ((g2.below hbw).below (V.drawn_below wr n)) ((g3.below hbw).below (V.drawn_below wr n)))
      have h0k : (0 : Int) ≤ (k : Int) := Int.natCast_nonneg _
      have h1k : (k : Int) < (hs.length : Int) := by omega
      clear hbw g2 g3 hes
      generalize hs[k].es.length = el at *
      generalize hs[k].oa = oa at *
      generalize hs[k].o = o at *
      generalize hs[k].na = na at *
      generalize hs[k].n = nn at *
      have q0 : (oa != oa) = false := by simp
      have q1 : (o != o) = false := by simp
      have q2 : (na != na) = false := by simp
      have q3 : (nn != nn) = false := by simp
      go_wp2_with fail
      go_quiet ((go_at_call 38; exact Calls.quiet_of (HC.out _)))
      go_wp2_with fail
      go_roundg (hs.length - (k + 1))
      case measure => omega
      case rel => exact ⟨k + 1, by omega, by go_num, Nat.le_refl _, Lib.hid (by obtain ⟨q, rfl⟩ := HQ.out; exact ⟨_, World.drewN_drewN _ _ _⟩)⟩
    · obtain rfl : k = hs.length := by omega
      go_wp2_with fail
      go_ret
      exact ⟨rfl, by obtain ⟨q, rfl⟩ := HQ.out; exact V.drawn_below w q⟩
/-- A script, line by line, is that of its lines. -/
theorem sgl_at {es : List Ed} {k : Nat} (hk : k < (flat es).length) : (sgl es)[k]'(by unfold sgl; rw [List.length_map]; exact hk) = sng (flat es)[k] := by
  simp [sgl]
set_option maxHeartbeats 2000000 in
set_option maxRecDepth 100000 in
theorem near_any (A : Option Addr) (cap i c : Nat) (es : List Ed) (w : World) (hE : EdsIn 0 w A (sgl es)) (hl : (flat es).length ≤ 1000) (hi : i < (flat es).length) (hc : c ≤ 20) :
    Calls Try.prog 33 #[.slice A (sgl es).length cap, .int .i64 (i : Int), .int .i64 (c : Int)] w (BlEnd w (near (flat es) i c)) := by
  have HE := Lib.hid hE
  have hsl : (sgl es).length = (flat es).length := by unfold sgl; rw [List.length_map]
  rw [hsl]
  have HSL := Lib.hid hsl
  obtain ⟨n, hn⟩ : ∃ n, n = (flat es).length := ⟨_, rfl⟩
  have HN := Lib.hid hn
  rw [← hn] at hl hi ⊢
  obtain ⟨R, hR⟩ : ∃ R, R = near (flat es) i c := ⟨_, rfl⟩
  rw [← hR]
  have HYES : Hid (∀ k, k < n → i ≤ k + c → k ≤ i + c → doAt (flat es) k ≠ 1 → R = true) := Lib.hid (fun k h1 h2 h3 h4 => by rw [hR, near_iff]; exact ⟨k, by rw [← hn]; exact h1, h2, h3, h4⟩)
  have HNO : Hid ((∀ k, k < n → i ≤ k + c → k ≤ i + c → doAt (flat es) k = 1) → R = false) := Lib.hid (fun h => by
    cases hq : R with
    | false => rfl
    | true =>
      rw [hR, near_iff] at hq
      obtain ⟨k, h1, h2, h3, h4⟩ := hq
      exact absurd (h k (by rw [hn]; exact h1) h2 h3) h4)
  have hw1 : IntKind.i64.wrap ((i : Int) - (c : Int)) = (i : Int) - (c : Int) := by rw [IntKind.wrap_i64]; omega
  have hw2 : IntKind.i64.wrap ((i : Int) + (c : Int)) = (i : Int) + (c : Int) := by rw [IntKind.wrap_i64]; omega
  clear hE hsl hn hR
  unfold BlEnd
  go_enter Try.func33, Try.ntmps33
  go_wp2_with fail
  go_loopg [7] (2 * c + 2) (fun m kv wr => ∃ k : Int, kv = .int .i64 k ∧ (i : Int) - c ≤ k ∧ k ≤ (i : Int) + c + 1 ∧ (i : Int) + c + 1 - k ≤ m ∧ wr = w ∧ Hid (∀ j : Nat, j < n → i ≤ j + c → (j : Int) < k → doAt (flat es) j = 1))
  case atStart => exact ⟨(i : Int) - c, rfl, by omega, by omega, by omega, rfl, Lib.hid (fun j h1 h2 h3 => by omega)⟩
  case round =>
    obtain ⟨k, rfl, hk1, hk2, hmm, rfl, HJ⟩ := hrel
    by_cases hle : k ≤ (i : Int) + c
    · have hd0 : decide (k ≤ (i : Int) + (c : Int)) = true := decide_eq_true hle
      have hwk : IntKind.i64.wrap (k + 1) = k + 1 := by rw [IntKind.wrap_i64]; omega
      by_cases h0 : 0 ≤ k
      · have hd1 : decide (0 ≤ k) = true := decide_eq_true h0
        by_cases h1 : k < (n : Int)
        · have hd2 : decide (k < (n : Int)) = true := decide_eq_true h1
          obtain ⟨kn, rfl⟩ : ∃ kn : Nat, k = (kn : Int) := ⟨k.toNat, by omega⟩
          have hkn : kn < (flat es).length := by have := HN.out; omega
          obtain ⟨bk, off, LA, lc, hAe, c0, -, -⟩ := edit_at HE.out (Below.refl _ _) (show kn < (sgl es).length by rw [HSL.out]; exact hkn)
          subst hAe
          rw [sgl_at hkn] at c0
          have hdo : doAt (flat es) kn = (flat es)[kn].1 := by unfold doAt; rw [List.getD_eq_getElem?_getD, List.getElem?_eq_getElem hkn]; rfl
          have HDO := Lib.hid hdo
          replace c0 : wr.cell? ⟨bk, off + kn * 2, none⟩ = some (.int .i64 (flat es)[kn].1) := c0
          generalize (flat es)[kn].1 = d at *
          clear hdo
          by_cases hd : d = 1
          · have hdn : (d != 1) = false := by simp [hd]
            have HJ2 : Hid (∀ j : Nat, j < n → i ≤ j + c → (j : Int) < (kn : Int) + 1 → doAt (flat es) j = 1) := Lib.hid (fun j q1 q2 q3 => by
              by_cases e : j = kn
              · rw [e, HDO.out, hd]
              · exact HJ.out j q1 q2 (by omega))
            clear hd
            go_wp2_with fail
            go_roundg (i + c - kn)
            case rel => exact ⟨(kn : Int) + 1, rfl, by omega, by omega, by omega, rfl, HJ2⟩
            case measure => omega
          · have hdn : (d != 1) = true := by simpa [bne] using hd
            have hr := HYES.out kn (by omega) (by omega) (by omega) (by rw [HDO.out]; exact hd)
            clear hd
            go_wp2_with fail
            go_ret
            exact ⟨by first | (rw [hr]; rfl) | rfl, Below.refl _ _⟩
        · have hd2 : decide (k < (n : Int)) = false := decide_eq_false h1
          have HJ2 : Hid (∀ j : Nat, j < n → i ≤ j + c → (j : Int) < k + 1 → doAt (flat es) j = 1) := Lib.hid (fun j q1 q2 q3 => HJ.out j q1 q2 (by omega))
          go_wp2_with fail
          go_roundg (((i : Int) + c - k).toNat)
          case rel => exact ⟨k + 1, rfl, by omega, by omega, by omega, rfl, HJ2⟩
          case measure => omega
      · have hd1 : decide (0 ≤ k) = false := decide_eq_false h0
        have HJ2 : Hid (∀ j : Nat, j < n → i ≤ j + c → (j : Int) < k + 1 → doAt (flat es) j = 1) := Lib.hid (fun j q1 q2 q3 => HJ.out j q1 q2 (by omega))
        go_wp2_with fail
        go_roundg (((i : Int) + c - k).toNat)
        case rel => exact ⟨k + 1, rfl, by omega, by omega, by omega, rfl, HJ2⟩
        case measure => omega
    · have hd0 : decide (k ≤ (i : Int) + (c : Int)) = false := decide_eq_false hle
      have hr := HNO.out (fun j q1 q2 q3 => HJ.out j q1 q2 (by omega))
      go_wp2_with fail
      go_ret
      exact ⟨by first | (rw [hr]; rfl) | rfl, Below.refl _ _⟩
end Go.Proofs.Ytigghcmbdnidnaa.H

namespace Go.Proofs.Ytigghcmbdnidnaa.H
set_option linter.unusedVariables false
set_option linter.unusedSimpArgs false
open Go.RowKit
open T S
open V (grown_of)
open I (alloc1 own_at own_below)
open N (Ln)

theorem sgl_take {es : List Ed} {k : Nat} (hk : k < es.length) : sgl (es.take (k + 1)) = sgl (es.take k) ++ (tag es[k].1 es[k].2).map sng := by
  unfold sgl flat
  rw [List.take_succ_eq_append_getElem hk, List.flatMap_append, List.map_append]
  simp
theorem sgl_le (es : List Ed) (k : Nat) : (sgl (es.take k)).length ≤ tl es := by
  unfold sgl
  rw [List.length_map, ← tl_flat]; exact tl_le es k
theorem tag_take {s : Int} {l : List Ln} {j : Nat} (hj : j < l.length) : (tag s (l.take (j + 1))).map sng = (tag s (l.take j)).map sng ++ [(s, [l[j]])] := by
  rw [List.take_succ_eq_append_getElem hj, tag, List.map_append, List.map_append]
  rfl
set_option maxRecDepth 100000 in
set_option maxHeartbeats 8000000 in
theorem single_any (A : Option Addr) (c : Nat) (es : List Ed) (w : World) (hE : EdsIn 0 w A es) (hn : es.length ≤ 800) (ht : tl es ≤ 800) :
    Calls Try.prog 22 #[.slice A es.length c] w fun e w' => ∃ SA cap rs, e = .returned (.slice SA rs.length cap) ∧ Gt w w' (.slice SA rs.length cap) rs (sgl es) := by
  obtain ⟨i0, hi0, hz0, hz1, hz2⟩ := info_parts infoEdit
  have HE := Lib.hid hE
  obtain ⟨W0, hW0⟩ : ∃ W : World, W = w.alloc (.cells #[] 54) := ⟨_, rfl⟩
  have HG0 : Hid (Gt w W0 (.slice (some ⟨w.heap.size, 0, none⟩) ([] : List Raw).length 0) [] []) := Lib.hid (by
    have hb : Below w.heap.size w W0 := by rw [hW0]; exact alloc1 _ _
    exact ⟨by rw [hW0]; exact World.ownsRow_made (size := 2) (e := 54) w #[] 0 (Nat.le_refl _) (by unfold maxLen; omega) rfl, World.ownsRow_nil _ _ _ _, World.ownsRow_nil _ _ _ _, World.ownsRow_nil _ _ _ _, Apart.nil _, Apart.nil _, Apart.nil _, ⟨rfl, fun j h => by simp at h⟩, fun r hr => by simp at hr, hb, Nat.le_refl _, hb.size⟩)
  clear hE
  go_enter Try.func22, Try.ntmps22
  go_upto_region 2 with fail
  rw [← hW0]
  obtain ⟨ob, hob⟩ : ∃ ob, ob = w.heap.size := ⟨_, rfl⟩
  have HG0 : Hid (Gt w W0 (.slice (some ⟨ob, 0, none⟩) ([] : List Raw).length 0) [] []) := by rw [hob]; exact HG0
  rw [← hob]
  clear hW0 hob
  go_wp2_with fail
  go_loopg [4, 3] es.length (fun m iv sv wr => ∃ (k : Nat) (SA : Option Addr) (cap : Nat) (rs : List Raw), k ≤ es.length ∧ iv = .int .i64 k ∧ sv = .slice SA rs.length cap ∧ es.length - k ≤ m ∧ Hid (Gt w wr (.slice SA rs.length cap) rs (sgl (es.take k))))
  case atStart => exact ⟨0, _, _, [], Nat.zero_le _, rfl, rfl, by omega, HG0⟩
  case round =>
    clear HG0
    obtain ⟨k, SA, cap, rs, hk, rfl, rfl, hmm, HG⟩ := hrel
    by_cases hlt : k < es.length
    · have h0k : (0 : Int) ≤ (k : Int) := by omega
      have hki : (k : Int) < (es.length : Int) := by omega
      have HST := Lib.hid (sgl_take hlt)
      have hll : es[k].2.length ≤ 800 := by have := tl_take hlt; have := tl_le es (k + 1); omega
      have hpl := sgl_le es k
      obtain ⟨bk, off, LA, lc, hAe, hcell, hln, -⟩ := edit_in HE.out hlt
      subst hAe
      have HCE := Lib.hid hcell
      have HLN := Lib.hid hln
      clear hcell hln
      generalize hpre : sgl (es.take k) = pre at *
      clear hpre
      generalize es[k] = ed at *
      obtain ⟨d, l⟩ := ed
      simp only at HST HCE HLN hll
      go_wp2_with fail
      go_loopg [5, 3] l.length (fun m jv sv wx => ∃ (j : Nat) (SA : Option Addr) (cap : Nat) (rs : List Raw), j ≤ l.length ∧ jv = .int .i64 j ∧ sv = .slice SA rs.length cap ∧ l.length - j ≤ m ∧ Hid (Gt w wx (.slice SA rs.length cap) rs (pre ++ (tag d (l.take j)).map sng)))
      case atStart => exact ⟨0, SA, cap, rs, Nat.zero_le _, rfl, rfl, by omega, Lib.hid (by simpa [tag] using HG.out)⟩
      case round =>
        clear HG
        obtain ⟨j, SA, cap, rs, hj, rfl, rfl, hmj, HG⟩ := hrel
        obtain ⟨c0, c1⟩ := HCE.out wr HG.out.b
        by_cases hjt : j < l.length
        · have h0j : (0 : Int) ≤ (j : Int) := by omega
          have hji : (j : Int) < (l.length : Int) := by omega
          obtain ⟨lb, lo, hLe, hlb, hI⟩ := HLN.out (by omega)
          subst hLe
          obtain ⟨g0, g1⟩ := hI j hjt
          have HTT := Lib.hid (tag_take (s := d) hjt)
          have hrn : rs.length ≤ 2000 := by
            have := HG.out.r.1
            rw [List.length_append, List.length_map, tag_len, List.length_take] at this
            omega
          have hbk : bk < w.heap.size := World.block_lt_of_cell? w _ (HCE.out w (Below.refl _ _)).1
          generalize l[j] = y at *
          obtain ⟨tx, ba⟩ := y
          simp only at g0 g1
          obtain ⟨s, hs⟩ : ∃ s : ByteArray, s = ⟨tx.toArray⟩ := ⟨_, rfl⟩
          rw [← hs] at g0
          have HS := Lib.hid hs
          have hSX : ∀ wz, Kx wr (.slice SA rs.length cap) wz → wz.cell? ⟨bk, off + k * 2, none⟩ = some (.int .i64 d) ∧ wz.cell? ⟨bk, off + k * 2 + 1, none⟩ = some (.slice (some ⟨lb, lo, none⟩) l.length lc) ∧ wz.cell? ⟨lb, lo + j * 2, none⟩ = some (.string s) ∧ wz.cell? ⟨lb, lo + j * 2 + 1, none⟩ = some (.bool ba) ∧ Kx wr (.slice SA rs.length cap) wz := fun wz hz => by
            have hb : Below w.heap.size w wz := HG.out.b.grown hz.g HG.out.b.size (fun q e => own_base HG.out.o q e)
            obtain ⟨e0, e1⟩ := HCE.out wz hb
            exact ⟨e0, e1, (hb.cell (p := ⟨lb, _, none⟩) hlb).trans g0, (hb.cell (p := ⟨lb, _, none⟩) hlb).trans g1, hz⟩
          have HSX := Lib.hid hSX
          have HAD : Hid (∀ (w5 w6 : World) (x g6 cap6 : Nat), Below wr.heap.size wr w5 → w5.heap[x]? = some (.cells #[.string s, .bool ba] 59 (0, 0)) → wr.heap.size ≤ x → w6.ownsRow w.heap.size 54 2 (.slice (some ⟨g6, 0, none⟩) (rs.length + 1) cap6) (rs.length + 1) (rawCells rs ++ [.int .i64 d, .slice (some ⟨x, 0, none⟩) 1 1]) → w5.grownBy w6 (Value.slice SA rs.length cap).ownBlock → ((Value.slice SA rs.length cap).ownBlock = some g6 ∨ g6 = w5.heap.size) → Gt w w6 (.slice (some ⟨g6, 0, none⟩) (rs ++ [Raw.mk d (some ⟨x, 0, none⟩) 1 1]).length cap6) (rs ++ [Raw.mk d (some ⟨x, 0, none⟩) 1 1]) (pre ++ (tag d (l.take (j + 1))).map sng)) := Lib.hid (fun w5 w6 x g6 cap6 hb5 hx hwx ho6 hg6 hat => by
            rw [HTT.out, ← List.append_assoc]
            refine HG.out.addO hb5 hg6 (by rw [List.length_append, rawCells_app]; exact ho6) (by
              rcases hat with h | h
              · exact .inl (by rw [h]; rfl)
              · exact .inr (by rw [h]; rfl)) ⟨rfl, rfl, lines_ones (x := (tx, ba)) (by rw [hx, HS.out]), Nat.le_refl _, (fun e => by cases e), fun _ _ => Nat.zero_le _⟩ (fun p hp => ?_)
            obtain rfl := Option.some.inj hp
            exact ⟨hwx, L.blk_lt hx⟩)
          have HGO := Lib.hid (HG.out.o)
          have hsw : w.heap.size ≤ wr.heap.size := HG.out.hs
          clear hI g0 g1 hs hSX HG hpl
          go_upto_region 8 with fail
          clear c0 c1
          refine wp_region_held_drew (S := fun wz => wz.cell? ⟨bk, off + k * 2, none⟩ = some (.int .i64 d) ∧ wz.cell? ⟨bk, off + k * 2 + 1, none⟩ = some (.slice (some ⟨lb, lo, none⟩) l.length lc) ∧ wz.cell? ⟨lb, lo + j * 2, none⟩ = some (.string s) ∧ wz.cell? ⟨lb, lo + j * 2 + 1, none⟩ = some (.bool ba) ∧ Kx wr (.slice SA rs.length cap) wz) (by kernel_rfl) (HSX.out _ ⟨grown_of ((Below.refl _ _).drew) _⟩) (fun hH0 => ?_)
          have HBA := Lib.hid ((Below.refl wr.heap.size wr).drew)
          generalize wr.drew = wA at *
          refine wpAnyH_take (i := 0) (v := ?_) rfl (by kernel_rfl) (by kernel_rfl) (by kernel_rfl) (fun _ _ _ h => h) (Or.inl ⟨by rfl, ?_⟩) hH0 ?_
          rotate_left
          · (intro wz hSz; (try dsimp only at hSz); go_simp; try with_reducible rfl)
          try simp only [Act.put, List.setIfInBounds_toArray, List.set_cons_zero, List.set_cons_succ]
          refine wpAnyH_take (i := 1) (v := ?_) rfl (by kernel_rfl) (by kernel_rfl) (by kernel_rfl) (fun _ _ _ h => h) (Or.inl ⟨by rfl, ?_⟩) hH0 ?_
          rotate_left
          · (intro wz hSz; (try dsimp only at hSz); go_simp; try with_reducible rfl)
          try simp only [Act.put, List.setIfInBounds_toArray, List.set_cons_zero, List.set_cons_succ]
          refine wpAnyH_take (i := 2) (v := ?_) rfl (by kernel_rfl) (by kernel_rfl) (by kernel_rfl) (fun _ _ _ h => h) (Or.inl ⟨by rfl, ?_⟩) hH0 ?_
          rotate_left
          · (intro wz hSz; (try dsimp only at hSz); go_simp; try with_reducible rfl)
          try simp only [Act.put, List.setIfInBounds_toArray, List.set_cons_zero, List.set_cons_succ]
          refine wpAnyH_take (i := 3) (v := ?_) rfl (by kernel_rfl) (by kernel_rfl) (by kernel_rfl) (fun _ _ _ h => h) (Or.inl ⟨by rfl, ?_⟩) hH0 ?_
          rotate_left
          · (intro wz hSz; (try dsimp only at hSz); go_simp; try with_reducible rfl)
          try simp only [Act.put, List.setIfInBounds_toArray, List.set_cons_zero, List.set_cons_succ]
          refine wpAnyH_take (i := 4) (v := ?_) rfl (by kernel_rfl) (by kernel_rfl) (by kernel_rfl) (fun _ _ _ h => h) (Or.inl ⟨by rfl, ?_⟩) hH0 ?_
          rotate_left
          · (intro wz hSz; (try dsimp only at hSz); go_simp; try with_reducible rfl)
          try simp only [Act.put, List.setIfInBounds_toArray, List.set_cons_zero, List.set_cons_succ]
          refine wpAnyH_take (i := 5) (v := ?_) rfl (by kernel_rfl) (by kernel_rfl) (by kernel_rfl) (fun _ _ _ h => h) (Or.inl ⟨by rfl, ?_⟩) hH0 ?_
          rotate_left
          · (intro wz hSz; (try dsimp only at hSz); go_simp; try with_reducible rfl)
          try simp only [Act.put, List.setIfInBounds_toArray, List.set_cons_zero, List.set_cons_succ]
          refine wpAnyH_take (i := 6) (v := ?_) rfl (by kernel_rfl) (by kernel_rfl) (by kernel_rfl) (fun _ _ _ h => h) (Or.inl ⟨by rfl, ?_⟩) hH0 ?_
          rotate_left
          · (intro wz hSz; (try dsimp only at hSz); go_simp; try with_reducible rfl)
          try simp only [Act.put, List.setIfInBounds_toArray, List.set_cons_zero, List.set_cons_succ]
          refine wpAnyH_take (i := 7) (v := ?_) rfl (by kernel_rfl) (by kernel_rfl) (by kernel_rfl) (fun _ _ _ h => h) (Or.inl ⟨by rfl, ?_⟩) hH0 ?_
          rotate_left
          · (intro wz hSz; (try dsimp only at hSz); go_simp; try with_reducible rfl)
          try simp only [Act.put, List.setIfInBounds_toArray, List.set_cons_zero, List.set_cons_succ]
          refine wpAnyH_take (i := 8) (v := ?_) rfl (by kernel_rfl) (by kernel_rfl) (by kernel_rfl) (fun _ _ _ h => h) (Or.inl ⟨by rfl, ?_⟩) hH0 ?_
          rotate_left
          · (intro wz hSz; (try dsimp only at hSz); go_simp; try with_reducible rfl)
          try simp only [Act.put, List.setIfInBounds_toArray, List.set_cons_zero, List.set_cons_succ]
          refine wpAnyH_take (i := 9) (v := ?_) rfl (by kernel_rfl) (by kernel_rfl) (by kernel_rfl) (fun _ _ _ h => h) (Or.inl ⟨by rfl, ?_⟩) hH0 ?_
          rotate_left
          · (intro wz hSz; (try dsimp only at hSz); go_simp; try with_reducible rfl)
          try simp only [Act.put, List.setIfInBounds_toArray, List.set_cons_zero, List.set_cons_succ]
          refine wpAnyH_take (i := 10) (v := ?_) rfl (by kernel_rfl) (by kernel_rfl) (by kernel_rfl) (fun _ _ _ h => h) (Or.inl ⟨by rfl, ?_⟩) hH0 ?_
          rotate_left
          · (intro wz hSz; (try dsimp only at hSz); go_simp; try with_reducible rfl)
          try simp only [Act.put, List.setIfInBounds_toArray, List.set_cons_zero, List.set_cons_succ]
          refine wpAnyH_take (i := 11) (v := ?_) rfl (by kernel_rfl) (by kernel_rfl) (by kernel_rfl) (fun _ _ _ h => h) (Or.inl ⟨by rfl, ?_⟩) hH0 ?_
          rotate_left
          · (intro wz hSz; (try dsimp only at hSz); go_simp; try with_reducible rfl)
          try simp only [Act.put, List.setIfInBounds_toArray, List.set_cons_zero, List.set_cons_succ]
          refine wpAnyH_take (i := 12) (v := ?_) rfl (by kernel_rfl) (by kernel_rfl) (by kernel_rfl) (fun _ _ _ h => h) (Or.inl ⟨by rfl, ?_⟩) hH0 ?_
          rotate_left
          · (intro wz hSz; (try dsimp only at hSz); go_simp; try with_reducible rfl)
          try simp only [Act.put, List.setIfInBounds_toArray, List.set_cons_zero, List.set_cons_succ]
          refine wpAnyH_take (i := 13) (v := ?_) rfl (by kernel_rfl) (by kernel_rfl) (by kernel_rfl) (fun _ _ _ h => h) (Or.inl ⟨by rfl, ?_⟩) hH0 ?_
          rotate_left
          · (intro wz hSz; (try dsimp only at hSz); go_simp; try with_reducible rfl)
          try simp only [Act.put, List.setIfInBounds_toArray, List.set_cons_zero, List.set_cons_succ]
          refine wpAnyH_ready (rs := [14]) (by kernel_rfl) (by simp) ?_
          refine AllReadyH.cons rfl (fun K hK => ?_) AllReadyH.nil
          go_simp
          refine hK.out _ _ (HSX.out _ (hH0.2.2.2.2.below (alloc1 wA _))) (fun hH1 => ?_)
          have hx4 := heap_alloc_new wA (.cells #[.string s, .bool ba] 59)
          have HB4 := Lib.hid (HBA.out.trans ((alloc1 wA (.cells #[.string s, .bool ba] 59)).mono HBA.out.size))
          have hwx : wr.heap.size ≤ wA.heap.size := HBA.out.size
          clear hK K hH0 HBA
          generalize wA.alloc (.cells #[.string s, .bool ba] 59) = w4 at *
          generalize wA.heap.size = xb at *
          have HX4 := Lib.hid hx4
          clear hx4
          try simp only [Act.put, List.setIfInBounds_toArray, List.set_cons_zero, List.set_cons_succ]
          refine wpAnyH_take (i := 15) (v := ?_) rfl (by kernel_rfl) (by kernel_rfl) (by kernel_rfl) (fun _ _ _ h => h) (Or.inl ⟨by rfl, ?_⟩) hH1 ?_
          rotate_left
          · (intro wz hSz; (try dsimp only at hSz); go_simp; try with_reducible rfl)
          try simp only [Act.put, List.setIfInBounds_toArray, List.set_cons_zero, List.set_cons_succ]
          refine wpAnyH_ready (rs := [16]) (by kernel_rfl) (by simp) ?_
          refine AllReadyH.cons rfl (fun K hK => ?_) AllReadyH.nil
          go_simp
          refine hK.out _ _ (HSX.out _ (hH1.2.2.2.2.below (alloc1 w4 _))) (fun hH2 => ?_)
          have HNW := Lib.hid (World.news_of_block (heap_alloc_new w4 (.cells #[.int .i64 d, .slice (some ⟨xb, 0, none⟩) 1 1] 54)))
          have HB5 := Lib.hid (HB4.out.trans ((alloc1 w4 (.cells #[.int .i64 d, .slice (some ⟨xb, 0, none⟩) 1 1] 54)).mono HB4.out.size))
          have HX5 := Lib.hid (((alloc1 w4 (.cells #[.int .i64 d, .slice (some ⟨xb, 0, none⟩) 1 1] 54)).block _ (L.blk_lt HX4.out)).trans HX4.out)
          have H1C : Hid (∀ u ∈ ([.int .i64 d, .slice (some ⟨xb, 0, none⟩) 1 1] : List Value), u.oneCell' = true) := Lib.hid (by intro u hu; simp at hu; rcases hu with rfl | rfl <;> rfl)
          clear hK K hH1 HB4 HX4
          generalize w4.alloc (.cells #[.int .i64 d, .slice (some ⟨xb, 0, none⟩) 1 1] 54) = w5 at *
          generalize w4.heap.size = hb5 at *
          have HV5 := Lib.hid (own_below HGO.out HB5.out)
          have hsz : w.heap.size ≤ w5.heap.size := Nat.le_trans hsw HB5.out.size
          try simp only [Act.put, List.setIfInBounds_toArray, List.set_cons_zero, List.set_cons_succ]
          refine wpAnyH_ready (rs := [17]) (by kernel_rfl) (by simp) ?_
          refine AllReadyH.cons rfl (fun K hK => ?_) AllReadyH.nil
          refine step_append_lies _ (by rfl) (.tmp 23) (.tmp 39) 40 (by rfl) w.heap.size 54 i0 _ 2 32 Try.underlying40 hi0 hz0 hz1 hz2 rfl (by decide) (.slice SA rs.length cap) rs.length (rawCells rs) (by rfl) HV5.out ⟨hb5, 0, none⟩ 1 1 [.int .i64 d, .slice (some ⟨xb, 0, none⟩) 1 1] (by rfl) rfl HNW.out H1C.out (by omega) (by unfold maxLen; omega) (by omega) (by omega) _ rfl ?_
          intro g6 cap6 w6 hown6 hg6 hat6 hlt6
          refine hK.out _ _ (HSX.out _ ⟨(grown_of HB5.out _).trans hg6⟩) (fun hH3 => ?_)
          have HFG := Lib.hid (HAD.out w5 w6 xb g6 cap6 HB5.out HX5.out hwx hown6 hg6 hat6)
          clear hK K hH2 HV5 HNW H1C hsz hown6 hg6 hat6 HB5 HX5
          try simp only [Act.put, List.setIfInBounds_toArray, List.set_cons_zero, List.set_cons_succ]
          refine wpAnyH_take (i := 18) (v := ?_) rfl (by kernel_rfl) (by kernel_rfl) (by kernel_rfl) (fun _ _ _ h => h) (Or.inl ⟨by rfl, ?_⟩) hH3 ?_
          rotate_left
          · (intro wz hSz; (try dsimp only at hSz); go_simp; try with_reducible rfl)
          try simp only [Act.put, List.setIfInBounds_toArray, List.set_cons_zero, List.set_cons_succ]
          refine wpAnyH_done (by kernel_rfl) ?_ _
          clear hH3
          go_wp2_with fail
          go_roundg (l.length - (j + 1))
          case rel => exact ⟨j + 1, some ⟨g6, 0, none⟩, cap6, rs ++ [⟨d, some ⟨xb, 0, none⟩, 1, 1⟩], by omega, by go_num, by rw [List.length_append]; rfl, Nat.le_refl _, HFG⟩
          case measure => omega
        · obtain rfl : j = l.length := by omega
          have HGE : Hid (Gt w wr (.slice SA rs.length cap) rs (sgl (es.take (k + 1)))) := Lib.hid (by rw [HST.out]; have := HG.out; rwa [List.take_length] at this)
          clear HG
          go_wp2_with fail
          go_roundg (es.length - (k + 1))
          case rel => exact ⟨k + 1, SA, cap, rs, by omega, by go_num, rfl, Nat.le_refl _, HGE⟩
          case measure => omega
    · obtain rfl : k = es.length := by omega
      rw [List.take_length] at HG
      go_wp2_with fail
      go_ret
      exact ⟨SA, cap, rs, rfl, HG.out⟩
end Go.Proofs.Ytigghcmbdnidnaa.H
