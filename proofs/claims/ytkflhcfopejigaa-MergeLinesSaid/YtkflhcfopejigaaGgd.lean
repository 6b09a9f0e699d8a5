/-
  Chunks of three texts, in plain words: the places that are matched on both sides, how far lines are the same, the next such place, and the walk over the chunks.
  The contracts of match's To, Invert and Right, and of the reference's To and Right.
  The contracts of match's Right and of the reference's.
  The contracts of chunk's begin and first, with the library's Search over its closure.
  The places that are matched on both sides, in plain words: the walk over two rows beside each other.
-/
import Derived.Test.YtkflhcfopejigaaGgc
import Derived.BigQuiet
namespace Go.Proofs.Ytkflhcfopejigaa.Ck
set_option linter.unusedVariables false
set_option linter.unusedSimpArgs false
open Go.RowKit
open Mt (Pr fnd Rt right fnd_mem fnd_of)

abbrev Tr := Int × Int × Int
structure Ck where
  st : Bool
  o : Int
  on : Int
  a : Int
  an : Int
  b : Int
  bn : Int
/-- The places that are matched on both sides. -/
def sh (p q : List Pr) : List Tr := p.filterMap fun z => (fnd q z.1).map fun k => (z.1, z.2, k)
def shd (p q : List Pr) (o : Int) : List Tr := (sh p q).filter fun t => decide (o ≤ t.1)
def rn : List Tr → Int → Int → Int → Nat
  | [], _, _, _ => 0
  | t :: r, o, a, b => if t = (o, a, b) then rn r (o + 1) (a + 1) (b + 1) + 1 else 0
def nx (l : List Tr) (a b : Int) : Option Tr := l.find? fun t => decide (a ≤ t.2.1) && decide (b ≤ t.2.2)
def run (p q : List Pr) (t : Tr) : Nat := rn (shd p q t.1) t.1 t.2.1 t.2.2
def nxt (p q : List Pr) (t : Tr) : Option Tr := nx (shd p q t.1) t.2.1 t.2.2
def unst (t x : Tr) : Ck := ⟨false, t.1, x.1 - t.1, t.2.1, x.2.1 - t.2.1, t.2.2, x.2.2 - t.2.2⟩
def stab (t : Tr) (n : Nat) : Ck := ⟨true, t.1, n, t.2.1, n, t.2.2, n⟩
def step (p q : List Pr) (e t : Tr) : Ck := if run p q t = 0 then unst t ((nxt p q t).getD e) else stab t (run p q t)
def beh (c : Ck) : Tr := (c.o + c.on, c.a + c.an, c.b + c.bn)
def wk (p q : List Pr) (e : Tr) : Nat → Tr → List Ck
  | 0, _ => []
  | f + 1, t => if t = e then [] else step p q e t :: wk p q e f (beh (step p q e t))
def fu (e t : Tr) : Nat := (e.1 - t.1 + (e.2.1 - t.2.1) + (e.2.2 - t.2.2)).toNat
def walk (p q : List Pr) (e t : Tr) : List Ck := wk p q e (fu e t) t
def Le3 (t e : Tr) : Prop := t.1 ≤ e.1 ∧ t.2.1 ≤ e.2.1 ∧ t.2.2 ≤ e.2.2
def bound (o : Int) : Prop := 0 ≤ o ∧ o ≤ 400
instance (o : Int) : Decidable (bound o) := by unfold bound; exact inferInstance
def can (p q : List Pr) (o a b : Int) : Prop := (bound o ∧ bound a ∧ bound b) ∧ right p o a = true ∧ right q o b = true
instance (p q : List Pr) (o a b : Int) : Decidable (can p q o a b) := by unfold can; exact inferInstance
def chunks (p q : List Pr) (o a b : Int) : List Ck := if can p q o a b then walk p q (o, a, b) (0, 0, 0) else []
def err (p q : List Pr) (o a b : Int) : Int := if can p q o a b then 0 else 2

theorem tr_ext {t u : Tr} (h1 : t.1 = u.1) (h2 : t.2.1 = u.2.1) (h3 : t.2.2 = u.2.2) : t = u := by
  obtain ⟨a, b, c⟩ := t
  obtain ⟨d, e, f⟩ := u
  simp only at h1 h2 h3
  subst h1 h2 h3
  rfl
theorem sh_mem {p q : List Pr} {n m l : Int} (hp : Rt p n m) (hq : Rt q n l) {t : Tr} : t ∈ sh p q ↔ (t.1, t.2.1) ∈ p ∧ (t.1, t.2.2) ∈ q := by
  unfold sh
  rw [List.mem_filterMap]
  constructor
  · rintro ⟨z, hz, h⟩
    simp only [Option.map_eq_some_iff] at h
    obtain ⟨k, hk, rfl⟩ := h
    exact ⟨hz, fnd_mem hk⟩
  · rintro ⟨h1, h2⟩
    exact ⟨_, h1, by simp [hq.fnd.2 h2]⟩
theorem pr_up {p : List Pr} (h : p.Pairwise fun p q => p.1 < q.1 ∧ p.2 < q.2) {x y : Pr} (hx : x ∈ p) (hy : y ∈ p) (hl : x.1 < y.1) : x.2 < y.2 := by
  obtain ⟨i, hi, rfl⟩ := List.mem_iff_getElem.1 hx
  obtain ⟨j, hj, rfl⟩ := List.mem_iff_getElem.1 hy
  rw [List.pairwise_iff_getElem] at h
  rcases Nat.lt_trichotomy i j with h1 | h1 | h1
  · exact (h i j hi hj h1).2
  · subst h1; omega
  · have := h j i hj hi h1; omega
theorem sh_up : ∀ {p q : List Pr}, p.Pairwise (fun p q => p.1 < q.1 ∧ p.2 < q.2) → q.Pairwise (fun p q => p.1 < q.1 ∧ p.2 < q.2) → (sh p q).Pairwise fun t u => t.1 < u.1 ∧ t.2.1 < u.2.1 ∧ t.2.2 < u.2.2
  | [], _, _, _ => by simp [sh]
  | z :: r, q, hp, hq => by
    rw [List.pairwise_cons] at hp
    have ih := sh_up hp.2 hq
    unfold sh
    rw [List.filterMap_cons]
    cases hf : fnd q z.1 with
    | none => exact ih
    | some k =>
      simp only [Option.map_some]
      rw [List.pairwise_cons]
      refine ⟨fun t ht => ?_, ih⟩
      rw [List.mem_filterMap] at ht
      obtain ⟨y, hy, h⟩ := ht
      simp only [Option.map_eq_some_iff] at h
      obtain ⟨k', hk', rfl⟩ := h
      have h1 := hp.1 y hy
      exact ⟨h1.1, h1.2, pr_up (x := (z.1, k)) (y := (y.1, k')) hq (fnd_mem hf) (fnd_mem hk') h1.1⟩
theorem sh_len (p q : List Pr) : (sh p q).length ≤ p.length := List.length_filterMap_le _ _
theorem shd_len (p q : List Pr) (o : Int) : (shd p q o).length ≤ p.length := Nat.le_trans (List.length_filter_le _ _) (sh_len p q)
theorem shd_mem {p q : List Pr} {o : Int} {t : Tr} : t ∈ shd p q o ↔ t ∈ sh p q ∧ o ≤ t.1 := by simp [shd]
/-- Sorted rows: from a place on. -/
theorem filt_hit : ∀ {l : List Tr}, l.Pairwise (fun t u => t.1 < u.1 ∧ t.2.1 < u.2.1 ∧ t.2.2 < u.2.2) → ∀ {t : Tr}, t ∈ l → l.filter (fun x => decide (t.1 ≤ x.1)) = t :: l.filter (fun x => decide (t.1 + 1 ≤ x.1))
  | [], _, _, h => by cases h
  | x :: r, hp, t, h => by
    rw [List.pairwise_cons] at hp
    rcases List.mem_cons.1 h with e | h
    · subst e
      rw [List.filter_cons_of_pos (by simp), List.filter_cons_of_neg (by simp; omega)]
      congr 1
      exact List.filter_congr fun y hy => by have := (hp.1 y hy).1; rw [decide_eq_true (by omega), decide_eq_true (by omega)]
    · have h1 := (hp.1 t h).1
      rw [List.filter_cons_of_neg (by simp; omega), List.filter_cons_of_neg (by simp; omega)]
      exact filt_hit hp.2 h
theorem shd_hit {p q : List Pr} {n m l : Int} (hp : Rt p n m) (hq : Rt q n l) {t : Tr} (h : t ∈ sh p q) : shd p q t.1 = t :: shd p q (t.1 + 1) := filt_hit (sh_up hp.up hq.up) h
theorem shd_miss {p q : List Pr} {o : Int} (h : ∀ t ∈ sh p q, t.1 ≠ o) : shd p q o = shd p q (o + 1) := List.filter_congr fun y hy => by
  have := h y hy
  by_cases h1 : o ≤ y.1
  · rw [decide_eq_true h1, decide_eq_true (by omega)]
  · rw [decide_eq_false h1, decide_eq_false (by omega)]
theorem sh_one {p q : List Pr} {n m l : Int} (hp : Rt p n m) (hq : Rt q n l) {t u : Tr} (ht : t ∈ sh p q) (hu : u ∈ sh p q) (h : t.1 = u.1) : t = u := by
  rw [sh_mem hp hq] at ht hu
  have h1 := fnd_of hp.up ht.1
  have h2 := fnd_of hp.up hu.1
  have h3 := fnd_of hq.up ht.2
  have h4 := fnd_of hq.up hu.2
  rw [h, h2] at h1
  rw [h, h4] at h3
  injection h1 with h1
  injection h3 with h3
  exact tr_ext h h1.symm h3.symm

/-! How far lines are the same. -/
theorem rn_le : ∀ (l : List Tr) (o a b : Int), rn l o a b ≤ l.length
  | [], _, _, _ => Nat.le_refl _
  | t :: r, o, a, b => by
    unfold rn
    have := rn_le r (o + 1) (a + 1) (b + 1)
    split <;> simp <;> omega
theorem run_le (p q : List Pr) (t : Tr) : run p q t ≤ p.length := Nat.le_trans (rn_le _ _ _ _) (shd_len p q t.1)
def plus (t : Tr) (k : Int) : Tr := (t.1 + k, t.2.1 + k, t.2.2 + k)
theorem run_hit {p q : List Pr} {n m l : Int} (hp : Rt p n m) (hq : Rt q n l) {t : Tr} (h : t ∈ sh p q) : run p q t = run p q (plus t 1) + 1 := by
  unfold run
  rw [shd_hit hp hq h, rn, if_pos rfl]; rfl
theorem run_miss {p q : List Pr} {t : Tr} (h : t ∉ sh p q) : run p q t = 0 := by
  unfold run
  cases hl : shd p q t.1 with
  | nil => rfl
  | cons u r =>
    rw [rn, if_neg]
    intro e
    have : u ∈ shd p q t.1 := by rw [hl]; exact List.mem_cons_self
    rw [shd_mem, e] at this
    exact h this.1
theorem run_pos {p q : List Pr} {n m l : Int} (hp : Rt p n m) (hq : Rt q n l) {t : Tr} : 0 < run p q t ↔ t ∈ sh p q := by
  constructor
  · intro h
    apply Classical.byContradiction
    intro h1
    rw [run_miss h1] at h
    omega
  · intro h
    rw [run_hit hp hq h]
    omega
theorem plus_plus (t : Tr) (j k : Int) : plus (plus t j) k = plus t (j + k) := by simp only [plus, Prod.mk.injEq]; omega
theorem plus_zero (t : Tr) : plus t 0 = t := tr_ext (by simp [plus]) (by simp [plus]) (by simp [plus])
theorem run_all {p q : List Pr} {n m l : Int} (hp : Rt p n m) (hq : Rt q n l) : ∀ (k : Nat) (t : Tr), k ≤ run p q t → run p q t = k + run p q (plus t k) ∧ ∀ j : Nat, j < k → plus t j ∈ sh p q
  | 0, t, _ => ⟨by rw [show ((0 : Nat) : Int) = 0 from rfl, plus_zero]; omega, fun j hj => by omega⟩
  | k + 1, t, h => by
    have h1 : t ∈ sh p q := (run_pos hp hq).1 (by omega)
    have h2 := run_hit hp hq h1
    obtain ⟨h3, h4⟩ := run_all hp hq k (plus t 1) (by omega)
    rw [plus_plus, show (1 : Int) + (k : Int) = ((k + 1 : Nat) : Int) by omega] at h3
    refine ⟨by omega, fun j hj => ?_⟩
    cases j with
    | zero => rw [show ((0 : Nat) : Int) = 0 from rfl, plus_zero]; exact h1
    | succ j =>
      have := h4 j (by omega)
      rwa [plus_plus, show (1 : Int) + (j : Int) = ((j + 1 : Nat) : Int) by omega] at this
theorem run_in {p q : List Pr} {n m l : Int} (hp : Rt p n m) (hq : Rt q n l) {t : Tr} {j : Nat} (hj : j < run p q t) : plus t j ∈ sh p q := (run_all hp hq (run p q t) t (Nat.le_refl _)).2 j hj
theorem run_end {p q : List Pr} {n m l : Int} (hp : Rt p n m) (hq : Rt q n l) (t : Tr) : plus t (run p q t) ∉ sh p q := fun h => by
  have h1 := (run_all hp hq (run p q t) t (Nat.le_refl _)).1
  have h2 := (run_pos hp hq).2 h
  omega
theorem run_fnd {p q : List Pr} {n m l : Int} (hp : Rt p n m) (hq : Rt q n l) {t : Tr} : t ∈ sh p q ↔ fnd p t.1 = some t.2.1 ∧ fnd q t.1 = some t.2.2 := by rw [sh_mem hp hq, hp.fnd, hq.fnd]

/-! The next place that is matched on both sides. -/
theorem nx_mem {l : List Tr} {a b : Int} {t : Tr} (h : nx l a b = some t) : t ∈ l ∧ a ≤ t.2.1 ∧ b ≤ t.2.2 := by
  have h1 := List.find?_some h
  simp only [Bool.and_eq_true, decide_eq_true_eq] at h1
  exact ⟨List.mem_of_find?_eq_some h, h1.1, h1.2⟩
theorem nxt_mem {p q : List Pr} {t x : Tr} (h : nxt p q t = some x) : x ∈ sh p q ∧ Le3 t x := by
  obtain ⟨h1, h2, h3⟩ := nx_mem h
  rw [shd_mem] at h1
  exact ⟨h1.1, h1.2, h2, h3⟩
theorem sh_bound {p q : List Pr} {e : Tr} (hp : Rt p e.1 e.2.1) (hq : Rt q e.1 e.2.2) {t : Tr} (h : t ∈ sh p q) : (0 ≤ t.1 ∧ t.1 < e.1) ∧ (0 ≤ t.2.1 ∧ t.2.1 < e.2.1) ∧ (0 ≤ t.2.2 ∧ t.2.2 < e.2.2) := by
  rw [sh_mem hp hq] at h
  have h1 := hp.all _ h.1
  have h2 := hq.all _ h.2
  simp only at h1 h2
  omega

/-! One chunk, and the walk. -/
structure St (p q : List Pr) (e t : Tr) (c : Ck) : Prop where
  at_ : c.o = t.1 ∧ c.a = t.2.1 ∧ c.b = t.2.2
  on : 0 ≤ c.on
  an : 0 ≤ c.an
  bn : 0 ≤ c.bn
  sum : 0 < c.on + c.an + c.bn
  le : Le3 (beh c) e
theorem step_ok {p q : List Pr} {e t : Tr} (hp : Rt p e.1 e.2.1) (hq : Rt q e.1 e.2.2) (hl : Le3 t e) (hne : t ≠ e) : St p q e t (step p q e t) := by
  unfold step
  by_cases hr : run p q t = 0
  · rw [if_pos hr]
    cases hx : nxt p q t with
    | none =>
      simp only [Option.getD_none]
      obtain ⟨h1, h2, h3⟩ := hl
      refine ⟨⟨rfl, rfl, rfl⟩, by simp [unst]; omega, by simp [unst]; omega, by simp [unst]; omega, ?_, ?_⟩
      · apply Classical.byContradiction
        intro h
        simp only [unst] at h
        exact hne (tr_ext (by omega) (by omega) (by omega))
      · refine ⟨?_, ?_, ?_⟩ <;> simp only [beh, unst] <;> omega
    | some x =>
      simp only [Option.getD_some]
      obtain ⟨h0, h1, h2, h3⟩ := nxt_mem hx
      have hb := sh_bound hp hq h0
      refine ⟨⟨rfl, rfl, rfl⟩, by simp [unst]; omega, by simp [unst]; omega, by simp [unst]; omega, ?_, ?_⟩
      · apply Classical.byContradiction
        intro h
        simp only [unst] at h
        have : t = x := tr_ext (by omega) (by omega) (by omega)
        subst this
        have := (run_pos hp hq).2 h0
        omega
      · refine ⟨?_, ?_, ?_⟩ <;> simp only [beh, unst] <;> omega
  · rw [if_neg hr]
    have h0 := run_in hp hq (t := t) (j := run p q t - 1) (by omega)
    have hb := sh_bound hp hq h0
    simp only [plus] at hb
    refine ⟨⟨rfl, rfl, rfl⟩, by simp [stab], by simp [stab], by simp [stab], by simp [stab]; omega, ?_⟩
    refine ⟨?_, ?_, ?_⟩ <;> simp only [beh, stab] <;> omega
theorem St.fu {p q : List Pr} {e t : Tr} {c : Ck} (h : St p q e t c) : fu e (beh c) < fu e t := by
  obtain ⟨⟨h1, h2, h3⟩, h4, h5, h6, h7, h8, h9, h10⟩ := h
  unfold Ck.fu
  simp only [beh] at *
  omega
theorem wk_fu {p q : List Pr} {e : Tr} (hp : Rt p e.1 e.2.1) (hq : Rt q e.1 e.2.2) : ∀ (f g : Nat) (t : Tr), Le3 t e → fu e t ≤ f → fu e t ≤ g → wk p q e f t = wk p q e g t
  | 0, 0, _, _, _, _ => rfl
  | 0, g + 1, t, hl, hf, _ => by
    rw [wk, wk, if_pos]
    obtain ⟨h1, h2, h3⟩ := hl
    unfold fu at hf
    exact tr_ext (by omega) (by omega) (by omega)
  | f + 1, 0, t, hl, _, hg => by
    rw [wk, wk, if_pos]
    obtain ⟨h1, h2, h3⟩ := hl
    unfold fu at hg
    exact tr_ext (by omega) (by omega) (by omega)
  | f + 1, g + 1, t, hl, hf, hg => by
    rw [wk, wk]
    by_cases he : t = e
    · rw [if_pos he, if_pos he]
    · rw [if_neg he, if_neg he]
      have hs := step_ok hp hq hl he
      have hd := hs.fu
      rw [wk_fu hp hq f g _ hs.le (by omega) (by omega)]
theorem walk_end (p q : List Pr) (e : Tr) : walk p q e e = [] := by
  unfold walk
  cases fu e e with
  | zero => rfl
  | succ n => rw [wk, if_pos rfl]
theorem walk_step {p q : List Pr} {e t : Tr} (hp : Rt p e.1 e.2.1) (hq : Rt q e.1 e.2.2) (hl : Le3 t e) (hne : t ≠ e) : walk p q e t = step p q e t :: walk p q e (beh (step p q e t)) := by
  have hs := step_ok hp hq hl hne
  have hd := hs.fu
  unfold walk
  obtain ⟨f, hf⟩ : ∃ f, fu e t = f + 1 := ⟨fu e t - 1, by omega⟩
  rw [hf, wk, if_neg hne]
  congr 1
  exact wk_fu hp hq _ _ _ hs.le (by omega) (Nat.le_refl _)
theorem walk_len {p q : List Pr} {e : Tr} : ∀ (f : Nat) (t : Tr), (wk p q e f t).length ≤ f
  | 0, _ => Nat.le_refl _
  | f + 1, t => by
    rw [wk]
    have := walk_len (p := p) (q := q) (e := e) f (beh (step p q e t))
    split <;> simp <;> omega
theorem chunks_len (p q : List Pr) (o a b : Int) : (chunks p q o a b).length ≤ 1200 := by
  unfold chunks
  split
  · rename_i h
    obtain ⟨⟨h1, h2, h3⟩, -⟩ := h
    refine Nat.le_trans (walk_len _ _) ?_
    unfold fu
    simp only [bound] at *
    omega
  · simp
/-- An induction over the walk. -/
theorem walk_ind {p q : List Pr} {e : Tr} (hp : Rt p e.1 e.2.1) (hq : Rt q e.1 e.2.2) {M : Tr → List Ck → Prop} (h0 : M e []) (h1 : ∀ t r, Le3 t e → t ≠ e → Le3 (beh (step p q e t)) e → r = walk p q e (beh (step p q e t)) → M (beh (step p q e t)) r → M t (step p q e t :: r)) : ∀ (n : Nat) (t : Tr), fu e t ≤ n → Le3 t e → M t (walk p q e t) := by
  intro n
  induction n with
  | zero =>
    intro t hn hl
    have : t = e := by
      obtain ⟨h1, h2, h3⟩ := hl
      unfold fu at hn
      exact tr_ext (by omega) (by omega) (by omega)
    subst this
    rw [walk_end]; exact h0
  | succ n ih =>
    intro t hn hl
    by_cases he : t = e
    · subst he; rw [walk_end]; exact h0
    · have hs := step_ok hp hq hl he
      have hd := hs.fu
      rw [walk_step hp hq hl he]
      exact h1 t _ hl he hs.le rfl (ih _ (by omega) hs.le)
end Go.Proofs.Ytkflhcfopejigaa.Ck

namespace Go.Proofs.Ytkflhcfopejigaa.Mt
open Go.RowKit
open T
open N (PrIn PrIn.below prCells prCells_snoc pr_own PsEnd infoPair)
open V (drawn_below)
open I (alloc1 own_at own_below)

theorem fnd_at {ps : List Pr} {k : Nat} (hk : k < ps.length) (i : Int) : fnd (ps.drop k) i = if ps[k].1 = i then some ps[k].2 else fnd (ps.drop (k + 1)) i := by rw [List.drop_eq_getElem_cons hk, fnd]
def toV (o : Option Int) : Value := .tuple #[.int .i64 (o.getD 0), .bool o.isSome]
theorem inv_take {ps : List Pr} {k : Nat} (hk : k < ps.length) : inv (ps.take (k + 1)) = inv (ps.take k) ++ [(ps[k].2, ps[k].1)] := by
  unfold inv
  rw [List.take_succ_eq_append_getElem hk, List.map_append]; rfl
theorem inv_len (ps : List Pr) : (inv ps).length = ps.length := by simp [inv]

set_option maxRecDepth 100000 in
set_option maxHeartbeats 1000000 in
theorem rto_any (A : Option Addr) (cap : Nat) (ps : List Pr) (i : Int) (w : World) (hA : PrIn w A ps) (hl : ps.length ≤ maxLen) :
    Calls Try.prog 54 #[.slice A ps.length cap, .int .i64 i] w fun e w' => e = .returned (toV (fnd ps i)) ∧ w' = w := by
  have HA := Lib.hid hA
  unfold maxLen at hl
  clear hA
  go_enter Try.func54, Try.ntmps54
  go_wp2_with fail
  go_loopg [6] ps.length (fun q iv wx => ∃ k : Nat, k ≤ ps.length ∧ iv = .int .i64 k ∧ ps.length - k ≤ q ∧ wx = w ∧ Hid (fnd ps i = fnd (ps.drop k) i))
  case atStart => exact ⟨0, Nat.zero_le _, rfl, by omega, rfl, Lib.hid rfl⟩
  case round =>
    obtain ⟨k, hk, rfl, hm, rfl, HF⟩ := hrel
    by_cases hlt : k < ps.length
    · obtain ⟨bk, off, hAe, hbk, hI⟩ := HA.out (by omega)
      subst hAe
      obtain ⟨c0, c1⟩ := hI k hlt
      have HN := Lib.hid (fnd_at hlt i)
      have h0k : (0 : Int) ≤ (k : Int) := by omega
      have hki : (k : Int) < (ps.length : Int) := by omega
      clear hI
      obtain ⟨p, hp⟩ : ∃ p, p = ps[k] := ⟨_, rfl⟩
      rw [← hp] at c0 c1 HN
      clear hp
      obtain ⟨p0, p1⟩ := p
      simp only at c0 c1
      by_cases he : p0 = i
      · subst he
        have HV := Lib.hid (show fnd ps p0 = some p1 from HF.out.trans (HN.out.trans (if_pos rfl)))
        clear HF HN
        go_wp2_with fail
        refine bodyPost_ret (v := .tuple #[.int .i64 p1, .bool true]) (by simp [results, Try.results54, go_sem]) rfl ⟨by rw [HV.out]; rfl, rfl⟩
      · have hb : (p0 == i) = false := beq_eq_false_iff_ne.2 he
        have HE := Lib.hid he
        clear he
        go_wp2_with fail
        go_roundg (ps.length - (k + 1))
        case rel => exact ⟨k + 1, by omega, by go_num, Nat.le_refl _, rfl, Lib.hid (HF.out.trans (HN.out.trans (if_neg HE.out)))⟩
        case measure => omega
    · obtain rfl : k = ps.length := by omega
      have HV := Lib.hid (show fnd ps i = none by rw [HF.out, List.drop_length]; rfl)
      clear HF
      go_wp2_with fail
      refine bodyPost_ret (v := .tuple #[.int .i64 0, .bool false]) (by simp [results, Try.results54, go_sem]) rfl ⟨by rw [HV.out]; rfl, rfl⟩

end Go.Proofs.Ytkflhcfopejigaa.Mt

namespace Go.Proofs.Ytkflhcfopejigaa.Mt
open Go.RowKit
open T
open N (PrIn PrIn.below prCells prCells_snoc pr_own PsEnd infoPair)
open V (drawn_below)
open I (alloc1 own_at own_below)

theorem rt_at {ps : List Pr} {k : Nat} (hk : k < ps.length) (n m a b : Int) : rt n m a b (ps.drop k) = (decide (a < ps[k].1) && decide (ps[k].1 < n) && decide (b < ps[k].2) && decide (ps[k].2 < m) && rt n m ps[k].1 ps[k].2 (ps.drop (k + 1))) := by rw [List.drop_eq_getElem_cons hk, rt]
theorem rt_bad {a b n m : Int} {t : Bool} {p : Pr} (hb : ¬ (a < p.1 ∧ p.1 < n ∧ b < p.2 ∧ p.2 < m)) : (decide (a < p.1) && decide (p.1 < n) && decide (b < p.2) && decide (p.2 < m) && t) = false := by
  rw [Bool.eq_false_iff]
  intro h
  simp only [Bool.and_eq_true, decide_eq_true_eq] at h
  exact hb ⟨h.1.1.1.1, h.1.1.1.2, h.1.1.2, h.1.2⟩
theorem rt_good {a b n m : Int} {t : Bool} {p : Pr} (hb : a < p.1 ∧ p.1 < n ∧ b < p.2 ∧ p.2 < m) : (decide (a < p.1) && decide (p.1 < n) && decide (b < p.2) && decide (p.2 < m) && t) = t := by
  obtain ⟨h1, h2, h3, h4⟩ := hb
  rw [decide_eq_true h1, decide_eq_true h2, decide_eq_true h3, decide_eq_true h4]; rfl
theorem four_ways (a b n m p q : Int) : p ≤ a ∨ (¬ p ≤ a ∧ n ≤ p) ∨ (¬ p ≤ a ∧ ¬ n ≤ p ∧ q ≤ b) ∨ (¬ p ≤ a ∧ ¬ n ≤ p ∧ ¬ q ≤ b ∧ m ≤ q) ∨ (¬ p ≤ a ∧ ¬ n ≤ p ∧ ¬ q ≤ b ∧ ¬ m ≤ q) := by omega

set_option maxRecDepth 100000 in
set_option maxHeartbeats 4000000 in
theorem right_any (A : Option Addr) (cap : Nat) (ps : List Pr) (n m : Int) (w : World) (hA : PrIn w A ps) (hl : ps.length ≤ maxLen) :
    Calls Try.prog 39 #[.slice A ps.length cap, .int .i64 n, .int .i64 m] w fun e w' => e = .returned (.bool (right ps n m)) ∧ Below w.heap.size w w' := by
  have HA := Lib.hid hA
  unfold maxLen at hl
  clear hA
  obtain ⟨W0, hW0⟩ : ∃ W : World, W = w.alloc (.cells #[.int .i64 (-1), .int .i64 (-1)] 57) := ⟨_, rfl⟩
  have HB0 := Lib.hid (show Below w.heap.size w W0 by rw [hW0]; exact alloc1 _ _)
  have HX0 := Lib.hid (show W0.heap[w.heap.size]? = some (.cells #[.int .i64 (-1), .int .i64 (-1)] 57 (0, 0)) by rw [hW0]; exact heap_alloc_new w _)
  go_enter Try.func39, Try.ntmps39
  go_wp2_with fail
  rw [← hW0]
  clear hW0
  go_loopg [13] ps.length (fun q iv wx => ∃ (k : Nat) (a b : Int), k ≤ ps.length ∧ iv = .int .i64 k ∧ ps.length - k ≤ q ∧ Below w.heap.size w wx ∧ wx.heap[w.heap.size]? = some (.cells #[.int .i64 a, .int .i64 b] 57 (0, 0)) ∧ Hid (right ps n m = rt n m a b (ps.drop k)))
  case atStart => exact ⟨0, -1, -1, Nat.zero_le _, rfl, by omega, HB0.out, HX0.out, Lib.hid rfl⟩
  case round =>
    obtain ⟨k, a, b, hk, rfl, hm, hbr, hx, HF⟩ := hrel
    by_cases hlt : k < ps.length
    · obtain ⟨bk, off, hAe, hbk, hI⟩ := HA.out (by omega)
      subst hAe
      obtain ⟨q0, q1⟩ := hI k hlt
      have c0 := (hbr.cell (p := ⟨bk, off + k * 2, none⟩) hbk).trans q0
      have c1 := (hbr.cell (p := ⟨bk, off + k * 2 + 1, none⟩) hbk).trans q1
      have HN := Lib.hid (HF.out.trans (rt_at hlt n m a b))
      have h0k : (0 : Int) ≤ (k : Int) := by omega
      have hki : (k : Int) < (ps.length : Int) := by omega
      have HBR := Lib.hid hbr
      have hbs := hbr.size
      have hxl := L.blk_lt hx
      clear hI q0 q1 hbr HF
      obtain ⟨p, hp⟩ : ∃ p, p = ps[k] := ⟨_, rfl⟩
      rw [← hp] at c0 c1 HN
      clear hp
      have HBAD := Lib.hid (fun (hb : ¬ (a < p.1 ∧ p.1 < n ∧ b < p.2 ∧ p.2 < m)) => HN.out.trans (rt_bad hb))
      have HGOOD := Lib.hid (fun (hb : a < p.1 ∧ p.1 < n ∧ b < p.2 ∧ p.2 < m) => HN.out.trans (rt_good hb))
      obtain ⟨p0, p1⟩ := p
      simp only at c0 c1 HBAD HGOOD
      have hx1 : (wr.alloc (.cells #[.int .i64 p0, .int .i64 p1] 57)).heap[w.heap.size]? = some (.cells #[.int .i64 a, .int .i64 b] 57 (0, 0)) := (Below.heap_alloc _ _ _ hxl).trans hx
      have x0 := L.blk_cell hx1 0
      have x1 := L.blk_cell hx1 1
      simp only [List.getElem?_toArray, List.getElem?_cons_zero, List.getElem?_cons_succ] at x0 x1
      have z0 := L.blk_free hx1 0
      have z1 := L.blk_free hx1 1
      have y0 := L.blk_cell hx 0
      have y1 := L.blk_cell hx 1
      simp only [List.getElem?_toArray, List.getElem?_cons_zero, List.getElem?_cons_succ] at y0 y1
      have HX2 := Lib.hid (L.blk_set hx 0 (.int .i64 p0))
      have z2 := L.blk_free ((Below.heap_alloc (wr.setCell ⟨w.heap.size, 0, none⟩ (.int .i64 p0)) (.cells #[.int .i64 p0, .int .i64 p1] 57) w.heap.size (by simpa using hxl)).trans HX2.out) 1
      have HX3 := Lib.hid (L.blk_set HX2.out 1 (.int .i64 p1))
      have HX1 := Lib.hid hx1
      have HB1 := Lib.hid (HBR.out.trans ((alloc1 wr (.cells #[.int .i64 p0, .int .i64 p1] 57)).mono hbs))
      clear hx hx1 HN
      rcases four_ways a b n m p0 p1 with h1 | ⟨h1, h2⟩ | ⟨h1, h2, h3⟩ | ⟨h1, h2, h3, h4⟩ | ⟨h1, h2, h3, h4⟩
      all_goals try
        have HV := Lib.hid (show right ps n m = false from HBAD.out (by omega))
        clear HBAD HGOOD
        go_wp2_with fail
        go_ret
        exact ⟨by rw [HV.out]; rfl, HB1.out⟩
      have HV := Lib.hid (show right ps n m = rt n m p0 p1 (ps.drop (k + 1)) from HGOOD.out (by omega))
      clear HBAD HGOOD HA
      go_wp2_with fail
      go_roundg (ps.length - (k + 1))
      case rel => exact ⟨k + 1, p0, p1, by omega, by go_num, Nat.le_refl _, ((HBR.out.setCell (p := ⟨w.heap.size, 0, none⟩) (Nat.le_refl _) _).setCell (p := ⟨w.heap.size, 1, none⟩) (Nat.le_refl _) _).trans ((alloc1 _ _).mono (by simpa using hbs)), (Below.heap_alloc _ _ _ (by simpa using hxl)).trans HX3.out, HV⟩
      case measure => omega
    · obtain rfl : k = ps.length := by omega
      have HV := Lib.hid (show right ps n m = true by rw [HF.out, List.drop_length]; rfl)
      clear HF
      go_wp2_with fail
      go_ret
      exact ⟨by rw [HV.out]; rfl, hbr⟩

theorem ref_ways (n m p q : Int) : p < 0 ∨ (¬ p < 0 ∧ n ≤ p) ∨ (¬ p < 0 ∧ ¬ n ≤ p ∧ q < 0) ∨ (¬ p < 0 ∧ ¬ n ≤ p ∧ ¬ q < 0 ∧ m ≤ q) ∨ (¬ p < 0 ∧ ¬ n ≤ p ∧ ¬ q < 0 ∧ ¬ m ≤ q) := by omega
set_option maxRecDepth 100000 in
set_option maxHeartbeats 4000000 in
theorem rright_any (A : Option Addr) (cap : Nat) (ps : List Pr) (n m : Int) (w : World) (hA : PrIn w A ps) (hl : ps.length ≤ maxLen) :
    Calls Try.prog 43 #[.slice A ps.length cap, .int .i64 n, .int .i64 m] w fun e w' => e = .returned (.bool (right ps n m)) ∧ Below w.heap.size w w' := by
  have HA := Lib.hid hA
  unfold maxLen at hl
  clear hA
  go_enter Try.func43, Try.ntmps43
  go_wp2_with fail
  go_loopg [7] ps.length (fun q iv wx => ∃ (k : Nat) (a b : Int), k ≤ ps.length ∧ iv = .int .i64 k ∧ ps.length - k ≤ q ∧ (∃ d, wx = w.drewN d) ∧ Hid (right ps n m = rt n m a b (ps.drop k)) ∧ ((k = 0 ∧ a = -1 ∧ b = -1) ∨ (0 < k ∧ 0 ≤ a ∧ 0 ≤ b ∧ ∃ j, k = j + 1 ∧ ∃ h : j < ps.length, ps[j] = (a, b))))
  case atStart => exact ⟨0, -1, -1, Nat.zero_le _, rfl, by omega, ⟨0, rfl⟩, Lib.hid rfl, .inl ⟨rfl, rfl, rfl⟩⟩
  case round =>
    obtain ⟨k, a, b, hk, rfl, hm, ⟨d, rfl⟩, HF, hab⟩ := hrel
    by_cases hlt : k < ps.length
    · obtain ⟨bk, off, hAe, hbk, hI⟩ := HA.out (by omega)
      subst hAe
      have HI := Lib.hid hI
      obtain ⟨c0, c1⟩ := hI k hlt
      have HN := Lib.hid (HF.out.trans (rt_at hlt n m a b))
      have h0k : (0 : Int) ≤ (k : Int) := by omega
      have hki : (k : Int) < (ps.length : Int) := by omega
      have HPK := Lib.hid (show ∃ h : k < ps.length, ps[k] = ps[k] from ⟨hlt, rfl⟩)
      clear hI HF
      obtain ⟨p, hp⟩ : ∃ p, p = ps[k] := ⟨_, rfl⟩
      have HP := Lib.hid hp
      rw [← hp] at c0 c1 HN
      clear hp
      have HBAD := Lib.hid (fun (hb : ¬ (a < p.1 ∧ p.1 < n ∧ b < p.2 ∧ p.2 < m)) => HN.out.trans (rt_bad hb))
      have HGOOD := Lib.hid (fun (hb : a < p.1 ∧ p.1 < n ∧ b < p.2 ∧ p.2 < m) => HN.out.trans (rt_good hb))
      obtain ⟨p0, p1⟩ := p
      simp only at c0 c1 HBAD HGOOD
      clear HN HPK
      rcases ref_ways n m p0 p1 with h1 | ⟨h1, h2⟩ | ⟨h1, h2, h3⟩ | ⟨h1, h2, h3, h4⟩ | ⟨h1, h2, h3, h4⟩
      all_goals try
        have HV := Lib.hid (show right ps n m = false from HBAD.out (by rcases hab with ⟨-, rfl, rfl⟩ | ⟨-, h5, h6, -⟩ <;> omega))
        clear HBAD HGOOD HI HP hab
        go_wp2_with fail
        go_ret
        exact ⟨by rw [HV.out]; rfl, by first | exact drawn_below _ _ | (rw [N.drewN_add]; exact drawn_below _ _)⟩
      rcases hab with ⟨hk0, rfl, rfl⟩ | ⟨h0, h5, h6, j, hkj, hj, hjp⟩
      · have HV := Lib.hid (show right ps n m = rt n m p0 p1 (ps.drop (k + 1)) from HGOOD.out (by omega))
        have hz1 : ¬ (0 : Int) < (k : Int) := by omega
        have hz2 : decide (0 < k) = false := decide_eq_false (by omega)
        have HNX := Lib.hid (show 0 ≤ p0 ∧ 0 ≤ p1 ∧ ∃ j, k + 1 = j + 1 ∧ ∃ h : j < ps.length, ps[j] = (p0, p1) from ⟨by omega, by omega, k, rfl, hlt, HP.out.symm⟩)
        clear HBAD HGOOD HI hk0
        go_wp2_with fail
        go_quiet (fail)
        go_wp2_with fail
        go_roundg (ps.length - (k + 1))
        case rel => exact ⟨k + 1, p0, p1, by omega, by go_num, Nat.le_refl _, ⟨_, rfl⟩, HV, .inr ⟨by omega, HNX.out⟩⟩
        case measure => omega
      · obtain ⟨d0, d1⟩ := HI.out j hj
        rw [hjp] at d0 d1
        simp only at d0 d1
        have hw1 : IntKind.i64.wrap ((k : Int) - 1) = (j : Int) := by rw [IntKind.wrap_i64]; omega
        have h0j : (0 : Int) ≤ (j : Int) := by omega
        have hji : (j : Int) < (ps.length : Int) := by omega
        have hk1 : (0 : Int) < (k : Int) := by omega
        have hk2 : decide (0 < k) = true := decide_eq_true (by omega)
        have HNX := Lib.hid (show 0 ≤ p0 ∧ 0 ≤ p1 ∧ ∃ j, k + 1 = j + 1 ∧ ∃ h : j < ps.length, ps[j] = (p0, p1) from ⟨by omega, by omega, k, rfl, hlt, HP.out.symm⟩)
        by_cases h7 : p0 ≤ a
        · have HV := Lib.hid (show right ps n m = false from HBAD.out (by omega))
          clear HBAD HGOOD HI HP hkj
          go_wp2_with fail
          go_quiet (fail)
          go_wp2_with fail
          go_ret
          exact ⟨by rw [HV.out]; rfl, by first | exact drawn_below _ _ | (rw [N.drewN_add]; exact drawn_below _ _)⟩
        · by_cases h8 : p1 ≤ b
          · have HV := Lib.hid (show right ps n m = false from HBAD.out (by omega))
            clear HBAD HGOOD HI HP hkj
            go_wp2_with fail
            go_quiet (fail)
            go_wp2_with fail
            go_ret
            exact ⟨by rw [HV.out]; rfl, by first | exact drawn_below _ _ | (rw [N.drewN_add]; exact drawn_below _ _)⟩
          · have HV := Lib.hid (show right ps n m = rt n m p0 p1 (ps.drop (k + 1)) from HGOOD.out (by omega))
            clear HBAD HGOOD HI hkj
            go_wp2_with fail
            go_quiet (fail)
            go_wp2_with fail
            go_roundg (ps.length - (k + 1))
            case rel => exact ⟨k + 1, p0, p1, by omega, by go_num, Nat.le_refl _, ⟨_, rfl⟩, HV, .inr ⟨by omega, HNX.out⟩⟩
            case measure => omega
    · obtain rfl : k = ps.length := by omega
      have HV := Lib.hid (show right ps n m = true by rw [HF.out, List.drop_length]; rfl)
      clear HF
      go_wp2_with fail
      go_ret
      exact ⟨by rw [HV.out]; rfl, by first | exact drawn_below _ _ | (rw [N.drewN_add]; exact drawn_below _ _)⟩
end Go.Proofs.Ytkflhcfopejigaa.Mt

namespace Go.Proofs.Ytkflhcfopejigaa.Ck
set_option linter.unusedVariables false
set_option linter.unusedSimpArgs false
open Go.RowKit
open T
open Mt (Pr fnd Rt right)
open N (PrIn PrIn.below)
open V (drawn_below)
open I (alloc1)

def ckV (c : Ck) : Value := .agg #[.bool c.st, .int .i64 c.o, .int .i64 c.on, .int .i64 c.a, .int .i64 c.an, .int .i64 c.b, .int .i64 c.bn]
def trV (t : Tr) : Value := .agg #[.int .i64 t.1, .int .i64 t.2.1, .int .i64 t.2.2]

set_option maxRecDepth 100000 in
set_option maxHeartbeats 1000000 in
theorem begin_any (c : Ck) (w : World) : Calls Try.prog 55 #[ckV c] w fun e w' => e = .returned (trV (c.o, c.a, c.b)) ∧ Below w.heap.size w w' := by
  obtain ⟨st, o, on, a, an, b, bn⟩ := c
  unfold ckV trV
  simp only
  have hb := fun (o o' : Obj) => (alloc1 w o).alloc (show w.heap.size ≤ (w.alloc o).heap.size by simp) o'
  go_enter Try.func55, Try.ntmps55
  go_wp2_with fail
  refine bodyPost_ret (v := .agg #[.int .i64 o, .int .i64 a, .int .i64 b]) (by simp [results, Try.results55, go_sem]) rfl ⟨rfl, hb _ _⟩

set_option maxRecDepth 100000 in
set_option maxHeartbeats 1000000 in
theorem first1_any (B0 B1 bk off n cap i : Nat) (p0 o : Int) (W : World) (hi : i < n)
    (h0 : W.cell? ⟨B0, 0, none⟩ = some (.slice (some ⟨bk, off, none⟩) n cap)) (h1 : W.cell? ⟨B1, 0, none⟩ = some (.int .i64 o)) (hc : W.cell? ⟨bk, off + i * 2, none⟩ = some (.int .i64 p0)) :
    Calls Try.prog 66 #[.int .i64 (i : Int), .pointer (some ⟨B0, 0, none⟩), .pointer (some ⟨B1, 0, none⟩)] W fun e W' => e = .returned (.bool (decide (o ≤ p0))) ∧ Below W.heap.size W W' := by
  have z0 : (0 : Int) ≤ (i : Int) := by omega
  have z1 : (i : Int) < (n : Int) := by omega
  go_enter Try.func66, Try.ntmps66
  go_wp2_with fail
  go_quiet (fail)
  go_wp2_with fail
  go_ret
  exact ⟨rfl, drawn_below _ _⟩

/-- How many pairs lie ahead of a place. -/
def Frm (ps : List Pr) (o : Int) (k : Nat) : Prop := k ≤ ps.length ∧ (∀ j (hj : j < ps.length), j < k → ps[j].1 < o) ∧ (∀ j (hj : j < ps.length), k ≤ j → o ≤ ps[j].1)
set_option maxRecDepth 100000 in
set_option maxHeartbeats 1000000 in
theorem search_any (B0 B1 bk off cap : Nat) (ps : List Pr) (o : Int) (w : World) (hup : ps.Pairwise fun p q => p.1 < q.1) (hl : ps.length ≤ 1000000) (hb : bk < w.heap.size) (hb0 : B0 < w.heap.size) (hb1 : B1 < w.heap.size)
    (h0 : w.cell? ⟨B0, 0, none⟩ = some (.slice (some ⟨bk, off, none⟩) ps.length cap)) (h1 : w.cell? ⟨B1, 0, none⟩ = some (.int .i64 o)) (hc : ∀ j (hj : j < ps.length), w.cell? ⟨bk, off + j * 2, none⟩ = some (.int .i64 ps[j].1)) :
    Calls Try.prog 65 #[.int .i64 (ps.length : Int), .func (.func 66) #[] #[.pointer (some ⟨B0, 0, none⟩), .pointer (some ⟨B1, 0, none⟩)]] w fun e w' =>
      (∃ k : Nat, e = .returned (.int .i64 (k : Int)) ∧ Frm ps o k) ∧ Below w.heap.size w w' := by
  have HUP := Lib.hid hup
  have HC := Lib.hid hc
  have HH := Lib.hid (And.intro hb (And.intro hb0 hb1))
  have H0 := Lib.hid h0
  have H1 := Lib.hid h1
  obtain ⟨n, hn⟩ : ∃ n, n = ps.length := ⟨_, rfl⟩
  have HN := Lib.hid hn
  rw [← hn] at hl ⊢
  clear hup hc hb hb0 hb1 h0 h1 hn
  have hent := Go.Proofs.enters_of Try.func66 (by kernel_rfl) rfl
  go_enter Try.func65, Try.ntmps65
  go_wp2_with fail
  go_loopg [5, 6, 7] n (fun kx s5 s6 s7 wr => ∃ (lo hi : Nat), s5 = .int .i64 lo ∧ s6 = .int .i64 hi ∧ lo ≤ hi ∧ hi ≤ n ∧ hi - lo ≤ kx ∧ Below w.heap.size w wr ∧ Hid ((∀ j (hj : j < ps.length), j < lo → ps[j].1 < o) ∧ (∀ j (hj : j < ps.length), hi ≤ j → o ≤ ps[j].1)))
  case atStart => exact ⟨0, n, rfl, rfl, Nat.zero_le _, Nat.le_refl _, by omega, Below.refl _ _, Lib.hid ⟨fun j hj h => by omega, fun j hj h => by have := HN.out; omega⟩⟩
  case round =>
    obtain ⟨lo, hi, rfl, rfl, hlh, hin, hg, hbr, HI⟩ := hrel
    by_cases hlt : lo < hi
    · obtain ⟨m, hm⟩ : ∃ m : Nat, m = (lo + hi) / 2 := ⟨_, rfl⟩
      have HM : Hid (((lo : Int) + (hi : Int)) / 2 = (m : Int)) := Lib.hid (by omega)
      have HML : Hid (lo ≤ m ∧ m < hi) := Lib.hid (by omega)
      have hmn : m < ps.length := by have := HN.out; omega
      have hmk : m < 1000000 := by have := HN.out; omega
      have HBR := Lib.hid hbr
      have HF := Lib.hid (first1_any B0 B1 bk off ps.length cap m ps[m].1 o wr hmn ((hbr.cell (p := ⟨B0, 0, none⟩) HH.out.2.1).trans H0.out) ((hbr.cell (p := ⟨B1, 0, none⟩) HH.out.2.2).trans H1.out) ((hbr.cell (p := ⟨bk, off + m * 2, none⟩) HH.out.1).trans (HC.out m hmn)))
      obtain ⟨x, hx⟩ : ∃ x, x = ps[m].1 := ⟨_, rfl⟩
      rw [← hx] at HF
      have HX := Lib.hid hx
      clear hbr hm hx
      by_cases hp : o ≤ x
      · rw [decide_eq_true hp] at HF
        have HP := Lib.hid hp
        clear hp
        go_wp2_with fail
        rw [HM.out]
        with_reducible refine (HF.out).mono ?_
        rintro e w' ⟨rfl, hb'⟩
        have HB' := Lib.hid (HBR.out.trans (hb'.mono HBR.out.size))
        clear hb'
        go_wp2_with fail
        go_roundg (m - lo)
        case measure => have := HML.out; omega
        case rel =>
          exact ⟨lo, m, rfl, rfl, by have := HML.out; omega, by have := HML.out; omega, Nat.le_refl _, HB'.out, Lib.hid ⟨HI.out.1, fun j hj h => by
            rcases Nat.lt_or_eq_of_le h with h2 | h2
            · have h3 := List.pairwise_iff_getElem.1 HUP.out m j hmn hj h2
              have := HP.out; have := HX.out; omega
            · subst h2; have := HP.out; have := HX.out; omega⟩⟩
      · rw [decide_eq_false hp] at HF
        have HP := Lib.hid hp
        clear hp
        go_wp2_with fail
        rw [HM.out]
        with_reducible refine (HF.out).mono ?_
        rintro e w' ⟨rfl, hb'⟩
        have HB' := Lib.hid (HBR.out.trans (hb'.mono HBR.out.size))
        clear hb'
        go_wp2_with fail
        go_roundg (hi - (m + 1))
        case measure => have := HML.out; omega
        case rel =>
          have hmb := HML.out
          exact ⟨m + 1, hi, by go_num, rfl, by have := HML.out; omega, by omega, Nat.le_refl _, HB'.out, Lib.hid ⟨fun j hj h => by
            rcases Nat.lt_or_eq_of_le (show j ≤ m by omega) with h2 | h2
            · have h3 := List.pairwise_iff_getElem.1 HUP.out j m hj hmn h2
              have := HP.out; have := HX.out; omega
            · subst h2; have := HP.out; have := HX.out; omega, HI.out.2⟩⟩
    · obtain rfl : hi = lo := by omega
      have HBR := Lib.hid hbr
      clear hbr
      go_wp2_with fail
      go_ret
      exact ⟨⟨hi, rfl, by have := HN.out; omega, HI.out.1, HI.out.2⟩, HBR.out⟩

set_option maxRecDepth 100000 in
set_option maxHeartbeats 1000000 in
theorem first_any (A : Option Addr) (cap : Nat) (ps : List Pr) (o : Int) (w : World) (hup : ps.Pairwise fun p q => p.1 < q.1) (hl : ps.length ≤ 1000000) (hA : PrIn w A ps) :
    Calls Try.prog 64 #[.slice A ps.length cap, .int .i64 o] w fun e w' =>
      (∃ k : Nat, e = .returned (.int .i64 (k : Int)) ∧ Frm ps o k) ∧ Below w.heap.size w w' := by
  have HA := Lib.hid hA
  clear hA
  obtain ⟨W1, hW1⟩ : ∃ W : World, W = (w.alloc (.cells #[.slice A ps.length cap] 23)).alloc (.cells #[.int .i64 o] 3) := ⟨_, rfl⟩
  have HB1 := Lib.hid (show Below w.heap.size w W1 by rw [hW1]; exact (alloc1 _ _).alloc (by simp) _)
  have hs1 : W1.heap.size = w.heap.size + 1 + 1 := by rw [hW1]; simp
  have h0 : W1.heap[w.heap.size]? = some (.cells #[.slice A ps.length cap] 23 (0, 0)) := by rw [hW1]; exact (L.two_blocks w _ _).1
  have h1 : W1.heap[w.heap.size + 1]? = some (.cells #[.int .i64 o] 3 (0, 0)) := by rw [hW1]; exact (L.two_blocks w _ _).2
  have c0 := L.blk_cell h0 0
  have c1 := L.blk_cell h1 0
  simp only [List.getElem?_toArray, List.getElem?_cons_zero] at c0 c1
  have HS : Hid (Calls Try.prog 65 #[.int .i64 (ps.length : Int), .func (.func 66) #[] #[.pointer (some ⟨w.heap.size, 0, none⟩), .pointer (some ⟨w.heap.size + 1, 0, none⟩)]] W1 fun e w' =>
      (∃ k : Nat, e = .returned (.int .i64 (k : Int)) ∧ Frm ps o k) ∧ Below W1.heap.size W1 w') := Lib.hid (by
    by_cases hp : 0 < ps.length
    · obtain ⟨bk, off, hAe, hbk, hI⟩ := HA.out hp
      subst hAe
      exact search_any _ _ bk off cap ps o W1 hup hl (by omega) (by omega) (by omega) c0 c1 (fun j hj => (HB1.out.cell (p := ⟨bk, off + j * 2, none⟩) hbk).trans (hI j hj).1)
    · obtain rfl : ps = [] := List.length_eq_zero_iff.1 (by omega)
      clear c0 c1 h0 h1 hW1
      go_enter Try.func65, Try.ntmps65
      go_wp2_with fail
      go_loopg [5, 6, 7] 0 (fun kx s5 s6 s7 wr => s5 = .int .i64 0 ∧ s6 = .int .i64 0 ∧ wr = W1)
      case atStart => exact ⟨rfl, rfl, rfl⟩
      case round =>
        obtain ⟨rfl, rfl, rfl⟩ := hrel
        go_wp2_with fail
        go_ret
        exact ⟨⟨0, rfl, (⟨Nat.le_refl _, fun j hj => by simp at hj, fun j hj => by simp at hj⟩ : Frm [] o 0)⟩, Below.refl _ _⟩)
  obtain ⟨n, hn⟩ : ∃ n, n = ps.length := ⟨_, rfl⟩
  rw [← hn] at HS hW1 c0 ⊢
  rw [hW1] at c0
  clear h0 h1 c1 hn
  go_enter Try.func64, Try.ntmps64
  go_wp2_with fail
  rw [← hW1]
  with_reducible refine (HS.out).mono ?_
  rintro e w' ⟨⟨k, rfl, hk⟩, hb'⟩
  have HK := Lib.hid hk
  have HB' := Lib.hid (HB1.out.trans (hb'.mono (by omega)))
  clear hk hb' hW1 c0
  go_wp2_with fail
  go_ret
  exact ⟨⟨k, rfl, HK.out⟩, HB'.out⟩
end Go.Proofs.Ytkflhcfopejigaa.Ck

namespace Go.Proofs.Ytkflhcfopejigaa.Ck
set_option linter.unusedVariables false
set_option linter.unusedSimpArgs false
open Go.RowKit
open T
open Mt (Pr fnd Rt right)
open N (PrIn PrIn.below)
open V (drawn_below)
open I (alloc1)

theorem fnd_skip : ∀ {q : List Pr} {x : Int} (j : Nat), (∀ l (hl : l < q.length), l < j → q[l].1 ≠ x) → fnd (q.drop j) x = fnd q x
  | [], _, j, _ => by simp
  | z :: r, x, 0, _ => rfl
  | z :: r, x, j + 1, h => by
    rw [List.drop_succ_cons, fnd_skip j (fun l hl hj => by have := h (l + 1) (by simpa using hl) (by omega); simpa using this), fnd, if_neg]
    have := h 0 (by simp) (by omega)
    simpa using this
theorem fnd_none : ∀ {q : List Pr} {x : Int}, (∀ z ∈ q, z.1 ≠ x) → fnd q x = none
  | [], _, _ => rfl
  | z :: r, x, h => by
    rw [fnd, if_neg (h z List.mem_cons_self)]
    exact fnd_none fun y hy => h y (List.mem_cons_of_mem _ hy)
theorem sh_append (a b q : List Pr) : sh (a ++ b) q = sh a q ++ sh b q := by simp [sh]
theorem sh_cons (z : Pr) (r q : List Pr) : sh (z :: r) q = ((fnd q z.1).map fun k => (z.1, z.2, k)).toList ++ sh r q := by
  unfold sh
  rw [List.filterMap_cons]
  cases (fnd q z.1) <;> rfl
theorem sh_nil (p : List Pr) : sh p [] = [] := by
  unfold sh
  rw [List.filterMap_eq_nil_iff]
  intro z _
  rfl
theorem sh_congr : ∀ {p q r : List Pr}, (∀ z ∈ p, fnd q z.1 = fnd r z.1) → sh p q = sh p r
  | [], _, _, _ => rfl
  | z :: s, q, r, h => by rw [sh_cons, sh_cons, h z List.mem_cons_self, sh_congr fun y hy => h y (List.mem_cons_of_mem _ hy)]
theorem mem_drop_at {p : List Pr} {i : Nat} {z : Pr} (h : z ∈ p.drop i) : ∃ j, ∃ hj : j < p.length, i ≤ j ∧ p[j] = z := by
  obtain ⟨j, hj, rfl⟩ := List.mem_iff_getElem.1 h
  rw [List.length_drop] at hj
  exact ⟨i + j, by omega, by omega, by rw [List.getElem_drop]⟩
theorem mem_take_at {p : List Pr} {i : Nat} {z : Pr} (h : z ∈ p.take i) : ∃ j, ∃ hj : j < p.length, j < i ∧ p[j] = z := by
  obtain ⟨j, hj, rfl⟩ := List.mem_iff_getElem.1 h
  rw [List.length_take] at hj
  exact ⟨j, by omega, by omega, by rw [List.getElem_take]⟩
theorem sh_from {p q : List Pr} {o : Int} {i j : Nat} (hi : Frm p o i) (hj : Frm q o j) : shd p q o = sh (p.drop i) (q.drop j) := by
  have e1 : sh (p.drop i) (q.drop j) = sh (p.drop i) q := sh_congr fun z hz => by
    obtain ⟨l, hl, h1, rfl⟩ := mem_drop_at hz
    refine fnd_skip j fun m hm h2 => ?_
    have := hi.2.2 l hl h1
    have := hj.2.1 m hm h2
    omega
  rw [e1]
  unfold shd
  conv => lhs; rw [← List.take_append_drop i p, sh_append, List.filter_append]
  have e2 : (sh (p.take i) q).filter (fun t => decide (o ≤ t.1)) = [] := by
    rw [List.filter_eq_nil_iff]
    intro t ht
    unfold sh at ht
    rw [List.mem_filterMap] at ht
    obtain ⟨z, hz, h⟩ := ht
    simp only [Option.map_eq_some_iff] at h
    obtain ⟨k, -, rfl⟩ := h
    obtain ⟨l, hl, h1, rfl⟩ := mem_take_at hz
    have := hi.2.1 l hl h1
    simp only [decide_eq_true_eq]
    omega
  have e3 : (sh (p.drop i) q).filter (fun t => decide (o ≤ t.1)) = sh (p.drop i) q := by
    rw [List.filter_eq_self]
    intro t ht
    unfold sh at ht
    rw [List.mem_filterMap] at ht
    obtain ⟨z, hz, h⟩ := ht
    simp only [Option.map_eq_some_iff] at h
    obtain ⟨k, -, rfl⟩ := h
    obtain ⟨l, hl, h1, rfl⟩ := mem_drop_at hz
    have := hi.2.2 l hl h1
    simp only [decide_eq_true_eq]
    omega
  rw [e2, e3, List.nil_append]
theorem up_at {p : List Pr} (hp : p.Pairwise fun p q => p.1 < q.1) {i j : Nat} (hi : i < p.length) (hj : j < p.length) (h : i ≤ j) : p[i].1 ≤ p[j].1 := by
  rcases Nat.lt_or_eq_of_le h with h1 | h1
  · exact Int.le_of_lt (List.pairwise_iff_getElem.1 hp i j hi hj h1)
  · subst h1; exact Int.le_refl _
theorem up_lt {p : List Pr} (hp : p.Pairwise fun p q => p.1 < q.1) {i j : Nat} (hi : i < p.length) (hj : j < p.length) (h : i < j) : p[i].1 < p[j].1 := List.pairwise_iff_getElem.1 hp i j hi hj h
theorem sh_left {p q : List Pr} (hq : q.Pairwise fun p q => p.1 < q.1) {i j : Nat} (hi : i < p.length) (hj : j < q.length) (h : p[i].1 < q[j].1) : sh (p.drop i) (q.drop j) = sh (p.drop (i + 1)) (q.drop j) := by
  rw [List.drop_eq_getElem_cons hi, sh_cons, fnd_none (fun z hz => by
    obtain ⟨l, hl, h1, rfl⟩ := mem_drop_at hz
    have := up_at hq hj hl h1
    omega)]
  rfl
theorem sh_right {p q : List Pr} (hp : p.Pairwise fun p q => p.1 < q.1) {i j : Nat} (hi : i < p.length) (hj : j < q.length) (h : q[j].1 < p[i].1) : sh (p.drop i) (q.drop j) = sh (p.drop i) (q.drop (j + 1)) := sh_congr fun z hz => by
  obtain ⟨l, hl, h1, rfl⟩ := mem_drop_at hz
  have := up_at hp hi hl h1
  rw [List.drop_eq_getElem_cons hj, fnd, if_neg (by omega)]
theorem sh_both {p q : List Pr} (hp : p.Pairwise fun p q => p.1 < q.1) {i j : Nat} (hi : i < p.length) (hj : j < q.length) (h : p[i].1 = q[j].1) : sh (p.drop i) (q.drop j) = (p[i].1, p[i].2, q[j].2) :: sh (p.drop (i + 1)) (q.drop (j + 1)) := by
  rw [List.drop_eq_getElem_cons hi, sh_cons, List.drop_eq_getElem_cons hj, fnd, if_pos h.symm]
  simp only [Option.map_some, Option.toList_some, List.singleton_append]
  congr 1
  refine sh_congr fun z hz => ?_
  obtain ⟨l, hl, h1, rfl⟩ := mem_drop_at hz
  have := up_lt hp hi hl (by omega)
  rw [fnd, if_neg (by omega)]
theorem sh_out {p q : List Pr} {i j : Nat} (h : p.length ≤ i ∨ q.length ≤ j) : sh (p.drop i) (q.drop j) = [] := by
  rcases h with h | h
  · rw [List.drop_eq_nil_of_le h]; rfl
  · rw [List.drop_eq_nil_of_le h, sh_nil]

/-- What is told is small. -/
def Okt (t : Tr) : Prop := (0 ≤ t.1 ∧ t.1 ≤ 1000) ∧ (0 ≤ t.2.1 ∧ t.2.1 ≤ 1000) ∧ (0 ≤ t.2.2 ∧ t.2.2 ≤ 1000)
abbrev TrB := { t : Tr // Okt t }
def okp (p : List Pr) : Prop := ∀ z ∈ p, (0 ≤ z.1 ∧ z.1 ≤ 1000) ∧ (0 ≤ z.2 ∧ z.2 ≤ 1000)
/-- Pairs that lie below n0. -/
def PrLow (w : World) (n0 : Nat) (A : Option Addr) (ps : List Pr) : Prop := 0 < ps.length → ∃ bk off, A = some ⟨bk, off, none⟩ ∧ bk < n0 ∧ ∀ j (hj : j < ps.length), w.cell? ⟨bk, off + j * 2, none⟩ = some (.int .i64 ps[j].1) ∧ w.cell? ⟨bk, off + j * 2 + 1, none⟩ = some (.int .i64 ps[j].2)
theorem PrLow.kept {w w' : World} {n0 : Nat} {A : Option Addr} {xs : List Pr} (h : PrLow w n0 A xs) (hb : Below n0 w w') : PrLow w' n0 A xs := fun hp => by
  obtain ⟨bk, off, e, hlt, hl⟩ := h hp
  exact ⟨bk, off, e, hlt, fun j hj => ⟨(hb.cell (p := ⟨bk, off + j * 2, none⟩) hlt).trans (hl j hj).1, (hb.cell (p := ⟨bk, off + j * 2 + 1, none⟩) hlt).trans (hl j hj).2⟩⟩
theorem PrLow.prIn {w : World} {n0 : Nat} {A : Option Addr} {xs : List Pr} (h : PrLow w n0 A xs) (hn : n0 ≤ w.heap.size) : PrIn w A xs := fun hp => by
  obtain ⟨bk, off, e, hlt, hl⟩ := h hp
  exact ⟨bk, off, e, by omega, hl⟩
theorem PrLow.of {w : World} {A : Option Addr} {xs : List Pr} (h : PrIn w A xs) : PrLow w w.heap.size A xs := h
end Go.Proofs.Ytkflhcfopejigaa.Ck
