/-
  What follows of chunks, in plain words: they are right, of either kind by turns, and the same with both others changed for one another; with one matched line by line.
  Stretches of a text, plain.
  Merging, in plain words: pieces of three texts, which text counts in them, their lines with marks; with both others changed for one another; one of them the base, matched line by line.
  The contract of merge's Clean: is there no clash?
  The contracts of the reference's Run and Next.
-/
import Derived.Test.YtkflhcfopejigaaGgh
import Derived.Test.YtkflhcfopejigaaGga
import Derived.Test.YtkflhcfopejigaaGgg
namespace Go.Proofs.Ytkflhcfopejigaa.Ck
set_option linter.unusedVariables false
set_option linter.unusedSimpArgs false
open Go.RowKit
open Mt (Pr fnd Rt right fnd_mem fnd_of)

theorem step_st (p q : List Pr) (e t : Tr) : (step p q e t).st = decide (0 < run p q t) := by
  unfold step
  by_cases h : run p q t = 0
  · rw [if_pos h, decide_eq_false (by omega)]; rfl
  · rw [if_neg h, decide_eq_true (by omega)]; rfl
theorem step_pos {p q : List Pr} {e t : Tr} (h : 0 < run p q t) : step p q e t = stab t (run p q t) := if_neg (by omega)
theorem step_zero {p q : List Pr} {e t : Tr} (h : run p q t = 0) : step p q e t = unst t ((nxt p q t).getD e) := if_pos h
theorem beh_stab' (t : Tr) (n : Nat) : beh (stab t n) = plus t n := rfl
theorem beh_unst' (t x : Tr) : beh (unst t x) = x := tr_ext (by simp only [beh, unst]; omega) (by simp only [beh, unst]; omega) (by simp only [beh, unst]; omega)
theorem step_good {p q : List Pr} {e t : Tr} (hp : Rt p e.1 e.2.1) (hq : Rt q e.1 e.2.2) (hl : Le3 t e) (hne : t ≠ e) : good t e (step p q e t) ∧ next t (step p q e t) = beh (step p q e t) := by
  have hs := step_ok hp hq hl hne
  obtain ⟨⟨h1, h2, h3⟩, h4, h5, h6, h7, h8, h9, h10⟩ := hs
  simp only [beh] at h8 h9 h10
  refine ⟨⟨⟨h1, h2, h3⟩, ⟨h4, h5, h6⟩, fun h => by omega, fun h => ?_, by omega, by omega, by omega⟩, by unfold next beh; rw [h1, h2, h3]⟩
  rw [step_st, decide_eq_true_eq] at h
  rw [step_pos h]
  exact ⟨rfl, rfl⟩
theorem walk_right {p q : List Pr} {e : Tr} (hp : Rt p e.1 e.2.1) (hq : Rt q e.1 e.2.2) {t : Tr} (hl : Le3 t e) : ckr t e (walk p q e t) = true := by
  refine walk_ind (M := fun t l => ckr t e l = true) hp hq (by simp [ckr]) (fun t r h1 h2 h3 h4 h5 => ?_) _ t (Nat.le_refl _) hl
  have hg := step_good hp hq h1 h2
  rw [ckr, decide_eq_true hg.1, hg.2, h5]; rfl
def alt : Bool → List Ck → Prop
  | _, [] => True
  | b, c :: r => c.st = b ∧ alt (!b) r
theorem walk_alt {p q : List Pr} {e : Tr} (hp : Rt p e.1 e.2.1) (hq : Rt q e.1 e.2.2) {t : Tr} (hl : Le3 t e) : alt (decide (0 < run p q t)) (walk p q e t) := by
  refine walk_ind (M := fun t l => alt (decide (0 < run p q t)) l) hp hq trivial (fun t r h1 h2 h3 h4 h5 => ?_) _ t (Nat.le_refl _) hl
  refine ⟨step_st p q e t, ?_⟩
  by_cases hr : 0 < run p q t
  · have : run p q (beh (step p q e t)) = 0 := by rw [step_pos hr, beh_stab']; exact run_miss (run_end hp hq t)
    rw [this] at h5
    rw [decide_eq_true hr]
    exact h5
  · have hz : run p q t = 0 := by omega
    rw [decide_eq_false hr]
    cases hx : nxt p q t with
    | none =>
      have : beh (step p q e t) = e := by rw [step_zero hz, hx, Option.getD_none, beh_unst']
      rw [this, walk_end] at h4
      subst h4; trivial
    | some x =>
      have : 0 < run p q (beh (step p q e t)) := by rw [step_zero hz, hx, Option.getD_some, beh_unst']; exact (run_pos hp hq).2 (nxt_mem hx).1
      rw [decide_eq_true this] at h5
      exact h5
theorem alt_at : ∀ {l : List Ck} {b : Bool}, alt b l → ∀ i (hi : i + 1 < l.length), l[i + 1].st ≠ l[i].st
  | [], _, _, i, hi => by simp at hi
  | [c], _, _, i, hi => by simp at hi
  | c :: d :: r, b, h, 0, _ => by
    obtain ⟨h1, h2, -⟩ := h
    simp only [List.getElem_cons_zero, List.getElem_cons_succ]
    rw [h1, h2]; cases b <;> simp
  | c :: d :: r, b, h, i + 1, hi => by
    have := alt_at h.2 i (by simpa using hi)
    simpa using this
theorem walk_in_ {p q : List Pr} {e : Tr} (hp : Rt p e.1 e.2.1) (hq : Rt q e.1 e.2.2) {t : Tr} (hl : Le3 t e) : ∀ c ∈ walk p q e t, c.st = true → ∀ k : Nat, (k : Int) < c.on → fnd p (c.o + k) = some (c.a + k) ∧ fnd q (c.o + k) = some (c.b + k) := by
  refine walk_ind (M := fun _ l => ∀ c ∈ l, c.st = true → ∀ k : Nat, (k : Int) < c.on → fnd p (c.o + k) = some (c.a + k) ∧ fnd q (c.o + k) = some (c.b + k)) hp hq (fun c hc => by cases hc) (fun t r h1 h2 h3 h4 h5 c hc hs k hk => ?_) _ t (Nat.le_refl _) hl
  rcases List.mem_cons.1 hc with rfl | hc
  · rw [step_st, decide_eq_true_eq] at hs
    rw [step_pos hs] at hk ⊢
    have hk' : k < run p q t := by simp only [stab] at hk; omega
    exact (run_fnd hp hq).1 (run_in hp hq hk')
  · exact h5 c hc hs k hk
/-! Both others changed for one another. -/
def sw (t : Tr) : Tr := (t.1, t.2.2, t.2.1)
def turn (c : Ck) : Ck := ⟨c.st, c.o, c.on, c.b, c.bn, c.a, c.an⟩
theorem sh_sw {p q : List Pr} {n m l : Int} (hp : Rt p n m) (hq : Rt q n l) {t : Tr} : sw t ∈ sh q p ↔ t ∈ sh p q := by
  rw [sh_mem hq hp, sh_mem hp hq]
  exact And.comm
theorem run_sw {p q : List Pr} {n m l : Int} (hp : Rt p n m) (hq : Rt q n l) : ∀ (k : Nat) (t : Tr), run p q t = k → run q p (sw t) = k
  | 0, t, h => run_miss (fun hs => by
      have := (run_pos hp hq).2 ((sh_sw hp hq).1 hs)
      omega)
  | k + 1, t, h => by
    have h1 : t ∈ sh p q := (run_pos hp hq).1 (by omega)
    have h2 := run_hit hp hq h1
    have h3 := run_sw hp hq k (plus t 1) (by omega)
    rw [run_hit hq hp ((sh_sw hp hq).2 h1)]
    rw [show plus (sw t) 1 = sw (plus t 1) from rfl, h3]
theorem nxt_least {p q : List Pr} {n m l : Int} (hp : Rt p n m) (hq : Rt q n l) {t x : Tr} (h : nxt p q t = some x) {y : Tr} (hy : y ∈ sh p q) (hl : Le3 t y) : x.1 ≤ y.1 := by
  unfold nxt nx at h
  rw [List.find?_eq_some_iff_append] at h
  obtain ⟨hx, us, bs, he, ha⟩ := h
  have hmem : y ∈ shd p q t.1 := shd_mem.2 ⟨hy, hl.1⟩
  have hup : (shd p q t.1).Pairwise fun t u => t.1 < u.1 ∧ t.2.1 < u.2.1 ∧ t.2.2 < u.2.2 := (sh_up hp.up hq.up).sublist List.filter_sublist
  rw [he] at hmem hup
  rcases List.mem_append.1 hmem with h1 | h1
  · have := ha y h1
    simp only [Bool.not_eq_true', Bool.and_eq_false_iff, decide_eq_false_iff_not] at this
    obtain ⟨-, h2, h3⟩ := hl
    rcases this with h | h <;> exact absurd (by assumption) h
  · rcases List.mem_cons.1 h1 with h2 | h2
    · rw [h2]; exact Int.le_refl _
    · have := (List.pairwise_cons.1 (List.pairwise_append.1 hup).2.1).1 y h2
      omega
theorem nxt_none {p q : List Pr} {t : Tr} (h : nxt p q t = none) {y : Tr} (hy : y ∈ sh p q) : ¬ Le3 t y := fun hl => by
  unfold nxt nx at h
  rw [List.find?_eq_none] at h
  have := h y (shd_mem.2 ⟨hy, hl.1⟩)
  simp only [Bool.and_eq_true, decide_eq_true_eq, not_and] at this
  exact this hl.2.1 hl.2.2
theorem le3_sw {t u : Tr} (h : Le3 t u) : Le3 (sw t) (sw u) := ⟨h.1, h.2.2, h.2.1⟩
theorem nxt_sw {p q : List Pr} {n m l : Int} (hp : Rt p n m) (hq : Rt q n l) (t : Tr) : nxt q p (sw t) = (nxt p q t).map sw := by
  cases hx : nxt p q t with
  | none =>
    cases hy : nxt q p (sw t) with
    | none => rfl
    | some y =>
      obtain ⟨h1, h2⟩ := nxt_mem hy
      have h3 := (sh_sw hq hp).2 h1
      exact absurd (le3_sw h2) (nxt_none hx h3)
  | some x =>
    obtain ⟨h1, h2⟩ := nxt_mem hx
    have h3 := (sh_sw hp hq).2 h1
    cases hy : nxt q p (sw t) with
    | none => exact absurd (le3_sw h2) (nxt_none hy h3)
    | some y =>
      obtain ⟨g1, g2⟩ := nxt_mem hy
      have a1 := nxt_least hq hp hy h3 (le3_sw h2)
      have a2 := nxt_least hp hq hx ((sh_sw hq hp).2 g1) (le3_sw g2)
      have : y = sw x := sh_one hq hp g1 h3 (by simp only [sw] at a1 a2 ⊢; omega)
      rw [this]; rfl
theorem step_sw {p q : List Pr} {n m l : Int} (hp : Rt p n m) (hq : Rt q n l) (e t : Tr) : step q p (sw e) (sw t) = turn (step p q e t) := by
  have hr := run_sw hp hq _ t rfl
  by_cases h : run p q t = 0
  · rw [step_zero (by rw [hr]; exact h), step_zero h, nxt_sw hp hq]
    cases nxt p q t <;> rfl
  · rw [step_pos (by rw [hr]; omega), step_pos (by omega), hr]; rfl
theorem beh_turn (c : Ck) : beh (turn c) = sw (beh c) := rfl
theorem walk_sw {p q : List Pr} {e : Tr} (hp : Rt p e.1 e.2.1) (hq : Rt q e.1 e.2.2) {t : Tr} (hl : Le3 t e) : walk q p (sw e) (sw t) = (walk p q e t).map turn := by
  refine walk_ind (M := fun t l => walk q p (sw e) (sw t) = l.map turn) hp hq (by rw [walk_end]; rfl) (fun t r h1 h2 h3 h4 h5 => ?_) _ t (Nat.le_refl _) hl
  have hne : sw t ≠ sw e := fun h => h2 (by
    simp only [sw, Prod.mk.injEq] at h
    exact tr_ext h.1 h.2.2 h.2.1)
  rw [walk_step (e := sw e) hq hp (le3_sw h1) hne, step_sw hp hq, beh_turn, h5, List.map_cons]
theorem chunks_sw (p q : List Pr) (o a b : Int) : chunks q p o b a = (chunks p q o a b).map turn ∧ err q p o b a = err p q o a b := by
  by_cases h : can p q o a b
  · have h' : can q p o b a := ⟨⟨h.1.1, h.1.2.2, h.1.2.1⟩, h.2.2, h.2.1⟩
    have hp := Mt.right_iff.1 h.2.1
    have hq := Mt.right_iff.1 h.2.2
    unfold chunks err
    rw [if_pos h, if_pos h', if_pos h, if_pos h']
    exact ⟨walk_sw (e := (o, a, b)) hp hq (t := (0, 0, 0)) ⟨h.1.1.1, h.1.2.1.1, h.1.2.2.1⟩, rfl⟩
  · have h' : ¬ can q p o b a := fun g => h ⟨⟨g.1.1, g.1.2.2, g.1.2.1⟩, g.2.2, g.2.1⟩
    unfold chunks err
    rw [if_neg h, if_neg h', if_neg h, if_neg h']
    exact ⟨rfl, rfl⟩
/-! One of the others matched line by line. -/
def idp : Nat → List Pr
  | 0 => []
  | n + 1 => idp n ++ [((n : Int), (n : Int))]
theorem idp_len : ∀ n, (idp n).length = n
  | 0 => rfl
  | n + 1 => by rw [idp, List.length_append, idp_len n]; rfl
theorem idp_mem : ∀ {n : Nat} {z : Pr}, z ∈ idp n ↔ ∃ i : Nat, i < n ∧ z = ((i : Int), (i : Int))
  | 0, z => by simp [idp]
  | n + 1, z => by
    rw [idp, List.mem_append, idp_mem, List.mem_singleton]
    constructor
    · rintro (⟨i, h, rfl⟩ | rfl)
      · exact ⟨i, by omega, rfl⟩
      · exact ⟨n, by omega, rfl⟩
    · rintro ⟨i, h, rfl⟩
      rcases Nat.lt_or_eq_of_le (show i ≤ n by omega) with h1 | h1
      · exact .inl ⟨i, h1, rfl⟩
      · subst h1; exact .inr rfl
theorem idp_up : ∀ n, (idp n).Pairwise fun p q => p.1 < q.1 ∧ p.2 < q.2
  | 0 => by simp [idp]
  | n + 1 => by
    rw [idp, List.pairwise_append]
    refine ⟨idp_up n, by simp, fun x hx y hy => ?_⟩
    obtain ⟨i, h, rfl⟩ := idp_mem.1 hx
    rw [List.mem_singleton] at hy
    subst hy
    simp only
    omega
theorem idp_rt (n : Nat) : Rt (idp n) n n := ⟨fun z hz => by
  obtain ⟨i, h, rfl⟩ := idp_mem.1 hz
  simp only
  omega, idp_up n⟩
theorem idp_fnd {n : Nat} {i : Int} (h : 0 ≤ i ∧ i < n) : fnd (idp n) i = some i := (idp_rt n).fnd.2 (idp_mem.2 ⟨i.toNat, by omega, by rw [show ((i.toNat : Nat) : Int) = i by omega]⟩)
def sumst : List Ck → Int
  | [] => 0
  | c :: r => (if c.st = true then c.on else 0) + sumst r
def One (p q : List Pr) (t : Tr) : Prop := t.1 = t.2.2 ∧ ∀ m ∈ sh p q, t.1 ≤ m.1 → t.2.1 ≤ m.2.1
theorem sh_idp {p : List Pr} {o : Nat} {a : Int} (hp : Rt p o a) {m : Tr} (h : m ∈ sh p (idp o)) : m.2.2 = m.1 := by
  rw [sh_mem hp (idp_rt o)] at h
  obtain ⟨i, -, e⟩ := idp_mem.1 h.2
  simp only [Prod.mk.injEq] at e
  rw [e.1, e.2]
theorem run_shd {p q : List Pr} {n m l : Int} (hp : Rt p n m) (hq : Rt q n l) : ∀ (k : Nat) (t : Tr), k ≤ run p q t → (shd p q t.1).length = k + (shd p q (t.1 + k)).length
  | 0, t, _ => by simp
  | k + 1, t, h => by
    have h1 : t ∈ sh p q := (run_pos hp hq).1 (by omega)
    have h2 := run_hit hp hq h1
    have h3 := run_shd hp hq k (plus t 1) (by omega)
    rw [shd_hit hp hq h1, List.length_cons]
    have e : (plus t 1).1 = t.1 + 1 := rfl
    rw [e] at h3
    rw [h3, show t.1 + 1 + (k : Int) = t.1 + ((k + 1 : Nat) : Int) by omega]
    omega
theorem sh_rise {p q : List Pr} {n m l : Int} (hp : Rt p n m) (hq : Rt q n l) {x y : Tr} (hx : x ∈ sh p q) (hy : y ∈ sh p q) (h : x.1 < y.1) : x.2.1 < y.2.1 := by
  rw [sh_mem hp hq] at hx hy
  exact pr_up (x := (x.1, x.2.1)) (y := (y.1, y.2.1)) hp.up hx.1 hy.1 h
theorem walk_one {p : List Pr} {o : Nat} {a : Int} (hp : Rt p o a) {t : Tr} (hl : Le3 t ((o : Int), a, (o : Int))) (h0 : One p (idp o) t) :
    (∀ c ∈ walk p (idp o) ((o : Int), a, (o : Int)) t, c.o = c.b ∧ c.on = c.bn) ∧ sumst (walk p (idp o) ((o : Int), a, (o : Int)) t) = (shd p (idp o) t.1).length := by
  have hq := idp_rt o
  refine walk_ind (e := ((o : Int), a, (o : Int))) (M := fun t l => One p (idp o) t → (∀ c ∈ l, c.o = c.b ∧ c.on = c.bn) ∧ sumst l = (shd p (idp o) t.1).length) hp hq (fun _ => ⟨(fun c hc => by cases hc), ?_⟩) (fun t r h1 h2 h3 h4 h5 hO => ?_) _ t (Nat.le_refl _) hl h0
  · have : shd p (idp o) (o : Int) = [] := by
      rw [List.eq_nil_iff_forall_not_mem]
      intro m hm
      rw [shd_mem] at hm
      have := (sh_bound (e := ((o : Int), a, (o : Int))) hp hq hm.1).1
      simp only at this
      omega
    simp only
    rw [this]; rfl
  · by_cases hr : 0 < run p (idp o) t
    · have hO2 : One p (idp o) (plus t (run p (idp o) t)) := ⟨by simp only [plus]; rw [hO.1], fun m hm hle => by
        have hi := run_in hp hq (t := t) (j := run p (idp o) t - 1) (by omega)
        have := sh_rise hp hq hi hm (by simp only [plus] at hle ⊢; omega)
        simp only [plus] at this ⊢
        omega⟩
      have h6 := h5 (by rw [step_pos hr, beh_stab']; exact hO2)
      rw [step_pos hr, beh_stab'] at h6
      rw [step_pos hr]
      refine ⟨fun c hc => ?_, ?_⟩
      · rcases List.mem_cons.1 hc with rfl | hc
        · exact ⟨hO.1, rfl⟩
        · exact h6.1 c hc
      · rw [sumst, h6.2, run_shd hp hq _ t (Nat.le_refl _)]
        simp only [stab, if_true, plus]
        omega
    · have hz : run p (idp o) t = 0 := by omega
      cases hx : nxt p (idp o) t with
      | none =>
        have hb : beh (step p (idp o) ((o : Int), a, (o : Int)) t) = ((o : Int), a, (o : Int)) := by rw [step_zero hz, hx, Option.getD_none, beh_unst']
        have hn : shd p (idp o) t.1 = [] := by
          rw [List.eq_nil_iff_forall_not_mem]
          intro m hm
          rw [shd_mem] at hm
          exact nxt_none hx hm.1 ⟨hm.2, hO.2 m hm.1 hm.2, by rw [sh_idp hp hm.1, ← hO.1]; exact hm.2⟩
        rw [hb, walk_end] at h4
        subst h4
        rw [step_zero hz, hx, Option.getD_none]
        refine ⟨fun c hc => ?_, ?_⟩
        · rw [List.mem_singleton] at hc
          subst hc
          exact ⟨hO.1, by simp only [unst]; rw [hO.1]⟩
        · rw [hn]; simp [sumst, unst]
      | some x =>
        obtain ⟨g1, g2⟩ := nxt_mem hx
        have hb : beh (step p (idp o) ((o : Int), a, (o : Int)) t) = x := by rw [step_zero hz, hx, Option.getD_some, beh_unst']
        have hO2 : One p (idp o) x := ⟨(sh_idp hp g1).symm, fun m hm hle => by
          rcases Int.lt_or_eq_of_le hle with h | h
          · exact Int.le_of_lt (sh_rise hp hq g1 hm h)
          · rw [sh_one hp hq g1 hm h]; exact Int.le_refl _⟩
        have h6 := h5 (by rw [hb]; exact hO2)
        rw [hb] at h6
        have hs : shd p (idp o) t.1 = shd p (idp o) x.1 := List.filter_congr fun m hm => by
          by_cases h : t.1 ≤ m.1
          · rw [decide_eq_true h, decide_eq_true (nxt_least hp hq hx hm ⟨h, hO.2 m hm h, by rw [sh_idp hp hm, ← hO.1]; exact h⟩)]
          · rw [decide_eq_false h, decide_eq_false (fun h7 => h (Int.le_trans g2.1 h7))]
        rw [step_zero hz, hx, Option.getD_some]
        refine ⟨fun c hc => ?_, ?_⟩
        · rcases List.mem_cons.1 hc with rfl | hc
          · exact ⟨hO.1, by simp only [unst]; rw [hO.1, sh_idp hp g1]⟩
          · exact h6.1 c hc
        · rw [sumst, h6.2, hs]; simp [unst]
theorem sh_all {p : List Pr} {o : Nat} {a : Int} : (∀ z ∈ p, 0 ≤ z.1 ∧ z.1 < o) → (sh p (idp o)).length = p.length := by
  induction p with
  | nil => intro _; rfl
  | cons z r ih =>
    intro h
    rw [sh_cons, idp_fnd (h z List.mem_cons_self), List.length_append, ih fun y hy => h y (List.mem_cons_of_mem _ hy)]
    simp [Nat.add_comm]
end Go.Proofs.Ytkflhcfopejigaa.Ck

namespace Go.Proofs.Ytkflhcfopejigaa.Mg
set_option linter.unusedVariables false
set_option linter.unusedSimpArgs false

abbrev Ln := List UInt8 × Bool
def cutl {α : Type} (l : List α) (k n : Int) : List α := (l.drop k.toNat).take n.toNat
/-! Stretches of a text, one behind the other. -/
theorem cutl_len {α : Type} {l : List α} {k n : Int} (h1 : 0 ≤ n) (h0 : 0 ≤ k) (h2 : k + n ≤ l.length) : (cutl l k n).length = n.toNat := by
  rw [cutl, List.length_take, List.length_drop]; omega
theorem cutl_app {α : Type} {l : List α} {k n : Int} (h0 : 0 ≤ k) (h1 : 0 ≤ n) : cutl l k n ++ l.drop (k + n).toNat = l.drop k.toNat := by
  have e : (k + n).toNat = k.toNat + n.toNat := by omega
  rw [cutl, e, ← List.drop_drop, List.take_append_drop]
theorem cutl_at {α : Type} {l : List α} {k n : Int} {i : Nat} (h0 : 0 ≤ k) : (i : Int) < n → (cutl l k n)[i]? = l[(k + i).toNat]? := fun h => by
  rw [cutl, List.getElem?_take_of_lt (by omega), List.getElem?_drop, show k.toNat + i = (k + i).toNat by omega]
end Go.Proofs.Ytkflhcfopejigaa.Mg

namespace Go.Proofs.Ytkflhcfopejigaa.Mg
set_option linter.unusedVariables false
set_option linter.unusedSimpArgs false
open Go.RowKit
open Mt (Pr fnd Rt right right_iff fnd_mem fnd_of)
open Ck

/-- A piece: which text counts (1 both, 2 mine, 3 theirs, 4 clash), and its chunk. -/
structure Pc where
  sd : Int
  ck : Ck
def side (c : Ck) (o a b : List Ln) : Int :=
  if c.st = true ∨ cutl a c.a c.an = cutl b c.b c.bn then 1 else if cutl a c.a c.an = cutl o c.o c.on then 3 else if cutl b c.b c.bn = cutl o c.o c.on then 2 else 4
def like (p : List Pr) (x y : List Ln) : Bool := p.all fun z => (x[z.1.toNat]?.map (·.1)) == (y[z.2.toNat]?.map (·.1))
def pieces (o a b : List Ln) (p q : List Pr) : List Pc :=
  if like p o a = true ∧ like q o b = true then (chunks p q o.length a.length b.length).map fun c => ⟨side c o a b, c⟩ else []
def perr (o a b : List Ln) (p q : List Pr) : Int :=
  if can p q o.length a.length b.length then if like p o a = true ∧ like q o b = true then 0 else 3 else 2
def clean (l : List Pc) : Bool := l.all fun p => p.sd != 4
def mMine : Ln := ([60, 60, 60, 60, 60, 60, 60, 32, 109, 105, 110, 101], false)
def mBase : Ln := ([124, 124, 124, 124, 124, 124, 124, 32, 98, 97, 115, 101], false)
def mThen : Ln := ([61, 61, 61, 61, 61, 61, 61], false)
def mLast : Ln := ([62, 62, 62, 62, 62, 62, 62, 32, 116, 104, 101, 105, 114, 115], false)
def plines (o a b : List Ln) (p : Pc) : List Ln :=
  if p.sd = 2 then cutl a p.ck.a p.ck.an
  else if p.sd = 4 then mMine :: cutl a p.ck.a p.ck.an ++ mBase :: cutl o p.ck.o p.ck.on ++ mThen :: cutl b p.ck.b p.ck.bn ++ [mLast]
  else cutl b p.ck.b p.ck.bn
/-- No line is Bare but the last one, if it is. -/
def bared : List Ln → List Ln
  | [] => []
  | [x] => [x]
  | x :: y :: r => (x.1, false) :: bared (y :: r)
def whole (l : List Pc) (o a b : List Ln) : List Ln := bared (l.flatMap (plines o a b))
def fits (l : List Pc) (o a b : Int) : Bool := (l.all fun p => decide (1 ≤ p.sd ∧ p.sd ≤ 4)) && cright (l.map (·.ck)) o a b

theorem bared_len : ∀ l : List Ln, (bared l).length = l.length
  | [] => rfl
  | [_] => rfl
  | x :: y :: r => by rw [bared, List.length_cons, bared_len (y :: r)]; rfl
theorem bared_text : ∀ (l : List Ln) (i : Nat), (bared l)[i]?.map (·.1) = l[i]?.map (·.1)
  | [], i => rfl
  | [_], i => rfl
  | x :: y :: r, 0 => rfl
  | x :: y :: r, i + 1 => by rw [bared, List.getElem?_cons_succ, bared_text (y :: r) i, List.getElem?_cons_succ]
theorem bared_id : ∀ {l : List Ln}, (∀ i (hi : i + 1 < l.length), l[i].2 = false) → bared l = l
  | [], _ => rfl
  | [_], _ => rfl
  | x :: y :: r, h => by
    have h0 := h 0 (by simp)
    have h1 := bared_id (l := y :: r) fun i hi => by
      have := h (i + 1) (by simpa using hi)
      simpa using this
    rw [bared, h1]
    simp only [List.getElem_cons_zero] at h0
    rw [← h0]
/-! Each chunk's stretches. -/
theorem good_le {t e : Tr} {c : Ck} (h : good t e c) (h0 : Le3 (0, 0, 0) t) (h1 : Le3 t e) : (0 ≤ c.o ∧ 0 ≤ c.on ∧ c.o + c.on ≤ e.1) ∧ (0 ≤ c.a ∧ 0 ≤ c.an ∧ c.a + c.an ≤ e.2.1) ∧ (0 ≤ c.b ∧ 0 ≤ c.bn ∧ c.b + c.bn ≤ e.2.2) ∧ Le3 (0, 0, 0) (next t c) ∧ Le3 (next t c) e := by
  obtain ⟨⟨e1, e2, e3⟩, ⟨g1, g2, g3⟩, -, -, k1, k2, k3⟩ := h
  obtain ⟨z1, z2, z3⟩ := h0
  obtain ⟨y1, y2, y3⟩ := h1
  simp only at z1 z2 z3
  refine ⟨⟨by omega, g1, by omega⟩, ⟨by omega, g2, by omega⟩, ⟨by omega, g3, by omega⟩, ⟨?_, ?_, ?_⟩, ?_, ?_, ?_⟩
  all_goals (simp only [next]; omega)
/-- Each chunk lies in the three texts, and the texts are their stretches, one behind the other. -/
theorem ckr_tiles {α : Type} (x y z : List α) {e : Tr} (he : (x.length : Int) = e.1 ∧ (y.length : Int) = e.2.1 ∧ (z.length : Int) = e.2.2) : ∀ {l : List Ck} {t : Tr}, Le3 (0, 0, 0) t → Le3 t e → ckr t e l = true →
    (∀ c ∈ l, (0 ≤ c.o ∧ 0 ≤ c.on ∧ c.o + c.on ≤ e.1) ∧ (0 ≤ c.a ∧ 0 ≤ c.an ∧ c.a + c.an ≤ e.2.1) ∧ (0 ≤ c.b ∧ 0 ≤ c.bn ∧ c.b + c.bn ≤ e.2.2) ∧ (c.st = true → c.on = c.an ∧ c.an = c.bn)) ∧
    l.flatMap (fun c => cutl x c.o c.on) = x.drop t.1.toNat ∧ l.flatMap (fun c => cutl y c.a c.an) = y.drop t.2.1.toNat ∧ l.flatMap (fun c => cutl z c.b c.bn) = z.drop t.2.2.toNat
  | [], t, h0, h1, h => by
    have ht : t = e := of_decide_eq_true h
    subst ht
    refine ⟨fun c hc => (by cases hc), ?_, ?_, ?_⟩
    · rw [List.drop_eq_nil_of_le (by omega)]; rfl
    · rw [List.drop_eq_nil_of_le (by omega)]; rfl
    · rw [List.drop_eq_nil_of_le (by omega)]; rfl
  | c :: r, t, h0, h1, h => by
    rw [ckr, Bool.and_eq_true, decide_eq_true_eq] at h
    have hg := good_le h.1 h0 h1
    obtain ⟨i1, i2, i3, i4⟩ := ckr_tiles x y z he hg.2.2.2.1 hg.2.2.2.2 h.2
    obtain ⟨⟨e1, e2, e3⟩, ⟨g1, g2, g3⟩, -, gst, -⟩ := h.1
    have z1 := h0.1
    have z2 := h0.2.1
    have z3 := h0.2.2
    simp only at z1 z2 z3
    refine ⟨fun d hd => ?_, ?_, ?_, ?_⟩
    · rcases List.mem_cons.1 hd with rfl | hd
      · exact ⟨hg.1, hg.2.1, hg.2.2.1, gst⟩
      · exact i1 d hd
    · rw [List.flatMap_cons, i2, e1]; exact cutl_app z1 g1
    · rw [List.flatMap_cons, i3, e2]; exact cutl_app z2 g2
    · rw [List.flatMap_cons, i4, e3]; exact cutl_app z3 g3
theorem chunks_right {p q : List Pr} {o a b : Int} (h : can p q o a b) : cright (chunks p q o a b) o a b = true := by
  have e : chunks p q o a b = walk p q (o, a, b) (0, 0, 0) := if_pos h
  rw [e]
  exact walk_right (e := (o, a, b)) (right_iff.1 h.2.1) (right_iff.1 h.2.2) ⟨h.1.1.1, h.1.2.1.1, h.1.2.2.1⟩
/-! With both others changed for one another. -/
def tsd (s : Int) : Int := if s = 2 then 3 else if s = 3 then 2 else s
def pturn (p : Pc) : Pc := ⟨tsd p.sd, turn p.ck⟩
theorem side_turn (c : Ck) (o a b : List Ln) : side (turn c) o b a = tsd (side c o a b) := by
  unfold side turn
  simp only
  by_cases h1 : c.st = true ∨ cutl a c.a c.an = cutl b c.b c.bn
  · have h1' : c.st = true ∨ cutl b c.b c.bn = cutl a c.a c.an := h1.imp_right Eq.symm
    rw [if_pos h1, if_pos h1']; rfl
  · have h1' : ¬ (c.st = true ∨ cutl b c.b c.bn = cutl a c.a c.an) := fun h => h1 (h.imp_right Eq.symm)
    rw [if_neg h1, if_neg h1']
    by_cases h2 : cutl a c.a c.an = cutl o c.o c.on
    · have h3 : ¬ cutl b c.b c.bn = cutl o c.o c.on := fun h => h1 (.inr (h2.trans h.symm))
      rw [if_pos h2, if_neg h3, if_pos h2]; rfl
    · rw [if_neg h2, if_neg h2]
      by_cases h3 : cutl b c.b c.bn = cutl o c.o c.on
      · rw [if_pos h3, if_pos h3]; rfl
      · rw [if_neg h3, if_neg h3]; rfl
theorem pieces_turn (o a b : List Ln) (p q : List Pr) : pieces o b a q p = (pieces o a b p q).map pturn ∧ perr o b a q p = perr o a b p q := by
  have hs := chunks_sw p q o.length a.length b.length
  have hc : can q p o.length b.length a.length ↔ can p q o.length a.length b.length := ⟨fun h => ⟨⟨h.1.1, h.1.2.2, h.1.2.1⟩, h.2.2, h.2.1⟩, fun h => ⟨⟨h.1.1, h.1.2.2, h.1.2.1⟩, h.2.2, h.2.1⟩⟩
  have hk : (like q o b = true ∧ like p o a = true) ↔ (like p o a = true ∧ like q o b = true) := And.comm
  unfold pieces perr
  rw [hs.1]
  simp only [hc, hk, true_and]
  refine ⟨?_, trivial⟩
  by_cases h : like p o a = true ∧ like q o b = true
  · rw [if_pos h, if_pos h, List.map_map, List.map_map]
    exact List.map_congr_left fun c _ => by simp only [Function.comp_apply, pturn, side_turn]
  · rw [if_neg h, if_neg h]; rfl
theorem clean_turn : ∀ l : List Pc, clean (l.map pturn) = clean l
  | [] => rfl
  | c :: r => by
    have h := clean_turn r
    unfold clean at h ⊢
    rw [List.map_cons, List.all_cons, List.all_cons, h]
    congr 1
    unfold pturn tsd
    simp only
    by_cases h2 : c.sd = 2
    · rw [if_pos h2, h2]; rfl
    · rw [if_neg h2]
      by_cases h3 : c.sd = 3
      · rw [if_pos h3, h3]; rfl
      · rw [if_neg h3]
/-! What is matched is the same, line by line. -/
def Alike (p : List Pr) (x y : List Ln) : Prop := ∀ z ∈ p, x[z.1.toNat]? = y[z.2.toNat]?
theorem Alike.like {p : List Pr} {x y : List Ln} (h : Alike p x y) : like p x y = true := List.all_eq_true.2 fun z hz => by rw [h z hz]; exact beq_self_eq_true _
/-- In a stable chunk all three texts have the same lines. -/
theorem stable_same {p q : List Pr} {o a b : List Ln} (hc : can p q o.length a.length b.length) (hp : Alike p o a) (hq : Alike q o b) {c : Ck} (hm : c ∈ chunks p q o.length a.length b.length) (hs : c.st = true) :
    cutl a c.a c.an = cutl o c.o c.on ∧ cutl b c.b c.bn = cutl o c.o c.on := by
  have e : chunks p q o.length a.length b.length = walk p q (o.length, a.length, b.length) (0, 0, 0) := if_pos hc
  have hl : Le3 (0, 0, 0) ((o.length : Int), (a.length : Int), (b.length : Int)) := ⟨hc.1.1.1, hc.1.2.1.1, hc.1.2.2.1⟩
  have ht := (ckr_tiles o a b (e := ((o.length : Int), (a.length : Int), (b.length : Int))) ⟨rfl, rfl, rfl⟩ (t := (0, 0, 0)) ⟨Int.le_refl _, Int.le_refl _, Int.le_refl _⟩ hl (chunks_right hc)).1 c hm
  rw [e] at hm
  have hi := walk_in_ (e := ((o.length : Int), (a.length : Int), (b.length : Int))) (right_iff.1 hc.2.1) (right_iff.1 hc.2.2) hl c hm hs
  obtain ⟨⟨o1, o2, o3⟩, ⟨a1, a2, a3⟩, ⟨b1, b2, b3⟩, h4⟩ := ht
  obtain ⟨s1, s2⟩ := h4 hs
  simp only at o3 a3 b3
  have lo : (cutl o c.o c.on).length = c.on.toNat := cutl_len o2 o1 o3
  have la : (cutl a c.a c.an).length = c.on.toNat := by rw [cutl_len a2 a1 a3, s1]
  have lb : (cutl b c.b c.bn).length = c.on.toNat := by rw [cutl_len b2 b1 b3, s1, s2]
  constructor
  · refine List.ext_getElem? fun i => ?_
    by_cases h : i < c.on.toNat
    · obtain ⟨f1, -⟩ := hi i (by omega)
      rw [cutl_at a1 (by omega), cutl_at o1 (by omega)]
      exact (hp _ (fnd_mem f1)).symm
    · rw [List.getElem?_eq_none (by omega), List.getElem?_eq_none (by omega)]
  · refine List.ext_getElem? fun i => ?_
    by_cases h : i < c.on.toNat
    · obtain ⟨-, f1⟩ := hi i (by omega)
      rw [cutl_at b1 (by omega), cutl_at o1 (by omega)]
      exact (hq _ (fnd_mem f1)).symm
    · rw [List.getElem?_eq_none (by omega), List.getElem?_eq_none (by omega)]
end Go.Proofs.Ytkflhcfopejigaa.Mg

namespace Go.Proofs.Ytkflhcfopejigaa.Mg
set_option linter.unusedVariables false
set_option linter.unusedSimpArgs false
open Go.RowKit
open T
open V (drawn_below)
open I (alloc1)
open Ck

/-- Pieces in memory, to be read. -/
def PcIn (w : World) (A : Option Addr) (l : List Pc) : Prop := 0 < l.length → ∃ bk off, A = some ⟨bk, off, none⟩ ∧ bk < w.heap.size ∧ ∀ j (hj : j < l.length), w.cell? ⟨bk, off + j * 8, none⟩ = some (.int .i64 l[j].sd) ∧ w.cell? ⟨bk, off + j * 8 + 1, none⟩ = some (.bool l[j].ck.st) ∧ w.cell? ⟨bk, off + j * 8 + 2, none⟩ = some (.int .i64 l[j].ck.o) ∧ w.cell? ⟨bk, off + j * 8 + 3, none⟩ = some (.int .i64 l[j].ck.on) ∧ w.cell? ⟨bk, off + j * 8 + 4, none⟩ = some (.int .i64 l[j].ck.a) ∧ w.cell? ⟨bk, off + j * 8 + 5, none⟩ = some (.int .i64 l[j].ck.an) ∧ w.cell? ⟨bk, off + j * 8 + 6, none⟩ = some (.int .i64 l[j].ck.b) ∧ w.cell? ⟨bk, off + j * 8 + 7, none⟩ = some (.int .i64 l[j].ck.bn)
theorem PcIn.below {w w' : World} {A : Option Addr} {l : List Pc} (h : PcIn w A l) (hb : Below w.heap.size w w') : PcIn w' A l := fun hp => by
  obtain ⟨bk, off, e, hlt, hl⟩ := h hp
  refine ⟨bk, off, e, Nat.lt_of_lt_of_le hlt hb.size, fun j hj => ?_⟩
  obtain ⟨h0, h1, h2, h3, h4, h5, h6, h7⟩ := hl j hj
  exact ⟨(hb.cell (p := ⟨bk, _, none⟩) hlt).trans h0, (hb.cell (p := ⟨bk, _, none⟩) hlt).trans h1, (hb.cell (p := ⟨bk, _, none⟩) hlt).trans h2, (hb.cell (p := ⟨bk, _, none⟩) hlt).trans h3, (hb.cell (p := ⟨bk, _, none⟩) hlt).trans h4, (hb.cell (p := ⟨bk, _, none⟩) hlt).trans h5, (hb.cell (p := ⟨bk, _, none⟩) hlt).trans h6, (hb.cell (p := ⟨bk, _, none⟩) hlt).trans h7⟩
theorem clean_at {l : List Pc} {k : Nat} (hk : k < l.length) : clean (l.drop k) = (l[k].sd != 4 && clean (l.drop (k + 1))) := by
  rw [List.drop_eq_getElem_cons hk]; unfold clean; rw [List.all_cons]
def pcV (x : Pc) : Value := .agg #[.int .i64 x.sd, .bool x.ck.st, .int .i64 x.ck.o, .int .i64 x.ck.on, .int .i64 x.ck.a, .int .i64 x.ck.an, .int .i64 x.ck.b, .int .i64 x.ck.bn]
set_option maxRecDepth 100000 in
set_option maxHeartbeats 2000000 in
theorem clash_any (x : Pc) (w : World) : Calls Try.prog 30 #[pcV x] w fun e w' => e = .returned (.bool (x.sd == 4)) ∧ Below w.heap.size w w' := by
  obtain ⟨sd, c0, c1, c2, c3, c4, c5, c6⟩ := x
  simp only [pcV]
  obtain ⟨W0, hW0⟩ : ∃ W : World, W = w.alloc (.cells #[.int .i64 sd, .bool c0, .int .i64 c1, .int .i64 c2, .int .i64 c3, .int .i64 c4, .int .i64 c5, .int .i64 c6] 43) := ⟨_, rfl⟩
  have hb0 : Below w.heap.size w W0 := by rw [hW0]; exact alloc1 _ _
  have hx : W0.heap[w.heap.size]? = some (.cells #[.int .i64 sd, .bool c0, .int .i64 c1, .int .i64 c2, .int .i64 c3, .int .i64 c4, .int .i64 c5, .int .i64 c6] 43 (0, 0)) := by rw [hW0]; exact heap_alloc_new w _
  have d0 := L.blk_cell hx 0
  simp only [List.getElem?_toArray, List.getElem?_cons_zero] at d0
  clear hx
  go_enter Try.func30, Try.ntmps30
  go_wp2_with fail
  rw [← hW0]
  clear hW0
  go_wp2_with fail
  go_ret
  exact ⟨rfl, hb0⟩
set_option maxRecDepth 100000 in
set_option maxHeartbeats 2000000 in
theorem index_any (A : Option Addr) (c : Nat) (l : List Pc) (w : World) (hA : PcIn w A l) (hl : l.length ≤ maxLen) :
    Calls Try.prog 46 #[.slice A l.length c, .func (.func 30) #[] #[]] w fun e w' => ∃ z : Int, e = .returned (.int .i64 z) ∧ decide (0 ≤ z) = !clean l ∧ Below w.heap.size w w' := by
  unfold maxLen at hl
  have HA := Lib.hid hA
  clear hA
  go_enter Try.func46, Try.ntmps46
  go_wp2_with fail
  go_loopg [8] l.length (fun m i wr => ∃ k : Nat, k ≤ l.length ∧ i = .int .i64 (k : Int) ∧ l.length - k ≤ m ∧ Below w.heap.size w wr ∧ Hid (clean l = clean (l.drop k)))
  case atStart => exact ⟨0, Nat.zero_le _, rfl, by omega, Below.refl _ _, Lib.hid rfl⟩
  case round =>
    obtain ⟨k, hk, rfl, hm, hbr, HF⟩ := hrel
    by_cases hlt : k < l.length
    · obtain ⟨bk, off, hAe, hbk, hI⟩ := HA.out (by omega)
      subst hAe
      obtain ⟨q0, q1, q2, q3, q4, q5, q6, q7⟩ := hI k hlt
      have g0 := (hbr.cell (p := ⟨bk, _, none⟩) hbk).trans q0
      have g1 := (hbr.cell (p := ⟨bk, _, none⟩) hbk).trans q1
      have g2 := (hbr.cell (p := ⟨bk, _, none⟩) hbk).trans q2
      have g3 := (hbr.cell (p := ⟨bk, _, none⟩) hbk).trans q3
      have g4 := (hbr.cell (p := ⟨bk, _, none⟩) hbk).trans q4
      have g5 := (hbr.cell (p := ⟨bk, _, none⟩) hbk).trans q5
      have g6 := (hbr.cell (p := ⟨bk, _, none⟩) hbk).trans q6
      have g7 := (hbr.cell (p := ⟨bk, _, none⟩) hbk).trans q7
      have HN := Lib.hid (clean_at hlt)
      obtain ⟨x, hx⟩ : ∃ x : Pc, l[k]'hlt = x := ⟨_, rfl⟩
      rw [hx] at g0 g1 g2 g3 g4 g5 g6 g7 HN
      have HC := Lib.hid (clash_any x wr)
      simp only [pcV] at HC
      have h0k : (0 : Int) ≤ (k : Int) := by omega
      have hki : (k : Int) < (l.length : Int) := by omega
      have HBR := Lib.hid hbr
      clear hI q0 q1 q2 q3 q4 q5 q6 q7 hx hbr hbk
      cases h4 : x.sd == 4 with
      | true =>
        rw [h4] at HC
        have HV := Lib.hid (show (!clean l) = true by rw [HF.out, HN.out, bne, h4]; rfl)
        clear h4 HN HF
        go_wp2_with fail
        with_reducible refine HC.out.mono ?_
        rintro e w2 ⟨rfl, hb2⟩
        go_wp2_with fail
        go_ret
        exact ⟨k, rfl, by rw [HV.out]; exact decide_eq_true h0k, HBR.out.trans (hb2.mono HBR.out.size)⟩
      | false =>
        rw [h4] at HC
        have HV := Lib.hid (show clean l = clean (l.drop (k + 1)) by rw [HF.out, HN.out, bne, h4]; rfl)
        clear h4 HN HF
        go_wp2_with fail
        with_reducible refine HC.out.mono ?_
        rintro e w2 ⟨rfl, hb2⟩
        go_wp2_with fail
        go_roundg (l.length - (k + 1))
        case rel => exact ⟨k + 1, by omega, by go_num, Nat.le_refl _, HBR.out.trans (hb2.mono HBR.out.size), HV⟩
        case measure => omega
    · obtain rfl : k = l.length := by omega
      have HV := Lib.hid (show clean l = true by rw [HF.out, List.drop_length]; rfl)
      clear HF
      go_wp2_with fail
      go_ret
      exact ⟨-1, rfl, by rw [HV.out]; rfl, hbr⟩
set_option maxRecDepth 100000 in
set_option maxHeartbeats 2000000 in
theorem contains_any (A : Option Addr) (c : Nat) (l : List Pc) (w : World) (hA : PcIn w A l) (hl : l.length ≤ maxLen) :
    Calls Try.prog 29 #[.slice A l.length c, .func (.func 30) #[] #[]] w fun e w' => e = .returned (.bool (!clean l)) ∧ Below w.heap.size w w' := by
  have HI := Lib.hid (index_any A c l w hA hl)
  obtain ⟨cl, hcl⟩ : ∃ b, b = !clean l := ⟨_, rfl⟩
  rw [← hcl] at HI ⊢
  clear hA hl hcl
  go_enter Try.func29, Try.ntmps29
  go_wp2_with fail
  with_reducible refine HI.out.mono ?_
  rintro e w2 ⟨z, rfl, hz, hb2⟩
  have HZ := Lib.hid hz
  clear hz
  go_wp2_with fail
  go_ret
  exact ⟨by rw [← HZ.out]; simp, hb2⟩
set_option maxRecDepth 100000 in
set_option maxHeartbeats 2000000 in
theorem clean_any (A : Option Addr) (c : Nat) (l : List Pc) (w : World) (hA : PcIn w A l) (hl : l.length ≤ maxLen) :
    Calls Try.prog 14 #[.slice A l.length c] w fun e w' => e = .returned (.bool (clean l)) ∧ Below w.heap.size w w' := by
  have HI := Lib.hid (contains_any A c l w hA hl)
  generalize clean l = cl at *
  clear hA hl
  go_enter Try.func14, Try.ntmps14
  go_wp2_with fail
  with_reducible refine HI.out.mono ?_
  rintro e w2 ⟨rfl, hb2⟩
  go_wp2_with fail
  go_ret
  exact ⟨by simp, hb2⟩
end Go.Proofs.Ytkflhcfopejigaa.Mg

namespace Go.Proofs.Ytkflhcfopejigaa.Ck
set_option linter.unusedVariables false
set_option linter.unusedSimpArgs false
open Go.RowKit Go.Shelf
open T
open Mt (Pr fnd Rt right rto_any toV)
open N (PrIn PrIn.below)
open V (drawn_below grown_of)
open I (alloc1)

theorem rto_at (A : Option Addr) (cap : Nat) (ps : List Pr) (i : Int) (w : World) (hA : PrIn w A ps) (hl : ps.length ≤ 1000) :
    Calls Try.prog 54 #[.slice A ps.length cap, .int .i64 i] w fun e w' => e = .returned (.tuple #[.int .i64 ((fnd ps i).getD 0), .bool (fnd ps i).isSome]) ∧ w' = w := rto_any A cap ps i w hA (by unfold maxLen; omega)

set_option maxRecDepth 100000 in
set_option maxHeartbeats 4000000 in
theorem rrun_any (A B : Option Addr) (ca cb : Nat) (p q : List Pr) (n m l : Int) (c : Ck) (w : World) (hp : Rt p n m) (hq : Rt q n l) (hpl : p.length ≤ 1000) (hql : q.length ≤ 1000) (hc : Okt (c.o, c.a, c.b)) (hA : PrIn w A p) (hB : PrIn w B q) :
    Calls Try.prog 44 #[.slice A p.length ca, .slice B q.length cb, ckV c] w fun e w' => e = .returned (.int .i64 (run p q (c.o, c.a, c.b) : Nat)) ∧ Below w.heap.size w w' := by
  obtain ⟨cst, co, con, cca, can, ccb, cbn⟩ := c
  obtain ⟨⟨hc0, hc0'⟩, ⟨hc1, hc1'⟩, ⟨hc2, hc2'⟩⟩ := hc
  simp only at hc0 hc0' hc1 hc1' hc2 hc2'
  simp only [ckV]
  obtain ⟨W0, hW0⟩ : ∃ W : World, W = w.alloc (.cells #[.bool cst, .int .i64 co, .int .i64 con, .int .i64 cca, .int .i64 can, .int .i64 ccb, .int .i64 cbn] 41) := ⟨_, rfl⟩
  have HB0 := Lib.hid (show Below w.heap.size w W0 by rw [hW0]; exact alloc1 _ _)
  have hx : W0.heap[w.heap.size]? = some (.cells #[.bool cst, .int .i64 co, .int .i64 con, .int .i64 cca, .int .i64 can, .int .i64 ccb, .int .i64 cbn] 41 (0, 0)) := by rw [hW0]; exact heap_alloc_new w _
  have c1 := L.blk_cell hx 1
  have c3 := L.blk_cell hx 3
  have c5 := L.blk_cell hx 5
  simp only [List.getElem?_toArray, List.getElem?_cons_zero, List.getElem?_cons_succ] at c1 c3 c5
  have HTA := Lib.hid (fun i => rto_at A ca p i W0 (hA.below HB0.out) hpl)
  have HTB := Lib.hid (fun i => rto_at B cb q i W0 (hB.below HB0.out) hql)
  have HRL := Lib.hid (run_le p q (co, cca, ccb))
  have HR := Lib.hid (And.intro hp hq)
  clear hx hA hB hp hq
  go_enter Try.func44, Try.ntmps44
  go_wp2_with fail
  rw [← hW0]
  clear hW0
  go_loopg [7] p.length (fun mm x7 wr => ∃ k : Nat, k ≤ p.length ∧ x7 = .int .i64 (k : Int) ∧ p.length - k ≤ mm ∧ wr = W0 ∧ Hid (run p q (co, cca, ccb) = k + run p q (plus (co, cca, ccb) k)))
  case atStart => exact ⟨0, Nat.zero_le _, rfl, by omega, rfl, Lib.hid (by rw [show ((0 : Nat) : Int) = 0 from rfl, plus_zero]; omega)⟩
  case round =>
    obtain ⟨k, hk, rfl, hm, rfl, HK⟩ := hrel
    have hw0 : IntKind.i64.wrap (co + (k : Int)) = co + k := by rw [IntKind.wrap_i64]; omega
    have hw1 : IntKind.i64.wrap (cca + (k : Int)) = cca + k := by rw [IntKind.wrap_i64]; omega
    have hw2 : IntKind.i64.wrap (ccb + (k : Int)) = ccb + k := by rw [IntKind.wrap_i64]; omega
    have HI := Lib.hid (run_fnd HR.out.1 HR.out.2 (t := plus (co, cca, ccb) k))
    have HTA1 := Lib.hid (HTA.out (co + k))
    have HTB1 := Lib.hid (HTB.out (co + k))
    simp only [plus] at HI
    obtain ⟨fa, hfa⟩ : ∃ f, f = fnd p (co + k) := ⟨_, rfl⟩
    obtain ⟨fb, hfb⟩ : ∃ f, f = fnd q (co + k) := ⟨_, rfl⟩
    rw [← hfa, ← hfb] at HI
    rw [← hfa] at HTA1
    rw [← hfb] at HTB1
    clear hfa hfb
    have HMS := Lib.hid (fun (h : ¬ (fa = some (cca + (k : Int)) ∧ fb = some (ccb + (k : Int)))) => show run p q (co, cca, ccb) = k by
      have := run_miss (p := p) (q := q) (t := plus (co, cca, ccb) k) (fun hs => h (HI.out.1 hs))
      have h1 := HK.out
      omega)
    go_wp2_with fail
    with_reducible refine (HTA1.out).mono ?_
    rintro e w2 ⟨rfl, rfl⟩
    go_wp2_with fail
    with_reducible refine (HTB1.out).mono ?_
    rintro e w3 ⟨rfl, rfl⟩
    cases fa with
    | none =>
      have HV := Lib.hid (HMS.out (fun h => by cases h.1))
      simp only [Option.getD_none, Option.isSome_none]
      go_wp2_with fail
      go_ret
      exact ⟨by rw [HV.out]; rfl, HB0.out⟩
    | some xa =>
      cases fb with
      | none =>
        have HV := Lib.hid (HMS.out (fun h => by cases h.2))
        simp only [Option.getD_some, Option.isSome_some, Option.getD_none, Option.isSome_none]
        go_wp2_with fail
        go_ret
        exact ⟨by rw [HV.out]; rfl, HB0.out⟩
      | some xb =>
        simp only [Option.getD_some, Option.isSome_some]
        by_cases h1 : xa = cca + k
        · by_cases h2 : xb = ccb + k
          · have HIN := Lib.hid (HI.out.2 ⟨by rw [h1], by rw [h2]⟩)
            have HNX : Hid (run p q (co, cca, ccb) = (k + 1 : Nat) + run p q (plus (co, cca, ccb) ((k + 1 : Nat) : Int)) ∧ k + 1 ≤ p.length) := Lib.hid (by
              have h3 := run_hit HR.out.1 HR.out.2 HIN.out
              have h4 := HK.out
              have h5 := HRL.out
              rw [show ((co + (k : Int), cca + (k : Int), ccb + (k : Int)) : Tr) = plus (co, cca, ccb) k from rfl, plus_plus] at h3
              rw [show ((k + 1 : Nat) : Int) = (k : Int) + 1 by omega]
              omega)
            subst h1 h2
            go_wp2_with fail
            go_roundg (p.length - (k + 1))
            case measure => have := HNX.out.2; omega
            case rel => exact ⟨k + 1, HNX.out.2, by go_num, Nat.le_refl _, rfl, Lib.hid HNX.out.1⟩
          · have HV := Lib.hid (HMS.out (fun h => h2 (by injection h.2)))
            subst h1
            go_wp2_with fail
            go_ret
            exact ⟨by rw [HV.out]; rfl, HB0.out⟩
        · have HV := Lib.hid (HMS.out (fun h => h1 (by injection h.1)))
          go_wp2_with fail
          go_ret
          exact ⟨by rw [HV.out]; rfl, HB0.out⟩

/-! The first place that is there on both sides, pair by pair. -/
def hit (q : List Pr) (t : Tr) (z : Pr) : Option Tr := match fnd q z.1 with
  | some k => if t.1 ≤ z.1 ∧ t.2.1 ≤ z.2 ∧ t.2.2 ≤ k then some (z.1, z.2, k) else none
  | none => none
theorem nxt_hit (q : List Pr) (t : Tr) : ∀ p : List Pr, nxt p q t = p.findSome? (hit q t)
  | [] => rfl
  | z :: r => by
    have ih := nxt_hit q t r
    unfold nxt nx shd at ih ⊢
    rw [sh_cons, List.findSome?_cons, List.filter_append, List.find?_append, ih]
    unfold hit
    cases hf : fnd q z.1 with
    | none => simp
    | some k =>
      simp only [Option.map_some, Option.toList_some, List.filter_cons, List.filter_nil]
      by_cases h1 : t.1 ≤ z.1
      · by_cases h2 : t.2.1 ≤ z.2
        · by_cases h3 : t.2.2 ≤ k
          · simp [h1, h2, h3]
          · simp [h1, h2, h3]
        · simp [h1, h2]
      · simp [h1]
theorem hit_none {q : List Pr} {t : Tr} {z : Pr} (h : fnd q z.1 = none) : hit q t z = none := by unfold hit; rw [h]
theorem hit_some {q : List Pr} {t : Tr} {z : Pr} {k : Int} (h : fnd q z.1 = some k) : hit q t z = if t.1 ≤ z.1 ∧ t.2.1 ≤ z.2 ∧ t.2.2 ≤ k then some (z.1, z.2, k) else none := by unfold hit; rw [h]
theorem some_take {p : List Pr} {f : Pr → Option Tr} {k : Nat} (hk : k < p.length) : (p.take (k + 1)).findSome? f = ((p.take k).findSome? f).or (f p[k]) := by
  rw [List.take_succ_eq_append_getElem hk, List.findSome?_append]
  simp
theorem hit_off {q : List Pr} {t : Tr} {z : Pr} {k : Int} (h : fnd q z.1 = some k) (hn : ¬ (t.1 ≤ z.1 ∧ t.2.1 ≤ z.2 ∧ t.2.2 ≤ k)) : hit q t z = none := by rw [hit_some h, if_neg hn]
/-- What the reference's Next holds while pairs come: the best one's place. -/
def Best (p q : List Pr) (t : Tr) (k : Nat) (b : Int) : Prop := (b = -1 ∧ (p.take k).findSome? (hit q t) = none) ∨ (∃ j : Nat, b = (j : Int) ∧ j < k ∧ ∃ hj : j < p.length, ∃ x, hit q t p[j] = some x ∧ (p.take k).findSome? (hit q t) = some x)
theorem best_zero (p q : List Pr) (t : Tr) : Best p q t 0 (-1) := .inl ⟨rfl, by simp⟩
theorem best_miss {p q : List Pr} {t : Tr} {k : Nat} (hk : k < p.length) (h : Best p q t k (-1)) (hm : hit q t p[k] = none) : Best p q t (k + 1) (-1) := by
  rcases h with ⟨-, h⟩ | ⟨j, h, -⟩
  · exact .inl ⟨rfl, by rw [some_take hk, h, hm]; rfl⟩
  · omega
theorem best_hit {p q : List Pr} {t : Tr} {k : Nat} (hk : k < p.length) (h : Best p q t k (-1)) {x : Tr} (hm : hit q t p[k] = some x) : Best p q t (k + 1) (k : Int) := by
  rcases h with ⟨-, h⟩ | ⟨j, h, -⟩
  · exact .inr ⟨k, rfl, by omega, hk, x, hm, by rw [some_take hk, h, hm]; rfl⟩
  · omega
theorem best_on {p q : List Pr} {t : Tr} {k j : Nat} (hk : k < p.length) (h : Best p q t k (j : Int)) : Best p q t (k + 1) (j : Int) := by
  rcases h with ⟨h, -⟩ | ⟨i, h, hik, hi, x, h1, h2⟩
  · omega
  · exact .inr ⟨i, h, by omega, hi, x, h1, by rw [some_take hk, h2]; rfl⟩
theorem hit_at {q : List Pr} {t z : Tr} {y : Pr} (h : hit q t y = some z) : z.1 = y.1 ∧ z.2.1 = y.2 ∧ fnd q y.1 = some z.2.2 := by
  unfold hit at h
  split at h
  · rename_i k hf
    split at h
    · injection h with h
      subst h
      exact ⟨rfl, rfl, hf⟩
    · cases h
  · cases h
set_option maxRecDepth 100000 in
set_option maxHeartbeats 4000000 in
theorem rnext_any (A B : Option Addr) (ca cb : Nat) (p q : List Pr) (n m l : Int) (c : Ck) (w : World) (hp : Rt p n m) (hq : Rt q n l) (hpl : p.length ≤ 1000) (hql : q.length ≤ 1000) (hA : PrIn w A p) (hB : PrIn w B q) :
    Calls Try.prog 45 #[.slice A p.length ca, .slice B q.length cb, ckV c] w fun e w' => e = .returned (nxV (nxt p q (c.o, c.a, c.b))) ∧ Below w.heap.size w w' := by
  obtain ⟨cst, co, con, cca, can, ccb, cbn⟩ := c
  simp only [ckV]
  obtain ⟨W0, hW0⟩ : ∃ W : World, W = w.alloc (.cells #[.bool cst, .int .i64 co, .int .i64 con, .int .i64 cca, .int .i64 can, .int .i64 ccb, .int .i64 cbn] 41) := ⟨_, rfl⟩
  have HB0 := Lib.hid (show Below w.heap.size w W0 by rw [hW0]; exact alloc1 _ _)
  have hx : W0.heap[w.heap.size]? = some (.cells #[.bool cst, .int .i64 co, .int .i64 con, .int .i64 cca, .int .i64 can, .int .i64 ccb, .int .i64 cbn] 41 (0, 0)) := by rw [hW0]; exact heap_alloc_new w _
  have c1 := L.blk_cell hx 1
  have c3 := L.blk_cell hx 3
  have c5 := L.blk_cell hx 5
  simp only [List.getElem?_toArray, List.getElem?_cons_zero, List.getElem?_cons_succ] at c1 c3 c5
  have HTA := Lib.hid (fun i => rto_at A ca p i W0 (hA.below HB0.out) hpl)
  have HTB := Lib.hid (fun i => rto_at B cb q i W0 (hB.below HB0.out) hql)
  have HPA := Lib.hid (PrLow.of (hA.below HB0.out))
  have HR := Lib.hid (And.intro hp hq)
  have HNX := Lib.hid (nxt_hit q (co, cca, ccb) p)
  clear hx hA hB hp hq
  go_enter Try.func45, Try.ntmps45
  go_wp2_with fail
  rw [← hW0]
  clear hW0
  go_loopg [10, 11] p.length (fun mm x10 x11 wr => ∃ (k : Nat) (b : Int), k ≤ p.length ∧ x10 = .int .i64 b ∧ x11 = .int .i64 (k : Int) ∧ p.length - k ≤ mm ∧ wr = W0 ∧ Hid (Best p q (co, cca, ccb) k b))
  case atStart => exact ⟨0, -1, Nat.zero_le _, rfl, rfl, by omega, rfl, Lib.hid (best_zero p q _)⟩
  case round =>
    obtain ⟨k, b, hk, rfl, rfl, hm, rfl, HK⟩ := hrel
    by_cases hlt : k < p.length
    · obtain ⟨bk, off, hAe, hbk, hI⟩ := HPA.out (by omega)
      subst hAe
      obtain ⟨q0, q1⟩ := hI k hlt
      have h0k : (0 : Int) ≤ (k : Int) := by omega
      have hki : (k : Int) < (p.length : Int) := by omega
      have HFA := Lib.hid (HR.out.1.at hlt)
      have HLT := Lib.hid hlt
      have HIX := Lib.hid hI
      obtain ⟨z, hz⟩ : ∃ z : Pr, p[k]'hlt = z := ⟨_, rfl⟩
      rw [hz] at q0 q1 HFA
      have HZ := Lib.hid hz.symm
      clear hz hI q1
      obtain ⟨z0, z1⟩ := z
      simp only at q0 HFA
      have HTA1 := Lib.hid (HTA.out z0)
      have HTB1 := Lib.hid (HTB.out z0)
      rw [HFA.out] at HTA1
      simp only [Option.getD_some, Option.isSome_some] at HTA1
      obtain ⟨fb, hfb⟩ : ∃ f, f = fnd q z0 := ⟨_, rfl⟩
      rw [← hfb] at HTB1
      have HFB := Lib.hid hfb
      clear hfb
      go_wp2_with fail
      with_reducible refine (HTA1.out).mono ?_
      rintro e w2 ⟨rfl, rfl⟩
      go_wp2_with fail
      with_reducible refine (HTB1.out).mono ?_
      rintro e w3 ⟨rfl, rfl⟩
      clear HTA1 HTB1
      by_cases hb : b = -1
      · subst hb
        cases fb with
        | none =>
          have HN := Lib.hid (best_miss HLT.out HK.out (hit_none (by rw [← HZ.out]; exact HFB.out.symm)))
          simp only [Option.getD_none, Option.isSome_none]
          go_wp2_with fail
          go_roundg (p.length - (k + 1))
          case measure => omega
          case rel => exact ⟨k + 1, -1, by omega, rfl, by go_num, Nat.le_refl _, rfl, HN⟩
        | some xb =>
          simp only [Option.getD_some, Option.isSome_some]
          have HHS := Lib.hid (fun (h : co ≤ z0 ∧ cca ≤ z1 ∧ ccb ≤ xb) => best_hit HLT.out HK.out (x := (z0, z1, xb)) (by rw [← HZ.out]; exact (hit_some (t := (co, cca, ccb)) (z := (z0, z1)) HFB.out.symm).trans (if_pos h)))
          have HHN := Lib.hid (fun (h : ¬ (co ≤ z0 ∧ cca ≤ z1 ∧ ccb ≤ xb)) => best_miss HLT.out HK.out (by rw [← HZ.out]; exact hit_off (t := (co, cca, ccb)) (z := (z0, z1)) HFB.out.symm h))
          by_cases h1 : co ≤ z0
          · by_cases h2 : cca ≤ z1
            · by_cases h3 : ccb ≤ xb
              · have HN := Lib.hid (HHS.out ⟨h1, h2, h3⟩)
                go_wp2_with fail
                go_roundg (p.length - (k + 1))
                case measure => omega
                case rel => exact ⟨k + 1, (k : Int), by omega, rfl, by go_num, Nat.le_refl _, rfl, HN⟩
              · have HN := Lib.hid (HHN.out (fun h => h3 h.2.2))
                go_wp2_with fail
                go_roundg (p.length - (k + 1))
                case measure => omega
                case rel => exact ⟨k + 1, -1, by omega, rfl, by go_num, Nat.le_refl _, rfl, HN⟩
            · have HN := Lib.hid (HHN.out (fun h => h2 h.2.1))
              go_wp2_with fail
              go_roundg (p.length - (k + 1))
              case measure => omega
              case rel => exact ⟨k + 1, -1, by omega, rfl, by go_num, Nat.le_refl _, rfl, HN⟩
          · have HN := Lib.hid (HHN.out (fun h => h1 h.1))
            go_wp2_with fail
            go_roundg (p.length - (k + 1))
            case measure => omega
            case rel => exact ⟨k + 1, -1, by omega, rfl, by go_num, Nat.le_refl _, rfl, HN⟩
      · have HJ : Hid (∃ j : Nat, b = (j : Int) ∧ j < k ∧ j < p.length) := Lib.hid (by
          rcases HK.out with ⟨h, -⟩ | ⟨j, h, hj, hjp, -⟩
          · exact absurd h hb
          · exact ⟨j, h, hj, hjp⟩)
        obtain ⟨j, rfl, hjk, hjp⟩ := HJ.out
        obtain ⟨r0, -⟩ := HIX.out j hjp
        have hjz : ¬ z0 < p[j].1 := by
          have := up_lt (HR.out.1.up.imp fun h => h.1) hjp HLT.out hjk
          rw [← HZ.out] at this
          simp only at this
          omega
        obtain ⟨y, hy⟩ : ∃ y, y = p[j].1 := ⟨_, rfl⟩
        rw [← hy] at r0 hjz
        have HN := Lib.hid (best_on HLT.out HK.out)
        have hj0 : (0 : Int) ≤ (j : Int) := by omega
        have hj1 : (j : Int) < (p.length : Int) := by omega
        have hj2 : ¬ (j : Int) < 0 := by omega
        have hjn : j < 9223372036854775807 := by omega
        clear hy hb
        cases fb with
        | none =>
          simp only [Option.getD_none, Option.isSome_none]
          go_wp2_with fail
          go_roundg (p.length - (k + 1))
          case measure => omega
          case rel => exact ⟨k + 1, (j : Int), by omega, rfl, by go_num, Nat.le_refl _, rfl, HN⟩
        | some xb =>
          simp only [Option.getD_some, Option.isSome_some]
          by_cases h1 : co ≤ z0
          · by_cases h2 : cca ≤ z1
            · by_cases h3 : ccb ≤ xb
              all_goals
                go_wp2_with fail
                go_roundg (p.length - (k + 1))
                case measure => omega
                case rel => exact ⟨k + 1, (j : Int), by omega, rfl, by go_num, Nat.le_refl _, rfl, HN⟩
            · go_wp2_with fail
              go_roundg (p.length - (k + 1))
              case measure => omega
              case rel => exact ⟨k + 1, (j : Int), by omega, rfl, by go_num, Nat.le_refl _, rfl, HN⟩
          · go_wp2_with fail
            go_roundg (p.length - (k + 1))
            case measure => omega
            case rel => exact ⟨k + 1, (j : Int), by omega, rfl, by go_num, Nat.le_refl _, rfl, HN⟩
    · obtain rfl : k = p.length := by omega
      have HKE : Hid ((b = -1 ∧ nxt p q (co, cca, ccb) = none) ∨ (∃ j : Nat, b = (j : Int) ∧ ∃ hj : j < p.length, ∃ x, hit q (co, cca, ccb) p[j] = some x ∧ nxt p q (co, cca, ccb) = some x)) := Lib.hid (by
        have h := HK.out
        unfold Best at h
        rw [List.take_length, ← HNX.out] at h
        rcases h with h | ⟨j, h, -, hj, x, h1, h2⟩
        · exact .inl h
        · exact .inr ⟨j, h, hj, x, h1, h2⟩)
      clear HK hlt
      rcases HKE.out with ⟨rfl, hn⟩ | ⟨j, rfl, hj, x, h1, h2⟩
      · have HV := Lib.hid hn
        clear hn HKE
        go_wp2_with fail
        refine bodyPost_ret (v := .tuple #[.int .i64 0, .int .i64 0, .int .i64 0, .bool false]) (by simp [results, Try.results45, go_sem]) rfl ⟨by rw [HV.out]; rfl, HB0.out⟩
      · have HV := Lib.hid h2
        have HAT := Lib.hid (hit_at h1)
        have HFA := Lib.hid (HR.out.1.at hj)
        obtain ⟨bk, off, hAe, hbk, hI⟩ := HPA.out (by omega)
        subst hAe
        obtain ⟨q0, -⟩ := hI j hj
        have h0k : (0 : Int) ≤ (j : Int) := by omega
        have hki : (j : Int) < (p.length : Int) := by omega
        have hj2 : ¬ (j : Int) < 0 := by omega
        obtain ⟨x0, x1, x2⟩ := x
        have hx0 := HAT.out.1
        have hx1 := HAT.out.2.1
        have hx2 := HAT.out.2.2
        simp only at hx0 hx1 hx2
        rw [← hx0] at q0 hx2 HFA
        rw [← hx1] at HFA
        have HTA1 := Lib.hid (HTA.out x0)
        have HTB1 := Lib.hid (HTB.out x0)
        rw [HFA.out] at HTA1
        rw [hx2] at HTB1
        simp only [Option.getD_some, Option.isSome_some] at HTA1 HTB1
        clear h1 h2 hI HKE hx0 hx1 hx2 HAT HFA
        go_wp2_with fail
        with_reducible refine (HTA1.out).mono ?_
        rintro e w2 ⟨rfl, rfl⟩
        go_wp2_with fail
        with_reducible refine (HTB1.out).mono ?_
        rintro e w3 ⟨rfl, rfl⟩
        go_wp2_with fail
        refine bodyPost_ret (v := .tuple #[.int .i64 x0, .int .i64 x1, .int .i64 x2, .bool true]) (by simp [results, Try.results45, go_sem]) rfl ⟨by rw [HV.out]; rfl, HB0.out⟩
end Go.Proofs.Ytkflhcfopejigaa.Ck
