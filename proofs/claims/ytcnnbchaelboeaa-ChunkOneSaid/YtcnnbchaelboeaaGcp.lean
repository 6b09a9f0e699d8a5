/-
  What follows of chunks, in plain words: they are right, of either kind by turns, and the same with both others changed for one another; with one matched line by line.
  The contracts of layer 13 as its laws take them, one form each; what must be whatever is asked of it; the first forty pairs.
  A label read out of an argument; small facts for arguments of structs.
  An argument that is items, opened: its value, and what its cells hold.
  An argument that is a slice of integers, opened: its value, and what its cells hold.
  What the second form's bound on the bulk of the arguments gives: bounds on lengths.
-/
import Derived.Test.YtcnnbchaelboeaaGck
import Derived.Test.YtcnnbchaelboeaaGco
import Derived.Test.YtcnnbchaelboeaaGcl
import Derived.Test.YtcnnbchaelboeaaGcm
import Derived.Test.YtcnnbchaelboeaaGca
import Derived.Deep.Slices
import Derived.Deep.Strs
import Derived.Lib.SmallJoins
import Derived.Test.YtcnnbchaelboeaaRows
import Derived.Lib.Strings
namespace Go.Proofs.Ytcnnbchaelboeaa.Ck
set_option linter.unusedVariables false
set_option linter.unusedSimpArgs false
open Go.RowKit
open Mt (Pr fnd Rt right fnd_mem fnd_of)

theorem step_st (p q : List Pr) (e t : Tr) : (step p q e t).st = decide (0 < run p q t) := by
  unfold step
  by_cases h : run p q t = 0
  · rw [if_pos h, decide_eq_false (by omega)]; rfl
  · rw [if_neg h, decide_eq_true (by omega)]; rfl
theorem step_pos {p q : List Pr} {e t : Tr} (h : 0 < run p q t) : step p q e t = stab t (run p q t) := if_neg (by omega)
theorem step_zero {p q : List Pr} {e t : Tr} (h : run p q t = 0) : step p q e t = unst t ((nxt p q t).getD e) := if_pos h
theorem beh_stab' (t : Tr) (n : Nat) : beh (stab t n) = plus t n := rfl
theorem beh_unst' (t x : Tr) : beh (unst t x) = x := tr_ext (by simp only [beh, unst]; omega) (by simp only [beh, unst]; omega) (by simp only [beh, unst]; omega)
theorem step_good {p q : List Pr} {e t : Tr} (hp : Rt p e.1 e.2.1) (hq : Rt q e.1 e.2.2) (hl : Le3 t e) (hne : t ≠ e) : good t e (step p q e t) ∧ next t (step p q e t) = beh (step p q e t) := by
  have hs := step_ok hp hq hl hne
  obtain ⟨⟨h1, h2, h3⟩, h4, h5, h6, h7, h8, h9, h10⟩ := hs
  simp only [beh] at h8 h9 h10
  refine ⟨⟨⟨h1, h2, h3⟩, ⟨h4, h5, h6⟩, fun h => by omega, fun h => ?_, by omega, by omega, by omega⟩, by unfold next beh; rw [h1, h2, h3]⟩
  rw [step_st, decide_eq_true_eq] at h
  rw [step_pos h]
  exact ⟨rfl, rfl⟩
theorem walk_right {p q : List Pr} {e : Tr} (hp : Rt p e.1 e.2.1) (hq : Rt q e.1 e.2.2) {t : Tr} (hl : Le3 t e) : ckr t e (walk p q e t) = true := by
  refine walk_ind (M := fun t l => ckr t e l = true) hp hq (by simp [ckr]) (fun t r h1 h2 h3 h4 h5 => ?_) _ t (Nat.le_refl _) hl
  have hg := step_good hp hq h1 h2
  rw [ckr, decide_eq_true hg.1, hg.2, h5]; rfl
def alt : Bool → List Ck → Prop
  | _, [] => True
  | b, c :: r => c.st = b ∧ alt (!b) r
theorem walk_alt {p q : List Pr} {e : Tr} (hp : Rt p e.1 e.2.1) (hq : Rt q e.1 e.2.2) {t : Tr} (hl : Le3 t e) : alt (decide (0 < run p q t)) (walk p q e t) := by
  refine walk_ind (M := fun t l => alt (decide (0 < run p q t)) l) hp hq trivial (fun t r h1 h2 h3 h4 h5 => ?_) _ t (Nat.le_refl _) hl
  refine ⟨step_st p q e t, ?_⟩
  by_cases hr : 0 < run p q t
  · have : run p q (beh (step p q e t)) = 0 := by rw [step_pos hr, beh_stab']; exact run_miss (run_end hp hq t)
    rw [this] at h5
    rw [decide_eq_true hr]
    exact h5
  · have hz : run p q t = 0 := by omega
    rw [decide_eq_false hr]
    cases hx : nxt p q t with
    | none =>
      have : beh (step p q e t) = e := by rw [step_zero hz, hx, Option.getD_none, beh_unst']
      rw [this, walk_end] at h4
      subst h4; trivial
    | some x =>
      have : 0 < run p q (beh (step p q e t)) := by rw [step_zero hz, hx, Option.getD_some, beh_unst']; exact (run_pos hp hq).2 (nxt_mem hx).1
      rw [decide_eq_true this] at h5
      exact h5
theorem alt_at : ∀ {l : List Ck} {b : Bool}, alt b l → ∀ i (hi : i + 1 < l.length), l[i + 1].st ≠ l[i].st
  | [], _, _, i, hi => by simp at hi
  | [c], _, _, i, hi => by simp at hi
  | c :: d :: r, b, h, 0, _ => by
    obtain ⟨h1, h2, -⟩ := h
    simp only [List.getElem_cons_zero, List.getElem_cons_succ]
    rw [h1, h2]; cases b <;> simp
  | c :: d :: r, b, h, i + 1, hi => by
    have := alt_at h.2 i (by simpa using hi)
    simpa using this
theorem walk_in_ {p q : List Pr} {e : Tr} (hp : Rt p e.1 e.2.1) (hq : Rt q e.1 e.2.2) {t : Tr} (hl : Le3 t e) : ∀ c ∈ walk p q e t, c.st = true → ∀ k : Nat, (k : Int) < c.on → fnd p (c.o + k) = some (c.a + k) ∧ fnd q (c.o + k) = some (c.b + k) := by
  refine walk_ind (M := fun _ l => ∀ c ∈ l, c.st = true → ∀ k : Nat, (k : Int) < c.on → fnd p (c.o + k) = some (c.a + k) ∧ fnd q (c.o + k) = some (c.b + k)) hp hq (fun c hc => by cases hc) (fun t r h1 h2 h3 h4 h5 c hc hs k hk => ?_) _ t (Nat.le_refl _) hl
  rcases List.mem_cons.1 hc with rfl | hc
  · rw [step_st, decide_eq_true_eq] at hs
    rw [step_pos hs] at hk ⊢
    have hk' : k < run p q t := by simp only [stab] at hk; omega
    exact (run_fnd hp hq).1 (run_in hp hq hk')
  · exact h5 c hc hs k hk
/-! Both others changed for one another. -/
def sw (t : Tr) : Tr := (t.1, t.2.2, t.2.1)
def turn (c : Ck) : Ck := ⟨c.st, c.o, c.on, c.b, c.bn, c.a, c.an⟩
theorem sh_sw {p q : List Pr} {n m l : Int} (hp : Rt p n m) (hq : Rt q n l) {t : Tr} : sw t ∈ sh q p ↔ t ∈ sh p q := by
  rw [sh_mem hq hp, sh_mem hp hq]
  exact And.comm
theorem run_sw {p q : List Pr} {n m l : Int} (hp : Rt p n m) (hq : Rt q n l) : ∀ (k : Nat) (t : Tr), run p q t = k → run q p (sw t) = k
  | 0, t, h => run_miss (fun hs => by
      have := (run_pos hp hq).2 ((sh_sw hp hq).1 hs)
      omega)
  | k + 1, t, h => by
    have h1 : t ∈ sh p q := (run_pos hp hq).1 (by omega)
    have h2 := run_hit hp hq h1
    have h3 := run_sw hp hq k (plus t 1) (by omega)
    rw [run_hit hq hp ((sh_sw hp hq).2 h1)]
    rw [show plus (sw t) 1 = sw (plus t 1) from rfl, h3]
theorem nxt_least {p q : List Pr} {n m l : Int} (hp : Rt p n m) (hq : Rt q n l) {t x : Tr} (h : nxt p q t = some x) {y : Tr} (hy : y ∈ sh p q) (hl : Le3 t y) : x.1 ≤ y.1 := by
  unfold nxt nx at h
  rw [List.find?_eq_some_iff_append] at h
  obtain ⟨hx, us, bs, he, ha⟩ := h
  have hmem : y ∈ shd p q t.1 := shd_mem.2 ⟨hy, hl.1⟩
  have hup : (shd p q t.1).Pairwise fun t u => t.1 < u.1 ∧ t.2.1 < u.2.1 ∧ t.2.2 < u.2.2 := (sh_up hp.up hq.up).sublist List.filter_sublist
  rw [he] at hmem hup
  rcases List.mem_append.1 hmem with h1 | h1
  · have := ha y h1
    simp only [Bool.not_eq_true', Bool.and_eq_false_iff, decide_eq_false_iff_not] at this
    obtain ⟨-, h2, h3⟩ := hl
    rcases this with h | h <;> exact absurd (by assumption) h
  · rcases List.mem_cons.1 h1 with h2 | h2
    · rw [h2]; exact Int.le_refl _
    · have := (List.pairwise_cons.1 (List.pairwise_append.1 hup).2.1).1 y h2
      omega
theorem nxt_none {p q : List Pr} {t : Tr} (h : nxt p q t = none) {y : Tr} (hy : y ∈ sh p q) : ¬ Le3 t y := fun hl => by
  unfold nxt nx at h
  rw [List.find?_eq_none] at h
  have := h y (shd_mem.2 ⟨hy, hl.1⟩)
  simp only [Bool.and_eq_true, decide_eq_true_eq, not_and] at this
  exact this hl.2.1 hl.2.2
theorem le3_sw {t u : Tr} (h : Le3 t u) : Le3 (sw t) (sw u) := ⟨h.1, h.2.2, h.2.1⟩
theorem nxt_sw {p q : List Pr} {n m l : Int} (hp : Rt p n m) (hq : Rt q n l) (t : Tr) : nxt q p (sw t) = (nxt p q t).map sw := by
  cases hx : nxt p q t with
  | none =>
    cases hy : nxt q p (sw t) with
    | none => rfl
    | some y =>
      obtain ⟨h1, h2⟩ := nxt_mem hy
      have h3 := (sh_sw hq hp).2 h1
      exact absurd (le3_sw h2) (nxt_none hx h3)
  | some x =>
    obtain ⟨h1, h2⟩ := nxt_mem hx
    have h3 := (sh_sw hp hq).2 h1
    cases hy : nxt q p (sw t) with
    | none => exact absurd (le3_sw h2) (nxt_none hy h3)
    | some y =>
      obtain ⟨g1, g2⟩ := nxt_mem hy
      have a1 := nxt_least hq hp hy h3 (le3_sw h2)
      have a2 := nxt_least hp hq hx ((sh_sw hq hp).2 g1) (le3_sw g2)
      have : y = sw x := sh_one hq hp g1 h3 (by simp only [sw] at a1 a2 ⊢; omega)
      rw [this]; rfl
theorem step_sw {p q : List Pr} {n m l : Int} (hp : Rt p n m) (hq : Rt q n l) (e t : Tr) : step q p (sw e) (sw t) = turn (step p q e t) := by
  have hr := run_sw hp hq _ t rfl
  by_cases h : run p q t = 0
  · rw [step_zero (by rw [hr]; exact h), step_zero h, nxt_sw hp hq]
    cases nxt p q t <;> rfl
  · rw [step_pos (by rw [hr]; omega), step_pos (by omega), hr]; rfl
theorem beh_turn (c : Ck) : beh (turn c) = sw (beh c) := rfl
theorem walk_sw {p q : List Pr} {e : Tr} (hp : Rt p e.1 e.2.1) (hq : Rt q e.1 e.2.2) {t : Tr} (hl : Le3 t e) : walk q p (sw e) (sw t) = (walk p q e t).map turn := by
  refine walk_ind (M := fun t l => walk q p (sw e) (sw t) = l.map turn) hp hq (by rw [walk_end]; rfl) (fun t r h1 h2 h3 h4 h5 => ?_) _ t (Nat.le_refl _) hl
  have hne : sw t ≠ sw e := fun h => h2 (by
    simp only [sw, Prod.mk.injEq] at h
    exact tr_ext h.1 h.2.2 h.2.1)
  rw [walk_step (e := sw e) hq hp (le3_sw h1) hne, step_sw hp hq, beh_turn, h5, List.map_cons]
theorem chunks_sw (p q : List Pr) (o a b : Int) : chunks q p o b a = (chunks p q o a b).map turn ∧ err q p o b a = err p q o a b := by
  by_cases h : can p q o a b
  · have h' : can q p o b a := ⟨⟨h.1.1, h.1.2.2, h.1.2.1⟩, h.2.2, h.2.1⟩
    have hp := Mt.right_iff.1 h.2.1
    have hq := Mt.right_iff.1 h.2.2
    unfold chunks err
    rw [if_pos h, if_pos h', if_pos h, if_pos h']
    exact ⟨walk_sw (e := (o, a, b)) hp hq (t := (0, 0, 0)) ⟨h.1.1.1, h.1.2.1.1, h.1.2.2.1⟩, rfl⟩
  · have h' : ¬ can q p o b a := fun g => h ⟨⟨g.1.1, g.1.2.2, g.1.2.1⟩, g.2.2, g.2.1⟩
    unfold chunks err
    rw [if_neg h, if_neg h', if_neg h, if_neg h']
    exact ⟨rfl, rfl⟩
/-! One of the others matched line by line. -/
def idp : Nat → List Pr
  | 0 => []
  | n + 1 => idp n ++ [((n : Int), (n : Int))]
theorem idp_len : ∀ n, (idp n).length = n
  | 0 => rfl
  | n + 1 => by rw [idp, List.length_append, idp_len n]; rfl
theorem idp_mem : ∀ {n : Nat} {z : Pr}, z ∈ idp n ↔ ∃ i : Nat, i < n ∧ z = ((i : Int), (i : Int))
  | 0, z => by simp [idp]
  | n + 1, z => by
    rw [idp, List.mem_append, idp_mem, List.mem_singleton]
    constructor
    · rintro (⟨i, h, rfl⟩ | rfl)
      · exact ⟨i, by omega, rfl⟩
      · exact ⟨n, by omega, rfl⟩
    · rintro ⟨i, h, rfl⟩
      rcases Nat.lt_or_eq_of_le (show i ≤ n by omega) with h1 | h1
      · exact .inl ⟨i, h1, rfl⟩
      · subst h1; exact .inr rfl
theorem idp_up : ∀ n, (idp n).Pairwise fun p q => p.1 < q.1 ∧ p.2 < q.2
  | 0 => by simp [idp]
  | n + 1 => by
    rw [idp, List.pairwise_append]
    refine ⟨idp_up n, by simp, fun x hx y hy => ?_⟩
    obtain ⟨i, h, rfl⟩ := idp_mem.1 hx
    rw [List.mem_singleton] at hy
    subst hy
    simp only
    omega
theorem idp_rt (n : Nat) : Rt (idp n) n n := ⟨fun z hz => by
  obtain ⟨i, h, rfl⟩ := idp_mem.1 hz
  simp only
  omega, idp_up n⟩
theorem idp_fnd {n : Nat} {i : Int} (h : 0 ≤ i ∧ i < n) : fnd (idp n) i = some i := (idp_rt n).fnd.2 (idp_mem.2 ⟨i.toNat, by omega, by rw [show ((i.toNat : Nat) : Int) = i by omega]⟩)
def sumst : List Ck → Int
  | [] => 0
  | c :: r => (if c.st = true then c.on else 0) + sumst r
def One (p q : List Pr) (t : Tr) : Prop := t.1 = t.2.2 ∧ ∀ m ∈ sh p q, t.1 ≤ m.1 → t.2.1 ≤ m.2.1
theorem sh_idp {p : List Pr} {o : Nat} {a : Int} (hp : Rt p o a) {m : Tr} (h : m ∈ sh p (idp o)) : m.2.2 = m.1 := by
  rw [sh_mem hp (idp_rt o)] at h
  obtain ⟨i, -, e⟩ := idp_mem.1 h.2
  simp only [Prod.mk.injEq] at e
  rw [e.1, e.2]
theorem run_shd {p q : List Pr} {n m l : Int} (hp : Rt p n m) (hq : Rt q n l) : ∀ (k : Nat) (t : Tr), k ≤ run p q t → (shd p q t.1).length = k + (shd p q (t.1 + k)).length
  | 0, t, _ => by simp
  | k + 1, t, h => by
    have h1 : t ∈ sh p q := (run_pos hp hq).1 (by omega)
    have h2 := run_hit hp hq h1
    have h3 := run_shd hp hq k (plus t 1) (by omega)
    rw [shd_hit hp hq h1, List.length_cons]
    have e : (plus t 1).1 = t.1 + 1 := rfl
    rw [e] at h3
    rw [h3, show t.1 + 1 + (k : Int) = t.1 + ((k + 1 : Nat) : Int) by omega]
    omega
theorem sh_rise {p q : List Pr} {n m l : Int} (hp : Rt p n m) (hq : Rt q n l) {x y : Tr} (hx : x ∈ sh p q) (hy : y ∈ sh p q) (h : x.1 < y.1) : x.2.1 < y.2.1 := by
  rw [sh_mem hp hq] at hx hy
  exact pr_up (x := (x.1, x.2.1)) (y := (y.1, y.2.1)) hp.up hx.1 hy.1 h
theorem walk_one {p : List Pr} {o : Nat} {a : Int} (hp : Rt p o a) {t : Tr} (hl : Le3 t ((o : Int), a, (o : Int))) (h0 : One p (idp o) t) :
    (∀ c ∈ walk p (idp o) ((o : Int), a, (o : Int)) t, c.o = c.b ∧ c.on = c.bn) ∧ sumst (walk p (idp o) ((o : Int), a, (o : Int)) t) = (shd p (idp o) t.1).length := by
  have hq := idp_rt o
  refine walk_ind (e := ((o : Int), a, (o : Int))) (M := fun t l => One p (idp o) t → (∀ c ∈ l, c.o = c.b ∧ c.on = c.bn) ∧ sumst l = (shd p (idp o) t.1).length) hp hq (fun _ => ⟨(fun c hc => by cases hc), ?_⟩) (fun t r h1 h2 h3 h4 h5 hO => ?_) _ t (Nat.le_refl _) hl h0
  · have : shd p (idp o) (o : Int) = [] := by
      rw [List.eq_nil_iff_forall_not_mem]
      intro m hm
      rw [shd_mem] at hm
      have := (sh_bound (e := ((o : Int), a, (o : Int))) hp hq hm.1).1
      simp only at this
      omega
    simp only
    rw [this]; rfl
  · by_cases hr : 0 < run p (idp o) t
    · have hO2 : One p (idp o) (plus t (run p (idp o) t)) := ⟨by simp only [plus]; rw [hO.1], fun m hm hle => by
        have hi := run_in hp hq (t := t) (j := run p (idp o) t - 1) (by omega)
        have := sh_rise hp hq hi hm (by simp only [plus] at hle ⊢; omega)
        simp only [plus] at this ⊢
        omega⟩
      have h6 := h5 (by rw [step_pos hr, beh_stab']; exact hO2)
      rw [step_pos hr, beh_stab'] at h6
      rw [step_pos hr]
      refine ⟨fun c hc => ?_, ?_⟩
      · rcases List.mem_cons.1 hc with rfl | hc
        · exact ⟨hO.1, rfl⟩
        · exact h6.1 c hc
      · rw [sumst, h6.2, run_shd hp hq _ t (Nat.le_refl _)]
        simp only [stab, if_true, plus]
        omega
    · have hz : run p (idp o) t = 0 := by omega
      cases hx : nxt p (idp o) t with
      | none =>
        have hb : beh (step p (idp o) ((o : Int), a, (o : Int)) t) = ((o : Int), a, (o : Int)) := by rw [step_zero hz, hx, Option.getD_none, beh_unst']
        have hn : shd p (idp o) t.1 = [] := by
          rw [List.eq_nil_iff_forall_not_mem]
          intro m hm
          rw [shd_mem] at hm
          exact nxt_none hx hm.1 ⟨hm.2, hO.2 m hm.1 hm.2, by rw [sh_idp hp hm.1, ← hO.1]; exact hm.2⟩
        rw [hb, walk_end] at h4
        subst h4
        rw [step_zero hz, hx, Option.getD_none]
        refine ⟨fun c hc => ?_, ?_⟩
        · rw [List.mem_singleton] at hc
          subst hc
          exact ⟨hO.1, by simp only [unst]; rw [hO.1]⟩
        · rw [hn]; simp [sumst, unst]
      | some x =>
        obtain ⟨g1, g2⟩ := nxt_mem hx
        have hb : beh (step p (idp o) ((o : Int), a, (o : Int)) t) = x := by rw [step_zero hz, hx, Option.getD_some, beh_unst']
        have hO2 : One p (idp o) x := ⟨(sh_idp hp g1).symm, fun m hm hle => by
          rcases Int.lt_or_eq_of_le hle with h | h
          · exact Int.le_of_lt (sh_rise hp hq g1 hm h)
          · rw [sh_one hp hq g1 hm h]; exact Int.le_refl _⟩
        have h6 := h5 (by rw [hb]; exact hO2)
        rw [hb] at h6
        have hs : shd p (idp o) t.1 = shd p (idp o) x.1 := List.filter_congr fun m hm => by
          by_cases h : t.1 ≤ m.1
          · rw [decide_eq_true h, decide_eq_true (nxt_least hp hq hx hm ⟨h, hO.2 m hm h, by rw [sh_idp hp hm, ← hO.1]; exact h⟩)]
          · rw [decide_eq_false h, decide_eq_false (fun h7 => h (Int.le_trans g2.1 h7))]
        rw [step_zero hz, hx, Option.getD_some]
        refine ⟨fun c hc => ?_, ?_⟩
        · rcases List.mem_cons.1 hc with rfl | hc
          · exact ⟨hO.1, by simp only [unst]; rw [hO.1, sh_idp hp g1]⟩
          · exact h6.1 c hc
        · rw [sumst, h6.2, hs]; simp [unst]
theorem sh_all {p : List Pr} {o : Nat} {a : Int} : (∀ z ∈ p, 0 ≤ z.1 ∧ z.1 < o) → (sh p (idp o)).length = p.length := by
  induction p with
  | nil => intro _; rfl
  | cons z r ih =>
    intro h
    rw [sh_cons, idp_fnd (h z List.mem_cons_self), List.length_append, ih fun y hy => h y (List.mem_cons_of_mem _ hy)]
    simp [Nat.add_comm]
end Go.Proofs.Ytcnnbchaelboeaa.Ck

namespace Go.Proofs.Ytcnnbchaelboeaa.Ck
set_option linter.unusedVariables false
set_option linter.unusedSimpArgs false
open Go.RowKit
open T
open Mt (Pr fnd Rt right)
open N (PrIn PrIn.below)
open V (drawn_below)
open I (alloc1)

def BoEnd (w : World) (b : Bool) (e : Ending) (w' : World) : Prop := e = .returned (.bool b) ∧ Below w.heap.size w w'
def CoEnd (w : World) (l : List Ck) (z : Int) (e : Ending) (w' : World) : Prop := ∃ C cc, e = .returned (.tuple #[.slice C l.length cc, .int .i64 z]) ∧ CkIn w' C l ∧ Below w.heap.size w w'
theorem CoEnd.of {w : World} {l : List Ck} {z : Int} {e : Ending} {w' : World} (h : CkEnd w l z e w') : CoEnd w l z e w' := by
  obtain ⟨C, cc, h1, h2, h3⟩ := h
  exact ⟨C, cc, h1, ck_own h2, h3⟩
def OfC (fn : FuncId) (p q : List Pr) (o a b : Int) (l : List Ck) (z : Int) : Prop := ∀ (w : World) (A B : Option Addr) (c c' : Nat), PrIn w A p → PrIn w B q → Calls Try.prog fn #[.slice A p.length c, .slice B q.length c', .int .i64 o, .int .i64 a, .int .i64 b] w (CoEnd w l z)
theorem OfC.at {fn : FuncId} {p q : List Pr} {o a b : Int} {l : List Ck} {z : Int} (h : OfC fn p q o a b l z) {w : World} {A B : Option Addr} (c c' : Nat) (hA : PrIn w A p) (hB : PrIn w B q) : Calls Try.prog fn #[.slice A p.length c, .slice B q.length c', .int .i64 o, .int .i64 a, .int .i64 b] w (CoEnd w l z) := h w A B c c' hA hB
theorem c_of (p q : List Pr) (o a b : Int) (hp : p.length ≤ 1000) (hq : q.length ≤ 1000) : OfC 10 p q o a b (chunks p q o a b) (err p q o a b) := fun w A B c c' hA hB => (of_any A B c c' p q o a b w hp hq hA hB).mono fun _ _ h => .of h
theorem c_rof (p q : List Pr) (o a b : Int) (hp : p.length ≤ 1000) (hq : q.length ≤ 1000) : OfC 11 p q o a b (chunks p q o a b) (err p q o a b) := fun w A B c c' hA hB => (rof_any A B c c' p q o a b w hp hq hA hB).mono fun _ _ h => .of h
def RgC (fn : FuncId) (l : List Ck) (o a b : Int) (v : Bool) : Prop := ∀ (w : World) (A : Option Addr) (c : Nat), CkIn w A l → Calls Try.prog fn #[.slice A l.length c, .int .i64 o, .int .i64 a, .int .i64 b] w (BoEnd w v)
theorem RgC.at {fn : FuncId} {l : List Ck} {o a b : Int} {v : Bool} (h : RgC fn l o a b v) {w : World} {A : Option Addr} (c : Nat) (hA : CkIn w A l) : Calls Try.prog fn #[.slice A l.length c, .int .i64 o, .int .i64 a, .int .i64 b] w (BoEnd w v) := h w A c hA
theorem c_right (l : List Ck) (o a b : Int) (hl : l.length ≤ maxLen) (ho : W64 o) (ha : W64 a) (hb : W64 b) : RgC 19 l o a b (cright l o a b) := fun w A c hA => cright_any A c l o a b w hA hl ho ha hb
theorem c_rright (l : List Ck) (o a b : Int) (hl : l.length ≤ maxLen) (ho : W64 o) (ha : W64 a) (hb : W64 b) : RgC 20 l o a b (cright l o a b) := fun w A c hA => rcright_any A c l o a b w hA hl ho ha hb
def SmC (fn : FuncId) (l : List Ck) : Prop := ∀ (w : World) (A B : Option Addr) (c c' : Nat), CkIn w A l → CkIn w B l → Calls Try.prog fn #[.slice A l.length c, .slice B l.length c'] w (BoEnd w true)
theorem SmC.at {fn : FuncId} {l : List Ck} (h : SmC fn l) {w : World} {A B : Option Addr} (c c' : Nat) (hA : CkIn w A l) (hB : CkIn w B l) : Calls Try.prog fn #[.slice A l.length c, .slice B l.length c'] w (BoEnd w true) := h w A B c c' hA hB
theorem c_same (l : List Ck) (hl : l.length ≤ 1000000) : SmC 13 l := fun w A B c c' hA hB => rcsame_any A B c c' l w hA hB hl

set_option maxRecDepth 100000 in
set_option maxHeartbeats 1000000 in
theorem few_any (A : Option Addr) (a : List Pr) (c : Nat) (w : World) (ha : a.length ≤ maxLen) (hc : a.length ≤ c) :
    Calls Try.prog 9 #[.slice A a.length c] w fun e w' => e = .returned (.slice A (a.take 40).length c) ∧ w' = w := by
  unfold maxLen at ha
  obtain ⟨n, hn⟩ : ∃ n, n = a.length := ⟨_, rfl⟩
  obtain ⟨m, hm⟩ : ∃ m, m = (a.take 40).length := ⟨_, rfl⟩
  rw [List.length_take, ← hn] at hm
  have hm' : min (n : Int) 40 = (m : Int) := by omega
  have hmn : m ≤ n := by omega
  have HM : Hid ((a.take 40).length = m) := Lib.hid (by rw [List.length_take, ← hn, hm])
  rw [← hn] at ha hc ⊢
  rw [HM.out]
  clear hn hm
  go_enter Try.func9, Try.ntmps9
  go_wp2_with fail
  go_ret
  exact ⟨rfl, rfl⟩
theorem pr_take {w : World} {A : Option Addr} {a : List Pr} (h : PrIn w A a) (k : Nat) : PrIn w A (a.take k) := fun hp => by
  obtain ⟨bk, off, rfl, hlt, hI⟩ := h (by rw [List.length_take] at hp; omega)
  refine ⟨bk, off, rfl, hlt, fun j hj => ?_⟩
  simp only [List.getElem_take]
  exact hI j (by rw [List.length_take] at hj; omega)
theorem pr_block {w : World} {g : Nat} {a b c d : Int} (h : w.heap[g]? = some (.cells #[.int .i64 a, .int .i64 b, .int .i64 c, .int .i64 d] 44 (0, 0))) : PrIn w (some ⟨g, 0, none⟩) [(a, b), (c, d)] := fun _ => by
  refine ⟨g, 0, rfl, L.blk_lt h, fun j hj => ?_⟩
  have hj2 : j < 2 := hj
  match j, hj2 with
  | 0, _ => exact ⟨L.blk_cell h 0, L.blk_cell h 1⟩
  | 1, _ => exact ⟨L.blk_cell h 2, L.blk_cell h 3⟩

def LvC (fn : FuncId) : Prop := ∀ w : World, Calls Try.prog fn #[] w (BoEnd w true)
theorem LvC.at {fn : FuncId} (h : LvC fn) (w : World) : Calls Try.prog fn #[] w (BoEnd w true) := h w
theorem live_chunks : chunks [(0, 0), (1, 2)] [(0, 0), (1, 1)] 2 3 2 = [⟨true, 0, 1, 0, 1, 0, 1⟩, ⟨false, 1, 0, 1, 1, 1, 0⟩, ⟨true, 1, 1, 2, 1, 1, 1⟩] ∧ err [(0, 0), (1, 2)] [(0, 0), (1, 1)] 2 3 2 = 0 := ⟨by rfl, by rfl⟩
theorem live_right : cright [⟨true, 0, 1, 0, 1, 0, 1⟩, ⟨false, 1, 0, 1, 1, 1, 0⟩, ⟨true, 1, 1, 2, 1, 1, 1⟩] 2 3 2 = true := by rfl
set_option maxRecDepth 100000 in
set_option maxHeartbeats 4000000 in
theorem live13 : LvC 12 := fun w => by
  obtain ⟨W1, hW1⟩ : ∃ W : World, W = (w.alloc (.cells #[.int .i64 0, .int .i64 0, .int .i64 1, .int .i64 2] 44)).alloc (.cells #[.int .i64 0, .int .i64 0, .int .i64 1, .int .i64 1] 44) := ⟨_, rfl⟩
  have h0 : W1.heap[w.heap.size]? = some (.cells #[.int .i64 0, .int .i64 0, .int .i64 1, .int .i64 2] 44 (0, 0)) := by rw [hW1]; exact (L.two_blocks w _ _).1
  have h1 : W1.heap[w.heap.size + 1]? = some (.cells #[.int .i64 0, .int .i64 0, .int .i64 1, .int .i64 1] 44 (0, 0)) := by rw [hW1]; exact (L.two_blocks w _ _).2
  have HB1 := Lib.hid (show Below w.heap.size w W1 by rw [hW1]; exact (alloc1 _ _).alloc (by simp) _)
  have HOF := Lib.hid ((c_of [(0, 0), (1, 2)] [(0, 0), (1, 1)] 2 3 2 (by decide) (by decide)).at 2 2 (pr_block h0) (pr_block h1))
  rw [live_chunks.1, live_chunks.2] at HOF
  simp only [List.length_cons, List.length_nil, Nat.zero_add, Nat.reduceAdd] at HOF
  clear h0 h1
  go_enter Try.func12, Try.ntmps12
  go_wp2_with fail
  rw [← hW1]
  clear hW1
  with_reducible refine HOF.out.mono ?_
  rintro e w2 ⟨C, cc, rfl, hC, hb2⟩
  have HB2 := Lib.hid (HB1.out.trans (hb2.mono HB1.out.size))
  have HRG := Lib.hid ((c_right [⟨true, 0, 1, 0, 1, 0, 1⟩, ⟨false, 1, 0, 1, 1, 1, 0⟩, ⟨true, 1, 1, 2, 1, 1, 1⟩] 2 3 2 (by decide) ⟨by decide, by decide⟩ ⟨by decide, by decide⟩ ⟨by decide, by decide⟩).at cc hC)
  rw [live_right] at HRG
  simp only [List.length_cons, List.length_nil, Nat.zero_add, Nat.reduceAdd] at HRG ⊢
  obtain ⟨bk, off, hCe, hbk, hI⟩ := hC (by decide)
  subst hCe
  have g0 := (hI 0 (by decide)).1
  obtain ⟨g1, -, g2, -, g3, -⟩ := hI 1 (by decide)
  have g4 := (hI 2 (by decide)).2.2.2.1
  simp only [List.getElem_cons_zero, List.getElem_cons_succ, Nat.zero_mul, Nat.one_mul, Nat.zero_add, Nat.reduceAdd, Nat.reduceMul, Nat.add_zero] at g0 g1 g2 g3 g4
  clear hI hb2 HOF HB1
  go_wp2_with fail
  with_reducible refine HRG.out.mono ?_
  rintro e w3 ⟨rfl, hb3⟩
  have HB3 := Lib.hid (HB2.out.trans (hb3.mono HB2.out.size))
  go_wp2_with fail
  go_ret
  exact ⟨rfl, HB3.out⟩
end Go.Proofs.Ytcnnbchaelboeaa.Ck

namespace Go.Proofs.Ytcnnbchaelboeaa.RP
open Go.ChangeShapes Go.WideShapes Go.ChangeAt Go.RowKit Go.Deep Go.Joins

theorem cInt : Try.prog.cellsOf 3 = 1 := by kernel_rfl
theorem cStr : Try.prog.cellsOf 9 = 1 := by kernel_rfl
theorem cBool : Try.prog.cellsOf 4 = 1 := by kernel_rfl
section
variable {H : Type} {enc : TypeId × Value → H} {w : World} {base : Nat} {spare : Nat → Bool} {held : Bool} {fuel : Nat} {cs : List Value} {x : DataW H × List MemPlace}
theorem list2 {α : Type} {l : List α} (h : l.length = 2) : ∃ a b, l = [a, b] := by
  match l, h with
  | [a, b], _ => exact ⟨a, b, rfl⟩
theorem list3 {α : Type} {l : List α} (h : l.length = 3) : ∃ a b c, l = [a, b, c] := by
  match l, h with
  | [a, b, c], _ => exact ⟨a, b, c, rfl⟩
theorem list4 {α : Type} {l : List α} (h : l.length = 4) : ∃ a b c d, l = [a, b, c, d] := by
  match l, h with
  | [a, b, c, d], _ => exact ⟨a, b, c, d, rfl⟩
theorem list9 {α : Type} {l : List α} (h : l.length = 9) : ∃ a b c d e f g i j, l = [a, b, c, d, e, f, g, i, j] := by
  match l, h with
  | [a, b, c, d, e, f, g, i, j], _ => exact ⟨a, b, c, d, e, f, g, i, j, rfl⟩
end
end Go.Proofs.Ytcnnbchaelboeaa.RP

namespace Go.Proofs.Ytcnnbchaelboeaa.RI
open Go.ChangeShapes Go.WideShapes Go.ChangeAt Go.RowKit Go.Deep Go.Joins

section
variable {H : Type} {enc : TypeId × Value → H} {w : World} {base : Nat} {spare : Nat → Bool} {held : Bool} {fuel : Nat} {cs : List Value} {x : DataW H × List MemPlace}
theorem list6 {α : Type} {l : List α} (h : l.length = 6) : ∃ a b c d e f, l = [a, b, c, d, e, f] := by
  match l, h with
  | [a, b, c, d, e, f], _ => exact ⟨a, b, c, d, e, f, rfl⟩
instance : Inhabited I.It := ⟨⟨0, 0, 0, false, [], false⟩⟩
end
end Go.Proofs.Ytcnnbchaelboeaa.RI

namespace Go.Proofs.Ytcnnbchaelboeaa.R
open Go.ChangeShapes Go.WideShapes Go.ChangeAt Go.RowKit

set_option maxRecDepth 100000 in
theorem cellsInt : Try.prog.cellsOf 3 = 1 := by kernel_rfl
end Go.Proofs.Ytcnnbchaelboeaa.R

namespace Go.Proofs.Ytcnnbchaelboeaa.Bulk

theorem bound {H : Type} {l : List (DataW H)} (hk : Rows.uptoSmall H l = true) : Rows.uptoBulkAll l ≤ 1048576 := of_decide_eq_true hk
theorem string_bulk {H : Type} (b : List UInt8) : Rows.uptoBulk (DataW.lit (H := H) (.string b)) = b.length + 1 := by simp [Rows.uptoBulk]
/-- One text: so many bytes at the most. -/
theorem string_size {H : Type} {s : ByteArray} {r : List (DataW H)} (hk : Rows.uptoSmall H ([.lit (.string s.data.toList)] ++ r) = true) : s.size ≤ 1048576 := by
  have h := bound hk
  simp only [List.cons_append, List.nil_append, Rows.uptoBulkAll, string_bulk] at h
  have := Lib.size_eq s
  omega
/-- A text behind one or two other arguments. -/
theorem string_size2 {H : Type} {a : DataW H} {s : ByteArray} {r : List (DataW H)} (hk : Rows.uptoSmall H ([a, .lit (.string s.data.toList)] ++ r) = true) : s.size ≤ 1048576 := by
  have h := bound hk
  simp only [List.cons_append, List.nil_append, Rows.uptoBulkAll, string_bulk] at h
  have := Lib.size_eq s
  omega
theorem string_size3 {H : Type} {a b : DataW H} {s : ByteArray} {r : List (DataW H)} (hk : Rows.uptoSmall H ([a, b, .lit (.string s.data.toList)] ++ r) = true) : s.size ≤ 1048576 := by
  have h := bound hk
  simp only [List.cons_append, List.nil_append, Rows.uptoBulkAll, string_bulk] at h
  have := Lib.size_eq s
  omega
/-- One or two arguments, whatever they are. -/
theorem one {H : Type} {a : DataW H} {r : List (DataW H)} (hk : Rows.uptoSmall H ([a] ++ r) = true) : Rows.uptoBulk a ≤ 1048576 := by
  have h := bound hk
  simp only [List.cons_append, List.nil_append, Rows.uptoBulkAll] at h
  omega
theorem two {H : Type} {a b : DataW H} {r : List (DataW H)} (hk : Rows.uptoSmall H ([a, b] ++ r) = true) : Rows.uptoBulk a ≤ 1048576 ∧ Rows.uptoBulk b ≤ 1048576 := by
  have h := bound hk
  simp only [List.cons_append, List.nil_append, Rows.uptoBulkAll] at h
  omega
end Go.Proofs.Ytcnnbchaelboeaa.Bulk
