/-
  Floats as whole numbers: what a word stands for, how words are ordered, halved, added and divided, in plain words.
  Which of two floats comes first, and whether they are alike: the program's and the reference's functions.
-/
import Ieee.Arith
import Derived.Test.YtfndiggpnkjacaaDoorGzb
import Derived.Laws.FloatArith
import Derived.Deep.DeepCutAuto
namespace Go.Proofs.YtfndiggpnkjacaaDoor.Fp
set_option linter.unusedVariables false
set_option linter.unusedSimpArgs false
open Ieee
abbrev D := double

/-- A rung's number, in units of the least place. -/
def U (r : Nat) : Nat := if r < 2 ^ 52 then r else (2 ^ 52 + r % 2 ^ 52) * 2 ^ (r / 2 ^ 52 - 1)

theorem U_step (r : Nat) : U r < U (r + 1) := by
  unfold U
  by_cases h1 : r + 1 < 2 ^ 52
  · rw [if_pos (by omega), if_pos h1]; omega
  · by_cases h2 : r < 2 ^ 52
    · have e : r + 1 = 2 ^ 52 := by omega
      rw [if_pos h2, if_neg h1, e]
      have : (2 : Nat) ^ 52 / 2 ^ 52 - 1 = 0 := by decide
      rw [this]; omega
    · rw [if_neg h2, if_neg h1]
      by_cases h3 : r % 2 ^ 52 + 1 < 2 ^ 52
      · have e1 : (r + 1) / 2 ^ 52 = r / 2 ^ 52 := by omega
        have e2 : (r + 1) % 2 ^ 52 = r % 2 ^ 52 + 1 := by omega
        rw [e1, e2]
        exact Nat.mul_lt_mul_of_pos_right (by omega) (Nat.two_pow_pos _)
      · have e1 : (r + 1) / 2 ^ 52 - 1 = (r / 2 ^ 52 - 1) + 1 := by omega
        have e2 : (r + 1) % 2 ^ 52 = 0 := by omega
        have e3 : (2 : Nat) ^ (r / 2 ^ 52 - 1 + 1) = 2 * 2 ^ (r / 2 ^ 52 - 1) := by generalize r / 2 ^ 52 - 1 = t; rw [Nat.pow_succ]; omega
        rw [e1, e2, e3, ← Nat.mul_assoc]
        exact Nat.mul_lt_mul_of_pos_right (by omega) (Nat.two_pow_pos _)

theorem U_lt {a b : Nat} (h : a < b) : U a < U b := by
  induction b with
  | zero => omega
  | succ n ih =>
    rcases Nat.lt_or_ge a n with h1 | h1
    · exact Nat.lt_trans (ih h1) (U_step n)
    · have : a = n := by omega
      subst this; exact U_step a
theorem U_le {a b : Nat} (h : a ≤ b) : U a ≤ U b := by
  rcases Nat.lt_or_ge a b with h1 | h1
  · exact Nat.le_of_lt (U_lt h1)
  · have : a = b := by omega
    subst this; exact Nat.le_refl _
theorem U_zero : U 0 = 0 := by decide
theorem U_iff {a b : Nat} : U a < U b ↔ a < b := by
  constructor
  · intro h
    rcases Nat.lt_or_ge a b with h1 | h1
    · exact h1
    · have := U_le h1; omega
  · exact U_lt
theorem U_inj {a b : Nat} (h : U a = U b) : a = b := by
  rcases Nat.lt_trichotomy a b with h1 | h1 | h1
  · have := U_lt h1; omega
  · exact h1
  · have := U_lt h1; omega

/-- To the nearest, ties to even. -/
def rne (n d : Nat) : Nat := n / 2 ^ d + (if 2 ^ d < 2 * (n % 2 ^ d) ∨ 2 ^ d = 2 * (n % 2 ^ d) ∧ n / 2 ^ d % 2 = 1 then 1 else 0)

theorem cut_even (neg : Bool) (n d : Nat) : Toward.even.cut neg n d = rne n d := by
  unfold Toward.cut rne
  simp only [Nat.shiftLeft_eq, Nat.one_mul]
  rcases Nat.lt_or_ge (n.log2 + 2) d with h | h
  · rw [Nat.min_eq_right (by omega)]
    have h1 : n < 2 ^ (n.log2 + 1) := Nat.lt_log2_self
    have h2 : (2 : Nat) ^ (n.log2 + 2) = 2 * 2 ^ (n.log2 + 1) := by rw [Nat.pow_succ]; omega
    have h3 : 2 ^ (n.log2 + 2) ≤ 2 ^ d := Nat.pow_le_pow_right (by decide) (by omega)
    have a1 : n / 2 ^ (n.log2 + 2) = 0 := Nat.div_eq_of_lt (by omega)
    have a2 : n % 2 ^ (n.log2 + 2) = n := Nat.mod_eq_of_lt (by omega)
    have a3 : n / 2 ^ d = 0 := Nat.div_eq_of_lt (by omega)
    have a4 : n % 2 ^ d = n := Nat.mod_eq_of_lt (by omega)
    rw [a1, a2, a3, a4]
    have c1 : ¬ 2 ^ (n.log2 + 2) < 2 * n := by omega
    have c2 : ¬ 2 ^ d < 2 * n := by omega
    simp [c1, c2]
  · rw [Nat.min_eq_left h]
    congr 1
    by_cases c1 : 2 ^ d < 2 * (n % 2 ^ d)
    · simp [c1]
    · by_cases c2 : 2 ^ d = 2 * (n % 2 ^ d)
      · by_cases c3 : n / 2 ^ d % 2 = 1
        · simp [c3, ← c2]
        · simp [c3, ← c2]
      · simp [c1, c2]

theorem rne_scale (n d k : Nat) : rne (n * 2 ^ k) (d + k) = rne n d := by
  unfold rne
  have e0 : (2 : Nat) ^ (d + k) = 2 ^ d * 2 ^ k := Nat.pow_add 2 d k
  have pk := Nat.two_pow_pos k
  have e1 : n * 2 ^ k / 2 ^ (d + k) = n / 2 ^ d := by rw [e0]; exact Nat.mul_div_mul_right _ _ pk
  have e2 : n * 2 ^ k % 2 ^ (d + k) = n % 2 ^ d * 2 ^ k := by rw [e0]; exact Nat.mul_mod_mul_right _ _ _
  rw [e1, e2, e0]
  have e3 : 2 * (n % 2 ^ d * 2 ^ k) = 2 * (n % 2 ^ d) * 2 ^ k := by rw [Nat.mul_assoc]
  rw [e3]
  have i1 : (2 ^ d * 2 ^ k < 2 * (n % 2 ^ d) * 2 ^ k) ↔ 2 ^ d < 2 * (n % 2 ^ d) := Nat.mul_lt_mul_right pk
  have i2 : (2 ^ d * 2 ^ k = 2 * (n % 2 ^ d) * 2 ^ k) ↔ 2 ^ d = 2 * (n % 2 ^ d) := Nat.mul_left_inj (by omega)
  simp only [i1, i2]

theorem rne_zero (n : Nat) : rne n 0 = n := by simp [rne, Nat.mod_one]
theorem rne_exact (n d : Nat) : rne (n * 2 ^ d) d = n := by
  have := rne_scale n 0 d
  rw [Nat.zero_add, rne_zero] at this
  exact this
theorem rne_mono {m n : Nat} (d : Nat) (h : m ≤ n) : rne m d ≤ rne n d := by
  unfold rne
  have h1 : m / 2 ^ d ≤ n / 2 ^ d := Nat.div_le_div_right h
  have dm := Nat.div_add_mod m (2 ^ d)
  have dn := Nat.div_add_mod n (2 ^ d)
  rcases Nat.lt_or_ge (m / 2 ^ d) (n / 2 ^ d) with h2 | h2
  · split <;> omega
  · have e : m / 2 ^ d = n / 2 ^ d := by omega
    rw [e] at dm ⊢
    have h3 : m % 2 ^ d ≤ n % 2 ^ d := by omega
    split
    · rename_i c
      have : 2 ^ d < 2 * (n % 2 ^ d) ∨ 2 ^ d = 2 * (n % 2 ^ d) ∧ n / 2 ^ d % 2 = 1 := by omega
      rw [if_pos this]; omega
    · omega
theorem rne_le {n d k : Nat} (h : n ≤ k * 2 ^ d) : rne n d ≤ k := by
  have := rne_mono d h
  rwa [rne_exact] at this
theorem rne_ge {n d k : Nat} (h : k * 2 ^ d ≤ n) : k ≤ rne n d := by
  have := rne_mono d h
  rwa [rne_exact] at this

/-- The rung of 'N / 2 ^ d' units. -/
def RV (N d : Nat) : Nat := if N = 0 then 0 else (N.log2 - d - 52) * 2 ^ 52 + rne N (d + (N.log2 - d - 52))

theorem log2_scale {N : Nat} (h : N ≠ 0) (k : Nat) : (N * 2 ^ k).log2 = N.log2 + k := by
  have h1 : N < 2 ^ (N.log2 + 1) := Nat.lt_log2_self
  have h2 : 2 ^ N.log2 ≤ N := Nat.log2_self_le h
  have pk := Nat.two_pow_pos k
  refine (Nat.log2_eq_iff (by have := Nat.mul_pos (Nat.pos_of_ne_zero h) pk; omega)).2 ⟨?_, ?_⟩
  · rw [Nat.pow_add]; exact Nat.mul_le_mul_right _ h2
  · rw [show N.log2 + k + 1 = (N.log2 + 1) + k by omega, Nat.pow_add]; exact Nat.mul_lt_mul_of_pos_right h1 pk

theorem RV_scale (N d k : Nat) : RV (N * 2 ^ k) (d + k) = RV N d := by
  unfold RV
  by_cases h : N = 0
  · simp [h]
  · have : N * 2 ^ k ≠ 0 := by have := Nat.mul_pos (Nat.pos_of_ne_zero h) (Nat.two_pow_pos k); omega
    rw [if_neg h, if_neg this, log2_scale h]
    have e : N.log2 + k - (d + k) - 52 = N.log2 - d - 52 := by omega
    rw [e, show d + k + (N.log2 - d - 52) = d + (N.log2 - d - 52) + k by omega, rne_scale]

theorem RV_mono' {M N d : Nat} (h : M ≤ N) : RV M d ≤ RV N d := by
  unfold RV
  by_cases hM : M = 0
  · simp [hM]
  · have hN : N ≠ 0 := by omega
    rw [if_neg hM, if_neg hN]
    have hl : M.log2 ≤ N.log2 := by
      rcases Nat.lt_or_ge N.log2 M.log2 with h' | h'
      · have h1 : N < 2 ^ (N.log2 + 1) := Nat.lt_log2_self
        have h2 : 2 ^ M.log2 ≤ M := Nat.log2_self_le hM
        have h3 : 2 ^ (N.log2 + 1) ≤ 2 ^ M.log2 := Nat.pow_le_pow_right (by decide) (by omega)
        omega
      · exact h'
    rcases Nat.lt_or_ge (M.log2 - d - 52) (N.log2 - d - 52) with h1 | h1
    · -- a greater binade
      have b1 : rne M (d + (M.log2 - d - 52)) ≤ 2 ^ 53 := by
        refine rne_le ?_
        have h2 : M < 2 ^ (M.log2 + 1) := Nat.lt_log2_self
        have h3 : (2 : Nat) ^ (M.log2 + 1) ≤ 2 ^ 53 * 2 ^ (d + (M.log2 - d - 52)) := by
          rw [← Nat.pow_add]; exact Nat.pow_le_pow_right (by decide) (by omega)
        omega
      have b2 : 2 ^ 52 ≤ rne N (d + (N.log2 - d - 52)) := by
        refine rne_ge ?_
        have h2 : 2 ^ N.log2 ≤ N := Nat.log2_self_le hN
        have h3 : 2 ^ 52 * (2 : Nat) ^ (d + (N.log2 - d - 52)) ≤ 2 ^ N.log2 := by
          rw [← Nat.pow_add]; exact Nat.pow_le_pow_right (by decide) (by omega)
        omega
      omega
    · have e : M.log2 - d - 52 = N.log2 - d - 52 := by omega
      rw [e]
      have := rne_mono (d + (N.log2 - d - 52)) h
      omega

/-- A greater number has not a lesser rung. -/
theorem RV_mono {M N d e : Nat} (h : M * 2 ^ e ≤ N * 2 ^ d) : RV M d ≤ RV N e := by
  rw [← RV_scale M d e, ← RV_scale N e d, Nat.add_comm e d]
  exact RV_mono' h

/-- What a rung stands for is on that rung. -/
theorem RV_U (r : Nat) : RV (U r) 0 = r := by
  unfold RV U
  by_cases h : r < 2 ^ 52
  · rw [if_pos h]
    by_cases h0 : r = 0
    · simp [h0]
    · have : r.log2 < 52 := (Nat.log2_lt h0).2 h
      rw [if_neg h0, show r.log2 - 0 - 52 = 0 by omega, rne_zero]; omega
  · rw [if_neg h]
    have p := Nat.two_pow_pos (r / 2 ^ 52 - 1)
    have hm : 2 ^ 52 + r % 2 ^ 52 ≠ 0 := by omega
    have h0 : (2 ^ 52 + r % 2 ^ 52) * 2 ^ (r / 2 ^ 52 - 1) ≠ 0 := by
      have := Nat.mul_pos (Nat.pos_of_ne_zero hm) p; omega
    rw [if_neg h0, log2_scale hm]
    have l : (2 ^ 52 + r % 2 ^ 52).log2 = 52 := (Nat.log2_eq_iff hm).2 ⟨by omega, by omega⟩
    rw [l, show 52 + (r / 2 ^ 52 - 1) - 0 - 52 = r / 2 ^ 52 - 1 by omega, Nat.zero_add, rne_exact]
    omega
theorem RV_Ud (r d : Nat) : RV (U r * 2 ^ d) d = r := by
  have := RV_scale (U r) 0 d
  rw [Nat.zero_add, RV_U] at this; exact this

/-- A whole number of at most 53 digits has a rung of its own. -/
theorem U_RV {m k : Nat} (h : m < 2 ^ 53) : U (RV (m * 2 ^ k) 0) = m * 2 ^ k := by
  by_cases h0 : m = 0
  · simp [h0, RV, U_zero]
  · have hn : m * 2 ^ k ≠ 0 := by have := Nat.mul_pos (Nat.pos_of_ne_zero h0) (Nat.two_pow_pos k); omega
    have hl : m.log2 < 53 := (Nat.log2_lt h0).2 h
    have g1 : m < 2 ^ (m.log2 + 1) := Nat.lt_log2_self
    have g2 : 2 ^ m.log2 ≤ m := Nat.log2_self_le h0
    unfold RV
    rw [if_neg hn, log2_scale h0]
    rcases Nat.lt_or_ge (m.log2 + k) 53 with h1 | h1
    · rw [show m.log2 + k - 0 - 52 = 0 by omega, rne_zero]
      have h2 : m * 2 ^ k < 2 ^ 53 := by
        have a : m * 2 ^ k < 2 ^ (m.log2 + 1) * 2 ^ k := Nat.mul_lt_mul_of_pos_right g1 (Nat.two_pow_pos k)
        have b : (2 : Nat) ^ (m.log2 + 1) * 2 ^ k ≤ 2 ^ 53 := by rw [← Nat.pow_add]; exact Nat.pow_le_pow_right (by decide) (by omega)
        omega
      have e0 : 0 * 2 ^ 52 + m * 2 ^ k = m * 2 ^ k := by omega
      rw [e0]
      generalize m * 2 ^ k = N at h2
      unfold U
      by_cases hs : N < 2 ^ 52
      · rw [if_pos hs]
      · have : N / 2 ^ 52 - 1 = 0 := by omega
        rw [if_neg hs, this, Nat.pow_zero, Nat.mul_one]; omega
    · -- the last place kept lies at most at k
      have hq : m.log2 + k - 0 - 52 = k - (52 - m.log2) := by omega
      have hk : 52 - m.log2 ≤ k := by omega
      have e : m * 2 ^ k = (m * 2 ^ (52 - m.log2)) * 2 ^ (k - (52 - m.log2)) := by
        rw [Nat.mul_assoc, ← Nat.pow_add]; congr 2; omega
      rw [hq, Nat.zero_add]
      rw [e, rne_exact]
      have n1 : 2 ^ 52 ≤ m * 2 ^ (52 - m.log2) := by
        have : (2 : Nat) ^ m.log2 * 2 ^ (52 - m.log2) ≤ m * 2 ^ (52 - m.log2) := Nat.mul_le_mul_right _ g2
        rw [← Nat.pow_add, show m.log2 + (52 - m.log2) = 52 by omega] at this; exact this
      have n2 : m * 2 ^ (52 - m.log2) < 2 ^ 53 := by
        have : m * 2 ^ (52 - m.log2) < (2 : Nat) ^ (m.log2 + 1) * 2 ^ (52 - m.log2) := Nat.mul_lt_mul_of_pos_right g1 (Nat.two_pow_pos _)
        rw [← Nat.pow_add, show m.log2 + 1 + (52 - m.log2) = 53 by omega] at this; exact this
      generalize m * 2 ^ (52 - m.log2) = q at n1 n2 ⊢
      generalize k - (52 - m.log2) = t
      unfold U
      rw [if_neg (by omega)]
      have e1 : (t * 2 ^ 52 + q) / 2 ^ 52 - 1 = t := by omega
      have e2 : 2 ^ 52 + (t * 2 ^ 52 + q) % 2 ^ 52 = q := by omega
      rw [e1, e2]

theorem lp_D : D.leastPlace = -1074 := by
  unfold Format.leastPlace
  rfl
/-- The nearest word is on the rung of the number. -/
theorem nearest_eq (neg : Bool) (mag u d : Nat) (p : Int) (hp : p = (u : Int) - d - 1074) : D.nearest neg mag p = D.word neg (min (RV (mag * 2 ^ u) d) D.infRung) := by
  unfold Format.nearest RV
  by_cases h : mag = 0
  · simp [h]
  · have hn : mag * 2 ^ u ≠ 0 := by have := Nat.mul_pos (Nat.pos_of_ne_zero h) (Nat.two_pow_pos u); omega
    rw [if_neg h, if_neg hn, log2_scale h]
    have lp : D.leastPlace = -1074 := lp_D
    have fb : D.fractionBits = 52 := rfl
    have bi : D.binade = 2 ^ 52 := rfl
    simp only [lp, fb, bi, cut_even, Nat.shiftLeft_eq]
    generalize hL : mag.log2 + u - d - 52 = L
    have e : max (p + (mag.log2 : Int) - ((52 : Nat) : Int)) (-1074) = (L : Int) - 1074 := by omega
    rw [e]
    have e1 : ((L : Int) - 1074 - -1074).toNat = L := by omega
    rw [e1]
    congr 3
    have e2 : (p - ((L : Int) - 1074)).toNat = u - (d + L) := by omega
    have e3 : ((L : Int) - 1074 - p).toNat = d + L - u := by omega
    rw [e2, e3]
    rcases Nat.lt_or_ge (d + L) u with h1 | h1
    · rw [show d + L - u = 0 by omega, rne_zero]
      have : mag * 2 ^ u = (mag * 2 ^ (u - (d + L))) * 2 ^ (d + L) := by
        rw [Nat.mul_assoc, ← Nat.pow_add]; congr 2; omega
      rw [this, rne_exact]
    · rw [show u - (d + L) = 0 by omega, Nat.pow_zero, Nat.mul_one]
      have : d + L = (d + L - u) + u := by omega
      rw [this, rne_scale]
      congr 1; omega
def rg (b : Nat) : Nat := b % 2 ^ 63
def ng (b : Nat) : Bool := b / 2 ^ 63 % 2 == 1
def INF : Nat := 2047 * 2 ^ 52
def isN (b : Nat) : Bool := decide (INF < rg b)
def sg (s : Bool) (n : Nat) : Int := if s then -(n : Int) else n
def vl (b : Nat) : Int := sg (ng b) (rg b)
def wd (s : Bool) (r : Nat) : Nat := if s then 2 ^ 63 + r else r

theorem rg_lt (b : Nat) : rg b < 2 ^ 63 := Nat.mod_lt _ (by decide)
theorem rg_wd {s : Bool} {r : Nat} (h : r < 2 ^ 63) : rg (wd s r) = r := by
  unfold rg wd; cases s <;> simp <;> omega
theorem ng_wd {s : Bool} {r : Nat} (h : r < 2 ^ 63) : ng (wd s r) = s := by
  unfold ng wd
  cases s
  · have : r / 2 ^ 63 = 0 := Nat.div_eq_of_lt h
    simp [this]
  · have : (2 ^ 63 + r) / 2 ^ 63 = 1 := by omega
    simp only [if_true, this]; decide
theorem wd_eta {b : Nat} (h : b < 2 ^ 64) : wd (ng b) (rg b) = b := by
  unfold wd ng rg
  by_cases e : b / 2 ^ 63 % 2 = 1
  · simp only [e, beq_self_eq_true, if_true]; omega
  · have : (b / 2 ^ 63 % 2 == 1) = false := by simpa using e
    simp only [this]; simp only [Bool.false_eq_true, if_false]; omega
theorem wd_lt {s : Bool} {r : Nat} (h : r < 2 ^ 63) : wd s r < 2 ^ 64 := by
  unfold wd; cases s <;> simp <;> omega
theorem D_word (s : Bool) (r : Nat) : D.word s r = wd s r := by
  unfold Format.word wd
  have : D.signWeight = 2 ^ 63 := rfl
  rw [this]
theorem D_inf : D.infRung = INF := rfl

/-- What a word stands for. -/
theorem read_fin {b : Nat} (h : rg b < INF) : ∃ m u : Nat, D.read b = .number (ng b) m ((u : Int) - 1074) ∧ m * 2 ^ u = U (rg b) ∧ m < 2 ^ 53 := by
  unfold Format.read
  have e1 : D.signWeight = 2 ^ 63 := rfl
  have e2 : D.binade = 2 ^ 52 := rfl
  have e3 : D.leastPlace = -1074 := lp_D
  simp only [e1, e2, e3, D_inf]
  change ∃ m u : Nat, (if rg b < 2 ^ 52 then Datum.number (ng b) (rg b) (-1074) else if rg b < INF then Datum.number (ng b) (2 ^ 52 + rg b % 2 ^ 52) (-1074 + ((rg b / 2 ^ 52 - 1 : Nat) : Int)) else _) = _ ∧ _
  unfold U
  by_cases h1 : rg b < 2 ^ 52
  · rw [if_pos h1, if_pos h1]
    exact ⟨rg b, 0, rfl, by rw [Nat.pow_zero, Nat.mul_one], by omega⟩
  · rw [if_neg h1, if_pos h, if_neg h1]
    exact ⟨2 ^ 52 + rg b % 2 ^ 52, rg b / 2 ^ 52 - 1, by rw [Int.add_comm]; rfl, rfl, by omega⟩
theorem read_inf {b : Nat} (h : rg b = INF) : D.read b = .infinity (ng b) := by
  unfold Format.read
  have e1 : D.signWeight = 2 ^ 63 := rfl
  have e2 : D.binade = 2 ^ 52 := rfl
  simp only [e1, e2, D_inf]
  change (if rg b < 2 ^ 52 then _ else if rg b < INF then _ else if rg b = INF then Datum.infinity (ng b) else _) = _
  have h1 : ¬ rg b < 2 ^ 52 := by rw [h]; unfold INF; omega
  rw [if_neg h1, if_neg (by omega), if_pos h]
theorem read_nan {b : Nat} (h : INF < rg b) : ∃ f, D.read b = .nan (ng b) f := by
  unfold Format.read
  have e1 : D.signWeight = 2 ^ 63 := rfl
  have e2 : D.binade = 2 ^ 52 := rfl
  simp only [e1, e2, D_inf]
  change ∃ f, (if rg b < 2 ^ 52 then _ else if rg b < INF then _ else if rg b = INF then _ else Datum.nan (ng b) (rg b - INF)) = _
  have h1 : ¬ rg b < 2 ^ 52 := by unfold INF at h; omega
  rw [if_neg h1, if_neg (by omega), if_neg (by omega)]
  exact ⟨_, rfl⟩

theorem cmp_congr {a b c d : Int} (h1 : a < b ↔ c < d) (h2 : a = b ↔ c = d) : compare a b = compare c d := by
  simp only [compare, compareOfLessAndEq, h1, h2]

theorem signed_eq (s : Bool) (m k : Nat) : signed s m k = sg s (m * 2 ^ k) := by
  unfold signed sg; rw [Nat.shiftLeft_eq]
theorem sg_mul (s : Bool) (n k : Nat) : sg s (n * k) = sg s n * (k : Int) := by
  unfold sg; cases s <;> simp [Int.neg_mul]
theorem sg_lt {s t : Bool} {x y : Nat} : sg s (U x) < sg t (U y) ↔ sg s x < sg t y := by
  have h1 : U x < U y ↔ x < y := U_iff
  have h2 : U y < U x ↔ y < x := U_iff
  have h3 : 0 < U x ↔ 0 < x := by have := @U_iff 0 x; rwa [U_zero] at this
  have h4 : 0 < U y ↔ 0 < y := by have := @U_iff 0 y; rwa [U_zero] at this
  unfold sg
  cases s <;> cases t <;> simp only [Bool.false_eq_true, if_false, if_true] <;> omega
theorem sg_eq {s t : Bool} {x y : Nat} : sg s (U x) = sg t (U y) ↔ sg s x = sg t y := by
  have h1 : U x < U y ↔ x < y := U_iff
  have h2 : U y < U x ↔ y < x := U_iff
  have h3 : 0 < U x ↔ 0 < x := by have := @U_iff 0 x; rwa [U_zero] at this
  have h4 : 0 < U y ↔ 0 < y := by have := @U_iff 0 y; rwa [U_zero] at this
  unfold sg
  cases s <;> cases t <;> simp only [Bool.false_eq_true, if_false, if_true] <;> omega

/-- How two words that are numbers stand to each other. -/
theorem order_num {a b : Nat} (ha : isN a = false) (hb : isN b = false) : D.order a b = some (compare (vl a) (vl b)) := by
  have ha' : rg a ≤ INF := by simpa [isN] using ha
  have hb' : rg b ≤ INF := by simpa [isN] using hb
  unfold Format.order
  have pI : 0 < INF := by decide
  rcases Nat.lt_or_ge (rg a) INF with fa | fa
  · obtain ⟨m, i, ea, ua, -⟩ := read_fin fa
    rcases Nat.lt_or_ge (rg b) INF with fb | fb
    · obtain ⟨n, j, eb, ub, -⟩ := read_fin fb
      rw [ea, eb]
      simp only [Datum.order, signed_eq]
      congr 1
      generalize hba : min ((i : Int) - 1074) ((j : Int) - 1074) = base
      obtain ⟨z, hz⟩ : ∃ z : Nat, base = (z : Int) - 1074 := ⟨min i j, by omega⟩
      have zi : z ≤ i := by omega
      have zj : z ≤ j := by omega
      have e1 : ((i : Int) - 1074 - base).toNat = i - z := by omega
      have e2 : ((j : Int) - 1074 - base).toNat = j - z := by omega
      rw [e1, e2]
      have u1 : sg (ng a) (U (rg a)) = sg (ng a) (m * 2 ^ (i - z)) * ((2 ^ z : Nat) : Int) := by
        rw [← sg_mul, Nat.mul_assoc, ← Nat.pow_add, show i - z + z = i by omega, ua]
      have u2 : sg (ng b) (U (rg b)) = sg (ng b) (n * 2 ^ (j - z)) * ((2 ^ z : Nat) : Int) := by
        rw [← sg_mul, Nat.mul_assoc, ← Nat.pow_add, show j - z + z = j by omega, ub]
      have pz : (0 : Int) < ((2 ^ z : Nat) : Int) := by have := Nat.two_pow_pos z; omega
      refine cmp_congr ?_ ?_
      · unfold vl
        refine Iff.trans ?_ (sg_lt (x := rg a) (y := rg b))
        rw [u1, u2]
        constructor
        · intro h; exact Int.mul_lt_mul_of_pos_right h pz
        · intro h; exact Int.lt_of_mul_lt_mul_right h (by omega)
      · unfold vl
        refine Iff.trans ?_ (sg_eq (x := rg a) (y := rg b))
        rw [u1, u2]
        constructor
        · intro h; rw [h]
        · intro h; exact Int.eq_of_mul_eq_mul_right (by omega) h
    · have hbe : rg b = INF := by omega
      rw [ea, read_inf hbe]
      simp only [Datum.order]
      congr 1
      unfold vl
      rw [hbe]
      unfold sg
      cases ng b
      · have : (if ng a = true then -(rg a : Int) else (rg a : Int)) < (INF : Int) := by cases ng a <;> simp <;> omega
        simp only [Bool.false_eq_true, if_false]
        exact (Int.compare_eq_lt.2 this).symm
      · have : (-(INF : Int)) < (if ng a = true then -(rg a : Int) else (rg a : Int)) := by cases ng a <;> simp <;> omega
        simp only [if_true]
        exact (Int.compare_eq_gt.2 this).symm
  · have hae : rg a = INF := by omega
    rw [read_inf hae]
    rcases Nat.lt_or_ge (rg b) INF with fb | fb
    · obtain ⟨n, j, eb, ub, -⟩ := read_fin fb
      rw [eb]
      simp only [Datum.order]
      congr 1
      unfold vl
      rw [hae]
      unfold sg
      cases ng a
      · have : (if ng b = true then -(rg b : Int) else (rg b : Int)) < (INF : Int) := by cases ng b <;> simp <;> omega
        simp only [Bool.false_eq_true, if_false]
        exact (Int.compare_eq_gt.2 this).symm
      · have : (-(INF : Int)) < (if ng b = true then -(rg b : Int) else (rg b : Int)) := by cases ng b <;> simp <;> omega
        simp only [if_true]
        exact (Int.compare_eq_lt.2 this).symm
    · have hbe : rg b = INF := by omega
      rw [read_inf hbe]
      simp only [Datum.order]
      unfold vl
      rw [hae, hbe]
      cases ng a <;> cases ng b <;> decide
theorem order_nan {a b : Nat} (h : isN a = true ∨ isN b = true) : D.order a b = none := by
  unfold Format.order
  rcases h with h | h
  · obtain ⟨f, e⟩ := read_nan (show INF < rg a by simpa [isN] using h)
    rw [e]; simp [Datum.order]
  · obtain ⟨f, e⟩ := read_nan (show INF < rg b by simpa [isN] using h)
    rw [e]; cases D.read a <;> simp [Datum.order]

theorem lt_eq (a b : Nat) : (D.order a b == some .lt) = (!isN a && !isN b && decide (vl a < vl b)) := by
  cases ha : isN a
  · cases hb : isN b
    · rw [order_num ha hb]
      by_cases h : vl a < vl b
      · rw [Int.compare_eq_lt.2 h]; simp [h]
      · have : compare (vl a) (vl b) ≠ .lt := fun e => h (Int.compare_eq_lt.1 e)
        simp [h, this]
    · rw [order_nan (.inr hb)]; simp
  · rw [order_nan (.inl ha)]; simp
theorem gt_eq (a b : Nat) : (D.order a b == some .gt) = (!isN a && !isN b && decide (vl b < vl a)) := by
  cases ha : isN a
  · cases hb : isN b
    · rw [order_num ha hb]
      by_cases h : vl b < vl a
      · rw [Int.compare_eq_gt.2 h]; simp [h]
      · have : compare (vl a) (vl b) ≠ .gt := fun e => h (Int.compare_eq_gt.1 e)
        simp [h, this]
    · rw [order_nan (.inr hb)]; simp
  · rw [order_nan (.inl ha)]; simp
theorem eq_eq (a b : Nat) : (D.order a b == some .eq) = (!isN a && !isN b && decide (vl a = vl b)) := by
  cases ha : isN a
  · cases hb : isN b
    · rw [order_num ha hb]
      by_cases h : vl a = vl b
      · rw [Int.compare_eq_eq.2 h]; simp [h]
      · have : compare (vl a) (vl b) ≠ .eq := fun e => h (Int.compare_eq_eq.1 e)
        simp [h, this]
    · rw [order_nan (.inr hb)]; simp
  · rw [order_nan (.inl ha)]; simp

/-- A word's place among all. -/
def ky (b : Nat) : Int := if isN b then 2 ^ 63 else if ng b then -(rg b : Int) - 1 else rg b
def cmp (a b : Int) : Int := if a < b then -1 else if b < a then 1 else 0
/-- Are words alike? -/
def same (a b : Nat) : Bool := decide (ky a = ky b)
theorem ky_nan {a : Nat} (h : isN a = true) : ky a = 2 ^ 63 := by simp [ky, h]
theorem ky_num {a : Nat} (h : isN a = false) : ky a < 2 ^ 63 := by
  have : rg a ≤ INF := by simpa [isN] using h
  unfold INF at this
  simp only [ky, h, Bool.false_eq_true, if_false]
  split <;> omega
theorem ky_inj {a b : Nat} (ha : a < 2 ^ 64) (hb : b < 2 ^ 64) (na : isN a = false) (h : ky a = ky b) : a = b := by
  have nb : isN b = false := by
    cases e : isN b
    · rfl
    · have := ky_nan e; have := ky_num na; omega
  rw [← wd_eta ha, ← wd_eta hb]
  simp only [ky, na, nb, Bool.false_eq_true, if_false] at h
  unfold wd
  generalize rg a = x at h ⊢
  generalize rg b = y at h ⊢
  generalize ng a = s at h ⊢
  generalize ng b = t at h ⊢
  cases s <;> cases t <;> simp only [↓reduceIte, Bool.false_eq_true] at h ⊢ <;> omega
theorem vl_num {a b : Nat} : vl a < vl b → isN a = false → isN b = false → ky a < ky b := by
  intro h na nb
  simp only [ky, na, nb, Bool.false_eq_true, if_false]
  unfold vl sg at h
  generalize rg a = x at h ⊢
  generalize rg b = y at h ⊢
  generalize ng a = s at h ⊢
  generalize ng b = t at h ⊢
  cases s <;> cases t <;> simp only [↓reduceIte, Bool.false_eq_true] at h ⊢ <;> omega
/-- The rung of half a rung's number. -/
def hN (r : Nat) : Nat := if INF ≤ r then r else RV (U r) 1
def hf (x : Nat) : Nat := wd (ng x) (hN (rg x))
def TWO : Nat := 4611686018427387904
def ONE : Nat := 4607182418800017408

theorem hN_le (r : Nat) : hN r ≤ r := by
  unfold hN
  split
  · exact Nat.le_refl _
  · have : RV (U r) 1 ≤ RV (U r) 0 := RV_mono (by omega)
    rwa [RV_U] at this
theorem hN_big {r : Nat} (h : 2 ^ 53 ≤ r) (hi : r < INF) : hN r = r - 2 ^ 52 := by
  unfold hN
  rw [if_neg (by omega)]
  have e : U r = U (r - 2 ^ 52) * 2 ^ 1 := by
    unfold U
    rw [if_neg (by omega), if_neg (by omega)]
    have e1 : (r - 2 ^ 52) % 2 ^ 52 = r % 2 ^ 52 := by omega
    have e2 : r / 2 ^ 52 - 1 = ((r - 2 ^ 52) / 2 ^ 52 - 1) + 1 := by omega
    rw [e1, e2, Nat.mul_assoc, ← Nat.pow_add]
  rw [e, RV_Ud]
theorem U_small {r : Nat} (h : r < 2 ^ 53) : U r = r := by
  unfold U
  by_cases h1 : r < 2 ^ 52
  · rw [if_pos h1]
  · have : r / 2 ^ 52 - 1 = 0 := by omega
    rw [if_neg h1, this, Nat.pow_zero, Nat.mul_one]; omega
theorem hN_small {r : Nat} (h : r < 2 ^ 53) : hN r ≤ (r + 1) / 2 := by
  unfold hN
  rw [if_neg (by unfold INF; omega), U_small h]
  have h1 : RV r 1 ≤ RV (U ((r + 1) / 2) * 2 ^ 1) 1 := by
    refine RV_mono' ?_
    rw [U_small (by omega)]; omega
  rwa [RV_Ud] at h1
theorem hN_one {r : Nat} (h : r ≤ 1) : hN r = 0 := by
  have : r = 0 ∨ r = 1 := by omega
  rcases this with rfl | rfl <;> decide
def hI : Nat → Nat → Nat
  | 0, r => r
  | n + 1, r => hI n (hN r)
theorem hI_zero (n : Nat) : hI n 0 = 0 := by
  induction n with
  | zero => rfl
  | succ n ih => show hI n (hN 0) = 0; rw [hN_one (by omega)]; exact ih
theorem hI_add (m n r : Nat) : hI (m + n) r = hI n (hI m r) := by
  induction m generalizing r with
  | zero => rw [Nat.zero_add]; rfl
  | succ m ih => rw [Nat.succ_add]; exact ih (hN r)
theorem hI_le (n r : Nat) : hI n r ≤ r := by
  induction n generalizing r with
  | zero => exact Nat.le_refl _
  | succ n ih => exact Nat.le_trans (ih _) (hN_le r)
theorem hI_fix {r : Nat} (h : hN r = r) (n : Nat) : hI n r = r := by
  induction n with
  | zero => rfl
  | succ n ih => show hI n (hN r) = r; rw [h]; exact ih
theorem hI_pow (j : Nat) (hj : j ≤ 53) : ∀ r, r ≤ 2 ^ j → r < 2 ^ 53 → hI (j + 1) r = 0 := by
  induction j with
  | zero => intro r h _; exact (hN_one (by simpa using h))
  | succ j ih =>
    intro r h hl
    have h1 := hN_small hl
    have e : (2 : Nat) ^ (j + 1) = 2 * 2 ^ j := by rw [Nat.pow_succ]; omega
    have p := Nat.two_pow_pos j
    exact ih (by omega) (hN r) (by omega) (by omega)
theorem hI_all (k : Nat) : ∀ r, r < 2 ^ 53 + k * 2 ^ 52 → r < INF → hI (k + 54) r = 0 := by
  induction k with
  | zero => intro r h _; rw [Nat.zero_add]; exact hI_pow 53 (by omega) r (by omega) (by omega)
  | succ k ih =>
    intro r h hl
    rw [show k + 1 + 54 = (k + 54) + 1 by omega]
    show hI (k + 54) (hN r) = 0
    rcases Nat.lt_or_ge r (2 ^ 53) with h1 | h1
    · have := hN_le r
      exact ih _ (by omega) (by omega)
    · rw [hN_big h1 hl]
      exact ih _ (by omega) (by omega)
theorem hI_end {r : Nat} (h : r < INF) {n : Nat} (hn : 2099 ≤ n) : hI n r = 0 := by
  rw [show n = (2045 + 54) + (n - 2099) by omega, hI_add, hI_all 2045 r (by unfold INF at h; omega) h, hI_zero]
theorem hI_inf {r : Nat} (h : INF ≤ r) (n : Nat) : hI n r = r := hI_fix (by unfold hN; rw [if_pos h]) n
/-- Halved so often, nothing changes any more. -/
theorem hI_stop (r : Nat) {m n : Nat} (hm : 2099 ≤ m) (hn : 2099 ≤ n) : hI m r = hI n r := by
  rcases Nat.lt_or_ge r INF with h | h
  · rw [hI_end h hm, hI_end h hn]
  · rw [hI_inf h, hI_inf h]

/-- A word, halved n times. -/
def hv (n x : Nat) : Nat := wd (ng x) (hI n (rg x))
theorem isN_wd {s : Bool} {r : Nat} (h : r < 2 ^ 63) : isN (wd s r) = decide (INF < r) := by unfold isN; rw [rg_wd h]
theorem hI_lt (n x : Nat) : hI n (rg x) < 2 ^ 63 := Nat.lt_of_le_of_lt (hI_le _ _) (rg_lt x)
theorem hv_zero {x : Nat} (h : x < 2 ^ 64) : hv 0 x = x := wd_eta h
theorem hv_succ (n x : Nat) : hv n (hf x) = hv (n + 1) x := by
  have h : hN (rg x) < 2 ^ 63 := Nat.lt_of_le_of_lt (hN_le _) (rg_lt x)
  unfold hv hf
  rw [ng_wd h, rg_wd h]; rfl
theorem hv_snoc (n x : Nat) : hf (hv n x) = hv (n + 1) x := by
  unfold hv hf
  rw [ng_wd (hI_lt n x), rg_wd (hI_lt n x), hI_add]; rfl
theorem hv_add (m n x : Nat) : hv n (hv m x) = hv (m + n) x := by
  unfold hv
  rw [ng_wd (hI_lt m x), rg_wd (hI_lt m x), hI_add]
theorem hv_lt (n x : Nat) : hv n x < 2 ^ 64 := wd_lt (hI_lt n x)
theorem hv_num {x : Nat} (h : isN x = false) (n : Nat) : isN (hv n x) = false := by
  unfold hv
  rw [isN_wd (hI_lt n x)]
  have := hI_le n (rg x)
  unfold isN at h
  simp at h ⊢; omega
theorem hv_ng (n x : Nat) : ng (hv n x) = ng x := ng_wd (hI_lt n x)
theorem hv_stop (x : Nat) {m n : Nat} (hm : 2099 ≤ m) (hn : 2099 ≤ n) : hv m x = hv n x := by unfold hv; rw [hI_stop _ hm hn]
theorem hv_fix {x : Nat} (hx : x < 2 ^ 64) (h : hf x = x) (n : Nat) : hv n x = x := by
  have hr : hN (rg x) = rg x := by
    have e : rg (hf x) = rg x := by rw [h]
    rwa [hf, rg_wd (Nat.lt_of_le_of_lt (hN_le _) (rg_lt x))] at e
  unfold hv
  rw [hI_fix hr, wd_eta hx]
theorem hv_one (x : Nat) : hv 1 x = hf x := rfl

theorem read_two : D.read TWO = .number false (2 ^ 52) (-51) := by decide
/-- Half a number. -/
theorem div_two {x : Nat} (h : isN x = false) : D.div x TWO = some (hf x) := by
  have h' : rg x ≤ INF := by simpa [isN] using h
  unfold Format.div
  rw [read_two]
  rcases Nat.lt_or_ge (rg x) INF with f | f
  · obtain ⟨m, u, e, hu, hm⟩ := read_fin f
    rw [e]
    have fb : D.fractionBits = 52 := rfl
    simp only [fb, Datum.quotient]
    have n0 : ¬ ((2 : Nat) ^ 52 = 0) := by decide
    have l52 : (2 ^ 52 : Nat).log2 = 52 := by decide
    rw [if_neg n0, l52]
    have hl : m.log2 ≤ 52 := by
      by_cases m0 : m = 0
      · rw [m0]; decide
      · have := (Nat.log2_lt m0).2 hm; omega
    generalize hmo : 52 + 2 + 52 - m.log2 = more
    have e1 : m <<< more = (m * 2 ^ (more - 52)) * 2 ^ 52 := by
      rw [Nat.shiftLeft_eq, Nat.mul_assoc, ← Nat.pow_add, show more - 52 + 52 = more by omega]
    have e2 : m <<< more / 2 ^ 52 = m * 2 ^ (more - 52) := by rw [e1]; exact Nat.mul_div_cancel _ (by decide)
    have e3 : m <<< more % 2 ^ 52 = 0 := by rw [e1]; exact Nat.mul_mod_left _ _
    rw [e2, e3]
    have e4 : 2 * (m * 2 ^ (more - 52)) + (0 != 0).toNat = m * 2 ^ (more - 51) := by
      rw [show more - 51 = (more - 52) + 1 by omega, Nat.pow_succ]
      show 2 * (m * 2 ^ (more - 52)) + 0 = _
      rw [Nat.add_zero, Nat.mul_comm 2, Nat.mul_assoc]
    rw [e4]
    show some (D.nearest (ng x ^^ false) _ _) = _
    rw [nearest_eq (ng x ^^ false) (m * 2 ^ (more - 51)) u (more - 50) _ (by omega), D_word, D_inf]
    have e5 : m * 2 ^ (more - 51) * 2 ^ u = U (rg x) * 2 ^ (more - 51) := by rw [← hu, Nat.mul_right_comm]
    have e6 : RV (m * 2 ^ (more - 51) * 2 ^ u) (more - 50) = RV (U (rg x)) 1 := by
      rw [e5, show more - 50 = 1 + (more - 51) by omega, RV_scale]
    rw [e6]
    unfold hf
    have e7 : hN (rg x) = RV (U (rg x)) 1 := by unfold hN; rw [if_neg (by omega)]
    have := hN_le (rg x)
    rw [e7] at this
    rw [e7, Nat.min_eq_left (by omega), Bool.xor_false]
  · have e : rg x = INF := by omega
    rw [read_inf e]
    simp only [Datum.quotient, Option.map_some]
    show some (D.word _ D.infRung) = _
    rw [D_word, D_inf, Bool.xor_false]
    unfold hf hN
    rw [if_pos f, e]
theorem div_nan {x y : Nat} (h : isN x = true ∨ isN y = true) : D.div x y = none := by
  unfold Format.div
  rcases h with h | h
  · obtain ⟨f, e⟩ := read_nan (show INF < rg x by simpa [isN] using h)
    rw [e]; simp [Datum.quotient]
  · obtain ⟨f, e⟩ := read_nan (show INF < rg y by simpa [isN] using h)
    rw [e]; cases D.read x <;> simp [Datum.quotient]

theorem wd_false (r : Nat) : wd false r = r := rfl
/-- How far below one the least place lies. -/
def LP : Nat := 1074
theorem LP_eq : LP = 1074 := rfl
/-- The rung of a whole number. -/
def fl (n : Nat) : Nat := RV (n * 2 ^ LP) 0
theorem U_fl {n : Nat} (h : n < 2 ^ 53) : U (fl n) = n * 2 ^ LP := U_RV h
def HI : Nat := 2046
theorem U_INF : U INF = 2 ^ 52 * 2 ^ HI := by
  unfold U INF
  rw [if_neg (by decide)]
  have e1 : 2047 * 2 ^ 52 / 2 ^ 52 - 1 = HI := by decide
  have e2 : 2047 * 2 ^ 52 % 2 ^ 52 = 0 := by decide
  rw [e1, e2]
theorem fl_lt {n : Nat} (h : n < 2 ^ 53) : fl n < INF := by
  refine U_iff.1 ?_
  rw [U_fl h, U_INF]
  have h1 : n * 2 ^ LP < 2 ^ 53 * 2 ^ LP := Nat.mul_lt_mul_of_pos_right h (Nat.two_pow_pos _)
  have h2 : (2 : Nat) ^ 53 * 2 ^ LP ≤ 2 ^ 52 * 2 ^ HI := by rw [← Nat.pow_add, ← Nat.pow_add]; exact Nat.pow_le_pow_right (by decide) (by decide)
  exact Nat.lt_of_lt_of_le h1 h2
theorem INF_lt : INF < 2 ^ 63 := by decide
theorem of_int {n : Nat} (h : n < 2 ^ 53) : D.write (.number (decide (((n : Nat) : Int) < 0)) (n : Int).natAbs 0) = fl n := by
  have e : decide (((n : Nat) : Int) < 0) = false := by simp
  rw [e]
  show D.nearest false _ 0 = _
  rw [nearest_eq false _ LP 0 0 (by rw [LP_eq]; omega), D_word, D_inf, Int.natAbs_natCast]
  show wd false (min (fl n) INF) = _
  rw [Nat.min_eq_left (Nat.le_of_lt (fl_lt h)), wd_false]
theorem fl_rg {n : Nat} (h : n < 2 ^ 53) : rg (fl n) = fl n := Nat.mod_eq_of_lt (Nat.lt_trans (fl_lt h) INF_lt)
theorem fl_ng {n : Nat} (h : n < 2 ^ 53) : ng (fl n) = false := by
  have := ng_wd (s := false) (Nat.lt_trans (fl_lt h) INF_lt)
  rwa [wd_false] at this

/-- Two numbers of one sign, added. -/
theorem add_same {x y : Nat} {s : Bool} (hx : rg x < INF) (hy : rg y < INF) (sx : ng x = s) (sy : ng y = s) :
    D.add x y = some (wd s (min (RV (U (rg x) + U (rg y)) 0) INF)) := by
  obtain ⟨m, i, ea, ua, -⟩ := read_fin hx
  obtain ⟨n, j, eb, ub, -⟩ := read_fin hy
  unfold Format.add
  rw [ea, eb, sx, sy]
  simp only [Datum.sum, signed_eq, Option.map_some]
  congr 1
  generalize hba : min ((i : Int) - 1074) ((j : Int) - 1074) = base
  obtain ⟨z, hz⟩ : ∃ z : Nat, base = (z : Int) - 1074 := ⟨min i j, by omega⟩
  have zi : z ≤ i := by omega
  have zj : z ≤ j := by omega
  have e1 : ((i : Int) - 1074 - base).toNat = i - z := by omega
  have e2 : ((j : Int) - 1074 - base).toNat = j - z := by omega
  rw [e1, e2]
  have et : sg s (m * 2 ^ (i - z)) + sg s (n * 2 ^ (j - z)) = sg s (m * 2 ^ (i - z) + n * 2 ^ (j - z)) := by
    unfold sg; cases s <;> simp <;> omega
  have eu : (m * 2 ^ (i - z) + n * 2 ^ (j - z)) * 2 ^ z = U (rg x) + U (rg y) := by
    rw [Nat.add_mul, Nat.mul_assoc, ← Nat.pow_add, Nat.mul_assoc, ← Nat.pow_add, show i - z + z = i by omega, show j - z + z = j by omega, ua, ub]
  rw [et]
  generalize m * 2 ^ (i - z) + n * 2 ^ (j - z) = t at eu ⊢
  have es : (if sg s t = 0 then s && s else decide (sg s t < 0)) = s := by
    unfold sg
    cases s
    · simp
    · simp
      omega
  have en : (sg s t).natAbs = t := by unfold sg; cases s <;> simp
  rw [es, en]
  show D.nearest s t base = _
  rw [nearest_eq s t z 0 base (by omega), D_word, D_inf, eu]
theorem fl_add {a b : Nat} (h : a + b < 2 ^ 53) : D.add (fl a) (fl b) = some (fl (a + b)) := by
  have ha : a < 2 ^ 53 := by omega
  have hb : b < 2 ^ 53 := by omega
  rw [add_same (s := false) (by rw [fl_rg ha]; exact fl_lt ha) (by rw [fl_rg hb]; exact fl_lt hb) (fl_ng ha) (fl_ng hb), fl_rg ha, fl_rg hb, U_fl ha, U_fl hb, ← Nat.add_mul]
  show some (wd false (min (fl (a + b)) INF)) = _
  rw [Nat.min_eq_left (Nat.le_of_lt (fl_lt h)), wd_false]

/-- A share lies between 0 and 1. -/
theorem div_share {x y : Nat} (hx : rg x < INF) (hy : rg y < INF) (sx : ng x = false) (sy : ng y = false) (hle : U (rg x) ≤ U (rg y)) (h0 : 0 < U (rg y)) :
    ∃ r, D.div x y = some r ∧ r ≤ fl 1 := by
  obtain ⟨m, u, ea, ua, hm⟩ := read_fin hx
  obtain ⟨n, v, eb, ub, hn⟩ := read_fin hy
  unfold Format.div
  rw [ea, eb, sx, sy]
  have fb : D.fractionBits = 52 := rfl
  have n0 : n ≠ 0 := by rintro rfl; rw [Nat.zero_mul] at ub; omega
  simp only [fb, Datum.quotient]
  rw [if_neg n0]
  generalize hmo : 52 + 2 + n.log2 - m.log2 = more
  rw [Nat.shiftLeft_eq]
  refine ⟨_, rfl, ?_⟩
  show D.nearest (false ^^ false) _ _ ≤ _
  rw [nearest_eq _ _ (LP + u) (v + more + 1) _ (by rw [LP_eq]; omega), D_word, D_inf]
  show min _ INF ≤ RV (1 * 2 ^ LP) 0
  refine Nat.le_trans (Nat.min_le_left _ _) (RV_mono ?_)
  rw [Nat.pow_zero, Nat.mul_one, Nat.one_mul]
  have key : (2 * (m * 2 ^ more / n) + (m * 2 ^ more % n != 0).toNat) * 2 ^ u ≤ 2 ^ (v + more + 1) := by
    have dm := Nat.div_add_mod (m * 2 ^ more) n
    generalize m * 2 ^ more / n = q at dm ⊢
    have hq : n * q * 2 ^ u ≤ n * 2 ^ (v + more) := by
      have h1 : n * q ≤ m * 2 ^ more := by omega
      have h2 : n * q * 2 ^ u ≤ m * 2 ^ more * 2 ^ u := Nat.mul_le_mul_right _ h1
      have h3 : m * 2 ^ more * 2 ^ u = (m * 2 ^ u) * 2 ^ more := Nat.mul_right_comm _ _ _
      have h4 : (m * 2 ^ u) * 2 ^ more ≤ (n * 2 ^ v) * 2 ^ more := Nat.mul_le_mul_right _ (by rw [ua, ub]; exact hle)
      have h5 : (n * 2 ^ v) * 2 ^ more = n * 2 ^ (v + more) := by rw [Nat.mul_assoc, ← Nat.pow_add]
      omega
    have hq' : q * 2 ^ u ≤ 2 ^ (v + more) := by
      rw [Nat.mul_assoc] at hq
      exact Nat.le_of_mul_le_mul_left hq (Nat.pos_of_ne_zero n0)
    have e2 : (2 : Nat) ^ (v + more + 1) = 2 * 2 ^ (v + more) := by rw [Nat.pow_succ]; omega
    by_cases hr : m * 2 ^ more % n = 0
    · rw [hr]
      show (2 * q + 0) * 2 ^ u ≤ _
      rw [Nat.add_zero, Nat.mul_assoc]; omega
    · have hb : (m * 2 ^ more % n != 0).toNat = 1 := by simp [hr]
      rw [hb]
      have m0 : m ≠ 0 := by rintro rfl; simp at hr
      have hs : n * q * 2 ^ u < n * 2 ^ (v + more) := by
        have h1 : n * q < m * 2 ^ more := by omega
        have h2 : n * q * 2 ^ u < m * 2 ^ more * 2 ^ u := Nat.mul_lt_mul_of_pos_right h1 (Nat.two_pow_pos _)
        have h3 : m * 2 ^ more * 2 ^ u = (m * 2 ^ u) * 2 ^ more := Nat.mul_right_comm _ _ _
        have h4 : (m * 2 ^ u) * 2 ^ more ≤ (n * 2 ^ v) * 2 ^ more := Nat.mul_le_mul_right _ (by rw [ua, ub]; exact hle)
        have h5 : (n * 2 ^ v) * 2 ^ more = n * 2 ^ (v + more) := by rw [Nat.mul_assoc, ← Nat.pow_add]
        omega
      have hs' : q * 2 ^ u < 2 ^ (v + more) := by
        rw [Nat.mul_assoc] at hs
        exact Nat.lt_of_mul_lt_mul_left hs
      rcases Nat.lt_or_ge (v + more) u with hu | hu
      · exfalso
        have l1 : m.log2 ≤ 52 := by have := (Nat.log2_lt m0).2 hm; omega
        have l2 : n < 2 ^ (n.log2 + 1) := Nat.lt_log2_self
        have a1 : m * 2 ^ u ≤ n * 2 ^ v := by rw [ua, ub]; exact hle
        have a2 : 2 ^ u ≤ m * 2 ^ u := Nat.le_mul_of_pos_left _ (Nat.pos_of_ne_zero m0)
        have a3 : n * 2 ^ v < 2 ^ (n.log2 + 1) * 2 ^ v := Nat.mul_lt_mul_of_pos_right l2 (Nat.two_pow_pos _)
        rw [← Nat.pow_add] at a3
        have a4 : (2 : Nat) ^ (n.log2 + 1 + v) ≤ 2 ^ u := Nat.pow_le_pow_right (by decide) (by omega)
        omega
      · have e3 : (2 : Nat) ^ (v + more) = 2 ^ (v + more - u) * 2 ^ u := by rw [← Nat.pow_add]; congr 1; omega
        have q1 : q < 2 ^ (v + more - u) := by
          rw [e3] at hs'
          exact Nat.lt_of_mul_lt_mul_right hs'
        have q2 : (2 * q + 1) * 2 ^ u ≤ (2 * 2 ^ (v + more - u)) * 2 ^ u := Nat.mul_le_mul_right _ (by omega)
        rw [Nat.mul_assoc, ← e3] at q2
        omega
  have := Nat.mul_le_mul_left (2 ^ LP) key
  rw [Nat.pow_add 2 LP u, Nat.mul_left_comm]
  exact this
theorem fl_one : fl 1 = ONE := by
  have h : U (fl 1) = U ONE := by
    rw [U_fl (by decide)]
    unfold U ONE
    rw [if_neg (by decide)]
    have e1 : 4607182418800017408 / 2 ^ 52 - 1 = LP - 52 := by decide
    have e2 : 4607182418800017408 % 2 ^ 52 = 0 := by decide
    rw [e1, e2, Nat.add_zero, ← Nat.pow_add, Nat.one_mul]
    congr 1
  exact U_inj h
theorem cmp_neg (a b : Int) : cmp a b = -cmp b a := by unfold cmp; split <;> split <;> omega
theorem cmp_zero {a b : Int} : cmp a b = 0 ↔ a = b := by unfold cmp; split <;> (try split) <;> omega
theorem cmp_lt {a b : Int} : cmp a b < 0 ↔ a < b := by unfold cmp; split <;> (try split) <;> omega
theorem cmp_gt {a b : Int} : 0 < cmp a b ↔ b < a := by unfold cmp; split <;> (try split) <;> omega
theorem cmp_le {a b : Int} : cmp a b ≤ 0 ↔ a ≤ b := by unfold cmp; split <;> (try split) <;> omega
def b2i (b : Bool) : Int := if b then 1 else 0
theorem ord_nan {a b : Nat} (h : isN a = true ∨ isN b = true) : cmp (b2i (isN a)) (b2i (isN b)) = cmp (ky a) (ky b) := by
  cases ha : isN a <;> cases hb : isN b
  · rcases h with h | h <;> simp_all
  · have := ky_num ha; have := ky_nan hb
    unfold cmp b2i; simp; omega
  · have := ky_num hb; have := ky_nan ha
    unfold cmp b2i; simp; omega
  · have := ky_nan hb; have := ky_nan ha
    unfold cmp b2i; simp; omega
theorem ord_lt {a b : Nat} (na : isN a = false) (nb : isN b = false) (h : vl a < vl b) : cmp (ky a) (ky b) = -1 := by
  have := vl_num h na nb
  unfold cmp; rw [if_pos this]
theorem ord_gt {a b : Nat} (na : isN a = false) (nb : isN b = false) (h : vl b < vl a) : cmp (ky a) (ky b) = 1 := by
  have := vl_num h nb na
  unfold cmp; rw [if_neg (by omega), if_pos this]
theorem ord_eq {a b : Nat} (na : isN a = false) (nb : isN b = false) (h : vl a = vl b) : cmp (b2i (ng b)) (b2i (ng a)) = cmp (ky a) (ky b) := by
  simp only [ky, na, nb, Bool.false_eq_true, ↓reduceIte]
  unfold vl sg at h
  unfold cmp b2i
  generalize rg a = x at h ⊢
  generalize rg b = y at h ⊢
  generalize ng a = s at h ⊢
  generalize ng b = t at h ⊢
  cases s <;> cases t <;> simp only [↓reduceIte, Bool.false_eq_true] at h ⊢ <;> (repeat' split) <;> omega
/-- Which of the two zeros, the numbers below and above, or none. -/
def rk (b : Nat) : Int := if isN b then 4 else if vl b < 0 then 0 else if 0 < vl b then 3 else if ng b then 1 else 2
theorem rk_ord {a b : Nat} : (if rk a < rk b ∨ rk a = rk b ∧ (isN a = false ∧ isN b = false ∧ vl a < vl b) then (-1 : Int) else if rk b < rk a ∨ (isN a = false ∧ isN b = false ∧ vl b < vl a) then 1 else 0) = cmp (ky a) (ky b) := by
  have ka := @ky_num a
  have kb := @ky_num b
  cases na : isN a <;> cases nb : isN b
  · have ra : rg a ≤ INF := by simpa [isN] using na
    have rb : rg b ≤ INF := by simpa [isN] using nb
    unfold rk vl sg cmp ky
    simp only [na, nb, Bool.false_eq_true, ↓reduceIte, true_and, and_true, false_and, and_false, or_false, reduceCtorEq]
    generalize rg a = x
    generalize rg b = y
    generalize ng a = s
    generalize ng b = t
    cases s <;> cases t <;> simp only [↓reduceIte, Bool.false_eq_true] <;> (repeat' split) <;> omega
  · have := ka na; have := ky_nan nb
    unfold rk cmp
    simp only [na, nb, Bool.false_eq_true, ↓reduceIte, true_and, and_true, false_and, and_false, or_false, reduceCtorEq]
    (repeat' split) <;> omega
  · have := kb nb; have := ky_nan na
    unfold rk cmp
    simp only [na, nb, Bool.false_eq_true, ↓reduceIte, true_and, and_true, false_and, and_false, or_false, reduceCtorEq]
    (repeat' split) <;> omega
  · have := ky_nan nb; have := ky_nan na
    unfold rk cmp
    simp only [na, nb, Bool.false_eq_true, ↓reduceIte, true_and, and_true, false_and, and_false, or_false, reduceCtorEq]
    (repeat' split) <;> omega
theorem zero_of {x : Nat} (hx : x < 2 ^ 64) (h : vl x = 0) : x = 0 ∨ x = 9223372036854775808 := by
  have e := wd_eta hx
  unfold vl sg at h
  have r : rg x = 0 := by
    generalize ng x = s at h
    cases s <;> simp at h <;> omega
  rw [r] at e
  rw [← e]
  cases ng x
  · left; rfl
  · right; rfl
theorem div_one_zero : D.div ONE 0 = some 9218868437227405312 := by decide
theorem div_one_mzero : D.div ONE 9223372036854775808 = some 18442240474082181120 := by decide
theorem isN_zero : isN 0 = false := by decide
theorem isN_mzero : isN 9223372036854775808 = false := by decide
theorem same_nan {a b : Nat} (h : isN a = true ∨ isN b = true) : same a b = (isN a && isN b) := by
  unfold same
  cases na : isN a <;> cases nb : isN b
  · rcases h with h | h <;> simp_all
  · have := ky_num na; have := ky_nan nb
    simp; omega
  · have := ky_num nb; have := ky_nan na
    simp; omega
  · have := ky_nan nb; have := ky_nan na
    simp; omega
theorem same_num {a b : Nat} (na : isN a = false) (nb : isN b = false) (h : ¬ (vl a = vl b)) : same a b = false := by
  unfold same
  have : ky a ≠ ky b := by
    rcases Int.lt_trichotomy (vl a) (vl b) with g | g | g
    · have := vl_num g na nb; omega
    · exact absurd g h
    · have := vl_num g nb na; omega
  simpa using this
theorem same_val {a b : Nat} (ha : a < 2 ^ 64) (hb : b < 2 ^ 64) (na : isN a = false) (nb : isN b = false) (h : vl a = vl b) (h0 : vl a ≠ 0) : same a b = true := by
  unfold same
  have : ky a = ky b := by
    simp only [ky, na, nb, Bool.false_eq_true, ↓reduceIte]
    unfold vl sg at h h0
    generalize rg a = x at h h0 ⊢
    generalize rg b = y at h ⊢
    generalize ng a = s at h h0 ⊢
    generalize ng b = t at h ⊢
    cases s <;> cases t <;> simp only [↓reduceIte, Bool.false_eq_true] at h h0 ⊢ <;> omega
  simpa using this
theorem same_refl (a : Nat) : same a a = true := by simp [same]
/-- The bits of a NaN that the machine chooses. -/
theorem nb_lt (t : Nat) : (t % 2) * 2 ^ 63 + 0x7ff0000000000000 + 1 + (t / 2) % (2 ^ 52 - 1) < 2 ^ 64 := by omega
theorem nb_nan (t : Nat) : isN ((t % 2) * 2 ^ 63 + 0x7ff0000000000000 + 1 + (t / 2) % (2 ^ 52 - 1)) = true := by
  unfold isN rg INF
  have : ((t % 2) * 2 ^ 63 + 0x7ff0000000000000 + 1 + (t / 2) % (2 ^ 52 - 1)) % 2 ^ 63 = 0x7ff0000000000000 + 1 + (t / 2) % (2 ^ 52 - 1) := by omega
  rw [this]
  simp; omega
theorem div_zero_zero : D.div 0 0 = none := by decide
end Go.Proofs.YtfndiggpnkjacaaDoor.Fp

namespace Go.Proofs.YtfndiggpnkjacaaDoor.Fp
set_option linter.unusedVariables false
set_option linter.unusedSimpArgs false
open Go.RowKit
open T

abbrev fV (x : Nat) : Value := .float .f64 x
@[simp] theorem f_lt (a b : Nat) : (FloatKind.f64.format.order a b == some Ordering.lt) = (!isN a && !isN b && decide (vl a < vl b)) := lt_eq a b
@[simp] theorem f_gt (a b : Nat) : (FloatKind.f64.format.order a b == some Ordering.gt) = (!isN a && !isN b && decide (vl b < vl a)) := gt_eq a b
@[simp] theorem f_eq (a b : Nat) : (FloatKind.f64.format.order a b == some Ordering.eq) = (!isN a && !isN b && decide (vl a = vl b)) := eq_eq a b
@[simp] theorem f_ne (a b : Nat) : (FloatKind.f64.format.order a b != some Ordering.eq) = !(!isN a && !isN b && decide (vl a = vl b)) := by rw [← eq_eq]; rfl
set_option maxHeartbeats 1000000 in
set_option maxRecDepth 100000 in
theorem isnan_any (x : Nat) (w : World) : Calls Tryd.prog 32 #[fV x] w fun e w' => e = .returned (.bool (isN x)) ∧ w' = w := by
  go_enter Tryd.func32, Tryd.ntmps32
  go_wp2_with fail
  go_ret
  simp
theorem sign_bit {x : Nat} (hx : x < 2 ^ 64) : decide (wrap64 (x : Int) < 0) = ng x := by
  unfold wrap64 ng
  by_cases h : x < 2 ^ 63
  · have e : x / 2 ^ 63 = 0 := Nat.div_eq_of_lt h
    rw [e]
    simp
    omega
  · have e : x / 2 ^ 63 = 1 := by omega
    rw [e]
    simp
    omega
theorem run_bits (x : Nat) (w : World) : (Extern.MathFloatBits.float64bits #[fV x]).run Tryd.prog w = .ok (.int .u64 x) w := rfl
theorem run_frombits (n : Int) (w : World) : (Extern.MathFloatBits.float64frombits #[.int .u64 n]).run Tryd.prog w = .ok (fV n.toNat) w := rfl
set_option maxHeartbeats 1000000 in
set_option maxRecDepth 100000 in
theorem signbit_any (x : Nat) (hx : x < 2 ^ 64) (w : World) : Calls Tryd.prog 48 #[fV x] w fun e w' => e = .returned (.bool (ng x)) ∧ w' = w := by
  go_enter Tryd.func48, Tryd.ntmps48
  go_wp2_with fail
  rw [run_callFunc_extern Tryd.func58 (by kernel_rfl) (by kernel_rfl) (by kernel_rfl) (e := Extern.MathFloatBits.float64bits) (by kernel_rfl), run_bits]
  simp only [Result.andThen]
  rw [Oper.upon_value]
  go_wp2_with fail
  go_ret
  refine ⟨?_, rfl⟩
  show Ending.returned (.bool (decide (wrap64 (x : Int) < 0))) = _
  rw [sign_bit hx]
set_option maxHeartbeats 1000000 in
set_option maxRecDepth 100000 in
theorem nan_any (w : World) : Calls Tryd.prog 27 #[] w fun e w' => e = .returned (fV 9221120237041090561) ∧ w' = w := by
  go_enter Tryd.func27, Tryd.ntmps27
  go_wp2_with fail
  rw [run_callFunc_extern Tryd.func43 (by kernel_rfl) (by kernel_rfl) (by kernel_rfl) (e := Extern.MathFloatBits.float64frombits) (by kernel_rfl), run_frombits]
  simp only [Result.andThen]
  rw [Oper.upon_value]
  go_wp2_with fail
  go_ret
  exact ⟨rfl, rfl⟩
theorem one_any (b : Bool) (w : World) : Calls Tryd.prog 47 #[.bool b] w fun e w' => e = .returned (.int .i64 (b2i b)) ∧ w' = w := by
  go_enter Tryd.func47, Tryd.ntmps47
  cases b
  · go_wp2_with fail
    go_ret
    simp [b2i]
  · go_wp2_with fail
    go_ret
    simp [b2i]
theorem nan_int (a : Int) (w : World) : Calls Tryd.prog 57 #[.int .i64 a] w fun e w' => e = .returned (.bool false) ∧ w' = w := by
  go_enter Tryd.func57, Tryd.ntmps57
  go_wp2_with fail
  go_ret
  simp
set_option maxHeartbeats 1000000 in
set_option maxRecDepth 100000 in
theorem cmp_int (a b : Int) (w : World) : Calls Tryd.prog 46 #[.int .i64 a, .int .i64 b] w fun e w' => e = .returned (.int .i64 (cmp a b)) ∧ w' = w := by
  unfold cmp
  by_cases h1 : a < b
  · rw [if_pos h1]
    go_enter Tryd.func46, Tryd.ntmps46
    go_wp2_with (go_at_call 57; refine (nan_int _ _).mono ?_; rintro e w' ⟨rfl, rfl⟩)
    go_ret
    exact ⟨rfl, rfl⟩
  · rw [if_neg h1]
    by_cases h2 : b < a
    · rw [if_pos h2]
      go_enter Tryd.func46, Tryd.ntmps46
      go_wp2_with (go_at_call 57; refine (nan_int _ _).mono ?_; rintro e w' ⟨rfl, rfl⟩)
      go_ret
      exact ⟨rfl, rfl⟩
    · rw [if_neg h2]
      go_enter Tryd.func46, Tryd.ntmps46
      go_wp2_with (go_at_call 57; refine (nan_int _ _).mono ?_; rintro e w' ⟨rfl, rfl⟩)
      go_ret
      exact ⟨rfl, rfl⟩
set_option maxHeartbeats 2000000 in
set_option maxRecDepth 100000 in
theorem order_any (a b : Nat) (ha : a < 2 ^ 64) (hb : b < 2 ^ 64) (w : World) : Calls Tryd.prog 35 #[fV a, fV b] w fun e w' => e = .returned (.int .i64 (cmp (ky a) (ky b))) ∧ w' = w := by
  by_cases hn : isN a = true ∨ isN b = true
  · rw [← ord_nan hn]
    go_enter Tryd.func35, Tryd.ntmps35
    cases na : isN a
    · have nb : isN b = true := by simpa [na] using hn
      go_wp2_with (first | (go_at_call 32; refine (isnan_any _ _).mono ?_; rintro e w' ⟨rfl, rfl⟩) | (go_at_call 47; refine (one_any _ _).mono ?_; rintro e w' ⟨rfl, rfl⟩) | (go_at_call 46; refine (cmp_int _ _ _).mono ?_; rintro e w' ⟨rfl, rfl⟩))
      go_ret
      simp [na, nb]
    · go_wp2_with (first | (go_at_call 32; refine (isnan_any _ _).mono ?_; rintro e w' ⟨rfl, rfl⟩) | (go_at_call 47; refine (one_any _ _).mono ?_; rintro e w' ⟨rfl, rfl⟩) | (go_at_call 46; refine (cmp_int _ _ _).mono ?_; rintro e w' ⟨rfl, rfl⟩))
      go_ret
      simp [na]
  · have na : isN a = false := by cases h : isN a <;> simp_all
    have nb : isN b = false := by cases h : isN b <;> simp_all
    go_enter Tryd.func35, Tryd.ntmps35
    by_cases h1 : vl a < vl b
    · rw [ord_lt na nb h1]
      go_wp2_with (go_at_call 32; refine (isnan_any _ _).mono ?_; rintro e w' ⟨rfl, rfl⟩)
      go_ret
      exact ⟨rfl, rfl⟩
    · by_cases h2 : vl b < vl a
      · rw [ord_gt na nb h2]
        go_wp2_with (go_at_call 32; refine (isnan_any _ _).mono ?_; rintro e w' ⟨rfl, rfl⟩)
        go_ret
        exact ⟨rfl, rfl⟩
      · rw [← ord_eq na nb (by omega)]
        go_wp2_with (first | (go_at_call 32; refine (isnan_any _ _).mono ?_; rintro e w' ⟨rfl, rfl⟩) | (go_at_call 47; refine (one_any _ _).mono ?_; rintro e w' ⟨rfl, rfl⟩) | (go_at_call 46; refine (cmp_int _ _ _).mono ?_; rintro e w' ⟨rfl, rfl⟩) | (go_at_call 48; refine (signbit_any _ (by assumption) _).mono ?_; rintro e w' ⟨rfl, rfl⟩))
        go_ret
        exact ⟨rfl, rfl⟩
theorem run_quo (x y r : Nat) (h : D.div x y = some r) (w : World) : (binOp .quo 27 (.float .f64 x) (.float .f64 y)).run Tryd.prog w = .ok (.float .f64 r) w := run_float_arith w .quo _ .f64 x y r h
set_option maxHeartbeats 2000000 in
set_option maxRecDepth 100000 in
theorem rank_any (x : Nat) (hx : x < 2 ^ 64) (w : World) : Calls Tryd.prog 54 #[fV x] w fun e w' => e = .returned (.int .i64 (rk x)) ∧ w' = w := by
  have z0 := isN_zero
  have v0 : vl 0 = 0 := by decide
  unfold rk
  cases nx : isN x
  · by_cases h1 : vl x < 0
    · rw [if_neg (by decide), if_pos h1]
      go_enter Tryd.func54, Tryd.ntmps54
      go_wp2_with fail
      go_ret
      exact ⟨rfl, rfl⟩
    · by_cases h2 : 0 < vl x
      · rw [if_neg (by decide), if_neg h1, if_pos h2]
        go_enter Tryd.func54, Tryd.ntmps54
        go_wp2_with fail
        go_ret
        exact ⟨rfl, rfl⟩
      · rcases zero_of hx (by omega) with rfl | rfl
        · have hq := run_quo 4607182418800017408 0 _ div_one_zero
          have nq : isN 9218868437227405312 = false := by decide
          have vq : vl 9218868437227405312 = 9218868437227405312 := by decide
          go_enter Tryd.func54, Tryd.ntmps54
          go_wp2_with fail
          go_ret
          exact ⟨rfl, rfl⟩
        · have hq := run_quo 4607182418800017408 _ _ div_one_mzero
          have nq : isN 18442240474082181120 = false := by decide
          have vq : vl 18442240474082181120 = -9218868437227405312 := by decide
          have vm : vl 9223372036854775808 = 0 := by decide
          go_enter Tryd.func54, Tryd.ntmps54
          go_wp2_with fail
          go_ret
          exact ⟨rfl, rfl⟩
  · rw [if_pos rfl]
    go_enter Tryd.func54, Tryd.ntmps54
    go_wp2_with fail
    go_ret
    exact ⟨rfl, rfl⟩
set_option maxHeartbeats 4000000 in
set_option maxRecDepth 100000 in
theorem rorder_any (a b : Nat) (ha : a < 2 ^ 64) (hb : b < 2 ^ 64) (w : World) : Calls Tryd.prog 44 #[fV a, fV b] w fun e w' => e = .returned (.int .i64 (cmp (ky a) (ky b))) ∧ w' = w := by
  have HO := Lib.hid (@rk_ord a b)
  have HF : ∀ v : Int, (if rk a < rk b ∨ rk a = rk b ∧ (isN a = false ∧ isN b = false ∧ vl a < vl b) then (-1 : Int) else if rk b < rk a ∨ (isN a = false ∧ isN b = false ∧ vl b < vl a) then 1 else 0) = v →
    (Calls Tryd.prog 44 #[fV a, fV b] w fun e w' => e = .returned (.int .i64 v) ∧ w' = w) → Calls Tryd.prog 44 #[fV a, fV b] w fun e w' => e = .returned (.int .i64 (cmp (ky a) (ky b))) ∧ w' = w := by
    intro v hv hc
    rw [← HO.out, hv]
    exact hc
  clear HO
  by_cases h1 : rk a < rk b
  · refine HF (-1) (if_pos (.inl h1)) ?_
    clear HF
    go_enter Tryd.func44, Tryd.ntmps44
    go_wp2_with (go_at_call 54; refine (rank_any _ (by assumption) _).mono ?_; rintro e w' ⟨rfl, rfl⟩)
    go_ret
    exact ⟨rfl, rfl⟩
  · by_cases h3 : rk b < rk a
    · refine HF 1 (by rw [if_neg (by omega), if_pos (.inl h3)]) ?_
      clear HF
      have hne : (rk a == rk b) = false := beq_eq_false_iff_ne.2 (by omega)
      go_enter Tryd.func44, Tryd.ntmps44
      go_wp2_with (go_at_call 54; refine (rank_any _ (by assumption) _).mono ?_; rintro e w' ⟨rfl, rfl⟩)
      go_ret
      exact ⟨rfl, rfl⟩
    · have he : rk a = rk b := by omega
      by_cases hn : isN a = true ∨ isN b = true
      · have hx : ∀ p : Prop, ¬ (isN a = false ∧ isN b = false ∧ p) := by
          rintro p ⟨x, y, -⟩
          rw [x, y] at hn
          simp at hn
        refine HF 0 (by rw [if_neg (by rintro (h | ⟨-, h⟩); exact h1 h; exact hx _ h), if_neg (by rintro (h | h); exact h3 h; exact hx _ h)]) ?_
        clear HF hx
        cases na : isN a
        · have nb : isN b = true := by simpa [na] using hn
          go_enter Tryd.func44, Tryd.ntmps44
          go_wp2_with (go_at_call 54; refine (rank_any _ (by assumption) _).mono ?_; rintro e w' ⟨rfl, rfl⟩)
          go_ret
          exact ⟨rfl, rfl⟩
        · go_enter Tryd.func44, Tryd.ntmps44
          go_wp2_with (go_at_call 54; refine (rank_any _ (by assumption) _).mono ?_; rintro e w' ⟨rfl, rfl⟩)
          go_ret
          exact ⟨rfl, rfl⟩
      · have na : isN a = false := by cases h : isN a <;> simp_all
        have nb : isN b = false := by cases h : isN b <;> simp_all
        clear hn
        by_cases h4 : vl a < vl b
        · refine HF (-1) (if_pos (.inr ⟨he, na, nb, h4⟩)) ?_
          clear HF
          go_enter Tryd.func44, Tryd.ntmps44
          go_wp2_with (go_at_call 54; refine (rank_any _ (by assumption) _).mono ?_; rintro e w' ⟨rfl, rfl⟩)
          go_ret
          exact ⟨rfl, rfl⟩
        · by_cases h5 : vl b < vl a
          · refine HF 1 (by rw [if_neg (by rintro (h | ⟨-, -, -, h⟩); exact h1 h; exact h4 h), if_pos (.inr ⟨na, nb, h5⟩)]) ?_
            clear HF
            go_enter Tryd.func44, Tryd.ntmps44
            go_wp2_with (go_at_call 54; refine (rank_any _ (by assumption) _).mono ?_; rintro e w' ⟨rfl, rfl⟩)
            go_ret
            exact ⟨rfl, rfl⟩
          · refine HF 0 (by rw [if_neg (by rintro (h | ⟨-, -, -, h⟩); exact h1 h; exact h4 h), if_neg (by rintro (h | ⟨-, -, h⟩); exact h3 h; exact h5 h)]) ?_
            clear HF
            go_enter Tryd.func44, Tryd.ntmps44
            go_wp2_with (go_at_call 54; refine (rank_any _ (by assumption) _).mono ?_; rintro e w' ⟨rfl, rfl⟩)
            go_ret
            exact ⟨rfl, rfl⟩
set_option maxHeartbeats 4000000 in
set_option maxRecDepth 100000 in
theorem same_any (a b : Nat) (ha : a < 2 ^ 64) (hb : b < 2 ^ 64) (w : World) : Calls Tryd.prog 13 #[fV a, fV b] w fun e w' => e = .returned (.bool (same a b)) ∧ w' = w := by
  by_cases hn : isN a = true ∨ isN b = true
  · rw [same_nan hn]
    cases na : isN a
    · have nb : isN b = true := by simpa [na] using hn
      go_enter Tryd.func13, Tryd.ntmps13
      go_wp2_with fail
      go_ret
      simp [na, nb]
    · cases nb : isN b
      · go_enter Tryd.func13, Tryd.ntmps13
        go_wp2_with fail
        go_ret
        simp [na, nb]
      · go_enter Tryd.func13, Tryd.ntmps13
        go_wp2_with fail
        go_ret
        simp [na, nb]
  · have na : isN a = false := by cases h : isN a <;> simp_all
    have nb : isN b = false := by cases h : isN b <;> simp_all
    clear hn
    have z0 := isN_zero
    have v0 : vl 0 = 0 := by decide
    by_cases h1 : vl a = vl b
    · by_cases h2 : vl a = 0
      · have h3 : vl b = 0 := h1 ▸ h2
        have hq := run_quo 4607182418800017408 0 _ div_one_zero
        have nq : isN 9218868437227405312 = false := by decide
        have vq : vl 9218868437227405312 = 9218868437227405312 := by decide
        have hq' := run_quo 4607182418800017408 _ _ div_one_mzero
        have nq' : isN 18442240474082181120 = false := by decide
        have vq' : vl 18442240474082181120 = -9218868437227405312 := by decide
        have vm : vl 9223372036854775808 = 0 := by decide
        have s00 : same 0 0 = true := by decide
        have s01 : same 0 9223372036854775808 = false := by decide
        have s10 : same 9223372036854775808 0 = false := by decide
        have s11 : same 9223372036854775808 9223372036854775808 = true := by decide
        rcases zero_of ha h2 with rfl | rfl <;> rcases zero_of hb h3 with rfl | rfl
        · rw [s00]
          go_enter Tryd.func13, Tryd.ntmps13
          go_wp2_with fail
          go_ret
          exact ⟨rfl, rfl⟩
        · rw [s01]
          go_enter Tryd.func13, Tryd.ntmps13
          go_wp2_with fail
          go_ret
          exact ⟨rfl, rfl⟩
        · rw [s10]
          go_enter Tryd.func13, Tryd.ntmps13
          go_wp2_with fail
          go_ret
          exact ⟨rfl, rfl⟩
        · rw [s11]
          go_enter Tryd.func13, Tryd.ntmps13
          go_wp2_with fail
          go_ret
          exact ⟨rfl, rfl⟩
      · rw [same_val ha hb na nb h1 h2]
        go_enter Tryd.func13, Tryd.ntmps13
        go_wp2_with fail
        go_ret
        exact ⟨rfl, rfl⟩
    · rw [same_num na nb h1]
      go_enter Tryd.func13, Tryd.ntmps13
      go_wp2_with fail
      go_ret
      exact ⟨rfl, rfl⟩
end Go.Proofs.YtfndiggpnkjacaaDoor.Fp
