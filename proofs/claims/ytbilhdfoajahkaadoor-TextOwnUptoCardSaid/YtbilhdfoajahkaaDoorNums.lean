/-
  Plain facts on numbers and their texts: the text of a number up to 2^31 - 1 is read as that number; what is read as a number is that number's text; reading without a bound and asking at the end comes to the same.
-/
import Derived.Test.YtbilhdfoajahkaaDoorPlain
namespace Go.Proofs.YtbilhdfoajahkaaDoor.P

/-- The digits of a list read on from n, without a bound. -/
def valGo : List UInt8 → Nat → Option Nat
  | [], n => some n
  | c :: r, n => if c.toNat < 48 ∨ 57 < c.toNat then none else valGo r (10 * n + (c.toNat - 48))
/-- Asked at the end. -/
def upTo (o : Option Nat) : Option Nat := o.bind fun m => if 2147483647 < m then none else some m

theorem valGo_ge : ∀ (l : List UInt8) (n m : Nat), valGo l n = some m → n * 10 ^ l.length ≤ m
  | [], n, m, h => by simp [valGo] at h; simp; omega
  | c :: r, n, m, h => by
    rw [valGo] at h
    split at h
    · cases h
    · have := valGo_ge r _ m h
      rw [List.length_cons, Nat.pow_succ]
      have e : (10 * n) * 10 ^ r.length ≤ (10 * n + (c.toNat - 48)) * 10 ^ r.length := Nat.mul_le_mul_right _ (by omega)
      have e2 : n * (10 ^ r.length * 10) = (10 * n) * 10 ^ r.length := by rw [Nat.mul_comm (10 ^ r.length) 10, ← Nat.mul_assoc, Nat.mul_comm n 10]
      omega
theorem valGo_le (l : List UInt8) (n m : Nat) (h : valGo l n = some m) : n ≤ m := by
  have h1 := valGo_ge l n m h
  have h2 : n * 1 ≤ n * 10 ^ l.length := Nat.mul_le_mul_left _ (Nat.pow_pos (by omega))
  omega

theorem numGo_val : ∀ (l : List UInt8) (n : Nat), n ≤ 2147483647 → numGo l n = upTo (valGo l n)
  | [], n, h => by simp [numGo, valGo, upTo]; omega
  | c :: r, n, h => by
    rw [numGo, valGo]
    split
    · rfl
    · split
      · next hb =>
        cases e : valGo r (10 * n + (c.toNat - 48)) with
        | none => rfl
        | some m =>
          have := valGo_le _ _ _ e
          simp [upTo]; omega
      · next hb => exact numGo_val r _ (by omega)

/-- Too long: more than ten digits without a 0 ahead. -/
theorem number_long (l : List UInt8) (h : 10 < l.length) : number l = none := by
  rw [number]
  split
  · rfl
  · next hc =>
    match l, h, hc with
    | c :: r, h, hc =>
      rw [numGo_val _ _ (by omega)]
      cases e : valGo (c :: r) 0 with
      | none => rfl
      | some m =>
        have hne : c ≠ 48 := fun e => hc (.inr ⟨by rw [e]; rfl, by simp at h ⊢; omega⟩)
        rw [valGo] at e
        split at e
        · cases e
        · next hd =>
          have h1 := valGo_ge r _ m e
          have hc48 : c.toNat ≠ 48 := fun e => hne (UInt8.toNat_inj.1 e)
          have h2 : 1 * 10 ^ 10 ≤ (10 * 0 + (c.toNat - 48)) * 10 ^ r.length :=
            Nat.mul_le_mul (by omega) (Nat.pow_le_pow_right (by omega) (by simp at h; omega))
          simp [upTo]; omega
theorem number_val (l : List UInt8) (h0 : l ≠ []) (h : ¬ (1 < l.length ∧ l.head? = some 48)) : number l = upTo (valGo l 0) := by
  rw [number, if_neg (by rintro (e | e); exact h0 e; exact h ⟨e.2, e.1⟩), numGo_val _ _ (by omega)]

theorem numGo_snoc : ∀ (l : List UInt8) (c : UInt8) (n : Nat), numGo (l ++ [c]) n = (numGo l n).bind fun m => numGo [c] m
  | [], c, n => by simp [numGo]
  | x :: r, c, n => by
    rw [List.cons_append, numGo, numGo]
    split
    · rfl
    · split
      · rfl
      · exact numGo_snoc r c _

theorem digit (d : Nat) (h : d < 10) : (UInt8.ofNat (48 + d)).toNat = 48 + d := by
  rw [UInt8.toNat_ofNat']; omega
theorem digit_of (c : UInt8) (h : 48 ≤ c.toNat) (h2 : c.toNat ≤ 57) : UInt8.ofNat (48 + (c.toNat - 48)) = c := by
  rw [show 48 + (c.toNat - 48) = c.toNat by omega]; simp

theorem numGo_dec (u : Nat) (h : u ≤ 2147483647) : numGo (Lib.decDigits u) 0 = some u := by
  induction u using Nat.strongRecOn with
  | ind u ih =>
    rw [Lib.decDigits]
    split
    · next hu => rw [numGo, digit u hu, if_neg (by omega), if_neg (by omega), numGo]; congr 1; omega
    · next hu =>
      rw [numGo_snoc, ih (u / 10) (by omega) (by omega)]
      show numGo [_] (u / 10) = _
      rw [numGo, digit _ (by omega), if_neg (by omega), if_neg (by omega), numGo]
      congr 1; omega
theorem dec_ne (u : Nat) : Lib.decDigits u ≠ [] := by
  rw [Lib.decDigits]; split <;> simp
theorem dec_head (u : Nat) : 1 ≤ u → (Lib.decDigits u).head? ≠ some 48 := by
  induction u using Nat.strongRecOn with
  | ind u ih =>
    intro hu1
    rw [Lib.decDigits]
    split
    · next hu =>
      simp only [List.head?_cons, ne_eq, Option.some.injEq]
      intro e
      have := congrArg UInt8.toNat e
      rw [digit u hu] at this
      simp at this; omega
    · next hu =>
      have hne := dec_ne (u / 10)
      have := ih (u / 10) (by omega) (by omega)
      cases e : Lib.decDigits (u / 10) with
      | nil => exact absurd e hne
      | cons x r => rw [e] at this; simpa using this
theorem number_dec (u : Nat) (h : u ≤ 2147483647) : number (Lib.decDigits u) = some u := by
  rw [number, if_neg, numGo_dec u h]
  rintro (e | ⟨e1, e2⟩)
  · exact dec_ne u e
  · rcases Nat.eq_zero_or_pos u with h0 | h0
    · subst h0; rw [Lib.decDigits_one (by omega)] at e2; simp at e2
    · exact dec_head u h0 e1

theorem numGo_le (l : List UInt8) (n m : Nat) (hn : n ≤ 2147483647) (h : numGo l n = some m) : n ≤ m ∧ m ≤ 2147483647 := by
  rw [numGo_val l n hn] at h
  cases e : valGo l n with
  | none => rw [e] at h; cases h
  | some k =>
    rw [e] at h
    have := valGo_le l n k e
    simp only [upTo, Option.bind_some] at h
    split at h
    · cases h
    · injection h with h; omega

theorem dec_numGo (l : List UInt8) : ∀ n, l ≠ [] → (l.head? = some 48 → l.length = 1) → numGo l 0 = some n → Lib.decDigits n = l := by
  induction hl : l.length generalizing l with
  | zero => intro n h; exact absurd (List.eq_nil_of_length_eq_zero hl) h
  | succ k ih =>
    intro n hne hz h
    obtain ⟨i, c, rfl⟩ : ∃ i c, l = i ++ [c] := ⟨l.dropLast, l.getLast hne, (List.dropLast_concat_getLast hne).symm⟩
    rw [numGo_snoc] at h
    cases em : numGo i 0 with
    | none => rw [em] at h; cases h
    | some m =>
      rw [em] at h
      simp only [Option.bind_some, numGo] at h
      split at h
      · cases h
      · next hd =>
        split at h
        · cases h
        · next hb =>
          injection h with h
          subst h
          by_cases hi : i = []
          · subst hi
            simp only [numGo, Option.some.injEq] at em
            subst em
            rw [Lib.decDigits_one (by omega), show 48 + (10 * 0 + (c.toNat - 48)) = 48 + (c.toNat - 48) by omega, digit_of c (by omega) (by omega)]
            rfl
          · have hih := ih i (by simp at hl; omega) m hi (fun e => by
              have : (i ++ [c]).head? = some 48 := by
                cases i with
                | nil => exact absurd rfl hi
                | cons x r => simpa using e
              have := hz this
              have hik : i.length = k := by simp at hl; omega
              exact absurd (List.eq_nil_of_length_eq_zero (by omega)) hi) em
            have hm : 1 ≤ m := by
              rcases Nat.eq_zero_or_pos m with h0 | h0
              · subst h0
                rw [Lib.decDigits_one (by omega)] at hih
                have : (i ++ [c]).head? = some 48 := by rw [← hih]; rfl
                have := hz this
                have hik : i.length = k := by simp at hl; omega
                exact absurd (List.eq_nil_of_length_eq_zero (by omega)) hi
              · exact h0
            rw [Lib.decDigits, dif_neg (by omega), show (10 * m + (c.toNat - 48)) / 10 = m by omega, show (10 * m + (c.toNat - 48)) % 10 = c.toNat - 48 by omega, hih, digit_of c (by omega) (by omega)]
theorem dec_number (l : List UInt8) (n : Nat) (h : number l = some n) : Lib.decDigits n = l ∧ n ≤ 2147483647 := by
  rw [number] at h
  split at h
  · cases h
  · next hc =>
    refine ⟨dec_numGo l n (fun e => hc (.inl e)) (fun e => ?_) h, (numGo_le l 0 n (by omega) h).2⟩
    have : ¬ 1 < l.length := fun e2 => hc (.inr ⟨e, e2⟩)
    cases l with
    | nil => simp at e
    | cons x r => simp at this ⊢; omega

theorem decimal_in (n : Int) (h0 : 0 ≤ n) (h1 : n ≤ 2147483647) : decimal n = Lib.decDigits n.toNat := by rw [decimal, if_neg (by omega)]
theorem decimal_out (n : Int) (h : n < 0 ∨ 2147483647 < n) : decimal n = [63] := by rw [decimal, if_pos h]
theorem number_decimal (n : Int) (h0 : 0 ≤ n) (h1 : n ≤ 2147483647) : number (decimal n) = some n.toNat := by
  rw [decimal_in n h0 h1, number_dec _ (by omega)]
theorem number_untold (n : Int) (h : n < 0 ∨ 2147483647 < n) : number (decimal n) = none := by
  rw [decimal_out n h]; decide
theorem decimal_number (l : List UInt8) (n : Nat) (h : number l = some n) : decimal n = l := by
  have := dec_number l n h
  rw [decimal_in n (by omega) (by omega)]
  simpa using this.1
theorem decimal_length (n : Int) : (decimal n).length ≤ 10 := by
  by_cases h : n < 0 ∨ 2147483647 < n
  · rw [decimal_out n h]; decide
  · rw [decimal_in n (by omega) (by omega)]
    rcases Nat.lt_or_ge 10 (Lib.decDigits n.toNat).length with hl | hl
    · have := number_long _ hl
      rw [number_dec _ (by omega)] at this
      cases this
    · exact hl
end Go.Proofs.YtbilhdfoajahkaaDoor.P
