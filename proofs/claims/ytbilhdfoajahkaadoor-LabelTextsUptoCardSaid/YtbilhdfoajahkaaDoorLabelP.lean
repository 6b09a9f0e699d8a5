/-
  Plain facts: the text of a right label is read as that label; of a label that may not be, nothing is read.
-/
import Derived.Test.YtbilhdfoajahkaaDoorLabelK
namespace Go.Proofs.YtbilhdfoajahkaaDoor.L
open T

/-- Digits and the sign for a number that has no text. -/
theorem dec_no (n : Int) (c : UInt8) (hc : c = 58 ∨ c = 44) : ∀ x ∈ P.decimal n, x ≠ c := by
  have hd : ∀ u : Nat, ∀ x ∈ Lib.decDigits u, 48 ≤ x.toNat ∧ x.toNat ≤ 57 := by
    intro u
    induction u using Nat.strongRecOn with
    | ind u ih =>
      intro x hx
      rw [Lib.decDigits] at hx
      split at hx
      · next h =>
        rw [List.mem_singleton.1 hx, P.digit u h]; omega
      · next h =>
        rw [List.mem_append] at hx
        rcases hx with hx | hx
        · exact ih (u / 10) (by omega) x hx
        · rw [List.mem_singleton.1 hx, P.digit _ (by omega)]; omega
  intro x hx e
  subst e
  unfold P.decimal at hx
  split at hx
  · simp at hx; rcases hc with h | h <;> rw [hx] at h <;> exact absurd h (by decide)
  · have := hd _ x hx
    rcases hc with h | h <;> rw [h] at this <;> simp at this
theorem split_no {c : UInt8} : ∀ {l : List UInt8}, (∀ x ∈ l, x ≠ c) → split c l = none
  | [], _ => rfl
  | x :: r, h => by
    rw [split, if_neg (h x (by simp)), split_no (fun y hy => h y (by simp [hy]))]; rfl
theorem split_at {c : UInt8} : ∀ {l r : List UInt8}, (∀ x ∈ l, x ≠ c) → split c (l ++ c :: r) = some (l, r)
  | [], r, _ => by simp [split]
  | x :: t, r, h => by
    rw [List.cons_append, split, if_neg (h x (by simp)), split_at (fun y hy => h y (by simp [hy]))]; rfl
theorem nums_text : ∀ (xs : List Nat), xs ≠ [] → (∀ x ∈ xs, x ≤ 2147483647) → nums (catsText xs) = some xs
  | [x], _, h => by
    unfold catsText Lib.join
    simp only [List.map_cons, List.map_nil]
    have e : [44].intercalate [P.decimal (x : Int)] = P.decimal (x : Int) := by simp
    rw [e, nums_none (split_no (dec_no _ 44 (.inr rfl))), P.number_decimal _ (by omega) (by have := h x (by simp); omega)]
    simp
  | x :: y :: r, _, h => by
    have ih := nums_text (y :: r) (by simp) (fun z hz => h z (by simp [hz]))
    have e : catsText (x :: y :: r) = P.decimal (x : Int) ++ 44 :: catsText (y :: r) := by
      unfold catsText Lib.join
      rw [List.map_cons, List.map_cons, List.intercalate_cons_cons]
      simp
    rw [e, nums_some (split_at (dec_no _ 44 (.inr rfl))), P.number_decimal _ (by omega) (by have := h x (by simp); omega), ih]
    simp

/-- The categories put together again. -/
theorem ofGo_cats (xs : List Nat) : ∀ c, (∀ x ∈ xs, x < 64) → ofGo (xs.map fun x : Nat => (x : Int)) c = some (xs.foldl (fun a x => a ||| 2 ^ x) c) := by
  induction xs with
  | nil => intro c _; rfl
  | cons x r ih =>
    intro c h
    have hx := h x (by simp)
    rw [List.map_cons, ofGo, if_neg (by omega), Int.toNat_natCast, ih _ (fun y hy => h y (by simp [hy]))]
    rfl
theorem fold_bit (xs : List Nat) : ∀ (c i : Nat), (xs.foldl (fun a x => a ||| 2 ^ x) c).testBit i = (c.testBit i || decide (i ∈ xs)) := by
  induction xs with
  | nil => intro c i; simp
  | cons x r ih =>
    intro c i
    rw [List.foldl_cons, ih, Nat.testBit_or, Nat.testBit_two_pow]
    by_cases e : x = i
    · subst e; simp
    · have : ¬ i = x := fun h => e h.symm
      simp [e, this]
theorem cats_back (c : Nat) (hc : c < 18446744073709551616) : (catsTo c 64).foldl (fun a x => a ||| 2 ^ x) 0 = c := by
  apply Nat.eq_of_testBit_eq
  intro i
  rw [fold_bit]
  simp only [Nat.zero_testBit, Bool.false_or]
  unfold catsTo
  by_cases hi : i < 64
  · cases hb : c.testBit i with
    | true => simp [List.mem_filter, hi, hb]
    | false => simp [List.mem_filter, hb]
  · rw [Nat.testBit_lt_two_pow (Nat.lt_of_lt_of_le hc (Nat.pow_le_pow_right (n := 2) (by omega) (show 64 ≤ i by omega)))]
    simp [List.mem_filter]; omega
theorem cats_small (c : Nat) : ∀ x ∈ catsTo c 64, x < 64 := fun x hx => by
  unfold catsTo at hx
  rw [List.mem_filter, List.mem_range] at hx
  exact hx.1

theorem parse_print (l : Int) (c : Nat) (hc : c < 18446744073709551616) (h : rightB l = true) : parse (print l c) = some (l.toNat, c) := by
  have hr := h
  unfold rightB at h
  rw [Bool.and_eq_true, decide_eq_true_iff, decide_eq_true_iff] at h
  obtain ⟨n, rfl⟩ := Int.eq_ofNat_of_zero_le h.1
  have hnum : P.number (P.decimal (n : Int)) = some n := by
    have := P.number_decimal (n : Int) (by omega) (by omega)
    rwa [Int.toNat_natCast] at this
  have hof : ofAll (n : Int) ((catsTo c 64).map fun x : Nat => (x : Int)) = some c := by
    rw [ofAll, hr, if_pos rfl, ofGo_cats _ 0 (cats_small c), cats_back c hc]
  rw [Int.toNat_natCast]
  unfold parse
  by_cases he : catsTo c 64 = []
  · have hp : print (n : Int) c = P.decimal (n : Int) := by rw [print, if_pos he]
    have hsp : split 58 (print (n : Int) c) = none := by rw [hp]; exact split_no (dec_no _ 58 (.inl rfl))
    rw [he] at hof
    rw [hsp]
    show (P.number (print (n : Int) c)).bind _ = _
    rw [hp, hnum]
    show parseRest _ n (some []) = _
    rw [parseRest, Option.bind_some]
    simp only [hof, Option.bind_some]
    rw [← hp, if_pos rfl]
  · have hp : print (n : Int) c = P.decimal (n : Int) ++ 58 :: catsText (catsTo c 64) := by rw [print, if_neg he]; simp
    have hsp : split 58 (print (n : Int) c) = some (P.decimal (n : Int), catsText (catsTo c 64)) := by rw [hp]; exact split_at (dec_no _ 58 (.inl rfl))
    have hns := nums_text (catsTo c 64) he (fun x hx => by have := cats_small c x hx; omega)
    rw [hsp]
    show (P.number (P.decimal (n : Int))).bind _ = _
    rw [hnum]
    show parseRest _ n (nums (catsText (catsTo c 64))) = _
    rw [hns, parseRest, Option.bind_some, hof, Option.bind_some, if_pos rfl]

theorem parse_not (l : Int) (c : Nat) (h : rightB l = false) : parse (print l c) = none := by
  have key : ∀ (o : Option (List Nat)), (P.number (P.decimal l)).bind (fun n => parseRest (print l c) n o) = none := by
    intro o
    by_cases hl : l < 0 ∨ 2147483647 < l
    · rw [P.number_untold l hl]; rfl
    · obtain ⟨n, rfl⟩ := Int.eq_ofNat_of_zero_le (show 0 ≤ l by omega)
      have hnum := P.number_decimal (n : Int) (by omega) (by omega)
      rw [Int.toNat_natCast] at hnum
      rw [hnum, Option.bind_some, parseRest]
      cases o with
      | none => rfl
      | some xs =>
        rw [Option.bind_some, ofAll, h]; rfl
  unfold parse
  by_cases he : catsTo c 64 = []
  · have hp : print l c = P.decimal l := by rw [print, if_pos he]
    have hsp : split 58 (print l c) = none := by rw [hp]; exact split_no (dec_no _ 58 (.inl rfl))
    rw [hsp]
    have := key (some [])
    rwa [← hp] at this
  · have hp : print l c = P.decimal l ++ 58 :: catsText (catsTo c 64) := by rw [print, if_neg he]; simp
    have hsp : split 58 (print l c) = some (P.decimal l, catsText (catsTo c 64)) := by rw [hp]; exact split_at (dec_no _ 58 (.inl rfl))
    rw [hsp]
    exact key _
theorem print_parse {l : List UInt8} {n c : Nat} (h : parse l = some (n, c)) : print n c = l ∧ c < 18446744073709551616 ∧ n ≤ 15 := by
  have key : ∀ (m : Nat) (o : Option (List Nat)), parseRest l m o = some (n, c) → print n c = l ∧ c < 18446744073709551616 ∧ n ≤ 15 := by
    intro m o hr
    rw [parseRest, Option.bind_eq_some_iff] at hr
    obtain ⟨xs, _, hr⟩ := hr
    rw [Option.bind_eq_some_iff] at hr
    obtain ⟨c', hc', hr⟩ := hr
    split at hr
    · next hp =>
      injection hr with hr
      injection hr with h1 h2
      subst h1 h2
      refine ⟨hp, ofAll_small hc', ?_⟩
      unfold ofAll at hc'
      split at hc'
      · next hb => unfold rightB at hb; rw [Bool.and_eq_true, decide_eq_true_iff, decide_eq_true_iff] at hb; omega
      · cases hc'
    · cases hr
  unfold parse at h
  split at h
  · rw [Option.bind_eq_some_iff] at h
    obtain ⟨m, _, h⟩ := h
    exact key m _ h
  · rw [Option.bind_eq_some_iff] at h
    obtain ⟨m, _, h⟩ := h
    exact key m _ h
theorem print_len (l : Int) (c : Nat) : (print l c).length ≤ 1000 := by
  have h1 := P.decimal_length l
  have h2 := join_len (catsTo c 64)
  have h3 := catsTo_len c 64
  unfold print
  split
  · omega
  · simp; omega
end Go.Proofs.YtbilhdfoajahkaaDoor.L
