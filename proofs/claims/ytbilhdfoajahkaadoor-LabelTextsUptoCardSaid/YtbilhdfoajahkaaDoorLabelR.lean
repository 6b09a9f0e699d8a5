/-
  The reference's way to read a label's text, sign by sign, and that it reads what the program's way reads.
-/
import Derived.Test.YtbilhdfoajahkaaDoorLabelP
import Derived.Test.YtbilhdfoajahkaaDoorRefO
namespace Go.Proofs.YtbilhdfoajahkaaDoor.L
open T

/-- What the reference does with a number that ends. -/
def refStep (level : Bool) (last : Int) (n : Nat) : Bool := if level then decide (n ≤ 15) else decide (n ≤ 63) && decide (last < (n : Int))
def refP (level : Bool) (L C : Nat) (last : Int) (now : List UInt8) : List UInt8 → Option (Nat × Nat)
  | [] => (P.number now).bind fun n => if refStep level last n then (if level then some (n, C) else some (L, C + 2 ^ n)) else none
  | x :: r => if x ≠ 58 ∧ x ≠ 44 then refP level L C last (now ++ [x]) r
    else (P.number now).bind fun n => if (x == 58) = level then (if refStep level last n then (if level then refP false n C last [] r else refP false L (C + 2 ^ n) n [] r) else none) else none

theorem catsText_one (n : Nat) : catsText [n] = P.decimal (n : Int) := by
  unfold catsText Lib.join
  simp
theorem catsText_cons (n m : Nat) (r : List Nat) : catsText (n :: m :: r) = P.decimal (n : Int) ++ 44 :: catsText (m :: r) := by
  unfold catsText Lib.join
  rw [List.map_cons, List.map_cons, List.intercalate_cons_cons]
  simp
def Rise (last : Int) (xs : List Nat) : Prop := xs.Pairwise (· < ·) ∧ ∀ x ∈ xs, last < (x : Int) ∧ x ≤ 63
theorem add_or {C n : Nat} {last : Int} (hC : ∀ i, C.testBit i = true → (i : Int) ≤ last) (hn : last < (n : Int)) : C + 2 ^ n = C ||| 2 ^ n := by
  refine (or_add ?_).symm
  cases h : C.testBit n with
  | false => rfl
  | true => have := hC n h; omega
theorem bits_or {C n : Nat} {last : Int} (hC : ∀ i, C.testBit i = true → (i : Int) ≤ last) (hn : last < (n : Int)) : ∀ i, (C ||| 2 ^ n).testBit i = true → (i : Int) ≤ (n : Int) := by
  intro i hi
  rw [Nat.testBit_or, Nat.testBit_two_pow, Bool.or_eq_true, decide_eq_true_iff] at hi
  rcases hi with hi | hi
  · have := hC i hi; omega
  · omega

/-- What is read behind the level. -/
theorem refP_sound (L : Nat) : ∀ (r now : List UInt8) (C : Nat) (last : Int) (L' C' : Nat), (∀ i, C.testBit i = true → (i : Int) ≤ last) → refP false L C last now r = some (L', C') →
    L' = L ∧ ∃ xs, xs ≠ [] ∧ Rise last xs ∧ now ++ r = catsText xs ∧ C' = xs.foldl (fun a x => a ||| 2 ^ x) C := by
  intro r
  induction r with
  | nil =>
    intro now C last L' C' hC h
    rw [refP, Option.bind_eq_some_iff] at h
    obtain ⟨n, hn, h⟩ := h
    split at h
    · next hs =>
      simp [refStep] at hs
      simp at h
      refine ⟨h.1.symm, [n], by simp, ⟨by simp, fun x hx => ?_⟩, ?_, ?_⟩
      · simp at hx; subst hx; exact ⟨hs.2, hs.1⟩
      · rw [catsText_one, List.append_nil]; exact (P.decimal_number _ _ hn).symm
      · rw [← h.2, add_or hC hs.2]; rfl
    · cases h
  | cons x r ih =>
    intro now C last L' C' hC h
    rw [refP] at h
    split at h
    · have := ih _ C last L' C' hC h
      simpa using this
    · next hx =>
      rw [Option.bind_eq_some_iff] at h
      obtain ⟨n, hn, h⟩ := h
      split at h
      · next hb =>
        split at h
        · next hs =>
          simp [refStep] at hs
          simp only [Bool.false_eq_true, if_false] at h
          rw [add_or hC hs.2] at h
          obtain ⟨hL, xs, hne, hrise, htext, hfold⟩ := ih [] _ _ L' C' (bits_or hC hs.2) h
          have hx44 : x = 44 := by
            have : ¬ x = 58 := by simpa using hb
            by_cases h44 : x = 44
            · exact h44
            · exact absurd ⟨this, h44⟩ hx
          refine ⟨hL, n :: xs, by simp, ⟨List.pairwise_cons.2 ⟨fun y hy => by have := (hrise.2 y hy).1; omega, hrise.1⟩, fun y hy => ?_⟩, ?_, hfold⟩
          · rcases List.mem_cons.1 hy with rfl | hy
            · exact ⟨hs.2, hs.1⟩
            · have := hrise.2 y hy; exact ⟨by omega, this.2⟩
          · obtain ⟨m, t, rfl⟩ : ∃ m t, xs = m :: t := by
              cases xs with
              | nil => exact absurd rfl hne
              | cons m t => exact ⟨m, t, rfl⟩
            rw [catsText_cons, ← htext, hx44, P.decimal_number _ _ hn, List.nil_append]
        · cases h
      · cases h
theorem sorted_eq : ∀ (us vs : List Nat), us.Pairwise (· < ·) → vs.Pairwise (· < ·) → (∀ x, x ∈ us ↔ x ∈ vs) → us = vs
  | [], [], _, _, _ => rfl
  | [], b :: _, _, _, h => absurd ((h b).2 (by simp)) (by simp)
  | a :: _, [], _, _, h => absurd ((h a).1 (by simp)) (by simp)
  | a :: us, b :: vs, ha, hb, h => by
    rw [List.pairwise_cons] at ha hb
    have e : a = b := by
      have h1 := (h a).1 (by simp)
      have h2 := (h b).2 (by simp)
      rcases List.mem_cons.1 h1 with h1 | h1
      · exact h1
      · rcases List.mem_cons.1 h2 with h2 | h2
        · exact h2.symm
        · have := ha.1 b h2; have := hb.1 a h1; omega
    subst e
    rw [sorted_eq us vs ha.2 hb.2 fun x => ⟨fun hx => ?_, fun hx => ?_⟩]
    · rcases List.mem_cons.1 ((h x).1 (by simp [hx])) with rfl | h'
      · have := ha.1 x hx; omega
      · exact h'
    · rcases List.mem_cons.1 ((h x).2 (by simp [hx])) with rfl | h'
      · have := hb.1 x hx; omega
      · exact h'
theorem cats_sorted (c : Nat) : (catsTo c 64).Pairwise (· < ·) := by
  unfold catsTo
  exact List.Pairwise.filter _ List.pairwise_lt_range
theorem cats_mem (c x : Nat) : x ∈ catsTo c 64 ↔ x < 64 ∧ c.testBit x = true := by
  unfold catsTo
  rw [List.mem_filter, List.mem_range]
theorem cats_of_fold {xs : List Nat} {last : Int} (h : Rise last xs) : catsTo (xs.foldl (fun a x => a ||| 2 ^ x) 0) 64 = xs := by
  refine sorted_eq _ _ (cats_sorted _) h.1 fun x => ?_
  rw [cats_mem, fold_bit]
  simp only [Nat.zero_testBit, Bool.false_or, decide_eq_true_iff]
  exact ⟨fun h => h.2, fun hx => ⟨by have := (h.2 x hx).2; omega, hx⟩⟩
theorem fold_small {xs : List Nat} : ∀ {c : Nat}, c < 18446744073709551616 → (∀ x ∈ xs, x ≤ 63) → xs.foldl (fun a x => a ||| 2 ^ x) c < 18446744073709551616 := by
  induction xs with
  | nil => intro c hc _; exact hc
  | cons x r ih =>
    intro c hc h
    rw [List.foldl_cons]
    exact ih (or_small hc (Nat.pow_lt_pow_right (a := 2) (n := 64) (by omega) (by have := h x (by simp); omega))) (fun y hy => h y (by simp [hy]))

/-- The whole of a text that is read is the label's text. -/
theorem refP_whole : ∀ (l now : List UInt8) (n c : Nat), refP true 0 0 (-1) now l = some (n, c) → print n c = now ++ l ∧ c < 18446744073709551616 ∧ n ≤ 15 := by
  intro l
  induction l with
  | nil =>
    intro now n c h
    rw [refP, Option.bind_eq_some_iff] at h
    obtain ⟨m, hm, h⟩ := h
    split at h
    · next hs =>
      simp [refStep] at hs
      simp at h
      obtain ⟨rfl, rfl⟩ := h
      refine ⟨?_, by omega, hs⟩
      have : catsTo 0 64 = [] := by decide
      rw [print, if_pos this, List.append_nil]; exact P.decimal_number _ _ hm
    · cases h
  | cons x r ih =>
    intro now n c h
    rw [refP] at h
    split at h
    · have := ih _ n c h
      simpa using this
    · next hx =>
      rw [Option.bind_eq_some_iff] at h
      obtain ⟨m, hm, h⟩ := h
      split at h
      · next hb =>
        split at h
        · next hs =>
          simp [refStep] at hs
          simp only [if_true] at h
          obtain ⟨rfl, xs, hne, hrise, htext, hfold⟩ := refP_sound m r [] 0 (-1) n c (fun i hi => by simp at hi) h
          have hx58 : x = 58 := by simpa using hb
          have hc := cats_of_fold hrise
          rw [← hfold] at hc
          refine ⟨?_, by rw [hfold]; exact fold_small (by omega) (fun x hx => (hrise.2 x hx).2), hs⟩
          rw [print, hc, if_neg hne, ← htext, P.decimal_number _ _ hm, hx58]
          simp
        · cases h
      · cases h

theorem refP_digits (level : Bool) (L C : Nat) (last : Int) : ∀ (ds now r : List UInt8), (∀ x ∈ ds, x ≠ 58 ∧ x ≠ 44) → refP level L C last now (ds ++ r) = refP level L C last (now ++ ds) r
  | [], now, r, _ => by simp
  | x :: ds, now, r, h => by
    rw [List.cons_append, refP, if_pos (h x (by simp)), refP_digits level L C last ds _ r (fun y hy => h y (by simp [hy]))]
    simp
theorem dec_plain (n : Int) : ∀ x ∈ P.decimal n, x ≠ 58 ∧ x ≠ 44 := fun x hx => ⟨dec_no n 58 (.inl rfl) x hx, dec_no n 44 (.inr rfl) x hx⟩
theorem num_dec (n : Nat) (h : n ≤ 63) : P.number (P.decimal (n : Int)) = some n := by
  have := P.number_decimal (n : Int) (by omega) (by omega)
  rwa [Int.toNat_natCast] at this
theorem refP_nums (L : Nat) : ∀ (xs : List Nat) (C : Nat) (last : Int), xs ≠ [] → Rise last xs → (∀ i, C.testBit i = true → (i : Int) ≤ last) →
    refP false L C last [] (catsText xs) = some (L, xs.foldl (fun a x => a ||| 2 ^ x) C)
  | [n], C, last, _, hr, hC => by
    have hn := hr.2 n (by simp)
    have h := refP_digits false L C last (P.decimal (n : Int)) [] [] (dec_plain _)
    rw [List.append_nil, List.nil_append] at h
    rw [catsText_one, h, refP, num_dec n hn.2, Option.bind_some, if_pos (by simp [refStep, hn.1, hn.2])]
    simp only [Bool.false_eq_true, if_false]
    rw [add_or hC hn.1]; rfl
  | n :: m :: r, C, last, _, hr, hC => by
    have hn := hr.2 n (by simp)
    have hp := List.pairwise_cons.1 hr.1
    have h := refP_digits false L C last (P.decimal (n : Int)) [] (44 :: catsText (m :: r)) (dec_plain _)
    rw [List.nil_append] at h
    rw [catsText_cons, h, refP, if_neg (by decide), num_dec n hn.2, Option.bind_some, if_pos (by decide), if_pos (by simp [refStep, hn.1, hn.2])]
    simp only [Bool.false_eq_true, if_false]
    rw [add_or hC hn.1, refP_nums L (m :: r) _ n (by simp) ⟨hp.2, fun x hx => ⟨by have := hp.1 x hx; omega, (hr.2 x (by simp [hx])).2⟩⟩ (bits_or hC hn.1)]
    rfl
theorem refP_print (n c : Nat) (hn : n ≤ 15) (hc : c < 18446744073709551616) : refP true 0 0 (-1) [] (print n c) = some (n, c) := by
  have hb := cats_back c hc
  unfold print
  split
  · next he =>
    have h := refP_digits true 0 0 (-1) (P.decimal (n : Int)) [] [] (dec_plain _)
    rw [List.append_nil, List.nil_append] at h
    rw [h, refP, num_dec n (by omega), Option.bind_some, if_pos (by simp [refStep, hn])]
    rw [he] at hb
    simp only [List.foldl_nil] at hb
    simp [hb]
  · next he =>
    have h := refP_digits true 0 0 (-1) (P.decimal (n : Int)) [] (58 :: catsText (catsTo c 64)) (dec_plain _)
    rw [List.nil_append] at h
    rw [show P.decimal (n : Int) ++ [58] ++ catsText (catsTo c 64) = P.decimal (n : Int) ++ 58 :: catsText (catsTo c 64) by simp, h, refP, if_neg (by decide), num_dec n (by omega), Option.bind_some, if_pos (by decide), if_pos (by simp [refStep, hn]), if_pos rfl,
      refP_nums n (catsTo c 64) 0 (-1) he ⟨cats_sorted c, fun x hx => by have := (cats_mem c x).1 hx; omega⟩ (fun i hi => by simp at hi), hb]

/-- The reference's way reads what the program's way reads. -/
theorem refP_parse (l : List UInt8) : refP true 0 0 (-1) [] l = parse l := by
  cases hp : parse l with
  | some q =>
    obtain ⟨n, c⟩ := q
    obtain ⟨h1, h2, h3⟩ := print_parse hp
    rw [← h1]; exact refP_print n c h3 h2
  | none =>
    cases hr : refP true 0 0 (-1) [] l with
    | none => rfl
    | some q =>
      obtain ⟨n, c⟩ := q
      obtain ⟨h1, h2, h3⟩ := refP_whole l [] n c hr
      rw [List.nil_append] at h1
      have := parse_print (n : Int) c h2 (by unfold rightB; rw [decide_eq_true (by omega), decide_eq_true (by omega)]; rfl)
      rw [h1, hp] at this
      cases this
end Go.Proofs.YtbilhdfoajahkaaDoor.L
