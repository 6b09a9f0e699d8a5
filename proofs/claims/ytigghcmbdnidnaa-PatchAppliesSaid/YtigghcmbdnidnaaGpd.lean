/-
  Plain facts on numbers and their texts: the text of a number up to 2^31 - 1 is read as that number; what is read as a number is that number's text; reading without a bound and asking at the end comes to the same.
  Small facts on texts as bytes; the contracts of text.Number and text.Decimal in closed form.
  The contract of text.Name: it returns, whatever text it is handed, what the plain function says, and leaves the world as it was.
  The contracts of the reference's Number, Name and Decimal: they come to the same plain functions as the program's own.
  The contract of the reference's Decimal, by induction over the number.
  The contract of the reference's Lines: for all bytes of at most 2^22.
  The contracts of the reference's Right and Join: for all lines of a bulk of at most 2^22.
  What the laws of layer 5 ask of the functions that they call, in one form each.
  A map from lines to numbers, kept as the list of the lines that it knows, in the order of their numbers; the contract of intern's number.
  The contract of intern's number: the numbers of lines, those that are known going on.
  The contract of intern's Numbers: rows of numbers in memory.
-/
import Derived.Test.YtigghcmbdnidnaaGpa
import Derived.Deep.RegionWith
import Derived.Test.YtigghcmbdnidnaaGpc
import Derived.Maps.OwnSet
import Derived.Maps.Views
import Derived.DeepKeys4
import Derived.WideKeyPair
namespace Go.Proofs.Ytigghcmbdnidnaa.P

/-- The digits of a list read on from n, without a bound. -/
def valGo : List UInt8 → Nat → Option Nat
  | [], n => some n
  | c :: r, n => if c.toNat < 48 ∨ 57 < c.toNat then none else valGo r (10 * n + (c.toNat - 48))
/-- Asked at the end. -/
def upTo (o : Option Nat) : Option Nat := o.bind fun m => if 2147483647 < m then none else some m

theorem valGo_ge : ∀ (l : List UInt8) (n m : Nat), valGo l n = some m → n * 10 ^ l.length ≤ m
  | [], n, m, h => by simp [valGo] at h; simp; omega
  | c :: r, n, m, h => by
    rw [valGo] at h
    split at h
    · cases h
    · have := valGo_ge r _ m h
      rw [List.length_cons, Nat.pow_succ]
      have e : (10 * n) * 10 ^ r.length ≤ (10 * n + (c.toNat - 48)) * 10 ^ r.length := Nat.mul_le_mul_right _ (by omega)
      have e2 : n * (10 ^ r.length * 10) = (10 * n) * 10 ^ r.length := by rw [Nat.mul_comm (10 ^ r.length) 10, ← Nat.mul_assoc, Nat.mul_comm n 10]
      omega
theorem valGo_le (l : List UInt8) (n m : Nat) (h : valGo l n = some m) : n ≤ m := by
  have h1 := valGo_ge l n m h
  have h2 : n * 1 ≤ n * 10 ^ l.length := Nat.mul_le_mul_left _ (Nat.pow_pos (by omega))
  omega

theorem numGo_val : ∀ (l : List UInt8) (n : Nat), n ≤ 2147483647 → numGo l n = upTo (valGo l n)
  | [], n, h => by simp [numGo, valGo, upTo]; omega
  | c :: r, n, h => by
    rw [numGo, valGo]
    split
    · rfl
    · split
      · next hb =>
        cases e : valGo r (10 * n + (c.toNat - 48)) with
        | none => rfl
        | some m =>
          have := valGo_le _ _ _ e
          simp [upTo]; omega
      · next hb => exact numGo_val r _ (by omega)

/-- Too long: more than ten digits without a 0 ahead. -/
theorem number_long (l : List UInt8) (h : 10 < l.length) : number l = none := by
  rw [number]
  split
  · rfl
  · next hc =>
    match l, h, hc with
    | c :: r, h, hc =>
      rw [numGo_val _ _ (by omega)]
      cases e : valGo (c :: r) 0 with
      | none => rfl
      | some m =>
        have hne : c ≠ 48 := fun e => hc (.inr ⟨by rw [e]; rfl, by simp at h ⊢; omega⟩)
        rw [valGo] at e
        split at e
        · cases e
        · next hd =>
          have h1 := valGo_ge r _ m e
          have hc48 : c.toNat ≠ 48 := fun e => hne (UInt8.toNat_inj.1 e)
          have h2 : 1 * 10 ^ 10 ≤ (10 * 0 + (c.toNat - 48)) * 10 ^ r.length :=
            Nat.mul_le_mul (by omega) (Nat.pow_le_pow_right (by omega) (by simp at h; omega))
          simp [upTo]; omega
theorem number_val (l : List UInt8) (h0 : l ≠ []) (h : ¬ (1 < l.length ∧ l.head? = some 48)) : number l = upTo (valGo l 0) := by
  rw [number, if_neg (by rintro (e | e); exact h0 e; exact h ⟨e.2, e.1⟩), numGo_val _ _ (by omega)]

theorem numGo_snoc : ∀ (l : List UInt8) (c : UInt8) (n : Nat), numGo (l ++ [c]) n = (numGo l n).bind fun m => numGo [c] m
  | [], c, n => by simp [numGo]
  | x :: r, c, n => by
    rw [List.cons_append, numGo, numGo]
    split
    · rfl
    · split
      · rfl
      · exact numGo_snoc r c _

theorem digit (d : Nat) (h : d < 10) : (UInt8.ofNat (48 + d)).toNat = 48 + d := by
  rw [UInt8.toNat_ofNat']; omega
theorem digit_of (c : UInt8) (h : 48 ≤ c.toNat) (h2 : c.toNat ≤ 57) : UInt8.ofNat (48 + (c.toNat - 48)) = c := by
  rw [show 48 + (c.toNat - 48) = c.toNat by omega]; simp

theorem numGo_dec (u : Nat) (h : u ≤ 2147483647) : numGo (Lib.decDigits u) 0 = some u := by
  induction u using Nat.strongRecOn with
  | ind u ih =>
    rw [Lib.decDigits]
    split
    · next hu => rw [numGo, digit u hu, if_neg (by omega), if_neg (by omega), numGo]; congr 1; omega
    · next hu =>
      rw [numGo_snoc, ih (u / 10) (by omega) (by omega)]
      show numGo [_] (u / 10) = _
      rw [numGo, digit _ (by omega), if_neg (by omega), if_neg (by omega), numGo]
      congr 1; omega
theorem dec_ne (u : Nat) : Lib.decDigits u ≠ [] := by
  rw [Lib.decDigits]; split <;> simp
theorem dec_head (u : Nat) : 1 ≤ u → (Lib.decDigits u).head? ≠ some 48 := by
  induction u using Nat.strongRecOn with
  | ind u ih =>
    intro hu1
    rw [Lib.decDigits]
    split
    · next hu =>
      simp only [List.head?_cons, ne_eq, Option.some.injEq]
      intro e
      have := congrArg UInt8.toNat e
      rw [digit u hu] at this
      simp at this; omega
    · next hu =>
      have hne := dec_ne (u / 10)
      have := ih (u / 10) (by omega) (by omega)
      cases e : Lib.decDigits (u / 10) with
      | nil => exact absurd e hne
      | cons x r => rw [e] at this; simpa using this
theorem number_dec (u : Nat) (h : u ≤ 2147483647) : number (Lib.decDigits u) = some u := by
  rw [number, if_neg, numGo_dec u h]
  rintro (e | ⟨e1, e2⟩)
  · exact dec_ne u e
  · rcases Nat.eq_zero_or_pos u with h0 | h0
    · subst h0; rw [Lib.decDigits_one (by omega)] at e2; simp at e2
    · exact dec_head u h0 e1

theorem numGo_le (l : List UInt8) (n m : Nat) (hn : n ≤ 2147483647) (h : numGo l n = some m) : n ≤ m ∧ m ≤ 2147483647 := by
  rw [numGo_val l n hn] at h
  cases e : valGo l n with
  | none => rw [e] at h; cases h
  | some k =>
    rw [e] at h
    have := valGo_le l n k e
    simp only [upTo, Option.bind_some] at h
    split at h
    · cases h
    · injection h with h; omega

theorem dec_numGo (l : List UInt8) : ∀ n, l ≠ [] → (l.head? = some 48 → l.length = 1) → numGo l 0 = some n → Lib.decDigits n = l := by
  induction hl : l.length generalizing l with
  | zero => intro n h; exact absurd (List.eq_nil_of_length_eq_zero hl) h
  | succ k ih =>
    intro n hne hz h
    obtain ⟨i, c, rfl⟩ : ∃ i c, l = i ++ [c] := ⟨l.dropLast, l.getLast hne, (List.dropLast_concat_getLast hne).symm⟩
    rw [numGo_snoc] at h
    cases em : numGo i 0 with
    | none => rw [em] at h; cases h
    | some m =>
      rw [em] at h
      simp only [Option.bind_some, numGo] at h
      split at h
      · cases h
      · next hd =>
        split at h
        · cases h
        · next hb =>
          injection h with h
          subst h
          by_cases hi : i = []
          · subst hi
            simp only [numGo, Option.some.injEq] at em
            subst em
            rw [Lib.decDigits_one (by omega), show 48 + (10 * 0 + (c.toNat - 48)) = 48 + (c.toNat - 48) by omega, digit_of c (by omega) (by omega)]
            rfl
          · have hih := ih i (by simp at hl; omega) m hi (fun e => by
              have : (i ++ [c]).head? = some 48 := by
                cases i with
                | nil => exact absurd rfl hi
                | cons x r => simpa using e
              have := hz this
              have hik : i.length = k := by simp at hl; omega
              exact absurd (List.eq_nil_of_length_eq_zero (by omega)) hi) em
            have hm : 1 ≤ m := by
              rcases Nat.eq_zero_or_pos m with h0 | h0
              · subst h0
                rw [Lib.decDigits_one (by omega)] at hih
                have : (i ++ [c]).head? = some 48 := by rw [← hih]; rfl
                have := hz this
                have hik : i.length = k := by simp at hl; omega
                exact absurd (List.eq_nil_of_length_eq_zero (by omega)) hi
              · exact h0
            rw [Lib.decDigits, dif_neg (by omega), show (10 * m + (c.toNat - 48)) / 10 = m by omega, show (10 * m + (c.toNat - 48)) % 10 = c.toNat - 48 by omega, hih, digit_of c (by omega) (by omega)]
theorem dec_number (l : List UInt8) (n : Nat) (h : number l = some n) : Lib.decDigits n = l ∧ n ≤ 2147483647 := by
  rw [number] at h
  split at h
  · cases h
  · next hc =>
    refine ⟨dec_numGo l n (fun e => hc (.inl e)) (fun e => ?_) h, (numGo_le l 0 n (by omega) h).2⟩
    have : ¬ 1 < l.length := fun e2 => hc (.inr ⟨e, e2⟩)
    cases l with
    | nil => simp at e
    | cons x r => simp at this ⊢; omega

theorem decimal_in (n : Int) (h0 : 0 ≤ n) (h1 : n ≤ 2147483647) : decimal n = Lib.decDigits n.toNat := by rw [decimal, if_neg (by omega)]
theorem decimal_out (n : Int) (h : n < 0 ∨ 2147483647 < n) : decimal n = [63] := by rw [decimal, if_pos h]
theorem number_decimal (n : Int) (h0 : 0 ≤ n) (h1 : n ≤ 2147483647) : number (decimal n) = some n.toNat := by
  rw [decimal_in n h0 h1, number_dec _ (by omega)]
theorem number_untold (n : Int) (h : n < 0 ∨ 2147483647 < n) : number (decimal n) = none := by
  rw [decimal_out n h]; decide
theorem decimal_number (l : List UInt8) (n : Nat) (h : number l = some n) : decimal n = l := by
  have := dec_number l n h
  rw [decimal_in n (by omega) (by omega)]
  simpa using this.1
theorem decimal_length (n : Int) : (decimal n).length ≤ 10 := by
  by_cases h : n < 0 ∨ 2147483647 < n
  · rw [decimal_out n h]; decide
  · rw [decimal_in n (by omega) (by omega)]
    rcases Nat.lt_or_ge 10 (Lib.decDigits n.toNat).length with hl | hl
    · have := number_long _ hl
      rw [number_dec _ (by omega)] at this
      cases this
    · exact hl
end Go.Proofs.Ytigghcmbdnidnaa.P

namespace Go.Proofs.Ytigghcmbdnidnaa.T
open Go.RowKit

theorem list_data (l : List UInt8) : (⟨l.toArray⟩ : ByteArray).data.toList = l := by simp
theorem list_size (l : List UInt8) : (⟨l.toArray⟩ : ByteArray).size = l.length := by simp [ByteArray.size]
theorem str_eta (s : ByteArray) : (⟨s.data.toList.toArray⟩ : ByteArray) = s := by cases s; simp

end Go.Proofs.Ytigghcmbdnidnaa.T

namespace Go.Proofs.Ytigghcmbdnidnaa.T
open Go.RowKit

/-- May a text be a name? -/
theorem name_long (s : ByteArray) (h : s.size < 1 ∨ 64 < s.size) : P.name s.data.toList = false := by
  unfold P.name; rw [← Lib.size_eq]
  rcases h with h | h
  · rw [decide_eq_false (by omega)]; rfl
  · rw [decide_eq_false (p := s.size ≤ 64) (by omega), Bool.and_false]; rfl
theorem name_all (s : ByteArray) (h1 : 1 ≤ s.size) (h2 : s.size ≤ 64) : P.name s.data.toList = s.data.toList.all fun c => decide (33 ≤ c.toNat) && decide (c.toNat ≤ 126) := by
  unfold P.name; rw [← Lib.size_eq, decide_eq_true h1, decide_eq_true h2]; rfl
theorem all_bad (s : ByteArray) (k : Nat) (hk : k < s.size) (h : (s[k].toNat : Int) < 33 ∨ 126 < (s[k].toNat : Int)) : (s.data.toList.all fun c => decide (33 ≤ c.toNat) && decide (c.toNat ≤ 126)) = false := by
  have hl : k < s.data.toList.length := by rw [← Lib.size_eq]; exact hk
  rw [List.all_eq_false]
  refine ⟨s.data.toList[k], List.getElem_mem hl, ?_⟩
  rw [byte s k hk hl]
  simp only [Bool.and_eq_true, decide_eq_true_eq, not_and]
  omega

end Go.Proofs.Ytigghcmbdnidnaa.T

namespace Go.Proofs.Ytigghcmbdnidnaa.T
open Go.RowKit

theorem val_bad (s : ByteArray) (k n : Nat) (hk : k < s.size) (h : (s[k].toNat : Int) < 48 ∨ 57 < (s[k].toNat : Int)) : P.valGo (s.data.toList.drop k) n = none := by
  have hl : k < s.data.toList.length := by rw [← Lib.size_eq]; exact hk
  rw [List.drop_eq_getElem_cons hl, P.valGo, if_pos (by rw [byte s k hk hl]; omega)]
theorem val_on (s : ByteArray) (k n : Nat) (hk : k < s.size) (h1 : 48 ≤ (s[k].toNat : Int)) (h2 : (s[k].toNat : Int) ≤ 57) :
    P.valGo (s.data.toList.drop k) n = P.valGo (s.data.toList.drop (k + 1)) (10 * n + (s[k].toNat - 48)) := by
  have hl : k < s.data.toList.length := by rw [← Lib.size_eq]; exact hk
  have e := byte s k hk hl
  rw [List.drop_eq_getElem_cons hl, P.valGo, if_neg (by rw [e]; omega), e]
theorem val_end (s : ByteArray) (n : Nat) : P.valGo (s.data.toList.drop s.size) n = some n := by
  rw [Lib.size_eq, List.drop_length, P.valGo]
theorem pow_bound {n d k : Nat} (h : n < 10 ^ k) (hd : d < 10) (hk : k < 10) : 10 * n + d < 10 ^ (k + 1) ∧ 10 * n + d ≤ 9999999999 := by
  have h1 : 10 * n + d < 10 ^ (k + 1) := by rw [Nat.pow_succ]; omega
  have h2 : 10 ^ (k + 1) ≤ 10 ^ 10 := Nat.pow_le_pow_right (by omega) (by omega)
  omega
theorem number_val (s : ByteArray) (h : 0 < s.size) (h0 : s.size ≤ 1 ∨ ¬ s[0].toNat = 48) : P.number s.data.toList = P.upTo (P.valGo s.data.toList 0) := by
  rw [number_go s h (by rcases h0 with h0 | h0; exact .inl (by omega); exact .inr h0), P.numGo_val _ _ (by omega)]
theorem upTo_none : P.upTo none = none := rfl
theorem upTo_big (n : Nat) (h : 2147483647 < n) : P.upTo (some n) = none := by simp [P.upTo, h]
theorem upTo_in (n : Nat) (h : n ≤ 2147483647) : P.upTo (some n) = some n := by simp [P.upTo]; omega

end Go.Proofs.Ytigghcmbdnidnaa.T

namespace Go.Proofs.Ytigghcmbdnidnaa.T
open Go.RowKit

theorem bcell {W w1 : World} (hb : Below W.heap.size W w1) (b o : Nat) (h : b < W.heap.size) : w1.cell? ⟨b, o, none⟩ = W.cell? ⟨b, o, none⟩ := hb.cell (p := ⟨b, o, none⟩) h
theorem dec_small (m : Nat) (h : m < 10) : Lib.decDigits m = [UInt8.ofNat (48 + m)] := Lib.decDigits_one h
theorem dec_big (m : Nat) (h : ¬ m < 10) : Lib.decDigits m = Lib.decDigits (m / 10) ++ [UInt8.ofNat (48 + m % 10)] := by
  conv => lhs; rw [Lib.decDigits, dif_neg h]
theorem str_append (l r : List UInt8) : (⟨l.toArray⟩ : ByteArray) ++ ⟨r.toArray⟩ = ⟨(l ++ r).toArray⟩ := by
  apply ByteArray.ext
  simp

end Go.Proofs.Ytigghcmbdnidnaa.T

namespace Go.Proofs.Ytigghcmbdnidnaa.T
open Go.RowKit

theorem lines_nl {l cur : List UInt8} {k : Nat} (hk : k < l.length) (h : l[k].toNat = 10) : P.lines cur (l.drop k) = (cur, false) :: P.lines [] (l.drop (k + 1)) := by
  rw [List.drop_eq_getElem_cons hk, P.lines, if_pos (UInt8.toNat_inj.1 h)]
theorem lines_more {l cur : List UInt8} {k : Nat} (hk : k < l.length) (h : ¬ l[k].toNat = 10) : P.lines cur (l.drop k) = P.lines (cur ++ [l[k]]) (l.drop (k + 1)) := by
  rw [List.drop_eq_getElem_cons hk, P.lines, if_neg (fun e => h (by rw [e]; rfl))]

end Go.Proofs.Ytigghcmbdnidnaa.T

namespace Go.Proofs.Ytigghcmbdnidnaa.T
open Go.RowKit

set_option maxHeartbeats 1000000 in
set_option maxRecDepth 100000 in
theorem refRight_anyT (A : Option Addr) (cap : Nat) (xs : List (List UInt8 × Bool)) (w : World) (hlen : xs.length ≤ 4194304) (hb : ∀ y ∈ xs, y.1.length ≤ maxLen) (hA : LinesIn w A xs) :
    Calls Try.prog 18 #[.slice A xs.length cap] w fun e w' => e = .returned (.bool (P.right xs)) ∧ w = w' := by
  have HA := Lib.hid hA
  clear hA
  go_enter Try.func18, Try.ntmps18
  go_wp2_with fail
  go_loop [3] (fun i => ∃ k : Nat, k ≤ xs.length ∧ i = .int .i64 k ∧ Hid (P.right xs = P.right (xs.drop k))) (fun i => xs.length - (intOf i).toNat)
  case atStart => exact ⟨0, Nat.zero_le _, rfl, Lib.hid rfl⟩
  case round =>
    obtain ⟨k, hk, rfl, HR⟩ := hrel
    by_cases hlt : k < xs.length
    · obtain ⟨bk, off, hAe, hbk, hL⟩ := HA.out (by omega)
      subst hAe
      obtain ⟨c0, c1⟩ := hL k hlt
      have h0k : (0 : Int) ≤ (k : Int) := Int.natCast_nonneg _
      have h1k : (k : Int) < (xs.length : Int) := by omega
      have htl := hb _ (List.getElem_mem hlt)
      unfold maxLen at htl
      have HS := Lib.hid (HR.out.trans (right_step hlt))
      clear hL HR
      obtain ⟨s, hs⟩ : ∃ s : ByteArray, s = ⟨xs[k].1.toArray⟩ := ⟨_, rfl⟩
      have hst : xs[k].1 = s.data.toList := by rw [hs]
      have hsz : s.size ≤ 9223372036854775807 := by rw [Lib.size_eq, ← hst]; omega
      rw [← hs] at c0
      rw [hst] at HS
      generalize xs[k].2 = b at *
      clear hs hst htl
      have hw : IntKind.i64.wrap ((k : Int) + 1) = (k : Int) + 1 := IntWalk.i64_in _ (by omega)
      go_wp2_with fail
      go_loop [4] (fun a => ∃ j : Nat, j ≤ s.size ∧ a = .int .i64 j ∧ Hid (∀ i (hi : i < s.size), i < j → ¬ (s[i].toNat : Int) = 10)) (fun a => s.size - (intOf a).toNat)
      case atStart => exact ⟨0, Nat.zero_le _, rfl, Lib.hid (fun j _ h => absurd h (by omega))⟩
      case round =>
        obtain ⟨j, hj, rfl, HJ⟩ := hrel
        by_cases hjl : j < s.size
        · by_cases h10 : (s[j].toNat : Int) = 10
          · have hb10 : ((s[j].toNat : Int) == 10) = true := by simp [h10]
            have HY := Lib.hid (show P.right xs = false by rw [HS.out, has_at hjl h10]; rfl)
            clear h10
            go_wp2_with fail
            go_ret
            exact ⟨ret_of (by rw [HY.out]; rfl), rfl⟩
          · have hb10 : ((s[j].toNat : Int) == 10) = false := by simp [h10]
            have HN := Lib.hid h10
            clear h10
            go_wp2_with fail
            go_round
            case rel =>
              refine ⟨j + 1, by omega, by go_num, Lib.hid (fun i hi hij => ?_)⟩
              by_cases e : i = j
              · subst e; exact HN.out
              · exact HJ.out i hi (by omega)
            case measure => simp [intOf]; omega
        · have HN := Lib.hid (has_none (s := s) (fun i hi => HJ.out i hi (by omega)))
          have HM := Lib.hid (show P.right xs = (!(b && (decide (k + 1 < xs.length) || s.data.toList.isEmpty)) && P.right (xs.drop (k + 1))) by rw [HS.out, HN.out]; rfl)
          clear HS HJ HN
          cases b with
          | false =>
            go_wp2_with fail
            go_round
            case rel => exact ⟨k + 1, by omega, by go_num, Lib.hid (by rw [HM.out]; rfl)⟩
            case measure => simp [intOf]; omega
          | true =>
            by_cases hk1 : k + 1 < xs.length
            · have hk2 : (k : Int) + 1 < (xs.length : Int) := by omega
              have HY := Lib.hid (show P.right xs = false by rw [HM.out, decide_eq_true hk1]; rfl)
              go_wp2_with fail
              go_ret
              exact ⟨ret_of (by rw [HY.out]; rfl), rfl⟩
            · have hk2 : ¬ (k : Int) + 1 < (xs.length : Int) := by omega
              by_cases hz : s.size = 0
              · have hz2 : ((s.size : Int) == 0) = true := by simp [hz]
                have he : s.data.toList.isEmpty = true := by rw [List.isEmpty_iff]; exact List.length_eq_zero_iff.1 (by rw [← Lib.size_eq]; exact hz)
                have HY := Lib.hid (show P.right xs = false by rw [HM.out, he, Bool.or_true]; rfl)
                clear he hz
                go_wp2_with fail
                go_ret
                exact ⟨ret_of (by rw [HY.out]; rfl), rfl⟩
              · have hz2 : ((s.size : Int) == 0) = false := beq_eq_false_iff_ne.2 (by omega)
                have he : s.data.toList.isEmpty = false := by
                  rw [List.isEmpty_eq_false_iff]; intro e; have := congrArg List.length e; rw [← Lib.size_eq] at this; exact hz this
                have HY := Lib.hid (show P.right xs = P.right (xs.drop (k + 1)) by rw [HM.out, he, decide_eq_false hk1]; rfl)
                clear he hz
                go_wp2_with fail
                go_round
                case rel => exact ⟨k + 1, by omega, by go_num, Lib.hid HY.out⟩
                case measure => simp [intOf]; omega
    · obtain rfl : k = xs.length := by omega
      have HN := Lib.hid (HR.out.trans (by rw [List.drop_length]; rfl : _ = true))
      go_wp2_with fail
      go_ret
      exact ⟨ret_of (by rw [HN.out]; rfl), rfl⟩

theorem refRight_any (A : Option Addr) (cap : Nat) (xs : List (List UInt8 × Bool)) (w : World) (hb : P.bulk xs ≤ 4194304) (hA : LinesIn w A xs) :
    Calls Try.prog 18 #[.slice A xs.length cap] w fun e w' => e = .returned (.bool (P.right xs)) ∧ w = w' :=
  refRight_anyT A cap xs w (Nat.le_trans (P.length_bulk xs) hb) (fun y hy => by
    obtain ⟨j, hj, rfl⟩ := List.mem_iff_getElem.1 hy
    have := text_len hj
    simp only [maxLen]; omega) hA
end Go.Proofs.Ytigghcmbdnidnaa.T

namespace Go.Proofs.Ytigghcmbdnidnaa.V
set_option linter.unusedVariables false
set_option linter.unusedSimpArgs false
open Go.RowKit
open T
open I (It Lb ItemsIn ItemsAt ItemsOk itCells itCells_snoc itCells_at items_cells own_at own_below alloc1)

def VoEnd (W : World) (ls : List (List UInt8 × Bool)) (ts : List Int) (e : Ending) (w' : World) : Prop :=
  ∃ LA lcap TA tcap, e = .returned (.agg #[.slice LA ls.length lcap, .slice TA ts.length tcap]) ∧ w'.ownsRow W.heap.size 59 2 (.slice LA ls.length lcap) ls.length (lineCells ls) ∧ w'.ownsRow W.heap.size 3 1 (.slice TA ts.length tcap) ts.length (numCells ts) ∧ Below W.heap.size W w'
theorem lines_own {w : World} {base : Nat} {A : Option Addr} {cap : Nat} {xs : List (List UInt8 × Bool)} (h : w.ownsRow base 59 2 (.slice A xs.length cap) xs.length (lineCells xs)) : LinesIn w A xs := by
  obtain ⟨A', cap', hv, _, hI⟩ := lines_of_own h
  injection hv with e1
  subst e1
  exact hI
/-- A row of a call's own stays when a cell of a block of another type is stored. -/
theorem own_stored {w : World} {base g i : Nat} {u : Value} {e e' : TypeId} {size n : Nat} {v : Value} {xs : List Value} {cs : Array Value} (h : w.ownsRow base e size v n xs) (hg : w.heap[g]? = some (.cells cs e' (0, 0))) (hne : e' ≠ e) : (w.setCell ⟨g, i, none⟩ u).ownsRow base e size v n xs :=
  h.kept (grown_set w ⟨g, i, none⟩ u) (own_ne h fun cs' he => by rw [hg] at he; injection he with he; injection he with _ he; exact hne he)
/-- Of: a view of these lines and places. -/
def VoC (fn : FuncId) (A : Option Addr) (n cap : Nat) (f0 : Int) (f1 : Nat) (hx : ByteArray) (l : List It) (ls : List (List UInt8 × Bool)) (ts : List Int) : Prop :=
  ∀ W : World, ItemsIn W A l → Calls Try.prog fn #[.slice A n cap, .agg #[.int .i64 f0, .int .u64 (f1 : Int)], .string hx] W (VoEnd W ls ts)
theorem VoC.at {fn : FuncId} {A : Option Addr} {n cap : Nat} {f0 : Int} {f1 : Nat} {hx : ByteArray} {l : List It} {ls : List (List UInt8 × Bool)} {ts : List Int} (h : VoC fn A n cap f0 f1 hx l ls ts) (W : World) (h1 : ItemsIn W A l) :
    Calls Try.prog fn #[.slice A n cap, .agg #[.int .i64 f0, .int .u64 (f1 : Int)], .string hx] W (VoEnd W ls ts) := h W h1
def LvC (fn : FuncId) : Prop := ∀ W : World, Calls Try.prog fn #[] W fun e w' => e = .returned (.bool true) ∧ Below W.heap.size W w'
theorem LvC.at {fn : FuncId} (h : LvC fn) (W : World) : Calls Try.prog fn #[] W fun e w' => e = .returned (.bool true) ∧ Below W.heap.size W w' := h W
/-- same, of two views of the same lines and places. -/
def SvC (fn : FuncId) (ls : List (List UInt8 × Bool)) (ts : List Int) : Prop := ∀ (W : World) (LA TA LB TB : Option Addr) (lc tc lc' tc' : Nat), LinesIn W LA ls → IntsIn W TA ts → LinesIn W LB ls → IntsIn W TB ts →
  Calls Try.prog fn #[.agg #[.slice LA ls.length lc, .slice TA ts.length tc], .agg #[.slice LB ls.length lc', .slice TB ts.length tc']] W fun e w' => e = .returned (.bool true) ∧ Below W.heap.size W w'
theorem SvC.at {fn : FuncId} {ls : List (List UInt8 × Bool)} {ts : List Int} (h : SvC fn ls ts) (W : World) {LA TA LB TB : Option Addr} {lc tc lc' tc' : Nat} (h1 : LinesIn W LA ls) (h2 : IntsIn W TA ts) (h3 : LinesIn W LB ls) (h4 : IntsIn W TB ts) :
  Calls Try.prog fn #[.agg #[.slice LA ls.length lc, .slice TA ts.length tc], .agg #[.slice LB ls.length lc', .slice TB ts.length tc']] W fun e w' => e = .returned (.bool true) ∧ Below W.heap.size W w' := h W LA TA LB TB lc tc lc' tc' h1 h2 h3 h4
def BsEnd (W : World) (b : List UInt8) (e : Ending) (w' : World) : Prop := ∃ A cap, e = .returned (.slice A b.length cap) ∧ BytesIn w' A b ∧ Below W.heap.size W w'
/-- Text, of a view. -/
def TxC (fn : FuncId) (ls : List (List UInt8 × Bool)) (b : List UInt8) : Prop := ∀ (W : World) (LA TA : Option Addr) (lc tn tc : Nat), LinesIn W LA ls → Calls Try.prog fn #[.agg #[.slice LA ls.length lc, .slice TA tn tc]] W (BsEnd W b)
theorem TxC.at {fn : FuncId} {ls : List (List UInt8 × Bool)} {b : List UInt8} (h : TxC fn ls b) (W : World) {LA TA : Option Addr} {lc tn tc : Nat} (h1 : LinesIn W LA ls) : Calls Try.prog fn #[.agg #[.slice LA ls.length lc, .slice TA tn tc]] W (BsEnd W b) := h W LA TA lc tn tc h1
/-- Join, of lines. -/
def JnC (fn : FuncId) (ls : List (List UInt8 × Bool)) (b : List UInt8) : Prop := ∀ (W : World) (LA : Option Addr) (lc : Nat), LinesIn W LA ls → Calls Try.prog fn #[.slice LA ls.length lc] W (BsEnd W b)
theorem JnC.at {fn : FuncId} {ls : List (List UInt8 × Bool)} {b : List UInt8} (h : JnC fn ls b) (W : World) {LA : Option Addr} {lc : Nat} (h1 : LinesIn W LA ls) : Calls Try.prog fn #[.slice LA ls.length lc] W (BsEnd W b) := h W LA lc h1
def NsEnd (W : World) (ds : List Int) (e : Ending) (w' : World) : Prop := ∃ A cap, e = .returned (.slice A ds.length cap) ∧ IntsIn w' A ds ∧ Below W.heap.size W w'
/-- IDs, of a view. -/
def IdC (fn : FuncId) (A : Option Addr) (n cap : Nat) (l : List It) (ts ds : List Int) : Prop := ∀ (W : World) (LA TA : Option Addr) (ln lc tc : Nat), ItemsIn W A l → IntsIn W TA ts → Calls Try.prog fn #[.slice A n cap, .agg #[.slice LA ln lc, .slice TA ts.length tc]] W (NsEnd W ds)
theorem IdC.at {fn : FuncId} {A : Option Addr} {n cap : Nat} {l : List It} {ts ds : List Int} (h : IdC fn A n cap l ts ds) (W : World) {LA TA : Option Addr} {ln lc tc : Nat} (h1 : ItemsIn W A l) (h2 : IntsIn W TA ts) :
    Calls Try.prog fn #[.slice A n cap, .agg #[.slice LA ln lc, .slice TA ts.length tc]] W (NsEnd W ds) := h W LA TA ln lc tc h1 h2
/-- Ints, of the same numbers. -/
def InC (fn : FuncId) (ds : List Int) : Prop := ∀ (W : World) (A B : Option Addr) (c c' : Nat), IntsIn W A ds → IntsIn W B ds → Calls Try.prog fn #[.slice A ds.length c, .slice B ds.length c'] W fun e w' => e = .returned (.bool true) ∧ Below W.heap.size W w'
theorem InC.at {fn : FuncId} {ds : List Int} (h : InC fn ds) (W : World) {A B : Option Addr} {c c' : Nat} (h1 : IntsIn W A ds) (h2 : IntsIn W B ds) : Calls Try.prog fn #[.slice A ds.length c, .slice B ds.length c'] W fun e w' => e = .returned (.bool true) ∧ Below W.heap.size W w' := h W A B c c' h1 h2
def IsEnd (W : World) (c : List It) (e : Ending) (w' : World) : Prop := ∃ A cap, e = .returned (.slice A c.length cap) ∧ ItemsIn w' A c ∧ Below W.heap.size W w'
/-- Cut. -/
def CuC (fn : FuncId) (A : Option Addr) (n cap : Nat) (f0 : Int) (f1 : Nat) (l c : List It) : Prop := ∀ W : World, ItemsIn W A l → Calls Try.prog fn #[.slice A n cap, .agg #[.int .i64 f0, .int .u64 (f1 : Int)]] W (IsEnd W c)
theorem CuC.at {fn : FuncId} {A : Option Addr} {n cap : Nat} {f0 : Int} {f1 : Nat} {l c : List It} (h : CuC fn A n cap f0 f1 l c) (W : World) (h1 : ItemsIn W A l) : Calls Try.prog fn #[.slice A n cap, .agg #[.int .i64 f0, .int .u64 (f1 : Int)]] W (IsEnd W c) := h W h1
/-- sameItems, of the same items. -/
def SiC (fn : FuncId) (ds : List It) : Prop := ∀ (W : World) (A B : Option Addr) (c c' : Nat), ItemsIn W A ds → ItemsIn W B ds → Calls Try.prog fn #[.slice A ds.length c, .slice B ds.length c'] W fun e w' => e = .returned (.bool true) ∧ Below W.heap.size W w'
theorem SiC.at {fn : FuncId} {ds : List It} (h : SiC fn ds) (W : World) {A B : Option Addr} {c c' : Nat} (h1 : ItemsIn W A ds) (h2 : ItemsIn W B ds) : Calls Try.prog fn #[.slice A ds.length c, .slice B ds.length c'] W fun e w' => e = .returned (.bool true) ∧ Below W.heap.size W w' := h W A B c c' h1 h2

/-- sameItems, of any items. -/
def SgC (fn : FuncId) (xs ys : List It) (b : Bool) : Prop := ∀ (W : World) (A B : Option Addr) (c c' : Nat), ItemsIn W A xs → ItemsIn W B ys → Calls Try.prog fn #[.slice A xs.length c, .slice B ys.length c'] W fun e w' => e = .returned (.bool b) ∧ Below W.heap.size W w'
theorem SgC.at {fn : FuncId} {xs ys : List It} {b : Bool} (h : SgC fn xs ys b) (W : World) {A B : Option Addr} {c c' : Nat} (h1 : ItemsIn W A xs) (h2 : ItemsIn W B ys) : Calls Try.prog fn #[.slice A xs.length c, .slice B ys.length c'] W fun e w' => e = .returned (.bool b) ∧ Below W.heap.size W w' := h W A B c c' h1 h2
/-- The first place that is n, counted from a number on. -/
def fnd (n : Int) : Nat → List Int → Option Nat
  | _, [] => none
  | k, x :: r => if x = n then some k else fnd n (k + 1) r
def fndK (o : Option Nat) : Int := match o with | some i => (i : Int) | none => 0
theorem fnd_drop {n : Int} {ts : List Int} {j : Nat} (hj : j < ts.length) : fnd n j (ts.drop j) = if ts[j] = n then some j else fnd n (j + 1) (ts.drop (j + 1)) := by
  rw [List.drop_eq_getElem_cons hj, fnd]
/-- Is i no place where an item can be put in? -/
def aftNo (ts : List Int) (n : Int) : Bool := decide (n < 0) || decide ((ts.length : Int) < n) || (decide (0 < n) && (decide (ts.getD (n - 1).toNat 0 < 0) || decide (1073741824 ≤ ts.getD (n - 1).toNat 0)))
/-- Where an item is put in ahead of line n, and an error. -/
def aftK (ts : List Int) (n : Int) : Int := if aftNo ts n = true then 0 else if 0 < n then ts.getD (n - 1).toNat 0 + 1 else 0
def aftE (ts : List Int) (n : Int) : Int := if aftNo ts n = true then 2 else 0
def FdC (fn : FuncId) (ts : List Int) (n k : Int) (b : Bool) : Prop := ∀ (W : World) (LA TA : Option Addr) (ln lc tc : Nat), IntsIn W TA ts → Calls Try.prog fn #[.agg #[.slice LA ln lc, .slice TA ts.length tc], .int .i64 n] W fun e w' => e = .returned (.tuple #[.int .i64 k, .bool b]) ∧ Below W.heap.size W w'
theorem FdC.at {fn : FuncId} {ts : List Int} {n k : Int} {b : Bool} (h : FdC fn ts n k b) (W : World) {LA TA : Option Addr} {ln lc tc : Nat} (h1 : IntsIn W TA ts) : Calls Try.prog fn #[.agg #[.slice LA ln lc, .slice TA ts.length tc], .int .i64 n] W fun e w' => e = .returned (.tuple #[.int .i64 k, .bool b]) ∧ Below W.heap.size W w' := h W LA TA ln lc tc h1
def AfC (fn : FuncId) (ts : List Int) (n k r : Int) : Prop := ∀ (W : World) (LA TA : Option Addr) (ln lc tc : Nat), IntsIn W TA ts → Calls Try.prog fn #[.agg #[.slice LA ln lc, .slice TA ts.length tc], .int .i64 n] W fun e w' => e = .returned (.tuple #[.int .i64 k, .int .i64 r]) ∧ Below W.heap.size W w'
theorem AfC.at {fn : FuncId} {ts : List Int} {n k r : Int} (h : AfC fn ts n k r) (W : World) {LA TA : Option Addr} {ln lc tc : Nat} (h1 : IntsIn W TA ts) : Calls Try.prog fn #[.agg #[.slice LA ln lc, .slice TA ts.length tc], .int .i64 n] W fun e w' => e = .returned (.tuple #[.int .i64 k, .int .i64 r]) ∧ Below W.heap.size W w' := h W LA TA ln lc tc h1
theorem rin_is (ds : List Int) (hd : ds.length ≤ maxLen) : InC 15 ds := fun W A B c c' h1 h2 =>
  (rints_any A B c c' ds ds W hd h1 h2).mono fun e w' h => ⟨by rw [h.1, decide_eq_true rfl], h.2⟩
def SlC (ls : List (List UInt8 × Bool)) : Prop := ∀ (W : World) (A B : Option Addr) (c c' : Nat), LinesIn W A ls → LinesIn W B ls → Calls Try.prog 13 #[.slice A ls.length c, .slice B ls.length c'] W fun e w' => e = .returned (.bool true) ∧ Below W.heap.size W w'
theorem SlC.at {ls : List (List UInt8 × Bool)} (h : SlC ls) (W : World) {A B : Option Addr} {c c' : Nat} (h1 : LinesIn W A ls) (h2 : LinesIn W B ls) : Calls Try.prog 13 #[.slice A ls.length c, .slice B ls.length c'] W fun e w' => e = .returned (.bool true) ∧ Below W.heap.size W w' := h W A B c c' h1 h2

end Go.Proofs.Ytigghcmbdnidnaa.V

namespace Go.Proofs.Ytigghcmbdnidnaa.N
set_option linter.unusedVariables false
set_option linter.unusedSimpArgs false
open Go.RowKit Go.Maps
open T
open V (grown_of IntsIn numCells numCells_snoc ints_own drawn_below)
open I (alloc1 own_at own_below)

theorem alloc_at {w : World} {n : Nat} (o : Obj) (h : w.heap.size = n) : (w.alloc o).heap[n]? = some o := by subst h; exact heap_alloc_new w o
abbrev Ln := List UInt8 × Bool
/-- What a line reads as, as a key. -/
def lk (x : Ln) : Lit := .string (keyBytes [.string x.1, .bool x.2])
theorem lnLaw : Keyed Try.prog 59 := Keyed.of_law (deep_law_laid (m := 3) (by kernel_rfl) (by omega) (of_decide_eq_true (by kernel_rfl)) (by kernel_rfl) (by kernel_rfl))
theorem typesSome : ∃ m, Try.prog.types.size = m + 1 + 1 := ⟨Try.prog.types.size - 2, of_decide_eq_true (by kernel_rfl)⟩
theorem lnKT : Try.prog.keyType 59 = true := by kernel_rfl
theorem cLn : Try.prog.cellsOf 59 = 2 := by kernel_rfl
theorem cSt : Try.prog.cellsOf 9 = 1 := by kernel_rfl
theorem cBo : Try.prog.cellsOf 4 = 1 := by kernel_rfl
theorem lnKey {s : ByteArray} (b : Bool) (hs : s.size ≤ maxLen) : keyOf Try.prog 59 (.agg #[.string s, .bool b]) = some (lk (s.data.toList, b)) := by
  obtain ⟨m, hm⟩ := typesSome
  unfold keyOf
  simp only [Try.underlying59]
  rw [if_pos (by simp [lnKT, Value.formed, Try.underlying59, cLn]), hm]
  unfold Program.keyLits
  simp only [Try.underlying59, Value.cells]
  rw [if_pos ⟨by rw [cLn]; rfl, by simp⟩]
  simp [cSt, cBo, Program.keyLits, Try.underlying9, Try.underlying4, hs, lk]
set_option maxRecDepth 100000 in
theorem lk_inj {x y : Ln} (hx : x.1.length ≤ maxLen) (hy : y.1.length ≤ maxLen) (h : lk x = lk y) : x = y := by
  obtain ⟨x1, x2⟩ := x
  obtain ⟨y1, y2⟩ := y
  have e1 : keyOf Try.prog 59 (.agg #[.string ⟨x1.toArray⟩, .bool x2]) = some (lk (x1, x2)) := by
    have := lnKey (s := ⟨x1.toArray⟩) x2 (by rw [list_size]; exact hx)
    rwa [list_data] at this
  have e2 : keyOf Try.prog 59 (.agg #[.string ⟨y1.toArray⟩, .bool y2]) = some (lk (y1, y2)) := by
    have := lnKey (s := ⟨y1.toArray⟩) y2 (by rw [list_size]; exact hy)
    rwa [list_data] at this
  rw [h] at e1
  have := lnLaw.inj e1 e2
  simp only [Value.agg.injEq, Array.mk.injEq, List.cons.injEq, Value.string.injEq, Value.bool.injEq, and_true, ByteArray.mk.injEq] at this
  exact Prod.ext this.1 this.2

/-- Block mb is a map from lines to numbers that knows these lines, in the order of their numbers. -/
structure KnI (w : World) (mb : Nat) (ks : List Ln) (D : DataW Unit) : Prop where
  own : w.ownsMap Try.prog 59 (plainElem Try.prog 3) mb ks.length D
  tidy : Tidy D
  has : ∀ x : Ln, x.1.length ≤ maxLen → Maps.has D (lk x) = decide (x ∈ ks)
  at_ : ∀ x : Ln, x.1.length ≤ maxLen → x ∈ ks → D.atKey (lk x) (.lit (.int .i64 0)) = .lit (.int .i64 (ks.idxOf x : Nat))
  size : Maps.size D = ks.length
def Kn (w : World) (mb : Nat) (ks : List Ln) : Prop := ∃ D, KnI w mb ks D
theorem Kn.start (w : World) : Kn (w.alloc (.map #[] 0)) w.heap.size [] :=
  ⟨.map [], ⟨World.ownsMap_made _ _ _ _, ⟨[], rfl, .nil⟩, fun _ _ => rfl, fun _ _ h => (by cases h), rfl⟩⟩
theorem Kn.kept {w w' : World} {mb : Nat} {ks : List Ln} {row : Option Nat} (h : Kn w mb ks) (hg : w.grownBy w' row) (hne : some mb ≠ row) : Kn w' mb ks := by
  obtain ⟨D, h1, h2, h3, h4, h5⟩ := h
  exact ⟨D, h1.kept hg hne, h2, h3, h4, h5⟩
theorem Kn.lt {w : World} {mb : Nat} {ks : List Ln} (h : Kn w mb ks) : mb < w.heap.size := by
  obtain ⟨D, h1, _⟩ := h
  exact h1.lt
theorem Kn.below {w w' : World} {mb : Nat} {ks : List Ln} (h : Kn w mb ks) (hb : Below w.heap.size w w') : Kn w' mb ks := h.kept (grown_of hb none) (by simp)
theorem Kn.notCells {w : World} {mb : Nat} {ks : List Ln} (h : Kn w mb ks) {g : Nat} {cs : Array Value} {t : TypeId} {z : Nat × Nat} (hc : w.heap[g]? = some (.cells cs t z)) : g ≠ mb := by
  obtain ⟨D, ⟨⟨es, _, hb, _⟩, _⟩⟩ := h
  rintro rfl
  rw [hb] at hc
  cases hc
theorem KnI.put {w w' : World} {mb : Nat} {ks : List Ln} {D : DataW Unit} (h : KnI w mb ks D) {x : Ln} (hx : x.1.length ≤ maxLen) (hn : x ∉ ks) (hall : ∀ y ∈ ks, y.1.length ≤ maxLen)
    (ho : w'.ownsMap Try.prog 59 (plainElem Try.prog 3) mb (ks.length + 1) (D.put (lk x) (.lit (.int .i64 (ks.length : Nat))))) : Kn w' mb (ks ++ [x]) := by
  have hk : WideAt.IsKeyLit (lk x) := trivial
  refine ⟨_, by rw [List.length_append]; exact ho, ho.tidy lnLaw, fun y hy => ?_, fun y hy hm => ?_, ?_⟩
  · by_cases e : y = x
    · subst e
      rw [has_put_same h.tidy.isMap hk, decide_eq_true (by simp)]
    · rw [has_put_other (fun q => e (lk_inj hy hx q)), h.has y hy]
      simp [e]
  · by_cases e : y = x
    · subst e
      rw [atKey_put_same h.tidy.isMap hk, List.idxOf_append, if_neg hn]
      simp
    · have hyk : y ∈ ks := by simpa [e] using hm
      rw [atKey_put_other (fun q => e (lk_inj hy hx q)), h.at_ y hy hyk, List.idxOf_append, if_pos hyk]
  · rw [size_put h.tidy, h.has x hx, decide_eq_false hn, h.size]
    simp
end Go.Proofs.Ytigghcmbdnidnaa.N

namespace Go.Proofs.Ytigghcmbdnidnaa.N
set_option linter.unusedVariables false
set_option linter.unusedSimpArgs false
open Go.RowKit Go.Maps
open T
open V (grown_of IntsIn numCells numCells_snoc ints_own drawn_below)
open I (alloc1 own_at own_below)

/-- The lines that are known, one more being seen. -/
def add (ks : List Ln) (x : Ln) : List Ln := if x ∈ ks then ks else ks ++ [x]
def known (ks : List Ln) (l : List Ln) : List Ln := l.foldl add ks
def row : List Ln → List Ln → List Int
  | _, [] => []
  | ks, x :: r => ((add ks x).idxOf x : Nat) :: row (add ks x) r
theorem known_snoc (ks : List Ln) (l : List Ln) (x : Ln) : known ks (l ++ [x]) = add (known ks l) x := by simp [known]
theorem row_snoc : ∀ (l ks : List Ln) (x : Ln), row ks (l ++ [x]) = row ks l ++ [(((add (known ks l) x).idxOf x : Nat) : Int)]
  | [], ks, x => by simp [row, known]
  | y :: r, ks, x => by
    rw [List.cons_append, row, row, row_snoc r (add ks y) x, List.cons_append]
    rfl
theorem row_length : ∀ (l ks : List Ln), (row ks l).length = l.length
  | [], _ => rfl
  | x :: r, ks => by rw [row, List.length_cons, row_length r, List.length_cons]
theorem add_length (ks : List Ln) (x : Ln) : (add ks x).length ≤ ks.length + 1 := by unfold add; split <;> simp
theorem known_length : ∀ (l ks : List Ln), (known ks l).length ≤ ks.length + l.length
  | [], ks => Nat.le_refl _
  | x :: r, ks => by
    have := known_length r (add ks x)
    have := add_length ks x
    show (known (add ks x) r).length ≤ _
    rw [List.length_cons]
    omega
theorem add_mem {ks : List Ln} {x : Ln} : x ∈ add ks x := by unfold add; split <;> simp [*]
theorem add_all {P : Ln → Prop} {ks : List Ln} {x : Ln} (h : ∀ y ∈ ks, P y) (hx : P x) : ∀ y ∈ add ks x, P y := fun y hy => by
  unfold add at hy
  split at hy
  · exact h y hy
  · rcases List.mem_append.1 hy with hy | hy
    · exact h y hy
    · simp at hy; subst hy; exact hx
theorem known_all {P : Ln → Prop} : ∀ (l : List Ln) {ks : List Ln}, (∀ y ∈ ks, P y) → (∀ y ∈ l, P y) → ∀ y ∈ known ks l, P y
  | [], _, h, _ => h
  | x :: r, _, h, h' => known_all r (add_all h (h' x (by simp))) (fun y hy => h' y (by simp [hy]))
theorem known_take {ks l : List Ln} {k : Nat} (hk : k < l.length) : known ks (l.take (k + 1)) = add (known ks (l.take k)) l[k] := by
  rw [List.take_succ_eq_append_getElem hk, known_snoc]
theorem row_take {ks l : List Ln} {k : Nat} (hk : k < l.length) : row ks (l.take (k + 1)) = row ks (l.take k) ++ [(((add (known ks (l.take k)) l[k]).idxOf l[k] : Nat) : Int)] := by
  rw [List.take_succ_eq_append_getElem hk, row_snoc]
theorem cell_grown {w w' : World} {row : Option Nat} (hg : w.grownBy w' row) {bk o : Nat} {v : Value} (hc : w.cell? ⟨bk, o, none⟩ = some v) (hne : some bk ≠ row) : w'.cell? ⟨bk, o, none⟩ = some v := by
  have hlt := World.block_lt_of_cell? w ⟨bk, o, none⟩ hc
  rw [← hc]
  simp only [World.cell?, hg.block bk hlt hne]
theorem Kn.noCell {w : World} {mb : Nat} {ks : List Ln} (h : Kn w mb ks) {g o : Nat} {v : Value} (hc : w.cell? ⟨g, o, none⟩ = some v) : g ≠ mb := by
  obtain ⟨D, ⟨⟨es, _, hb, _⟩, _⟩⟩ := h
  rintro rfl
  simp [World.cell?, hb] at hc
theorem zeroI (w : World) : (zeroValue 3).run Try.prog w = .ok (.int .i64 0) w := by kernel_rfl

theorem Kn.row {w : World} {mb : Nat} {ks : List Ln} (h : Kn w mb ks) {base : Nat} {e : TypeId} {size n : Nat} {v : Value} {xs : List Value} (ho : w.ownsRow base e size v n xs) : v.ownBlock ≠ some mb := by
  rcases ho.2 with ⟨rfl, _⟩ | ⟨g, cap, cur, rfl, _, hg, _⟩
  · simp [Value.ownBlock]
  · simp only [Value.ownBlock, ne_eq, Option.some.injEq]; exact h.notCells hg
end Go.Proofs.Ytigghcmbdnidnaa.N

namespace Go.Proofs.Ytigghcmbdnidnaa.N
set_option linter.unusedVariables false
set_option linter.unusedSimpArgs false
open Go.RowKit Go.Maps
open T
open V (grown_of IntsIn numCells numCells_snoc ints_own drawn_below)
open I (alloc1 own_at own_below)

/-- Lists of lines in memory. -/
def ListsAt (w : World) (bk off : Nat) (ls : List (List Ln)) : Prop :=
  ∀ j (h : j < ls.length), ∃ A c, w.cell? ⟨bk, off + j, none⟩ = some (.slice A ls[j].length c) ∧ LinesIn w A ls[j] ∧ ls[j].length ≤ c
def ListsIn (w : World) (A : Option Addr) (ls : List (List Ln)) : Prop :=
  0 < ls.length → ∃ bk off, A = some ⟨bk, off, none⟩ ∧ bk < w.heap.size ∧ ListsAt w bk off ls
theorem ListsIn.below {w w' : World} {A : Option Addr} {ls : List (List Ln)} (h : ListsIn w A ls) (hb : Below w.heap.size w w') : ListsIn w' A ls := fun hp => by
  obtain ⟨bk, off, e, hlt, hl⟩ := h hp
  refine ⟨bk, off, e, Nat.lt_of_lt_of_le hlt hb.size, fun j hj => ?_⟩
  obtain ⟨B, c, h1, h2, h3⟩ := hl j hj
  exact ⟨B, c, (hb.cell (p := ⟨bk, off + j, none⟩) hlt).trans h1, h2.below hb, h3⟩
/-- Rows of numbers, each in memory of its own: their values. -/
def Rws (w : World) (base : Nat) (vs : List Value) (rs : List (List Int)) : Prop :=
  vs.length = rs.length ∧ ∀ j (h : j < rs.length) (h' : j < vs.length), w.ownsRow base 3 1 vs[j] rs[j].length (numCells rs[j])
theorem Rws.nil (w : World) (base : Nat) : Rws w base [] [] := ⟨rfl, fun j h => by simp at h⟩
theorem Rws.snoc {w : World} {base : Nat} {vs : List Value} {rs : List (List Int)} (h : Rws w base vs rs) {v : Value} {r : List Int} (hv : w.ownsRow base 3 1 v r.length (numCells r)) : Rws w base (vs ++ [v]) (rs ++ [r]) := by
  refine ⟨by simp [h.1], fun j hj hj' => ?_⟩
  by_cases e : j < rs.length
  · have e' : j < vs.length := by rw [h.1]; exact e
    rw [List.getElem_append_left e', List.getElem_append_left e]
    exact h.2 j e e'
  · obtain rfl : j = rs.length := by simp at hj; omega
    rw [List.getElem_append_right (by rw [h.1]; exact Nat.le_refl _), List.getElem_append_right (Nat.le_refl _)]
    simpa [h.1] using hv
theorem Rws.kept {w w' : World} {base : Nat} {vs : List Value} {rs : List (List Int)} {row : Option Nat} (h : Rws w base vs rs) (hg : w.grownBy w' row) (hne : ∀ j (h : j < rs.length) (h' : j < vs.length), vs[j].ownBlock = none ∨ vs[j].ownBlock ≠ row) : Rws w' base vs rs :=
  ⟨h.1, fun j hj hj' => (h.2 j hj hj').kept hg (hne j hj hj')⟩
theorem Rws.below {w w' : World} {base : Nat} {vs : List Value} {rs : List (List Int)} (h : Rws w base vs rs) (hb : Below w.heap.size w w') : Rws w' base vs rs := ⟨h.1, fun j hj hj' => own_below (h.2 j hj hj') hb⟩
theorem Rws.more {w : World} {base base' : Nat} {vs : List Value} {rs : List (List Int)} (h : Rws w base vs rs) (hb : base' ≤ base) : Rws w base' vs rs := ⟨h.1, fun j hj hj' => own_more (h.2 j hj hj') hb⟩
def numsAll : List Ln → List (List Ln) → List (List Int)
  | _, [] => []
  | ks, l :: r => row ks l :: numsAll (known ks l) r
def knownAll (ks : List Ln) (ls : List (List Ln)) : List Ln := ls.foldl known ks
theorem numsAll_snoc : ∀ (ls : List (List Ln)) (ks : List Ln) (l : List Ln), numsAll ks (ls ++ [l]) = numsAll ks ls ++ [row (knownAll ks ls) l]
  | [], ks, l => rfl
  | x :: r, ks, l => by rw [List.cons_append, numsAll, numsAll, numsAll_snoc r (known ks x) l]; rfl
theorem knownAll_snoc (ls : List (List Ln)) (ks : List Ln) (l : List Ln) : knownAll ks (ls ++ [l]) = known (knownAll ks ls) l := by simp [knownAll]
theorem numsAll_take {ls : List (List Ln)} {ks : List Ln} {k : Nat} (hk : k < ls.length) : numsAll ks (ls.take (k + 1)) = numsAll ks (ls.take k) ++ [row (knownAll ks (ls.take k)) ls[k]] := by
  rw [List.take_succ_eq_append_getElem hk, numsAll_snoc]
theorem knownAll_take {ls : List (List Ln)} {ks : List Ln} {k : Nat} (hk : k < ls.length) : knownAll ks (ls.take (k + 1)) = known (knownAll ks (ls.take k)) ls[k] := by
  rw [List.take_succ_eq_append_getElem hk, knownAll_snoc]
theorem numsAll_length : ∀ (ls : List (List Ln)) (ks : List Ln), (numsAll ks ls).length = ls.length
  | [], _ => rfl
  | l :: r, ks => by rw [numsAll, List.length_cons, numsAll_length r, List.length_cons]
theorem knownAll_length : ∀ (ls : List (List Ln)) (ks : List Ln), (∀ l ∈ ls, l.length ≤ 60) → (knownAll ks ls).length ≤ ks.length + 60 * ls.length
  | [], ks, _ => Nat.le_refl _
  | l :: r, ks, h => by
    have := knownAll_length r (known ks l) (fun y hy => h y (by simp [hy]))
    have := known_length l ks
    have := h l (by simp)
    show (knownAll (known ks l) r).length ≤ _
    rw [List.length_cons]
    omega
theorem knownAll_all {P : Ln → Prop} : ∀ (ls : List (List Ln)) {ks : List Ln}, (∀ y ∈ ks, P y) → (∀ l ∈ ls, ∀ y ∈ l, P y) → ∀ y ∈ knownAll ks ls, P y
  | [], _, h, _ => h
  | l :: r, _, h, h' => knownAll_all r (known_all l h (h' l (by simp))) (fun m hm => h' m (by simp [hm]))
theorem infoRow : (Try.prog.info? 28).map (fun i => (i.zero, i.size, i.bytes)) = some (some (.slice none 0 0), 1, 24) := by kernel_rfl
theorem lines_grown {w w' : World} {mb : Nat} {A : Option Addr} {l : List Ln} (h : LinesIn w A l) (hg : w.grownBy w' (some mb)) {ks : List Ln} (hk : Kn w mb ks) : LinesIn w' A l := fun hp => by
  obtain ⟨bk, off, e, hlt, hl⟩ := h hp
  exact ⟨bk, off, e, Nat.lt_of_lt_of_le hlt hg.size, fun j hj => ⟨cell_grown hg (hl j hj).1 (by simp only [ne_eq, Option.some.injEq]; exact hk.noCell (hl j hj).1), cell_grown hg (hl j hj).2 (by simp only [ne_eq, Option.some.injEq]; exact hk.noCell (hl j hj).1)⟩⟩
/-- Numbers: a row of rows. -/
def NmEnd (W : World) (rs : List (List Int)) (e : Ending) (w' : World) : Prop := ∃ A cap vs, e = .returned (.slice A vs.length cap) ∧ w'.ownsRow W.heap.size 28 1 (.slice A vs.length cap) vs.length vs ∧ Rws w' W.heap.size vs rs ∧ Below W.heap.size W w'

end Go.Proofs.Ytigghcmbdnidnaa.N
