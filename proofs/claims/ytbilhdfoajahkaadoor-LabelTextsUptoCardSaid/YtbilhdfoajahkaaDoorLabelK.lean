/-
  The contract of label's Parse, whole, for every text of at most 2^22 bytes; and of layer 2's live: it returns true.
-/
import Derived.Test.YtbilhdfoajahkaaDoorLabelJ
namespace Go.Proofs.YtbilhdfoajahkaaDoor.L
open Go.RowKit
open T

theorem ofGo_small : ∀ (xs : List Int) (c d : Nat), c < 18446744073709551616 → ofGo xs c = some d → d < 18446744073709551616
  | [], c, d, hc, h => by simp [ofGo] at h; omega
  | x :: r, c, d, hc, h => by
    rw [ofGo] at h
    split at h
    · cases h
    · next hx => exact ofGo_small r _ d (or_small hc (Nat.pow_lt_pow_right (a := 2) (n := 64) (by omega) (by omega))) h
theorem ofAll_small {l : Int} {xs : List Int} {c : Nat} (h : ofAll l xs = some c) : c < 18446744073709551616 := by
  unfold ofAll at h
  split at h
  · exact ofGo_small xs 0 c (by omega) h
  · cases h
theorem parts_len (c : UInt8) : ∀ l cur : List UInt8, (partsGo c cur l).length ≤ l.length + 1
  | [], cur => by simp [partsGo]
  | x :: r, cur => by
    rw [partsGo]
    split
    · have := parts_len c r []; simp; omega
    · have := parts_len c r (cur ++ [x]); simp; omega
theorem numsOf_len : ∀ (ps : List (List UInt8)) (xs : List Nat), numsOf ps = some xs → xs.length = ps.length
  | [], xs, h => by simp [numsOf] at h; simp [← h]
  | p :: r, xs, h => by
    rw [numsOf, Option.bind_eq_some_iff] at h
    obtain ⟨n, _, h⟩ := h
    rw [Option.map_eq_some_iff] at h
    obtain ⟨ys, hy, rfl⟩ := h
    simp [numsOf_len r ys hy]
theorem nums_len {l : List UInt8} {xs : List Nat} (h : nums l = some xs) : xs.length ≤ l.length + 1 := by
  rw [numsOf_len _ _ h]; exact parts_len 44 l []

theorem pr_is (n : Nat) (c : Nat) (hn : n ≤ 2147483647) (hc : c < 18446744073709551616) : Pr n c ⟨(print n c).toArray⟩ := fun w ht => print_any n c w (by omega) (by omega) hc ht
theorem eta (s : ByteArray) : (⟨s.data.toList.toArray⟩ : ByteArray) = s := by cases s; simp
theorem str_ne {l : List UInt8} {s : ByteArray} (h : ¬ l = s.data.toList) : ((⟨l.toArray⟩ : ByteArray).toList == s.toList) = false := by
  rw [Lib.toList_data, Lib.toList_data]; exact beq_eq_false_iff_ne.2 h

theorem parse_any (s : ByteArray) (w : World) (hs : s.size ≤ 4194304) (ht : Tab w) :
    Calls Tryd.prog 45 #[.string s] w fun e w' => e = .returned (parseVal (parse s.data.toList)) ∧ Below w.heap.size w w' := by
  have hmx : s.size ≤ maxLen := by simp only [maxLen]; omega
  unfold parse
  cases hsp : split 58 s.data.toList with
  | none =>
    have HC := Lib.hid (ct_none hmx hsp)
    cases hnum : P.number s.data.toList with
    | none => exact parse_head s s _ false w HC (Lib.hid (nm_none hmx hnum))
    | some n =>
      have hn := (P.dec_number _ _ hnum).2
      have HN := Lib.hid (nm_some hmx hnum)
      show Calls _ _ _ _ fun e w' => e = .returned (parseVal (parseRest s.data.toList n (some []))) ∧ _
      unfold parseRest
      cases hof : ofAll n [] with
      | none =>
        have := parse_none_err s s _ n w HC HN (Lib.hid hof)
        simpa [hof, parseVal] using this
      | some c =>
        have hP := pr_is n c hn (ofAll_small hof)
        by_cases hp : print n c = s.data.toList
        · rw [hp, eta] at hP
          have := parse_none_yes s s _ n w HC HN c (Lib.hid hof) (Lib.hid hP) (Lib.hid ht)
          simpa [hof, hp, parseVal] using this
        · have := parse_none_not s s _ n w HC HN c _ (Lib.hid hof) (Lib.hid hP) (Lib.hid ht) (str_ne hp)
          simpa [hof, hp, parseVal] using this
  | some q =>
    obtain ⟨a, b⟩ := q
    have HC := Lib.hid (ct_some hmx hsp)
    have hsl := split_len hsp
    rw [← Lib.size_eq] at hsl
    have hma : (⟨a.toArray⟩ : ByteArray).size ≤ maxLen := by rw [size_list]; simp only [maxLen]; omega
    have hmb : (⟨b.toArray⟩ : ByteArray).size ≤ 4194304 := by rw [size_list]; omega
    cases hnum : P.number a with
    | none =>
      have := parse_head s ⟨a.toArray⟩ _ true w HC (Lib.hid (nm_none hma hnum))
      simpa [hnum, parseVal] using this
    | some n =>
      have hn := (P.dec_number _ _ hnum).2
      have HN := Lib.hid (nm_some (s := ⟨a.toArray⟩) hma hnum)
      cases hns : nums b with
      | none =>
        have := parse_nums s ⟨a.toArray⟩ ⟨b.toArray⟩ n w hmb HC HN (Lib.hid hns)
        simpa [hnum, hns, parseRest, parseVal] using this
      | some xs =>
        have hxl := nums_len hns
        have HX : Hid (xs.length ≤ maxLen) := Lib.hid (by simp only [maxLen]; omega)
        cases hof : ofAll n (xs.map fun x : Nat => (x : Int)) with
        | none =>
          have := parse_some_err s ⟨a.toArray⟩ ⟨b.toArray⟩ n xs w hmb HX HC HN (Lib.hid hns) (Lib.hid hof)
          simpa [hnum, hns, hof, parseRest, parseVal] using this
        | some c =>
          have hP := pr_is n c hn (ofAll_small hof)
          by_cases hp : print n c = s.data.toList
          · rw [hp, eta] at hP
            have := parse_some_yes s ⟨a.toArray⟩ ⟨b.toArray⟩ n xs w hmb HX HC HN (Lib.hid hns) c (Lib.hid hof) (Lib.hid hP) (Lib.hid ht)
            simpa [hnum, hns, hof, parseRest, hp, parseVal] using this
          · have := parse_some_not s ⟨a.toArray⟩ ⟨b.toArray⟩ n xs w hmb HX HC HN (Lib.hid hns) c _ (Lib.hid hof) (Lib.hid hP) (Lib.hid ht) (str_ne hp)
            simpa [hnum, hns, hof, parseRest, hp, parseVal] using this

theorem dec_digit (n : Nat) (h : n < 10) : P.decimal (n : Int) = [UInt8.ofNat (48 + n)] := by
  rw [P.decimal_in _ (by omega) (by omega), Int.toNat_natCast, Lib.decDigits_one h]
theorem print_live : print 3 129 = [51, 58, 48, 44, 55] := by
  have hc : catsTo 129 64 = [0, 7] := by decide
  unfold print
  rw [hc, if_neg (by simp)]
  unfold catsText Lib.join
  rw [show ((3 : Int)) = ((3 : Nat) : Int) from rfl, dec_digit 3 (by omega)]
  simp only [List.map_cons, List.map_nil]
  rw [dec_digit 0 (by omega), dec_digit 7 (by omega)]
  decide
theorem of_live : ofAll 3 [0, 7] = some 129 := by decide
theorem of_live2 : ofAll 3 [7, 0] = some 129 := by decide
theorem parse_live : parse [51, 58, 48, 44, 55] = some (3, 129) := by
  have h1 : split 58 [51, 58, 48, 44, 55] = some ([51], [48, 44, 55]) := by decide
  have h2 : P.number [51] = some 3 := by decide
  have h3 : nums [48, 44, 55] = some [0, 7] := by decide
  have h4 : ofAll ((3 : Nat) : Int) ([0, 7].map fun x : Nat => (x : Int)) = some 129 := of_live
  have h5 : print ((3 : Nat) : Int) 129 = [51, 58, 48, 44, 55] := print_live
  unfold parse
  rw [h1]
  simp only [h2, Option.bind_some, parseRest, h3, h4, h5, if_true]
theorem parse_dead : parse [51, 58, 55, 44, 48] = none := by
  have h1 : split 58 [51, 58, 55, 44, 48] = some ([51], [55, 44, 48]) := by decide
  have h2 : P.number [51] = some 3 := by decide
  have h3 : nums [55, 44, 48] = some [7, 0] := by decide
  have h4 : ofAll ((3 : Nat) : Int) ([7, 0].map fun x : Nat => (x : Int)) = some 129 := of_live2
  have h5 : print ((3 : Nat) : Int) 129 = [51, 58, 48, 44, 55] := print_live
  unfold parse
  rw [h1]
  simp only [h2, Option.bind_some, parseRest, h3, h4, h5]
  decide
end Go.Proofs.YtbilhdfoajahkaaDoor.L
