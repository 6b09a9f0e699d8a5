/-
  The law TextNumberBack, walked: it returns true for every text and number, where the library's table of powers of ten holds what its text lays.
-/
import Derived.Test.YtbilhdfoajahkaaDoorLiveA
import Derived.Test.YtbilhdfoajahkaaDoorNums
namespace Go.Proofs.YtbilhdfoajahkaaDoor.T
open Go.RowKit

theorem list_data (l : List UInt8) : (⟨l.toArray⟩ : ByteArray).data.toList = l := by simp
theorem list_size (l : List UInt8) : (⟨l.toArray⟩ : ByteArray).size = l.length := by simp [ByteArray.size]
theorem str_eta (s : ByteArray) : (⟨s.data.toList.toArray⟩ : ByteArray) = s := by cases s; simp

theorem number_is (s : ByteArray) (b : Nat) (w : World) (hs : s.size ≤ maxLen) (h : P.number s.data.toList = some b) :
    Calls Tryd.prog 23 #[.string s] w fun e w' => e = .returned (.tuple #[.int .i64 b, .bool true]) ∧ w = w' := by
  have := number_any s w hs
  rwa [h, numVal_some] at this
theorem number_not (s : ByteArray) (w : World) (hs : s.size ≤ maxLen) (h : P.number s.data.toList = none) :
    Calls Tryd.prog 23 #[.string s] w fun e w' => e = .returned (.tuple #[.int .i64 0, .bool false]) ∧ w = w' := by
  have := number_any s w hs
  rwa [h, numVal_none] at this

def Dec (n : Int) (s : ByteArray) : Prop := ∀ w : World, Tab w → Calls Tryd.prog 25 #[.int .i64 n] w fun e w' => e = .returned (.string s) ∧ Below w.heap.size w w'
def Num (s : ByteArray) (n : Int) (is : Bool) : Prop := ∀ w : World, Calls Tryd.prog 23 #[.string s] w fun e w' => e = .returned (.tuple #[.int .i64 n, .bool is]) ∧ w = w'
theorem Dec.call {n : Int} {s : ByteArray} (h : Dec n s) (w : World) (ht : Tab w) : Calls Tryd.prog 25 #[.int .i64 n] w fun e w' => e = .returned (.string s) ∧ Below w.heap.size w w' := h w ht
theorem Num.call {n : Int} {s : ByteArray} {is : Bool} (h : Num s n is) (w : World) : Calls Tryd.prog 23 #[.string s] w fun e w' => e = .returned (.tuple #[.int .i64 n, .bool is]) ∧ w = w' := h w
theorem dec_is (n : Int) (h0 : -9223372036854775808 ≤ n) (h1 : n ≤ 9223372036854775807) : Dec n ⟨(P.decimal n).toArray⟩ := fun w ht => decimal_any n w h0 h1 ht

theorem back_in_has (s s1 : ByteArray) (n b : Int) (w : World) (HD : Hid (Dec n s1)) (HN1 : Hid (Num s1 n true)) (HN2 : Hid (Num s b true)) (HB : Hid (Dec b s)) (h0 : 0 ≤ n) (h1 : n ≤ 2147483647) (HT : Hid (Tab w)) :
    Calls Tryd.prog 6 #[.string s, .int .i64 n] w fun e w' => e = .returned (.bool true) ∧ Below w.heap.size w w' := by
  go_enter Tryd.func6, Tryd.ntmps6
  go_wp2_with fail
  with_reducible refine (HD.out.call _ HT.out).mono ?_
  rintro e w1 ⟨rfl, hb1⟩
  have HT1 := Lib.hid (HT.out.later hb1)
  go_wp2_with fail
  with_reducible refine (HN1.out.call _).mono ?_
  rintro e w2 ⟨rfl, rfl⟩
  go_wp2_with fail
  with_reducible refine (HN2.out.call _).mono ?_
  rintro e w2 ⟨rfl, rfl⟩
  go_wp2_with fail
  with_reducible refine (live1 _ HT1.out).mono ?_
  rintro e w2 ⟨rfl, hb2⟩
  have hb12 : Below w.heap.size w w2 := hb1.trans (hb2.mono hb1.size)
  have HT2 := Lib.hid (HT1.out.later hb2)
  go_wp2_with fail
  with_reducible refine (HB.out.call _ HT2.out).mono ?_
  rintro e w3 ⟨rfl, hb3⟩
  have hb13 : Below w.heap.size w w3 := hb12.trans (hb3.mono hb12.size)
  go_wp2_with fail
  go_ret
  exact ⟨rfl, hb13⟩
theorem back_in_not (s s1 : ByteArray) (n : Int) (w : World) (HD : Hid (Dec n s1)) (HN1 : Hid (Num s1 n true)) (HN2 : Hid (Num s 0 false)) (h0 : 0 ≤ n) (h1 : n ≤ 2147483647) (HT : Hid (Tab w)) :
    Calls Tryd.prog 6 #[.string s, .int .i64 n] w fun e w' => e = .returned (.bool true) ∧ Below w.heap.size w w' := by
  go_enter Tryd.func6, Tryd.ntmps6
  go_wp2_with fail
  with_reducible refine (HD.out.call _ HT.out).mono ?_
  rintro e w1 ⟨rfl, hb1⟩
  have HT1 := Lib.hid (HT.out.later hb1)
  go_wp2_with fail
  with_reducible refine (HN1.out.call _).mono ?_
  rintro e w2 ⟨rfl, rfl⟩
  go_wp2_with fail
  with_reducible refine (HN2.out.call _).mono ?_
  rintro e w2 ⟨rfl, rfl⟩
  go_wp2_with fail
  with_reducible refine (live1 _ HT1.out).mono ?_
  rintro e w2 ⟨rfl, hb2⟩
  have hb12 : Below w.heap.size w w2 := hb1.trans (hb2.mono hb1.size)
  go_wp2_with fail
  go_ret
  exact ⟨rfl, hb12⟩
theorem back_lo_has (s s1 : ByteArray) (n b : Int) (w : World) (HD : Hid (Dec n s1)) (HN1 : Hid (Num s1 0 false)) (HN2 : Hid (Num s b true)) (HB : Hid (Dec b s)) (h : n < 0) (HT : Hid (Tab w)) :
    Calls Tryd.prog 6 #[.string s, .int .i64 n] w fun e w' => e = .returned (.bool true) ∧ Below w.heap.size w w' := by
  go_enter Tryd.func6, Tryd.ntmps6
  go_wp2_with fail
  with_reducible refine (HD.out.call _ HT.out).mono ?_
  rintro e w1 ⟨rfl, hb1⟩
  have HT1 := Lib.hid (HT.out.later hb1)
  go_wp2_with fail
  with_reducible refine (HN1.out.call _).mono ?_
  rintro e w2 ⟨rfl, rfl⟩
  go_wp2_with fail
  with_reducible refine (HN2.out.call _).mono ?_
  rintro e w2 ⟨rfl, rfl⟩
  go_wp2_with fail
  with_reducible refine (live1 _ HT1.out).mono ?_
  rintro e w2 ⟨rfl, hb2⟩
  have hb12 : Below w.heap.size w w2 := hb1.trans (hb2.mono hb1.size)
  have HT2 := Lib.hid (HT1.out.later hb2)
  go_wp2_with fail
  with_reducible refine (HB.out.call _ HT2.out).mono ?_
  rintro e w3 ⟨rfl, hb3⟩
  have hb13 : Below w.heap.size w w3 := hb12.trans (hb3.mono hb12.size)
  go_wp2_with fail
  go_ret
  exact ⟨rfl, hb13⟩
theorem back_lo_not (s s1 : ByteArray) (n : Int) (w : World) (HD : Hid (Dec n s1)) (HN1 : Hid (Num s1 0 false)) (HN2 : Hid (Num s 0 false)) (h : n < 0) (HT : Hid (Tab w)) :
    Calls Tryd.prog 6 #[.string s, .int .i64 n] w fun e w' => e = .returned (.bool true) ∧ Below w.heap.size w w' := by
  go_enter Tryd.func6, Tryd.ntmps6
  go_wp2_with fail
  with_reducible refine (HD.out.call _ HT.out).mono ?_
  rintro e w1 ⟨rfl, hb1⟩
  have HT1 := Lib.hid (HT.out.later hb1)
  go_wp2_with fail
  with_reducible refine (HN1.out.call _).mono ?_
  rintro e w2 ⟨rfl, rfl⟩
  go_wp2_with fail
  with_reducible refine (HN2.out.call _).mono ?_
  rintro e w2 ⟨rfl, rfl⟩
  go_wp2_with fail
  with_reducible refine (live1 _ HT1.out).mono ?_
  rintro e w2 ⟨rfl, hb2⟩
  have hb12 : Below w.heap.size w w2 := hb1.trans (hb2.mono hb1.size)
  go_wp2_with fail
  go_ret
  exact ⟨rfl, hb12⟩
theorem back_hi_has (s s1 : ByteArray) (n b : Int) (w : World) (HD : Hid (Dec n s1)) (HN1 : Hid (Num s1 0 false)) (HN2 : Hid (Num s b true)) (HB : Hid (Dec b s)) (h0 : 0 ≤ n) (h : 2147483647 < n) (HT : Hid (Tab w)) :
    Calls Tryd.prog 6 #[.string s, .int .i64 n] w fun e w' => e = .returned (.bool true) ∧ Below w.heap.size w w' := by
  have hd : ¬ n ≤ 2147483647 := by omega
  go_enter Tryd.func6, Tryd.ntmps6
  go_wp2_with fail
  with_reducible refine (HD.out.call _ HT.out).mono ?_
  rintro e w1 ⟨rfl, hb1⟩
  have HT1 := Lib.hid (HT.out.later hb1)
  go_wp2_with fail
  with_reducible refine (HN1.out.call _).mono ?_
  rintro e w2 ⟨rfl, rfl⟩
  go_wp2_with fail
  with_reducible refine (HN2.out.call _).mono ?_
  rintro e w2 ⟨rfl, rfl⟩
  go_wp2_with fail
  with_reducible refine (live1 _ HT1.out).mono ?_
  rintro e w2 ⟨rfl, hb2⟩
  have hb12 : Below w.heap.size w w2 := hb1.trans (hb2.mono hb1.size)
  have HT2 := Lib.hid (HT1.out.later hb2)
  go_wp2_with fail
  with_reducible refine (HB.out.call _ HT2.out).mono ?_
  rintro e w3 ⟨rfl, hb3⟩
  have hb13 : Below w.heap.size w w3 := hb12.trans (hb3.mono hb12.size)
  go_wp2_with fail
  go_ret
  exact ⟨ret_of (by show Value.bool (!decide (n ≤ 2147483647)) = _; rw [decide_eq_false (by omega)]; rfl), hb13⟩
theorem back_hi_not (s s1 : ByteArray) (n : Int) (w : World) (HD : Hid (Dec n s1)) (HN1 : Hid (Num s1 0 false)) (HN2 : Hid (Num s 0 false)) (h0 : 0 ≤ n) (h : 2147483647 < n) (HT : Hid (Tab w)) :
    Calls Tryd.prog 6 #[.string s, .int .i64 n] w fun e w' => e = .returned (.bool true) ∧ Below w.heap.size w w' := by
  have hd : ¬ n ≤ 2147483647 := by omega
  go_enter Tryd.func6, Tryd.ntmps6
  go_wp2_with fail
  with_reducible refine (HD.out.call _ HT.out).mono ?_
  rintro e w1 ⟨rfl, hb1⟩
  have HT1 := Lib.hid (HT.out.later hb1)
  go_wp2_with fail
  with_reducible refine (HN1.out.call _).mono ?_
  rintro e w2 ⟨rfl, rfl⟩
  go_wp2_with fail
  with_reducible refine (HN2.out.call _).mono ?_
  rintro e w2 ⟨rfl, rfl⟩
  go_wp2_with fail
  with_reducible refine (live1 _ HT1.out).mono ?_
  rintro e w2 ⟨rfl, hb2⟩
  have hb12 : Below w.heap.size w w2 := hb1.trans (hb2.mono hb1.size)
  go_wp2_with fail
  go_ret
  exact ⟨ret_of (by show Value.bool (!decide (n ≤ 2147483647)) = _; rw [decide_eq_false (by omega)]; rfl), hb12⟩

theorem numBack_walk (s : ByteArray) (n : Int) (w : World) (hs : s.size ≤ maxLen) (h0 : -9223372036854775808 ≤ n) (h1 : n ≤ 9223372036854775807) (ht : Tab w) :
    Calls Tryd.prog 6 #[.string s, .int .i64 n] w fun e w' => e = .returned (.bool true) ∧ Below w.heap.size w w' := by
  have HD := Lib.hid (dec_is n h0 h1)
  have hsz : (⟨(P.decimal n).toArray⟩ : ByteArray).size ≤ maxLen := by
    rw [list_size]; have := P.decimal_length n; simp only [maxLen]; omega
  have HT := Lib.hid ht
  have hno : (n < 0 ∨ 2147483647 < n) → Num ⟨(P.decimal n).toArray⟩ 0 false := fun h w => number_not _ w hsz (by rw [list_data]; exact P.number_untold n h)
  cases hnum : P.number s.data.toList with
  | none =>
    have HN2 : Hid (Num s 0 false) := Lib.hid fun w => number_not s w hs hnum
    by_cases ha : n < 0
    · exact back_lo_not s _ n w HD (Lib.hid (hno (.inl ha))) HN2 ha HT
    by_cases hb : 2147483647 < n
    · exact back_hi_not s _ n w HD (Lib.hid (hno (.inr hb))) HN2 (by omega) hb HT
    · refine back_in_not s _ n w HD (Lib.hid fun w => ?_) HN2 (by omega) (by omega) HT
      have := number_is ⟨(P.decimal n).toArray⟩ n.toNat w hsz (by rw [list_data]; exact P.number_decimal n (by omega) (by omega))
      rwa [Int.toNat_of_nonneg (by omega)] at this
  | some b =>
    have HN2 : Hid (Num s b true) := Lib.hid fun w => number_is s b w hs hnum
    have hb := (P.dec_number _ _ hnum).2
    have HB : Hid (Dec b s) := by
      have := dec_is (b : Int) (by omega) (by omega)
      rw [P.decimal_number _ _ hnum, str_eta] at this
      exact Lib.hid this
    by_cases ha : n < 0
    · exact back_lo_has s _ n b w HD (Lib.hid (hno (.inl ha))) HN2 HB ha HT
    by_cases hb : 2147483647 < n
    · exact back_hi_has s _ n b w HD (Lib.hid (hno (.inr hb))) HN2 HB (by omega) hb HT
    · refine back_in_has s _ n b w HD (Lib.hid fun w => ?_) HN2 HB (by omega) (by omega) HT
      have := number_is ⟨(P.decimal n).toArray⟩ n.toNat w hsz (by rw [list_data]; exact P.number_decimal n (by omega) (by omega))
      rwa [Int.toNat_of_nonneg (by omega)] at this
end Go.Proofs.YtbilhdfoajahkaaDoor.T
