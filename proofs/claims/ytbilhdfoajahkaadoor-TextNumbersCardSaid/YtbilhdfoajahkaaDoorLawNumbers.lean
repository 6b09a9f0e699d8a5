/-
  The law TextNumbers, walked: it returns true for every text and number, where the library's table of powers of ten holds what its text lays.
-/
import Derived.Test.YtbilhdfoajahkaaDoorRefB
namespace Go.Proofs.YtbilhdfoajahkaaDoor.T
open Go.RowKit

def RNum (s : ByteArray) (n : Int) (is : Bool) : Prop := ∀ w : World, Calls Tryd.prog 24 #[.string s] w fun e w' => e = .returned (.tuple #[.int .i64 n, .bool is]) ∧ w = w'
theorem RNum.call {n : Int} {s : ByteArray} {is : Bool} (h : RNum s n is) (w : World) : Calls Tryd.prog 24 #[.string s] w fun e w' => e = .returned (.tuple #[.int .i64 n, .bool is]) ∧ w = w' := h w
def RDec (n : Int) (s : ByteArray) : Prop := ∀ w : World, Calls Tryd.prog 26 #[.int .i64 n] w fun e w' => e = .returned (.string s) ∧ Below w.heap.size w w'
theorem RDec.call {n : Int} {s : ByteArray} (h : RDec n s) (w : World) : Calls Tryd.prog 26 #[.int .i64 n] w fun e w' => e = .returned (.string s) ∧ Below w.heap.size w w' := h w
theorem rnum_is (s : ByteArray) (b : Nat) (h : P.number s.data.toList = some b) : RNum s b true := fun w => by
  have := refNumber_any s w
  rwa [h, numVal_some] at this
theorem rnum_not (s : ByteArray) (h : P.number s.data.toList = none) : RNum s 0 false := fun w => by
  have := refNumber_any s w
  rwa [h, numVal_none] at this

theorem numbers_has (s d : ByteArray) (n b : Int) (w : World) (HN1 : Hid (Num s b true)) (HN2 : Hid (RNum s b true)) (HD : Hid (Dec n d)) (HE : Hid (RDec n d)) (HT : Hid (Tab w)) :
    Calls Tryd.prog 5 #[.string s, .int .i64 n] w fun e w' => e = .returned (.bool true) ∧ Below w.heap.size w w' := by
  go_enter Tryd.func5, Tryd.ntmps5
  go_wp2_with fail
  with_reducible refine (HN1.out.call _).mono ?_
  rintro e w1 ⟨rfl, rfl⟩
  go_wp2_with fail
  with_reducible refine (HN2.out.call _).mono ?_
  rintro e w1 ⟨rfl, rfl⟩
  go_wp2_with fail
  with_reducible refine (live1 _ HT.out).mono ?_
  rintro e w1 ⟨rfl, hb1⟩
  have HT1 := Lib.hid (HT.out.later hb1)
  go_wp2_with fail
  with_reducible refine (HD.out.call _ HT1.out).mono ?_
  rintro e w2 ⟨rfl, hb2⟩
  have hb12 : Below w.heap.size w w2 := hb1.trans (hb2.mono hb1.size)
  go_wp2_with fail
  with_reducible refine (HE.out.call _).mono ?_
  rintro e w3 ⟨rfl, hb3⟩
  have hb13 : Below w.heap.size w w3 := hb12.trans (hb3.mono hb12.size)
  go_wp2_with fail
  go_ret
  exact ⟨rfl, hb13⟩
theorem numbers_not (s d : ByteArray) (n : Int) (w : World) (HN1 : Hid (Num s 0 false)) (HN2 : Hid (RNum s 0 false)) (HD : Hid (Dec n d)) (HE : Hid (RDec n d)) (HT : Hid (Tab w)) :
    Calls Tryd.prog 5 #[.string s, .int .i64 n] w fun e w' => e = .returned (.bool true) ∧ Below w.heap.size w w' := by
  go_enter Tryd.func5, Tryd.ntmps5
  go_wp2_with fail
  with_reducible refine (HN1.out.call _).mono ?_
  rintro e w1 ⟨rfl, rfl⟩
  go_wp2_with fail
  with_reducible refine (HN2.out.call _).mono ?_
  rintro e w1 ⟨rfl, rfl⟩
  go_wp2_with fail
  with_reducible refine (live1 _ HT.out).mono ?_
  rintro e w1 ⟨rfl, hb1⟩
  have HT1 := Lib.hid (HT.out.later hb1)
  go_wp2_with fail
  with_reducible refine (HD.out.call _ HT1.out).mono ?_
  rintro e w2 ⟨rfl, hb2⟩
  have hb12 : Below w.heap.size w w2 := hb1.trans (hb2.mono hb1.size)
  go_wp2_with fail
  with_reducible refine (HE.out.call _).mono ?_
  rintro e w3 ⟨rfl, hb3⟩
  have hb13 : Below w.heap.size w w3 := hb12.trans (hb3.mono hb12.size)
  go_wp2_with fail
  go_ret
  exact ⟨rfl, hb13⟩

theorem numbers_walk (s : ByteArray) (n : Int) (w : World) (hs : s.size ≤ maxLen) (h0 : -9223372036854775808 ≤ n) (h1 : n ≤ 9223372036854775807) (ht : Tab w) :
    Calls Tryd.prog 5 #[.string s, .int .i64 n] w fun e w' => e = .returned (.bool true) ∧ Below w.heap.size w w' := by
  have HD := Lib.hid (dec_is n h0 h1)
  have HE : Hid (RDec n ⟨(P.decimal n).toArray⟩) := Lib.hid fun w => refDecimal_any n w
  cases hnum : P.number s.data.toList with
  | none => exact numbers_not s _ n w (Lib.hid fun w => number_not s w hs hnum) (Lib.hid (rnum_not s hnum)) HD HE (Lib.hid ht)
  | some b => exact numbers_has s _ n b w (Lib.hid fun w => number_is s b w hs hnum) (Lib.hid (rnum_is s b hnum)) HD HE (Lib.hid ht)
end Go.Proofs.YtbilhdfoajahkaaDoor.T
