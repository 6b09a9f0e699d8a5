/-
  The contract of layer 1's live: it returns true, where the library's table of powers of ten holds what its text lays.
-/
import Derived.Test.YtbilhdfoajahkaaDoorTextC
import Derived.Test.YtbilhdfoajahkaaDoorTextN
import Derived.Lib.SlBytesConst
namespace Go.Proofs.YtbilhdfoajahkaaDoor.T
open Go.RowKit

theorem lines_ab : P.lines [] [97, 10, 98] = [([97], false), ([98], true)] := by decide
theorem words_ab : P.words [] [97, 32, 98] = [[97], [98]] := by decide
theorem number_120 : P.number [49, 50, 48] = some 120 := by decide
theorem name_x : P.name [120] = true := by decide
theorem decimal_7 : P.decimal 7 = [55] := by
  rw [P.decimal, if_neg (by omega)]
  exact Lib.decDigits_one (by omega)

/-- What is owned, by its cells. -/
theorem own_cells {w : World} {base : Nat} {e : TypeId} {size n : Nat} {v : Value} {xs : List Value} (h : w.ownsRow base e size v n xs) (hn : 0 < n) :
    ∃ g cap, v = .slice (some ⟨g, 0, none⟩) n cap ∧ base ≤ g ∧ g < w.heap.size ∧ n ≤ cap ∧ ∀ j u, xs[j]? = some u → w.cell? ⟨g, j, none⟩ = some u := by
  rcases h.2 with ⟨_, h0⟩ | ⟨g, cap, cur, rfl, hg, hh, hnc, _, _, hx⟩
  · omega
  · refine ⟨g, cap, rfl, hg, ?_, hnc, fun j u hu => ?_⟩
    · rcases Nat.lt_or_ge g w.heap.size with hlt | hge
      · exact hlt
      · rw [Array.getElem?_eq_none hge] at hh; cases hh
    · rw [← hx] at hu
      have hu' : cur.toList[j]? = some u := by
        rw [List.getElem?_take] at hu
        split at hu
        · exact hu
        · cases hu
      simp [World.cell?, hh]
      simpa using hu'

theorem number_live (w : World) : Calls Tryd.prog 23 #[.string ⟨#[49, 50, 48]⟩] w fun e w' => e = .returned (.tuple #[.int .i64 120, .bool true]) ∧ w = w' := by
  have h := number_any ⟨#[49, 50, 48]⟩ w (by simp only [maxLen]; decide)
  rw [show (⟨#[49, 50, 48]⟩ : ByteArray).data.toList = [49, 50, 48] from rfl, number_120, numVal_some] at h
  exact h
theorem decimal_live (w : World) (ht : Tab w) : Calls Tryd.prog 25 #[.int .i64 7] w fun e w' => e = .returned (.string ⟨#[55]⟩) ∧ Below w.heap.size w w' := by
  have h := decimal_any 7 w (by omega) (by omega) ht
  rw [decimal_7] at h
  exact h
theorem name_live (w : World) : Calls Tryd.prog 29 #[.string ⟨#[120]⟩] w fun e w' => e = .returned (.bool true) ∧ w = w' := by
  have h := name_any ⟨#[120]⟩ w (by simp only [maxLen]; decide)
  rw [show (⟨#[120]⟩ : ByteArray).data.toList = [120] from rfl, name_x] at h
  exact h
theorem words_live (w : World) : Calls Tryd.prog 27 #[.string ⟨#[97, 32, 98]⟩] w fun e w' => ∃ g cap, e = .returned (.slice (some ⟨g, 0, none⟩) 2 cap) ∧ Below w.heap.size w w' := by
  have h := words_any ⟨#[97, 32, 98]⟩ w (by decide)
  rw [show (⟨#[97, 32, 98]⟩ : ByteArray).data.toList = [97, 32, 98] from rfl, words_ab] at h
  refine h.mono ?_
  rintro e w' ⟨v, rfl, hown, hb⟩
  obtain ⟨g, cap, rfl, _⟩ := own_cells hown (by decide)
  exact ⟨g, cap, rfl, hb⟩

set_option maxHeartbeats 1000000 in
set_option maxRecDepth 100000 in
theorem live1 (w : World) (ht : Tab w) :
    Calls Tryd.prog 15 #[] w fun e w' => e = .returned (.bool true) ∧ Below w.heap.size w w' := by
  have kc := fun (w : World) (C : Array Value) (n c : Nat) => Lib.run_convert_bytes_const (P := Tryd.prog) w 22 5 C n c Tryd.underlying22 Tryd.underlying5
  have HT := Lib.hid ht
  clear ht
  have hl := lines_any w.heap.size 0 3 [97, 10, 98] (w.alloc (Obj.cells #[.int .u8 97, .int .u8 10, .int .u8 98] 5 (3, 4))) (by
    intro j hj
    simp [World.cell?, World.alloc, -World.alloc_eq]
    match j, hj with
    | 0, _ => rfl
    | 1, _ => rfl
    | 2, _ => rfl) (by simp) (by decide) (by decide)
  rw [lines_ab, show [97, 10, (98 : UInt8)].length = 3 from rfl] at hl
  have HL := Lib.hid hl
  clear hl
  go_enter Tryd.func15, Tryd.ntmps15
  go_wp2_with fail
  with_reducible refine (HL.out).mono ?_
  rintro e w1 ⟨v, rfl, hown, hb1⟩
  obtain ⟨g, cap, hv, hg, hlt, _, hc⟩ := own_cells hown (by decide)
  have hbel : Below w.heap.size w w1 := ((Below.refl _ _).alloc (Nat.le_refl _) _).trans (hb1.mono (by simp))
  have c0 := hc 0 _ rfl
  have c1 := hc 1 _ rfl
  have c2 := hc 2 _ rfl
  have c3 := hc 3 _ rfl
  have HT1 := Lib.hid (HT.out.later hbel)
  clear hc hown hb1 HL HT kc
  subst hv
  go_wp2_with fail
  with_reducible refine (number_live _).mono ?_
  rintro e w2 ⟨rfl, rfl⟩
  go_wp2_with fail
  with_reducible refine (decimal_live _ HT1.out).mono ?_
  rintro e w2 ⟨rfl, hb2⟩
  have hbel2 : Below w.heap.size w w2 := hbel.trans (hb2.mono hbel.size)
  clear c0 c1 c2 c3 hb2
  go_wp2_with fail
  with_reducible refine (name_live _).mono ?_
  rintro e w3 ⟨rfl, rfl⟩
  go_wp2_with fail
  with_reducible refine (words_live _).mono ?_
  rintro e w3 ⟨g3, cap3, rfl, hb3⟩
  have hbel3 : Below w.heap.size w w3 := hbel2.trans (hb3.mono hbel2.size)
  go_wp2_with fail
  go_ret
  exact ⟨rfl, hbel3⟩
end Go.Proofs.YtbilhdfoajahkaaDoor.T
