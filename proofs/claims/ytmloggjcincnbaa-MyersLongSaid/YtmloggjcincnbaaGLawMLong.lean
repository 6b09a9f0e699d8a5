/-
  The law MyersLong.
-/
import Derived.Test.YtmloggjcincnbaaGmf
namespace Go.Proofs.Ytmloggjcincnbaa.M
set_option linter.unusedVariables false
set_option linter.unusedSimpArgs false
open Go.RowKit
open T
open V (IntsIn numCells numCells_snoc ints_own drawn_below)
open I (alloc1 own_at own_below)

set_option maxRecDepth 100000 in
set_option maxHeartbeats 1000000 in
theorem walk_long (A B : Option Addr) (n m c c' : Nat) (f : Value) (w : World) (hn : n ≤ maxLen) (hm : m ≤ maxLen) (h : 400 < n ∨ 400 < m) :
    Calls Try.prog 22 #[.slice A n c, .slice B m c', f] w fun e w' => e = .returned (.tuple #[]) ∧ w = w' := by
  have HH := Lib.hid h
  clear h
  go_enter Try.func22, Try.ntmps22
  go_wp2_with fail
  with_reducible refine (long_yes A B n m c c' w hn hm HH.out).mono ?_
  rintro e w' ⟨rfl, rfl⟩
  go_wp2_with fail
  refine bodyPost_ret (results_none rfl _ _ _) rfl ?_
  exact ⟨rfl, rfl⟩
set_option maxRecDepth 100000 in
set_option maxHeartbeats 1000000 in
theorem steps_long (A B : Option Addr) (n m c c' : Nat) (w : World) (hn : n ≤ maxLen) (hm : m ≤ maxLen) (h : 400 < n ∨ 400 < m) :
    Calls Try.prog 13 #[.slice A n c, .slice B m c'] w fun e w' => e = .returned (.slice none 0 0) ∧ Below w.heap.size w w' := by
  have hmf : ∀ (fn : Fn) (first cap : Array Value) (w : World), (Instr.makeFunc fn first cap).run Try.prog w = .ok (.func fn first cap) w := fun _ _ _ _ => rfl
  have HH := Lib.hid h
  clear h
  have c0 := cell_of_one (heap_alloc_new w (.cells #[.slice none 0 0] 26))
  go_enter Try.func13, Try.ntmps13
  go_wp2_with fail
  with_reducible refine (walk_long A B n m c c' _ _ hn hm HH.out).mono ?_
  rintro e w' ⟨rfl, rfl⟩
  go_wp2_with fail
  go_ret
  exact ⟨rfl, alloc1 _ _⟩
set_option maxRecDepth 100000 in
set_option maxHeartbeats 1000000 in
theorem pairs_long (A B : Option Addr) (n m c c' : Nat) (w : World) (hn : n ≤ maxLen) (hm : m ≤ maxLen) (h : 400 < n ∨ 400 < m) :
    Calls Try.prog 16 #[.slice A n c, .slice B m c'] w fun e w' => e = .returned (.slice none 0 0) ∧ Below w.heap.size w w' := by
  have hmf : ∀ (fn : Fn) (first cap : Array Value) (w : World), (Instr.makeFunc fn first cap).run Try.prog w = .ok (.func fn first cap) w := fun _ _ _ _ => rfl
  have HH := Lib.hid h
  clear h
  have c0 := cell_of_one (heap_alloc_new w (.cells #[.slice none 0 0] 29))
  go_enter Try.func16, Try.ntmps16
  go_wp2_with fail
  with_reducible refine (walk_long A B n m c c' _ _ hn hm HH.out).mono ?_
  rintro e w' ⟨rfl, rfl⟩
  go_wp2_with fail
  go_ret
  exact ⟨rfl, alloc1 _ _⟩
set_option maxRecDepth 100000 in
set_option maxHeartbeats 2000000 in
theorem mlong_law {A B : Option Addr} {n m c c' : Nat} {w : World} (hn : n ≤ maxLen) (hm : m ≤ maxLen) :
    Calls Try.prog 8 #[.slice A n c, .slice B m c'] w fun e w' => e = .returned (.bool true) ∧ Below w.heap.size w w' := by
  have HL := Lib.hid live7
  by_cases h : 400 < n ∨ 400 < m
  · have HH := Lib.hid h
    have HN := Lib.hid hn
    have HM := Lib.hid hm
    have hb : (true != (decide (400 < n) || decide (400 < m))) = false := by
      rw [show (decide (400 < n) || decide (400 < m)) = true by rw [Bool.or_eq_true, decide_eq_true_iff, decide_eq_true_iff]; exact h]; rfl
    have hb2 : (!decide (400 < (n : Int)) && !decide (400 < (m : Int))) = false := by
      rw [show (!decide (400 < (n : Int)) && !decide (400 < (m : Int))) = !(decide (400 < (n : Int)) || decide (400 < (m : Int))) by rw [Bool.not_or], show (decide (400 < (n : Int)) || decide (400 < (m : Int))) = true by rw [Bool.or_eq_true, decide_eq_true_iff, decide_eq_true_iff]; omega]; rfl
    by_cases h1 : 400 < n
    · clear h hn hm
      go_enter Try.func8, Try.ntmps8
      go_wp2_with fail
      with_reducible refine (long_yes A B n m c c' w HN.out HM.out HH.out).mono ?_
      rintro e w' ⟨rfl, rfl⟩
      go_wp2_with fail
      with_reducible refine (HL.out.at _).mono ?_
      rintro e w1 ⟨rfl, hb1⟩
      go_wp2_with fail
      with_reducible refine (dist_long A B n m c c' w1 HN.out HM.out HH.out).mono ?_
      rintro e w2 ⟨rfl, hb2⟩
      go_wp2_with fail
      with_reducible refine (pairs_long A B n m c c' w2 HN.out HM.out HH.out).mono ?_
      rintro e w3 ⟨rfl, hb3⟩
      go_wp2_with fail
      with_reducible refine (steps_long A B n m c c' w3 HN.out HM.out HH.out).mono ?_
      rintro e w4 ⟨rfl, hb4⟩
      go_wp2_with fail
      go_ret
      exact ⟨rfl, hb1.trans ((hb2.trans ((hb3.trans (hb4.mono hb3.size)).mono hb2.size)).mono hb1.size)⟩
    · have h2 : decide (400 < (m : Int)) = true := decide_eq_true (by omega)
      have h3 : decide (400 < (n : Int)) = false := decide_eq_false (by omega)
      clear h hn hm h1
      go_enter Try.func8, Try.ntmps8
      go_wp2_with fail
      with_reducible refine (long_yes A B n m c c' w HN.out HM.out HH.out).mono ?_
      rintro e w' ⟨rfl, rfl⟩
      go_wp2_with fail
      with_reducible refine (HL.out.at _).mono ?_
      rintro e w1 ⟨rfl, hb1⟩
      go_wp2_with fail
      with_reducible refine (dist_long A B n m c c' w1 HN.out HM.out HH.out).mono ?_
      rintro e w2 ⟨rfl, hb2⟩
      go_wp2_with fail
      with_reducible refine (pairs_long A B n m c c' w2 HN.out HM.out HH.out).mono ?_
      rintro e w3 ⟨rfl, hb3⟩
      go_wp2_with fail
      with_reducible refine (steps_long A B n m c c' w3 HN.out HM.out HH.out).mono ?_
      rintro e w4 ⟨rfl, hb4⟩
      go_wp2_with fail
      go_ret
      exact ⟨rfl, hb1.trans ((hb2.trans ((hb3.trans (hb4.mono hb3.size)).mono hb2.size)).mono hb1.size)⟩
  · have h1 : n ≤ 400 := by omega
    have h2 : m ≤ 400 := by omega
    clear h hn hm
    have h3 : decide (400 < (m : Int)) = false := decide_eq_false (by omega)
    have h4 : decide (400 < (n : Int)) = false := decide_eq_false (by omega)
    go_enter Try.func8, Try.ntmps8
    go_wp2_with fail
    with_reducible refine (long_no A B n m c c' w h1 h2).mono ?_
    rintro e w' ⟨rfl, rfl⟩
    go_wp2_with fail
    with_reducible refine (HL.out.at _).mono ?_
    rintro e w1 ⟨rfl, hb1⟩
    go_wp2_with fail
    go_ret
    exact ⟨rfl, hb1⟩
end Go.Proofs.Ytmloggjcincnbaa.M
