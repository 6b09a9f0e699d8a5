/-
  The reference's Check (layer 3), whatever policy it is handed.
  The reference's Print (layer 3): a policy that may be, as a text; or why there is none.
  The law PolicyPrints, walked: it returns true for every policy, where the library's table of powers of ten holds what its text lays.
-/
import Derived.Test.YtadhhamfikpimaaDoorGu
import Derived.Test.YtadhhamfikpimaaDoorGl
import Derived.Test.YtadhhamfikpimaaDoorGj
import Derived.Test.YtadhhamfikpimaaDoorGt
import Derived.Deep.DeepCutAuto
namespace Go.Proofs.YtadhhamfikpimaaDoor.O
set_option linter.unusedVariables false
set_option linter.unusedSimpArgs false
open Go.RowKit
open T

set_option maxRecDepth 100000 in
set_option maxHeartbeats 4000000 in
theorem rck_plain (n0 n1 n2 n3 n4 n5 : Int) (hid : ByteArray) (uA fA : Option Addr) (un fn ucap fcap : Nat) (w : World) (g0 : ¬ n0 < 1) (g1 : ¬ 16 < n0) (g2 : ¬ n1 < 0) (g3 : ¬ 64 < n1) (g4 : ¬ n2 < 1) (g5 : ¬ 400 < n2) (g6 : ¬ n3 < 0) (g7 : ¬ 64 < n3) (g8 : ¬ n4 < 1) (g9 : ¬ 200 < n4) (g10 : ¬ n5 < 0) (g11 : ¬ 20 < n5) 
    (HPL : Hid (∀ W : World, Calls Tryd.prog 45 #[.string hid] W fun e w' => e = .returned (.bool false) ∧ W = w')) :
    Calls Tryd.prog 19 #[polA n0 n1 n2 n3 n4 n5 hid (.slice uA un ucap) (.slice fA fn fcap)] w fun e w' => e = .returned (.int .i64 2) ∧ Below w.heap.size w w' := by
  obtain ⟨W0, hW0⟩ : ∃ W0 : World, W0 = w.alloc (.cells #[.int .i64 n0, .int .i64 n1, .int .i64 n2, .int .i64 n3, .int .i64 n4, .int .i64 n5, .string hid, .slice uA un ucap, .slice fA fn fcap] 26) := ⟨_, rfl⟩
  have HP0 := Lib.hid (show W0.heap[w.heap.size]? = some (.cells #[.int .i64 n0, .int .i64 n1, .int .i64 n2, .int .i64 n3, .int .i64 n4, .int .i64 n5, .string hid, .slice uA un ucap, .slice fA fn fcap] 26 (0, 0)) by rw [hW0]; exact heap_alloc_new w _)
  have HB0 := Lib.hid (show Below w.heap.size w W0 by rw [hW0]; exact (Below.refl _ _).alloc (Nat.le_refl _) _)
  go_enter Tryd.func19, Tryd.ntmps19
  go_wp2_with fail
  rw [← hW0]
  clear hW0 g0 g1 g2 g3 g4 g5 g6 g7 g8 g9 g10 g11
  with_reducible refine (HPL.out W0).mono ?_
  rintro e w' ⟨rfl, rfl⟩
  have p7 : W0.cell? ⟨w.heap.size, 7, none⟩ = some (.slice uA un ucap) := L.blk_cell HP0.out 7
  have p8 : W0.cell? ⟨w.heap.size, 8, none⟩ = some (.slice fA fn fcap) := L.blk_cell HP0.out 8
  go_wp2_with fail
  go_ret
  exact ⟨rfl, HB0.out⟩

set_option maxRecDepth 100000 in
set_option maxHeartbeats 4000000 in
theorem rck_users (n0 n1 n2 n3 n4 n5 : Int) (hid : ByteArray) (uA fA : Option Addr) (un fn ucap fcap : Nat) (w : World) (g0 : ¬ n0 < 1) (g1 : ¬ 16 < n0) (g2 : ¬ n1 < 0) (g3 : ¬ 64 < n1) (g4 : ¬ n2 < 1) (g5 : ¬ 400 < n2) (g6 : ¬ n3 < 0) (g7 : ¬ 64 < n3) (g8 : ¬ n4 < 1) (g9 : ¬ 200 < n4) (g10 : ¬ n5 < 0) (g11 : ¬ 20 < n5) (hu : (32 : Int) < (un : Int))
    (HPL : Hid (∀ W : World, Calls Tryd.prog 45 #[.string hid] W fun e w' => e = .returned (.bool true) ∧ W = w')) :
    Calls Tryd.prog 19 #[polA n0 n1 n2 n3 n4 n5 hid (.slice uA un ucap) (.slice fA fn fcap)] w fun e w' => e = .returned (.int .i64 2) ∧ Below w.heap.size w w' := by
  obtain ⟨W0, hW0⟩ : ∃ W0 : World, W0 = w.alloc (.cells #[.int .i64 n0, .int .i64 n1, .int .i64 n2, .int .i64 n3, .int .i64 n4, .int .i64 n5, .string hid, .slice uA un ucap, .slice fA fn fcap] 26) := ⟨_, rfl⟩
  have HP0 := Lib.hid (show W0.heap[w.heap.size]? = some (.cells #[.int .i64 n0, .int .i64 n1, .int .i64 n2, .int .i64 n3, .int .i64 n4, .int .i64 n5, .string hid, .slice uA un ucap, .slice fA fn fcap] 26 (0, 0)) by rw [hW0]; exact heap_alloc_new w _)
  have HB0 := Lib.hid (show Below w.heap.size w W0 by rw [hW0]; exact (Below.refl _ _).alloc (Nat.le_refl _) _)
  go_enter Tryd.func19, Tryd.ntmps19
  go_wp2_with fail
  rw [← hW0]
  clear hW0 g0 g1 g2 g3 g4 g5 g6 g7 g8 g9 g10 g11
  with_reducible refine (HPL.out W0).mono ?_
  rintro e w' ⟨rfl, rfl⟩
  have p7 : W0.cell? ⟨w.heap.size, 7, none⟩ = some (.slice uA un ucap) := L.blk_cell HP0.out 7
  have p8 : W0.cell? ⟨w.heap.size, 8, none⟩ = some (.slice fA fn fcap) := L.blk_cell HP0.out 8
  go_wp2_with fail
  go_ret
  exact ⟨rfl, HB0.out⟩

set_option maxRecDepth 100000 in
set_option maxHeartbeats 4000000 in
theorem rck_floors (n0 n1 n2 n3 n4 n5 : Int) (hid : ByteArray) (uA fA : Option Addr) (un fn ucap fcap : Nat) (w : World) (g0 : ¬ n0 < 1) (g1 : ¬ 16 < n0) (g2 : ¬ n1 < 0) (g3 : ¬ 64 < n1) (g4 : ¬ n2 < 1) (g5 : ¬ 400 < n2) (g6 : ¬ n3 < 0) (g7 : ¬ 64 < n3) (g8 : ¬ n4 < 1) (g9 : ¬ 200 < n4) (g10 : ¬ n5 < 0) (g11 : ¬ 20 < n5) (hu : ¬ (32 : Int) < (un : Int)) (hf : (32 : Int) < (fn : Int))
    (HPL : Hid (∀ W : World, Calls Tryd.prog 45 #[.string hid] W fun e w' => e = .returned (.bool true) ∧ W = w')) :
    Calls Tryd.prog 19 #[polA n0 n1 n2 n3 n4 n5 hid (.slice uA un ucap) (.slice fA fn fcap)] w fun e w' => e = .returned (.int .i64 2) ∧ Below w.heap.size w w' := by
  obtain ⟨W0, hW0⟩ : ∃ W0 : World, W0 = w.alloc (.cells #[.int .i64 n0, .int .i64 n1, .int .i64 n2, .int .i64 n3, .int .i64 n4, .int .i64 n5, .string hid, .slice uA un ucap, .slice fA fn fcap] 26) := ⟨_, rfl⟩
  have HP0 := Lib.hid (show W0.heap[w.heap.size]? = some (.cells #[.int .i64 n0, .int .i64 n1, .int .i64 n2, .int .i64 n3, .int .i64 n4, .int .i64 n5, .string hid, .slice uA un ucap, .slice fA fn fcap] 26 (0, 0)) by rw [hW0]; exact heap_alloc_new w _)
  have HB0 := Lib.hid (show Below w.heap.size w W0 by rw [hW0]; exact (Below.refl _ _).alloc (Nat.le_refl _) _)
  go_enter Tryd.func19, Tryd.ntmps19
  go_wp2_with fail
  rw [← hW0]
  clear hW0 g0 g1 g2 g3 g4 g5 g6 g7 g8 g9 g10 g11
  with_reducible refine (HPL.out W0).mono ?_
  rintro e w' ⟨rfl, rfl⟩
  have p7 : W0.cell? ⟨w.heap.size, 7, none⟩ = some (.slice uA un ucap) := L.blk_cell HP0.out 7
  have p8 : W0.cell? ⟨w.heap.size, 8, none⟩ = some (.slice fA fn fcap) := L.blk_cell HP0.out 8
  go_wp2_with fail
  go_ret
  exact ⟨rfl, HB0.out⟩

theorem refCheck_any (n0 n1 n2 n3 n4 n5 : Int) (hid : ByteArray) (uA fA : Option Addr) (ucap fcap : Nat) (us : List Usr) (fs : List Flr) (w : World) (hh : hid.size ≤ maxLen) (hU : UsersIn w uA us) (huc : ∀ u ∈ us, u.ct < 18446744073709551616 ∧ u.name.length ≤ maxLen) (hF : FloorsIn w fA fs) (hfc : ∀ u ∈ fs, u.ct < 18446744073709551616 ∧ u.pre.length ≤ maxLen) :
    Calls Tryd.prog 19 #[polA n0 n1 n2 n3 n4 n5 hid (.slice uA us.length ucap) (.slice fA fs.length fcap)] w fun e w' => e = .returned (.int .i64 (if polOk [n0, n1, n2, n3, n4, n5] hid.data.toList us fs then 0 else 2)) ∧ Below w.heap.size w w' := by
  have hok : polOk [n0, n1, n2, n3, n4, n5] hid.data.toList us fs = (numsOk [n0, n1, n2, n3, n4, n5] && plainB hid.data.toList && usersOk n0 n1 us && floorsOk n0 n1 fs) := rfl
  rw [hok]
  cases hn : numsOk [n0, n1, n2, n3, n4, n5] with
  | false => exact (rck_nums n0 n1 n2 n3 n4 n5 hid uA fA us.length fs.length ucap fcap w hn).mono fun e w' he => ⟨he.1, he.2⟩
  | true =>
    have hn2 := hn
    unfold numsOk at hn2
    rw [List.all_eq_true] at hn2
    have k0 : inB 1 16 n0 = true := hn2 0 (by decide)
    have k1 : inB 0 64 n1 = true := hn2 1 (by decide)
    have k2 : inB 1 400 n2 = true := hn2 2 (by decide)
    have k3 : inB 0 64 n3 = true := hn2 3 (by decide)
    have k4 : inB 1 200 n4 = true := hn2 4 (by decide)
    have k5 : inB 0 20 n5 = true := hn2 5 (by decide)
    unfold inB at k0 k1 k2 k3 k4 k5
    simp only [Bool.and_eq_true, decide_eq_true_eq] at k0 k1 k2 k3 k4 k5
    have HP : ∀ {b : Bool}, plainB hid.data.toList = b → ∀ W : World, Calls Tryd.prog 45 #[.string hid] W fun e w' => e = .returned (.bool b) ∧ W = w' := fun {b} hb W => by
      have := refPlain_any hid W hh
      rw [hb] at this
      exact this
    have g0 : ¬ n0 < 1 := by omega
    have g1 : ¬ 16 < n0 := by omega
    have g2 : ¬ n1 < 0 := by omega
    have g3 : ¬ 64 < n1 := by omega
    have g4 : ¬ n2 < 1 := by omega
    have g5 : ¬ 400 < n2 := by omega
    have g6 : ¬ n3 < 0 := by omega
    have g7 : ¬ 64 < n3 := by omega
    have g8 : ¬ n4 < 1 := by omega
    have g9 : ¬ 200 < n4 := by omega
    have g10 : ¬ n5 < 0 := by omega
    have g11 : ¬ 20 < n5 := by omega
    cases hp : plainB hid.data.toList with
    | false => exact (rck_plain n0 n1 n2 n3 n4 n5 hid uA fA us.length fs.length ucap fcap w g0 g1 g2 g3 g4 g5 g6 g7 g8 g9 g10 g11 (Lib.hid (HP hp))).mono fun e w' he => ⟨he.1, he.2⟩
    | true =>
      by_cases hu : us.length ≤ 32
      · by_cases hf : fs.length ≤ 32
        · have eu : usersOk n0 n1 us = seenOk n0 n1 [] (us.map fun u => (u.name, u.lv, u.ct)) := by unfold usersOk; rw [decide_eq_true hu, Bool.true_and]
          have ef : floorsOk n0 n1 fs = seenOk n0 n1 [] (fs.map fun u => (u.pre, u.lv, u.ct)) := by unfold floorsOk; rw [decide_eq_true hf, Bool.true_and]
          rw [eu, ef, Bool.true_and, Bool.true_and]
          exact rck_loops n0 n1 n2 n3 n4 n5 hid uA fA ucap fcap us fs _ w g0 g1 g2 g3 g4 g5 g6 g7 g8 g9 g10 g11 (Lib.hid hU) (Lib.hid hF) hu hf (Lib.hid huc) (Lib.hid hfc) (Lib.hid (HP hp)) (Lib.hid rfl)
        · have ef : floorsOk n0 n1 fs = false := by unfold floorsOk; rw [decide_eq_false hf, Bool.false_and]
          rw [ef, Bool.and_false]
          exact (rck_floors n0 n1 n2 n3 n4 n5 hid uA fA us.length fs.length ucap fcap w g0 g1 g2 g3 g4 g5 g6 g7 g8 g9 g10 g11 (by omega) (by omega) (Lib.hid (HP hp))).mono fun e w' he => ⟨he.1, he.2⟩
      · have eu : usersOk n0 n1 us = false := by unfold usersOk; rw [decide_eq_false hu, Bool.false_and]
        rw [eu, Bool.and_false, Bool.false_and]
        exact (rck_users n0 n1 n2 n3 n4 n5 hid uA fA us.length fs.length ucap fcap w g0 g1 g2 g3 g4 g5 g6 g7 g8 g9 g10 g11 (by omega) (Lib.hid (HP hp))).mono fun e w' he => ⟨he.1, he.2⟩
end Go.Proofs.YtadhhamfikpimaaDoor.O

namespace Go.Proofs.YtadhhamfikpimaaDoor.O
set_option linter.unusedVariables false
set_option linter.unusedSimpArgs false
open Go.RowKit
open T

theorem add_is {a b : ByteArray} {A B : Nat} (ha : a.size ≤ A) (hb : b.size ≤ B) (h : A + B ≤ 9000000) : ∃ z : ByteArray, (∀ w : World, (Op.stringOp .add a b).run Tryd.prog w = .ok (.string z) w) ∧ z.size ≤ A + B ∧ z.data.toList = a.data.toList ++ b.data.toList :=
  ⟨a ++ b, fun w => run_string_add_sum w a b (by omega), by rw [ByteArray.size_append]; omega, by simp⟩
def RDc (n : Int) (s : ByteArray) : Prop := ∀ w : World, Calls Tryd.prog 42 #[.int .i64 n] w fun e w' => e = .returned (.string s) ∧ Below w.heap.size w w'
theorem RDc.call {n : Int} {s : ByteArray} (h : RDc n s) (w : World) : Calls Tryd.prog 42 #[.int .i64 n] w fun e w' => e = .returned (.string s) ∧ Below w.heap.size w w' := h w
theorem rdec_any (n : Int) (w : World) : Calls Tryd.prog 42 #[.int .i64 n] w fun e w' => e = .returned (.string ⟨(P.decimal n).toArray⟩) ∧ Below w.heap.size w w' := by
  go_enter Tryd.func42, Tryd.ntmps42
  go_wp2_with fail
  with_reducible refine (refDecimal_any n _).mono ?_
  rintro e w2 ⟨rfl, hb2⟩
  go_wp2_with fail
  go_ret
  exact ⟨rfl, hb2⟩
def RPc (l : Int) (c : Nat) (s : ByteArray) : Prop := ∀ w : World, Calls Tryd.prog 43 #[L.lab l c] w fun e w' => e = .returned (.string s) ∧ Below w.heap.size w w'
theorem RPc.call {l : Int} {c : Nat} {s : ByteArray} (h : RPc l c s) (w : World) : Calls Tryd.prog 43 #[L.lab l c] w fun e w' => e = .returned (.string s) ∧ Below w.heap.size w w' := h w
theorem join_ones_snoc : ∀ (xs : List (List UInt8)) (t : List UInt8), P.join (ones (xs ++ [t])) = P.join (ones xs) ++ t ++ [10]
  | [], t => by simp [ones, P.join]
  | x :: r, t => by
    have ih := join_ones_snoc r t
    show x ++ (if !false || !(ones (r ++ [t])).isEmpty then [10] else []) ++ P.join (ones (r ++ [t])) = x ++ (if !false || !(ones r).isEmpty then [10] else []) ++ P.join (ones r) ++ t ++ [10]
    rw [ih]
    simp
def RckC (n0 n1 n2 n3 n4 n5 : Int) (hid : ByteArray) (uA fA : Option Addr) (ucap fcap : Nat) (us : List Usr) (fs : List Flr) (v : Int) : Prop :=
  ∀ W : World, UsersIn W uA us → FloorsIn W fA fs → Calls Tryd.prog 19 #[polA n0 n1 n2 n3 n4 n5 hid (.slice uA us.length ucap) (.slice fA fs.length fcap)] W fun e w' => e = .returned (.int .i64 v) ∧ Below W.heap.size W w'
theorem RckC.at {n0 n1 n2 n3 n4 n5 : Int} {hid : ByteArray} {uA fA : Option Addr} {ucap fcap : Nat} {us : List Usr} {fs : List Flr} {v : Int} (h : RckC n0 n1 n2 n3 n4 n5 hid uA fA ucap fcap us fs v) (W : World) (h1 : UsersIn W uA us) (h2 : FloorsIn W fA fs) :
    Calls Tryd.prog 19 #[polA n0 n1 n2 n3 n4 n5 hid (.slice uA us.length ucap) (.slice fA fs.length fcap)] W fun e w' => e = .returned (.int .i64 v) ∧ Below W.heap.size W w' := h W h1 h2
section
variable {n0 n1 n2 n3 n4 n5 : Int} {hid : ByteArray} {uA fA : Option Addr} {ucap fcap : Nat} {us : List Usr} {fs : List Flr} {w : World}

set_option maxRecDepth 100000 in
set_option maxHeartbeats 2000000 in
theorem rprint_bad (HU : Hid (UsersIn w uA us)) (HF : Hid (FloorsIn w fA fs)) (CK : Hid (RckC n0 n1 n2 n3 n4 n5 hid uA fA ucap fcap us fs 2)) (txt : List UInt8) :
    Calls Tryd.prog 17 #[polA n0 n1 n2 n3 n4 n5 hid (.slice uA us.length ucap) (.slice fA fs.length fcap)] w (PrintEnd w false txt) := by
  obtain ⟨W0, hW0⟩ : ∃ W0 : World, W0 = w.alloc (.cells #[.int .i64 n0, .int .i64 n1, .int .i64 n2, .int .i64 n3, .int .i64 n4, .int .i64 n5, .string hid, .slice uA us.length ucap, .slice fA fs.length fcap] 26) := ⟨_, rfl⟩
  have HB0 := Lib.hid (show Below w.heap.size w W0 by rw [hW0]; exact (Below.refl _ _).alloc (Nat.le_refl _) _)
  go_enter Tryd.func17, Tryd.ntmps17
  go_wp2_with fail
  rw [← hW0]
  clear hW0
  with_reducible refine (CK.out.at W0 (HU.out.below HB0.out) (HF.out.below HB0.out)).mono ?_
  rintro e w2 ⟨rfl, hb2⟩
  have HB2 := Lib.hid (HB0.out.trans (hb2.mono HB0.out.size))
  clear hb2 HB0
  go_wp2_with fail
  go_ret2
  exact ⟨HB2.out, by rw [if_neg (by decide)]; rfl⟩

set_option maxRecDepth 100000 in
set_option maxHeartbeats 16000000 in
theorem rprint_good (HU : Hid (UsersIn w uA us)) (HF : Hid (FloorsIn w fA fs)) (CK : Hid (RckC n0 n1 n2 n3 n4 n5 hid uA fA ucap fcap us fs 0)) (hul : us.length ≤ 32) (hfl : fs.length ≤ 32) (hhl : hid.size ≤ 200) (HNU : Hid (∀ u ∈ us, u.name.length ≤ 64)) (HNF : Hid (∀ u ∈ fs, u.pre.length ≤ 64)) (txt : List UInt8) (HTX : Hid (txt = P.join (ones (polLns [n0, n1, n2, n3, n4, n5] hid.data.toList us fs)))) :
    Calls Tryd.prog 17 #[polA n0 n1 n2 n3 n4 n5 hid (.slice uA us.length ucap) (.slice fA fs.length fcap)] w (PrintEnd w true txt) := by
  obtain ⟨W0, hW0⟩ : ∃ W0 : World, W0 = w.alloc (.cells #[.int .i64 n0, .int .i64 n1, .int .i64 n2, .int .i64 n3, .int .i64 n4, .int .i64 n5, .string hid, .slice uA us.length ucap, .slice fA fs.length fcap] 26) := ⟨_, rfl⟩
  have HB0 := Lib.hid (show Below w.heap.size w W0 by rw [hW0]; exact (Below.refl _ _).alloc (Nat.le_refl _) _)
  have HP0 := Lib.hid (show W0.heap[w.heap.size]? = some (.cells #[.int .i64 n0, .int .i64 n1, .int .i64 n2, .int .i64 n3, .int .i64 n4, .int .i64 n5, .string hid, .slice uA us.length ucap, .slice fA fs.length fcap] 26 (0, 0)) by rw [hW0]; exact heap_alloc_new w _)
  obtain ⟨d0, hd0, HD0, HE0⟩ : ∃ d : ByteArray, d.size ≤ 10 ∧ Hid (RDc n0 d) ∧ Hid (d.data.toList = P.decimal n0) := ⟨⟨(P.decimal n0).toArray⟩, by rw [list_size]; exact P.decimal_length _, Lib.hid fun W => rdec_any n0 W, Lib.hid (list_data _)⟩
  obtain ⟨d1, hd1, HD1, HE1⟩ : ∃ d : ByteArray, d.size ≤ 10 ∧ Hid (RDc n1 d) ∧ Hid (d.data.toList = P.decimal n1) := ⟨⟨(P.decimal n1).toArray⟩, by rw [list_size]; exact P.decimal_length _, Lib.hid fun W => rdec_any n1 W, Lib.hid (list_data _)⟩
  obtain ⟨d2, hd2, HD2, HE2⟩ : ∃ d : ByteArray, d.size ≤ 10 ∧ Hid (RDc n2 d) ∧ Hid (d.data.toList = P.decimal n2) := ⟨⟨(P.decimal n2).toArray⟩, by rw [list_size]; exact P.decimal_length _, Lib.hid fun W => rdec_any n2 W, Lib.hid (list_data _)⟩
  obtain ⟨d3, hd3, HD3, HE3⟩ : ∃ d : ByteArray, d.size ≤ 10 ∧ Hid (RDc n3 d) ∧ Hid (d.data.toList = P.decimal n3) := ⟨⟨(P.decimal n3).toArray⟩, by rw [list_size]; exact P.decimal_length _, Lib.hid fun W => rdec_any n3 W, Lib.hid (list_data _)⟩
  obtain ⟨d4, hd4, HD4, HE4⟩ : ∃ d : ByteArray, d.size ≤ 10 ∧ Hid (RDc n4 d) ∧ Hid (d.data.toList = P.decimal n4) := ⟨⟨(P.decimal n4).toArray⟩, by rw [list_size]; exact P.decimal_length _, Lib.hid fun W => rdec_any n4 W, Lib.hid (list_data _)⟩
  obtain ⟨d5, hd5, HD5, HE5⟩ : ∃ d : ByteArray, d.size ≤ 10 ∧ Hid (RDc n5 d) ∧ Hid (d.data.toList = P.decimal n5) := ⟨⟨(P.decimal n5).toArray⟩, by rw [list_size]; exact P.decimal_length _, Lib.hid fun W => rdec_any n5 W, Lib.hid (list_data _)⟩
  obtain ⟨z1, adz1, szz1, dtz1⟩ := add_is (a := ⟨#[108, 101, 118, 101, 108, 115, 32]⟩) (b := d0) (A := 7) (B := 10) (by first | assumption | decide) (by first | assumption | decide) (by omega)
  have DTz1 := Lib.hid dtz1
  clear dtz1
  obtain ⟨z2, adz2, szz2, dtz2⟩ := add_is (a := z1) (b := ⟨#[10, 99, 97, 116, 115, 32]⟩) (A := 17) (B := 6) (by first | assumption | decide) (by first | assumption | decide) (by omega)
  have DTz2 := Lib.hid dtz2
  clear dtz2
  obtain ⟨z3, adz3, szz3, dtz3⟩ := add_is (a := z2) (b := d1) (A := 23) (B := 10) (by first | assumption | decide) (by first | assumption | decide) (by omega)
  have DTz3 := Lib.hid dtz3
  clear dtz3
  obtain ⟨z4, adz4, szz4, dtz4⟩ := add_is (a := z3) (b := ⟨#[10, 108, 105, 110, 101, 115, 32]⟩) (A := 33) (B := 7) (by first | assumption | decide) (by first | assumption | decide) (by omega)
  have DTz4 := Lib.hid dtz4
  clear dtz4
  obtain ⟨z5, adz5, szz5, dtz5⟩ := add_is (a := z4) (b := d2) (A := 40) (B := 10) (by first | assumption | decide) (by first | assumption | decide) (by omega)
  have DTz5 := Lib.hid dtz5
  clear dtz5
  obtain ⟨z6, adz6, szz6, dtz6⟩ := add_is (a := z5) (b := ⟨#[10, 99, 111, 109, 109, 105, 116, 115, 32]⟩) (A := 50) (B := 9) (by first | assumption | decide) (by first | assumption | decide) (by omega)
  have DTz6 := Lib.hid dtz6
  clear dtz6
  obtain ⟨z7, adz7, szz7, dtz7⟩ := add_is (a := z6) (b := d3) (A := 59) (B := 10) (by first | assumption | decide) (by first | assumption | decide) (by omega)
  have DTz7 := Lib.hid dtz7
  clear dtz7
  obtain ⟨z8, adz8, szz8, dtz8⟩ := add_is (a := z7) (b := ⟨#[10, 108, 111, 103, 32]⟩) (A := 69) (B := 5) (by first | assumption | decide) (by first | assumption | decide) (by omega)
  have DTz8 := Lib.hid dtz8
  clear dtz8
  obtain ⟨z9, adz9, szz9, dtz9⟩ := add_is (a := z8) (b := d4) (A := 74) (B := 10) (by first | assumption | decide) (by first | assumption | decide) (by omega)
  have DTz9 := Lib.hid dtz9
  clear dtz9
  obtain ⟨z10, adz10, szz10, dtz10⟩ := add_is (a := z9) (b := ⟨#[10, 99, 111, 110, 116, 101, 120, 116, 32]⟩) (A := 84) (B := 9) (by first | assumption | decide) (by first | assumption | decide) (by omega)
  have DTz10 := Lib.hid dtz10
  clear dtz10
  obtain ⟨z11, adz11, szz11, dtz11⟩ := add_is (a := z10) (b := d5) (A := 93) (B := 10) (by first | assumption | decide) (by first | assumption | decide) (by omega)
  have DTz11 := Lib.hid dtz11
  clear dtz11
  obtain ⟨z12, adz12, szz12, dtz12⟩ := add_is (a := z11) (b := ⟨#[10, 104, 105, 100, 100, 101, 110, 32]⟩) (A := 103) (B := 8) (by first | assumption | decide) (by first | assumption | decide) (by omega)
  have DTz12 := Lib.hid dtz12
  clear dtz12
  obtain ⟨z13, adz13, szz13, dtz13⟩ := add_is (a := z12) (b := hid) (A := 111) (B := 200) (by first | assumption | decide) (by first | assumption | decide) (by omega)
  have DTz13 := Lib.hid dtz13
  clear dtz13
  obtain ⟨z14, adz14, szz14, dtz14⟩ := add_is (a := z13) (b := ⟨#[10]⟩) (A := 311) (B := 1) (by first | assumption | decide) (by first | assumption | decide) (by omega)
  have DTz14 := Lib.hid dtz14
  clear dtz14
  have HZL := Lib.hid (show z14.data.toList = P.join (ones (numLns [n0, n1, n2, n3, n4, n5] 6 ++ [kHidden ++ 32 :: hid.data.toList])) by
    rw [DTz14.out, DTz13.out, DTz12.out, DTz11.out, DTz10.out, DTz9.out, DTz8.out, DTz7.out, DTz6.out, DTz5.out, DTz4.out, DTz3.out, DTz2.out, DTz1.out, HE0.out, HE1.out, HE2.out, HE3.out, HE4.out, HE5.out]
    simp [numLns, numLn, ones, P.join, keys, kHidden, List.range_succ])
  go_enter Tryd.func17, Tryd.ntmps17
  go_wp2_with fail
  rw [← hW0]
  clear hW0
  obtain ⟨pb, hpb⟩ : ∃ pb, pb = w.heap.size := ⟨_, rfl⟩
  rw [← hpb] at HP0 ⊢
  clear hpb
  with_reducible refine (CK.out.at W0 (HU.out.below HB0.out) (HF.out.below HB0.out)).mono ?_
  rintro e w2 ⟨rfl, hb2⟩
  have HB2 := Lib.hid (HB0.out.trans (hb2.mono HB0.out.size))
  have HP2 := Lib.hid ((hb2.block _ (L.blk_lt HP0.out)).trans HP0.out)
  have HU2 := Lib.hid (HU.out.below HB2.out)
  have HF2 := Lib.hid (HF.out.below HB2.out)
  clear hb2 HB0 HP0 HU HF
  have HSX : Hid (∀ wz, Below w2.heap.size w2 wz → wz.cell? ⟨pb, 0, none⟩ = some (.int .i64 n0) ∧ wz.cell? ⟨pb, 1, none⟩ = some (.int .i64 n1) ∧ wz.cell? ⟨pb, 2, none⟩ = some (.int .i64 n2) ∧ wz.cell? ⟨pb, 3, none⟩ = some (.int .i64 n3) ∧ wz.cell? ⟨pb, 4, none⟩ = some (.int .i64 n4) ∧ wz.cell? ⟨pb, 5, none⟩ = some (.int .i64 n5) ∧ wz.cell? ⟨pb, 6, none⟩ = some (.string hid) ∧ Below w2.heap.size w2 wz) := Lib.hid (fun wz h => by
    obtain ⟨a0, a1, a2, a3, a4, a5, a6, -, -⟩ := pol_cells HP2.out
    exact ⟨cell_later h a0, cell_later h a1, cell_later h a2, cell_later h a3, cell_later h a4, cell_later h a5, cell_later h a6, h⟩)
  go_wp2_with fail
  refine wp_region_held_drew (S := fun wz => wz.cell? ⟨pb, 0, none⟩ = some (.int .i64 n0) ∧ wz.cell? ⟨pb, 1, none⟩ = some (.int .i64 n1) ∧ wz.cell? ⟨pb, 2, none⟩ = some (.int .i64 n2) ∧ wz.cell? ⟨pb, 3, none⟩ = some (.int .i64 n3) ∧ wz.cell? ⟨pb, 4, none⟩ = some (.int .i64 n4) ∧ wz.cell? ⟨pb, 5, none⟩ = some (.int .i64 n5) ∧ wz.cell? ⟨pb, 6, none⟩ = some (.string hid) ∧ Below w2.heap.size w2 wz) (by kernel_rfl) (HSX.out _ (drew_below w2)) (fun hH0 => ?_)
  generalize w2.drew = wA at *
  refine wpAnyH_take (i := 0) (oi := { dst := some 13, op := Go.Op.fieldAddr 26 (Go.Operand.tmp 1) 0, type := 0, pos := "ref.go:93", after := #[], guard := none }) (v := ?_) rfl (by kernel_rfl) (by kernel_rfl) (by kernel_rfl) (fun _ _ _ h => h) (Or.inl ⟨by rfl, ?_⟩) hH0 ?_
  rotate_left
  · (intro wz hSz; (try dsimp only at hSz); go_simp; try with_reducible rfl)
  try simp only [Act.put, List.setIfInBounds_toArray, List.set_cons_zero, List.set_cons_succ]
  refine wpAnyH_take (i := 1) (oi := { dst := some 14, op := Go.Op.load 3 (Go.Operand.tmp 13), type := 3, pos := "ref.go:93", after := #[{ on := 0, ground := Go.Ground.data }], guard := none }) (v := ?_) rfl (by kernel_rfl) (by kernel_rfl) (by kernel_rfl) (fun _ _ _ h => h) (Or.inl ⟨by rfl, ?_⟩) hH0 ?_
  rotate_left
  · (intro wz hSz; (try dsimp only at hSz); go_simp; try with_reducible rfl)
  try simp only [Act.put, List.setIfInBounds_toArray, List.set_cons_zero, List.set_cons_succ]
  refine wpAnyH_take (i := 5) (oi := { dst := some 18, op := Go.Op.fieldAddr 26 (Go.Operand.tmp 1) 1, type := 0, pos := "ref.go:93", after := #[], guard := none }) (v := ?_) rfl (by kernel_rfl) (by kernel_rfl) (by kernel_rfl) (fun _ _ _ h => h) (Or.inl ⟨by rfl, ?_⟩) hH0 ?_
  rotate_left
  · (intro wz hSz; (try dsimp only at hSz); go_simp; try with_reducible rfl)
  try simp only [Act.put, List.setIfInBounds_toArray, List.set_cons_zero, List.set_cons_succ]
  refine wpAnyH_take (i := 6) (oi := { dst := some 19, op := Go.Op.load 3 (Go.Operand.tmp 18), type := 3, pos := "ref.go:93", after := #[{ on := 5, ground := Go.Ground.data }], guard := none }) (v := ?_) rfl (by kernel_rfl) (by kernel_rfl) (by kernel_rfl) (fun _ _ _ h => h) (Or.inl ⟨by rfl, ?_⟩) hH0 ?_
  rotate_left
  · (intro wz hSz; (try dsimp only at hSz); go_simp; try with_reducible rfl)
  try simp only [Act.put, List.setIfInBounds_toArray, List.set_cons_zero, List.set_cons_succ]
  refine wpAnyH_take (i := 10) (oi := { dst := some 23, op := Go.Op.fieldAddr 26 (Go.Operand.tmp 1) 2, type := 0, pos := "ref.go:93", after := #[], guard := none }) (v := ?_) rfl (by kernel_rfl) (by kernel_rfl) (by kernel_rfl) (fun _ _ _ h => h) (Or.inl ⟨by rfl, ?_⟩) hH0 ?_
  rotate_left
  · (intro wz hSz; (try dsimp only at hSz); go_simp; try with_reducible rfl)
  try simp only [Act.put, List.setIfInBounds_toArray, List.set_cons_zero, List.set_cons_succ]
  refine wpAnyH_take (i := 11) (oi := { dst := some 24, op := Go.Op.load 3 (Go.Operand.tmp 23), type := 3, pos := "ref.go:93", after := #[{ on := 10, ground := Go.Ground.data }], guard := none }) (v := ?_) rfl (by kernel_rfl) (by kernel_rfl) (by kernel_rfl) (fun _ _ _ h => h) (Or.inl ⟨by rfl, ?_⟩) hH0 ?_
  rotate_left
  · (intro wz hSz; (try dsimp only at hSz); go_simp; try with_reducible rfl)
  try simp only [Act.put, List.setIfInBounds_toArray, List.set_cons_zero, List.set_cons_succ]
  refine wpAnyH_take (i := 15) (oi := { dst := some 28, op := Go.Op.fieldAddr 26 (Go.Operand.tmp 1) 3, type := 0, pos := "ref.go:93", after := #[], guard := none }) (v := ?_) rfl (by kernel_rfl) (by kernel_rfl) (by kernel_rfl) (fun _ _ _ h => h) (Or.inl ⟨by rfl, ?_⟩) hH0 ?_
  rotate_left
  · (intro wz hSz; (try dsimp only at hSz); go_simp; try with_reducible rfl)
  try simp only [Act.put, List.setIfInBounds_toArray, List.set_cons_zero, List.set_cons_succ]
  refine wpAnyH_take (i := 16) (oi := { dst := some 29, op := Go.Op.load 3 (Go.Operand.tmp 28), type := 3, pos := "ref.go:93", after := #[{ on := 15, ground := Go.Ground.data }], guard := none }) (v := ?_) rfl (by kernel_rfl) (by kernel_rfl) (by kernel_rfl) (fun _ _ _ h => h) (Or.inl ⟨by rfl, ?_⟩) hH0 ?_
  rotate_left
  · (intro wz hSz; (try dsimp only at hSz); go_simp; try with_reducible rfl)
  try simp only [Act.put, List.setIfInBounds_toArray, List.set_cons_zero, List.set_cons_succ]
  refine wpAnyH_take (i := 20) (oi := { dst := some 33, op := Go.Op.fieldAddr 26 (Go.Operand.tmp 1) 4, type := 0, pos := "ref.go:93", after := #[], guard := none }) (v := ?_) rfl (by kernel_rfl) (by kernel_rfl) (by kernel_rfl) (fun _ _ _ h => h) (Or.inl ⟨by rfl, ?_⟩) hH0 ?_
  rotate_left
  · (intro wz hSz; (try dsimp only at hSz); go_simp; try with_reducible rfl)
  try simp only [Act.put, List.setIfInBounds_toArray, List.set_cons_zero, List.set_cons_succ]
  refine wpAnyH_take (i := 21) (oi := { dst := some 34, op := Go.Op.load 3 (Go.Operand.tmp 33), type := 3, pos := "ref.go:93", after := #[{ on := 20, ground := Go.Ground.data }], guard := none }) (v := ?_) rfl (by kernel_rfl) (by kernel_rfl) (by kernel_rfl) (fun _ _ _ h => h) (Or.inl ⟨by rfl, ?_⟩) hH0 ?_
  rotate_left
  · (intro wz hSz; (try dsimp only at hSz); go_simp; try with_reducible rfl)
  try simp only [Act.put, List.setIfInBounds_toArray, List.set_cons_zero, List.set_cons_succ]
  refine wpAnyH_take (i := 25) (oi := { dst := some 38, op := Go.Op.fieldAddr 26 (Go.Operand.tmp 1) 5, type := 0, pos := "ref.go:93", after := #[], guard := none }) (v := ?_) rfl (by kernel_rfl) (by kernel_rfl) (by kernel_rfl) (fun _ _ _ h => h) (Or.inl ⟨by rfl, ?_⟩) hH0 ?_
  rotate_left
  · (intro wz hSz; (try dsimp only at hSz); go_simp; try with_reducible rfl)
  try simp only [Act.put, List.setIfInBounds_toArray, List.set_cons_zero, List.set_cons_succ]
  refine wpAnyH_take (i := 26) (oi := { dst := some 39, op := Go.Op.load 3 (Go.Operand.tmp 38), type := 3, pos := "ref.go:93", after := #[{ on := 25, ground := Go.Ground.data }], guard := none }) (v := ?_) rfl (by kernel_rfl) (by kernel_rfl) (by kernel_rfl) (fun _ _ _ h => h) (Or.inl ⟨by rfl, ?_⟩) hH0 ?_
  rotate_left
  · (intro wz hSz; (try dsimp only at hSz); go_simp; try with_reducible rfl)
  try simp only [Act.put, List.setIfInBounds_toArray, List.set_cons_zero, List.set_cons_succ]
  refine wpAnyH_take (i := 30) (oi := { dst := some 43, op := Go.Op.fieldAddr 26 (Go.Operand.tmp 1) 6, type := 0, pos := "ref.go:93", after := #[], guard := none }) (v := ?_) rfl (by kernel_rfl) (by kernel_rfl) (by kernel_rfl) (fun _ _ _ h => h) (Or.inl ⟨by rfl, ?_⟩) hH0 ?_
  rotate_left
  · (intro wz hSz; (try dsimp only at hSz); go_simp; try with_reducible rfl)
  try simp only [Act.put, List.setIfInBounds_toArray, List.set_cons_zero, List.set_cons_succ]
  refine wpAnyH_take (i := 31) (oi := { dst := some 44, op := Go.Op.load 9 (Go.Operand.tmp 43), type := 9, pos := "ref.go:93", after := #[{ on := 30, ground := Go.Ground.data }], guard := none }) (v := ?_) rfl (by kernel_rfl) (by kernel_rfl) (by kernel_rfl) (fun _ _ _ h => h) (Or.inl ⟨by rfl, ?_⟩) hH0 ?_
  rotate_left
  · (intro wz hSz; (try dsimp only at hSz); go_simp; try with_reducible rfl)
  try simp only [Act.put, List.setIfInBounds_toArray, List.set_cons_zero, List.set_cons_succ]
  refine wpAnyH_ready (rs := [2]) (by kernel_rfl) (by simp) ?_
  refine AllReadyH.cons (o := { dst := some 15, op := Go.Op.call { callee := Go.Callee.value (Go.Operand.func 42), args := #[Go.Operand.tmp 14], argTypes := #[3] }, type := 9, pos := "ref.go:93", after := #[{ on := 1, ground := Go.Ground.data }], guard := none }) rfl (fun K hK => ?_) AllReadyH.nil
  go_simp
  with_reducible refine (HD0.out.call _).mono ?_
  rintro r wq0 ⟨rfl, hbq⟩
  go_wp2_with fail
  refine hK.out _ _ (HSX.out _ (hH0.2.2.2.2.2.2.2.trans (hbq.mono hH0.2.2.2.2.2.2.2.size))) (fun hH1 => ?_)
  clear hK K hbq hH0
  try simp only [Act.put, List.setIfInBounds_toArray, List.set_cons_zero, List.set_cons_succ]
  refine wpAnyH_take (i := 3) (oi := { dst := some 16, op := Go.Op.binOp Go.BinOp.add 9 (Go.Operand.const (Go.Value.string { data := #[108, 101, 118, 101, 108, 115, 32] })) (Go.Operand.tmp 15) 9, type := 9, pos := "ref.go:93", after := #[{ on := 2, ground := Go.Ground.data }], guard := none }) (v := ?_) rfl (by kernel_rfl) (by kernel_rfl) (by kernel_rfl) (fun _ _ _ h => h) (Or.inl ⟨by rfl, ?_⟩) hH1 ?_
  rotate_left
  · (intro wz hSz; (try dsimp only at hSz); go_simp; try with_reducible rfl)
  try simp only [Act.put, List.setIfInBounds_toArray, List.set_cons_zero, List.set_cons_succ]
  refine wpAnyH_take (i := 4) (oi := { dst := some 17, op := Go.Op.binOp Go.BinOp.add 9 (Go.Operand.tmp 16) (Go.Operand.const (Go.Value.string { data := #[10, 99, 97, 116, 115, 32] })) 9, type := 9, pos := "ref.go:93", after := #[{ on := 3, ground := Go.Ground.data }], guard := none }) (v := ?_) rfl (by kernel_rfl) (by kernel_rfl) (by kernel_rfl) (fun _ _ _ h => h) (Or.inl ⟨by rfl, ?_⟩) hH1 ?_
  rotate_left
  · (intro wz hSz; (try dsimp only at hSz); go_simp; try with_reducible rfl)
  try simp only [Act.put, List.setIfInBounds_toArray, List.set_cons_zero, List.set_cons_succ]
  refine wpAnyH_ready (rs := [7]) (by kernel_rfl) (by simp) ?_
  refine AllReadyH.cons (o := { dst := some 20, op := Go.Op.call { callee := Go.Callee.value (Go.Operand.func 42), args := #[Go.Operand.tmp 19], argTypes := #[3] }, type := 9, pos := "ref.go:93", after := #[{ on := 6, ground := Go.Ground.data }, { on := 2, ground := Go.Ground.chain }], guard := none }) rfl (fun K hK => ?_) AllReadyH.nil
  go_simp
  with_reducible refine (HD1.out.call _).mono ?_
  rintro r wq1 ⟨rfl, hbq⟩
  go_wp2_with fail
  refine hK.out _ _ (HSX.out _ (hH1.2.2.2.2.2.2.2.trans (hbq.mono hH1.2.2.2.2.2.2.2.size))) (fun hH2 => ?_)
  clear hK K hbq hH1
  try simp only [Act.put, List.setIfInBounds_toArray, List.set_cons_zero, List.set_cons_succ]
  refine wpAnyH_take (i := 8) (oi := { dst := some 21, op := Go.Op.binOp Go.BinOp.add 9 (Go.Operand.tmp 17) (Go.Operand.tmp 20) 9, type := 9, pos := "ref.go:93", after := #[{ on := 4, ground := Go.Ground.data }, { on := 7, ground := Go.Ground.data }], guard := none }) (v := ?_) rfl (by kernel_rfl) (by kernel_rfl) (by kernel_rfl) (fun _ _ _ h => h) (Or.inl ⟨by rfl, ?_⟩) hH2 ?_
  rotate_left
  · (intro wz hSz; (try dsimp only at hSz); go_simp; try with_reducible rfl)
  try simp only [Act.put, List.setIfInBounds_toArray, List.set_cons_zero, List.set_cons_succ]
  refine wpAnyH_take (i := 9) (oi := { dst := some 22, op := Go.Op.binOp Go.BinOp.add 9 (Go.Operand.tmp 21) (Go.Operand.const (Go.Value.string { data := #[10, 108, 105, 110, 101, 115, 32] })) 9, type := 9, pos := "ref.go:93", after := #[{ on := 8, ground := Go.Ground.data }], guard := none }) (v := ?_) rfl (by kernel_rfl) (by kernel_rfl) (by kernel_rfl) (fun _ _ _ h => h) (Or.inl ⟨by rfl, ?_⟩) hH2 ?_
  rotate_left
  · (intro wz hSz; (try dsimp only at hSz); go_simp; try with_reducible rfl)
  try simp only [Act.put, List.setIfInBounds_toArray, List.set_cons_zero, List.set_cons_succ]
  refine wpAnyH_ready (rs := [12]) (by kernel_rfl) (by simp) ?_
  refine AllReadyH.cons (o := { dst := some 25, op := Go.Op.call { callee := Go.Callee.value (Go.Operand.func 42), args := #[Go.Operand.tmp 24], argTypes := #[3] }, type := 9, pos := "ref.go:93", after := #[{ on := 11, ground := Go.Ground.data }, { on := 7, ground := Go.Ground.chain }], guard := none }) rfl (fun K hK => ?_) AllReadyH.nil
  go_simp
  with_reducible refine (HD2.out.call _).mono ?_
  rintro r wq2 ⟨rfl, hbq⟩
  go_wp2_with fail
  refine hK.out _ _ (HSX.out _ (hH2.2.2.2.2.2.2.2.trans (hbq.mono hH2.2.2.2.2.2.2.2.size))) (fun hH3 => ?_)
  clear hK K hbq hH2
  try simp only [Act.put, List.setIfInBounds_toArray, List.set_cons_zero, List.set_cons_succ]
  refine wpAnyH_take (i := 13) (oi := { dst := some 26, op := Go.Op.binOp Go.BinOp.add 9 (Go.Operand.tmp 22) (Go.Operand.tmp 25) 9, type := 9, pos := "ref.go:93", after := #[{ on := 9, ground := Go.Ground.data }, { on := 12, ground := Go.Ground.data }], guard := none }) (v := ?_) rfl (by kernel_rfl) (by kernel_rfl) (by kernel_rfl) (fun _ _ _ h => h) (Or.inl ⟨by rfl, ?_⟩) hH3 ?_
  rotate_left
  · (intro wz hSz; (try dsimp only at hSz); go_simp; try with_reducible rfl)
  try simp only [Act.put, List.setIfInBounds_toArray, List.set_cons_zero, List.set_cons_succ]
  refine wpAnyH_take (i := 14) (oi := { dst := some 27, op := Go.Op.binOp Go.BinOp.add 9 (Go.Operand.tmp 26) (Go.Operand.const (Go.Value.string { data := #[10, 99, 111, 109, 109, 105, 116, 115, 32] })) 9, type := 9, pos := "ref.go:93", after := #[{ on := 13, ground := Go.Ground.data }], guard := none }) (v := ?_) rfl (by kernel_rfl) (by kernel_rfl) (by kernel_rfl) (fun _ _ _ h => h) (Or.inl ⟨by rfl, ?_⟩) hH3 ?_
  rotate_left
  · (intro wz hSz; (try dsimp only at hSz); go_simp; try with_reducible rfl)
  try simp only [Act.put, List.setIfInBounds_toArray, List.set_cons_zero, List.set_cons_succ]
  refine wpAnyH_ready (rs := [17]) (by kernel_rfl) (by simp) ?_
  refine AllReadyH.cons (o := { dst := some 30, op := Go.Op.call { callee := Go.Callee.value (Go.Operand.func 42), args := #[Go.Operand.tmp 29], argTypes := #[3] }, type := 9, pos := "ref.go:93", after := #[{ on := 16, ground := Go.Ground.data }, { on := 12, ground := Go.Ground.chain }], guard := none }) rfl (fun K hK => ?_) AllReadyH.nil
  go_simp
  with_reducible refine (HD3.out.call _).mono ?_
  rintro r wq3 ⟨rfl, hbq⟩
  go_wp2_with fail
  refine hK.out _ _ (HSX.out _ (hH3.2.2.2.2.2.2.2.trans (hbq.mono hH3.2.2.2.2.2.2.2.size))) (fun hH4 => ?_)
  clear hK K hbq hH3
  try simp only [Act.put, List.setIfInBounds_toArray, List.set_cons_zero, List.set_cons_succ]
  refine wpAnyH_take (i := 18) (oi := { dst := some 31, op := Go.Op.binOp Go.BinOp.add 9 (Go.Operand.tmp 27) (Go.Operand.tmp 30) 9, type := 9, pos := "ref.go:93", after := #[{ on := 14, ground := Go.Ground.data }, { on := 17, ground := Go.Ground.data }], guard := none }) (v := ?_) rfl (by kernel_rfl) (by kernel_rfl) (by kernel_rfl) (fun _ _ _ h => h) (Or.inl ⟨by rfl, ?_⟩) hH4 ?_
  rotate_left
  · (intro wz hSz; (try dsimp only at hSz); go_simp; try with_reducible rfl)
  try simp only [Act.put, List.setIfInBounds_toArray, List.set_cons_zero, List.set_cons_succ]
  refine wpAnyH_take (i := 19) (oi := { dst := some 32, op := Go.Op.binOp Go.BinOp.add 9 (Go.Operand.tmp 31) (Go.Operand.const (Go.Value.string { data := #[10, 108, 111, 103, 32] })) 9, type := 9, pos := "ref.go:93", after := #[{ on := 18, ground := Go.Ground.data }], guard := none }) (v := ?_) rfl (by kernel_rfl) (by kernel_rfl) (by kernel_rfl) (fun _ _ _ h => h) (Or.inl ⟨by rfl, ?_⟩) hH4 ?_
  rotate_left
  · (intro wz hSz; (try dsimp only at hSz); go_simp; try with_reducible rfl)
  try simp only [Act.put, List.setIfInBounds_toArray, List.set_cons_zero, List.set_cons_succ]
  refine wpAnyH_ready (rs := [22]) (by kernel_rfl) (by simp) ?_
  refine AllReadyH.cons (o := { dst := some 35, op := Go.Op.call { callee := Go.Callee.value (Go.Operand.func 42), args := #[Go.Operand.tmp 34], argTypes := #[3] }, type := 9, pos := "ref.go:93", after := #[{ on := 21, ground := Go.Ground.data }, { on := 17, ground := Go.Ground.chain }], guard := none }) rfl (fun K hK => ?_) AllReadyH.nil
  go_simp
  with_reducible refine (HD4.out.call _).mono ?_
  rintro r wq4 ⟨rfl, hbq⟩
  go_wp2_with fail
  refine hK.out _ _ (HSX.out _ (hH4.2.2.2.2.2.2.2.trans (hbq.mono hH4.2.2.2.2.2.2.2.size))) (fun hH5 => ?_)
  clear hK K hbq hH4
  try simp only [Act.put, List.setIfInBounds_toArray, List.set_cons_zero, List.set_cons_succ]
  refine wpAnyH_take (i := 23) (oi := { dst := some 36, op := Go.Op.binOp Go.BinOp.add 9 (Go.Operand.tmp 32) (Go.Operand.tmp 35) 9, type := 9, pos := "ref.go:93", after := #[{ on := 19, ground := Go.Ground.data }, { on := 22, ground := Go.Ground.data }], guard := none }) (v := ?_) rfl (by kernel_rfl) (by kernel_rfl) (by kernel_rfl) (fun _ _ _ h => h) (Or.inl ⟨by rfl, ?_⟩) hH5 ?_
  rotate_left
  · (intro wz hSz; (try dsimp only at hSz); go_simp; try with_reducible rfl)
  try simp only [Act.put, List.setIfInBounds_toArray, List.set_cons_zero, List.set_cons_succ]
  refine wpAnyH_take (i := 24) (oi := { dst := some 37, op := Go.Op.binOp Go.BinOp.add 9 (Go.Operand.tmp 36) (Go.Operand.const (Go.Value.string { data := #[10, 99, 111, 110, 116, 101, 120, 116, 32] })) 9, type := 9, pos := "ref.go:93", after := #[{ on := 23, ground := Go.Ground.data }], guard := none }) (v := ?_) rfl (by kernel_rfl) (by kernel_rfl) (by kernel_rfl) (fun _ _ _ h => h) (Or.inl ⟨by rfl, ?_⟩) hH5 ?_
  rotate_left
  · (intro wz hSz; (try dsimp only at hSz); go_simp; try with_reducible rfl)
  try simp only [Act.put, List.setIfInBounds_toArray, List.set_cons_zero, List.set_cons_succ]
  refine wpAnyH_ready (rs := [27]) (by kernel_rfl) (by simp) ?_
  refine AllReadyH.cons (o := { dst := some 40, op := Go.Op.call { callee := Go.Callee.value (Go.Operand.func 42), args := #[Go.Operand.tmp 39], argTypes := #[3] }, type := 9, pos := "ref.go:93", after := #[{ on := 26, ground := Go.Ground.data }, { on := 22, ground := Go.Ground.chain }], guard := none }) rfl (fun K hK => ?_) AllReadyH.nil
  go_simp
  with_reducible refine (HD5.out.call _).mono ?_
  rintro r wq5 ⟨rfl, hbq⟩
  go_wp2_with fail
  refine hK.out _ _ (HSX.out _ (hH5.2.2.2.2.2.2.2.trans (hbq.mono hH5.2.2.2.2.2.2.2.size))) (fun hH6 => ?_)
  clear hK K hbq hH5
  try simp only [Act.put, List.setIfInBounds_toArray, List.set_cons_zero, List.set_cons_succ]
  refine wpAnyH_take (i := 28) (oi := { dst := some 41, op := Go.Op.binOp Go.BinOp.add 9 (Go.Operand.tmp 37) (Go.Operand.tmp 40) 9, type := 9, pos := "ref.go:93", after := #[{ on := 24, ground := Go.Ground.data }, { on := 27, ground := Go.Ground.data }], guard := none }) (v := ?_) rfl (by kernel_rfl) (by kernel_rfl) (by kernel_rfl) (fun _ _ _ h => h) (Or.inl ⟨by rfl, ?_⟩) hH6 ?_
  rotate_left
  · (intro wz hSz; (try dsimp only at hSz); go_simp; try with_reducible rfl)
  try simp only [Act.put, List.setIfInBounds_toArray, List.set_cons_zero, List.set_cons_succ]
  refine wpAnyH_take (i := 29) (oi := { dst := some 42, op := Go.Op.binOp Go.BinOp.add 9 (Go.Operand.tmp 41) (Go.Operand.const (Go.Value.string { data := #[10, 104, 105, 100, 100, 101, 110, 32] })) 9, type := 9, pos := "ref.go:93", after := #[{ on := 28, ground := Go.Ground.data }], guard := none }) (v := ?_) rfl (by kernel_rfl) (by kernel_rfl) (by kernel_rfl) (fun _ _ _ h => h) (Or.inl ⟨by rfl, ?_⟩) hH6 ?_
  rotate_left
  · (intro wz hSz; (try dsimp only at hSz); go_simp; try with_reducible rfl)
  try simp only [Act.put, List.setIfInBounds_toArray, List.set_cons_zero, List.set_cons_succ]
  refine wpAnyH_take (i := 32) (oi := { dst := some 45, op := Go.Op.binOp Go.BinOp.add 9 (Go.Operand.tmp 42) (Go.Operand.tmp 44) 9, type := 9, pos := "ref.go:93", after := #[{ on := 29, ground := Go.Ground.data }, { on := 31, ground := Go.Ground.data }], guard := none }) (v := ?_) rfl (by kernel_rfl) (by kernel_rfl) (by kernel_rfl) (fun _ _ _ h => h) (Or.inl ⟨by rfl, ?_⟩) hH6 ?_
  rotate_left
  · (intro wz hSz; (try dsimp only at hSz); go_simp; try with_reducible rfl)
  try simp only [Act.put, List.setIfInBounds_toArray, List.set_cons_zero, List.set_cons_succ]
  refine wpAnyH_take (i := 33) (oi := { dst := some 46, op := Go.Op.binOp Go.BinOp.add 9 (Go.Operand.tmp 45) (Go.Operand.const (Go.Value.string { data := #[10] })) 9, type := 9, pos := "ref.go:93", after := #[{ on := 32, ground := Go.Ground.data }], guard := none }) (v := ?_) rfl (by kernel_rfl) (by kernel_rfl) (by kernel_rfl) (fun _ _ _ h => h) (Or.inl ⟨by rfl, ?_⟩) hH6 ?_
  rotate_left
  · (intro wz hSz; (try dsimp only at hSz); go_simp; try with_reducible rfl)
  try simp only [Act.put, List.setIfInBounds_toArray, List.set_cons_zero, List.set_cons_succ]
  refine wpAnyH_take (i := 34) (oi := { dst := some 5, op := Go.Op.assign (Go.Operand.tmp 46), type := 9, pos := "ref.go:93", after := #[{ on := 33, ground := Go.Ground.data }, { on := 27, ground := Go.Ground.chain }, { on := 0, ground := Go.Ground.phase }, { on := 1, ground := Go.Ground.phase }, { on := 2, ground := Go.Ground.phase }, { on := 3, ground := Go.Ground.phase }, { on := 4, ground := Go.Ground.phase }, { on := 5, ground := Go.Ground.phase }, { on := 6, ground := Go.Ground.phase }, { on := 7, ground := Go.Ground.phase }, { on := 8, ground := Go.Ground.phase }, { on := 9, ground := Go.Ground.phase }, { on := 10, ground := Go.Ground.phase }, { on := 11, ground := Go.Ground.phase }, { on := 12, ground := Go.Ground.phase }, { on := 13, ground := Go.Ground.phase }, { on := 14, ground := Go.Ground.phase }, { on := 15, ground := Go.Ground.phase }, { on := 16, ground := Go.Ground.phase }, { on := 17, ground := Go.Ground.phase }, { on := 18, ground := Go.Ground.phase }, { on := 19, ground := Go.Ground.phase }, { on := 20, ground := Go.Ground.phase }, { on := 21, ground := Go.Ground.phase }, { on := 22, ground := Go.Ground.phase }, { on := 23, ground := Go.Ground.phase }, { on := 24, ground := Go.Ground.phase }, { on := 25, ground := Go.Ground.phase }, { on := 26, ground := Go.Ground.phase }, { on := 27, ground := Go.Ground.phase }, { on := 28, ground := Go.Ground.phase }, { on := 29, ground := Go.Ground.phase }, { on := 30, ground := Go.Ground.phase }, { on := 31, ground := Go.Ground.phase }, { on := 32, ground := Go.Ground.phase }, { on := 33, ground := Go.Ground.phase }], guard := none }) (v := ?_) rfl (by kernel_rfl) (by kernel_rfl) (by kernel_rfl) (fun _ _ _ h => h) (Or.inl ⟨by rfl, ?_⟩) hH6 ?_
  rotate_left
  · (intro wz hSz; (try dsimp only at hSz); go_simp; try with_reducible rfl)
  try simp only [Act.put, List.setIfInBounds_toArray, List.set_cons_zero, List.set_cons_succ]
  refine wpAnyH_done (by kernel_rfl) ?_ _
  have HB3 := Lib.hid hH6.2.2.2.2.2.2.2
  clear hH6
  clear HSX adz1 szz1 DTz1 adz2 szz2 DTz2 adz3 szz3 DTz3 adz4 szz4 DTz4 adz5 szz5 DTz5 adz6 szz6 DTz6 adz7 szz7 DTz7 adz8 szz8 DTz8 adz9 szz9 DTz9 adz10 szz10 DTz10 adz11 szz11 DTz11 adz12 szz12 DTz12 adz13 szz13 DTz13 adz14 DTz14 hd0 HD0 HE0 hd1 HD1 HE1 hd2 HD2 HE2 hd3 HD3 HE3 hd4 HD4 HE4 hd5 HD5 HE5
  go_wp2_with fail
  go_loopg [5, 6] us.length (fun m s i wr => ∃ (j : Nat) (y : ByteArray), j ≤ us.length ∧ i = .int .i64 j ∧ us.length - j ≤ m ∧ s = .string y ∧ y.size ≤ 3000 + 1200 * j ∧ Hid (y.data.toList = P.join (ones ((numLns [n0, n1, n2, n3, n4, n5] 6 ++ [kHidden ++ 32 :: hid.data.toList]) ++ (us.map usrLn).take j))) ∧ Hid (Below w2.heap.size w2 wr))
  case atStart => exact ⟨0, z14, Nat.zero_le _, rfl, by omega, rfl, by omega, Lib.hid (by rw [List.take_zero, List.append_nil]; exact HZL.out), HB3⟩
  case round =>
    clear HB3
    obtain ⟨j, y, hj, rfl, hm, rfl, hy, HY, HB⟩ := hrel
    have HP := Lib.hid ((HB.out.block pb (L.blk_lt HP2.out)).trans HP2.out)
    by_cases hlt : j < us.length
    · obtain ⟨bk, off, hAe, hbk, hB⟩ := (HU2.out.below HB.out) (by omega)
      subst hAe
      obtain ⟨c0, c1, c2, c3⟩ := hB j hlt
      have hnl := HNU.out _ (List.getElem_mem hlt)
      have HTK := Lib.hid (take_map_snoc' usrLn us hlt)
      generalize us[j] = u at *
      obtain ⟨un, ul, uc, ua⟩ := u
      simp only at c0 c1 c2 c3 hnl
      have HPR : Hid (RPc ul uc ⟨(L.print ul uc).toArray⟩) := Lib.hid fun W => L.refPrint_any ul uc W
      have hpl : (⟨(L.print ul uc).toArray⟩ : ByteArray).size ≤ 1000 := by rw [list_size]; exact L.print_len ul uc
      have hxl : (⟨un.toArray⟩ : ByteArray).size ≤ 64 := by rw [list_size]; exact hnl
      obtain ⟨x, hx⟩ : ∃ x : ByteArray, x = ⟨un.toArray⟩ := ⟨_, rfl⟩
      obtain ⟨pp, hpp⟩ : ∃ x : ByteArray, x = ⟨(L.print ul uc).toArray⟩ := ⟨_, rfl⟩
      rw [← hx] at c0 hxl
      rw [← hpp] at HPR hpl
      have HX := Lib.hid hx
      have HPP := Lib.hid hpp
      clear hx hpp hB hnl
      obtain ⟨y1, ady1, szy1, dty1⟩ := add_is (a := y) (b := ⟨#[117, 115, 101, 114, 32]⟩) (A := 3000 + 1200 * j) (B := 5) (by first | assumption | decide) (by first | assumption | decide) (by omega)
      have DTy1 := Lib.hid dty1
      clear dty1
      obtain ⟨y2, ady2, szy2, dty2⟩ := add_is (a := y1) (b := x) (A := 3000 + 1200 * j + 5) (B := 64) (by first | assumption | decide) (by first | assumption | decide) (by omega)
      have DTy2 := Lib.hid dty2
      clear dty2
      obtain ⟨y3, ady3, szy3, dty3⟩ := add_is (a := y2) (b := ⟨#[32]⟩) (A := 3000 + 1200 * j + 5 + 64) (B := 1) (by first | assumption | decide) (by first | assumption | decide) (by omega)
      have DTy3 := Lib.hid dty3
      clear dty3
      obtain ⟨y4, ady4, szy4, dty4⟩ := add_is (a := y3) (b := pp) (A := 3000 + 1200 * j + 5 + 64 + 1) (B := 1000) (by first | assumption | decide) (by first | assumption | decide) (by omega)
      have DTy4 := Lib.hid dty4
      clear dty4
      have h0j : (0 : Int) ≤ (j : Int) := by omega
      have hji : (j : Int) < (us.length : Int) := by omega
      have p7 : wr.cell? ⟨pb, 7, none⟩ = some (.slice (some ⟨bk, off, none⟩) us.length ucap) := L.blk_cell HP.out 7
      have HSX : Hid (∀ wz, Below wr.heap.size wr wz → wz.cell? ⟨pb, 7, none⟩ = some (.slice (some ⟨bk, off, none⟩) us.length ucap) ∧ wz.cell? ⟨bk, off + j * 4, none⟩ = some (.string x) ∧ wz.cell? ⟨bk, off + j * 4 + 1, none⟩ = some (.int .i64 ul) ∧ wz.cell? ⟨bk, off + j * 4 + 2, none⟩ = some (.int .u64 (uc : Int)) ∧ Below wr.heap.size wr wz) := Lib.hid (fun wz h => ⟨cell_later h p7, cell_later h c0, cell_later h c1, cell_later h c2, h⟩)
      cases ua with
      | false =>
        obtain ⟨y6, ady6, szy6, dty6⟩ := add_is (a := y4) (b := ⟨#[10]⟩) (A := 3000 + 1200 * j + 5 + 64 + 1 + 1000) (B := 1) (by first | assumption | decide) (by first | assumption | decide) (by omega)
        have DTy6 := Lib.hid dty6
        clear dty6
        clear c0 c1 c2
        go_wp2_with fail
        refine wp_region_held_drew (S := fun wz => wz.cell? ⟨pb, 7, none⟩ = some (.slice (some ⟨bk, off, none⟩) us.length ucap) ∧ wz.cell? ⟨bk, off + j * 4, none⟩ = some (.string x) ∧ wz.cell? ⟨bk, off + j * 4 + 1, none⟩ = some (.int .i64 ul) ∧ wz.cell? ⟨bk, off + j * 4 + 2, none⟩ = some (.int .u64 (uc : Int)) ∧ Below wr.heap.size wr wz) (by kernel_rfl) (HSX.out _ (drew_below wr)) (fun hH0 => ?_)
        generalize wr.drew = wA at *
        refine wpAnyH_take (i := 0) (oi := { dst := some 54, op := Go.Op.move (Go.Operand.tmp 5), type := 9, pos := "ref.go:95", after := #[], guard := none }) (v := ?_) rfl (by kernel_rfl) (by kernel_rfl) (by kernel_rfl) (fun _ _ _ h => h) (Or.inl ⟨by rfl, ?_⟩) hH0 ?_
        rotate_left
        · (intro wz hSz; (try dsimp only at hSz); go_simp; try with_reducible rfl)
        try simp only [Act.put, List.setIfInBounds_toArray, List.set_cons_zero, List.set_cons_succ]
        refine wpAnyH_take (i := 1) (oi := { dst := some 55, op := Go.Op.binOp Go.BinOp.add 9 (Go.Operand.tmp 54) (Go.Operand.const (Go.Value.string { data := #[117, 115, 101, 114, 32] })) 9, type := 9, pos := "ref.go:95", after := #[{ on := 0, ground := Go.Ground.data }], guard := none }) (v := ?_) rfl (by kernel_rfl) (by kernel_rfl) (by kernel_rfl) (fun _ _ _ h => h) (Or.inl ⟨by rfl, ?_⟩) hH0 ?_
        rotate_left
        · (intro wz hSz; (try dsimp only at hSz); go_simp; try with_reducible rfl)
        try simp only [Act.put, List.setIfInBounds_toArray, List.set_cons_zero, List.set_cons_succ]
        refine wpAnyH_take (i := 2) (oi := { dst := some 56, op := Go.Op.fieldAddr 26 (Go.Operand.tmp 1) 7, type := 0, pos := "ref.go:95", after := #[], guard := none }) (v := ?_) rfl (by kernel_rfl) (by kernel_rfl) (by kernel_rfl) (fun _ _ _ h => h) (Or.inl ⟨by rfl, ?_⟩) hH0 ?_
        rotate_left
        · (intro wz hSz; (try dsimp only at hSz); go_simp; try with_reducible rfl)
        try simp only [Act.put, List.setIfInBounds_toArray, List.set_cons_zero, List.set_cons_succ]
        refine wpAnyH_take (i := 3) (oi := { dst := some 57, op := Go.Op.load 23 (Go.Operand.tmp 56), type := 23, pos := "ref.go:95", after := #[{ on := 2, ground := Go.Ground.data }], guard := none }) (v := ?_) rfl (by kernel_rfl) (by kernel_rfl) (by kernel_rfl) (fun _ _ _ h => h) (Or.inl ⟨by rfl, ?_⟩) hH0 ?_
        rotate_left
        · (intro wz hSz; (try dsimp only at hSz); go_simp; try with_reducible rfl)
        try simp only [Act.put, List.setIfInBounds_toArray, List.set_cons_zero, List.set_cons_succ]
        refine wpAnyH_take (i := 4) (oi := { dst := some 58, op := Go.Op.move (Go.Operand.tmp 6), type := 3, pos := "ref.go:95", after := #[], guard := none }) (v := ?_) rfl (by kernel_rfl) (by kernel_rfl) (by kernel_rfl) (fun _ _ _ h => h) (Or.inl ⟨by rfl, ?_⟩) hH0 ?_
        rotate_left
        · (intro wz hSz; (try dsimp only at hSz); go_simp; try with_reducible rfl)
        try simp only [Act.put, List.setIfInBounds_toArray, List.set_cons_zero, List.set_cons_succ]
        refine wpAnyH_take (i := 5) (oi := { dst := some 59, op := Go.Op.indexAddr 23 (Go.Operand.tmp 57) (Go.Operand.tmp 58), type := 0, pos := "ref.go:95", after := #[{ on := 3, ground := Go.Ground.data }, { on := 4, ground := Go.Ground.data }], guard := none }) (v := ?_) rfl (by kernel_rfl) (by kernel_rfl) (by kernel_rfl) (fun _ _ _ h => h) (Or.inl ⟨by rfl, ?_⟩) hH0 ?_
        rotate_left
        · (intro wz hSz; (try dsimp only at hSz); go_simp; try with_reducible rfl)
        try simp only [Act.put, List.setIfInBounds_toArray, List.set_cons_zero, List.set_cons_succ]
        refine wpAnyH_take (i := 6) (oi := { dst := some 60, op := Go.Op.fieldAddr 72 (Go.Operand.tmp 59) 0, type := 0, pos := "ref.go:95", after := #[{ on := 5, ground := Go.Ground.data }], guard := none }) (v := ?_) rfl (by kernel_rfl) (by kernel_rfl) (by kernel_rfl) (fun _ _ _ h => h) (Or.inl ⟨by rfl, ?_⟩) hH0 ?_
        rotate_left
        · (intro wz hSz; (try dsimp only at hSz); go_simp; try with_reducible rfl)
        try simp only [Act.put, List.setIfInBounds_toArray, List.set_cons_zero, List.set_cons_succ]
        refine wpAnyH_take (i := 7) (oi := { dst := some 61, op := Go.Op.load 9 (Go.Operand.tmp 60), type := 9, pos := "ref.go:95", after := #[{ on := 6, ground := Go.Ground.data }], guard := none }) (v := ?_) rfl (by kernel_rfl) (by kernel_rfl) (by kernel_rfl) (fun _ _ _ h => h) (Or.inl ⟨by rfl, ?_⟩) hH0 ?_
        rotate_left
        · (intro wz hSz; (try dsimp only at hSz); go_simp; try with_reducible rfl)
        try simp only [Act.put, List.setIfInBounds_toArray, List.set_cons_zero, List.set_cons_succ]
        refine wpAnyH_take (i := 8) (oi := { dst := some 62, op := Go.Op.binOp Go.BinOp.add 9 (Go.Operand.tmp 55) (Go.Operand.tmp 61) 9, type := 9, pos := "ref.go:95", after := #[{ on := 1, ground := Go.Ground.data }, { on := 7, ground := Go.Ground.data }], guard := none }) (v := ?_) rfl (by kernel_rfl) (by kernel_rfl) (by kernel_rfl) (fun _ _ _ h => h) (Or.inl ⟨by rfl, ?_⟩) hH0 ?_
        rotate_left
        · (intro wz hSz; (try dsimp only at hSz); go_simp; try with_reducible rfl)
        try simp only [Act.put, List.setIfInBounds_toArray, List.set_cons_zero, List.set_cons_succ]
        refine wpAnyH_take (i := 9) (oi := { dst := some 63, op := Go.Op.binOp Go.BinOp.add 9 (Go.Operand.tmp 62) (Go.Operand.const (Go.Value.string { data := #[32] })) 9, type := 9, pos := "ref.go:95", after := #[{ on := 8, ground := Go.Ground.data }], guard := none }) (v := ?_) rfl (by kernel_rfl) (by kernel_rfl) (by kernel_rfl) (fun _ _ _ h => h) (Or.inl ⟨by rfl, ?_⟩) hH0 ?_
        rotate_left
        · (intro wz hSz; (try dsimp only at hSz); go_simp; try with_reducible rfl)
        try simp only [Act.put, List.setIfInBounds_toArray, List.set_cons_zero, List.set_cons_succ]
        refine wpAnyH_take (i := 10) (oi := { dst := some 64, op := Go.Op.fieldAddr 26 (Go.Operand.tmp 1) 7, type := 0, pos := "ref.go:95", after := #[], guard := none }) (v := ?_) rfl (by kernel_rfl) (by kernel_rfl) (by kernel_rfl) (fun _ _ _ h => h) (Or.inl ⟨by rfl, ?_⟩) hH0 ?_
        rotate_left
        · (intro wz hSz; (try dsimp only at hSz); go_simp; try with_reducible rfl)
        try simp only [Act.put, List.setIfInBounds_toArray, List.set_cons_zero, List.set_cons_succ]
        refine wpAnyH_take (i := 11) (oi := { dst := some 65, op := Go.Op.load 23 (Go.Operand.tmp 64), type := 23, pos := "ref.go:95", after := #[{ on := 10, ground := Go.Ground.data }], guard := none }) (v := ?_) rfl (by kernel_rfl) (by kernel_rfl) (by kernel_rfl) (fun _ _ _ h => h) (Or.inl ⟨by rfl, ?_⟩) hH0 ?_
        rotate_left
        · (intro wz hSz; (try dsimp only at hSz); go_simp; try with_reducible rfl)
        try simp only [Act.put, List.setIfInBounds_toArray, List.set_cons_zero, List.set_cons_succ]
        refine wpAnyH_take (i := 12) (oi := { dst := some 66, op := Go.Op.move (Go.Operand.tmp 6), type := 3, pos := "ref.go:95", after := #[], guard := none }) (v := ?_) rfl (by kernel_rfl) (by kernel_rfl) (by kernel_rfl) (fun _ _ _ h => h) (Or.inl ⟨by rfl, ?_⟩) hH0 ?_
        rotate_left
        · (intro wz hSz; (try dsimp only at hSz); go_simp; try with_reducible rfl)
        try simp only [Act.put, List.setIfInBounds_toArray, List.set_cons_zero, List.set_cons_succ]
        refine wpAnyH_take (i := 13) (oi := { dst := some 67, op := Go.Op.indexAddr 23 (Go.Operand.tmp 65) (Go.Operand.tmp 66), type := 0, pos := "ref.go:95", after := #[{ on := 11, ground := Go.Ground.data }, { on := 12, ground := Go.Ground.data }], guard := none }) (v := ?_) rfl (by kernel_rfl) (by kernel_rfl) (by kernel_rfl) (fun _ _ _ h => h) (Or.inl ⟨by rfl, ?_⟩) hH0 ?_
        rotate_left
        · (intro wz hSz; (try dsimp only at hSz); go_simp; try with_reducible rfl)
        try simp only [Act.put, List.setIfInBounds_toArray, List.set_cons_zero, List.set_cons_succ]
        refine wpAnyH_take (i := 14) (oi := { dst := some 68, op := Go.Op.fieldAddr 72 (Go.Operand.tmp 67) 1, type := 0, pos := "ref.go:95", after := #[{ on := 13, ground := Go.Ground.data }], guard := none }) (v := ?_) rfl (by kernel_rfl) (by kernel_rfl) (by kernel_rfl) (fun _ _ _ h => h) (Or.inl ⟨by rfl, ?_⟩) hH0 ?_
        rotate_left
        · (intro wz hSz; (try dsimp only at hSz); go_simp; try with_reducible rfl)
        try simp only [Act.put, List.setIfInBounds_toArray, List.set_cons_zero, List.set_cons_succ]
        refine wpAnyH_take (i := 15) (oi := { dst := some 69, op := Go.Op.load 40 (Go.Operand.tmp 68), type := 40, pos := "ref.go:95", after := #[{ on := 14, ground := Go.Ground.data }], guard := none }) (v := ?_) rfl (by kernel_rfl) (by kernel_rfl) (by kernel_rfl) (fun _ _ _ h => h) (Or.inl ⟨by rfl, ?_⟩) hH0 ?_
        rotate_left
        · (intro wz hSz; (try dsimp only at hSz); go_simp; try with_reducible rfl)
        try simp only [Act.put, List.setIfInBounds_toArray, List.set_cons_zero, List.set_cons_succ]
        refine wpAnyH_ready (rs := [16]) (by kernel_rfl) (by simp) ?_
        refine AllReadyH.cons (o := { dst := some 70, op := Go.Op.call { callee := Go.Callee.value (Go.Operand.func 43), args := #[Go.Operand.tmp 69], argTypes := #[40] }, type := 9, pos := "ref.go:95", after := #[{ on := 15, ground := Go.Ground.data }], guard := none }) rfl (fun K hK => ?_) AllReadyH.nil
        go_simp
        with_reducible refine (HPR.out.call _).mono ?_
        rintro r w3 ⟨rfl, hbq⟩
        go_wp2_with fail
        refine hK.out _ _ (HSX.out _ (hH0.2.2.2.2.trans (hbq.mono hH0.2.2.2.2.size))) (fun hH1 => ?_)
        clear hK K hbq hH0
        try simp only [Act.put, List.setIfInBounds_toArray, List.set_cons_zero, List.set_cons_succ]
        refine wpAnyH_take (i := 17) (oi := { dst := some 71, op := Go.Op.binOp Go.BinOp.add 9 (Go.Operand.tmp 63) (Go.Operand.tmp 70) 9, type := 9, pos := "ref.go:95", after := #[{ on := 9, ground := Go.Ground.data }, { on := 16, ground := Go.Ground.data }], guard := none }) (v := ?_) rfl (by kernel_rfl) (by kernel_rfl) (by kernel_rfl) (fun _ _ _ h => h) (Or.inl ⟨by rfl, ?_⟩) hH1 ?_
        rotate_left
        · (intro wz hSz; (try dsimp only at hSz); go_simp; try with_reducible rfl)
        try simp only [Act.put, List.setIfInBounds_toArray, List.set_cons_zero, List.set_cons_succ]
        refine wpAnyH_take (i := 18) (oi := { dst := some 5, op := Go.Op.assign (Go.Operand.tmp 71), type := 9, pos := "ref.go:95", after := #[{ on := 17, ground := Go.Ground.data }, { on := 16, ground := Go.Ground.chain }, { on := 0, ground := Go.Ground.phase }, { on := 1, ground := Go.Ground.phase }, { on := 2, ground := Go.Ground.phase }, { on := 3, ground := Go.Ground.phase }, { on := 4, ground := Go.Ground.phase }, { on := 5, ground := Go.Ground.phase }, { on := 6, ground := Go.Ground.phase }, { on := 7, ground := Go.Ground.phase }, { on := 8, ground := Go.Ground.phase }, { on := 9, ground := Go.Ground.phase }, { on := 10, ground := Go.Ground.phase }, { on := 11, ground := Go.Ground.phase }, { on := 12, ground := Go.Ground.phase }, { on := 13, ground := Go.Ground.phase }, { on := 14, ground := Go.Ground.phase }, { on := 15, ground := Go.Ground.phase }, { on := 16, ground := Go.Ground.phase }, { on := 17, ground := Go.Ground.phase }], guard := none }) (v := ?_) rfl (by kernel_rfl) (by kernel_rfl) (by kernel_rfl) (fun _ _ _ h => h) (Or.inl ⟨by rfl, ?_⟩) hH1 ?_
        rotate_left
        · (intro wz hSz; (try dsimp only at hSz); go_simp; try with_reducible rfl)
        try simp only [Act.put, List.setIfInBounds_toArray, List.set_cons_zero, List.set_cons_succ]
        refine wpAnyH_done (by kernel_rfl) ?_ _
        have HBX := Lib.hid (HB.out.trans (hH1.2.2.2.2.mono HB.out.size))
        have e3 := cell_later hH1.2.2.2.2 c3
        have e7 := hH1.1
        clear hH1 HSX
        go_wp2_with fail
        go_roundg (us.length - (j + 1))
        case rel => exact ⟨j + 1, y6, by omega, by go_num, Nat.le_refl _, rfl, by omega, Lib.hid (by rw [HTK.out, ← List.append_assoc, join_ones_snoc, ← HY.out, DTy6.out,  DTy4.out, DTy3.out, DTy2.out, DTy1.out, HX.out, HPP.out]; simp [usrLn, kUser, kAdmin]), HBX⟩
        case measure => omega
      | true =>
        obtain ⟨y5, ady5, szy5, dty5⟩ := add_is (a := y4) (b := ⟨#[32, 97, 100, 109, 105, 110]⟩) (A := 3000 + 1200 * j + 5 + 64 + 1 + 1000) (B := 6) (by first | assumption | decide) (by first | assumption | decide) (by omega)
        have DTy5 := Lib.hid dty5
        clear dty5
        obtain ⟨y6, ady6, szy6, dty6⟩ := add_is (a := y5) (b := ⟨#[10]⟩) (A := 3000 + 1200 * j + 5 + 64 + 1 + 1000 + 6) (B := 1) (by first | assumption | decide) (by first | assumption | decide) (by omega)
        have DTy6 := Lib.hid dty6
        clear dty6
        clear c0 c1 c2
        go_wp2_with fail
        refine wp_region_held_drew (S := fun wz => wz.cell? ⟨pb, 7, none⟩ = some (.slice (some ⟨bk, off, none⟩) us.length ucap) ∧ wz.cell? ⟨bk, off + j * 4, none⟩ = some (.string x) ∧ wz.cell? ⟨bk, off + j * 4 + 1, none⟩ = some (.int .i64 ul) ∧ wz.cell? ⟨bk, off + j * 4 + 2, none⟩ = some (.int .u64 (uc : Int)) ∧ Below wr.heap.size wr wz) (by kernel_rfl) (HSX.out _ (drew_below wr)) (fun hH0 => ?_)
        generalize wr.drew = wA at *
        refine wpAnyH_take (i := 0) (oi := { dst := some 54, op := Go.Op.move (Go.Operand.tmp 5), type := 9, pos := "ref.go:95", after := #[], guard := none }) (v := ?_) rfl (by kernel_rfl) (by kernel_rfl) (by kernel_rfl) (fun _ _ _ h => h) (Or.inl ⟨by rfl, ?_⟩) hH0 ?_
        rotate_left
        · (intro wz hSz; (try dsimp only at hSz); go_simp; try with_reducible rfl)
        try simp only [Act.put, List.setIfInBounds_toArray, List.set_cons_zero, List.set_cons_succ]
        refine wpAnyH_take (i := 1) (oi := { dst := some 55, op := Go.Op.binOp Go.BinOp.add 9 (Go.Operand.tmp 54) (Go.Operand.const (Go.Value.string { data := #[117, 115, 101, 114, 32] })) 9, type := 9, pos := "ref.go:95", after := #[{ on := 0, ground := Go.Ground.data }], guard := none }) (v := ?_) rfl (by kernel_rfl) (by kernel_rfl) (by kernel_rfl) (fun _ _ _ h => h) (Or.inl ⟨by rfl, ?_⟩) hH0 ?_
        rotate_left
        · (intro wz hSz; (try dsimp only at hSz); go_simp; try with_reducible rfl)
        try simp only [Act.put, List.setIfInBounds_toArray, List.set_cons_zero, List.set_cons_succ]
        refine wpAnyH_take (i := 2) (oi := { dst := some 56, op := Go.Op.fieldAddr 26 (Go.Operand.tmp 1) 7, type := 0, pos := "ref.go:95", after := #[], guard := none }) (v := ?_) rfl (by kernel_rfl) (by kernel_rfl) (by kernel_rfl) (fun _ _ _ h => h) (Or.inl ⟨by rfl, ?_⟩) hH0 ?_
        rotate_left
        · (intro wz hSz; (try dsimp only at hSz); go_simp; try with_reducible rfl)
        try simp only [Act.put, List.setIfInBounds_toArray, List.set_cons_zero, List.set_cons_succ]
        refine wpAnyH_take (i := 3) (oi := { dst := some 57, op := Go.Op.load 23 (Go.Operand.tmp 56), type := 23, pos := "ref.go:95", after := #[{ on := 2, ground := Go.Ground.data }], guard := none }) (v := ?_) rfl (by kernel_rfl) (by kernel_rfl) (by kernel_rfl) (fun _ _ _ h => h) (Or.inl ⟨by rfl, ?_⟩) hH0 ?_
        rotate_left
        · (intro wz hSz; (try dsimp only at hSz); go_simp; try with_reducible rfl)
        try simp only [Act.put, List.setIfInBounds_toArray, List.set_cons_zero, List.set_cons_succ]
        refine wpAnyH_take (i := 4) (oi := { dst := some 58, op := Go.Op.move (Go.Operand.tmp 6), type := 3, pos := "ref.go:95", after := #[], guard := none }) (v := ?_) rfl (by kernel_rfl) (by kernel_rfl) (by kernel_rfl) (fun _ _ _ h => h) (Or.inl ⟨by rfl, ?_⟩) hH0 ?_
        rotate_left
        · (intro wz hSz; (try dsimp only at hSz); go_simp; try with_reducible rfl)
        try simp only [Act.put, List.setIfInBounds_toArray, List.set_cons_zero, List.set_cons_succ]
        refine wpAnyH_take (i := 5) (oi := { dst := some 59, op := Go.Op.indexAddr 23 (Go.Operand.tmp 57) (Go.Operand.tmp 58), type := 0, pos := "ref.go:95", after := #[{ on := 3, ground := Go.Ground.data }, { on := 4, ground := Go.Ground.data }], guard := none }) (v := ?_) rfl (by kernel_rfl) (by kernel_rfl) (by kernel_rfl) (fun _ _ _ h => h) (Or.inl ⟨by rfl, ?_⟩) hH0 ?_
        rotate_left
        · (intro wz hSz; (try dsimp only at hSz); go_simp; try with_reducible rfl)
        try simp only [Act.put, List.setIfInBounds_toArray, List.set_cons_zero, List.set_cons_succ]
        refine wpAnyH_take (i := 6) (oi := { dst := some 60, op := Go.Op.fieldAddr 72 (Go.Operand.tmp 59) 0, type := 0, pos := "ref.go:95", after := #[{ on := 5, ground := Go.Ground.data }], guard := none }) (v := ?_) rfl (by kernel_rfl) (by kernel_rfl) (by kernel_rfl) (fun _ _ _ h => h) (Or.inl ⟨by rfl, ?_⟩) hH0 ?_
        rotate_left
        · (intro wz hSz; (try dsimp only at hSz); go_simp; try with_reducible rfl)
        try simp only [Act.put, List.setIfInBounds_toArray, List.set_cons_zero, List.set_cons_succ]
        refine wpAnyH_take (i := 7) (oi := { dst := some 61, op := Go.Op.load 9 (Go.Operand.tmp 60), type := 9, pos := "ref.go:95", after := #[{ on := 6, ground := Go.Ground.data }], guard := none }) (v := ?_) rfl (by kernel_rfl) (by kernel_rfl) (by kernel_rfl) (fun _ _ _ h => h) (Or.inl ⟨by rfl, ?_⟩) hH0 ?_
        rotate_left
        · (intro wz hSz; (try dsimp only at hSz); go_simp; try with_reducible rfl)
        try simp only [Act.put, List.setIfInBounds_toArray, List.set_cons_zero, List.set_cons_succ]
        refine wpAnyH_take (i := 8) (oi := { dst := some 62, op := Go.Op.binOp Go.BinOp.add 9 (Go.Operand.tmp 55) (Go.Operand.tmp 61) 9, type := 9, pos := "ref.go:95", after := #[{ on := 1, ground := Go.Ground.data }, { on := 7, ground := Go.Ground.data }], guard := none }) (v := ?_) rfl (by kernel_rfl) (by kernel_rfl) (by kernel_rfl) (fun _ _ _ h => h) (Or.inl ⟨by rfl, ?_⟩) hH0 ?_
        rotate_left
        · (intro wz hSz; (try dsimp only at hSz); go_simp; try with_reducible rfl)
        try simp only [Act.put, List.setIfInBounds_toArray, List.set_cons_zero, List.set_cons_succ]
        refine wpAnyH_take (i := 9) (oi := { dst := some 63, op := Go.Op.binOp Go.BinOp.add 9 (Go.Operand.tmp 62) (Go.Operand.const (Go.Value.string { data := #[32] })) 9, type := 9, pos := "ref.go:95", after := #[{ on := 8, ground := Go.Ground.data }], guard := none }) (v := ?_) rfl (by kernel_rfl) (by kernel_rfl) (by kernel_rfl) (fun _ _ _ h => h) (Or.inl ⟨by rfl, ?_⟩) hH0 ?_
        rotate_left
        · (intro wz hSz; (try dsimp only at hSz); go_simp; try with_reducible rfl)
        try simp only [Act.put, List.setIfInBounds_toArray, List.set_cons_zero, List.set_cons_succ]
        refine wpAnyH_take (i := 10) (oi := { dst := some 64, op := Go.Op.fieldAddr 26 (Go.Operand.tmp 1) 7, type := 0, pos := "ref.go:95", after := #[], guard := none }) (v := ?_) rfl (by kernel_rfl) (by kernel_rfl) (by kernel_rfl) (fun _ _ _ h => h) (Or.inl ⟨by rfl, ?_⟩) hH0 ?_
        rotate_left
        · (intro wz hSz; (try dsimp only at hSz); go_simp; try with_reducible rfl)
        try simp only [Act.put, List.setIfInBounds_toArray, List.set_cons_zero, List.set_cons_succ]
        refine wpAnyH_take (i := 11) (oi := { dst := some 65, op := Go.Op.load 23 (Go.Operand.tmp 64), type := 23, pos := "ref.go:95", after := #[{ on := 10, ground := Go.Ground.data }], guard := none }) (v := ?_) rfl (by kernel_rfl) (by kernel_rfl) (by kernel_rfl) (fun _ _ _ h => h) (Or.inl ⟨by rfl, ?_⟩) hH0 ?_
        rotate_left
        · (intro wz hSz; (try dsimp only at hSz); go_simp; try with_reducible rfl)
        try simp only [Act.put, List.setIfInBounds_toArray, List.set_cons_zero, List.set_cons_succ]
        refine wpAnyH_take (i := 12) (oi := { dst := some 66, op := Go.Op.move (Go.Operand.tmp 6), type := 3, pos := "ref.go:95", after := #[], guard := none }) (v := ?_) rfl (by kernel_rfl) (by kernel_rfl) (by kernel_rfl) (fun _ _ _ h => h) (Or.inl ⟨by rfl, ?_⟩) hH0 ?_
        rotate_left
        · (intro wz hSz; (try dsimp only at hSz); go_simp; try with_reducible rfl)
        try simp only [Act.put, List.setIfInBounds_toArray, List.set_cons_zero, List.set_cons_succ]
        refine wpAnyH_take (i := 13) (oi := { dst := some 67, op := Go.Op.indexAddr 23 (Go.Operand.tmp 65) (Go.Operand.tmp 66), type := 0, pos := "ref.go:95", after := #[{ on := 11, ground := Go.Ground.data }, { on := 12, ground := Go.Ground.data }], guard := none }) (v := ?_) rfl (by kernel_rfl) (by kernel_rfl) (by kernel_rfl) (fun _ _ _ h => h) (Or.inl ⟨by rfl, ?_⟩) hH0 ?_
        rotate_left
        · (intro wz hSz; (try dsimp only at hSz); go_simp; try with_reducible rfl)
        try simp only [Act.put, List.setIfInBounds_toArray, List.set_cons_zero, List.set_cons_succ]
        refine wpAnyH_take (i := 14) (oi := { dst := some 68, op := Go.Op.fieldAddr 72 (Go.Operand.tmp 67) 1, type := 0, pos := "ref.go:95", after := #[{ on := 13, ground := Go.Ground.data }], guard := none }) (v := ?_) rfl (by kernel_rfl) (by kernel_rfl) (by kernel_rfl) (fun _ _ _ h => h) (Or.inl ⟨by rfl, ?_⟩) hH0 ?_
        rotate_left
        · (intro wz hSz; (try dsimp only at hSz); go_simp; try with_reducible rfl)
        try simp only [Act.put, List.setIfInBounds_toArray, List.set_cons_zero, List.set_cons_succ]
        refine wpAnyH_take (i := 15) (oi := { dst := some 69, op := Go.Op.load 40 (Go.Operand.tmp 68), type := 40, pos := "ref.go:95", after := #[{ on := 14, ground := Go.Ground.data }], guard := none }) (v := ?_) rfl (by kernel_rfl) (by kernel_rfl) (by kernel_rfl) (fun _ _ _ h => h) (Or.inl ⟨by rfl, ?_⟩) hH0 ?_
        rotate_left
        · (intro wz hSz; (try dsimp only at hSz); go_simp; try with_reducible rfl)
        try simp only [Act.put, List.setIfInBounds_toArray, List.set_cons_zero, List.set_cons_succ]
        refine wpAnyH_ready (rs := [16]) (by kernel_rfl) (by simp) ?_
        refine AllReadyH.cons (o := { dst := some 70, op := Go.Op.call { callee := Go.Callee.value (Go.Operand.func 43), args := #[Go.Operand.tmp 69], argTypes := #[40] }, type := 9, pos := "ref.go:95", after := #[{ on := 15, ground := Go.Ground.data }], guard := none }) rfl (fun K hK => ?_) AllReadyH.nil
        go_simp
        with_reducible refine (HPR.out.call _).mono ?_
        rintro r w3 ⟨rfl, hbq⟩
        go_wp2_with fail
        refine hK.out _ _ (HSX.out _ (hH0.2.2.2.2.trans (hbq.mono hH0.2.2.2.2.size))) (fun hH1 => ?_)
        clear hK K hbq hH0
        try simp only [Act.put, List.setIfInBounds_toArray, List.set_cons_zero, List.set_cons_succ]
        refine wpAnyH_take (i := 17) (oi := { dst := some 71, op := Go.Op.binOp Go.BinOp.add 9 (Go.Operand.tmp 63) (Go.Operand.tmp 70) 9, type := 9, pos := "ref.go:95", after := #[{ on := 9, ground := Go.Ground.data }, { on := 16, ground := Go.Ground.data }], guard := none }) (v := ?_) rfl (by kernel_rfl) (by kernel_rfl) (by kernel_rfl) (fun _ _ _ h => h) (Or.inl ⟨by rfl, ?_⟩) hH1 ?_
        rotate_left
        · (intro wz hSz; (try dsimp only at hSz); go_simp; try with_reducible rfl)
        try simp only [Act.put, List.setIfInBounds_toArray, List.set_cons_zero, List.set_cons_succ]
        refine wpAnyH_take (i := 18) (oi := { dst := some 5, op := Go.Op.assign (Go.Operand.tmp 71), type := 9, pos := "ref.go:95", after := #[{ on := 17, ground := Go.Ground.data }, { on := 16, ground := Go.Ground.chain }, { on := 0, ground := Go.Ground.phase }, { on := 1, ground := Go.Ground.phase }, { on := 2, ground := Go.Ground.phase }, { on := 3, ground := Go.Ground.phase }, { on := 4, ground := Go.Ground.phase }, { on := 5, ground := Go.Ground.phase }, { on := 6, ground := Go.Ground.phase }, { on := 7, ground := Go.Ground.phase }, { on := 8, ground := Go.Ground.phase }, { on := 9, ground := Go.Ground.phase }, { on := 10, ground := Go.Ground.phase }, { on := 11, ground := Go.Ground.phase }, { on := 12, ground := Go.Ground.phase }, { on := 13, ground := Go.Ground.phase }, { on := 14, ground := Go.Ground.phase }, { on := 15, ground := Go.Ground.phase }, { on := 16, ground := Go.Ground.phase }, { on := 17, ground := Go.Ground.phase }], guard := none }) (v := ?_) rfl (by kernel_rfl) (by kernel_rfl) (by kernel_rfl) (fun _ _ _ h => h) (Or.inl ⟨by rfl, ?_⟩) hH1 ?_
        rotate_left
        · (intro wz hSz; (try dsimp only at hSz); go_simp; try with_reducible rfl)
        try simp only [Act.put, List.setIfInBounds_toArray, List.set_cons_zero, List.set_cons_succ]
        refine wpAnyH_done (by kernel_rfl) ?_ _
        have HBX := Lib.hid (HB.out.trans (hH1.2.2.2.2.mono HB.out.size))
        have e3 := cell_later hH1.2.2.2.2 c3
        have e7 := hH1.1
        clear hH1 HSX
        go_wp2_with fail
        go_roundg (us.length - (j + 1))
        case rel => exact ⟨j + 1, y6, by omega, by go_num, Nat.le_refl _, rfl, by omega, Lib.hid (by rw [HTK.out, ← List.append_assoc, join_ones_snoc, ← HY.out, DTy6.out, DTy5.out, DTy4.out, DTy3.out, DTy2.out, DTy1.out, HX.out, HPP.out]; simp [usrLn, kUser, kAdmin]), HBX⟩
        case measure => omega
    · have hje : j = us.length := by omega
      subst hje
      have HY2 := Lib.hid (show y.data.toList = P.join (ones ((numLns [n0, n1, n2, n3, n4, n5] 6 ++ [kHidden ++ 32 :: hid.data.toList]) ++ us.map usrLn)) by
        have := HY.out
        rw [List.take_of_length_le (by rw [List.length_map]; exact Nat.le_refl _)] at this
        exact this)
      have hy2 : y.size ≤ 42000 := by omega
      have p7 : wr.cell? ⟨pb, 7, none⟩ = some (.slice uA us.length ucap) := L.blk_cell HP.out 7
      have HBU := HB
      clear HY HB hj hm hlt hy HP
      go_wp2_with fail
      clear p7
      go_loopg [5, 7] fs.length (fun m s i wx => ∃ (j : Nat) (y : ByteArray), j ≤ fs.length ∧ i = .int .i64 j ∧ fs.length - j ≤ m ∧ s = .string y ∧ y.size ≤ 42000 + 1200 * j ∧ Hid (y.data.toList = P.join (ones (((numLns [n0, n1, n2, n3, n4, n5] 6 ++ [kHidden ++ 32 :: hid.data.toList]) ++ us.map usrLn) ++ (fs.map flrLn).take j))) ∧ Hid (Below w2.heap.size w2 wx))
      case atStart => exact ⟨0, y, Nat.zero_le _, rfl, by omega, rfl, by omega, Lib.hid (by rw [List.take_zero, List.append_nil]; exact HY2.out), HBU⟩
      case round =>
        clear HBU HY2 hy2
        obtain ⟨j, y, hj, rfl, hm, rfl, hy, HY, HB⟩ := hrel
        have HP := Lib.hid ((HB.out.block pb (L.blk_lt HP2.out)).trans HP2.out)
        by_cases hlt : j < fs.length
        · obtain ⟨bk, off, hAe, hbk, hB⟩ := (HF2.out.below HB.out) (by omega)
          subst hAe
          obtain ⟨c0, c1, c2⟩ := hB j hlt
          have hnl := HNF.out _ (List.getElem_mem hlt)
          have HTK := Lib.hid (take_map_snoc' flrLn fs hlt)
          generalize fs[j] = u at *
          obtain ⟨un, ul, uc⟩ := u
          simp only at c0 c1 c2  hnl
          have HPR : Hid (RPc ul uc ⟨(L.print ul uc).toArray⟩) := Lib.hid fun W => L.refPrint_any ul uc W
          have hpl : (⟨(L.print ul uc).toArray⟩ : ByteArray).size ≤ 1000 := by rw [list_size]; exact L.print_len ul uc
          have hxl : (⟨un.toArray⟩ : ByteArray).size ≤ 64 := by rw [list_size]; exact hnl
          obtain ⟨x, hx⟩ : ∃ x : ByteArray, x = ⟨un.toArray⟩ := ⟨_, rfl⟩
          obtain ⟨pp, hpp⟩ : ∃ x : ByteArray, x = ⟨(L.print ul uc).toArray⟩ := ⟨_, rfl⟩
          rw [← hx] at c0 hxl
          rw [← hpp] at HPR hpl
          have HX := Lib.hid hx
          have HPP := Lib.hid hpp
          clear hx hpp hB hnl
          obtain ⟨y1, ady1, szy1, dty1⟩ := add_is (a := y) (b := ⟨#[102, 108, 111, 111, 114, 32]⟩) (A := 42000 + 1200 * j) (B := 6) (by first | assumption | decide) (by first | assumption | decide) (by omega)
          have DTy1 := Lib.hid dty1
          clear dty1
          obtain ⟨y2, ady2, szy2, dty2⟩ := add_is (a := y1) (b := x) (A := 42000 + 1200 * j + 6) (B := 64) (by first | assumption | decide) (by first | assumption | decide) (by omega)
          have DTy2 := Lib.hid dty2
          clear dty2
          obtain ⟨y3, ady3, szy3, dty3⟩ := add_is (a := y2) (b := ⟨#[32]⟩) (A := 42000 + 1200 * j + 6 + 64) (B := 1) (by first | assumption | decide) (by first | assumption | decide) (by omega)
          have DTy3 := Lib.hid dty3
          clear dty3
          obtain ⟨y4, ady4, szy4, dty4⟩ := add_is (a := y3) (b := pp) (A := 42000 + 1200 * j + 6 + 64 + 1) (B := 1000) (by first | assumption | decide) (by first | assumption | decide) (by omega)
          have DTy4 := Lib.hid dty4
          clear dty4
          have h0j : (0 : Int) ≤ (j : Int) := by omega
          have hji : (j : Int) < (fs.length : Int) := by omega
          have p7 : wr.cell? ⟨pb, 8, none⟩ = some (.slice (some ⟨bk, off, none⟩) fs.length fcap) := L.blk_cell HP.out 8
          have HSX : Hid (∀ wz, Below wr.heap.size wr wz → wz.cell? ⟨pb, 8, none⟩ = some (.slice (some ⟨bk, off, none⟩) fs.length fcap) ∧ wz.cell? ⟨bk, off + j * 3, none⟩ = some (.string x) ∧ wz.cell? ⟨bk, off + j * 3 + 1, none⟩ = some (.int .i64 ul) ∧ wz.cell? ⟨bk, off + j * 3 + 2, none⟩ = some (.int .u64 (uc : Int)) ∧ Below wr.heap.size wr wz) := Lib.hid (fun wz h => ⟨cell_later h p7, cell_later h c0, cell_later h c1, cell_later h c2, h⟩)
          obtain ⟨y6, ady6, szy6, dty6⟩ := add_is (a := y4) (b := ⟨#[10]⟩) (A := 42000 + 1200 * j + 6 + 64 + 1 + 1000) (B := 1) (by first | assumption | decide) (by first | assumption | decide) (by omega)
          have DTy6 := Lib.hid dty6
          clear dty6
          clear c0 c1 c2
          go_wp2_with fail
          refine wp_region_held_drew (S := fun wz => wz.cell? ⟨pb, 8, none⟩ = some (.slice (some ⟨bk, off, none⟩) fs.length fcap) ∧ wz.cell? ⟨bk, off + j * 3, none⟩ = some (.string x) ∧ wz.cell? ⟨bk, off + j * 3 + 1, none⟩ = some (.int .i64 ul) ∧ wz.cell? ⟨bk, off + j * 3 + 2, none⟩ = some (.int .u64 (uc : Int)) ∧ Below wr.heap.size wr wz) (by kernel_rfl) (HSX.out _ (drew_below wr)) (fun hH0 => ?_)
          generalize wr.drew = wA at *
          refine wpAnyH_take (i := 0) (oi := { dst := some 89, op := Go.Op.move (Go.Operand.tmp 5), type := 9, pos := "ref.go:102", after := #[], guard := none }) (v := ?_) rfl (by kernel_rfl) (by kernel_rfl) (by kernel_rfl) (fun _ _ _ h => h) (Or.inl ⟨by rfl, ?_⟩) hH0 ?_
          rotate_left
          · (intro wz hSz; (try dsimp only at hSz); go_simp; try with_reducible rfl)
          try simp only [Act.put, List.setIfInBounds_toArray, List.set_cons_zero, List.set_cons_succ]
          refine wpAnyH_take (i := 1) (oi := { dst := some 90, op := Go.Op.binOp Go.BinOp.add 9 (Go.Operand.tmp 89) (Go.Operand.const (Go.Value.string { data := #[102, 108, 111, 111, 114, 32] })) 9, type := 9, pos := "ref.go:102", after := #[{ on := 0, ground := Go.Ground.data }], guard := none }) (v := ?_) rfl (by kernel_rfl) (by kernel_rfl) (by kernel_rfl) (fun _ _ _ h => h) (Or.inl ⟨by rfl, ?_⟩) hH0 ?_
          rotate_left
          · (intro wz hSz; (try dsimp only at hSz); go_simp; try with_reducible rfl)
          try simp only [Act.put, List.setIfInBounds_toArray, List.set_cons_zero, List.set_cons_succ]
          refine wpAnyH_take (i := 2) (oi := { dst := some 91, op := Go.Op.fieldAddr 26 (Go.Operand.tmp 1) 8, type := 0, pos := "ref.go:102", after := #[], guard := none }) (v := ?_) rfl (by kernel_rfl) (by kernel_rfl) (by kernel_rfl) (fun _ _ _ h => h) (Or.inl ⟨by rfl, ?_⟩) hH0 ?_
          rotate_left
          · (intro wz hSz; (try dsimp only at hSz); go_simp; try with_reducible rfl)
          try simp only [Act.put, List.setIfInBounds_toArray, List.set_cons_zero, List.set_cons_succ]
          refine wpAnyH_take (i := 3) (oi := { dst := some 92, op := Go.Op.load 24 (Go.Operand.tmp 91), type := 24, pos := "ref.go:102", after := #[{ on := 2, ground := Go.Ground.data }], guard := none }) (v := ?_) rfl (by kernel_rfl) (by kernel_rfl) (by kernel_rfl) (fun _ _ _ h => h) (Or.inl ⟨by rfl, ?_⟩) hH0 ?_
          rotate_left
          · (intro wz hSz; (try dsimp only at hSz); go_simp; try with_reducible rfl)
          try simp only [Act.put, List.setIfInBounds_toArray, List.set_cons_zero, List.set_cons_succ]
          refine wpAnyH_take (i := 4) (oi := { dst := some 93, op := Go.Op.move (Go.Operand.tmp 7), type := 3, pos := "ref.go:102", after := #[], guard := none }) (v := ?_) rfl (by kernel_rfl) (by kernel_rfl) (by kernel_rfl) (fun _ _ _ h => h) (Or.inl ⟨by rfl, ?_⟩) hH0 ?_
          rotate_left
          · (intro wz hSz; (try dsimp only at hSz); go_simp; try with_reducible rfl)
          try simp only [Act.put, List.setIfInBounds_toArray, List.set_cons_zero, List.set_cons_succ]
          refine wpAnyH_take (i := 5) (oi := { dst := some 94, op := Go.Op.indexAddr 24 (Go.Operand.tmp 92) (Go.Operand.tmp 93), type := 0, pos := "ref.go:102", after := #[{ on := 3, ground := Go.Ground.data }, { on := 4, ground := Go.Ground.data }], guard := none }) (v := ?_) rfl (by kernel_rfl) (by kernel_rfl) (by kernel_rfl) (fun _ _ _ h => h) (Or.inl ⟨by rfl, ?_⟩) hH0 ?_
          rotate_left
          · (intro wz hSz; (try dsimp only at hSz); go_simp; try with_reducible rfl)
          try simp only [Act.put, List.setIfInBounds_toArray, List.set_cons_zero, List.set_cons_succ]
          refine wpAnyH_take (i := 6) (oi := { dst := some 95, op := Go.Op.fieldAddr 76 (Go.Operand.tmp 94) 0, type := 0, pos := "ref.go:102", after := #[{ on := 5, ground := Go.Ground.data }], guard := none }) (v := ?_) rfl (by kernel_rfl) (by kernel_rfl) (by kernel_rfl) (fun _ _ _ h => h) (Or.inl ⟨by rfl, ?_⟩) hH0 ?_
          rotate_left
          · (intro wz hSz; (try dsimp only at hSz); go_simp; try with_reducible rfl)
          try simp only [Act.put, List.setIfInBounds_toArray, List.set_cons_zero, List.set_cons_succ]
          refine wpAnyH_take (i := 7) (oi := { dst := some 96, op := Go.Op.load 9 (Go.Operand.tmp 95), type := 9, pos := "ref.go:102", after := #[{ on := 6, ground := Go.Ground.data }], guard := none }) (v := ?_) rfl (by kernel_rfl) (by kernel_rfl) (by kernel_rfl) (fun _ _ _ h => h) (Or.inl ⟨by rfl, ?_⟩) hH0 ?_
          rotate_left
          · (intro wz hSz; (try dsimp only at hSz); go_simp; try with_reducible rfl)
          try simp only [Act.put, List.setIfInBounds_toArray, List.set_cons_zero, List.set_cons_succ]
          refine wpAnyH_take (i := 8) (oi := { dst := some 97, op := Go.Op.binOp Go.BinOp.add 9 (Go.Operand.tmp 90) (Go.Operand.tmp 96) 9, type := 9, pos := "ref.go:102", after := #[{ on := 1, ground := Go.Ground.data }, { on := 7, ground := Go.Ground.data }], guard := none }) (v := ?_) rfl (by kernel_rfl) (by kernel_rfl) (by kernel_rfl) (fun _ _ _ h => h) (Or.inl ⟨by rfl, ?_⟩) hH0 ?_
          rotate_left
          · (intro wz hSz; (try dsimp only at hSz); go_simp; try with_reducible rfl)
          try simp only [Act.put, List.setIfInBounds_toArray, List.set_cons_zero, List.set_cons_succ]
          refine wpAnyH_take (i := 9) (oi := { dst := some 98, op := Go.Op.binOp Go.BinOp.add 9 (Go.Operand.tmp 97) (Go.Operand.const (Go.Value.string { data := #[32] })) 9, type := 9, pos := "ref.go:102", after := #[{ on := 8, ground := Go.Ground.data }], guard := none }) (v := ?_) rfl (by kernel_rfl) (by kernel_rfl) (by kernel_rfl) (fun _ _ _ h => h) (Or.inl ⟨by rfl, ?_⟩) hH0 ?_
          rotate_left
          · (intro wz hSz; (try dsimp only at hSz); go_simp; try with_reducible rfl)
          try simp only [Act.put, List.setIfInBounds_toArray, List.set_cons_zero, List.set_cons_succ]
          refine wpAnyH_take (i := 10) (oi := { dst := some 99, op := Go.Op.fieldAddr 26 (Go.Operand.tmp 1) 8, type := 0, pos := "ref.go:102", after := #[], guard := none }) (v := ?_) rfl (by kernel_rfl) (by kernel_rfl) (by kernel_rfl) (fun _ _ _ h => h) (Or.inl ⟨by rfl, ?_⟩) hH0 ?_
          rotate_left
          · (intro wz hSz; (try dsimp only at hSz); go_simp; try with_reducible rfl)
          try simp only [Act.put, List.setIfInBounds_toArray, List.set_cons_zero, List.set_cons_succ]
          refine wpAnyH_take (i := 11) (oi := { dst := some 100, op := Go.Op.load 24 (Go.Operand.tmp 99), type := 24, pos := "ref.go:102", after := #[{ on := 10, ground := Go.Ground.data }], guard := none }) (v := ?_) rfl (by kernel_rfl) (by kernel_rfl) (by kernel_rfl) (fun _ _ _ h => h) (Or.inl ⟨by rfl, ?_⟩) hH0 ?_
          rotate_left
          · (intro wz hSz; (try dsimp only at hSz); go_simp; try with_reducible rfl)
          try simp only [Act.put, List.setIfInBounds_toArray, List.set_cons_zero, List.set_cons_succ]
          refine wpAnyH_take (i := 12) (oi := { dst := some 101, op := Go.Op.move (Go.Operand.tmp 7), type := 3, pos := "ref.go:102", after := #[], guard := none }) (v := ?_) rfl (by kernel_rfl) (by kernel_rfl) (by kernel_rfl) (fun _ _ _ h => h) (Or.inl ⟨by rfl, ?_⟩) hH0 ?_
          rotate_left
          · (intro wz hSz; (try dsimp only at hSz); go_simp; try with_reducible rfl)
          try simp only [Act.put, List.setIfInBounds_toArray, List.set_cons_zero, List.set_cons_succ]
          refine wpAnyH_take (i := 13) (oi := { dst := some 102, op := Go.Op.indexAddr 24 (Go.Operand.tmp 100) (Go.Operand.tmp 101), type := 0, pos := "ref.go:102", after := #[{ on := 11, ground := Go.Ground.data }, { on := 12, ground := Go.Ground.data }], guard := none }) (v := ?_) rfl (by kernel_rfl) (by kernel_rfl) (by kernel_rfl) (fun _ _ _ h => h) (Or.inl ⟨by rfl, ?_⟩) hH0 ?_
          rotate_left
          · (intro wz hSz; (try dsimp only at hSz); go_simp; try with_reducible rfl)
          try simp only [Act.put, List.setIfInBounds_toArray, List.set_cons_zero, List.set_cons_succ]
          refine wpAnyH_take (i := 14) (oi := { dst := some 103, op := Go.Op.fieldAddr 76 (Go.Operand.tmp 102) 1, type := 0, pos := "ref.go:102", after := #[{ on := 13, ground := Go.Ground.data }], guard := none }) (v := ?_) rfl (by kernel_rfl) (by kernel_rfl) (by kernel_rfl) (fun _ _ _ h => h) (Or.inl ⟨by rfl, ?_⟩) hH0 ?_
          rotate_left
          · (intro wz hSz; (try dsimp only at hSz); go_simp; try with_reducible rfl)
          try simp only [Act.put, List.setIfInBounds_toArray, List.set_cons_zero, List.set_cons_succ]
          refine wpAnyH_take (i := 15) (oi := { dst := some 104, op := Go.Op.load 40 (Go.Operand.tmp 103), type := 40, pos := "ref.go:102", after := #[{ on := 14, ground := Go.Ground.data }], guard := none }) (v := ?_) rfl (by kernel_rfl) (by kernel_rfl) (by kernel_rfl) (fun _ _ _ h => h) (Or.inl ⟨by rfl, ?_⟩) hH0 ?_
          rotate_left
          · (intro wz hSz; (try dsimp only at hSz); go_simp; try with_reducible rfl)
          try simp only [Act.put, List.setIfInBounds_toArray, List.set_cons_zero, List.set_cons_succ]
          refine wpAnyH_ready (rs := [16]) (by kernel_rfl) (by simp) ?_
          refine AllReadyH.cons (o := { dst := some 105, op := Go.Op.call { callee := Go.Callee.value (Go.Operand.func 43), args := #[Go.Operand.tmp 104], argTypes := #[40] }, type := 9, pos := "ref.go:102", after := #[{ on := 15, ground := Go.Ground.data }], guard := none }) rfl (fun K hK => ?_) AllReadyH.nil
          go_simp
          with_reducible refine (HPR.out.call _).mono ?_
          rintro r w3 ⟨rfl, hbq⟩
          go_wp2_with fail
          refine hK.out _ _ (HSX.out _ (hH0.2.2.2.2.trans (hbq.mono hH0.2.2.2.2.size))) (fun hH1 => ?_)
          clear hK K hbq hH0
          try simp only [Act.put, List.setIfInBounds_toArray, List.set_cons_zero, List.set_cons_succ]
          refine wpAnyH_take (i := 17) (oi := { dst := some 106, op := Go.Op.binOp Go.BinOp.add 9 (Go.Operand.tmp 98) (Go.Operand.tmp 105) 9, type := 9, pos := "ref.go:102", after := #[{ on := 9, ground := Go.Ground.data }, { on := 16, ground := Go.Ground.data }], guard := none }) (v := ?_) rfl (by kernel_rfl) (by kernel_rfl) (by kernel_rfl) (fun _ _ _ h => h) (Or.inl ⟨by rfl, ?_⟩) hH1 ?_
          rotate_left
          · (intro wz hSz; (try dsimp only at hSz); go_simp; try with_reducible rfl)
          try simp only [Act.put, List.setIfInBounds_toArray, List.set_cons_zero, List.set_cons_succ]
          refine wpAnyH_take (i := 18) (oi := { dst := some 107, op := Go.Op.binOp Go.BinOp.add 9 (Go.Operand.tmp 106) (Go.Operand.const (Go.Value.string { data := #[10] })) 9, type := 9, pos := "ref.go:102", after := #[{ on := 17, ground := Go.Ground.data }], guard := none }) (v := ?_) rfl (by kernel_rfl) (by kernel_rfl) (by kernel_rfl) (fun _ _ _ h => h) (Or.inl ⟨by rfl, ?_⟩) hH1 ?_
          rotate_left
          · (intro wz hSz; (try dsimp only at hSz); go_simp; try with_reducible rfl)
          try simp only [Act.put, List.setIfInBounds_toArray, List.set_cons_zero, List.set_cons_succ]
          refine wpAnyH_take (i := 19) (oi := { dst := some 5, op := Go.Op.assign (Go.Operand.tmp 107), type := 9, pos := "ref.go:102", after := #[{ on := 18, ground := Go.Ground.data }, { on := 16, ground := Go.Ground.chain }, { on := 0, ground := Go.Ground.phase }, { on := 1, ground := Go.Ground.phase }, { on := 2, ground := Go.Ground.phase }, { on := 3, ground := Go.Ground.phase }, { on := 4, ground := Go.Ground.phase }, { on := 5, ground := Go.Ground.phase }, { on := 6, ground := Go.Ground.phase }, { on := 7, ground := Go.Ground.phase }, { on := 8, ground := Go.Ground.phase }, { on := 9, ground := Go.Ground.phase }, { on := 10, ground := Go.Ground.phase }, { on := 11, ground := Go.Ground.phase }, { on := 12, ground := Go.Ground.phase }, { on := 13, ground := Go.Ground.phase }, { on := 14, ground := Go.Ground.phase }, { on := 15, ground := Go.Ground.phase }, { on := 16, ground := Go.Ground.phase }, { on := 17, ground := Go.Ground.phase }, { on := 18, ground := Go.Ground.phase }], guard := none }) (v := ?_) rfl (by kernel_rfl) (by kernel_rfl) (by kernel_rfl) (fun _ _ _ h => h) (Or.inl ⟨by rfl, ?_⟩) hH1 ?_
          rotate_left
          · (intro wz hSz; (try dsimp only at hSz); go_simp; try with_reducible rfl)
          try simp only [Act.put, List.setIfInBounds_toArray, List.set_cons_zero, List.set_cons_succ]
          refine wpAnyH_done (by kernel_rfl) ?_ _
          have HBX := Lib.hid (HB.out.trans (hH1.2.2.2.2.mono HB.out.size))
          clear hH1 HSX
          go_wp2_with fail
          go_roundg (fs.length - (j + 1))
          case rel => exact ⟨j + 1, y6, by omega, by go_num, Nat.le_refl _, rfl, by omega, Lib.hid (by rw [HTK.out, ← List.append_assoc, join_ones_snoc, ← HY.out, DTy6.out, DTy4.out, DTy3.out, DTy2.out, DTy1.out, HX.out, HPP.out]; simp [flrLn, kFloor]), HBX⟩
          case measure => omega
        · have hje : j = fs.length := by omega
          subst hje
          have HY2 := Lib.hid (show y.data.toList = txt by
            have := HY.out
            rw [List.take_of_length_le (by rw [List.length_map]; exact Nat.le_refl _)] at this
            rw [this, HTX.out]
            rfl)
          have hyt : y.size = txt.length := by rw [Lib.size_eq, HY2.out]
          have p8 : wr.cell? ⟨pb, 8, none⟩ = some (.slice fA fs.length fcap) := L.blk_cell HP.out 8
          have HBF := Lib.hid (HB2.out.trans (HB.out.mono HB2.out.size))
          clear HY HB hj hm hlt HP
          by_cases hlong : 8192 < txt.length
          · have h' : (8192 : Int) < (y.size : Int) := by omega
            clear hyt
            go_wp2_with fail
            go_ret2
            exact ⟨HBF.out, by rw [if_pos rfl, if_pos hlong]; rfl⟩
          · have h' : ¬ (8192 : Int) < (y.size : Int) := by omega
            obtain ⟨cap1, w9, hcv, hb9, hlt9, hc9, hin9⟩ := conv_str y wr
            have HBZ := Lib.hid (HBF.out.trans (hb9.mono HBF.out.size))
            have HYT := Lib.hid hyt
            have HIN := Lib.hid hin9
            clear hyt hb9 hin9
            go_wp2_with fail
            go_ret2
            exact ⟨HBZ.out, by rw [if_pos rfl, if_neg hlong]; exact ⟨_, cap1, by rw [← HYT.out]; rfl, by rw [← HYT.out]; exact hc9, fun _ => ⟨_, 0, rfl, hlt9, by rw [← HY2.out]; exact HIN.out⟩⟩⟩
end
end Go.Proofs.YtadhhamfikpimaaDoor.O

namespace Go.Proofs.YtadhhamfikpimaaDoor.O
set_option linter.unusedVariables false
set_option linter.unusedSimpArgs false
open Go.RowKit
open T

theorem refPrint_pol (n0 n1 n2 n3 n4 n5 : Int) (hid : ByteArray) (uA fA : Option Addr) (ucap fcap : Nat) (us : List Usr) (fs : List Flr) (w : World) (hns : ∀ n ∈ [n0, n1, n2, n3, n4, n5], -9223372036854775808 ≤ n ∧ n ≤ 9223372036854775807) (hh : hid.size ≤ maxLen) (hU : UsersIn w uA us) (hul : us.length ≤ maxLen) (huc : ∀ u ∈ us, u.ct < 18446744073709551616 ∧ u.name.length ≤ maxLen ∧ -9223372036854775808 ≤ u.lv ∧ u.lv ≤ 9223372036854775807) (hF : FloorsIn w fA fs) (hfl : fs.length ≤ maxLen) (hfc : ∀ u ∈ fs, u.ct < 18446744073709551616 ∧ u.pre.length ≤ maxLen ∧ -9223372036854775808 ≤ u.lv ∧ u.lv ≤ 9223372036854775807) :
    Calls Tryd.prog 17 #[polA n0 n1 n2 n3 n4 n5 hid (.slice uA us.length ucap) (.slice fA fs.length fcap)] w (PrintEnd w (polOk [n0, n1, n2, n3, n4, n5] hid.data.toList us fs) (polTxt [n0, n1, n2, n3, n4, n5] hid.data.toList us fs)) := by
  have ck : ∀ {ok : Bool}, polOk [n0, n1, n2, n3, n4, n5] hid.data.toList us fs = ok → RckC n0 n1 n2 n3 n4 n5 hid uA fA ucap fcap us fs (if ok then 0 else 2) := fun {ok} e W h1 h2 => by
    have := refCheck_any n0 n1 n2 n3 n4 n5 hid uA fA ucap fcap us fs W hh h1 (fun u h => ⟨(huc u h).1, (huc u h).2.1⟩) h2 (fun u h => ⟨(hfc u h).1, (hfc u h).2.1⟩)
    rw [e] at this
    exact this
  cases hok : polOk [n0, n1, n2, n3, n4, n5] hid.data.toList us fs with
  | false => exact rprint_bad (Lib.hid hU) (Lib.hid hF) (Lib.hid (ck hok)) _
  | true =>
    obtain ⟨h1, h2, h3, h4, h5⟩ := ok_nice hok
    exact rprint_good (Lib.hid hU) (Lib.hid hF) (Lib.hid (ck hok)) h1 h2 (by rw [Lib.size_eq]; exact h3) (Lib.hid h4) (Lib.hid h5) _ (Lib.hid rfl)
def TxtV (l : List UInt8) (v : Int) (W : World) (e : Ending) (w' : World) : Prop := ∃ A cap, e = .returned (.tuple #[.slice A l.length cap, .int .i64 v]) ∧ BytesIn w' A l ∧ Below W.heap.size W w'
def PkC (n0 n1 n2 n3 n4 n5 : Int) (hid : ByteArray) (uA fA : Option Addr) (ucap fcap : Nat) (us : List Usr) (fs : List Flr) (l : List UInt8) (v : Int) : Prop :=
  ∀ W : World, UsersIn W uA us → FloorsIn W fA fs → Tab W → Calls Tryd.prog 16 #[polA n0 n1 n2 n3 n4 n5 hid (.slice uA us.length ucap) (.slice fA fs.length fcap)] W (TxtV l v W)
theorem PkC.call {n0 n1 n2 n3 n4 n5 : Int} {hid : ByteArray} {uA fA : Option Addr} {ucap fcap : Nat} {us : List Usr} {fs : List Flr} {l : List UInt8} {v : Int} (h : PkC n0 n1 n2 n3 n4 n5 hid uA fA ucap fcap us fs l v) (W : World) (h1 : UsersIn W uA us) (h2 : FloorsIn W fA fs) (h3 : Tab W) :
    Calls Tryd.prog 16 #[polA n0 n1 n2 n3 n4 n5 hid (.slice uA us.length ucap) (.slice fA fs.length fcap)] W (TxtV l v W) := h W h1 h2 h3
def RqC (n0 n1 n2 n3 n4 n5 : Int) (hid : ByteArray) (uA fA : Option Addr) (ucap fcap : Nat) (us : List Usr) (fs : List Flr) (l : List UInt8) (v : Int) : Prop :=
  ∀ W : World, UsersIn W uA us → FloorsIn W fA fs → Calls Tryd.prog 17 #[polA n0 n1 n2 n3 n4 n5 hid (.slice uA us.length ucap) (.slice fA fs.length fcap)] W (TxtV l v W)
theorem RqC.call {n0 n1 n2 n3 n4 n5 : Int} {hid : ByteArray} {uA fA : Option Addr} {ucap fcap : Nat} {us : List Usr} {fs : List Flr} {l : List UInt8} {v : Int} (h : RqC n0 n1 n2 n3 n4 n5 hid uA fA ucap fcap us fs l v) (W : World) (h1 : UsersIn W uA us) (h2 : FloorsIn W fA fs) :
    Calls Tryd.prog 17 #[polA n0 n1 n2 n3 n4 n5 hid (.slice uA us.length ucap) (.slice fA fs.length fcap)] W (TxtV l v W) := h W h1 h2

/-- What Print comes to, in one form. -/
theorem txtV {W : World} {ok : Bool} {txt : List UInt8} {e : Ending} {w' : World} (h : PrintEnd W ok txt e w') : TxtV (if ok = true then (if 8192 < txt.length then [] else txt) else []) (if ok = true then (if 8192 < txt.length then 4 else 0) else 2) W e w' := by
  obtain ⟨hb, h⟩ := h
  by_cases ho : ok = true
  · rw [if_pos ho] at h
    rw [if_pos ho, if_pos ho]
    by_cases hl : 8192 < txt.length
    · rw [if_pos hl] at h
      rw [if_pos hl, if_pos hl]
      exact ⟨none, 0, h, fun h => absurd h (by simp), hb⟩
    · rw [if_neg hl] at h
      rw [if_neg hl, if_neg hl]
      obtain ⟨A, cap, h1, -, h3⟩ := h
      exact ⟨A, cap, h1, h3, hb⟩
  · rw [if_neg ho] at h
    rw [if_neg ho, if_neg ho]
    exact ⟨none, 0, h, fun h => absurd h (by simp), hb⟩

set_option maxRecDepth 100000 in
set_option maxHeartbeats 8000000 in
theorem prints_law {n0 n1 n2 n3 n4 n5 : Int} {hid : ByteArray} {uA fA : Option Addr} {ucap fcap : Nat} {us : List Usr} {fs : List Flr} {l : List UInt8} {v c : Int} {w : World} (HT : Hid (Tab w)) (HU : Hid (UsersIn w uA us)) (HF : Hid (FloorsIn w fA fs)) (PK : Hid (PkC n0 n1 n2 n3 n4 n5 hid uA fA ucap fcap us fs l v)) (RQ : Hid (RqC n0 n1 n2 n3 n4 n5 hid uA fA ucap fcap us fs l v)) (CC : Hid (CkC n0 n1 n2 n3 n4 n5 hid uA fA ucap fcap us fs c)) (CR : Hid (RckC n0 n1 n2 n3 n4 n5 hid uA fA ucap fcap us fs c)) :
    Calls Tryd.prog 4 #[polA n0 n1 n2 n3 n4 n5 hid (.slice uA us.length ucap) (.slice fA fs.length fcap)] w fun e w' => e = .returned (.bool true) ∧ Below w.heap.size w w' := by
  obtain ⟨W0, hW0⟩ : ∃ W0 : World, W0 = w.alloc (.cells #[.int .i64 n0, .int .i64 n1, .int .i64 n2, .int .i64 n3, .int .i64 n4, .int .i64 n5, .string hid, .slice uA us.length ucap, .slice fA fs.length fcap] 26) := ⟨_, rfl⟩
  have HB := Lib.hid (show Below w.heap.size w W0 by rw [hW0]; exact (Below.refl _ _).alloc (Nat.le_refl _) _)
  have HP := Lib.hid (show W0.heap[w.heap.size]? = some (.cells #[.int .i64 n0, .int .i64 n1, .int .i64 n2, .int .i64 n3, .int .i64 n4, .int .i64 n5, .string hid, .slice uA us.length ucap, .slice fA fs.length fcap] 26 (0, 0)) by rw [hW0]; exact heap_alloc_new w _)
  go_enter Tryd.func4, Tryd.ntmps4
  go_wp2_with fail
  rw [← hW0]
  clear hW0
  replace HT := Lib.hid (HT.out.later HB.out)
  replace HU := Lib.hid (HU.out.below HB.out)
  replace HF := Lib.hid (HF.out.below HB.out)
  with_reducible refine (PK.out.call W0 HU.out HF.out HT.out).mono ?_
  intro e w1 he
  obtain ⟨A1, cap1, rfl, hin1, hb1⟩ := he
  replace HT := Lib.hid (HT.out.later hb1)
  replace HU := Lib.hid (HU.out.below hb1)
  replace HF := Lib.hid (HF.out.below hb1)
  replace HB := Lib.hid (HB.out.trans (hb1.mono HB.out.size))
  replace HP := Lib.hid ((hb1.block _ (L.blk_lt HP.out)).trans HP.out)
  have H1 := Lib.hid hin1
  clear hin1 hb1 PK
  obtain ⟨a0, a1, a2, a3, a4, a5, a6, a7, a8⟩ := pol_cells HP.out
  go_wp2_with fail
  clear a0 a1 a2 a3 a4 a5 a6 a7 a8
  with_reducible refine (RQ.out.call w1 HU.out HF.out).mono ?_
  intro e w2 he
  obtain ⟨A2, cap2, rfl, hin2, hb2⟩ := he
  replace HT := Lib.hid (HT.out.later hb2)
  replace HU := Lib.hid (HU.out.below hb2)
  replace HF := Lib.hid (HF.out.below hb2)
  replace HB := Lib.hid (HB.out.trans (hb2.mono HB.out.size))
  replace HP := Lib.hid ((hb2.block _ (L.blk_lt HP.out)).trans HP.out)
  replace H1 := Lib.hid (H1.out.below hb2)
  have H2 := Lib.hid hin2
  clear hin2 hb2 RQ
  go_upto_region 3 with fail
  refine wp_region_held_drew (S := (Keeps w2)) (by kernel_rfl) (keeps_drew _) (fun hH0 => ?_)
  refine wpAnyH_ready (rs := [0]) (by kernel_rfl) (by simp) ?_
  refine AllReadyH.cons (o := { dst := some 17, op := Go.Op.call { callee := Go.Callee.value (Go.Operand.func 14), args := #[], argTypes := #[] }, type := 4, pos := "law.go:30", after := #[], guard := none }) rfl (fun K hK => ?_) AllReadyH.nil
  go_simp
  with_reducible refine (live3 _ (HT.out.later hH0.b)).mono ?_
  rintro r wq1 ⟨rfl, hbq⟩
  go_wp2_with fail
  refine hK.out _ _ (Keeps.trans hH0 hbq) (fun hJ => ?_)
  refine wpAnyH_more (S' := Keeps wq1) (fun z hz => Keeps.trans hJ hz) _ _ _ _ ?_
  replace HB := Lib.hid (HB.out.trans (Below.mono hJ HB.out.size))
  replace HT := Lib.hid (HT.out.later hJ)
  replace HU := Lib.hid (HU.out.below hJ)
  replace HF := Lib.hid (HF.out.below hJ)
  replace HP := Lib.hid ((Below.block hJ _ (L.blk_lt HP.out)).trans HP.out)
  replace H1 := Lib.hid (H1.out.below hJ)
  replace H2 := Lib.hid (H2.out.below hJ)
  have hH1 : Keeps wq1 wq1 := Below.refl _ _
  clear hK K hbq hH0 hJ
  refine wpAnyH_take (i := 1) (oi := { dst := some 18, op := Go.Op.move (Go.Operand.tmp 17), type := 4, pos := "law.go:30", after := #[{ on := 0, ground := Go.Ground.data }, { on := 0, ground := Go.Ground.chain }], guard := none }) (v := ?_) rfl (by kernel_rfl) (by kernel_rfl) (by kernel_rfl) (fun _ _ _ h => h) (Or.inl ⟨by rfl, ?_⟩) hH1 ?_
  rotate_left
  · (intro wz hSz; (try dsimp only at hSz); go_simp; try with_reducible rfl)
  simp only [Act.put, List.setIfInBounds_toArray, List.set_cons_zero, List.set_cons_succ]
  refine wpAnyH_take (i := 2) (oi := { dst := some 19, op := Go.Op.move (Go.Operand.tmp 3), type := 22, pos := "law.go:30", after := #[{ on := 1, ground := Go.Ground.guard }], guard := some (1, true) }) (v := ?_) rfl (by kernel_rfl) (by kernel_rfl) (by kernel_rfl) (fun _ _ _ h => h) (Or.inl ⟨by rfl, ?_⟩) hH1 ?_
  rotate_left
  · (intro wz hSz; (try dsimp only at hSz); go_simp; try with_reducible rfl)
  simp only [Act.put, List.setIfInBounds_toArray, List.set_cons_zero, List.set_cons_succ]
  refine wpAnyH_take (i := 3) (oi := { dst := some 20, op := Go.Op.convert 22 9 (Go.Operand.tmp 19), type := 9, pos := "law.go:30", after := #[{ on := 2, ground := Go.Ground.data }, { on := 1, ground := Go.Ground.guard }], guard := some (1, true) }) (v := ?_) rfl (by kernel_rfl) (by kernel_rfl) (by kernel_rfl) (fun _ _ _ h => h) (Or.inl ⟨by rfl, ?_⟩) hH1 ?_
  rotate_left
  · (intro wz hSz; have hcz := conv_in cap1 (H1.out.below hSz); go_simp; try with_reducible rfl)
  simp only [Act.put, List.setIfInBounds_toArray, List.set_cons_zero, List.set_cons_succ]
  refine wpAnyH_take (i := 4) (oi := { dst := some 21, op := Go.Op.move (Go.Operand.tmp 5), type := 22, pos := "law.go:30", after := #[{ on := 1, ground := Go.Ground.guard }], guard := some (1, true) }) (v := ?_) rfl (by kernel_rfl) (by kernel_rfl) (by kernel_rfl) (fun _ _ _ h => h) (Or.inl ⟨by rfl, ?_⟩) hH1 ?_
  rotate_left
  · (intro wz hSz; (try dsimp only at hSz); go_simp; try with_reducible rfl)
  simp only [Act.put, List.setIfInBounds_toArray, List.set_cons_zero, List.set_cons_succ]
  refine wpAnyH_take (i := 5) (oi := { dst := some 22, op := Go.Op.convert 22 9 (Go.Operand.tmp 21), type := 9, pos := "law.go:30", after := #[{ on := 4, ground := Go.Ground.data }, { on := 1, ground := Go.Ground.guard }], guard := some (1, true) }) (v := ?_) rfl (by kernel_rfl) (by kernel_rfl) (by kernel_rfl) (fun _ _ _ h => h) (Or.inl ⟨by rfl, ?_⟩) hH1 ?_
  rotate_left
  · (intro wz hSz; have hcz := conv_in cap2 (H2.out.below hSz); go_simp; try with_reducible rfl)
  simp only [Act.put, List.setIfInBounds_toArray, List.set_cons_zero, List.set_cons_succ]
  refine wpAnyH_take (i := 6) (oi := { dst := some 23, op := Go.Op.binOp Go.BinOp.eql 9 (Go.Operand.tmp 20) (Go.Operand.tmp 22) 9, type := 4, pos := "law.go:30", after := #[{ on := 3, ground := Go.Ground.data }, { on := 5, ground := Go.Ground.data }, { on := 1, ground := Go.Ground.guard }], guard := some (1, true) }) (v := ?_) rfl (by kernel_rfl) (by kernel_rfl) (by kernel_rfl) (fun _ _ _ h => h) (Or.inl ⟨by rfl, ?_⟩) hH1 ?_
  rotate_left
  · (intro wz hSz; (try dsimp only at hSz); go_simp; try with_reducible rfl)
  simp only [Act.put, List.setIfInBounds_toArray, List.set_cons_zero, List.set_cons_succ]
  refine wpAnyH_take (i := 7) (oi := { dst := some 24, op := Go.Op.pick (Go.Operand.tmp 18) (Go.Operand.tmp 23) (Go.Operand.const (Go.Value.bool false)), type := 4, pos := "law.go:30", after := #[{ on := 1, ground := Go.Ground.data }, { on := 6, ground := Go.Ground.data }], guard := none }) (v := ?_) rfl (by kernel_rfl) (by kernel_rfl) (by kernel_rfl) (fun _ _ _ h => h) (Or.inl ⟨by rfl, ?_⟩) hH1 ?_
  rotate_left
  · (intro wz hSz; (try dsimp only at hSz); go_simp; try with_reducible rfl)
  simp only [Act.put, List.setIfInBounds_toArray, List.set_cons_zero, List.set_cons_succ]
  refine wpAnyH_take (i := 8) (oi := { dst := some 25, op := Go.Op.move (Go.Operand.tmp 24), type := 4, pos := "law.go:30", after := #[{ on := 7, ground := Go.Ground.data }, { on := 1, ground := Go.Ground.chain }], guard := none }) (v := ?_) rfl (by kernel_rfl) (by kernel_rfl) (by kernel_rfl) (fun _ _ _ h => h) (Or.inl ⟨by rfl, ?_⟩) hH1 ?_
  rotate_left
  · (intro wz hSz; (try dsimp only at hSz); go_simp; try with_reducible rfl)
  simp only [Act.put, List.setIfInBounds_toArray, List.set_cons_zero, List.set_cons_succ]
  refine wpAnyH_take (i := 9) (oi := { dst := some 26, op := Go.Op.move (Go.Operand.tmp 4), type := 27, pos := "law.go:30", after := #[{ on := 8, ground := Go.Ground.guard }], guard := some (8, true) }) (v := ?_) rfl (by kernel_rfl) (by kernel_rfl) (by kernel_rfl) (fun _ _ _ h => h) (Or.inl ⟨by rfl, ?_⟩) hH1 ?_
  rotate_left
  · (intro wz hSz; (try dsimp only at hSz); go_simp; try with_reducible rfl)
  simp only [Act.put, List.setIfInBounds_toArray, List.set_cons_zero, List.set_cons_succ]
  refine wpAnyH_take (i := 10) (oi := { dst := some 27, op := Go.Op.move (Go.Operand.tmp 6), type := 27, pos := "law.go:30", after := #[{ on := 8, ground := Go.Ground.guard }], guard := some (8, true) }) (v := ?_) rfl (by kernel_rfl) (by kernel_rfl) (by kernel_rfl) (fun _ _ _ h => h) (Or.inl ⟨by rfl, ?_⟩) hH1 ?_
  rotate_left
  · (intro wz hSz; (try dsimp only at hSz); go_simp; try with_reducible rfl)
  simp only [Act.put, List.setIfInBounds_toArray, List.set_cons_zero, List.set_cons_succ]
  refine wpAnyH_take (i := 11) (oi := { dst := some 28, op := Go.Op.binOp Go.BinOp.eql 27 (Go.Operand.tmp 26) (Go.Operand.tmp 27) 27, type := 4, pos := "law.go:30", after := #[{ on := 9, ground := Go.Ground.data }, { on := 10, ground := Go.Ground.data }, { on := 8, ground := Go.Ground.guard }], guard := some (8, true) }) (v := ?_) rfl (by kernel_rfl) (by kernel_rfl) (by kernel_rfl) (fun _ _ _ h => h) (Or.inl ⟨by rfl, ?_⟩) hH1 ?_
  rotate_left
  · (intro wz hSz; (try dsimp only at hSz); go_simp; try with_reducible rfl)
  simp only [Act.put, List.setIfInBounds_toArray, List.set_cons_zero, List.set_cons_succ]
  refine wpAnyH_take (i := 12) (oi := { dst := some 29, op := Go.Op.pick (Go.Operand.tmp 25) (Go.Operand.tmp 28) (Go.Operand.const (Go.Value.bool false)), type := 4, pos := "law.go:30", after := #[{ on := 8, ground := Go.Ground.data }, { on := 11, ground := Go.Ground.data }], guard := none }) (v := ?_) rfl (by kernel_rfl) (by kernel_rfl) (by kernel_rfl) (fun _ _ _ h => h) (Or.inl ⟨by rfl, ?_⟩) hH1 ?_
  rotate_left
  · (intro wz hSz; (try dsimp only at hSz); go_simp; try with_reducible rfl)
  simp only [Act.put, List.setIfInBounds_toArray, List.set_cons_zero, List.set_cons_succ]
  refine wpAnyH_take (i := 13) (oi := { dst := some 30, op := Go.Op.move (Go.Operand.tmp 29), type := 4, pos := "law.go:30", after := #[{ on := 12, ground := Go.Ground.data }, { on := 8, ground := Go.Ground.chain }], guard := none }) (v := ?_) rfl (by kernel_rfl) (by kernel_rfl) (by kernel_rfl) (fun _ _ _ h => h) (Or.inl ⟨by rfl, ?_⟩) hH1 ?_
  rotate_left
  · (intro wz hSz; (try dsimp only at hSz); go_simp; try with_reducible rfl)
  simp only [Act.put, List.setIfInBounds_toArray, List.set_cons_zero, List.set_cons_succ]
  refine wpAnyH_take (i := 14) (oi := { dst := some 31, op := Go.Op.load 26 (Go.Operand.tmp 1), type := 26, pos := "law.go:30", after := #[{ on := 13, ground := Go.Ground.guard }], guard := some (13, true) }) (v := ?_) rfl (by kernel_rfl) (by kernel_rfl) (by kernel_rfl) (fun _ _ _ h => h) (Or.inl ⟨by rfl, ?_⟩) hH1 ?_
  rotate_left
  · (intro wz hSz; have hcz := True.intro; obtain ⟨c0, c1, c2, c3, c4, c5, c6, c7, c8⟩ := pol_cells ((Below.block hSz _ (L.blk_lt HP.out)).trans HP.out); go_simp; try with_reducible rfl)
  simp only [Act.put, List.setIfInBounds_toArray, List.set_cons_zero, List.set_cons_succ]
  refine wpAnyH_take (i := 16) (oi := { dst := some 33, op := Go.Op.load 26 (Go.Operand.tmp 1), type := 26, pos := "law.go:30", after := #[{ on := 13, ground := Go.Ground.guard }], guard := some (13, true) }) (v := ?_) rfl (by kernel_rfl) (by kernel_rfl) (by kernel_rfl) (fun _ _ _ h => h) (Or.inl ⟨by rfl, ?_⟩) hH1 ?_
  rotate_left
  · (intro wz hSz; have hcz := True.intro; obtain ⟨c0, c1, c2, c3, c4, c5, c6, c7, c8⟩ := pol_cells ((Below.block hSz _ (L.blk_lt HP.out)).trans HP.out); go_simp; try with_reducible rfl)
  simp only [Act.put, List.setIfInBounds_toArray, List.set_cons_zero, List.set_cons_succ]
  refine wpAnyH_ready (rs := [15]) (by kernel_rfl) (by simp) ?_
  refine AllReadyH.cons (o := { dst := some 32, op := Go.Op.call { callee := Go.Callee.value (Go.Operand.func 18), args := #[Go.Operand.tmp 31], argTypes := #[26] }, type := 27, pos := "law.go:30", after := #[{ on := 14, ground := Go.Ground.data }, { on := 13, ground := Go.Ground.chain }, { on := 13, ground := Go.Ground.guard }], guard := some (13, true) }) rfl (fun K hK => ?_) AllReadyH.nil
  go_simp
  with_reducible refine (CC.out.at _ (HU.out.below hH1.b) (HF.out.below hH1.b)).mono ?_
  rintro r wq2 ⟨rfl, hbq⟩
  go_wp2_with fail
  refine hK.out _ _ (Keeps.trans hH1 hbq) (fun hJ => ?_)
  refine wpAnyH_more (S' := Keeps wq2) (fun z hz => Keeps.trans hJ hz) _ _ _ _ ?_
  replace HB := Lib.hid (HB.out.trans (Below.mono hJ HB.out.size))
  replace HT := Lib.hid (HT.out.later hJ)
  replace HU := Lib.hid (HU.out.below hJ)
  replace HF := Lib.hid (HF.out.below hJ)
  replace HP := Lib.hid ((Below.block hJ _ (L.blk_lt HP.out)).trans HP.out)
  replace H1 := Lib.hid (H1.out.below hJ)
  replace H2 := Lib.hid (H2.out.below hJ)
  have hH2 : Keeps wq2 wq2 := Below.refl _ _
  clear hK K hbq hH1 hJ
  refine wpAnyH_ready (rs := [17]) (by kernel_rfl) (by simp) ?_
  refine AllReadyH.cons (o := { dst := some 34, op := Go.Op.call { callee := Go.Callee.value (Go.Operand.func 19), args := #[Go.Operand.tmp 33], argTypes := #[26] }, type := 27, pos := "law.go:30", after := #[{ on := 16, ground := Go.Ground.data }, { on := 15, ground := Go.Ground.chain }, { on := 13, ground := Go.Ground.guard }], guard := some (13, true) }) rfl (fun K hK => ?_) AllReadyH.nil
  go_simp
  with_reducible refine (CR.out.at _ (HU.out.below hH2.b) (HF.out.below hH2.b)).mono ?_
  rintro r wq3 ⟨rfl, hbq⟩
  go_wp2_with fail
  refine hK.out _ _ (Keeps.trans hH2 hbq) (fun hJ => ?_)
  refine wpAnyH_more (S' := Keeps wq3) (fun z hz => Keeps.trans hJ hz) _ _ _ _ ?_
  replace HB := Lib.hid (HB.out.trans (Below.mono hJ HB.out.size))
  replace HT := Lib.hid (HT.out.later hJ)
  replace HU := Lib.hid (HU.out.below hJ)
  replace HF := Lib.hid (HF.out.below hJ)
  replace HP := Lib.hid ((Below.block hJ _ (L.blk_lt HP.out)).trans HP.out)
  replace H1 := Lib.hid (H1.out.below hJ)
  replace H2 := Lib.hid (H2.out.below hJ)
  have hH3 : Keeps wq3 wq3 := Below.refl _ _
  clear hK K hbq hH2 hJ
  refine wpAnyH_take (i := 18) (oi := { dst := some 35, op := Go.Op.binOp Go.BinOp.eql 27 (Go.Operand.tmp 32) (Go.Operand.tmp 34) 27, type := 4, pos := "law.go:30", after := #[{ on := 15, ground := Go.Ground.data }, { on := 17, ground := Go.Ground.data }, { on := 13, ground := Go.Ground.guard }], guard := some (13, true) }) (v := ?_) rfl (by kernel_rfl) (by kernel_rfl) (by kernel_rfl) (fun _ _ _ h => h) (Or.inl ⟨by rfl, ?_⟩) hH3 ?_
  rotate_left
  · (intro wz hSz; (try dsimp only at hSz); go_simp; try with_reducible rfl)
  simp only [Act.put, List.setIfInBounds_toArray, List.set_cons_zero, List.set_cons_succ]
  refine wpAnyH_take (i := 19) (oi := { dst := some 36, op := Go.Op.pick (Go.Operand.tmp 30) (Go.Operand.tmp 35) (Go.Operand.const (Go.Value.bool false)), type := 4, pos := "law.go:30", after := #[{ on := 13, ground := Go.Ground.data }, { on := 18, ground := Go.Ground.data }], guard := none }) (v := ?_) rfl (by kernel_rfl) (by kernel_rfl) (by kernel_rfl) (fun _ _ _ h => h) (Or.inl ⟨by rfl, ?_⟩) hH3 ?_
  rotate_left
  · (intro wz hSz; (try dsimp only at hSz); go_simp; try with_reducible rfl)
  simp only [Act.put, List.setIfInBounds_toArray, List.set_cons_zero, List.set_cons_succ]
  refine wpAnyH_take (i := 20) (oi := { dst := some 2, op := Go.Op.assign (Go.Operand.tmp 36), type := 4, pos := "law.go:30", after := #[{ on := 19, ground := Go.Ground.data }, { on := 17, ground := Go.Ground.chain }, { on := 0, ground := Go.Ground.phase }, { on := 1, ground := Go.Ground.phase }, { on := 2, ground := Go.Ground.phase }, { on := 3, ground := Go.Ground.phase }, { on := 4, ground := Go.Ground.phase }, { on := 5, ground := Go.Ground.phase }, { on := 6, ground := Go.Ground.phase }, { on := 7, ground := Go.Ground.phase }, { on := 8, ground := Go.Ground.phase }, { on := 9, ground := Go.Ground.phase }, { on := 10, ground := Go.Ground.phase }, { on := 11, ground := Go.Ground.phase }, { on := 12, ground := Go.Ground.phase }, { on := 13, ground := Go.Ground.phase }, { on := 14, ground := Go.Ground.phase }, { on := 15, ground := Go.Ground.phase }, { on := 16, ground := Go.Ground.phase }, { on := 17, ground := Go.Ground.phase }, { on := 18, ground := Go.Ground.phase }, { on := 19, ground := Go.Ground.phase }], guard := none }) (v := ?_) rfl (by kernel_rfl) (by kernel_rfl) (by kernel_rfl) (fun _ _ _ h => h) (Or.inl ⟨by rfl, ?_⟩) hH3 ?_
  rotate_left
  · (intro wz hSz; (try dsimp only at hSz); go_simp; try with_reducible rfl)
  simp only [Act.put, List.setIfInBounds_toArray, List.set_cons_zero, List.set_cons_succ]
  refine wpAnyH_done (by kernel_rfl) ?_ _
  go_wp2_with fail
  go_ret
  exact ⟨rfl, HB.out⟩
theorem prints_walk (n0 n1 n2 n3 n4 n5 : Int) (hid : ByteArray) (uA fA : Option Addr) (ucap fcap : Nat) (us : List Usr) (fs : List Flr) (w : World) (hns : ∀ n ∈ [n0, n1, n2, n3, n4, n5], -9223372036854775808 ≤ n ∧ n ≤ 9223372036854775807) (hh : hid.size ≤ maxLen) (hU : UsersIn w uA us) (hul : us.length ≤ maxLen) (huc : ∀ u ∈ us, u.ct < 18446744073709551616 ∧ u.name.length ≤ maxLen ∧ -9223372036854775808 ≤ u.lv ∧ u.lv ≤ 9223372036854775807) (hF : FloorsIn w fA fs) (hfl : fs.length ≤ maxLen) (hfc : ∀ u ∈ fs, u.ct < 18446744073709551616 ∧ u.pre.length ≤ maxLen ∧ -9223372036854775808 ≤ u.lv ∧ u.lv ≤ 9223372036854775807) (ht : Tab w) :
    Calls Tryd.prog 4 #[polA n0 n1 n2 n3 n4 n5 hid (.slice uA us.length ucap) (.slice fA fs.length fcap)] w fun e w' => e = .returned (.bool true) ∧ Below w.heap.size w w' :=
  prints_law (Lib.hid ht) (Lib.hid hU) (Lib.hid hF)
    (Lib.hid fun W h1 h2 h3 => (print_pol n0 n1 n2 n3 n4 n5 hid uA fA ucap fcap us fs W hns hh h1 hul huc h2 hfl hfc h3).mono fun _ _ he => txtV he)
    (Lib.hid fun W h1 h2 => (refPrint_pol n0 n1 n2 n3 n4 n5 hid uA fA ucap fcap us fs W hns hh h1 hul huc h2 hfl hfc).mono fun _ _ he => txtV he)
    (Lib.hid fun W h1 h2 => check_any n0 n1 n2 n3 n4 n5 hid uA fA ucap fcap us fs W hh h1 hul (fun u h => ⟨(huc u h).1, (huc u h).2.1⟩) h2 hfl (fun u h => ⟨(hfc u h).1, (hfc u h).2.1⟩))
    (Lib.hid fun W h1 h2 => refCheck_any n0 n1 n2 n3 n4 n5 hid uA fA ucap fcap us fs W hh h1 (fun u h => ⟨(huc u h).1, (huc u h).2.1⟩) h2 (fun u h => ⟨(hfc u h).1, (hfc u h).2.1⟩))
end Go.Proofs.YtadhhamfikpimaaDoor.O
