/-
  ScoreRatios, walked.
-/
import Derived.Test.YtngboallknmepaaGxad
namespace Go.Proofs.Ytngboallknmepaa.Fp
set_option linter.unusedVariables false
set_option linter.unusedSimpArgs false
open Go.RowKit Go.Sort
open T

set_option maxHeartbeats 4000000 in
set_option maxRecDepth 100000 in
theorem ratios_law (c n m : Int) (w : World) :
    Calls Try.prog 3 #[.int .i64 c, .int .i64 n, .int .i64 m] w fun e w' => e = .returned (.bool true) ∧ Below w.heap.size w w' := by
  have z0 := isN_zero
  have v0 : vl 0 = 0 := by decide
  have z1 : isN 4607182418800017408 = false := by decide
  have v1 : vl 4607182418800017408 = 4607182418800017408 := by decide
  go_enter Try.func3, Try.ntmps3
  go_upto_region 2 with (go_at_call 10; refine (ratio_any _ _ _ _).mono ?_; rintro e wa ⟨x, rfl, HX, HA⟩)
  go_upto_region 3 with (go_at_call 10; refine (ratio_any _ _ _ _).mono ?_; rintro e wb ⟨y, rfl, HY, HB⟩)
  have HT := Lib.hid HY.turn
  have lx := HX.lt
  have ly := HY.lt
  have hxy : same x y = true := by
    unfold same
    simpa using HX.ky HT.out
  have HXH := Lib.hid HX
  have HBA := Lib.hid (HA.trans HB)
  clear HX HY HA HB
  by_cases hk : Rok c n m
  · have hle := HXH.out.le hk
    obtain ⟨nx, vx, _⟩ := small_num hle
    have e1 : ONE = 4607182418800017408 := rfl
    have g0 : 0 ≤ vl x := by rw [vx]; omega
    have g1 : vl x ≤ 4607182418800017408 := by rw [vx]; omega
    clear vx hle e1
    have HK := Lib.hid hk
    clear hk
    by_cases q0 : vl x = 0
    · have q1 : decide (vl x = 0) = true := by simp [q0]
      have q2 : vl x < 4607182418800017408 := by omega
      have q3 : decide (vl x < 4607182418800017408) = true := by simp [q2]
      clear q0 q2
      go_wp2_with (first | (go_at_call 11; refine (live22 _).mono ?_; rintro e wl ⟨rfl, HL⟩) | (go_at_call 13; refine (rratio_any _ _ _ _).mono ?_; rintro e wr ⟨z, rfl, HZ, HZW⟩; have lz := HZ.lt; have hxz : same x z = true := (by unfold same; simpa using HXH.out.ky HZ); clear HZ) | (go_at_call 12; refine (same_any _ _ (by assumption) (by assumption) _).mono ?_; rintro e w' ⟨rfl, rfl⟩))
      go_ret
      have b1 := HBA.out.below
      have b2 := b1.trans (HL.mono b1.size)
      exact ⟨rfl, b2.trans (HZW.below.mono b2.size)⟩
    · have q1 : 0 < vl x := by omega
      by_cases q2 : vl x = 4607182418800017408
      · have q3 : decide (vl x = 4607182418800017408) = true := by simp [q2]
        have q4 : decide (0 < vl x) = true := by simp [q1]
        clear q0 q1 q2
        go_wp2_with (first | (go_at_call 11; refine (live22 _).mono ?_; rintro e wl ⟨rfl, HL⟩) | (go_at_call 13; refine (rratio_any _ _ _ _).mono ?_; rintro e wr ⟨z, rfl, HZ, HZW⟩; have lz := HZ.lt; have hxz : same x z = true := (by unfold same; simpa using HXH.out.ky HZ); clear HZ) | (go_at_call 12; refine (same_any _ _ (by assumption) (by assumption) _).mono ?_; rintro e w' ⟨rfl, rfl⟩))
        go_ret
        have b1 := HBA.out.below
        have b2 := b1.trans (HL.mono b1.size)
        exact ⟨rfl, b2.trans (HZW.below.mono b2.size)⟩
      · have q3 : vl x < 4607182418800017408 := by omega
        go_wp2_with (first | (go_at_call 11; refine (live22 _).mono ?_; rintro e wl ⟨rfl, HL⟩) | (go_at_call 13; refine (rratio_any _ _ _ _).mono ?_; rintro e wr ⟨z, rfl, HZ, HZW⟩; have lz := HZ.lt; have hxz : same x z = true := (by unfold same; simpa using HXH.out.ky HZ); clear HZ) | (go_at_call 12; refine (same_any _ _ (by assumption) (by assumption) _).mono ?_; rintro e w' ⟨rfl, rfl⟩))
        go_ret
        have b1 := HBA.out.below
        have b2 := b1.trans (HL.mono b1.size)
        exact ⟨rfl, b2.trans (HZW.below.mono b2.size)⟩
  · have nx := HXH.out.nan hk
    have HK := Lib.hid hk
    clear hk
    go_wp2_with (first | (go_at_call 11; refine (live22 _).mono ?_; rintro e wl ⟨rfl, HL⟩) | (go_at_call 13; refine (rratio_any _ _ _ _).mono ?_; rintro e wr ⟨z, rfl, HZ, HZW⟩; have lz := HZ.lt; have hxz : same x z = true := (by unfold same; simpa using HXH.out.ky HZ); clear HZ) | (go_at_call 12; refine (same_any _ _ (by assumption) (by assumption) _).mono ?_; rintro e w' ⟨rfl, rfl⟩))
    go_ret
    have b1 := HBA.out.below
    have b2 := b1.trans (HL.mono b1.size)
    exact ⟨rfl, b2.trans (HZW.below.mono b2.size)⟩
end Go.Proofs.Ytngboallknmepaa.Fp
