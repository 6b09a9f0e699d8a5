/-
  ScoreHalves, walked.
-/
import Derived.Test.YtngboallknmepaaGxad
namespace Go.Proofs.Ytngboallknmepaa.Fp
set_option linter.unusedVariables false
set_option linter.unusedSimpArgs false
open Go.RowKit Go.Sort
open T

theorem neg_key {x : Nat} (nx : isN x = false) : cmp (ky x) (ky 0) < 0 ↔ ng x = true := by
  have h0 : ky 0 = 0 := by decide
  rw [cmp_lt, h0]
  simp only [ky, nx, Bool.false_eq_true, ↓reduceIte]
  cases ng x
  · simp
  · simp; omega
theorem same_three {x r1 r2 r3 : Nat} {a b : Int} (a0 : 0 ≤ a) (b0 : 0 ≤ b) (h1 : Hv a.toNat x r1) (h2 : Hv b.toNat r1 r2) (h3 : Hv (a + b).toNat x r3) (w : World) :
    Calls Try.prog 12 #[fV r2, fV r3] w fun e w' => e = .returned (.bool true) ∧ w' = w := by
  refine (same_any r2 r3 h2.lt h3.lt w).mono ?_
  rintro e w' ⟨rfl, rfl⟩
  have h4 := h1.add h2
  rw [show a.toNat + b.toNat = (a + b).toNat by omega] at h4
  refine ⟨?_, rfl⟩
  congr 2
  unfold same
  simpa using h4.ky h3
set_option maxHeartbeats 4000000 in
set_option maxRecDepth 100000 in
theorem halves_law (x : Nat) (m n : Int) (hx : x < 2 ^ 64) (hm0 : -(2 ^ 63) ≤ m) (hm : m < 2 ^ 63) (hn0 : -(2 ^ 63) ≤ n) (hn : n < 2 ^ 63) (w : World) :
    Calls Try.prog 8 #[fV x, .int .i64 m, .int .i64 n] w fun e w' => e = .returned (.bool true) ∧ Below w.heap.size w w' := by
  have z0 := isN_zero
  go_enter Try.func8, Try.ntmps8
  go_upto_region 2 with (go_at_call 28; refine (halve_any _ hx _ hn _).mono ?_; rintro e wa ⟨y, rfl, HY, HG⟩)
  have ly := HY.lt
  have HYH := Lib.hid HY
  clear HY
  go_upto_region 4 with (first | (go_at_call 29; refine (rhalve_any _ hx _ hn _).mono ?_; rintro e wb ⟨z, rfl, HZ, HB⟩; replace HG := HG.trans HB; have lz := HZ.lt; have hyz : same y z = true := (by unfold same; simpa using HYH.out.cap HZ); clear HZ HB) | (go_at_call 12; refine (same_any _ _ (by assumption) (by assumption) _).mono ?_; rintro e w' ⟨rfl, rfl⟩) | (go_at_call 30; refine (mille_any _ hx _).mono ?_; rintro e w' ⟨rfl, rfl⟩) | (go_at_call 31; refine (rmille_any _ hx _).mono ?_; rintro e w' ⟨rfl, rfl⟩))
  go_upto_region 5 with fail
  obtain ⟨a, ha⟩ : ∃ a, a = max m 0 % 2000 := ⟨_, rfl⟩
  obtain ⟨b, hb⟩ : ∃ b, b = max n 0 % 2000 := ⟨_, rfl⟩
  rw [← ha, ← hb]
  have a0 : 0 ≤ a := by omega
  have a1 : a < 2000 := by omega
  have b0 : 0 ≤ b := by omega
  have b1 : b < 2000 := by omega
  clear ha hb
  go_upto_region 7 with (first | (go_at_call 28; refine (halve_any _ (by assumption) _ (by omega) _).mono ?_; rintro e wq ⟨r, rfl, HV, HW⟩; replace HG := HG.trans HW; have lr := HV.lt; clear HW) | (go_at_call 12; refine (same_three (x := x) (a := a) (b := b) a0 b0 (by assumption) (by assumption) (by assumption) _).mono ?_; rintro e w' ⟨rfl, rfl⟩))
  cases nx : isN x
  · have ny : isN y = false := HYH.out.nan.trans nx
    have gy : ng y = ng x := by rw [HYH.out.val nx]; exact hv_ng _ _
    have k1 : decide (cmp (ky x) (ky 0) < 0) = ng x := by rw [Bool.eq_iff_iff, decide_eq_true_eq]; exact neg_key nx
    have k2 : decide (cmp (ky y) (ky 0) < 0) = ng x := by rw [Bool.eq_iff_iff, decide_eq_true_eq, ← gy]; exact neg_key ny
    go_wp2_with (first | (go_at_call 11; refine (live22 _).mono ?_; rintro e wl ⟨rfl, HL⟩) | (go_at_call 14; refine (order_any _ _ (by first | assumption | decide) (by first | assumption | decide) _).mono ?_; rintro e w' ⟨rfl, rfl⟩))
    go_ret
    have q1 := HG.below
    exact ⟨rfl, q1.trans (HL.mono q1.size)⟩
  · go_wp2_with (first | (go_at_call 11; refine (live22 _).mono ?_; rintro e wl ⟨rfl, HL⟩))
    go_ret
    have b1 := HG.below
    exact ⟨rfl, b1.trans (HL.mono b1.size)⟩
end Go.Proofs.Ytngboallknmepaa.Fp
