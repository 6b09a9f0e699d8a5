/-
  The law HunkBuilds.
-/
import Derived.Test.YtimalohdchhjgaaGhh
import Derived.Test.YtimalohdchhjgaaGha
import Derived.Test.YtimalohdchhjgaaGhk
namespace Go.Proofs.Ytimalohdchhjgaa.H
set_option linter.unusedVariables false
set_option linter.unusedSimpArgs false
open Go.RowKit
open T S
open I (alloc1 own_at own_below)
open N (Ln)
open M (Lv)

set_option maxRecDepth 100000 in
set_option maxHeartbeats 4000000 in
/-- The reference's Build of a script that may not be. -/
theorem rbuild_bad (A : Option Addr) (cap : Nat) (es : List Ed) (x : Int) (w : World) (hE : EdsIn 0 w A es) (hok : EdsOk es) (hc : ck es ≠ 0) :
    Calls Try.prog 11 #[.slice A es.length cap, .int .i64 x] w (HnEnd w [] (ck es)) := by
  have HC := Lib.hid (rnormal_any A cap 0 es w hE hok)
  rw [show nrm es = [] by unfold nrm; rw [if_neg hc]] at HC
  generalize ck es = q at *
  have h0 : (q == 0) = false := beq_eq_false_iff_ne.2 hc
  have h1 : (q != 0) = true := by simp [bne, h0]
  clear hE hok hc
  go_enter Try.func11, Try.ntmps11
  go_wp2_with fail
  with_reducible refine (HC.out).mono ?_
  rintro e w1 ⟨NA, nc, rfl, -, hb1⟩
  have HB := Lib.hid hb1
  clear hb1 HC
  go_wp2_with fail
  go_ret2
  exact ⟨none, 0, rfl, fun h => absurd h (by simp), HB.out⟩
set_option maxRecDepth 100000 in
set_option maxHeartbeats 4000000 in
/-- The reference's Build with a context that may not be. -/
theorem rbuild_arg (A : Option Addr) (cap : Nat) (es : List Ed) (x : Int) (w : World) (hE : EdsIn 0 w A es) (hok : EdsOk es) (hc : ck es = 0) (hx : x < 0 ∨ 20 < x) :
    Calls Try.prog 11 #[.slice A es.length cap, .int .i64 x] w (HnEnd w [] 2) := by
  have HC := Lib.hid (rnormal_any A cap 0 es w hE hok)
  rw [hc] at HC
  clear hE hok hc
  generalize nrm es = N at *
  by_cases h0 : x < 0
  · clear hx
    go_enter Try.func11, Try.ntmps11
    go_wp2_with fail
    with_reducible refine (HC.out).mono ?_
    rintro e w1 ⟨NA, nc, rfl, -, hb1⟩
    have HB := Lib.hid hb1
    clear hb1 HC
    go_wp2_with fail
    go_ret2
    exact ⟨none, 0, rfl, fun h => absurd h (by simp), HB.out⟩
  · have h1 : 20 < x := by omega
    clear hx
    go_enter Try.func11, Try.ntmps11
    go_wp2_with fail
    with_reducible refine (HC.out).mono ?_
    rintro e w1 ⟨NA, nc, rfl, -, hb1⟩
    have HB := Lib.hid hb1
    clear hb1 HC
    go_wp2_with fail
    go_ret2
    exact ⟨none, 0, rfl, fun h => absurd h (by simp), HB.out⟩
theorem c_rbuild {es : List Ed} (x : Int) (hok : EdsOk es) : BdC 11 es x (build es x).1 (build es x).2 := fun w A c hE => by
  by_cases hk : ck es = 0
  · by_cases hx : x < 0 ∨ 20 < x
    · have e : build es x = ([], 2) := by unfold build; rw [if_pos hk, if_pos hx]
      rw [e]
      exact rbuild_arg A c es x w hE hok hk hx
    · obtain ⟨n, rfl⟩ : ∃ n : Nat, x = n := ⟨x.toNat, by omega⟩
      rw [build_ok hk (by omega)]
      obtain ⟨k1, k2, -, -⟩ := norm_ok hk
      have h := rbuild_good A c es n w hE hok hk (by omega)
      rw [rbld_eq (nf_norm (ck_ok hk).2.2) (ck_ok k1).2.1] at h
      exact h
  · rw [build_bad hk]
    exact rbuild_bad A c es x w hE hok hk
set_option maxRecDepth 100000 in
set_option maxHeartbeats 4000000 in
theorem hbuilds_law {A : Option Addr} {c : Nat} {x : Int} {es : List Ed} {w : World} (hE : EdsIn 0 w A es) (hok : EdsOk es) :
    Calls Try.prog 3 #[.slice A es.length c, .int .i64 x] w fun e w' => e = .returned (.bool true) ∧ Below w.heap.size w w' := by
  have HFW := Lib.hid (few_any A c es w hE hok)
  have HE := Lib.hid hE
  have HV := Lib.hid live9
  have HOK := Lib.hid hok
  clear hE hok
  have HB0 : Hid (Below w.heap.size w w) := Lib.hid (Below.refl _ _)
  go_enter Try.func3, Try.ntmps3
  go_wp2_with fail
  with_reducible refine (HFW.out).mono ?_
  rintro e w1 ⟨v, rfl, hv, hb⟩
  have HE_1 := Lib.hid (HE.out.below hb)
  have HB1 := Lib.hid (HB0.out.trans (hb.mono HB0.out.size))
  clear hb HB0 HE HFW
  cases v with
  | false =>
    go_wp2_with fail
    with_reducible refine (HV.out.at w1).mono ?_
    rintro e w2 ⟨rfl, hb2⟩
    have HB2 := Lib.hid (HB1.out.trans (hb2.mono HB1.out.size))
    go_wp2_with fail
    go_ret
    exact ⟨rfl, HB2.out⟩
  | true =>
    obtain ⟨hl, ht⟩ := hv rfl
    have ho : HksOk (build es x).1 := by
      by_cases hk : ck es = 0
      · by_cases hx : x < 0 ∨ 20 < x
        · have e : build es x = ([], 2) := by unfold build; rw [if_pos hk, if_pos hx]
          rw [e]; exact ⟨by simp, fun h hm => by simp at hm⟩
        · have e : build es x = (bld x.toNat (norm es), 0) := by unfold build; rw [if_pos hk, if_neg hx]
          rw [e]; exact (fw_of hk hl ht).ok
      · rw [build_bad hk]; exact ⟨by simp, fun h hm => by simp at hm⟩
    have HBD := Lib.hid (c_build x HOK.out)
    have HRD := Lib.hid (c_rbuild x HOK.out)
    have HSM := Lib.hid (fun (A B : Option Addr) (c c' : Nat) (W : World) (h1 : HksIn 0 W A (build es x).1) (h2 : HksIn 0 W B (build es x).1) => hsame_any A B c c' _ W ho h1 h2)
    obtain ⟨r, hr⟩ : ∃ r, r = build es x := ⟨_, rfl⟩
    rw [← hr] at HBD HRD HSM
    obtain ⟨hs, q⟩ := r
    simp only at HBD HRD HSM
    have hqq : (q == q) = true := by simp
    clear hl ht hv HOK ho hr
    go_wp2_with fail
    with_reducible refine (HBD.out.at c HE_1.out).mono ?_
    rintro e w2 ⟨A1, c1, rfl, hh, hb⟩
    have HE_2 := Lib.hid (HE_1.out.below hb)
    have HH1_2 := Lib.hid hh
    have HB2 := Lib.hid (HB1.out.trans (hb.mono HB1.out.size))
    clear hb HB1 HE_1 hh
    go_wp2_with fail
    with_reducible refine (HRD.out.at c HE_2.out).mono ?_
    rintro e w3 ⟨A2, c2, rfl, hh, hb⟩
    have HE_3 := Lib.hid (HE_2.out.below hb)
    have HH1_3 := Lib.hid (HH1_2.out.below hb)
    have HH2_3 := Lib.hid hh
    have HB3 := Lib.hid (HB2.out.trans (hb.mono HB2.out.size))
    clear hb HB2 HE_2 HH1_2 hh
    go_wp2_with fail
    with_reducible refine (HV.out.at _).mono ?_
    rintro e w4 ⟨rfl, hb⟩
    have HE_4 := Lib.hid (HE_3.out.below hb)
    have HH1_4 := Lib.hid (HH1_3.out.below hb)
    have HH2_4 := Lib.hid (HH2_3.out.below hb)
    have HB4 := Lib.hid (HB3.out.trans (hb.mono HB3.out.size))
    clear hb HB3 HE_3 HH1_3 HH2_3
    go_wp2_with fail
    with_reducible refine (HSM.out _ _ c1 c2 _ HH1_4.out HH2_4.out).mono ?_
    rintro e w5 ⟨rfl, hb⟩
    have HE_5 := Lib.hid (HE_4.out.below hb)
    have HH1_5 := Lib.hid (HH1_4.out.below hb)
    have HH2_5 := Lib.hid (HH2_4.out.below hb)
    have HB5 := Lib.hid (HB4.out.trans (hb.mono HB4.out.size))
    clear hb HB4 HE_4 HH1_4 HH2_4
    go_wp2_with fail
    go_ret
    exact ⟨rfl, HB5.out⟩
end Go.Proofs.Ytimalohdchhjgaa.H
