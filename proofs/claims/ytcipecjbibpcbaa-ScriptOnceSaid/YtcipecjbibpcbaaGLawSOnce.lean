/-
  The law ScriptOnce.
-/
import Derived.Test.YtcipecjbibpcbaaGsh
namespace Go.Proofs.Ytcipecjbibpcbaa.S
set_option linter.unusedVariables false
set_option linter.unusedSimpArgs false
open Go.RowKit
open T
open V (grown_of IntsIn numCells numCells_snoc ints_own drawn_below)
open I (alloc1 own_at own_below)
open N (Ln)
open M (Lv)

theorem nrm_nrm {es : List Ed} (hc : ck es = 0) : nrm (nrm es) = nrm es ∧ inv (inv es) = nrm es ∧ chg (nrm es) = chg es ∧ chg (inv es) = chg es := by
  have hn : nrm es = norm es := by unfold nrm; rw [if_pos hc]
  have hi : inv es = norm (es.map iv) := by unfold inv; rw [if_pos hc]
  have hc1 := (ck_iv es).trans hc
  have h3 := (ck_ok hc).2.2
  have ht := (ck_ok hc).2.1
  refine ⟨?_, ?_, ?_, ?_⟩
  · rw [hn]; unfold nrm; rw [if_pos (norm_ok hc).1, norm_norm hc]
  · rw [hi, hn]; unfold inv; rw [if_pos (norm_ok hc1).1, inv_inv hc]
  · rw [hn, chg_small (by rw [(norm_ok hc).2.1]; omega), chg_small (by omega), norm_chg hc]
  · rw [hi, chg_small (by rw [(norm_ok hc1).2.1, tl_iv]; omega), chg_small (by omega), norm_chg hc1, iv_chg h3]
set_option maxRecDepth 100000 in
set_option maxHeartbeats 4000000 in
theorem sonce_law {A : Option Addr} {c : Nat} {es : List Ed} {w : World} (hE : EdsIn 0 w A es) (hok : EdsOk es) :
    Calls Try.prog 10 #[.slice A es.length c] w fun e w' => e = .returned (.bool true) ∧ Below w.heap.size w w' := by
  by_cases hc : ck es = 0
  · skip
    obtain ⟨e1, e2, e3, e4⟩ := nrm_nrm hc
    have HE := Lib.hid hE
    have HN := Lib.hid (c_normal hok)
    have HN2 := Lib.hid (c_normal (EdsOk.of_ck (nrm_ck es)))
    have HI := Lib.hid (c_invert hok)
    have HI2 := Lib.hid (c_invert (EdsOk.of_ck (inv_ck es)))
    have HSN := Lib.hid (c_esame (EdsOk.of_ck (nrm_ck es)))
    have HG := Lib.hid (c_changed hok)
    have HGN := Lib.hid (c_changed (EdsOk.of_ck (nrm_ck es)))
    have HGI := Lib.hid (c_changed (EdsOk.of_ck (inv_ck es)))
    rw [e1, nrm_ck] at HN2
    rw [e2, inv_ck] at HI2
    rw [e3] at HGN
    rw [e4] at HGI
    rw [hc] at HN HI
    have HV := Lib.hid live8
    clear hE hok hc e1 e2 e3 e4
    generalize chg es = r at *
    generalize nrm es = n at *
    generalize inv es = v at *
    have hrr : (r == r) = true := by simp
    have HB0 : Hid (Below w.heap.size w w) := Lib.hid (Below.refl _ _)
    go_enter Try.func10, Try.ntmps10
    go_wp2_with fail
    with_reducible refine (HN.out.at c HE.out).mono ?_
    rintro e w1 ⟨A1, c1, rfl, he, hb⟩
    have HE_1 := Lib.hid (HE.out.below hb)
    have HN1_1 := Lib.hid he
    have HB1 := Lib.hid (HB0.out.trans (hb.mono HB0.out.size))
    clear hb HB0 HE he
    go_wp2_with fail
    with_reducible refine (HN2.out.at c1 HN1_1.out).mono ?_
    rintro e w2 ⟨A2, c2, rfl, he, hb⟩
    have HE_2 := Lib.hid (HE_1.out.below hb)
    have HN1_2 := Lib.hid (HN1_1.out.below hb)
    have HN2_2 := Lib.hid he
    have HB2 := Lib.hid (HB1.out.trans (hb.mono HB1.out.size))
    clear hb HB1 HE_1 HN1_1 he
    go_wp2_with fail
    with_reducible refine (HI.out.at c HE_2.out).mono ?_
    rintro e w3 ⟨A3, c3, rfl, he, hb⟩
    have HE_3 := Lib.hid (HE_2.out.below hb)
    have HN1_3 := Lib.hid (HN1_2.out.below hb)
    have HN2_3 := Lib.hid (HN2_2.out.below hb)
    have HI1_3 := Lib.hid he
    have HB3 := Lib.hid (HB2.out.trans (hb.mono HB2.out.size))
    clear hb HB2 HE_2 HN1_2 HN2_2 he
    go_wp2_with fail
    with_reducible refine (HI2.out.at c3 HI1_3.out).mono ?_
    rintro e w4 ⟨A4, c4, rfl, he, hb⟩
    have HE_4 := Lib.hid (HE_3.out.below hb)
    have HN1_4 := Lib.hid (HN1_3.out.below hb)
    have HN2_4 := Lib.hid (HN2_3.out.below hb)
    have HI1_4 := Lib.hid (HI1_3.out.below hb)
    have HN3_4 := Lib.hid he
    have HB4 := Lib.hid (HB3.out.trans (hb.mono HB3.out.size))
    clear hb HB3 HE_3 HN1_3 HN2_3 HI1_3 he
    go_wp2_with fail
    with_reducible refine (HV.out.at _).mono ?_
    rintro e w5 ⟨rfl, hb⟩
    have HE_5 := Lib.hid (HE_4.out.below hb)
    have HN1_5 := Lib.hid (HN1_4.out.below hb)
    have HN2_5 := Lib.hid (HN2_4.out.below hb)
    have HI1_5 := Lib.hid (HI1_4.out.below hb)
    have HN3_5 := Lib.hid (HN3_4.out.below hb)
    have HB5 := Lib.hid (HB4.out.trans (hb.mono HB4.out.size))
    clear hb HB4 HE_4 HN1_4 HN2_4 HI1_4 HN3_4
    go_wp2_with fail
    with_reducible refine (HSN.out.at c1 c2 HN1_5.out HN2_5.out).mono ?_
    rintro e w6 ⟨rfl, hb⟩
    have HE_6 := Lib.hid (HE_5.out.below hb)
    have HN1_6 := Lib.hid (HN1_5.out.below hb)
    have HN2_6 := Lib.hid (HN2_5.out.below hb)
    have HI1_6 := Lib.hid (HI1_5.out.below hb)
    have HN3_6 := Lib.hid (HN3_5.out.below hb)
    have HB6 := Lib.hid (HB5.out.trans (hb.mono HB5.out.size))
    clear hb HB5 HE_5 HN1_5 HN2_5 HI1_5 HN3_5
    go_wp2_with fail
    with_reducible refine (HSN.out.at c1 c4 HN1_6.out HN3_6.out).mono ?_
    rintro e w7 ⟨rfl, hb⟩
    have HE_7 := Lib.hid (HE_6.out.below hb)
    have HN1_7 := Lib.hid (HN1_6.out.below hb)
    have HN2_7 := Lib.hid (HN2_6.out.below hb)
    have HI1_7 := Lib.hid (HI1_6.out.below hb)
    have HN3_7 := Lib.hid (HN3_6.out.below hb)
    have HB7 := Lib.hid (HB6.out.trans (hb.mono HB6.out.size))
    clear hb HB6 HE_6 HN1_6 HN2_6 HI1_6 HN3_6
    go_wp2_with fail
    with_reducible refine (HGN.out.at c1 HN1_7.out).mono ?_
    rintro e w8 ⟨rfl, hb⟩
    have HE_8 := Lib.hid (HE_7.out.below hb)
    have HN1_8 := Lib.hid (HN1_7.out.below hb)
    have HN2_8 := Lib.hid (HN2_7.out.below hb)
    have HI1_8 := Lib.hid (HI1_7.out.below hb)
    have HN3_8 := Lib.hid (HN3_7.out.below hb)
    have HB8 := Lib.hid (HB7.out.trans (hb.mono HB7.out.size))
    clear hb HB7 HE_7 HN1_7 HN2_7 HI1_7 HN3_7
    go_wp2_with fail
    with_reducible refine (HG.out.at c HE_8.out).mono ?_
    rintro e w9 ⟨rfl, hb⟩
    have HE_9 := Lib.hid (HE_8.out.below hb)
    have HN1_9 := Lib.hid (HN1_8.out.below hb)
    have HN2_9 := Lib.hid (HN2_8.out.below hb)
    have HI1_9 := Lib.hid (HI1_8.out.below hb)
    have HN3_9 := Lib.hid (HN3_8.out.below hb)
    have HB9 := Lib.hid (HB8.out.trans (hb.mono HB8.out.size))
    clear hb HB8 HE_8 HN1_8 HN2_8 HI1_8 HN3_8
    go_wp2_with fail
    with_reducible refine (HGI.out.at c3 HI1_9.out).mono ?_
    rintro e w10 ⟨rfl, hb⟩
    have HE_10 := Lib.hid (HE_9.out.below hb)
    have HN1_10 := Lib.hid (HN1_9.out.below hb)
    have HN2_10 := Lib.hid (HN2_9.out.below hb)
    have HI1_10 := Lib.hid (HI1_9.out.below hb)
    have HN3_10 := Lib.hid (HN3_9.out.below hb)
    have HB10 := Lib.hid (HB9.out.trans (hb.mono HB9.out.size))
    clear hb HB9 HE_9 HN1_9 HN2_9 HI1_9 HN3_9
    go_wp2_with fail
    with_reducible refine (HG.out.at c HE_10.out).mono ?_
    rintro e w11 ⟨rfl, hb⟩
    have HE_11 := Lib.hid (HE_10.out.below hb)
    have HN1_11 := Lib.hid (HN1_10.out.below hb)
    have HN2_11 := Lib.hid (HN2_10.out.below hb)
    have HI1_11 := Lib.hid (HI1_10.out.below hb)
    have HN3_11 := Lib.hid (HN3_10.out.below hb)
    have HB11 := Lib.hid (HB10.out.trans (hb.mono HB10.out.size))
    clear hb HB10 HE_10 HN1_10 HN2_10 HI1_10 HN3_10
    go_wp2_with fail
    go_ret
    exact ⟨rfl, HB11.out⟩
  · skip
    have HE := Lib.hid hE
    have HN := Lib.hid (c_normal hok)
    have hn : nrm es = [] := by unfold nrm; rw [if_neg hc]
    rw [hn] at HN
    have HV := Lib.hid live8
    clear hE hok hn
    generalize ck es = q at *
    have h0 : (q == 0) = false := beq_eq_false_iff_ne.2 hc
    have h1 : (q != 0) = true := by simp [bne, h0]
    clear hc
    have HB0 : Hid (Below w.heap.size w w) := Lib.hid (Below.refl _ _)
    go_enter Try.func10, Try.ntmps10
    go_wp2_with fail
    with_reducible refine (HN.out.at c HE.out).mono ?_
    rintro e w1 ⟨A1, c1, rfl, he, hb⟩
    have HE_1 := Lib.hid (HE.out.below hb)
    have HN1_1 := Lib.hid he
    have HB1 := Lib.hid (HB0.out.trans (hb.mono HB0.out.size))
    clear hb HB0 HE he
    go_wp2_with fail
    with_reducible refine (HV.out.at _).mono ?_
    rintro e w2 ⟨rfl, hb⟩
    have HE_2 := Lib.hid (HE_1.out.below hb)
    have HN1_2 := Lib.hid (HN1_1.out.below hb)
    have HB2 := Lib.hid (HB1.out.trans (hb.mono HB1.out.size))
    clear hb HB1 HE_1 HN1_1
    go_wp2_with fail
    go_ret
    exact ⟨rfl, HB2.out⟩
end Go.Proofs.Ytcipecjbibpcbaa.S
