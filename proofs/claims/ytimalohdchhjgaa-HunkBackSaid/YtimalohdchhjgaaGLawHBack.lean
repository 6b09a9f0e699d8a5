/-
  The law HunkBack.
-/
import Derived.Test.YtimalohdchhjgaaGhh
import Derived.Test.YtimalohdchhjgaaGha
namespace Go.Proofs.Ytimalohdchhjgaa.H
set_option linter.unusedVariables false
set_option linter.unusedSimpArgs false
open Go.RowKit
open T S
open I (alloc1 own_at own_below)
open N (Ln)
open M (Lv)

set_option maxRecDepth 100000 in
set_option maxHeartbeats 4000000 in
theorem hback_law {A : Option Addr} {c x : Nat} {es : List Ed} {w : World} (hE : EdsIn 0 w A es) (hok : EdsOk es) (hx : x < 256) :
    Calls Try.prog 5 #[.slice A es.length c, .int .u8 (x : Int)] w fun e w' => e = .returned (.bool true) ∧ Below w.heap.size w w' := by
  have HFW := Lib.hid (few_any A c es w hE hok)
  have HE := Lib.hid hE
  have HV := Lib.hid live9
  have hx1 := u8_rem hx
  have HOK := Lib.hid hok
  clear hE hok
  have HB0 : Hid (Below w.heap.size w w) := Lib.hid (Below.refl _ _)
  go_enter Try.func5, Try.ntmps5
  go_wp2_with fail
  with_reducible refine (HFW.out).mono ?_
  rintro e w1 ⟨v, rfl, hv, hb⟩
  have HE_1 := Lib.hid (HE.out.below hb)
  have HB1 := Lib.hid (HB0.out.trans (hb.mono HB0.out.size))
  clear hb HB0 HE HFW
  cases v with
  | false =>
    go_wp2_with fail
    with_reducible refine (HV.out.at w1).mono ?_
    rintro e w2 ⟨rfl, hb2⟩
    have HB2 := Lib.hid (HB1.out.trans (hb2.mono HB1.out.size))
    go_wp2_with fail
    go_ret
    exact ⟨rfl, HB2.out⟩
  | true =>
    obtain ⟨hl, ht⟩ := hv rfl
    have HXC : Hid ((x : Int) % 21 = ((x % 21 : Nat) : Int)) := Lib.hid (by omega)
    have HBD := Lib.hid (c_build ((x : Int) % 21) HOK.out)
    have HNM := Lib.hid (c_rnormal HOK.out)
    by_cases hk : ck es = 0
    · have hnm : nrm es = norm es := by unfold nrm; rw [if_pos hk]
      have f1 := fw_of (c := x % 21) hk hl ht
      rw [HXC.out, build_ok hk (by omega), ← HXC.out] at HBD
      rw [hnm, hk] at HNM
      have HSD := Lib.hid (fun W h => rsides_cap A c 0 es W h HOK.out hk)
      have hsl := sd_len 3 es
      have HWH := Lib.hid (c_whole (a := sd 3 es) f1.ok (by unfold maxLen; omega))
      rw [whl_bld _ hk hl ht] at HWH
      have HCK := Lib.hid (c_hcheck f1.ok)
      rw [bld_ck (nf_norm (ck_ok hk).2.2) (by rw [(norm_ok hk).2.1]; omega)] at HCK
      have HSM := Lib.hid (c_esame (EdsOk.of_ck (norm_ok hk).1))
      generalize bld (x % 21) (norm es) = hs at *
      generalize norm es = nes at *
      generalize sd 3 es = ol at *
      generalize sd 2 es = nl at *
      simp only at HBD HWH
      clear f1 hnm hsl hl ht hv HOK
      go_wp2_with fail
      with_reducible refine (HBD.out.at c HE_1.out).mono ?_
      rintro e w2 ⟨A1, c1, rfl, hh, hb⟩
      have HE_2 := Lib.hid (HE_1.out.below hb)
      have HH1_2 := Lib.hid hh
      have HB2 := Lib.hid (HB1.out.trans (hb.mono HB1.out.size))
      clear hb HB1 HE_1 hh
      go_wp2_with fail
      with_reducible refine (HNM.out.at c HE_2.out).mono ?_
      rintro e w3 ⟨A2, c2, rfl, he, hb⟩
      have HE_3 := Lib.hid (HE_2.out.below hb)
      have HH1_3 := Lib.hid (HH1_2.out.below hb)
      have HN1_3 := Lib.hid he
      have HB3 := Lib.hid (HB2.out.trans (hb.mono HB2.out.size))
      clear hb HB2 HE_2 HH1_2 he
      go_wp2_with fail
      with_reducible refine (HSD.out _ HE_3.out).mono ?_
      rintro e w4 ⟨A3, c3, B3, d3, rfl, hx, hcap, hb⟩
      have HE_4 := Lib.hid (HE_3.out.below hb)
      have HH1_4 := Lib.hid (HH1_3.out.below hb)
      have HN1_4 := Lib.hid (HN1_3.out.below hb)
      have HX_4 := Lib.hid hx
      have HB4 := Lib.hid (HB3.out.trans (hb.mono HB3.out.size))
      clear hb HB3 HE_3 HH1_3 HN1_3 hx
      go_wp2_with fail
      with_reducible refine (HWH.out.at c1 c3 HH1_4.out HX_4.out hcap).mono ?_
      rintro e w5 ⟨A4, c4, rfl, he, hb⟩
      have HE_5 := Lib.hid (HE_4.out.below hb)
      have HH1_5 := Lib.hid (HH1_4.out.below hb)
      have HN1_5 := Lib.hid (HN1_4.out.below hb)
      have HX_5 := Lib.hid (HX_4.out.below hb)
      have HW1_5 := Lib.hid he
      have HB5 := Lib.hid (HB4.out.trans (hb.mono HB4.out.size))
      clear hb HB4 HE_4 HH1_4 HN1_4 HX_4 he
      go_wp2_with fail
      with_reducible refine (HV.out.at _).mono ?_
      rintro e w6 ⟨rfl, hb⟩
      have HE_6 := Lib.hid (HE_5.out.below hb)
      have HH1_6 := Lib.hid (HH1_5.out.below hb)
      have HN1_6 := Lib.hid (HN1_5.out.below hb)
      have HX_6 := Lib.hid (HX_5.out.below hb)
      have HW1_6 := Lib.hid (HW1_5.out.below hb)
      have HB6 := Lib.hid (HB5.out.trans (hb.mono HB5.out.size))
      clear hb HB5 HE_5 HH1_5 HN1_5 HX_5 HW1_5
      go_wp2_with fail
      with_reducible refine (HCK.out.at c1 HH1_6.out).mono ?_
      rintro e w7 ⟨rfl, hb⟩
      have HE_7 := Lib.hid (HE_6.out.below hb)
      have HH1_7 := Lib.hid (HH1_6.out.below hb)
      have HN1_7 := Lib.hid (HN1_6.out.below hb)
      have HX_7 := Lib.hid (HX_6.out.below hb)
      have HW1_7 := Lib.hid (HW1_6.out.below hb)
      have HB7 := Lib.hid (HB6.out.trans (hb.mono HB6.out.size))
      clear hb HB6 HE_6 HH1_6 HN1_6 HX_6 HW1_6
      go_wp2_with fail
      with_reducible refine (HSM.out.at c4 c2 HW1_7.out HN1_7.out).mono ?_
      rintro e w8 ⟨rfl, hb⟩
      have HE_8 := Lib.hid (HE_7.out.below hb)
      have HH1_8 := Lib.hid (HH1_7.out.below hb)
      have HN1_8 := Lib.hid (HN1_7.out.below hb)
      have HX_8 := Lib.hid (HX_7.out.below hb)
      have HW1_8 := Lib.hid (HW1_7.out.below hb)
      have HB8 := Lib.hid (HB7.out.trans (hb.mono HB7.out.size))
      clear hb HB7 HE_7 HH1_7 HN1_7 HX_7 HW1_7
      go_wp2_with fail
      go_ret
      exact ⟨rfl, HB8.out⟩
    · have hnm : nrm es = [] := by unfold nrm; rw [if_neg hk]
      rw [build_bad hk] at HBD
      rw [hnm] at HNM
      clear hnm hl ht hv HOK
      generalize ck es = q at *
      simp only at HBD
      have h0 : (q == 0) = false := beq_eq_false_iff_ne.2 hk
      have h1 : (q != 0) = true := by simp [bne, h0]
      have hqq : (q != q) = false := by simp
      clear hk
      go_wp2_with fail
      with_reducible refine (HBD.out.at c HE_1.out).mono ?_
      rintro e w2 ⟨A1, c1, rfl, hh, hb⟩
      have HE_2 := Lib.hid (HE_1.out.below hb)
      have HH1_2 := Lib.hid hh
      have HB2 := Lib.hid (HB1.out.trans (hb.mono HB1.out.size))
      clear hb HB1 HE_1 hh
      go_wp2_with fail
      with_reducible refine (HNM.out.at c HE_2.out).mono ?_
      rintro e w3 ⟨A2, c2, rfl, he, hb⟩
      have HE_3 := Lib.hid (HE_2.out.below hb)
      have HH1_3 := Lib.hid (HH1_2.out.below hb)
      have HN1_3 := Lib.hid he
      have HB3 := Lib.hid (HB2.out.trans (hb.mono HB2.out.size))
      clear hb HB2 HE_2 HH1_2 he
      go_wp2_with fail
      with_reducible refine (HV.out.at _).mono ?_
      rintro e w4 ⟨rfl, hb⟩
      have HE_4 := Lib.hid (HE_3.out.below hb)
      have HH1_4 := Lib.hid (HH1_3.out.below hb)
      have HN1_4 := Lib.hid (HN1_3.out.below hb)
      have HB4 := Lib.hid (HB3.out.trans (hb.mono HB3.out.size))
      clear hb HB3 HE_3 HH1_3 HN1_3
      go_wp2_with fail
      go_ret
      exact ⟨rfl, HB4.out⟩
end Go.Proofs.Ytimalohdchhjgaa.H
