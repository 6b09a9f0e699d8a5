/-
  The law ScriptBack.
-/
import Derived.Test.YtcipecjbibpcbaaGsh
namespace Go.Proofs.Ytcipecjbibpcbaa.S
set_option linter.unusedVariables false
set_option linter.unusedSimpArgs false
open Go.RowKit
open T
open V (grown_of IntsIn numCells numCells_snoc ints_own drawn_below)
open I (alloc1 own_at own_below)
open N (Ln)
open M (Lv)

theorem back_plain {a b : List Ln} (ha : a.length ≤ 60) (hb : b.length ≤ 60) : ck (norm (mkE a b)) = 0 ∧ apl (norm (mkE a b)) a = (b, 0) ∧ ck (inv (norm (mkE a b))) = 0 ∧ apl (inv (norm (mkE a b))) b = (a, 0) ∧ True := by
  have hk := mkE_ck ha hb
  have h1 := (norm_ok hk).1
  have hs := sides_nrm (mkE a b)
  have hn : nrm (mkE a b) = norm (mkE a b) := by unfold nrm; rw [if_pos hk]
  have hz : sides (mkE a b) = (a, b) := by unfold sides; rw [if_pos hk, (mkE_sides a b).1, (mkE_sides a b).2]
  rw [hn, hz] at hs
  have h2 := inv_ck (norm (mkE a b))
  have hi := sides_inv (norm (mkE a b))
  rw [hs] at hi
  refine ⟨h1, ?_, h2, ?_, trivial⟩
  · unfold sides at hs
    rw [if_pos h1] at hs
    injection hs with e1 e2
    unfold apl
    rw [if_pos h1, if_pos e1, e2]
  · unfold sides at hi
    rw [if_pos h2] at hi
    injection hi with e1 e2
    unfold apl
    rw [if_pos h2, if_pos e1, e2]
set_option maxRecDepth 100000 in
set_option maxHeartbeats 4000000 in
theorem sback_law {A B : Option Addr} {c c' : Nat} {a b : List Ln} {w : World} (hA : LinesIn w A a) (hB : LinesIn w B b) (ha : a.length ≤ maxLen) (hb : b.length ≤ maxLen) (hca : a.length ≤ c) (hcb : b.length ≤ c') (hta : ∀ y ∈ a, y.1.length ≤ maxLen) (htb : ∀ y ∈ b, y.1.length ≤ maxLen) :
    Calls Try.prog 4 #[.slice A a.length c, .slice B b.length c'] w fun e w' => e = .returned (.bool true) ∧ Below w.heap.size w w' := by
  have HX := Lib.hid (lines_take hA 40)
  have HY := Lib.hid (lines_take hB 40)
  have HFA := Lib.hid (fun W => few_any A a c W ha hca)
  have HFB := Lib.hid (fun W => few_any B b c' W hb hcb)
  have h1 : (a.take 40).length ≤ 40 := List.length_take_le _ _
  have h2 : (b.take 40).length ≤ 40 := List.length_take_le _ _
  have HTX : Hid (∀ y ∈ a.take 40, y.1.length ≤ maxLen) := Lib.hid (fun y hy => hta y (List.mem_of_mem_take hy))
  have HTY : Hid (∀ y ∈ b.take 40, y.1.length ≤ maxLen) := Lib.hid (fun y hy => htb y (List.mem_of_mem_take hy))
  have hxc : (a.take 40).length ≤ c := by rw [List.length_take]; omega
  have hyc : (b.take 40).length ≤ c' := by rw [List.length_take]; omega
  clear hA hB ha hb hca hcb hta htb
  generalize a.take 40 = x at *
  generalize b.take 40 = y at *
  have HM : Hid (∀ W, LinesIn W A x → LinesIn W B y → Calls Try.prog 12 #[.slice A x.length c, .slice B y.length c'] W (RnEnd W (norm (mkE x y)) 0)) := Lib.hid (fun W g1 g2 => (make_any A B x y c c' W g1 g2 (by omega) (by omega) hxc hyc HTX.out HTY.out).mono fun _ _ h => h.read)
  obtain ⟨p1, p2, p3, p4, p5⟩ := back_plain (a := x) (b := y) (by omega) (by omega)
  have HA1 := Lib.hid (c_apply (a := x) (EdsOk.of_ck p1) (by unfold maxLen; omega))
  rw [p2] at HA1
  have HI := Lib.hid (c_invert (EdsOk.of_ck p1))
  rw [p1] at HI
  have HA2 := Lib.hid (c_apply (a := y) (EdsOk.of_ck p3) (by unfold maxLen; omega))
  rw [p4] at HA2
  have HSX := Lib.hid (c_lsame (l := x) (by unfold maxLen; omega))
  have HSY := Lib.hid (c_lsame (l := y) (by unfold maxLen; omega))
  have HV := Lib.hid live8
  clear p1 p2 p3 p4 p5
  simp only at HA1 HA2
  generalize inv (norm (mkE x y)) = v at *
  generalize norm (mkE x y) = n at *
  have HB0 : Hid (Below w.heap.size w w) := Lib.hid (Below.refl _ _)
  go_enter Try.func4, Try.ntmps4
  go_wp2_with fail
  with_reducible refine (HFA.out _).mono ?_
  rintro e w' ⟨rfl, rfl⟩
  go_wp2_with fail
  with_reducible refine (HFB.out _).mono ?_
  rintro e w' ⟨rfl, rfl⟩
  go_wp2_with fail
  with_reducible refine (HM.out _ HX.out HY.out).mono ?_
  rintro e w1 ⟨A1, c1, rfl, he, hb⟩
  have HX_1 := Lib.hid (HX.out.below hb)
  have HY_1 := Lib.hid (HY.out.below hb)
  have HM1_1 := Lib.hid he
  have HB1 := Lib.hid (HB0.out.trans (hb.mono HB0.out.size))
  clear hb HB0 HX HY he
  go_wp2_with fail
  with_reducible refine (HA1.out.at c1 c HM1_1.out HX_1.out).mono ?_
  rintro e w2 ⟨A2, c2, rfl, hx, hb⟩
  have HX_2 := Lib.hid (HX_1.out.below hb)
  have HY_2 := Lib.hid (HY_1.out.below hb)
  have HM1_2 := Lib.hid (HM1_1.out.below hb)
  have HP_2 := Lib.hid hx
  have HB2 := Lib.hid (HB1.out.trans (hb.mono HB1.out.size))
  clear hb HB1 HX_1 HY_1 HM1_1 hx
  go_wp2_with fail
  with_reducible refine (HI.out.at c1 HM1_2.out).mono ?_
  rintro e w3 ⟨A3, c3, rfl, he, hb⟩
  have HX_3 := Lib.hid (HX_2.out.below hb)
  have HY_3 := Lib.hid (HY_2.out.below hb)
  have HM1_3 := Lib.hid (HM1_2.out.below hb)
  have HP_3 := Lib.hid (HP_2.out.below hb)
  have HI_3 := Lib.hid he
  have HB3 := Lib.hid (HB2.out.trans (hb.mono HB2.out.size))
  clear hb HB2 HX_2 HY_2 HM1_2 HP_2 he
  go_wp2_with fail
  with_reducible refine (HA2.out.at c3 c' HI_3.out HY_3.out).mono ?_
  rintro e w4 ⟨A4, c4, rfl, hx, hb⟩
  have HX_4 := Lib.hid (HX_3.out.below hb)
  have HY_4 := Lib.hid (HY_3.out.below hb)
  have HM1_4 := Lib.hid (HM1_3.out.below hb)
  have HP_4 := Lib.hid (HP_3.out.below hb)
  have HI_4 := Lib.hid (HI_3.out.below hb)
  have HQ_4 := Lib.hid hx
  have HB4 := Lib.hid (HB3.out.trans (hb.mono HB3.out.size))
  clear hb HB3 HX_3 HY_3 HM1_3 HP_3 HI_3 hx
  go_wp2_with fail
  with_reducible refine (HV.out.at _).mono ?_
  rintro e w5 ⟨rfl, hb⟩
  have HX_5 := Lib.hid (HX_4.out.below hb)
  have HY_5 := Lib.hid (HY_4.out.below hb)
  have HM1_5 := Lib.hid (HM1_4.out.below hb)
  have HP_5 := Lib.hid (HP_4.out.below hb)
  have HI_5 := Lib.hid (HI_4.out.below hb)
  have HQ_5 := Lib.hid (HQ_4.out.below hb)
  have HB5 := Lib.hid (HB4.out.trans (hb.mono HB4.out.size))
  clear hb HB4 HX_4 HY_4 HM1_4 HP_4 HI_4 HQ_4
  go_wp2_with fail
  with_reducible refine (HSY.out.at c2 c' HP_5.out HY_5.out).mono ?_
  rintro e w6 ⟨rfl, hb⟩
  have HX_6 := Lib.hid (HX_5.out.below hb)
  have HY_6 := Lib.hid (HY_5.out.below hb)
  have HM1_6 := Lib.hid (HM1_5.out.below hb)
  have HP_6 := Lib.hid (HP_5.out.below hb)
  have HI_6 := Lib.hid (HI_5.out.below hb)
  have HQ_6 := Lib.hid (HQ_5.out.below hb)
  have HB6 := Lib.hid (HB5.out.trans (hb.mono HB5.out.size))
  clear hb HB5 HX_5 HY_5 HM1_5 HP_5 HI_5 HQ_5
  go_wp2_with fail
  with_reducible refine (HSX.out.at c4 c HQ_6.out HX_6.out).mono ?_
  rintro e w7 ⟨rfl, hb⟩
  have HX_7 := Lib.hid (HX_6.out.below hb)
  have HY_7 := Lib.hid (HY_6.out.below hb)
  have HM1_7 := Lib.hid (HM1_6.out.below hb)
  have HP_7 := Lib.hid (HP_6.out.below hb)
  have HI_7 := Lib.hid (HI_6.out.below hb)
  have HQ_7 := Lib.hid (HQ_6.out.below hb)
  have HB7 := Lib.hid (HB6.out.trans (hb.mono HB6.out.size))
  clear hb HB6 HX_6 HY_6 HM1_6 HP_6 HI_6 HQ_6
  go_wp2_with fail
  go_ret
  exact ⟨rfl, HB7.out⟩
end Go.Proofs.Ytcipecjbibpcbaa.S
