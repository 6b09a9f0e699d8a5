/-
  The law ScriptMakes.
-/
import Derived.Test.YtcipecjbibpcbaaGsh
namespace Go.Proofs.Ytcipecjbibpcbaa.S
set_option linter.unusedVariables false
set_option linter.unusedSimpArgs false
open Go.RowKit
open T
open V (grown_of IntsIn numCells numCells_snoc ints_own drawn_below)
open I (alloc1 own_at own_below)
open N (Ln)
open M (Lv)

set_option maxRecDepth 100000 in
set_option maxHeartbeats 4000000 in
theorem smakes_law {A B : Option Addr} {c c' : Nat} {a b : List Ln} {w : World} (hA : LinesIn w A a) (hB : LinesIn w B b) (ha : a.length ≤ maxLen) (hb : b.length ≤ maxLen) (hca : a.length ≤ c) (hcb : b.length ≤ c') (hta : ∀ y ∈ a, y.1.length ≤ maxLen) (htb : ∀ y ∈ b, y.1.length ≤ maxLen) :
    Calls Try.prog 3 #[.slice A a.length c, .slice B b.length c'] w fun e w' => e = .returned (.bool true) ∧ Below w.heap.size w w' := by
  have HX := Lib.hid (lines_take hA 40)
  have HY := Lib.hid (lines_take hB 40)
  have HFA := Lib.hid (fun W => few_any A a c W ha hca)
  have HFB := Lib.hid (fun W => few_any B b c' W hb hcb)
  have h1 : (a.take 40).length ≤ 40 := List.length_take_le _ _
  have h2 : (b.take 40).length ≤ 40 := List.length_take_le _ _
  have HTX : Hid (∀ y ∈ a.take 40, y.1.length ≤ maxLen) := Lib.hid (fun y hy => hta y (List.mem_of_mem_take hy))
  have HTY : Hid (∀ y ∈ b.take 40, y.1.length ≤ maxLen) := Lib.hid (fun y hy => htb y (List.mem_of_mem_take hy))
  have hxc : (a.take 40).length ≤ c := by rw [List.length_take]; omega
  have hyc : (b.take 40).length ≤ c' := by rw [List.length_take]; omega
  clear hA hB ha hb hca hcb hta htb
  generalize a.take 40 = x at *
  generalize b.take 40 = y at *
  have HM : Hid (∀ W, LinesIn W A x → LinesIn W B y → Calls Try.prog 12 #[.slice A x.length c, .slice B y.length c'] W (RnEnd W (norm (mkE x y)) 0)) := Lib.hid (fun W g1 g2 => (make_any A B x y c c' W g1 g2 (by omega) (by omega) hxc hyc HTX.out HTY.out).mono fun _ _ h => h.read)
  have HRM : Hid (∀ W, LinesIn W A x → LinesIn W B y → Calls Try.prog 13 #[.slice A x.length c, .slice B y.length c'] W (RnEnd W (norm (mkE x y)) 0)) := Lib.hid (fun W g1 g2 => rmake_any A B x y c c' W g1 g2 (by omega) (by omega) hxc hyc)
  have HSM := Lib.hid (c_esame (EdsOk.of_ck (norm_ok (mkE_ck (a := x) (b := y) (by omega) (by omega))).1))
  have HV := Lib.hid live8
  generalize norm (mkE x y) = n at *
  have HB0 : Hid (Below w.heap.size w w) := Lib.hid (Below.refl _ _)
  go_enter Try.func3, Try.ntmps3
  go_wp2_with fail
  with_reducible refine (HFA.out _).mono ?_
  rintro e w' ⟨rfl, rfl⟩
  go_wp2_with fail
  with_reducible refine (HFB.out _).mono ?_
  rintro e w' ⟨rfl, rfl⟩
  go_wp2_with fail
  with_reducible refine (HM.out _ HX.out HY.out).mono ?_
  rintro e w1 ⟨A1, c1, rfl, he, hb⟩
  have HX_1 := Lib.hid (HX.out.below hb)
  have HY_1 := Lib.hid (HY.out.below hb)
  have HM1_1 := Lib.hid he
  have HB1 := Lib.hid (HB0.out.trans (hb.mono HB0.out.size))
  clear hb HB0 HX HY he
  go_wp2_with fail
  with_reducible refine (HRM.out _ HX_1.out HY_1.out).mono ?_
  rintro e w2 ⟨A2, c2, rfl, he, hb⟩
  have HX_2 := Lib.hid (HX_1.out.below hb)
  have HY_2 := Lib.hid (HY_1.out.below hb)
  have HM1_2 := Lib.hid (HM1_1.out.below hb)
  have HM2_2 := Lib.hid he
  have HB2 := Lib.hid (HB1.out.trans (hb.mono HB1.out.size))
  clear hb HB1 HX_1 HY_1 HM1_1 he
  go_wp2_with fail
  with_reducible refine (HV.out.at _).mono ?_
  rintro e w3 ⟨rfl, hb⟩
  have HX_3 := Lib.hid (HX_2.out.below hb)
  have HY_3 := Lib.hid (HY_2.out.below hb)
  have HM1_3 := Lib.hid (HM1_2.out.below hb)
  have HM2_3 := Lib.hid (HM2_2.out.below hb)
  have HB3 := Lib.hid (HB2.out.trans (hb.mono HB2.out.size))
  clear hb HB2 HX_2 HY_2 HM1_2 HM2_2
  go_wp2_with fail
  with_reducible refine (HSM.out.at c1 c2 HM1_3.out HM2_3.out).mono ?_
  rintro e w4 ⟨rfl, hb⟩
  have HX_4 := Lib.hid (HX_3.out.below hb)
  have HY_4 := Lib.hid (HY_3.out.below hb)
  have HM1_4 := Lib.hid (HM1_3.out.below hb)
  have HM2_4 := Lib.hid (HM2_3.out.below hb)
  have HB4 := Lib.hid (HB3.out.trans (hb.mono HB3.out.size))
  clear hb HB3 HX_3 HY_3 HM1_3 HM2_3
  go_wp2_with fail
  go_ret
  exact ⟨rfl, HB4.out⟩
end Go.Proofs.Ytcipecjbibpcbaa.S
