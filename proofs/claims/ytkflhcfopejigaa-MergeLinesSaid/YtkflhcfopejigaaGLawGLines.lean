/-
  The law MergeLines.
-/
import Derived.Test.YtkflhcfopejigaaGgu
import Derived.BigQuiet
import Derived.Deep.RegionHeld3
namespace Go.Proofs.Ytkflhcfopejigaa.Mg
set_option linter.unusedVariables false
set_option linter.unusedSimpArgs false
open Go.RowKit
open T
open V (drawn_below)
open I (alloc1 own_at own_below)
open Mt (Pr fnd Rt right right_iff)
open N (PrIn PrIn.below pr_own)
open Ck

set_option maxRecDepth 100000 in
set_option maxHeartbeats 4000000 in
theorem glines_walk {O A B P : Option Addr} {co ca cb cp n0 n1 n2 n3 : Nat} {o a b x y : List Ln} {l : List Pc} {z u : Int} {v : Bool} (w : World) (F0 : Hid (FwM O co n0 o.length)) (F1 : Hid (FwM A ca n1 a.length)) (F2 : Hid (FwM B cb n2 b.length)) (hO : Tx w O co o) (hA : Tx w A ca a) (hB : Tx w B cb b) (hP : PcIn w P l) (hp : min (n3 : Int) 40 = (l.length : Int)) (hp2 : l.length ≤ n3) (hp3 : n3 ≤ cp) (hp4 : n3 ≤ 9223372036854775807) (HO : Hid (LmC 16 l o a b x z)) (HR : Hid (LmC 17 l o a b x z)) (HM : Hid (LmC 18 l o a b y u)) (HN : Hid (LmC 19 l o a b y u)) (HS : Hid (SlM x x true)) (HT : Hid (SlM y y true)) (HC : Hid (ClM 14 l v)) (HD : Hid (ClM 15 l v)) :
    Calls Try.prog 4 #[.slice P n3 cp, .slice O n0 co, .slice A n1 ca, .slice B n2 cb] w fun e w' => e = .returned (.bool true) ∧ Below w.heap.size w w' := by
  have HXO := Lib.hid hO
  have HXA := Lib.hid hA
  have HXB := Lib.hid hB
  have HXP := Lib.hid hP
  clear hO hA hB hP
  have hp5 : l.length ≤ cp := by omega
  go_enter Try.func4, Try.ntmps4
  go_wp2_with fail
  go_region_held3 (fun w' => Below w.heap.size w w')
    (first | exact (Below.refl _ _).drew | with_reducible exact (by assumption))
    (first
      | (go_at_call 9; with_reducible refine (F0.out.at _).mono ?_; rintro r wq ⟨rfl, rfl⟩)
      | (go_at_call 9; with_reducible refine (F1.out.at _).mono ?_; rintro r wq ⟨rfl, rfl⟩)
      | (go_at_call 9; with_reducible refine (F2.out.at _).mono ?_; rintro r wq ⟨rfl, rfl⟩))
  all_goals
    have hbh : Below w.heap.size w _ := (by assumption)
    have HB1 := Lib.hid hbh
    have HO_1 := Lib.hid (HXO.out.below hbh)
    have HA_1 := Lib.hid (HXA.out.below hbh)
    have HB_1 := Lib.hid (HXB.out.below hbh)
    have HP_1 := Lib.hid (HXP.out.below hbh)
    clear hbh HXO HXA HXB HXP F0 F1 F2
    go_wp2_with fail
    with_reducible refine (HO.out.at cp HP_1.out HO_1.out HA_1.out HB_1.out).mono ?_
    rintro e w2 ⟨C1, k1, rfl, hc, hb⟩
    have HO_2 := Lib.hid (HO_1.out.below hb)
    have HA_2 := Lib.hid (HA_1.out.below hb)
    have HB_2 := Lib.hid (HB_1.out.below hb)
    have HP_2 := Lib.hid (HP_1.out.below hb)
    have HX_2 := Lib.hid hc
    have HB2 := Lib.hid (HB1.out.trans (hb.mono HB1.out.size))
    clear hb HB1 HO_1 HA_1 HB_1 HP_1 hc
    go_wp2_with fail
    with_reducible refine (HR.out.at cp HP_2.out HO_2.out HA_2.out HB_2.out).mono ?_
    rintro e w3 ⟨C2, k2, rfl, hc, hb⟩
    have HO_3 := Lib.hid (HO_2.out.below hb)
    have HA_3 := Lib.hid (HA_2.out.below hb)
    have HB_3 := Lib.hid (HB_2.out.below hb)
    have HP_3 := Lib.hid (HP_2.out.below hb)
    have HX_3 := Lib.hid (HX_2.out.below hb)
    have HY_3 := Lib.hid hc
    have HB3 := Lib.hid (HB2.out.trans (hb.mono HB2.out.size))
    clear hb HB2 HO_2 HA_2 HB_2 HP_2 HX_2 hc
    go_wp2_with fail
    with_reducible refine (HM.out.at cp HP_3.out HO_3.out HA_3.out HB_3.out).mono ?_
    rintro e w4 ⟨C3, k3, rfl, hc, hb⟩
    have HO_4 := Lib.hid (HO_3.out.below hb)
    have HA_4 := Lib.hid (HA_3.out.below hb)
    have HB_4 := Lib.hid (HB_3.out.below hb)
    have HP_4 := Lib.hid (HP_3.out.below hb)
    have HX_4 := Lib.hid (HX_3.out.below hb)
    have HY_4 := Lib.hid (HY_3.out.below hb)
    have HZ_4 := Lib.hid hc
    have HB4 := Lib.hid (HB3.out.trans (hb.mono HB3.out.size))
    clear hb HB3 HO_3 HA_3 HB_3 HP_3 HX_3 HY_3 hc
    go_wp2_with fail
    with_reducible refine (HN.out.at cp HP_4.out HO_4.out HA_4.out HB_4.out).mono ?_
    rintro e w5 ⟨C4, k4, rfl, hc, hb⟩
    have HO_5 := Lib.hid (HO_4.out.below hb)
    have HA_5 := Lib.hid (HA_4.out.below hb)
    have HB_5 := Lib.hid (HB_4.out.below hb)
    have HP_5 := Lib.hid (HP_4.out.below hb)
    have HX_5 := Lib.hid (HX_4.out.below hb)
    have HY_5 := Lib.hid (HY_4.out.below hb)
    have HZ_5 := Lib.hid (HZ_4.out.below hb)
    have HW_5 := Lib.hid hc
    have HB5 := Lib.hid (HB4.out.trans (hb.mono HB4.out.size))
    clear hb HB4 HO_4 HA_4 HB_4 HP_4 HX_4 HY_4 HZ_4 hc
    go_wp2_with fail
    with_reducible refine (live14.at _).mono ?_
    rintro e w6 ⟨rfl, hb⟩
    have HO_6 := Lib.hid (HO_5.out.below hb)
    have HA_6 := Lib.hid (HA_5.out.below hb)
    have HB_6 := Lib.hid (HB_5.out.below hb)
    have HP_6 := Lib.hid (HP_5.out.below hb)
    have HX_6 := Lib.hid (HX_5.out.below hb)
    have HY_6 := Lib.hid (HY_5.out.below hb)
    have HZ_6 := Lib.hid (HZ_5.out.below hb)
    have HW_6 := Lib.hid (HW_5.out.below hb)
    have HB6 := Lib.hid (HB5.out.trans (hb.mono HB5.out.size))
    clear hb HB5 HO_5 HA_5 HB_5 HP_5 HX_5 HY_5 HZ_5 HW_5
    go_wp2_with fail
    with_reducible refine (HS.out.at k1 k2 HX_6.out HY_6.out).mono ?_
    rintro e w7 ⟨rfl, hb⟩
    have HO_7 := Lib.hid (HO_6.out.below hb)
    have HA_7 := Lib.hid (HA_6.out.below hb)
    have HB_7 := Lib.hid (HB_6.out.below hb)
    have HP_7 := Lib.hid (HP_6.out.below hb)
    have HX_7 := Lib.hid (HX_6.out.below hb)
    have HY_7 := Lib.hid (HY_6.out.below hb)
    have HZ_7 := Lib.hid (HZ_6.out.below hb)
    have HW_7 := Lib.hid (HW_6.out.below hb)
    have HB7 := Lib.hid (HB6.out.trans (hb.mono HB6.out.size))
    clear hb HB6 HO_6 HA_6 HB_6 HP_6 HX_6 HY_6 HZ_6 HW_6
    go_wp2_with fail
    with_reducible refine (HT.out.at k3 k4 HZ_7.out HW_7.out).mono ?_
    rintro e w8 ⟨rfl, hb⟩
    have HO_8 := Lib.hid (HO_7.out.below hb)
    have HA_8 := Lib.hid (HA_7.out.below hb)
    have HB_8 := Lib.hid (HB_7.out.below hb)
    have HP_8 := Lib.hid (HP_7.out.below hb)
    have HX_8 := Lib.hid (HX_7.out.below hb)
    have HY_8 := Lib.hid (HY_7.out.below hb)
    have HZ_8 := Lib.hid (HZ_7.out.below hb)
    have HW_8 := Lib.hid (HW_7.out.below hb)
    have HB8 := Lib.hid (HB7.out.trans (hb.mono HB7.out.size))
    clear hb HB7 HO_7 HA_7 HB_7 HP_7 HX_7 HY_7 HZ_7 HW_7
    go_wp2_with fail
    with_reducible refine (HC.out.at cp HP_8.out).mono ?_
    rintro e w9 ⟨rfl, hb⟩
    have HO_9 := Lib.hid (HO_8.out.below hb)
    have HA_9 := Lib.hid (HA_8.out.below hb)
    have HB_9 := Lib.hid (HB_8.out.below hb)
    have HP_9 := Lib.hid (HP_8.out.below hb)
    have HX_9 := Lib.hid (HX_8.out.below hb)
    have HY_9 := Lib.hid (HY_8.out.below hb)
    have HZ_9 := Lib.hid (HZ_8.out.below hb)
    have HW_9 := Lib.hid (HW_8.out.below hb)
    have HB9 := Lib.hid (HB8.out.trans (hb.mono HB8.out.size))
    clear hb HB8 HO_8 HA_8 HB_8 HP_8 HX_8 HY_8 HZ_8 HW_8
    go_wp2_with fail
    with_reducible refine (HD.out.at cp HP_9.out).mono ?_
    rintro e w10 ⟨rfl, hb⟩
    have HO_10 := Lib.hid (HO_9.out.below hb)
    have HA_10 := Lib.hid (HA_9.out.below hb)
    have HB_10 := Lib.hid (HB_9.out.below hb)
    have HP_10 := Lib.hid (HP_9.out.below hb)
    have HX_10 := Lib.hid (HX_9.out.below hb)
    have HY_10 := Lib.hid (HY_9.out.below hb)
    have HZ_10 := Lib.hid (HZ_9.out.below hb)
    have HW_10 := Lib.hid (HW_9.out.below hb)
    have HB10 := Lib.hid (HB9.out.trans (hb.mono HB9.out.size))
    clear hb HB9 HO_9 HA_9 HB_9 HP_9 HX_9 HY_9 HZ_9 HW_9
    go_wp2_with fail
    go_ret
    exact ⟨by simp, HB10.out⟩
theorem mkd_le {l : List Pc} {o a b : List Ln} (h : Small l o a b) : (lns l o a b).length ≤ maxLen ∧ (mkd l o a b).length ≤ maxLen := by
  have hf := h.flat
  have hw : (whole l o a b).length ≤ maxLen := by unfold whole maxLen; rw [bared_len]; omega
  unfold lns mkd
  constructor
  · split
    · split
      · exact hw
      · exact Nat.zero_le _
    · exact Nat.zero_le _
  · split
    · exact hw
    · exact Nat.zero_le _
theorem pc_take {w : World} {P : Option Addr} {l : List Pc} (h : PcIn w P l) (k : Nat) : PcIn w P (l.take k) := fun hp => by
  obtain ⟨bk, off, rfl, hlt, hI⟩ := h (by rw [List.length_take] at hp; omega)
  refine ⟨bk, off, rfl, hlt, fun j hj => ?_⟩
  simp only [List.getElem_take]
  exact hI j (by rw [List.length_take] at hj; omega)
theorem glines_law {O A B P : Option Addr} {co ca cb cp : Nat} {o a b : List Ln} {l : List Pc} {w : World} (hP : PcIn w P l) (hO : Tx w O co o) (hA : Tx w A ca a) (hB : Tx w B cb b) (hp : l.length ≤ maxLen) (hp3 : l.length ≤ cp) :
    Calls Try.prog 4 #[.slice P l.length cp, .slice O o.length co, .slice A a.length ca, .slice B b.length cb] w fun e w' => e = .returned (.bool true) ∧ Below w.heap.size w w' := by
  have l1 := len40 l
  have l2 := len40 o
  have l3 := len40 a
  have l4 := len40 b
  unfold maxLen at hp
  have hs : Small (l.take 40) (o.take 40) (a.take 40) (b.take 40) := ⟨by omega, by omega, by omega, by omega⟩
  have hm := mkd_le hs
  exact glines_walk w (Lib.hid (c_few (A := O) hO.s hO.r)) (Lib.hid (c_few (A := A) hA.s hA.r)) (Lib.hid (c_few (A := B) hB.s hB.r)) hO.take hA.take hB.take (pc_take hP 40) (by rw [List.length_take]; omega) (by rw [List.length_take]; omega) hp3 (by omega) (Lib.hid (c_lines hs)) (Lib.hid (c_rlines hs)) (Lib.hid (c_marked hs)) (Lib.hid (c_rmarked hs)) (Lib.hid (c_lself hm.1)) (Lib.hid (c_lself hm.2)) (Lib.hid (c_clean (by omega))) (Lib.hid (c_rclean (by omega)))

end Go.Proofs.Ytkflhcfopejigaa.Mg
