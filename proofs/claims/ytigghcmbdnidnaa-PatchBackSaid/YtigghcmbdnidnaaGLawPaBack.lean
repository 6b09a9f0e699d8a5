/-
  The law PatchBack.
-/
import Derived.Test.YtigghcmbdnidnaaGpu
import Derived.BigQuiet
namespace Go.Proofs.Ytigghcmbdnidnaa.Pa
set_option linter.unusedVariables false
set_option linter.unusedSimpArgs false
open Go.RowKit
open T S H
open V (grown_of drawn_below IntsIn)
open I (alloc1 own_at own_below)
open N (Ln PrIn)
open M (Lv)

set_option maxRecDepth 100000 in
set_option maxHeartbeats 4000000 in
theorem pback0 {A B : Option Addr} {c c' x : Nat} {a b : List Ln} {w : World} (hA : LinesIn w A a) (hB : LinesIn w B b) (ha : a.length ≤ maxLen) (hb : b.length ≤ maxLen) (hca : a.length ≤ c) (hcb : b.length ≤ c') (hta : ∀ y ∈ a, y.1.length ≤ maxLen) (htb : ∀ y ∈ b, y.1.length ≤ maxLen) (hx : x < 256) (hry : P.right (b.take 40) = false) :
    Calls Try.prog 4 #[.slice A a.length c, .slice B b.length c', .int .u8 (x : Int)] w fun e w' => e = .returned (.bool true) ∧ Below w.heap.size w w' := by
  have HX := Lib.hid (lines_take hA 40)
  have HY := Lib.hid (lines_take hB 40)
  have h1 : (a.take 40).length ≤ 40 := List.length_take_le _ _
  have h2 : (b.take 40).length ≤ 40 := List.length_take_le _ _
  have hmx : min (a.length : Int) 40 = ((a.take 40).length : Int) := by rw [List.length_take]; omega
  have hmy : min (b.length : Int) 40 = ((b.take 40).length : Int) := by rw [List.length_take]; omega
  have hlx : (a.take 40).length ≤ a.length := List.length_take_le' _ _
  have hly : (b.take 40).length ≤ b.length := List.length_take_le' _ _
  have HTX : Hid (∀ y ∈ a.take 40, y.1.length ≤ maxLen) := Lib.hid (fun y hy => hta y (List.mem_of_mem_take hy))
  have HTY : Hid (∀ y ∈ b.take 40, y.1.length ≤ maxLen) := Lib.hid (fun y hy => htb y (List.mem_of_mem_take hy))
  replace ha := Nat.le_trans ha (Nat.le_refl _)
  replace hb := Nat.le_trans hb (Nat.le_refl _)
  unfold maxLen at ha hb
  have hxr := u8_rem hx
  have hcx : x % 21 ≤ 20 := by omega
  generalize a.take 40 = X at *
  generalize b.take 40 = Y at *
  obtain ⟨na, hna⟩ : ∃ n, n = a.length := ⟨_, rfl⟩
  obtain ⟨nb, hnb⟩ : ∃ n, n = b.length := ⟨_, rfl⟩
  rw [← hna] at ha hca hmx hlx ⊢
  rw [← hnb] at hb hcb hmy hly ⊢
  clear hA hB hta htb hna hnb
  have HPF := Lib.hid (pf_of (c := x % 21) h1 h2)
  have HMK := Lib.hid (c_rmake h1 h2)
  have hkk := mkE_ck (a := X) (b := Y) (by omega) (by omega)
  have HBD := Lib.hid (c_rbld HPF.out.ok HPF.out.ck (norm_norm hkk) hcx)
  rw [show ((x % 21 : Nat) : Int) = (x : Int) % 21 by omega] at HBD
  have hxe : IntKind.i64.wrap (x : Int) = (x : Int) := by rw [IntKind.wrap_i64]; omega
  have hbk := back_of HPF.out h1 h2 rfl HPF.out.tl HPF.out.len
  have hw0 : (whl (bld (x % 21) (norm (mkE X Y))) X).2 = 0 ∧ sd 2 (whl (bld (x % 21) (norm (mkE X Y))) X).1 = Y := by rw [HPF.out.wh]; exact ⟨rfl, HPF.out.s2⟩
  have HAP := Lib.hid (c_papply HPF.out.hok (a := X) (by unfold maxLen; omega) (by rw [hw0.2]; exact HTY.out))
  rw [mde_of hw0.1 hw0.2 (by omega), if_neg (by rw [hry]; simp)] at HAP
  have HRY := Lib.hid (c_rgt (l := Y) (by omega) HTY.out)
  rw [hry] at HRY
  clear hw0 hbk
  clear hkk
  generalize bld (x % 21) (norm (mkE X Y)) = hs at *
  generalize norm (mkE X Y) = es at *
  have hcX : X.length ≤ c := by omega
  have hcY : Y.length ≤ c' := by omega
  have h0 : (0 : Int) == 0 := by simp
  generalize prT (tld hs X) = ps at *
  simp only at HAP
  clear HPF HTX HTY h0
  have HB0 : Hid (Below w.heap.size w w) := Lib.hid (Below.refl _ _)
  go_enter Try.func4, Try.ntmps4
  go_wp2_with fail
  go_quiet (fail)
  obtain ⟨v1, hv1⟩ : ∃ W, W = w.drewN nq := ⟨_, rfl⟩
  have hb : Below w.heap.size w v1 := by rw [hv1]; exact drawn_below w nq
  have HX_1 := Lib.hid (HX.out.below hb)
  have HY_1 := Lib.hid (HY.out.below hb)
  have HB1 := Lib.hid (HB0.out.trans (hb.mono HB0.out.size))
  rw [← hv1]
  clear hv1 hb HB0 HX HY
  go_wp2_with fail
  with_reducible refine (HMK.out.at HX_1.out HY_1.out hcX hcY).mono ?_
  rintro e w2 ⟨A1, c1, rfl, he, hb⟩
  have HX_2 := Lib.hid (HX_1.out.below hb)
  have HY_2 := Lib.hid (HY_1.out.below hb)
  have HE_2 := Lib.hid he
  have HB2 := Lib.hid (HB1.out.trans (hb.mono HB1.out.size))
  clear hb HB1 HX_1 HY_1 he
  go_wp2_with fail
  with_reducible refine (HBD.out.at c1 HE_2.out).mono ?_
  rintro e w3 ⟨A2, c2, rfl, hh, hb⟩
  have HX_3 := Lib.hid (HX_2.out.below hb)
  have HY_3 := Lib.hid (HY_2.out.below hb)
  have HE_3 := Lib.hid (HE_2.out.below hb)
  have HH_3 := Lib.hid hh
  have HB3 := Lib.hid (HB2.out.trans (hb.mono HB2.out.size))
  clear hb HB2 HX_2 HY_2 HE_2 hh
  go_wp2_with fail
  with_reducible refine (HAP.out.at c2 c HH_3.out HX_3.out hcX).mono ?_
  rintro e w4 ⟨A3, c3, P3, q3, rfl, hl, -, hb⟩
  have HX_4 := Lib.hid (HX_3.out.below hb)
  have HY_4 := Lib.hid (HY_3.out.below hb)
  have HE_4 := Lib.hid (HE_3.out.below hb)
  have HH_4 := Lib.hid (HH_3.out.below hb)
  have HS_4 := Lib.hid hl
  have HB4 := Lib.hid (HB3.out.trans (hb.mono HB3.out.size))
  clear hb HB3 HX_3 HY_3 HE_3 HH_3 hl
  go_wp2_with fail
  with_reducible refine (HRY.out.at c' HY_4.out).mono ?_
  rintro e w5 ⟨rfl, hb⟩
  have HX_5 := Lib.hid (HX_4.out.below hb)
  have HY_5 := Lib.hid (HY_4.out.below hb)
  have HE_5 := Lib.hid (HE_4.out.below hb)
  have HH_5 := Lib.hid (HH_4.out.below hb)
  have HS_5 := Lib.hid (HS_4.out.below hb)
  have HB5 := Lib.hid (HB4.out.trans (hb.mono HB4.out.size))
  clear hb HB4 HX_4 HY_4 HE_4 HH_4 HS_4
  go_wp2_with fail
  with_reducible refine (live11.at _).mono ?_
  rintro e w6 ⟨rfl, hb⟩
  have HX_6 := Lib.hid (HX_5.out.below hb)
  have HY_6 := Lib.hid (HY_5.out.below hb)
  have HE_6 := Lib.hid (HE_5.out.below hb)
  have HH_6 := Lib.hid (HH_5.out.below hb)
  have HS_6 := Lib.hid (HS_5.out.below hb)
  have HB6 := Lib.hid (HB5.out.trans (hb.mono HB5.out.size))
  clear hb HB5 HX_5 HY_5 HE_5 HH_5 HS_5
  go_wp2_with fail
  go_ret
  exact ⟨rfl, HB6.out⟩
set_option maxRecDepth 100000 in
set_option maxHeartbeats 4000000 in
theorem pback1 {A B : Option Addr} {c c' x : Nat} {a b : List Ln} {w : World} (hA : LinesIn w A a) (hB : LinesIn w B b) (ha : a.length ≤ maxLen) (hb : b.length ≤ maxLen) (hca : a.length ≤ c) (hcb : b.length ≤ c') (hta : ∀ y ∈ a, y.1.length ≤ maxLen) (htb : ∀ y ∈ b, y.1.length ≤ maxLen) (hx : x < 256) (hry : P.right (b.take 40) = true) (hrx : P.right (a.take 40) = true) :
    Calls Try.prog 4 #[.slice A a.length c, .slice B b.length c', .int .u8 (x : Int)] w fun e w' => e = .returned (.bool true) ∧ Below w.heap.size w w' := by
  have HX := Lib.hid (lines_take hA 40)
  have HY := Lib.hid (lines_take hB 40)
  have h1 : (a.take 40).length ≤ 40 := List.length_take_le _ _
  have h2 : (b.take 40).length ≤ 40 := List.length_take_le _ _
  have hmx : min (a.length : Int) 40 = ((a.take 40).length : Int) := by rw [List.length_take]; omega
  have hmy : min (b.length : Int) 40 = ((b.take 40).length : Int) := by rw [List.length_take]; omega
  have hlx : (a.take 40).length ≤ a.length := List.length_take_le' _ _
  have hly : (b.take 40).length ≤ b.length := List.length_take_le' _ _
  have HTX : Hid (∀ y ∈ a.take 40, y.1.length ≤ maxLen) := Lib.hid (fun y hy => hta y (List.mem_of_mem_take hy))
  have HTY : Hid (∀ y ∈ b.take 40, y.1.length ≤ maxLen) := Lib.hid (fun y hy => htb y (List.mem_of_mem_take hy))
  replace ha := Nat.le_trans ha (Nat.le_refl _)
  replace hb := Nat.le_trans hb (Nat.le_refl _)
  unfold maxLen at ha hb
  have hxr := u8_rem hx
  have hcx : x % 21 ≤ 20 := by omega
  generalize a.take 40 = X at *
  generalize b.take 40 = Y at *
  obtain ⟨na, hna⟩ : ∃ n, n = a.length := ⟨_, rfl⟩
  obtain ⟨nb, hnb⟩ : ∃ n, n = b.length := ⟨_, rfl⟩
  rw [← hna] at ha hca hmx hlx ⊢
  rw [← hnb] at hb hcb hmy hly ⊢
  clear hA hB hta htb hna hnb
  have HPF := Lib.hid (pf_of (c := x % 21) h1 h2)
  have HMK := Lib.hid (c_rmake h1 h2)
  have hkk := mkE_ck (a := X) (b := Y) (by omega) (by omega)
  have HBD := Lib.hid (c_rbld HPF.out.ok HPF.out.ck (norm_norm hkk) hcx)
  rw [show ((x % 21 : Nat) : Int) = (x : Int) % 21 by omega] at HBD
  have hxe : IntKind.i64.wrap (x : Int) = (x : Int) := by rw [IntKind.wrap_i64]; omega
  have hbk := back_of HPF.out h1 h2 rfl HPF.out.tl HPF.out.len
  have hw0 : (whl (bld (x % 21) (norm (mkE X Y))) X).2 = 0 ∧ sd 2 (whl (bld (x % 21) (norm (mkE X Y))) X).1 = Y := by rw [HPF.out.wh]; exact ⟨rfl, HPF.out.s2⟩
  have HAP := Lib.hid (c_papply HPF.out.hok (a := X) (by unfold maxLen; omega) (by rw [hw0.2]; exact HTY.out))
  rw [mde_of hw0.1 hw0.2 (by omega), if_pos hry] at HAP
  have HRY := Lib.hid (c_rgt (l := Y) (by omega) HTY.out)
  rw [hry] at HRY
  have HRX := Lib.hid (c_rgt (l := X) (by omega) HTX.out)
  rw [hrx] at HRX
  have HR1 := Lib.hid (c_reverse HPF.out.hok)
  rw [HPF.out.rv.1] at HR1
  have HAB := Lib.hid (c_papply HPF.out.rok (a := Y) (by unfold maxLen; omega) (by rw [hbk.2]; exact HTX.out))
  rw [mde_of hbk.1 hbk.2 (by omega), if_pos hrx] at HAB
  have HSX := Lib.hid (c_lsame (l := X) (by unfold maxLen; omega))
  have HSY := Lib.hid (c_lsame (l := Y) (by unfold maxLen; omega))
  clear hw0 hbk
  clear hkk
  generalize bld (x % 21) (norm (mkE X Y)) = hs at *
  generalize norm (mkE X Y) = es at *
  have hcX : X.length ≤ c := by omega
  have hcY : Y.length ≤ c' := by omega
  have h0 : (0 : Int) == 0 := by simp
  generalize prT (tld hs X) = ps at *
  generalize prT (tld (rvs hs) Y) = pr at *
  generalize rvs hs = rs at *
  simp only at HR1 HAB
  simp only at HAP
  clear HPF HTX HTY h0
  have HB0 : Hid (Below w.heap.size w w) := Lib.hid (Below.refl _ _)
  go_enter Try.func4, Try.ntmps4
  go_wp2_with fail
  go_quiet (fail)
  obtain ⟨v1, hv1⟩ : ∃ W, W = w.drewN nq := ⟨_, rfl⟩
  have hb : Below w.heap.size w v1 := by rw [hv1]; exact drawn_below w nq
  have HX_1 := Lib.hid (HX.out.below hb)
  have HY_1 := Lib.hid (HY.out.below hb)
  have HB1 := Lib.hid (HB0.out.trans (hb.mono HB0.out.size))
  rw [← hv1]
  clear hv1 hb HB0 HX HY
  go_wp2_with fail
  with_reducible refine (HMK.out.at HX_1.out HY_1.out hcX hcY).mono ?_
  rintro e w2 ⟨A1, c1, rfl, he, hb⟩
  have HX_2 := Lib.hid (HX_1.out.below hb)
  have HY_2 := Lib.hid (HY_1.out.below hb)
  have HE_2 := Lib.hid he
  have HB2 := Lib.hid (HB1.out.trans (hb.mono HB1.out.size))
  clear hb HB1 HX_1 HY_1 he
  go_wp2_with fail
  with_reducible refine (HBD.out.at c1 HE_2.out).mono ?_
  rintro e w3 ⟨A2, c2, rfl, hh, hb⟩
  have HX_3 := Lib.hid (HX_2.out.below hb)
  have HY_3 := Lib.hid (HY_2.out.below hb)
  have HE_3 := Lib.hid (HE_2.out.below hb)
  have HH_3 := Lib.hid hh
  have HB3 := Lib.hid (HB2.out.trans (hb.mono HB2.out.size))
  clear hb HB2 HX_2 HY_2 HE_2 hh
  go_wp2_with fail
  with_reducible refine (HAP.out.at c2 c HH_3.out HX_3.out hcX).mono ?_
  rintro e w4 ⟨A3, c3, P3, q3, rfl, hl, -, hb⟩
  have HX_4 := Lib.hid (HX_3.out.below hb)
  have HY_4 := Lib.hid (HY_3.out.below hb)
  have HE_4 := Lib.hid (HE_3.out.below hb)
  have HH_4 := Lib.hid (HH_3.out.below hb)
  have HS_4 := Lib.hid hl
  have HB4 := Lib.hid (HB3.out.trans (hb.mono HB3.out.size))
  clear hb HB3 HX_3 HY_3 HE_3 HH_3 hl
  go_wp2_with fail
  with_reducible refine (HRY.out.at c' HY_4.out).mono ?_
  rintro e w5 ⟨rfl, hb⟩
  have HX_5 := Lib.hid (HX_4.out.below hb)
  have HY_5 := Lib.hid (HY_4.out.below hb)
  have HE_5 := Lib.hid (HE_4.out.below hb)
  have HH_5 := Lib.hid (HH_4.out.below hb)
  have HS_5 := Lib.hid (HS_4.out.below hb)
  have HB5 := Lib.hid (HB4.out.trans (hb.mono HB4.out.size))
  clear hb HB4 HX_4 HY_4 HE_4 HH_4 HS_4
  go_wp2_with fail
  with_reducible refine (HR1.out.at c2 HH_5.out).mono ?_
  rintro e w6 ⟨A4, c4, rfl, hh, hb⟩
  have HX_6 := Lib.hid (HX_5.out.below hb)
  have HY_6 := Lib.hid (HY_5.out.below hb)
  have HE_6 := Lib.hid (HE_5.out.below hb)
  have HH_6 := Lib.hid (HH_5.out.below hb)
  have HS_6 := Lib.hid (HS_5.out.below hb)
  have HM_6 := Lib.hid hh
  have HB6 := Lib.hid (HB5.out.trans (hb.mono HB5.out.size))
  clear hb HB5 HX_5 HY_5 HE_5 HH_5 HS_5 hh
  go_wp2_with fail
  with_reducible refine (HAB.out.at c4 c' HM_6.out HY_6.out hcY).mono ?_
  rintro e w7 ⟨A5, c5, P5, q5, rfl, hl, -, hb⟩
  have HX_7 := Lib.hid (HX_6.out.below hb)
  have HY_7 := Lib.hid (HY_6.out.below hb)
  have HE_7 := Lib.hid (HE_6.out.below hb)
  have HH_7 := Lib.hid (HH_6.out.below hb)
  have HS_7 := Lib.hid (HS_6.out.below hb)
  have HM_7 := Lib.hid (HM_6.out.below hb)
  have HT_7 := Lib.hid hl
  have HB7 := Lib.hid (HB6.out.trans (hb.mono HB6.out.size))
  clear hb HB6 HX_6 HY_6 HE_6 HH_6 HS_6 HM_6 hl
  go_wp2_with fail
  with_reducible refine (HSY.out.at c3 c' HS_7.out HY_7.out).mono ?_
  rintro e w8 ⟨rfl, hb⟩
  have HX_8 := Lib.hid (HX_7.out.below hb)
  have HY_8 := Lib.hid (HY_7.out.below hb)
  have HE_8 := Lib.hid (HE_7.out.below hb)
  have HH_8 := Lib.hid (HH_7.out.below hb)
  have HS_8 := Lib.hid (HS_7.out.below hb)
  have HM_8 := Lib.hid (HM_7.out.below hb)
  have HT_8 := Lib.hid (HT_7.out.below hb)
  have HB8 := Lib.hid (HB7.out.trans (hb.mono HB7.out.size))
  clear hb HB7 HX_7 HY_7 HE_7 HH_7 HS_7 HM_7 HT_7
  go_wp2_with fail
  with_reducible refine (live11.at _).mono ?_
  rintro e w9 ⟨rfl, hb⟩
  have HX_9 := Lib.hid (HX_8.out.below hb)
  have HY_9 := Lib.hid (HY_8.out.below hb)
  have HE_9 := Lib.hid (HE_8.out.below hb)
  have HH_9 := Lib.hid (HH_8.out.below hb)
  have HS_9 := Lib.hid (HS_8.out.below hb)
  have HM_9 := Lib.hid (HM_8.out.below hb)
  have HT_9 := Lib.hid (HT_8.out.below hb)
  have HB9 := Lib.hid (HB8.out.trans (hb.mono HB8.out.size))
  clear hb HB8 HX_8 HY_8 HE_8 HH_8 HS_8 HM_8 HT_8
  go_wp2_with fail
  with_reducible refine (HSX.out.at c5 c HT_9.out HX_9.out).mono ?_
  rintro e w10 ⟨rfl, hb⟩
  have HX_10 := Lib.hid (HX_9.out.below hb)
  have HY_10 := Lib.hid (HY_9.out.below hb)
  have HE_10 := Lib.hid (HE_9.out.below hb)
  have HH_10 := Lib.hid (HH_9.out.below hb)
  have HS_10 := Lib.hid (HS_9.out.below hb)
  have HM_10 := Lib.hid (HM_9.out.below hb)
  have HT_10 := Lib.hid (HT_9.out.below hb)
  have HB10 := Lib.hid (HB9.out.trans (hb.mono HB9.out.size))
  clear hb HB9 HX_9 HY_9 HE_9 HH_9 HS_9 HM_9 HT_9
  go_wp2_with fail
  go_ret
  exact ⟨rfl, HB10.out⟩
set_option maxRecDepth 100000 in
set_option maxHeartbeats 4000000 in
theorem pback2 {A B : Option Addr} {c c' x : Nat} {a b : List Ln} {w : World} (hA : LinesIn w A a) (hB : LinesIn w B b) (ha : a.length ≤ maxLen) (hb : b.length ≤ maxLen) (hca : a.length ≤ c) (hcb : b.length ≤ c') (hta : ∀ y ∈ a, y.1.length ≤ maxLen) (htb : ∀ y ∈ b, y.1.length ≤ maxLen) (hx : x < 256) (hry : P.right (b.take 40) = true) (hrx : P.right (a.take 40) = false) :
    Calls Try.prog 4 #[.slice A a.length c, .slice B b.length c', .int .u8 (x : Int)] w fun e w' => e = .returned (.bool true) ∧ Below w.heap.size w w' := by
  have HX := Lib.hid (lines_take hA 40)
  have HY := Lib.hid (lines_take hB 40)
  have h1 : (a.take 40).length ≤ 40 := List.length_take_le _ _
  have h2 : (b.take 40).length ≤ 40 := List.length_take_le _ _
  have hmx : min (a.length : Int) 40 = ((a.take 40).length : Int) := by rw [List.length_take]; omega
  have hmy : min (b.length : Int) 40 = ((b.take 40).length : Int) := by rw [List.length_take]; omega
  have hlx : (a.take 40).length ≤ a.length := List.length_take_le' _ _
  have hly : (b.take 40).length ≤ b.length := List.length_take_le' _ _
  have HTX : Hid (∀ y ∈ a.take 40, y.1.length ≤ maxLen) := Lib.hid (fun y hy => hta y (List.mem_of_mem_take hy))
  have HTY : Hid (∀ y ∈ b.take 40, y.1.length ≤ maxLen) := Lib.hid (fun y hy => htb y (List.mem_of_mem_take hy))
  replace ha := Nat.le_trans ha (Nat.le_refl _)
  replace hb := Nat.le_trans hb (Nat.le_refl _)
  unfold maxLen at ha hb
  have hxr := u8_rem hx
  have hcx : x % 21 ≤ 20 := by omega
  generalize a.take 40 = X at *
  generalize b.take 40 = Y at *
  obtain ⟨na, hna⟩ : ∃ n, n = a.length := ⟨_, rfl⟩
  obtain ⟨nb, hnb⟩ : ∃ n, n = b.length := ⟨_, rfl⟩
  rw [← hna] at ha hca hmx hlx ⊢
  rw [← hnb] at hb hcb hmy hly ⊢
  clear hA hB hta htb hna hnb
  have HPF := Lib.hid (pf_of (c := x % 21) h1 h2)
  have HMK := Lib.hid (c_rmake h1 h2)
  have hkk := mkE_ck (a := X) (b := Y) (by omega) (by omega)
  have HBD := Lib.hid (c_rbld HPF.out.ok HPF.out.ck (norm_norm hkk) hcx)
  rw [show ((x % 21 : Nat) : Int) = (x : Int) % 21 by omega] at HBD
  have hxe : IntKind.i64.wrap (x : Int) = (x : Int) := by rw [IntKind.wrap_i64]; omega
  have hbk := back_of HPF.out h1 h2 rfl HPF.out.tl HPF.out.len
  have hw0 : (whl (bld (x % 21) (norm (mkE X Y))) X).2 = 0 ∧ sd 2 (whl (bld (x % 21) (norm (mkE X Y))) X).1 = Y := by rw [HPF.out.wh]; exact ⟨rfl, HPF.out.s2⟩
  have HAP := Lib.hid (c_papply HPF.out.hok (a := X) (by unfold maxLen; omega) (by rw [hw0.2]; exact HTY.out))
  rw [mde_of hw0.1 hw0.2 (by omega), if_pos hry] at HAP
  have HRY := Lib.hid (c_rgt (l := Y) (by omega) HTY.out)
  rw [hry] at HRY
  have HRX := Lib.hid (c_rgt (l := X) (by omega) HTX.out)
  rw [hrx] at HRX
  have HR1 := Lib.hid (c_reverse HPF.out.hok)
  rw [HPF.out.rv.1] at HR1
  have HAB := Lib.hid (c_papply HPF.out.rok (a := Y) (by unfold maxLen; omega) (by rw [hbk.2]; exact HTX.out))
  rw [mde_of hbk.1 hbk.2 (by omega), if_neg (by rw [hrx]; simp)] at HAB
  have HSX := Lib.hid (c_lsame (l := X) (by unfold maxLen; omega))
  have HSY := Lib.hid (c_lsame (l := Y) (by unfold maxLen; omega))
  clear hw0 hbk
  clear hkk
  generalize bld (x % 21) (norm (mkE X Y)) = hs at *
  generalize norm (mkE X Y) = es at *
  have hcX : X.length ≤ c := by omega
  have hcY : Y.length ≤ c' := by omega
  have h0 : (0 : Int) == 0 := by simp
  generalize prT (tld hs X) = ps at *
  generalize prT (tld (rvs hs) Y) = pr at *
  generalize rvs hs = rs at *
  simp only at HR1 HAB
  simp only at HAP
  clear HPF HTX HTY h0
  have HB0 : Hid (Below w.heap.size w w) := Lib.hid (Below.refl _ _)
  go_enter Try.func4, Try.ntmps4
  go_wp2_with fail
  go_quiet (fail)
  obtain ⟨v1, hv1⟩ : ∃ W, W = w.drewN nq := ⟨_, rfl⟩
  have hb : Below w.heap.size w v1 := by rw [hv1]; exact drawn_below w nq
  have HX_1 := Lib.hid (HX.out.below hb)
  have HY_1 := Lib.hid (HY.out.below hb)
  have HB1 := Lib.hid (HB0.out.trans (hb.mono HB0.out.size))
  rw [← hv1]
  clear hv1 hb HB0 HX HY
  go_wp2_with fail
  with_reducible refine (HMK.out.at HX_1.out HY_1.out hcX hcY).mono ?_
  rintro e w2 ⟨A1, c1, rfl, he, hb⟩
  have HX_2 := Lib.hid (HX_1.out.below hb)
  have HY_2 := Lib.hid (HY_1.out.below hb)
  have HE_2 := Lib.hid he
  have HB2 := Lib.hid (HB1.out.trans (hb.mono HB1.out.size))
  clear hb HB1 HX_1 HY_1 he
  go_wp2_with fail
  with_reducible refine (HBD.out.at c1 HE_2.out).mono ?_
  rintro e w3 ⟨A2, c2, rfl, hh, hb⟩
  have HX_3 := Lib.hid (HX_2.out.below hb)
  have HY_3 := Lib.hid (HY_2.out.below hb)
  have HE_3 := Lib.hid (HE_2.out.below hb)
  have HH_3 := Lib.hid hh
  have HB3 := Lib.hid (HB2.out.trans (hb.mono HB2.out.size))
  clear hb HB2 HX_2 HY_2 HE_2 hh
  go_wp2_with fail
  with_reducible refine (HAP.out.at c2 c HH_3.out HX_3.out hcX).mono ?_
  rintro e w4 ⟨A3, c3, P3, q3, rfl, hl, -, hb⟩
  have HX_4 := Lib.hid (HX_3.out.below hb)
  have HY_4 := Lib.hid (HY_3.out.below hb)
  have HE_4 := Lib.hid (HE_3.out.below hb)
  have HH_4 := Lib.hid (HH_3.out.below hb)
  have HS_4 := Lib.hid hl
  have HB4 := Lib.hid (HB3.out.trans (hb.mono HB3.out.size))
  clear hb HB3 HX_3 HY_3 HE_3 HH_3 hl
  go_wp2_with fail
  with_reducible refine (HRY.out.at c' HY_4.out).mono ?_
  rintro e w5 ⟨rfl, hb⟩
  have HX_5 := Lib.hid (HX_4.out.below hb)
  have HY_5 := Lib.hid (HY_4.out.below hb)
  have HE_5 := Lib.hid (HE_4.out.below hb)
  have HH_5 := Lib.hid (HH_4.out.below hb)
  have HS_5 := Lib.hid (HS_4.out.below hb)
  have HB5 := Lib.hid (HB4.out.trans (hb.mono HB4.out.size))
  clear hb HB4 HX_4 HY_4 HE_4 HH_4 HS_4
  go_wp2_with fail
  with_reducible refine (HR1.out.at c2 HH_5.out).mono ?_
  rintro e w6 ⟨A4, c4, rfl, hh, hb⟩
  have HX_6 := Lib.hid (HX_5.out.below hb)
  have HY_6 := Lib.hid (HY_5.out.below hb)
  have HE_6 := Lib.hid (HE_5.out.below hb)
  have HH_6 := Lib.hid (HH_5.out.below hb)
  have HS_6 := Lib.hid (HS_5.out.below hb)
  have HM_6 := Lib.hid hh
  have HB6 := Lib.hid (HB5.out.trans (hb.mono HB5.out.size))
  clear hb HB5 HX_5 HY_5 HE_5 HH_5 HS_5 hh
  go_wp2_with fail
  with_reducible refine (HAB.out.at c4 c' HM_6.out HY_6.out hcY).mono ?_
  rintro e w7 ⟨A5, c5, P5, q5, rfl, hl, -, hb⟩
  have HX_7 := Lib.hid (HX_6.out.below hb)
  have HY_7 := Lib.hid (HY_6.out.below hb)
  have HE_7 := Lib.hid (HE_6.out.below hb)
  have HH_7 := Lib.hid (HH_6.out.below hb)
  have HS_7 := Lib.hid (HS_6.out.below hb)
  have HM_7 := Lib.hid (HM_6.out.below hb)
  have HT_7 := Lib.hid hl
  have HB7 := Lib.hid (HB6.out.trans (hb.mono HB6.out.size))
  clear hb HB6 HX_6 HY_6 HE_6 HH_6 HS_6 HM_6 hl
  go_wp2_with fail
  with_reducible refine (HSY.out.at c3 c' HS_7.out HY_7.out).mono ?_
  rintro e w8 ⟨rfl, hb⟩
  have HX_8 := Lib.hid (HX_7.out.below hb)
  have HY_8 := Lib.hid (HY_7.out.below hb)
  have HE_8 := Lib.hid (HE_7.out.below hb)
  have HH_8 := Lib.hid (HH_7.out.below hb)
  have HS_8 := Lib.hid (HS_7.out.below hb)
  have HM_8 := Lib.hid (HM_7.out.below hb)
  have HT_8 := Lib.hid (HT_7.out.below hb)
  have HB8 := Lib.hid (HB7.out.trans (hb.mono HB7.out.size))
  clear hb HB7 HX_7 HY_7 HE_7 HH_7 HS_7 HM_7 HT_7
  go_wp2_with fail
  with_reducible refine (live11.at _).mono ?_
  rintro e w9 ⟨rfl, hb⟩
  have HX_9 := Lib.hid (HX_8.out.below hb)
  have HY_9 := Lib.hid (HY_8.out.below hb)
  have HE_9 := Lib.hid (HE_8.out.below hb)
  have HH_9 := Lib.hid (HH_8.out.below hb)
  have HS_9 := Lib.hid (HS_8.out.below hb)
  have HM_9 := Lib.hid (HM_8.out.below hb)
  have HT_9 := Lib.hid (HT_8.out.below hb)
  have HB9 := Lib.hid (HB8.out.trans (hb.mono HB8.out.size))
  clear hb HB8 HX_8 HY_8 HE_8 HH_8 HS_8 HM_8 HT_8
  go_wp2_with fail
  with_reducible refine (HRX.out.at c HX_9.out).mono ?_
  rintro e w10 ⟨rfl, hb⟩
  have HX_10 := Lib.hid (HX_9.out.below hb)
  have HY_10 := Lib.hid (HY_9.out.below hb)
  have HE_10 := Lib.hid (HE_9.out.below hb)
  have HH_10 := Lib.hid (HH_9.out.below hb)
  have HS_10 := Lib.hid (HS_9.out.below hb)
  have HM_10 := Lib.hid (HM_9.out.below hb)
  have HT_10 := Lib.hid (HT_9.out.below hb)
  have HB10 := Lib.hid (HB9.out.trans (hb.mono HB9.out.size))
  clear hb HB9 HX_9 HY_9 HE_9 HH_9 HS_9 HM_9 HT_9
  go_wp2_with fail
  go_ret
  exact ⟨rfl, HB10.out⟩
theorem pback_law {A B : Option Addr} {c c' x : Nat} {a b : List Ln} {w : World} (hA : LinesIn w A a) (hB : LinesIn w B b) (ha : a.length ≤ maxLen) (hb : b.length ≤ maxLen) (hca : a.length ≤ c) (hcb : b.length ≤ c') (hta : ∀ y ∈ a, y.1.length ≤ maxLen) (htb : ∀ y ∈ b, y.1.length ≤ maxLen) (hx : x < 256) :
    Calls Try.prog 4 #[.slice A a.length c, .slice B b.length c', .int .u8 (x : Int)] w fun e w' => e = .returned (.bool true) ∧ Below w.heap.size w w' := by
  cases hry : P.right (b.take 40) with
  | false => exact pback0 hA hB ha hb hca hcb hta htb hx hry
  | true =>
    cases hrx : P.right (a.take 40) with
    | true => exact pback1 hA hB ha hb hca hcb hta htb hx hry hrx
    | false => exact pback2 hA hB ha hb hca hcb hta htb hx hry hrx
end Go.Proofs.Ytigghcmbdnidnaa.Pa
