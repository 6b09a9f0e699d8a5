/-
  The law HunkFewer.
-/
import Derived.Test.YtimalohdchhjgaaGhh
import Derived.Test.YtimalohdchhjgaaGha
namespace Go.Proofs.Ytimalohdchhjgaa.H
set_option linter.unusedVariables false
set_option linter.unusedSimpArgs false
open Go.RowKit
open T S
open I (alloc1 own_at own_below)
open N (Ln)
open M (Lv)

set_option maxRecDepth 100000 in
set_option maxHeartbeats 4000000 in
theorem hfewer_law {A : Option Addr} {c x y : Nat} {es : List Ed} {w : World} (hE : EdsIn 0 w A es) (hok : EdsOk es) (hx : x < 256) (hy : y < 256) :
    Calls Try.prog 7 #[.slice A es.length c, .int .u8 (x : Int), .int .u8 (y : Int)] w fun e w' => e = .returned (.bool true) ∧ Below w.heap.size w w' := by
  have HFW := Lib.hid (few_any A c es w hE hok)
  have HE := Lib.hid hE
  have HV := Lib.hid live9
  have hx1 := u8_rem hx
  have hy1 := u8_rem hy
  have HOK := Lib.hid hok
  clear hE hok
  have HB0 : Hid (Below w.heap.size w w) := Lib.hid (Below.refl _ _)
  go_enter Try.func7, Try.ntmps7
  go_wp2_with fail
  with_reducible refine (HFW.out).mono ?_
  rintro e w1 ⟨v, rfl, hv, hb⟩
  have HE_1 := Lib.hid (HE.out.below hb)
  have HB1 := Lib.hid (HB0.out.trans (hb.mono HB0.out.size))
  clear hb HB0 HE HFW
  cases v with
  | false =>
    go_wp2_with fail
    with_reducible refine (HV.out.at w1).mono ?_
    rintro e w2 ⟨rfl, hb2⟩
    have HB2 := Lib.hid (HB1.out.trans (hb2.mono HB1.out.size))
    go_wp2_with fail
    go_ret
    exact ⟨rfl, HB2.out⟩
  | true =>
    obtain ⟨hl, ht⟩ := hv rfl
    have hcs : ∃ (hs1 hs2 : List Hk) (q : Int), BdC 10 es (min ((x : Int) % 21) ((y : Int) % 21)) hs1 q ∧ BdC 10 es (max ((x : Int) % 21) ((y : Int) % 21)) hs2 q ∧ hs2.length ≤ hs1.length ∧ JnC 16 hs1 (join hs1) ∧ JnC 16 hs2 (join hs2) ∧ EdsOk (join hs1) ∧ EdsOk (join hs2) ∧ chg (join hs1) = chg (join hs2) := by
      by_cases hk : ck es = 0
      · have f1 := fw_of (c := min (x % 21) (y % 21)) hk hl ht
        have f2 := fw_of (c := max (x % 21) (y % 21)) hk hl ht
        have b1 := c_build (min ((x : Int) % 21) ((y : Int) % 21)) HOK.out
        have b2 := c_build (max ((x : Int) % 21) ((y : Int) % 21)) HOK.out
        rw [show min ((x : Int) % 21) ((y : Int) % 21) = ((min (x % 21) (y % 21) : Nat) : Int) by omega] at b1 ⊢
        rw [show max ((x : Int) % 21) ((y : Int) % 21) = ((max (x % 21) (y % 21) : Nat) : Int) by omega] at b2 ⊢
        rw [build_ok hk (by omega)] at b1 b2
        exact ⟨_, _, 0, b1, b2, bld_fewer (by omega) _, c_join f1.ok f1.jl f1.ll, c_join f2.ok f2.jl f2.ll, f1.jok, f2.jok, by rw [f1.chg, f2.chg]⟩
      · have b1 := c_build (min ((x : Int) % 21) ((y : Int) % 21)) HOK.out
        have b2 := c_build (max ((x : Int) % 21) ((y : Int) % 21)) HOK.out
        rw [build_bad hk] at b1 b2
        have ho : HksOk [] := ⟨by simp, fun h hm => by simp at hm⟩
        have hj := c_join ho (by simp [join]) (fun h hm => by simp at hm)
        exact ⟨[], [], ck es, b1, b2, Nat.le_refl _, hj, hj, ⟨by simp [join], fun e he => by simp [join] at he⟩, ⟨by simp [join], fun e he => by simp [join] at he⟩, rfl⟩
    obtain ⟨hs1, hs2, q, b1, b2, hle, j1, j2, o1, o2, hch⟩ := hcs
    have HB1_ := Lib.hid b1
    have HB2_ := Lib.hid b2
    have HJ1 := Lib.hid j1
    have HJ2 := Lib.hid j2
    have HG1 := Lib.hid (c_rchanged o1)
    have HG2 := Lib.hid (c_rchanged o2)
    rw [hch] at HG1
    have hdl : decide ((hs2.length : Int) ≤ (hs1.length : Int)) = true := decide_eq_true (by omega)
    have hqq : (q != q) = false := by simp
    generalize chg (join hs2) = cz at *
    have hcz : (cz == cz) = true := by simp
    clear b1 b2 j1 j2 o1 o2 hch hl ht hv HOK
    go_wp2_with fail
    with_reducible refine (HB1_.out.at c HE_1.out).mono ?_
    rintro e w2 ⟨A1, c1, rfl, hh, hb⟩
    have HE_2 := Lib.hid (HE_1.out.below hb)
    have HH1_2 := Lib.hid hh
    have HB2 := Lib.hid (HB1.out.trans (hb.mono HB1.out.size))
    clear hb HB1 HE_1 hh
    go_wp2_with fail
    with_reducible refine (HB2_.out.at c HE_2.out).mono ?_
    rintro e w3 ⟨A2, c2, rfl, hh, hb⟩
    have HE_3 := Lib.hid (HE_2.out.below hb)
    have HH1_3 := Lib.hid (HH1_2.out.below hb)
    have HH2_3 := Lib.hid hh
    have HB3 := Lib.hid (HB2.out.trans (hb.mono HB2.out.size))
    clear hb HB2 HE_2 HH1_2 hh
    go_wp2_with fail
    with_reducible refine (HV.out.at _).mono ?_
    rintro e w4 ⟨rfl, hb⟩
    have HE_4 := Lib.hid (HE_3.out.below hb)
    have HH1_4 := Lib.hid (HH1_3.out.below hb)
    have HH2_4 := Lib.hid (HH2_3.out.below hb)
    have HB4 := Lib.hid (HB3.out.trans (hb.mono HB3.out.size))
    clear hb HB3 HE_3 HH1_3 HH2_3
    go_wp2_with fail
    with_reducible refine (HJ1.out.at c1 HH1_4.out).mono ?_
    rintro e w5 ⟨A3, c3, rfl, he, hb⟩
    have HE_5 := Lib.hid (HE_4.out.below hb)
    have HH1_5 := Lib.hid (HH1_4.out.below hb)
    have HH2_5 := Lib.hid (HH2_4.out.below hb)
    have HJ1_5 := Lib.hid he
    have HB5 := Lib.hid (HB4.out.trans (hb.mono HB4.out.size))
    clear hb HB4 HE_4 HH1_4 HH2_4 he
    go_wp2_with fail
    with_reducible refine (HG1.out.at c3 HJ1_5.out).mono ?_
    rintro e w6 ⟨rfl, hb⟩
    have HE_6 := Lib.hid (HE_5.out.below hb)
    have HH1_6 := Lib.hid (HH1_5.out.below hb)
    have HH2_6 := Lib.hid (HH2_5.out.below hb)
    have HJ1_6 := Lib.hid (HJ1_5.out.below hb)
    have HB6 := Lib.hid (HB5.out.trans (hb.mono HB5.out.size))
    clear hb HB5 HE_5 HH1_5 HH2_5 HJ1_5
    go_wp2_with fail
    with_reducible refine (HJ2.out.at c2 HH2_6.out).mono ?_
    rintro e w7 ⟨A4, c4, rfl, he, hb⟩
    have HE_7 := Lib.hid (HE_6.out.below hb)
    have HH1_7 := Lib.hid (HH1_6.out.below hb)
    have HH2_7 := Lib.hid (HH2_6.out.below hb)
    have HJ1_7 := Lib.hid (HJ1_6.out.below hb)
    have HJ2_7 := Lib.hid he
    have HB7 := Lib.hid (HB6.out.trans (hb.mono HB6.out.size))
    clear hb HB6 HE_6 HH1_6 HH2_6 HJ1_6 he
    go_wp2_with fail
    with_reducible refine (HG2.out.at c4 HJ2_7.out).mono ?_
    rintro e w8 ⟨rfl, hb⟩
    have HE_8 := Lib.hid (HE_7.out.below hb)
    have HH1_8 := Lib.hid (HH1_7.out.below hb)
    have HH2_8 := Lib.hid (HH2_7.out.below hb)
    have HJ1_8 := Lib.hid (HJ1_7.out.below hb)
    have HJ2_8 := Lib.hid (HJ2_7.out.below hb)
    have HB8 := Lib.hid (HB7.out.trans (hb.mono HB7.out.size))
    clear hb HB7 HE_7 HH1_7 HH2_7 HJ1_7 HJ2_7
    go_wp2_with fail
    go_ret
    exact ⟨rfl, HB8.out⟩
end Go.Proofs.Ytimalohdchhjgaa.H
