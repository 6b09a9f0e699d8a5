/-
  The law PatchApplies.
-/
import Derived.Test.YtigghcmbdnidnaaGqa
import Derived.Test.YtigghcmbdnidnaaGps
import Derived.Test.YtigghcmbdnidnaaGpv
namespace Go.Proofs.Ytigghcmbdnidnaa.Pa
set_option linter.unusedVariables false
set_option linter.unusedSimpArgs false
open Go.RowKit
open T S H
open V (grown_of drawn_below IntsIn)
open I (alloc1 own_at own_below)
open N (Ln PrIn)
open M (Lv)

theorem rpapply_any (A B : Option Addr) (c c' : Nat) (hs : List Hk) (a : List Ln) (w : World) (hH : HksIn 0 w A hs) (hok : HksOk hs) (hL : LinesIn w B a) (hc : a.length ≤ c') (hz : B = none → c' = 0) (ham : a.length ≤ maxLen) (hT : ∀ y ∈ sd 2 (whl hs a).1, y.1.length ≤ maxLen) :
    Calls Try.prog 11 #[.slice A hs.length c, .slice B a.length c'] w (RdEnd w (mde hs a).1 (prT (tld hs a)) (goT (tld hs a)) (maT (tld hs a)) (mde hs a).2) := by
  by_cases hq : (whl hs a).2 = 0
  · exact rpapply_good A B c c' hs a w hH hok hL hc hz ham hT hq
  · exact rpapply_bad A B c c' hs a w hH hok hL hc hz ham hq
/-- The reference's answer, in a box. -/
structure Bq (w : World) (X : Nat) (v0 v1 v2 v3 : Value) : Prop where
  h : w.heap[X]? = some (.cells #[v0, v1, v2, v3] 32 (0, 0))
theorem Bq.below {w w' : World} {X : Nat} {v0 v1 v2 v3 : Value} (h : Bq w X v0 v1 v2 v3) (hb : Below w.heap.size w w') : Bq w' X v0 v1 v2 v3 := ⟨(hb.block X (L.blk_lt h.h)).trans h.h⟩
theorem Bq.cells {w : World} {X : Nat} {v0 v1 v2 v3 : Value} (h : Bq w X v0 v1 v2 v3) : w.cell? ⟨X, 0, none⟩ = some v0 ∧ w.cell? ⟨X, 1, none⟩ = some v1 ∧ w.cell? ⟨X, 2, none⟩ = some v2 ∧ w.cell? ⟨X, 3, none⟩ = some v3 := ⟨L.blk_cell h.h 0, L.blk_cell h.h 1, L.blk_cell h.h 2, L.blk_cell h.h 3⟩
def PsC (l : List (Int × Int)) : Prop := ∀ (w : World) (A B : Option Addr) (c c' : Nat), PrIn w A l → PrIn w B l → Calls Try.prog 14 #[.slice A l.length c, .slice B l.length c'] w (TrEnd w)
theorem PsC.at {l : List (Int × Int)} (h : PsC l) {w : World} {A B : Option Addr} (c c' : Nat) (h1 : PrIn w A l) (h2 : PrIn w B l) : Calls Try.prog 14 #[.slice A l.length c, .slice B l.length c'] w (TrEnd w) := h w A B c c' h1 h2
def IsC (l : List Int) : Prop := ∀ (w : World) (A B : Option Addr) (c c' : Nat), IntsIn w A l → IntsIn w B l → Calls Try.prog 15 #[.slice A l.length c, .slice B l.length c'] w (TrEnd w)
theorem IsC.at {l : List Int} (h : IsC l) {w : World} {A B : Option Addr} (c c' : Nat) (h1 : IntsIn w A l) (h2 : IntsIn w B l) : Calls Try.prog 15 #[.slice A l.length c, .slice B l.length c'] w (TrEnd w) := h w A B c c' h1 h2
theorem c_psame {l : List (Int × Int)} (hl : l.length ≤ 1000000) : PsC l := fun w A B c c' h1 h2 => N.rsame_any A B c c' l w h1 h2 hl
theorem c_isame {l : List Int} (hl : l.length ≤ maxLen) : IsC l := fun w A B c c' h1 h2 => (V.rints_any A B c c' l l w hl h1 h2).mono fun e w' ⟨h, hb⟩ => ⟨by rw [h, decide_eq_true rfl], hb⟩
def RpC (hs : List Hk) (a b : List Ln) (ps : List (Int × Int)) (gs ms : List Int) (q : Int) : Prop := ∀ (w : World) (A B : Option Addr) (c c' : Nat), HksIn 0 w A hs → LinesIn w B a → a.length ≤ c' → (B = none → c' = 0) → Calls Try.prog 11 #[.slice A hs.length c, .slice B a.length c'] w (RdEnd w b ps gs ms q)
theorem RpC.at {hs : List Hk} {a b : List Ln} {ps : List (Int × Int)} {gs ms : List Int} {q : Int} (h : RpC hs a b ps gs ms q) {w : World} {A B : Option Addr} (c c' : Nat) (h1 : HksIn 0 w A hs) (h2 : LinesIn w B a) (h3 : a.length ≤ c') (h4 : B = none → c' = 0) : Calls Try.prog 11 #[.slice A hs.length c, .slice B a.length c'] w (RdEnd w b ps gs ms q) := h w A B c c' h1 h2 h3 h4
theorem mde_len (hs : List Hk) (a : List Ln) : (mde hs a).1.length ≤ 400 := by
  by_cases hq : (mde hs a).2 = 0
  · exact (mde_ok hq).2.2.1
  · rw [(mde_bad hq).1]; simp
set_option maxRecDepth 100000 in
set_option maxHeartbeats 4000000 in
theorem papplies_law {A B : Option Addr} {c c' : Nat} {hs : List Hk} {a : List Ln} {w : World} (hH : HksIn 0 w A hs) (hok : HksOk hs) (hcA : hs.length ≤ c) (hL : LinesIn w B a) (ha : a.length ≤ maxLen) (hca : a.length ≤ c') (hz : B = none → c' = 0) (hT : ∀ y ∈ sd 2 (whl (hs.take 20) a).1, y.1.length ≤ maxLen) :
    Calls Try.prog 3 #[.slice A hs.length c, .slice B a.length c'] w fun e w' => e = .returned (.bool true) ∧ Below w.heap.size w w' := by
  have HH0 := Lib.hid (hH.take 20)
  have HX0 := Lib.hid hL
  have HZ := Lib.hid hz
  have hmin : min (hs.length : Int) 20 = ((hs.take 20).length : Int) := by rw [List.length_take]; omega
  have hlt : (hs.take 20).length ≤ hs.length := List.length_take_le' _ _
  have hok2 : HksOk (hs.take 20) := ⟨by have := hok.len; omega, fun h hm => hok.es h (List.mem_of_mem_take hm)⟩
  have hln := hok.len
  have HAP := Lib.hid (c_papply hok2 ha hT)
  have HGO := Lib.hid (c_pgone hok2 ha hT)
  have HMA := Lib.hid (c_pmade hok2 ha hT)
  have HRP : Hid (RpC (hs.take 20) a (mde (hs.take 20) a).1 (prT (tld (hs.take 20) a)) (goT (tld (hs.take 20) a)) (maT (tld (hs.take 20) a)) (mde (hs.take 20) a).2) := Lib.hid (fun W A B c c' h1 h2 h3 h4 => rpapply_any A B c c' (hs.take 20) a W h1 hok2 h2 h3 h4 ha hT)
  have hTL := tld_len (hs.take 20) a
  have hlp := prT_len (tld (hs.take 20) a)
  have hlg := goT_len (tld (hs.take 20) a)
  have hlm := maT_len (tld (hs.take 20) a)
  have hlb := mde_len (hs.take 20) a
  have HSL := Lib.hid (c_lsame (l := (mde (hs.take 20) a).1) (by unfold maxLen; omega))
  have HSP := Lib.hid (c_psame (l := prT (tld (hs.take 20) a)) (by omega))
  have HSG := Lib.hid (c_isame (l := goT (tld (hs.take 20) a)) (by unfold maxLen; omega))
  have HSM := Lib.hid (c_isame (l := maT (tld (hs.take 20) a)) (by unfold maxLen; omega))
  generalize hs.take 20 = T at *
  obtain ⟨n, hn⟩ : ∃ n, n = hs.length := ⟨_, rfl⟩
  rw [← hn] at hmin hlt hln hcA ⊢
  have hTc : T.length ≤ c := by omega
  unfold maxLen at hln ha
  generalize (mde T a).1 = b at *
  generalize (mde T a).2 = q at *
  generalize prT (tld T a) = ps at *
  generalize goT (tld T a) = gs at *
  generalize maT (tld T a) = ms at *
  have hqq : (q == q) = true := by simp
  clear hok hH hL hT hok2 hn hz hTL hlp hlg hlm hlb
  have HB0 : Hid (Below w.heap.size w w) := Lib.hid (Below.refl _ _)
  go_enter Try.func3, Try.ntmps3
  go_wp2_with fail
  with_reducible refine (HAP.out.at c c' HH0.out HX0.out hca).mono ?_
  rintro e w1 ⟨BA, bc, PA, pc, rfl, hl, hp, hb⟩
  have HH_1 := Lib.hid (HH0.out.below hb)
  have HX_1 := Lib.hid (HX0.out.below hb)
  have HY_1 := Lib.hid hl
  have HP_1 := Lib.hid hp
  have HB1 := Lib.hid (HB0.out.trans (hb.mono HB0.out.size))
  clear hb HB0 HH0 HX0 hl hp
  go_wp2_with fail
  with_reducible refine (HGO.out.at c c' HH_1.out HX_1.out hca).mono ?_
  rintro e w2 ⟨GA, gc, rfl, hg, hb⟩
  have HH_2 := Lib.hid (HH_1.out.below hb)
  have HX_2 := Lib.hid (HX_1.out.below hb)
  have HY_2 := Lib.hid (HY_1.out.below hb)
  have HP_2 := Lib.hid (HP_1.out.below hb)
  have HG_2 := Lib.hid hg
  have HB2 := Lib.hid (HB1.out.trans (hb.mono HB1.out.size))
  clear hb HB1 HH_1 HX_1 HY_1 HP_1 hg
  go_wp2_with fail
  with_reducible refine (HMA.out.at c c' HH_2.out HX_2.out hca).mono ?_
  rintro e w3 ⟨MA, mc, rfl, hm, hb⟩
  have HH_3 := Lib.hid (HH_2.out.below hb)
  have HX_3 := Lib.hid (HX_2.out.below hb)
  have HY_3 := Lib.hid (HY_2.out.below hb)
  have HP_3 := Lib.hid (HP_2.out.below hb)
  have HG_3 := Lib.hid (HG_2.out.below hb)
  have HM_3 := Lib.hid hm
  have HB3 := Lib.hid (HB2.out.trans (hb.mono HB2.out.size))
  clear hb HB2 HH_2 HX_2 HY_2 HP_2 HG_2 hm
  go_wp2_with fail
  with_reducible refine (HRP.out.at c c' HH_3.out HX_3.out hca HZ.out).mono ?_
  rintro e w4 ⟨BA2, bc2, PA2, pc2, GA2, gc2, MA2, mc2, rfl, hl, hp, hg, hm, hb⟩
  have HH_4 := Lib.hid (HH_3.out.below hb)
  have HX_4 := Lib.hid (HX_3.out.below hb)
  have HY_4 := Lib.hid (HY_3.out.below hb)
  have HP_4 := Lib.hid (HP_3.out.below hb)
  have HG_4 := Lib.hid (HG_3.out.below hb)
  have HM_4 := Lib.hid (HM_3.out.below hb)
  have HY2_4 := Lib.hid hl
  have HP2_4 := Lib.hid hp
  have HG2_4 := Lib.hid hg
  have HM2_4 := Lib.hid hm
  have HB4 := Lib.hid (HB3.out.trans (hb.mono HB3.out.size))
  clear hb HB3 HH_3 HX_3 HY_3 HP_3 HG_3 HM_3 hl hp hg hm
  obtain ⟨W5, hW5⟩ : ∃ W : World, W = w4.alloc (.cells #[.slice BA2 b.length bc2, .slice PA2 ps.length pc2, .slice GA2 gs.length gc2, .slice MA2 ms.length mc2] 32) := ⟨_, rfl⟩
  have hb : Below w4.heap.size w4 W5 := by rw [hW5]; exact alloc1 _ _
  have HQ_5 : Hid (Bq W5 w4.heap.size (.slice BA2 b.length bc2) (.slice PA2 ps.length pc2) (.slice GA2 gs.length gc2) (.slice MA2 ms.length mc2)) := Lib.hid ⟨by rw [hW5]; exact heap_alloc_new w4 _⟩
  have HY_5 := Lib.hid (HY_4.out.below hb)
  have HP_5 := Lib.hid (HP_4.out.below hb)
  have HG_5 := Lib.hid (HG_4.out.below hb)
  have HM_5 := Lib.hid (HM_4.out.below hb)
  have HY2_5 := Lib.hid (HY2_4.out.below hb)
  have HP2_5 := Lib.hid (HP2_4.out.below hb)
  have HG2_5 := Lib.hid (HG2_4.out.below hb)
  have HM2_5 := Lib.hid (HM2_4.out.below hb)
  have HB5 := Lib.hid (HB4.out.trans (hb.mono HB4.out.size))
  obtain ⟨X, hX⟩ : ∃ X, X = w4.heap.size := ⟨_, rfl⟩
  rw [← hX] at HQ_5
  clear hb HB4 HH_4 HX_4 HY_4 HP_4 HG_4 HM_4 HY2_4 HP2_4 HG2_4 HM2_4 HAP HGO HMA HRP hmin hlt hln hTc hcA hca ha
  go_upto_region 6 with fail
  rw [← hX, ← hW5]
  generalize W5 = w5 at *
  clear hX hW5
  go_wp2_with fail
  with_reducible refine (live11.at _).mono ?_
  rintro e w6 ⟨rfl, hb⟩
  have HY_6 := Lib.hid (HY_5.out.below hb)
  have HP_6 := Lib.hid (HP_5.out.below hb)
  have HG_6 := Lib.hid (HG_5.out.below hb)
  have HM_6 := Lib.hid (HM_5.out.below hb)
  have HY2_6 := Lib.hid (HY2_5.out.below hb)
  have HP2_6 := Lib.hid (HP2_5.out.below hb)
  have HG2_6 := Lib.hid (HG2_5.out.below hb)
  have HM2_6 := Lib.hid (HM2_5.out.below hb)
  have HQ_6 := Lib.hid (HQ_5.out.below hb)
  have HB6 := Lib.hid (HB5.out.trans (hb.mono HB5.out.size))
  clear hb HB5 HY_5 HP_5 HG_5 HM_5 HY2_5 HP2_5 HG2_5 HM2_5 HQ_5
  obtain ⟨x0, x1, x2, x3⟩ := HQ_6.out.cells
  go_wp2_with fail
  with_reducible refine (HSL.out.at bc bc2 HY_6.out HY2_6.out).mono ?_
  rintro e w7 ⟨rfl, hb⟩
  have HY_7 := Lib.hid (HY_6.out.below hb)
  have HP_7 := Lib.hid (HP_6.out.below hb)
  have HG_7 := Lib.hid (HG_6.out.below hb)
  have HM_7 := Lib.hid (HM_6.out.below hb)
  have HY2_7 := Lib.hid (HY2_6.out.below hb)
  have HP2_7 := Lib.hid (HP2_6.out.below hb)
  have HG2_7 := Lib.hid (HG2_6.out.below hb)
  have HM2_7 := Lib.hid (HM2_6.out.below hb)
  have HQ_7 := Lib.hid (HQ_6.out.below hb)
  have HB7 := Lib.hid (HB6.out.trans (hb.mono HB6.out.size))
  clear hb HB6 HY_6 HP_6 HG_6 HM_6 HY2_6 HP2_6 HG2_6 HM2_6 HQ_6
  clear x0 x1 x2 x3
  obtain ⟨x0, x1, x2, x3⟩ := HQ_7.out.cells
  go_wp2_with fail
  with_reducible refine (HSP.out.at pc pc2 HP_7.out HP2_7.out).mono ?_
  rintro e w8 ⟨rfl, hb⟩
  have HY_8 := Lib.hid (HY_7.out.below hb)
  have HP_8 := Lib.hid (HP_7.out.below hb)
  have HG_8 := Lib.hid (HG_7.out.below hb)
  have HM_8 := Lib.hid (HM_7.out.below hb)
  have HY2_8 := Lib.hid (HY2_7.out.below hb)
  have HP2_8 := Lib.hid (HP2_7.out.below hb)
  have HG2_8 := Lib.hid (HG2_7.out.below hb)
  have HM2_8 := Lib.hid (HM2_7.out.below hb)
  have HQ_8 := Lib.hid (HQ_7.out.below hb)
  have HB8 := Lib.hid (HB7.out.trans (hb.mono HB7.out.size))
  clear hb HB7 HY_7 HP_7 HG_7 HM_7 HY2_7 HP2_7 HG2_7 HM2_7 HQ_7
  clear x0 x1 x2 x3
  obtain ⟨x0, x1, x2, x3⟩ := HQ_8.out.cells
  go_wp2_with fail
  with_reducible refine (HSG.out.at gc gc2 HG_8.out HG2_8.out).mono ?_
  rintro e w9 ⟨rfl, hb⟩
  have HY_9 := Lib.hid (HY_8.out.below hb)
  have HP_9 := Lib.hid (HP_8.out.below hb)
  have HG_9 := Lib.hid (HG_8.out.below hb)
  have HM_9 := Lib.hid (HM_8.out.below hb)
  have HY2_9 := Lib.hid (HY2_8.out.below hb)
  have HP2_9 := Lib.hid (HP2_8.out.below hb)
  have HG2_9 := Lib.hid (HG2_8.out.below hb)
  have HM2_9 := Lib.hid (HM2_8.out.below hb)
  have HQ_9 := Lib.hid (HQ_8.out.below hb)
  have HB9 := Lib.hid (HB8.out.trans (hb.mono HB8.out.size))
  clear hb HB8 HY_8 HP_8 HG_8 HM_8 HY2_8 HP2_8 HG2_8 HM2_8 HQ_8
  clear x0 x1 x2 x3
  obtain ⟨x0, x1, x2, x3⟩ := HQ_9.out.cells
  go_wp2_with fail
  with_reducible refine (HSM.out.at mc mc2 HM_9.out HM2_9.out).mono ?_
  rintro e w10 ⟨rfl, hb⟩
  have HY_10 := Lib.hid (HY_9.out.below hb)
  have HP_10 := Lib.hid (HP_9.out.below hb)
  have HG_10 := Lib.hid (HG_9.out.below hb)
  have HM_10 := Lib.hid (HM_9.out.below hb)
  have HY2_10 := Lib.hid (HY2_9.out.below hb)
  have HP2_10 := Lib.hid (HP2_9.out.below hb)
  have HG2_10 := Lib.hid (HG2_9.out.below hb)
  have HM2_10 := Lib.hid (HM2_9.out.below hb)
  have HQ_10 := Lib.hid (HQ_9.out.below hb)
  have HB10 := Lib.hid (HB9.out.trans (hb.mono HB9.out.size))
  clear hb HB9 HY_9 HP_9 HG_9 HM_9 HY2_9 HP2_9 HG2_9 HM2_9 HQ_9
  clear x0 x1 x2 x3
  obtain ⟨x0, x1, x2, x3⟩ := HQ_10.out.cells
  go_wp2_with fail
  go_ret
  exact ⟨rfl, HB10.out⟩
end Go.Proofs.Ytigghcmbdnidnaa.Pa
