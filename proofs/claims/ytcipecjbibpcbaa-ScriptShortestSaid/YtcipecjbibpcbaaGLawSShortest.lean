/-
  The law ScriptShortest.
-/
import Derived.Test.YtcipecjbibpcbaaGsh
namespace Go.Proofs.Ytcipecjbibpcbaa.S
set_option linter.unusedVariables false
set_option linter.unusedSimpArgs false
open Go.RowKit
open T
open V (grown_of IntsIn numCells numCells_snoc ints_own drawn_below)
open I (alloc1 own_at own_below)
open N (Ln)
open M (Lv)

/-- Both sides and an error, with what room they have. -/
def RcEnd (w : World) (b a : List Ln) (e0 : Int) (e : Ending) (w' : World) : Prop :=
  ∃ A ca B cb, e = .returned (.tuple #[.slice A b.length ca, .slice B a.length cb, .int .i64 e0]) ∧ LinesIn w' A b ∧ LinesIn w' B a ∧ b.length ≤ ca ∧ a.length ≤ cb ∧ Below w.heap.size w w'
theorem sides_room (A : Option Addr) (c : Nat) (es : List Ed) (w : World) (hE : EdsIn 0 w A es) (hok : EdsOk es) :
    Calls Try.prog 19 #[.slice A es.length c] w (RcEnd w (sides es).1 (sides es).2 (ck es)) := by
  have read : ∀ {r1 r2 : List Ln} {e0 : Int} {e : Ending} {w' : World}, SsEnd w r1 r2 e0 e w' → RcEnd w r1 r2 e0 e w' := fun h => by
    obtain ⟨XA, xc, YA, yc, h1, h2⟩ := h
    obtain ⟨_, _, q1, q2, -⟩ := own_form h2.o
    obtain ⟨_, _, q3, q4, -⟩ := own_form h2.i
    injection q1 with _ _ q1
    injection q3 with _ _ q3
    subst q1 q3
    exact ⟨XA, xc, YA, yc, h1, h2.lo rfl, h2.turn.lo rfl, q2, q4, h2.b⟩
  unfold sides
  by_cases hc : ck es = 0
  · rw [if_pos hc, hc]; exact (sides_good A c 0 es w hE hok hc).mono fun _ _ h => read h
  · rw [if_neg hc]; exact (sides_bad A c 0 es w hE hok hc).mono fun _ _ h => read h
theorem sd_mem {but : Int} {es : List Ed} {P : Ln → Prop} (h : ∀ e ∈ es, ∀ y ∈ e.2, P y) : ∀ y ∈ sd but es, P y := fun y hy => by
  simp only [sd, List.mem_flatMap] at hy
  obtain ⟨e, he, hy⟩ := hy
  split at hy
  · simp at hy
  · exact h e he y hy
set_option maxRecDepth 100000 in
set_option maxHeartbeats 4000000 in
theorem sshortest_law {A : Option Addr} {c : Nat} {es : List Ed} {w : World} (hE : EdsIn 0 w A es) (hok : EdsOk es) (htx : ∀ e ∈ es, ∀ y ∈ e.2, y.1.length ≤ maxLen) :
    Calls Try.prog 5 #[.slice A es.length c] w fun e w' => e = .returned (.bool true) ∧ Below w.heap.size w w' := by
  by_cases hc : ck es = 0
  · by_cases hx40 : 40 < (sd 3 es).length
    · skip
      have HE := Lib.hid hE
      have HS := Lib.hid (fun (W : World) (h : EdsIn 0 W A es) => sides_room A c es W h hok)
      have HRK := Lib.hid (c_rcheck hok)
      have HV := Lib.hid live8
      have hz : sides es = (sd 3 es, sd 2 es) := by unfold sides; rw [if_pos hc]
      rw [hz, hc] at HS
      rw [hc] at HRK
      clear hz
      simp only at HS
      clear hE hok htx hc
      generalize sd 3 es = x at *
      generalize sd 2 es = y at *
      have hd : decide ((40 : Int) < (x.length : Int)) = true := decide_eq_true (by omega)
      have hd2 : decide (40 < x.length) = true := decide_eq_true hx40
      have hqq : ((0 : Int) == 0) = true := rfl
      have HB0 : Hid (Below w.heap.size w w) := Lib.hid (Below.refl _ _)
      go_enter Try.func5, Try.ntmps5
      go_wp2_with fail
      with_reducible refine (HS.out _ HE.out).mono ?_
      rintro e w1 ⟨A1, c1, B1, d1, rfl, hx, hy, hk1, hk2, hb⟩
      have HE_1 := Lib.hid (HE.out.below hb)
      have HX_1 := Lib.hid hx
      have HY_1 := Lib.hid hy
      have HB1 := Lib.hid (HB0.out.trans (hb.mono HB0.out.size))
      clear hb HB0 HE hx hy
      go_wp2_with fail
      with_reducible refine (HV.out.at _).mono ?_
      rintro e w2 ⟨rfl, hb⟩
      have HE_2 := Lib.hid (HE_1.out.below hb)
      have HX_2 := Lib.hid (HX_1.out.below hb)
      have HY_2 := Lib.hid (HY_1.out.below hb)
      have HB2 := Lib.hid (HB1.out.trans (hb.mono HB1.out.size))
      clear hb HB1 HE_1 HX_1 HY_1
      go_wp2_with fail
      with_reducible refine (HRK.out.at c HE_2.out).mono ?_
      rintro e w3 ⟨rfl, hb⟩
      have HE_3 := Lib.hid (HE_2.out.below hb)
      have HX_3 := Lib.hid (HX_2.out.below hb)
      have HY_3 := Lib.hid (HY_2.out.below hb)
      have HB3 := Lib.hid (HB2.out.trans (hb.mono HB2.out.size))
      clear hb HB2 HE_2 HX_2 HY_2
      go_wp2_with fail
      go_ret
      exact ⟨rfl, HB3.out⟩
    · by_cases hy40 : 40 < (sd 2 es).length
      · skip
        have HE := Lib.hid hE
        have HS := Lib.hid (fun (W : World) (h : EdsIn 0 W A es) => sides_room A c es W h hok)
        have HRK := Lib.hid (c_rcheck hok)
        have HV := Lib.hid live8
        have hz : sides es = (sd 3 es, sd 2 es) := by unfold sides; rw [if_pos hc]
        rw [hz, hc] at HS
        rw [hc] at HRK
        clear hz
        simp only at HS
        clear hE hok htx hc
        generalize sd 3 es = x at *
        generalize sd 2 es = y at *
        have hd : decide ((40 : Int) < (x.length : Int)) = false := decide_eq_false (by omega)
        have hd2 : decide (40 < x.length) = false := decide_eq_false hx40
        have hd3 : decide ((40 : Int) < (y.length : Int)) = true := decide_eq_true (by omega)
        have hd4 : decide (40 < y.length) = true := decide_eq_true hy40
        have hqq : ((0 : Int) == 0) = true := rfl
        have HB0 : Hid (Below w.heap.size w w) := Lib.hid (Below.refl _ _)
        go_enter Try.func5, Try.ntmps5
        go_wp2_with fail
        with_reducible refine (HS.out _ HE.out).mono ?_
        rintro e w1 ⟨A1, c1, B1, d1, rfl, hx, hy, hk1, hk2, hb⟩
        have HE_1 := Lib.hid (HE.out.below hb)
        have HX_1 := Lib.hid hx
        have HY_1 := Lib.hid hy
        have HB1 := Lib.hid (HB0.out.trans (hb.mono HB0.out.size))
        clear hb HB0 HE hx hy
        go_wp2_with fail
        with_reducible refine (HV.out.at _).mono ?_
        rintro e w2 ⟨rfl, hb⟩
        have HE_2 := Lib.hid (HE_1.out.below hb)
        have HX_2 := Lib.hid (HX_1.out.below hb)
        have HY_2 := Lib.hid (HY_1.out.below hb)
        have HB2 := Lib.hid (HB1.out.trans (hb.mono HB1.out.size))
        clear hb HB1 HE_1 HX_1 HY_1
        go_wp2_with fail
        with_reducible refine (HRK.out.at c HE_2.out).mono ?_
        rintro e w3 ⟨rfl, hb⟩
        have HE_3 := Lib.hid (HE_2.out.below hb)
        have HX_3 := Lib.hid (HX_2.out.below hb)
        have HY_3 := Lib.hid (HY_2.out.below hb)
        have HB3 := Lib.hid (HB2.out.trans (hb.mono HB2.out.size))
        clear hb HB2 HE_2 HX_2 HY_2
        go_wp2_with fail
        go_ret
        exact ⟨rfl, HB3.out⟩
      · skip
        have HE := Lib.hid hE
        have HS := Lib.hid (fun (W : World) (h : EdsIn 0 W A es) => sides_room A c es W h hok)
        have HG := Lib.hid (c_changed hok)
        have HV := Lib.hid live8
        have hz : sides es = (sd 3 es, sd 2 es) := by unfold sides; rw [if_pos hc]
        rw [hz, hc] at HS
        clear hz
        simp only at HS
        have htl := (ck_ok hc).2.1
        have hgd : Good3 es := (ck_ok hc).2.2
        have HTX : Hid (∀ y ∈ sd 3 es, y.1.length ≤ maxLen) := Lib.hid (sd_mem htx)
        have HTY : Hid (∀ y ∈ sd 2 es, y.1.length ≤ maxLen) := Lib.hid (sd_mem htx)
        have hmc := mkE_ck (a := sd 3 es) (b := sd 2 es) (by omega) (by omega)
        have hle := mkE_least hgd
        rw [← norm_chg hmc] at hle
        have hu : chg (norm (mkE (sd 3 es) (sd 2 es))) = (chgN (norm (mkE (sd 3 es) (sd 2 es))) : Nat) := chg_small (by have := (ck_ok (norm_ok hmc).1).2.1; omega)
        have hv : chg es = (chgN es : Nat) := chg_small (by omega)
        have HGN := Lib.hid (c_changed (EdsOk.of_ck (norm_ok hmc).1))
        rw [hu] at HGN
        rw [hv] at HG
        clear hE hok htx hc htl hgd hmc hu hv
        generalize chgN (norm (mkE (sd 3 es) (sd 2 es))) = u at *
        generalize chgN es = v at *
        generalize sd 3 es = x at *
        generalize sd 2 es = y at *
        have HM : Hid (∀ W (X Y : Option Addr) (cx cy : Nat), LinesIn W X x → LinesIn W Y y → x.length ≤ cx → y.length ≤ cy → Calls Try.prog 12 #[.slice X x.length cx, .slice Y y.length cy] W (RnEnd W (norm (mkE x y)) 0)) := Lib.hid (fun W X Y cx cy g1 g2 g3 g4 => (make_any X Y x y cx cy W g1 g2 (by omega) (by omega) g3 g4 HTX.out HTY.out).mono fun _ _ h => h.read)
        generalize norm (mkE x y) = n at *
        have hd : decide ((40 : Int) < (x.length : Int)) = false := decide_eq_false (by omega)
        have hd2 : decide (40 < x.length) = false := decide_eq_false hx40
        have hd3 : decide ((40 : Int) < (y.length : Int)) = false := decide_eq_false (by omega)
        have hd4 : decide (40 < y.length) = false := decide_eq_false hy40
        have hl1 : decide ((u : Int) ≤ (v : Int)) = true := decide_eq_true (by omega)
        have hl2 : decide (u ≤ v) = true := decide_eq_true hle
        have HB0 : Hid (Below w.heap.size w w) := Lib.hid (Below.refl _ _)
        go_enter Try.func5, Try.ntmps5
        go_wp2_with fail
        with_reducible refine (HS.out _ HE.out).mono ?_
        rintro e w1 ⟨A1, c1, B1, d1, rfl, hx, hy, hk1, hk2, hb⟩
        have HE_1 := Lib.hid (HE.out.below hb)
        have HX_1 := Lib.hid hx
        have HY_1 := Lib.hid hy
        have HB1 := Lib.hid (HB0.out.trans (hb.mono HB0.out.size))
        clear hb HB0 HE hx hy
        go_wp2_with fail
        with_reducible refine (HM.out _ _ _ _ _ HX_1.out HY_1.out hk1 hk2).mono ?_
        rintro e w2 ⟨A2, c2, rfl, he, hb⟩
        have HE_2 := Lib.hid (HE_1.out.below hb)
        have HX_2 := Lib.hid (HX_1.out.below hb)
        have HY_2 := Lib.hid (HY_1.out.below hb)
        have HN_2 := Lib.hid he
        have HB2 := Lib.hid (HB1.out.trans (hb.mono HB1.out.size))
        clear hb HB1 HE_1 HX_1 HY_1 he
        go_wp2_with fail
        with_reducible refine (HV.out.at _).mono ?_
        rintro e w3 ⟨rfl, hb⟩
        have HE_3 := Lib.hid (HE_2.out.below hb)
        have HX_3 := Lib.hid (HX_2.out.below hb)
        have HY_3 := Lib.hid (HY_2.out.below hb)
        have HN_3 := Lib.hid (HN_2.out.below hb)
        have HB3 := Lib.hid (HB2.out.trans (hb.mono HB2.out.size))
        clear hb HB2 HE_2 HX_2 HY_2 HN_2
        go_wp2_with fail
        with_reducible refine (HGN.out.at c2 HN_3.out).mono ?_
        rintro e w4 ⟨rfl, hb⟩
        have HE_4 := Lib.hid (HE_3.out.below hb)
        have HX_4 := Lib.hid (HX_3.out.below hb)
        have HY_4 := Lib.hid (HY_3.out.below hb)
        have HN_4 := Lib.hid (HN_3.out.below hb)
        have HB4 := Lib.hid (HB3.out.trans (hb.mono HB3.out.size))
        clear hb HB3 HE_3 HX_3 HY_3 HN_3
        go_wp2_with fail
        with_reducible refine (HG.out.at c HE_4.out).mono ?_
        rintro e w5 ⟨rfl, hb⟩
        have HE_5 := Lib.hid (HE_4.out.below hb)
        have HX_5 := Lib.hid (HX_4.out.below hb)
        have HY_5 := Lib.hid (HY_4.out.below hb)
        have HN_5 := Lib.hid (HN_4.out.below hb)
        have HB5 := Lib.hid (HB4.out.trans (hb.mono HB4.out.size))
        clear hb HB4 HE_4 HX_4 HY_4 HN_4
        go_wp2_with fail
        go_ret
        exact ⟨rfl, HB5.out⟩
  · skip
    have HE := Lib.hid hE
    have HS := Lib.hid (fun (W : World) (h : EdsIn 0 W A es) => sides_room A c es W h hok)
    have HRK := Lib.hid (c_rcheck hok)
    have HV := Lib.hid live8
    clear hE hok htx
    generalize (sides es).1 = x at *
    generalize (sides es).2 = y at *
    generalize ck es = q at *
    have h0 : (q == 0) = false := beq_eq_false_iff_ne.2 hc
    have h1 : (q != 0) = true := by simp [bne, h0]
    have hqq : (q == q) = true := by simp
    clear hc
    have HB0 : Hid (Below w.heap.size w w) := Lib.hid (Below.refl _ _)
    go_enter Try.func5, Try.ntmps5
    go_wp2_with fail
    with_reducible refine (HS.out _ HE.out).mono ?_
    rintro e w1 ⟨A1, c1, B1, d1, rfl, hx, hy, hk1, hk2, hb⟩
    have HE_1 := Lib.hid (HE.out.below hb)
    have HX_1 := Lib.hid hx
    have HY_1 := Lib.hid hy
    have HB1 := Lib.hid (HB0.out.trans (hb.mono HB0.out.size))
    clear hb HB0 HE hx hy
    go_wp2_with fail
    with_reducible refine (HV.out.at _).mono ?_
    rintro e w2 ⟨rfl, hb⟩
    have HE_2 := Lib.hid (HE_1.out.below hb)
    have HX_2 := Lib.hid (HX_1.out.below hb)
    have HY_2 := Lib.hid (HY_1.out.below hb)
    have HB2 := Lib.hid (HB1.out.trans (hb.mono HB1.out.size))
    clear hb HB1 HE_1 HX_1 HY_1
    go_wp2_with fail
    with_reducible refine (HRK.out.at c HE_2.out).mono ?_
    rintro e w3 ⟨rfl, hb⟩
    have HE_3 := Lib.hid (HE_2.out.below hb)
    have HX_3 := Lib.hid (HX_2.out.below hb)
    have HY_3 := Lib.hid (HY_2.out.below hb)
    have HB3 := Lib.hid (HB2.out.trans (hb.mono HB2.out.size))
    clear hb HB2 HE_2 HX_2 HY_2
    go_wp2_with fail
    go_ret
    exact ⟨rfl, HB3.out⟩
end Go.Proofs.Ytcipecjbibpcbaa.S
