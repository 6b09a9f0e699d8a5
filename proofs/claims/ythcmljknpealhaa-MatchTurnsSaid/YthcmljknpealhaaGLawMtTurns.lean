/-
  The law MatchTurns.
-/
import Derived.Test.YthcmljknpealhaaGcg
import Derived.BigQuiet
namespace Go.Proofs.Ythcmljknpealhaa.Mt
set_option linter.unusedVariables false
set_option linter.unusedSimpArgs false
open Go.RowKit
open T
open N (PrIn PrIn.below)
open V (drawn_below IntsIn)
open I (alloc1 own_at own_below)

/-- What the law asks of gaps and of gaps the other way round, and of places. -/
structure TuF (p : List Pr) (n m : Int) (gs hs : List Gp) : Prop where
  g : gaps p n m = gs
  h : gaps (inv p) m n = hs
  len : hs.length = gs.length
  at_ : ∀ j (h1 : j < gs.length) (h2 : j < hs.length), hs[j] = gs[j].turn
theorem tuF {p : List Pr} {n m : Int} (h : Rt p n m) : TuF p n m (gaps p n m) (gaps (inv p) m n) := by
  refine ⟨rfl, rfl, by rw [gaps_turn h, List.length_map], fun j h1 h2 => ?_⟩
  simp only [gaps_turn h, List.getElem_map]
def GsC (p : List Pr) (n m : Int) (gs : List Gp) : Prop := ∀ (w : World) (A : Option Addr) (c : Nat), PrIn w A p → Calls Try.prog 16 #[.slice A p.length c, .int .i64 n, .int .i64 m] w (GsEnd w gs)
theorem GsC.at {p : List Pr} {n m : Int} {gs : List Gp} (h : GsC p n m gs) {w : World} {A : Option Addr} (c : Nat) (hA : PrIn w A p) : Calls Try.prog 16 #[.slice A p.length c, .int .i64 n, .int .i64 m] w (GsEnd w gs) := h w A c hA
theorem c_gaps {p : List Pr} {n m : Int} (hp : p.length ≤ 900000) (hn : n ≤ 1000000) (hm : m ≤ 1000000) : GsC p n m (gaps p n m) := fun w A c hA => gaps_any A c p n m w hA hp hn hm
def ToC (p : List Pr) (i k : Int) : Prop := ∀ (w : World) (A : Option Addr) (c : Nat), PrIn w A p → Calls Try.prog 17 #[.slice A p.length c, .int .i64 i] w fun e w' => e = .returned (.tuple #[.int .i64 k, .bool true]) ∧ Below w.heap.size w w'
theorem ToC.at {p : List Pr} {i k : Int} (h : ToC p i k) {w : World} {A : Option Addr} (c : Nat) (hA : PrIn w A p) : Calls Try.prog 17 #[.slice A p.length c, .int .i64 i] w fun e w' => e = .returned (.tuple #[.int .i64 k, .bool true]) ∧ Below w.heap.size w w' := h w A c hA
theorem c_to {p : List Pr} {i k : Int} (hp : p.length ≤ 1000000) (h : fnd p i = some k) : ToC p i k := fun w A c hA => (to_any A c p i w hA (by unfold maxLen; omega)).mono fun _ _ g => ⟨by rw [g.1, h]; rfl, g.2⟩

set_option maxRecDepth 100000 in
set_option maxHeartbeats 8000000 in
theorem mturns_walk {A : Option Addr} {c n0 : Nat} {p : List Pr} {n m : Int} (w : World) (hn : -128 ≤ n ∧ n ≤ 127) (hm : -128 ≤ m ∧ m ≤ 127) (hl : p.length ≤ 40)
    (HF0 : Hid (Calls Try.prog 6 #[.slice A n0 c] w fun e w' => e = .returned (.slice A p.length c) ∧ w = w')) (hP : PrIn w A p) :
    Calls Try.prog 5 #[.slice A n0 c, .int .i8 n, .int .i8 m] w fun e w' => e = .returned (.bool true) ∧ Below w.heap.size w w' := by
  have HP := Lib.hid hP
  have HRR := Lib.hid (c_rright (p := p) n m (by omega))
  have hcn : IntKind.i64.wrap n = n := by rw [IntKind.wrap_i64]; omega
  have hcm : IntKind.i64.wrap m = m := by rw [IntKind.wrap_i64]; omega
  clear hP
  cases hr : right p n m with
  | false =>
    rw [hr] at HRR
    clear hr
    go_enter Try.func5, Try.ntmps5
    go_wp2_with fail
    with_reducible refine HF0.out.mono ?_
    rintro e w1 ⟨rfl, rfl⟩
    go_wp2_with fail
    with_reducible refine (HRR.out.at c HP.out).mono ?_
    rintro e w2 ⟨rfl, hb2⟩
    go_wp2_with fail
    with_reducible refine (live12.at w2).mono ?_
    rintro e w3 ⟨rfl, hb3⟩
    go_wp2_with fail
    go_ret
    exact ⟨rfl, hb2.trans (hb3.mono hb2.size)⟩
  | true =>
    have HRT := Lib.hid (right_iff.1 hr)
    rw [hr] at HRR
    clear hr
    by_cases hn0 : n < 0
    · go_enter Try.func5, Try.ntmps5
      go_wp2_with fail
      with_reducible refine HF0.out.mono ?_
      rintro e w1 ⟨rfl, rfl⟩
      go_wp2_with fail
      with_reducible refine (HRR.out.at c HP.out).mono ?_
      rintro e w2 ⟨rfl, hb2⟩
      go_wp2_with fail
      with_reducible refine (live12.at w2).mono ?_
      rintro e w3 ⟨rfl, hb3⟩
      go_wp2_with fail
      go_ret
      exact ⟨rfl, hb2.trans (hb3.mono hb2.size)⟩
    · by_cases hm0 : m < 0
      · go_enter Try.func5, Try.ntmps5
        go_wp2_with fail
        with_reducible refine HF0.out.mono ?_
        rintro e w1 ⟨rfl, rfl⟩
        go_wp2_with fail
        with_reducible refine (HRR.out.at c HP.out).mono ?_
        rintro e w2 ⟨rfl, hb2⟩
        go_wp2_with fail
        with_reducible refine (live12.at w2).mono ?_
        rintro e w3 ⟨rfl, hb3⟩
        go_wp2_with fail
        go_ret
        exact ⟨rfl, hb2.trans (hb3.mono hb2.size)⟩
      · obtain ⟨gs, hs, HG1, HG2, HTF⟩ : ∃ gs hs, Hid (GsC p n m gs) ∧ Hid (GsC (inv p) m n hs) ∧ Hid (gs.length = hs.length ∧ gs.length ≤ 41 ∧ ∀ j (h1 : j < gs.length) (h2 : j < hs.length), hs[j] = gs[j].turn) :=
          ⟨_, _, Lib.hid (c_gaps (by omega) (by omega) (by omega)), Lib.hid (c_gaps (by rw [inv_len]; omega) (by omega) (by omega)), Lib.hid ⟨(tuF HRT.out).len.symm, by have := gaps_len p n m; omega, (tuF HRT.out).at_⟩⟩
        have HNV := Lib.hid (c_inv (p := p) (by omega))
        obtain ⟨hgh, hg41, -⟩ := HTF.out
        obtain ⟨L, hL⟩ : ∃ L, L = gs.length := ⟨_, rfl⟩
        have hLh : hs.length = L := by omega
        have HLL := Lib.hid (And.intro hL hLh)
        have hL41 : L ≤ 41 := by omega
        clear hgh hg41
        go_enter Try.func5, Try.ntmps5
        go_wp2_with fail
        with_reducible refine HF0.out.mono ?_
        rintro e w1 ⟨rfl, rfl⟩
        go_wp2_with fail
        with_reducible refine (HRR.out.at c HP.out).mono ?_
        rintro e w2 ⟨rfl, hb2⟩
        have HB2 := Lib.hid hb2
        replace HP := Lib.hid (HP.out.below hb2)
        clear hb2
        go_wp2_with fail
        with_reducible refine (HG1.out.at c HP.out).mono ?_
        rintro e w3 ⟨G, gc, rfl, hg3, hb3⟩
        have HB3 := Lib.hid (HB2.out.trans (hb3.mono HB2.out.size))
        replace HP := Lib.hid (HP.out.below hb3)
        have HGA := Lib.hid hg3
        clear hb3 hg3 HB2
        go_wp2_with fail
        with_reducible refine (HNV.out.at c HP.out).mono ?_
        rintro e w4 ⟨I4, ic, rfl, hi4, hb4⟩
        have HB4 := Lib.hid (HB3.out.trans (hb4.mono HB3.out.size))
        replace HP := Lib.hid (HP.out.below hb4)
        replace HGA := Lib.hid (HGA.out.below hb4)
        have HI4 := Lib.hid hi4
        clear hb4 hi4 HB3
        go_wp2_with fail
        with_reducible refine (HG2.out.at ic HI4.out).mono ?_
        rintro e w5 ⟨H, hc, rfl, hg5, hb5⟩
        have HB5 := Lib.hid (HB4.out.trans (hb5.mono HB4.out.size))
        replace HP := Lib.hid (HP.out.below hb5)
        replace HGA := Lib.hid (HGA.out.below hb5)
        have HGB := Lib.hid hg5
        clear hb5 hg5 HB4 HI4 HG1 HG2
        rw [← hL, hLh]
        clear hL hLh
        have hne : ((L : Int) != (L : Int)) = false := by simp
        go_wp2_with fail
        go_loopg [9] L (fun q iv wx => ∃ k : Nat, k ≤ L ∧ iv = .int .i64 k ∧ L - k ≤ q ∧ ∃ d, wx = w5.drewN d)
        case atStart => exact ⟨0, Nat.zero_le _, rfl, by omega, 0, rfl⟩
        case round =>
          obtain ⟨k, hk, rfl, hmm, d, rfl⟩ := hrel
          by_cases hlt : k < L
          · have hk1 : k < gs.length := by have := HLL.out.1; omega
            have hk2 : k < hs.length := by have := HLL.out.2; omega
            obtain ⟨b1, hGe, hb1, hI1⟩ := HGA.out (by omega)
            subst hGe
            obtain ⟨b2, hHe, hb2, hI2⟩ := HGB.out (by omega)
            subst hHe
            obtain ⟨a0, a1, a2, a3⟩ := hI1 k hk1
            obtain ⟨e0, e1, e2, e3⟩ := hI2 k hk2
            rw [HTF.out.2.2 k hk1 hk2] at e0 e1 e2 e3
            have h0k : (0 : Int) ≤ (k : Int) := by omega
            have hki : (k : Int) < (L : Int) := by omega
            clear hI1 hI2
            generalize gs[k] = g at *
            obtain ⟨ga, gn, gb, gm⟩ := g
            simp only [Gp.turn] at a0 a1 a2 a3 e0 e1 e2 e3
            have z0 : (ga != ga) = false := by simp
            have z1 : (gn != gn) = false := by simp
            have z2 : (gb != gb) = false := by simp
            have z3 : (gm != gm) = false := by simp
            go_wp2_with fail
            go_quiet (fail)
            go_wp2_with fail
            go_roundg (L - (k + 1))
            case rel => exact ⟨k + 1, by omega, by go_num, Nat.le_refl _, _, rfl⟩
            case measure => omega
          · obtain rfl : k = L := by omega
            have HB6 := Lib.hid (HB5.out.trans ((drawn_below w5 d).mono HB5.out.size))
            replace HP := Lib.hid (HP.out.below (drawn_below w5 d))
            obtain ⟨w6, hw6⟩ : ∃ W, W = w5.drewN d := ⟨_, rfl⟩
            rw [← hw6] at HB6 HP ⊢
            clear hw6 HGA HGB HTF HB5
            go_wp2_with fail
            go_loopg [10, 11, 12, 13, 14] p.length (fun q iv _ _ _ _ wx => ∃ k : Nat, k ≤ p.length ∧ iv = .int .i64 k ∧ p.length - k ≤ q ∧ Below w6.heap.size w6 wx)
            case atStart => exact ⟨0, Nat.zero_le _, rfl, by omega, Below.refl _ _⟩
            case round =>
              obtain ⟨i, hi, rfl, hmm, hbr⟩ := hrel
              by_cases hlt : i < p.length
              · obtain ⟨bk, off, hAe, hbk, hI⟩ := HP.out (by omega)
                have HPA := Lib.hid (HP.out.below hbr)
                subst hAe
                obtain ⟨q0, q1⟩ := hI i hlt
                have c0 := (hbr.cell (p := ⟨bk, off + i * 2, none⟩) hbk).trans q0
                have HT1 := Lib.hid (c_to (p := p) (by omega) (HRT.out.at hlt))
                have HT2 := Lib.hid (c_to (p := inv p) (by rw [inv_len]; omega) (HRT.out.back hlt))
                have Q0 := Lib.hid q0
                have Q1 := Lib.hid q1
                have h0k : (0 : Int) ≤ (i : Int) := by omega
                have hki : (i : Int) < (p.length : Int) := by omega
                have HBR := Lib.hid hbr
                clear hI q0 q1 hbr
                generalize p[i].1 = p0 at *
                generalize p[i].2 = p1 at *
                go_wp2_with fail
                with_reducible refine (HT1.out.at c HPA.out).mono ?_
                rintro e w7 ⟨rfl, hb7⟩
                have HB7 := Lib.hid (HBR.out.trans (hb7.mono HBR.out.size))
                replace HPA := Lib.hid (HPA.out.below hb7)
                clear hb7 HT1 c0
                go_wp2_with fail
                with_reducible refine (HNV.out.at c HPA.out).mono ?_
                rintro e w8 ⟨I8, ic8, rfl, hi8, hb8⟩
                have HB8 := Lib.hid (HB7.out.trans (hb8.mono HB7.out.size))
                have HI8 := Lib.hid hi8
                clear hb8 hi8 HB7 HPA
                go_wp2_with fail
                with_reducible refine (HT2.out.at ic8 HI8.out).mono ?_
                rintro e w9 ⟨rfl, hb9⟩
                have HB9 := Lib.hid (HB8.out.trans (hb9.mono HB8.out.size))
                have d0 := (HB9.out.cell (p := ⟨bk, off + i * 2, none⟩) hbk).trans Q0.out
                have d1 := (HB9.out.cell (p := ⟨bk, off + i * 2 + 1, none⟩) hbk).trans Q1.out
                have z0 : (p0 != p0) = false := by simp
                have z1 : (p1 != p1) = false := by simp
                clear hb9 HB8 HI8 HT2
                go_wp2_with fail
                go_roundg (p.length - (i + 1))
                case rel => exact ⟨i + 1, by omega, by go_num, Nat.le_refl _, HB9.out⟩
                case measure => omega
              · obtain rfl : i = p.length := by omega
                have HB7 := Lib.hid (HB6.out.trans (hbr.mono HB6.out.size))
                clear hbr HB6
                go_wp2_with fail
                with_reducible refine (live12.at wr).mono ?_
                rintro e w8 ⟨rfl, hb8⟩
                go_wp2_with fail
                go_ret
                exact ⟨rfl, HB7.out.trans (hb8.mono HB7.out.size)⟩
theorem mturns_law {A : Option Addr} {c : Nat} {p : List Pr} {n m : Int} {w : World} (hP : PrIn w A p) (m0 : p.length ≤ maxLen) (d0 : p.length ≤ c) (hn : -128 ≤ n ∧ n ≤ 127) (hm : -128 ≤ m ∧ m ≤ 127) :
    Calls Try.prog 5 #[.slice A p.length c, .int .i8 n, .int .i8 m] w fun e w' => e = .returned (.bool true) ∧ Below w.heap.size w w' :=
  mturns_walk (p := p.take 40) w hn hm (by rw [List.length_take]; omega) (Lib.hid (few_any A p c w m0 d0)) (pr_take hP 40)
end Go.Proofs.Ythcmljknpealhaa.Mt
