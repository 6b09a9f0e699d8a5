/-
  The law ItemAgain, walked: it returns true for every text, policy and floor, where the library's table of powers of ten holds what its text lays.
-/
import Derived.Test.YtadhhamfikpimaaDoorGij
import Derived.Test.YtadhhamfikpimaaDoorGLawItOwn
namespace Go.Proofs.YtadhhamfikpimaaDoor.I
set_option linter.unusedVariables false
set_option linter.unusedSimpArgs false
open Go.RowKit
open T
open O (own_ne grown_of grown_set ne_type)

set_option maxRecDepth 100000 in
set_option maxHeartbeats 4000000 in
theorem iagain_walk (q0 q1 q2 q3 q4 q5 : Int) (qh : ByteArray) (uA fA : Option Addr) (un uc fn fc : Nat) (A0 : Option Addr) (cap0 : Nat) (l : List UInt8) (fl : Lb) (hfl : fl.2 < 18446744073709551616) (w : World) (hA : BytesIn w A0 l) (hc : l.length ≤ cap0) (hn : l.length ≤ maxLen) (hT : Tab w) :
    Calls Tryd.prog 9 #[.slice A0 l.length cap0, .agg #[.int .i64 q0, .int .i64 q1, .int .i64 q2, .int .i64 q3, .int .i64 q4, .int .i64 q5, .string qh, .slice uA un uc, .slice fA fn fc], L.lab fl.1 fl.2] w fun e w' => e = .returned (.bool true) ∧ Below w.heap.size w w' := by
  obtain ⟨hl4, hok⟩ : (psIts (parse q0 q1 fl l)).length ≤ 400 ∧ ItemsOk (psIts (parse q0 q1 fl l)) := (parse_len (n0 := q0) (n1 := q1) (fl := fl) (l := l)).resolve_right (fun h => h hfl)
  have HPA : Hid (∀ W : World, BytesIn W A0 l → Tab W → PaC A0 l.length cap0 ⟨q0, q1, q2, q3, q4, q5, qh, .slice uA un uc, .slice fA fn fc⟩ fl (parse q0 q1 fl l) W) := Lib.hid fun W h1 h2 => pa_is A0 cap0 l ⟨q0, q1, q2, q3, q4, q5, qh, .slice uA un uc, .slice fA fn fc⟩ ⟨uA, fA, un, uc, fn, fc, rfl, rfl⟩ fl hfl W h1 hc hn h2
  have HPB : Hid (∀ (A : Option Addr) (cap : Nat) (y : List UInt8) (W : World), BytesIn W A y → y.length ≤ cap → y.length ≤ maxLen → Tab W → PaC A y.length cap ⟨q0, q1, q2, q3, q4, q5, qh, .slice uA un uc, .slice fA fn fc⟩ fl (parse q0 q1 fl y) W) := Lib.hid fun A cap y W h1 h2 h3 h4 => pa_is A cap y ⟨q0, q1, q2, q3, q4, q5, qh, .slice uA un uc, .slice fA fn fc⟩ ⟨uA, fA, un, uc, fn, fc, rfl, rfl⟩ fl hfl W h1 h2 h3 h4
  have HAL := Lib.hid (again_all q0 q1 hfl l)
  generalize parse q0 q1 fl l = o at *
  have HPN : Hid (∀ (A : Option Addr) (cap : Nat) (W : World), ItemsIn W A (psIts o) → Tab W → PnC A (psIts o).length cap fl (print fl (psIts o)) W) := Lib.hid fun A cap W h1 h2 => pn_is A cap (psIts o) fl hfl W h1 hok h2
  generalize hit : psIts o = its at *
  have HIT := Lib.hid hit
  obtain ⟨W0, hW0⟩ : ∃ W : World, W = (w.alloc (.cells #[.int .i64 q0, .int .i64 q1, .int .i64 q2, .int .i64 q3, .int .i64 q4, .int .i64 q5, .string qh, .slice uA un uc, .slice fA fn fc] 26)).alloc (.cells #[.int .i64 fl.1, .int .u64 (fl.2 : Int)] 40) := ⟨_, rfl⟩
  have hb0 : Below w.heap.size w W0 := by rw [hW0]; exact (alloc1 _ _).alloc (by simp) _
  have hp0 : W0.heap[w.heap.size]? = some (.cells #[.int .i64 q0, .int .i64 q1, .int .i64 q2, .int .i64 q3, .int .i64 q4, .int .i64 q5, .string qh, .slice uA un uc, .slice fA fn fc] 26 (0, 0)) := by rw [hW0]; exact (L.two_blocks w _ _).1
  have hx0 : W0.heap[w.heap.size + 1]? = some (.cells #[.int .i64 fl.1, .int .u64 (fl.2 : Int)] 40 (0, 0)) := by rw [hW0]; exact (L.two_blocks w _ _).2
  have HB0 := Lib.hid hb0
  have HP0 := Lib.hid hp0
  have HX0 := Lib.hid hx0
  have HA0 := Lib.hid (hA.below hb0)
  have HT0 := Lib.hid (hT.later hb0)
  have HC1 := Lib.hid (HPA.out W0 HA0.out HT0.out)
  obtain ⟨p0, p1, p2, p3, p4, p5, p6, p7, p8⟩ := pol_box hp0
  obtain ⟨x0, x1⟩ := O.lab_cells hx0
  rw [hW0] at p0 p1 p2 p3 p4 p5 p6 p7 p8 x0 x1
  clear hb0 hp0 hx0 hA hT hok hit HPA
  go_enter Tryd.func9, Tryd.ntmps9
  go_wp2_with fail
  rw [← hW0]
  with_reducible refine (HC1.out.call).mono ?_
  clear p0 p1 p2 p3 p4 p5 p6 p7 p8 x0 x1 hW0 HC1
  rintro e w1 ⟨A1, cap1, rfl, hown1, hb1⟩
  rw [HIT.out] at hown1 ⊢
  have HO1 := Lib.hid hown1
  have HB1 := Lib.hid hb1
  clear hown1 hb1
  generalize ((psLine o : Nat) : Int) = gl at *
  generalize ((psErr o : Nat) : Int) = ge at *
  rcases HAL.out with ⟨hge, rfl⟩ | ⟨rfl, ⟨y, hy, hyp⟩ | ⟨pe, hpe, hpk⟩⟩
  · have hge' : (ge != 0) = true := by simpa using hge
    have HLV := Lib.hid (live4 w1 (HT0.out.later HB1.out))
    clear HAL HPN HPB hge
    go_wp2_with fail
    with_reducible refine (HLV.out).mono ?_
    rintro e w5 ⟨rfl, hb5⟩
    have HB8 := Lib.hid (HB0.out.trans ((HB1.out.trans (hb5.mono HB1.out.size)).mono HB0.out.size))
    clear hb5 HLV
    go_wp2_with fail
    go_ret
    exact ⟨rfl, HB8.out⟩
  · have hyl : y.length ≤ 32768 := by have := pr_len (fl := fl) (l := its); rw [hy] at this; exact this
    have HPB2 := Lib.hid (fun A cap W h1 h2 h3 => HPB.out A cap y W h1 h2 (by unfold maxLen; omega) h3)
    rw [hyp] at HPB2
    have hPN := HPN.out
    rw [hy] at hPN
    have HPN2 := Lib.hid hPN
    clear HAL HPN HPB hy hyp hPN
    have hC : PnC A1 its.length cap1 fl (.inl y) w1 := HPN2.out A1 cap1 w1 (items_own HO1.out) (HT0.out.later HB1.out)
    have HC : Hid (Calls Tryd.prog 25 #[.slice A1 its.length cap1, .agg #[.int .i64 fl.1, .int .u64 (fl.2 : Int)]] w1 fun e w' => ∃ A' cap', e = .returned (.tuple #[.slice A' y.length cap', .int .i64 0]) ∧ w'.ownsRow w1.heap.size 5 1 (.slice A' y.length cap') y.length (T.byteCells y) ∧ Below w1.heap.size w1 w') := Lib.hid hC
    obtain ⟨n, hnn⟩ : ∃ n, n = its.length := ⟨_, rfl⟩
    rw [← hnn] at HC hl4 HO1 ⊢
    have HNN := Lib.hid hnn
    obtain ⟨ny, hny⟩ : ∃ ny, ny = y.length := ⟨_, rfl⟩
    rw [← hny] at HC hyl
    have HNY := Lib.hid hny
    obtain ⟨x0, x1⟩ := O.lab_cells ((HB1.out.block _ (L.blk_lt HX0.out)).trans HX0.out)
    clear hC hnn hny
    go_wp2_with fail
    with_reducible refine (HC.out).mono ?_
    rintro e w2 ⟨A2, cap2, rfl, hown2, hb2⟩
    have HO2 := Lib.hid hown2
    have HO1b := Lib.hid (own_below HO1.out hb2)
    have HB2 := Lib.hid (HB1.out.trans (hb2.mono HB1.out.size))
    obtain ⟨p0, p1, p2, p3, p4, p5, p6, p7, p8⟩ := pol_box ((HB2.out.block _ (L.blk_lt HP0.out)).trans HP0.out)
    obtain ⟨x0, x1⟩ := O.lab_cells ((HB2.out.block _ (L.blk_lt HX0.out)).trans HX0.out)
    have hI2 : BytesIn w2 A2 y ∧ y.length ≤ cap2 := by
      have h := HO2.out
      rw [HNY.out] at h
      exact bytes_own h
    have HC2 : Hid (Calls Tryd.prog 31 #[.slice A2 ny cap2, .agg #[.int .i64 q0, .int .i64 q1, .int .i64 q2, .int .i64 q3, .int .i64 q4, .int .i64 q5, .string qh, .slice uA un uc, .slice fA fn fc], .agg #[.int .i64 fl.1, .int .u64 (fl.2 : Int)]] w2 fun e w' => ∃ A' cap', e = .returned (.tuple #[.slice A' n cap', .int .i64 0, .int .i64 0]) ∧ w'.ownsRow w2.heap.size 53 6 (.slice A' n cap') n (itCells its) ∧ Below w2.heap.size w2 w') := Lib.hid (by
      rw [HNN.out, HNY.out]
      exact HPB2.out A2 cap2 w2 hI2.1 hI2.2 (HT0.out.later HB2.out))
    clear HC hown2 hb2 HO1 hI2 HPB2
    go_wp2_with fail
    with_reducible refine (HC2.out).mono ?_
    rintro e w3 ⟨A3, cap3, rfl, hown3, hb3⟩
    have HO3 := Lib.hid hown3
    have HO1c := Lib.hid (own_below HO1b.out hb3)
    have HO2b := Lib.hid (own_below HO2.out hb3)
    have HB3 := Lib.hid (HB2.out.trans (hb3.mono HB2.out.size))
    obtain ⟨x0, x1⟩ := O.lab_cells ((HB3.out.block _ (L.blk_lt HX0.out)).trans HX0.out)
    have hI3 : ItemsIn w3 A3 its := by
      have h := HO3.out
      rw [HNN.out] at h
      exact items_own h
    have HC3 : Hid (Calls Tryd.prog 25 #[.slice A3 n cap3, .agg #[.int .i64 fl.1, .int .u64 (fl.2 : Int)]] w3 fun e w' => ∃ A' cap', e = .returned (.tuple #[.slice A' ny cap', .int .i64 0]) ∧ w'.ownsRow w3.heap.size 5 1 (.slice A' ny cap') ny (T.byteCells y) ∧ Below w3.heap.size w3 w') := Lib.hid (by
      rw [HNN.out, HNY.out]
      exact HPN2.out A3 cap3 w3 hI3 (HT0.out.later HB3.out))
    clear HC2 hown3 hb3 HO1b HO2 hI3 HPN2 p0 p1 p2 p3 p4 p5 p6 p7 p8
    go_wp2_with fail
    with_reducible refine (HC3.out).mono ?_
    rintro e w4 ⟨A4, cap4, rfl, hown4, hb4⟩
    have HO4 := Lib.hid hown4
    have HO1d := Lib.hid (own_below HO1c.out hb4)
    have HO2c := Lib.hid (own_below HO2b.out hb4)
    have HO3b := Lib.hid (own_below HO3.out hb4)
    have HB4 := Lib.hid (HB3.out.trans (hb4.mono HB3.out.size))
    have HLV := Lib.hid (live4 w4 (HT0.out.later HB4.out))
    clear HC3 hown4 hb4 HO1c HO2b HO3 x0 x1
    go_wp2_with fail
    with_reducible refine (HLV.out).mono ?_
    rintro e w5 ⟨rfl, hb5⟩
    have HSM : Hid (SmC A1 A3 n cap1 cap3 w5) := Lib.hid (by
      have h1 := own_below HO1d.out hb5
      have h2 := own_below HO3b.out hb5
      rw [HNN.out] at h1 h2 ⊢
      exact same_any A1 A3 cap1 cap3 its w5 (by rw [← HNN.out]; omega) (items_own h1) (items_own h2))
    have HO2d := Lib.hid (own_below HO2c.out hb5)
    have HO4b := Lib.hid (own_below HO4.out hb5)
    have HB5 := Lib.hid (HB4.out.trans (hb5.mono HB4.out.size))
    clear hb5 HLV HO1d HO3b HO2c HO4
    go_wp2_with fail
    with_reducible refine (HSM.out.call).mono ?_
    rintro e w6 ⟨rfl, hb6⟩
    have HB6 := Lib.hid (HB0.out.trans ((HB5.out.trans (hb6.mono HB5.out.size)).mono HB0.out.size))
    have hI2 : BytesIn w6 A2 y := by
      have h := own_below HO2d.out hb6
      rw [HNY.out] at h
      exact (bytes_own h).1
    have hI4 : BytesIn w6 A4 y := by
      have h := own_below HO4b.out hb6
      rw [HNY.out] at h
      exact (bytes_own h).1
    have hcv2 := conv_in cap2 hI2
    have hcv4 := conv_in cap4 hI4
    rw [← HNY.out] at hcv2 hcv4
    clear hI2 hI4 HSM hb6 HO2d HO4b
    go_wp2_with fail
    go_ret
    exact ⟨rfl, HB6.out⟩
  · have hPN := HPN.out
    rw [hpe] at hPN
    have hC : PnC A1 its.length cap1 fl (.inr pe) w1 := hPN A1 cap1 w1 (items_own HO1.out) (HT0.out.later HB1.out)
    have HC : Hid (Calls Tryd.prog 25 #[.slice A1 its.length cap1, .agg #[.int .i64 fl.1, .int .u64 (fl.2 : Int)]] w1 fun e w' => ∃ A' cap', e = .returned (.tuple #[.slice A' 0 cap', .int .i64 (pe : Int)]) ∧ w'.ownsRow w1.heap.size 5 1 (.slice A' 0 cap') 0 (T.byteCells []) ∧ Below w1.heap.size w1 w') := Lib.hid hC
    obtain ⟨x0, x1⟩ := O.lab_cells ((HB1.out.block _ (L.blk_lt HX0.out)).trans HX0.out)
    clear HAL HPN HPB hpe hPN hC
    go_wp2_with fail
    with_reducible refine (HC.out).mono ?_
    rintro e w2 ⟨A2, cap2, rfl, -, hb2⟩
    have HB2 := Lib.hid (HB1.out.trans (hb2.mono HB1.out.size))
    obtain ⟨x0, x1⟩ := O.lab_cells ((HB2.out.block _ (L.blk_lt HX0.out)).trans HX0.out)
    have HLV := Lib.hid (live4 w2 (HT0.out.later HB2.out))
    clear hb2 HC
    have HK : Hid (∀ W : World, Below w2.heap.size w2 W → W.cell? ⟨w.heap.size + 1, 0, none⟩ = some (.int .i64 fl.1)) := Lib.hid fun W hW => (O.lab_cells (((HB2.out.trans (hW.mono HB2.out.size)).block _ (L.blk_lt HX0.out)).trans HX0.out)).1
    rcases hpk with rfl | ⟨rfl, hlo | ⟨hlo, hhi⟩⟩
    all_goals
      go_wp2_with fail
      with_reducible refine (HLV.out).mono ?_
      rintro e w5 ⟨rfl, hb5⟩
      have HB8 := Lib.hid (HB0.out.trans ((HB2.out.trans (hb5.mono HB2.out.size)).mono HB0.out.size))
      have x0 := HK.out w5 hb5
      clear hb5 HLV
      go_wp2_with fail
      go_ret
      exact ⟨rfl, HB8.out⟩
end Go.Proofs.YtadhhamfikpimaaDoor.I
