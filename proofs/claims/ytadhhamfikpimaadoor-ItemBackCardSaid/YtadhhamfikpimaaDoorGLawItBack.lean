/-
  The law ItemBack, walked: it returns true for all items, every policy and floor, where the library's table of powers of ten holds what its text lays.
-/
import Derived.Test.YtadhhamfikpimaaDoorGij
import Derived.Test.YtadhhamfikpimaaDoorGLawItOwn
import Derived.Test.YtadhhamfikpimaaDoorGm
import Derived.StillTailTactics
namespace Go.Proofs.YtadhhamfikpimaaDoor.I
set_option linter.unusedVariables false
set_option linter.unusedSimpArgs false
open Go.RowKit
open T
open O (own_ne grown_of grown_set ne_type)

theorem back_all (n0 n1 : Int) {fl : Lb} {l : List It} {y : List UInt8} (h : print fl l = .inl y) (hok : ItemsOk l) (hf : ∀ j (hj : j < l.length), j < l.length → O.fitsB n0 n1 l[j].lv l[j].ct = true) : parse n0 n1 fl y = .inl (numbered 0 l) :=
  back h fun x hx => by
    obtain ⟨j, hj, rfl⟩ := List.getElem_of_mem hx
    exact ⟨hok.ct _ (List.getElem_mem hj), .inl (hf j hj hj)⟩

set_option maxRecDepth 100000 in
set_option maxHeartbeats 4000000 in
theorem iback_walk (q0 q1 q2 q3 q4 q5 : Int) (qh : ByteArray) (uA fA : Option Addr) (un uc fn fc : Nat) (A : Option Addr) (cap : Nat) (l : List It) (fl : Lb) (hfl : fl.2 < 18446744073709551616) (w : World) (hA : ItemsIn w A l) (hok : ItemsOk l) (hT : Tab w) :
    Calls Tryd.prog 8 #[.slice A l.length cap, .agg #[.int .i64 q0, .int .i64 q1, .int .i64 q2, .int .i64 q3, .int .i64 q4, .int .i64 q5, .string qh, .slice uA un uc, .slice fA fn fc], L.lab fl.1 fl.2] w fun e w' => e = .returned (.bool true) ∧ Below w.heap.size w w' := by
  have HPB : Hid (∀ (A : Option Addr) (cap : Nat) (y : List UInt8) (W : World), BytesIn W A y → y.length ≤ cap → y.length ≤ maxLen → Tab W → PaC A y.length cap ⟨q0, q1, q2, q3, q4, q5, qh, .slice uA un uc, .slice fA fn fc⟩ fl (parse q0 q1 fl y) W) := Lib.hid fun A cap y W h1 h2 h3 h4 => pa_is A cap y ⟨q0, q1, q2, q3, q4, q5, qh, .slice uA un uc, .slice fA fn fc⟩ ⟨uA, fA, un, uc, fn, fc, rfl, rfl⟩ fl hfl W h1 h2 h3 h4
  have HOK := Lib.hid hok
  have hlm := hok.len
  unfold maxLen at hlm
  obtain ⟨W0, hW0⟩ : ∃ W : World, W = (w.alloc (.cells #[.int .i64 q0, .int .i64 q1, .int .i64 q2, .int .i64 q3, .int .i64 q4, .int .i64 q5, .string qh, .slice uA un uc, .slice fA fn fc] 26)).alloc (.cells #[.int .i64 fl.1, .int .u64 (fl.2 : Int)] 40) := ⟨_, rfl⟩
  have hb0 : Below w.heap.size w W0 := by rw [hW0]; exact (alloc1 _ _).alloc (by simp) _
  have hp0 : W0.heap[w.heap.size]? = some (.cells #[.int .i64 q0, .int .i64 q1, .int .i64 q2, .int .i64 q3, .int .i64 q4, .int .i64 q5, .string qh, .slice uA un uc, .slice fA fn fc] 26 (0, 0)) := by rw [hW0]; exact (L.two_blocks w _ _).1
  have hx0 : W0.heap[w.heap.size + 1]? = some (.cells #[.int .i64 fl.1, .int .u64 (fl.2 : Int)] 40 (0, 0)) := by rw [hW0]; exact (L.two_blocks w _ _).2
  have HB0 := Lib.hid hb0
  have HP0 := Lib.hid hp0
  have HX0 := Lib.hid hx0
  have HA0 := Lib.hid (hA.below hb0)
  have HT0 := Lib.hid (hT.later hb0)
  have hC1 := pn_is A cap l fl hfl W0 HA0.out hok HT0.out
  obtain ⟨x0, x1⟩ := O.lab_cells hx0
  rw [hW0] at x0 x1
  cases ho : print fl l with
  | inr pe =>
    have hpe := print_err ho
    rw [ho] at hC1
    have HC : Hid (Calls Tryd.prog 25 #[.slice A l.length cap, .agg #[.int .i64 fl.1, .int .u64 (fl.2 : Int)]] W0 fun e w' => ∃ A' cap', e = .returned (.tuple #[.slice A' 0 cap', .int .i64 (pe : Int)]) ∧ w'.ownsRow W0.heap.size 5 1 (.slice A' 0 cap') 0 (T.byteCells []) ∧ Below W0.heap.size W0 w') := Lib.hid hC1
    have hpi : ((pe : Int) != 0) = true := by simpa using hpe
    generalize (pe : Int) = pz at *
    clear hb0 hp0 hx0 hA hT hok hC1 ho hpe HPB
    go_enter Tryd.func8, Tryd.ntmps8
    go_wp2_with fail
    rw [← hW0]
    with_reducible refine (HC.out).mono ?_
    rintro e w1 ⟨A1, cap1, rfl, -, hb1⟩
    have HB1 := Lib.hid hb1
    have HLV := Lib.hid (live4 w1 (HT0.out.later hb1))
    clear hb1 HC x0 x1 hW0
    go_wp2_with fail
    with_reducible refine (HLV.out).mono ?_
    rintro e w5 ⟨rfl, hb5⟩
    have HB8 := Lib.hid (HB0.out.trans ((HB1.out.trans (hb5.mono HB1.out.size)).mono HB0.out.size))
    clear hb5 HLV
    go_wp2_with fail
    go_ret
    exact ⟨rfl, HB8.out⟩
  | inl y =>
    obtain ⟨-, hl4, hyl, -⟩ := print_inl ho
    have hyl : y.length ≤ 32768 := by have := pr_len (fl := fl) (l := l); rw [ho] at this; exact this
    have HBK : Hid ((∀ j (hj : j < l.length), j < l.length → O.fitsB q0 q1 l[j].lv l[j].ct = true) → parse q0 q1 fl y = .inl (numbered 0 l)) := Lib.hid (back_all q0 q1 ho hok)
    rw [ho] at hC1
    have HC : Hid (Calls Tryd.prog 25 #[.slice A l.length cap, .agg #[.int .i64 fl.1, .int .u64 (fl.2 : Int)]] W0 fun e w' => ∃ A' cap', e = .returned (.tuple #[.slice A' y.length cap', .int .i64 0]) ∧ w'.ownsRow W0.heap.size 5 1 (.slice A' y.length cap') y.length (T.byteCells y) ∧ Below W0.heap.size W0 w') := Lib.hid hC1
    clear hb0 hp0 hx0 hA hT hok hC1 ho
    obtain ⟨ny, hny⟩ : ∃ ny, ny = y.length := ⟨_, rfl⟩
    rw [← hny] at HC hyl
    have HNY := Lib.hid hny
    clear hny
    go_enter Tryd.func8, Tryd.ntmps8
    go_wp2_with fail
    rw [← hW0]
    with_reducible refine (HC.out).mono ?_
    rintro e w1 ⟨A1, cap1, rfl, hown1, hb1⟩
    have HO1 := Lib.hid hown1
    have HB1 := Lib.hid hb1
    have HA1 := Lib.hid (HA0.out.below hb1)
    clear hown1 hb1 HC x0 x1 hW0
    go_wp2_with fail
    go_loopg [9] l.length (fun m i wr => ∃ k : Nat, k ≤ l.length ∧ i = .int .i64 k ∧ l.length - k ≤ m ∧ Below w1.heap.size w1 wr ∧ Hid (∀ j (hj : j < l.length), j < k → O.fitsB q0 q1 l[j].lv l[j].ct = true))
    case atStart => exact ⟨0, Nat.zero_le _, rfl, by omega, Below.refl _ _, Lib.hid fun j hj h => absurd h (by omega)⟩
    case round =>
      obtain ⟨k, hk, rfl, hm, hbr, HJ⟩ := hrel
      have HBR := Lib.hid (HB1.out.trans (hbr.mono HB1.out.size))
      by_cases hlt : k < l.length
      · obtain ⟨bk, off, hAe, hbk, hI⟩ := HA1.out (by omega)
        subst hAe
        obtain ⟨c0, c1, c2, c3, c4, c5⟩ := items_cells hI hbr hbk hlt
        have h0k : (0 : Int) ≤ (k : Int) := by omega
        have hki : (k : Int) < (l.length : Int) := by omega
        have hkk : l[k].ct < 18446744073709551616 := HOK.out.ct _ (List.getElem_mem hlt)
        obtain ⟨p0, p1, p2, p3, p4, p5, p6, p7, p8⟩ := pol_box ((HBR.out.block _ (L.blk_lt HP0.out)).trans HP0.out)
        obtain ⟨ft, hft⟩ : ∃ ft, ft = O.fitsB q0 q1 l[k].lv l[k].ct := ⟨_, rfl⟩
        have HON : Hid (ft = true → ∀ j (hj : j < l.length), j < k + 1 → O.fitsB q0 q1 l[j].lv l[j].ct = true) := Lib.hid (by
          intro e j hj hjk
          by_cases ej : j = k
          · subst ej; rw [← hft]; exact e
          · exact HJ.out j hj (by omega))
        have HBw := Lib.hid hbr
        have HFT : Hid (∀ W : World, Calls Tryd.prog 30 #[O.polA q0 q1 q2 q3 q4 q5 qh (.slice uA un uc) (.slice fA fn fc), L.lab l[k].lv l[k].ct] W fun e w' => e = .returned (.bool ft) ∧ Below W.heap.size W w') := Lib.hid (fun W => by rw [hft]; exact O.refFits_any q0 q1 q2 q3 q4 q5 qh uA fA un fn uc fc l[k].lv l[k].ct W hkk)
        clear hI hft c0 c3 c4 c5 hkk hbr HJ
        generalize l[k].lv = lv at *
        generalize l[k].ct = ct at *
        go_wp2_with fail
        go_still_tail 6, (by kernel_rfl)
        change wpList _ _ _ _ _ (World.drew _)
        clear p0 p1 p2 p3 p4 p5 p6 p7 p8 c1 c2
        go_wp2_with fail
        with_reducible refine (HFT.out _).mono ?_
        rintro e w3 ⟨rfl, hb3'⟩
        have hb3 : Below wr.heap.size wr w3 := (O.drew_below wr).trans hb3'
        have HBx := Lib.hid (HBw.out.trans (hb3.mono HBw.out.size))
        have HBy := Lib.hid (HBR.out.trans (hb3.mono HBR.out.size))
        clear hb3 hb3' HFT HBw HBR
        cases ft with
        | true =>
          have HJ2 := Lib.hid (HON.out rfl)
          clear HON
          go_wp2_with fail
          go_roundg (l.length - (k + 1))
          case rel => exact ⟨k + 1, by omega, by go_num, Nat.le_refl _, HBx.out, HJ2⟩
          case measure => omega
        | false =>
          clear HON
          have HLV := Lib.hid (live4 w3 (HT0.out.later HBy.out))
          go_wp2_with fail
          with_reducible refine (HLV.out).mono ?_
          rintro e w5 ⟨rfl, hb5⟩
          have HB8 := Lib.hid (HB0.out.trans ((HBy.out.trans (hb5.mono HBy.out.size)).mono HB0.out.size))
          clear hb5 HLV
          go_wp2_with fail
          go_ret
          exact ⟨rfl, HB8.out⟩
      · obtain rfl : k = l.length := by omega
        have hyp := HBK.out HJ.out
        have HO2 := Lib.hid (own_below HO1.out hbr)
        have HA2 := Lib.hid (HA1.out.below hbr)
        clear HBK HJ hbr hm hk HO1
        generalize wr = w2 at *
        obtain ⟨p0, p1, p2, p3, p4, p5, p6, p7, p8⟩ := pol_box ((HBR.out.block _ (L.blk_lt HP0.out)).trans HP0.out)
        obtain ⟨x0, x1⟩ := O.lab_cells ((HBR.out.block _ (L.blk_lt HX0.out)).trans HX0.out)
        have HN0 := Lib.hid (numbered_length l 0)
        have HC2 : Hid (Calls Tryd.prog 31 #[.slice A1 ny cap1, .agg #[.int .i64 q0, .int .i64 q1, .int .i64 q2, .int .i64 q3, .int .i64 q4, .int .i64 q5, .string qh, .slice uA un uc, .slice fA fn fc], .agg #[.int .i64 fl.1, .int .u64 (fl.2 : Int)]] w2 fun e w' => ∃ A' cap', e = .returned (.tuple #[.slice A' (numbered 0 l).length cap', .int .i64 0, .int .i64 0]) ∧ w'.ownsRow w2.heap.size 53 6 (.slice A' (numbered 0 l).length cap') (numbered 0 l).length (itCells (numbered 0 l)) ∧ Below w2.heap.size w2 w') := Lib.hid (by
          have h := HO2.out
          rw [HNY.out] at h
          obtain ⟨h1, h2⟩ := bytes_own h
          have hP := HPB.out A1 cap1 y w2 h1 h2 (by rw [← HNY.out]; unfold maxLen; omega) (HT0.out.later HBR.out)
          rw [hyp] at hP
          rw [HNY.out]
          exact hP)
        clear hyp HPB HO2
        go_wp2_with fail
        with_reducible refine (HC2.out).mono ?_
        rintro e w3 ⟨A3, cap3, rfl, hown3, hb3⟩
        have HO3 := Lib.hid hown3
        have HB3 := Lib.hid (HBR.out.trans (hb3.mono HBR.out.size))
        have HA3 := Lib.hid (HA2.out.below hb3)
        have HLV := Lib.hid (live4 w3 (HT0.out.later HB3.out))
        clear hown3 hb3 HC2 HA2 p0 p1 p2 p3 p4 p5 p6 p7 p8 x0 x1 HBR
        rw [HN0.out] at HO3 ⊢
        go_wp2_with fail
        with_reducible refine (HLV.out).mono ?_
        rintro e w5 ⟨rfl, hb5⟩
        have HO5 := Lib.hid (own_below HO3.out hb5)
        have HB5 := Lib.hid (HB3.out.trans (hb5.mono HB3.out.size))
        have HNM := Lib.hid (numbered_any A cap l w5 (HA3.out.below hb5) (by omega))
        clear hb5 HLV HO3 HA3
        go_wp2_with fail
        with_reducible refine (HNM.out).mono ?_
        rintro e w6 ⟨⟨v6, rfl, hown6⟩, hb6⟩
        obtain ⟨A6, cap6, rfl, hvc6, -⟩ := own_form hown6
        have HO6 := Lib.hid (own_below HO5.out hb6)
        have HB6 := Lib.hid (HB5.out.trans (hb6.mono HB5.out.size))
        have HSM : Hid (SmC A3 A6 l.length cap3 cap6 w6) := Lib.hid (by
          have h1 := HO6.out
          rw [← HN0.out] at h1 ⊢
          exact same_any A3 A6 cap3 cap6 (numbered 0 l) w6 (by rw [HN0.out]; omega) (items_own h1) (items_own hown6))
        clear hown6 hb6 HNM HO5 hvc6
        rw [HN0.out]
        go_wp2_with fail
        with_reducible refine (HSM.out.call).mono ?_
        rintro e w7 ⟨rfl, hb7⟩
        have HB7 := Lib.hid (HB0.out.trans ((HB6.out.trans (hb7.mono HB6.out.size)).mono HB0.out.size))
        clear hb7 HSM
        go_wp2_with fail
        go_ret
        exact ⟨rfl, HB7.out⟩
end Go.Proofs.YtadhhamfikpimaaDoor.I
