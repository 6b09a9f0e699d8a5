/-
  The law ItemOwn, walked: it returns true for every text, policy and floor, where the library's table of powers of ten holds what its text lays.
-/
import Derived.Test.YtadhhamfikpimaaDoorGij
namespace Go.Proofs.YtadhhamfikpimaaDoor.I
set_option linter.unusedVariables false
set_option linter.unusedSimpArgs false
open Go.RowKit
open T
open O (own_ne grown_of grown_set ne_type)

abbrev pcells (q0 q1 q2 q3 q4 q5 : Int) (qh : ByteArray) (uA fA : Option Addr) (un uc fn fc : Nat) : Array Value := #[.int .i64 q0, .int .i64 q1, .int .i64 q2, .int .i64 q3, .int .i64 q4, .int .i64 q5, .string qh, .slice uA un uc, .slice fA fn fc]
theorem pol_box {W : World} {b : Nat} {q0 q1 q2 q3 q4 q5 : Int} {qh : ByteArray} {u f : Value} (h : W.heap[b]? = some (.cells #[.int .i64 q0, .int .i64 q1, .int .i64 q2, .int .i64 q3, .int .i64 q4, .int .i64 q5, .string qh, u, f] 26 (0, 0))) : W.cell? ⟨b, 0, none⟩ = some (.int .i64 q0) ∧ W.cell? ⟨b, 1, none⟩ = some (.int .i64 q1) ∧ W.cell? ⟨b, 2, none⟩ = some (.int .i64 q2) ∧ W.cell? ⟨b, 3, none⟩ = some (.int .i64 q3) ∧ W.cell? ⟨b, 4, none⟩ = some (.int .i64 q4) ∧ W.cell? ⟨b, 5, none⟩ = some (.int .i64 q5) ∧ W.cell? ⟨b, 6, none⟩ = some (.string qh) ∧ W.cell? ⟨b, 7, none⟩ = some u ∧ W.cell? ⟨b, 8, none⟩ = some f :=
  ⟨L.blk_cell h 0, L.blk_cell h 1, L.blk_cell h 2, L.blk_cell h 3, L.blk_cell h 4, L.blk_cell h 5, L.blk_cell h 6, L.blk_cell h 7, L.blk_cell h 8⟩

set_option maxRecDepth 100000 in
set_option maxHeartbeats 4000000 in
theorem iown_walk (q0 q1 q2 q3 q4 q5 : Int) (qh : ByteArray) (uA fA : Option Addr) (un uc fn fc : Nat) (A0 : Option Addr) (cap0 : Nat) (l : List UInt8) (fl : Lb) (hfl : fl.2 < 18446744073709551616) (w : World) (hA : BytesIn w A0 l) (hc : l.length ≤ cap0) (hn : l.length ≤ maxLen) (hT : Tab w) :
    Calls Tryd.prog 10 #[.slice A0 l.length cap0, .agg #[.int .i64 q0, .int .i64 q1, .int .i64 q2, .int .i64 q3, .int .i64 q4, .int .i64 q5, .string qh, .slice uA un uc, .slice fA fn fc], L.lab fl.1 fl.2] w fun e w' => e = .returned (.bool true) ∧ Below w.heap.size w w' := by
  obtain ⟨hl4, hok⟩ : (psIts (parse q0 q1 fl l)).length ≤ 400 ∧ ItemsOk (psIts (parse q0 q1 fl l)) := (parse_len (n0 := q0) (n1 := q1) (fl := fl) (l := l)).resolve_right (fun h => h hfl)
  have HPA : Hid (∀ W : World, BytesIn W A0 l → Tab W → PaC A0 l.length cap0 ⟨q0, q1, q2, q3, q4, q5, qh, .slice uA un uc, .slice fA fn fc⟩ fl (parse q0 q1 fl l) W) := Lib.hid fun W h1 h2 => pa_is A0 cap0 l ⟨q0, q1, q2, q3, q4, q5, qh, .slice uA un uc, .slice fA fn fc⟩ ⟨uA, fA, un, uc, fn, fc, rfl, rfl⟩ fl hfl W h1 hc hn h2
  generalize parse q0 q1 fl l = o at *
  have hprl : (prBytes (print fl (psIts o))).length ≤ 32768 := pr_len
  have HPN : Hid (∀ (A : Option Addr) (cap : Nat) (W : World), ItemsIn W A (psIts o) → Tab W → PnC A (psIts o).length cap fl (print fl (psIts o)) W) := Lib.hid fun A cap W h1 h2 => pn_is A cap (psIts o) fl hfl W h1 hok h2
  generalize hit : psIts o = its at *
  have HIT := Lib.hid hit
  obtain ⟨W0, hW0⟩ : ∃ W : World, W = (w.alloc (.cells #[.int .i64 q0, .int .i64 q1, .int .i64 q2, .int .i64 q3, .int .i64 q4, .int .i64 q5, .string qh, .slice uA un uc, .slice fA fn fc] 26)).alloc (.cells #[.int .i64 fl.1, .int .u64 (fl.2 : Int)] 40) := ⟨_, rfl⟩
  have hb0 : Below w.heap.size w W0 := by rw [hW0]; exact (alloc1 _ _).alloc (by simp) _
  have hp0 : W0.heap[w.heap.size]? = some (.cells #[.int .i64 q0, .int .i64 q1, .int .i64 q2, .int .i64 q3, .int .i64 q4, .int .i64 q5, .string qh, .slice uA un uc, .slice fA fn fc] 26 (0, 0)) := by rw [hW0]; exact (L.two_blocks w _ _).1
  have hx0 : W0.heap[w.heap.size + 1]? = some (.cells #[.int .i64 fl.1, .int .u64 (fl.2 : Int)] 40 (0, 0)) := by rw [hW0]; exact (L.two_blocks w _ _).2
  have HB0 := Lib.hid hb0
  have HP0 := Lib.hid hp0
  have HX0 := Lib.hid hx0
  have HA0 := Lib.hid (hA.below hb0)
  have HT0 := Lib.hid (hT.later hb0)
  have HC1 := Lib.hid (HPA.out W0 HA0.out HT0.out)
  obtain ⟨p0, p1, p2, p3, p4, p5, p6, p7, p8⟩ := pol_box hp0
  obtain ⟨x0, x1⟩ := O.lab_cells hx0
  rw [hW0] at p0 p1 p2 p3 p4 p5 p6 p7 p8 x0 x1
  clear hb0 hp0 hx0 hA hT hok hit
  go_enter Tryd.func10, Tryd.ntmps10
  go_wp2_with fail
  rw [← hW0]
  with_reducible refine (HC1.out.call).mono ?_
  clear p0 p1 p2 p3 p4 p5 p6 p7 p8 x0 x1 hW0 HC1
  rintro e w1 ⟨A1, cap1, rfl, hown1, hb1⟩
  rw [HIT.out] at hown1 ⊢
  have HO1 := Lib.hid hown1
  have HB1 := Lib.hid hb1
  have HC2 := Lib.hid (HPA.out w1 (HA0.out.below hb1) (HT0.out.later hb1))
  obtain ⟨p0, p1, p2, p3, p4, p5, p6, p7, p8⟩ := pol_box ((hb1.block _ (L.blk_lt HP0.out)).trans HP0.out)
  obtain ⟨x0, x1⟩ := O.lab_cells ((hb1.block _ (L.blk_lt HX0.out)).trans HX0.out)
  clear hown1 hb1
  go_wp2_with fail
  with_reducible refine (HC2.out.call).mono ?_
  rintro e w2 ⟨A2, cap2, rfl, hown2, hb2⟩
  rw [HIT.out] at hown2 ⊢
  have HO2 := Lib.hid hown2
  have HO1b := Lib.hid (own_below HO1.out hb2)
  have HG1 : Hid (∀ g, A1 = some ⟨g, 0, none⟩ → g < w1.heap.size) := Lib.hid fun g e => own_lt HO1.out g (by rw [e]; rfl)
  have HB2 := Lib.hid (HB1.out.trans (hb2.mono HB1.out.size))
  have hs12 := hb2.size
  have hs01 := HB1.out.size
  clear p0 p1 p2 p3 p4 p5 p6 p7 p8 x0 x1 HC2 hown2 hb2 HO1 HB1
  obtain ⟨n, hnn⟩ : ∃ n, n = its.length := ⟨_, rfl⟩
  rw [← hnn] at HO1b HO2 hl4 ⊢
  have HNN := Lib.hid hnn
  clear hnn
  go_wp2_with fail
  go_loopg [13] n (fun m i wr => ∃ (k : Nat) (cs : List Value), k ≤ n ∧ i = .int .i64 k ∧ n - k ≤ m ∧ (∀ j, k ≤ j → j < n → ∃ z : Int, cs[j * 6]? = some (.int .i64 z)) ∧ Hid (wr.ownsRow W0.heap.size 53 6 (.slice A1 n cap1) n cs) ∧ Hid (wr.ownsRow w1.heap.size 53 6 (.slice A2 n cap2) n (itCells its)) ∧ Below W0.heap.size W0 wr ∧ w1.heap.size ≤ wr.heap.size)
  case atStart => exact ⟨0, itCells its, Nat.zero_le _, rfl, by omega, fun j _ hj => ⟨_, (itCells_at its j (by rw [← HNN.out]; exact hj)).1⟩, HO1b, HO2, HB2.out, hs12⟩
  case round =>
    obtain ⟨k, cs, hk, rfl, hm, hcs, HL, HM, hbr, hsr⟩ := hrel
    by_cases hlt : k < n
    · obtain ⟨g, hAe, hg, hgl, hcells⟩ := own_at HL.out (by omega)
      have hg1 := HG1.out g hAe
      subst hAe
      obtain ⟨z, hz⟩ := hcs k (Nat.le_refl _) hlt
      have hcell := hcells _ _ hz
      have hfr := HL.out.frozenAt (k * 6)
      have h0k : (0 : Int) ≤ (k : Int) := Int.natCast_nonneg _
      have h1k : (k : Int) < (n : Int) := by omega
      have hcp : n ≤ cap1 ∧ cap1 ≤ maxLen := by
        rcases HL.out.2 with ⟨e, _⟩ | ⟨g', cp, cur, e, _, _, a1, a2, _⟩
        · cases e
        · injection e with f1 f2 f3
          subst f3
          exact ⟨a1, a2⟩
      unfold maxLen at hcp
      clear hcells
      go_wp2_with fail
      go_roundg (n - (k + 1))
      case measure => omega
      case rel =>
        refine ⟨k + 1, cs.set (k * 6) (.int .i64 (-1)), by omega, by go_num, Nat.le_refl _, fun j hj hjn => ?_, Lib.hid (HL.out.stored _ _).1, Lib.hid (own_behind HM.out hg1), hbr.setCell hg _, by simpa using hsr⟩
        obtain ⟨z', hz'⟩ := hcs j (by omega) hjn
        exact ⟨z', by rw [List.getElem?_set_ne (by omega)]; exact hz'⟩
    · obtain rfl : k = n := by omega
      have HB3 := Lib.hid hbr
      have HC3 := Lib.hid (HPA.out wr (HA0.out.below hbr) (HT0.out.later hbr))
      obtain ⟨p0, p1, p2, p3, p4, p5, p6, p7, p8⟩ := pol_box ((hbr.block _ (L.blk_lt HP0.out)).trans HP0.out)
      obtain ⟨x0, x1⟩ := O.lab_cells ((hbr.block _ (L.blk_lt HX0.out)).trans HX0.out)
      clear HL hcs hm hk hbr
      generalize wr = w3 at *
      go_wp2_with fail
      with_reducible refine (HC3.out.call).mono ?_
      rintro e w4 ⟨A4, cap4, rfl, hown4, hb4⟩
      rw [HIT.out] at hown4 ⊢
      have HM4 := Lib.hid (own_below HM.out hb4)
      have HN4 := Lib.hid hown4
      have HB4 := Lib.hid (HB3.out.trans (hb4.mono HB3.out.size))
      have hin4 : ItemsIn w4 A2 its := by
        have h0 := HM4.out
        rw [HNN.out] at h0
        exact items_own h0
      have HC4 := Lib.hid (HPN.out A2 cap2 w4 hin4 (HT0.out.later HB4.out))
      obtain ⟨x0, x1⟩ := O.lab_cells ((HB4.out.block _ (L.blk_lt HX0.out)).trans HX0.out)
      rw [← HNN.out] at HC4 hown4 ⊢
      rw [← HNN.out] at HN4
      clear HM HB3 HC3 hown4 hb4 hin4 p0 p1 p2 p3 p4 p5 p6 p7 p8
      go_wp2_with fail
      with_reducible refine (HC4.out.call).mono ?_
      rintro e w5 ⟨A5, cap5, rfl, hown5, hb5⟩
      have HX5 := Lib.hid hown5
      have HB5 := Lib.hid hb5
      clear hown5 hb5 HC4 x0 x1
      generalize prBytes (print fl its) = xs at *
      obtain ⟨nx, hnx⟩ : ∃ nx, nx = xs.length := ⟨_, rfl⟩
      rw [← hnx] at HX5 hprl ⊢
      have HNX := Lib.hid hnx
      clear hnx
      go_wp2_with fail
      go_loopg [19] nx (fun m i wr => ∃ (k : Nat) (cs : List UInt8), k ≤ nx ∧ i = .int .i64 k ∧ nx - k ≤ m ∧ cs.length = nx ∧ Hid (wr.ownsRow w4.heap.size 5 1 (.slice A5 nx cap5) nx (T.byteCells cs)) ∧ Below w4.heap.size w4 wr)
      case atStart => exact ⟨0, xs, Nat.zero_le _, rfl, by omega, HNX.out.symm, HX5, HB5.out⟩
      case round =>
        obtain ⟨kk, cs, hk, rfl, hm, hcs, HL, hbr⟩ := hrel
        by_cases hlt : kk < nx
        · obtain ⟨g, hAe, hg, hgl, hcells⟩ := own_at HL.out (by omega)
          subst hAe
          have hkc : kk < cs.length := by omega
          have hcell := hcells kk _ (by rw [T.byteCells, List.getElem?_map, List.getElem?_eq_getElem hkc]; rfl)
          have hfr := HL.out.frozenAt kk
          have h0k : (0 : Int) ≤ (kk : Int) := Int.natCast_nonneg _
          have h1k : (kk : Int) < (nx : Int) := by omega
          clear hcells
          go_wp2_with fail
          go_roundg (nx - (kk + 1))
          case measure => omega
          case rel =>
            obtain ⟨c, hcx⟩ := bits_byte BinOp.xor (cs[kk].toNat : Int) 1
            rw [hcx]
            refine ⟨kk + 1, cs.set kk c, by omega, by go_num, Nat.le_refl _, by simpa using hcs, Lib.hid ?_, hbr.setCell hg _⟩
            rw [byteCells_set]
            exact (HL.out.stored kk _).1
        · obtain rfl : kk = nx := by omega
          have HBE := Lib.hid (HB4.out.trans (hbr.mono HB4.out.size))
          have HM6 := Lib.hid (own_below HM4.out hbr)
          have HN6 := Lib.hid (own_below HN4.out hbr)
          have HLV := Lib.hid (live4 wr (HT0.out.later HBE.out))
          clear HL hbr hcs hm hk
          generalize wr = w6 at *
          go_wp2_with fail
          with_reducible refine (HLV.out).mono ?_
          rintro e w7 ⟨rfl, hb7⟩
          have HSM : Hid (SmC A2 A4 k cap2 cap4 w7) := Lib.hid (by
            have h1 := own_below HM6.out hb7
            have h2 := own_below HN6.out hb7
            rw [HNN.out] at h1 h2 ⊢
            exact same_any A2 A4 cap2 cap4 its w7 (by rw [← HNN.out]; omega) (items_own h1) (items_own h2))
          have HB7 := Lib.hid (HBE.out.trans (hb7.mono HBE.out.size))
          clear hb7 HLV HM6 HN6
          go_wp2_with fail
          with_reducible refine (HSM.out.call).mono ?_
          rintro e w8 ⟨rfl, hb8⟩
          have HB8 := Lib.hid (HB0.out.trans ((HB7.out.trans (hb8.mono HB7.out.size)).mono HB0.out.size))
          clear hb8 HSM
          go_wp2_with fail
          go_ret
          exact ⟨rfl, HB8.out⟩
end Go.Proofs.YtadhhamfikpimaaDoor.I
