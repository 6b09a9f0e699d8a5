/-
  The law MyersLongest.
-/
import Derived.Test.YtmloggjcincnbaaGMyN
import Derived.BigQuiet
namespace Go.Proofs.Ytmloggjcincnbaa.M
set_option linter.unusedVariables false
set_option linter.unusedSimpArgs false
open Go.RowKit
open T
open V (IntsIn numCells numCells_snoc ints_own drawn_below rints_any)
open I (alloc1 own_at own_below)
open N (prCells prCells_snoc prCells_length PrIn pr_own pair_eql')

set_option maxRecDepth 100000 in
set_option maxHeartbeats 4000000 in
theorem mlongest_law {A B C : Option Addr} {a b : List Int} {ps : List UInt8} {ca cb cc : Nat} {w : World} (hA : IntsIn w A a) (hB : IntsIn w B b) (hC : BytesIn w C ps) (ha : a.length ≤ maxLen) (hb : b.length ≤ maxLen) (hc : ps.length ≤ maxLen) (hca : a.length ≤ ca) (hcb : b.length ≤ cb) :
    Calls Try.prog 4 #[.slice A a.length ca, .slice B b.length cb, .slice C ps.length cc] w fun e w' => e = .returned (.bool true) ∧ Below w.heap.size w w' := by
  unfold maxLen at hc
  have HL := Lib.hid live7
  have HFA := Lib.hid (fun W => few_any A a ca W ha hca)
  have HFB := Lib.hid (fun W => few_any B b cb W hb hcb)
  have HA := Lib.hid (ints_take hA 40)
  have HB := Lib.hid (ints_take hB 40)
  have HC := Lib.hid hC
  have h1 : (a.take 40).length ≤ 40 := List.length_take_le _ _
  have h2 : (b.take 40).length ≤ 40 := List.length_take_le _ _
  clear hA hB hC ha hb hca hcb
  generalize a.take 40 = x at *
  generalize b.take 40 = y at *
  have HXY := Lib.hid (fun (W : World) (h : Below w.heap.size w W) => dist_any A B x y ca cb W (HA.out.below h) (HB.out.below h) (by omega) (by omega))
  have HP1 := Lib.hid (fun (W : World) (h : Below w.heap.size w W) => pairs_any A B x y ca cb W (HA.out.below h) (HB.out.below h) (by omega) (by omega))
  have HPL := Lib.hid (pairs_length x y)
  have HPG := Lib.hid (pairs_good x y)
  go_enter Try.func4, Try.ntmps4
  go_wp2_with fail
  with_reducible refine (HFA.out _).mono ?_
  rintro e w' ⟨rfl, rfl⟩
  go_wp2_with fail
  with_reducible refine (HFB.out _).mono ?_
  rintro e w' ⟨rfl, rfl⟩
  obtain ⟨la, hla⟩ : ∃ n, n = x.length := ⟨_, rfl⟩
  obtain ⟨lb, hlb⟩ : ∃ n, n = y.length := ⟨_, rfl⟩
  obtain ⟨lp, hlp⟩ : ∃ n, n = ps.length := ⟨_, rfl⟩
  have HLN := Lib.hid (And.intro hla (And.intro hlb hlp))
  rw [← hla] at h1 HXY HP1 ⊢
  rw [← hlb] at h2 HXY HP1 ⊢
  rw [← hlp] at hc ⊢
  clear hla hlb hlp
  go_wp2_with fail
  go_loopg [7, 8, 9, 10] lp (fun mm s7 s8 s9 s10 wr => ∃ (n at' p i : Nat) (lst : Int), s7 = .int .i64 (n : Int) ∧ s8 = .int .i64 (at' : Int) ∧ s9 = .int .i64 lst ∧ s10 = .int .i64 (i : Int) ∧ n ≤ 40 ∧ at' ≤ lb ∧ i ≤ lp ∧ lp - i ≤ mm ∧ -1 ≤ lst ∧ lst ≤ 40 ∧ Hid (lst = (p : Int) - 1) ∧ Hid (Cm x y p at' n) ∧ ∃ q, wr = w.drewN q)
  case atStart => exact ⟨0, 0, 0, 0, -1, rfl, rfl, rfl, rfl, by omega, by omega, by omega, by omega, by omega, by omega, Lib.hid (by omega), Lib.hid (Cm.start x y), 0, rfl⟩
  case round =>
    obtain ⟨n, at', p, i, lst, rfl, rfl, rfl, rfl, hn, hat, hi, hmm, hl1, hl2, HLS, HCM, q, rfl⟩ := hrel
    by_cases hlt : i < lp
    · obtain ⟨bk, off, hCe, hbk, hI⟩ := HC.out (by have := HLN.out; omega)
      have c0 := hI i (by have := HLN.out; omega)
      obtain ⟨kk, hkk⟩ : ∃ k : Nat, k = (ps[i]'(by have := HLN.out; omega)).toNat := ⟨_, rfl⟩
      rw [← hkk] at c0
      have hk8 : kk < 256 := by rw [hkk]; exact UInt8.toNat_lt _
      have k0 : (0 : Int) ≤ (i : Int) := by omega
      have k1 : (i : Int) < (lp : Int) := by omega
      clear hkk hI
      subst hCe
      by_cases hc1 : (kk : Int) ≤ lst
      · go_wp2_with fail
        go_roundg (lp - (i + 1))
        case measure => omega
        case rel => exact ⟨n, at', p, i + 1, lst, rfl, rfl, rfl, by go_num, hn, hat, by omega, Nat.le_refl _, hl1, hl2, HLS, HCM, q, rfl⟩
      · by_cases hc2 : la ≤ kk
        · have hd1 : decide ((kk : Int) ≤ lst) = false := decide_eq_false hc1
          go_wp2_with fail
          go_roundg (lp - (i + 1))
          case measure => omega
          case rel => exact ⟨n, at', p, i + 1, lst, rfl, rfl, rfl, by go_num, hn, hat, by omega, Nat.le_refl _, hl1, hl2, HLS, HCM, q, rfl⟩
        · have hd1 : decide ((kk : Int) ≤ lst) = false := decide_eq_false hc1
          have hd2 : decide (la ≤ kk) = false := decide_eq_false hc2
          have hka : kk < la := by omega
          have hkx : kk < x.length := by have := HLN.out; omega
          obtain ⟨bka, offa, hAe, hbka, hIA⟩ := HA.out (by omega)
          subst hAe
          have d0 := hIA kk hkx
          have HKV : Hid (∀ v, v = x[kk] → ∀ j (hj : j < y.length), p ≤ kk → at' ≤ j → y[j] = v → Cm x y (kk + 1) (j + 1) (n + 1)) := Lib.hid (fun v hv j hj h1 h2 h3 => HCM.out.next h1 h2 hkx hj (h3.trans hv))
          obtain ⟨v, hv⟩ : ∃ v, v = x[kk] := ⟨_, rfl⟩
          rw [← hv] at d0
          have HKV2 := Lib.hid (HKV.out v hv)
          have j0 : (0 : Int) ≤ (kk : Int) := by omega
          have j1 : (kk : Int) < (la : Int) := by omega
          obtain ⟨wo, hwo⟩ : ∃ W : World, W = w.drewN q := ⟨_, rfl⟩
          have HWO := Lib.hid hwo
          have hpk : Hid (p ≤ kk) := Lib.hid (by have := HLS.out; omega)
          clear hv hIA HKV hkx hwo
          go_wp2_with fail
          go_loopg [12] lb (fun mm s12 wr => ∃ (j : Nat), s12 = .int .i64 (j : Int) ∧ at' ≤ j ∧ j ≤ lb ∧ lb - j ≤ mm ∧ ∃ q', wr = w.drewN q')
          case atStart => exact ⟨at', rfl, Nat.le_refl _, hat, by omega, q, rfl⟩
          case round =>
            obtain ⟨j, rfl, hj1, hj2, hmm2, q', rfl⟩ := hrel
            by_cases hjb : j < lb
            · have hjy : j < y.length := by have := HLN.out; omega
              obtain ⟨bkb, offb, hBe, hbkb, hIB⟩ := HB.out (by omega)
              subst hBe
              have e0 := hIB j hjy
              have HCN := Lib.hid (fun (u : Int) (hu : u = y[j]) (h : u = v) => HKV2.out j hjy hpk.out hj1 (hu.symm.trans h))
              obtain ⟨u, hu⟩ : ∃ u, u = y[j] := ⟨_, rfl⟩
              rw [← hu] at e0
              have HCN2 := Lib.hid (HCN.out u hu)
              have m0 : (0 : Int) ≤ (j : Int) := by omega
              have m1 : (j : Int) < (lb : Int) := by omega
              clear hu hIB HCN hjy
              by_cases he : u = v
              · have HCN3 := Lib.hid (HCN2.out he)
                subst he
                have hne : (u != u) = false := by simp
                have hn40 : Hid (n + 1 ≤ 40) := Lib.hid (by have := HCN3.out.2.1; have := HCN3.out.2.2.2.1; omega)
                clear HCN2
                go_wp2_with fail
                go_quiet (fail)
                go_wp2_with fail
                go_roundg (lp - (i + 1))
                case measure => omega
                case rel => exact ⟨n + 1, j + 1, kk + 1, i + 1, (kk : Int), by go_num, by go_num, rfl, by go_num, hn40.out, by omega, by omega, Nat.le_refl _, by omega, by omega, Lib.hid (by omega), HCN3, _, rfl⟩
              · have hne : (u != v) = true := by simpa using he
                clear HCN2
                go_wp2_with fail
                go_quiet (fail)
                go_wp2_with fail
                go_roundg (lb - (j + 1))
                case measure => omega
                case rel => exact ⟨j + 1, by go_num, by omega, by omega, Nat.le_refl _, _, rfl⟩
            · have hjd : decide (j < lb) = false := decide_eq_false hjb
              have hje : ¬ ((j : Int) < (lb : Int)) := by omega
              go_wp2_with fail
              go_quiet (fail)
              go_wp2_with fail
              go_roundg (lp - (i + 1))
              case measure => omega
              case rel => exact ⟨n, at', p, i + 1, lst, rfl, rfl, rfl, by go_num, hn, hat, by omega, Nat.le_refl _, hl1, hl2, HLS, HCM, _, rfl⟩
    · have hie : i = lp := by omega
      have HMOST := Lib.hid HCM.out.most
      have HP2 := Lib.hid (HP1.out (w.drewN q) (drawn_below w q))
      obtain ⟨P, hP⟩ : ∃ P, P = pairs x y := ⟨_, rfl⟩
      rw [← hP] at HMOST HP2 HPL HPG
      have hpl : P.length ≤ 40 := by have := HPL.out; have := HLN.out; omega
      have hnp : n ≤ P.length := HMOST.out
      clear hP hie
      go_wp2_with fail
      with_reducible refine (HP2.out).mono ?_
      rintro e w2 ⟨PA, pc, rfl, ho, hb2⟩
      have HPI := Lib.hid (pr_own ho)
      have HB2 : Hid (Below w.heap.size w w2) := Lib.hid ((drawn_below w q).trans (hb2.mono (by simp)))
      obtain ⟨np, hnpl⟩ : ∃ n, n = P.length := ⟨_, rfl⟩
      have HNP := Lib.hid hnpl
      rw [← hnpl] at hpl hnp ⊢
      clear ho hb2 hnpl HP2
      go_wp2_with fail
      go_loopg [14] np (fun mm s14 wr => ∃ t : Nat, s14 = .int .i64 (t : Int) ∧ t ≤ np ∧ np - t ≤ mm ∧ ∃ q, wr = w2.drewN q)
      case atStart => exact ⟨0, rfl, Nat.zero_le _, by omega, 0, rfl⟩
      case round =>
        obtain ⟨t, rfl, ht, hmm3, q3, rfl⟩ := hrel
        by_cases htl : t < np
        · have htP : t < P.length := by have := HNP.out; omega
          obtain ⟨pg, po, hPA, hpgl, hpc⟩ := HPI.out (by omega)
          subst hPA
          obtain ⟨c0, c1⟩ := hpc t htP
          obtain ⟨pp, qq, he, -, -, hpx, hqy, hxy⟩ := HPG.out.1 t htP
          rw [he] at c0 c1
          simp only at c0 c1
          obtain ⟨bka, offa, hAe, hbka, hIA⟩ := (HA.out.below HB2.out) (by omega)
          obtain ⟨bkb, offb, hBe, hbkb, hIB⟩ := (HB.out.below HB2.out) (by omega)
          subst hAe hBe
          have d0 := hIA pp hpx
          have e0 := hIB qq hqy
          rw [hxy] at d0
          generalize y[qq] = u at d0 e0
          have hne : (u != u) = false := by simp
          have hpa : pp < la := by have := HLN.out; omega
          have hqb : qq < lb := by have := HLN.out; omega
          have p0 : (0 : Int) ≤ (pp : Int) := by omega
          have p1 : (pp : Int) < (la : Int) := by omega
          have q0 : (0 : Int) ≤ (qq : Int) := by omega
          have q1 : (qq : Int) < (lb : Int) := by omega
          have t0 : (0 : Int) ≤ (t : Int) := by omega
          have t1 : (t : Int) < (np : Int) := by omega
          have b1 : decide (la ≤ pp) = false := decide_eq_false (by omega)
          have n1 : decide ((pp : Int) < 0) = false := decide_eq_false (by omega)
          have n2 : decide ((qq : Int) < 0) = false := decide_eq_false (by omega)
          have b2 : decide (lb ≤ qq) = false := decide_eq_false (by omega)
          by_cases htz : t = 0
          · have z1 : decide (0 < t) = false := decide_eq_false (by omega)
            have z2 : decide ((0 : Int) < (t : Int)) = false := decide_eq_false (by omega)
            clear hIA hIB hxy hpc he htz
            go_wp2_with fail
            refine wp_region_quiet_lit (by kernel_rfl) (by kernel_rfl) ?_
            simp only [List.append_eq, List.cons_append, List.nil_append]
            repeat (go_big_quiet_step (fail))
            refine wpQuiet_nil ?_
            intro _ hw'
            obtain ⟨nq, hw''⟩ := hw'
            subst hw''
            go_wp2_with fail
            go_roundg (np - (t + 1))
            case measure => omega
            case rel => exact ⟨t + 1, by go_num, by omega, Nat.le_refl _, _, rfl⟩
          · obtain ⟨s, hs⟩ : ∃ s, s + 1 = t := ⟨t - 1, by omega⟩
            have hsP : s < P.length := by omega
            obtain ⟨f0, f1⟩ := hpc s hsP
            obtain ⟨p', q', he', -, -, -⟩ := HPG.out.1 s hsP
            have hrise := HPG.out.2 s (by omega)
            simp only [hs, he, he'] at hrise
            rw [he'] at f0 f1
            simp only at f0 f1
            have g1 : decide (pp ≤ p') = false := decide_eq_false (by omega)
            have g2 : decide (qq ≤ q') = false := decide_eq_false (by omega)
            have s0 : (0 : Int) ≤ (s : Int) := by omega
            have s1 : (s : Int) < (np : Int) := by omega
            have ws : IntKind.i64.wrap ((t : Int) - 1) = (s : Int) := by rw [IntKind.wrap_i64]; omega
            have ws2 : (t : Int) - 1 = (s : Int) := by omega
            have htp : 0 < t := by omega
            clear hIA hIB hxy hpc he he' hrise hs ws2
            go_wp2_with fail
            refine wp_region_quiet_lit (by kernel_rfl) (by kernel_rfl) ?_
            simp only [List.append_eq, List.cons_append, List.nil_append]
            repeat (go_big_quiet_step (fail))
            refine wpQuiet_nil ?_
            intro _ hw'
            obtain ⟨nq, hw''⟩ := hw'
            subst hw''
            clear ws
            go_wp2_with fail
            go_roundg (np - (t + 1))
            case measure => omega
            case rel => exact ⟨t + 1, by go_num, by omega, Nat.le_refl _, _, rfl⟩
        · have hte : t = np := by omega
          have HD2 := Lib.hid (fun (W : World) (h : Below w.heap.size w W) => HXY.out W h)
          obtain ⟨d, hd⟩ : ∃ d : Int, d = ((ed x y : Nat) : Int) := ⟨_, rfl⟩
          rw [← hd] at HD2
          have hdd : (d == (la : Int) + lb - 2 * np) = true := by
            rw [beq_iff_eq]; have := HPL.out; have := HLN.out; have := HNP.out; omega
          clear hd hte
          go_wp2_with fail
          with_reducible refine (HL.out.at _).mono ?_
          rintro e w3 ⟨rfl, hb3⟩
          have HB3 : Hid (Below w.heap.size w w3) := Lib.hid (HB2.out.trans (((drawn_below w2 q3).trans (hb3.mono (by simp))).mono HB2.out.size))
          clear hb3
          go_wp2_with fail
          with_reducible refine (HD2.out w3 HB3.out).mono ?_
          rintro e w4 ⟨rfl, hb4⟩
          go_wp2_with fail
          go_ret
          exact ⟨rfl, HB3.out.trans (hb4.mono HB3.out.size)⟩
end Go.Proofs.Ytmloggjcincnbaa.M
