/-
  The library's merge of two rows of floats in order, the other way.
-/
import Derived.Test.YtngboallknmepaaGxag
namespace Go.Proofs.Ytngboallknmepaa.Fp
set_option linter.unusedVariables false
set_option linter.unusedSimpArgs false
open Go.RowKit Go.Sort Go.Shelf
open T
open I (alloc1 own_at own_below)

set_option maxHeartbeats 8000000 in
set_option maxRecDepth 1000000 in
theorem sym_small {N : Nat} (hIH : SymOK N) {a m b : Nat} (d0 d : Array UInt64) (blk off cap : Nat) (w0 w : World) (ham : a < m) (hmb : m < b) (ha2 : a + 1 < m) (hb2 : m + 1 < b) (hN : b - a ≤ N + 1) (hside : m ≤ (a + b) / 2) (hb : b ≤ d.size) (hsz : d.size ≤ 1000000) (R : Row1 encF w0 blk off d0) (hs : d0.size = d.size) (S : SW encF w0 blk off d w) (hA : Sd a m d) (hB : Sd m b d) :
    Calls Try.prog 50 #[.slice (some ⟨blk, off, none⟩) d.size cap, .int .i64 a, .int .i64 m, .int .i64 b, .func (.func 14) #[] #[]] w fun e w' =>
      e = .returned (.tuple #[]) ∧ ∃ d', SW encF w0 blk off d' w' ∧ PermIn a b d d' ∧ Sd a b d' := by
  have S0 := Lib.hid S
  have HR := Lib.hid R
  have HA := Lib.hid hA
  have HB := Lib.hid hB
  have mixed : Try.prog.follows .mixedOrders = true := insFl.mixed
  have eg := enters
  clear S R hA hB
  obtain ⟨ds, hds⟩ : ∃ q, q = d.size := ⟨_, rfl⟩
  rw [← hds]
  have HDS := Lib.hid hds
  have HSZ : Hid (d0.size = ds) := Lib.hid (hs.trans hds.symm)
  have HD1 : Hid (d0.size = d.size) := Lib.hid hs
  rw [← hds] at hb hsz
  clear hs hds
  have IH := Lib.hid hIH
  clear hIH
  have hma : ((m : Int) - (a : Int) == 1) = false := beq_eq_false_iff_ne.2 (by omega)
  have hbm : ((b : Int) - (m : Int) == 1) = false := beq_eq_false_iff_ne.2 (by omega)
  obtain ⟨md, hmd⟩ : ∃ md : Nat, md = (a + b) / 2 := ⟨_, rfl⟩
  have emd : ((a : Int) + (b : Int)) / 2 = (md : Int) := by omega
  rw [← hmd] at hside
  have hm1 : a < md := by omega
  have hm2 : md < b := by omega
  have hm3 : 2 * md ≤ a + b := by omega
  have hm4 : a + b ≤ 2 * md + 1 := by omega
  have hsz2 : ¬ (md : Int) < (m : Int) := by omega
  clear hmd
  go_enter Try.func50, Try.ntmps50
  go_upto_region 25 with fail
  clear emd
  go_wp2_with fail
  go_loopg [20, 21] (m - a) (fun kx si sj wr => ∃ (i j : Nat), si = .int .i64 i ∧ sj = .int .i64 j ∧ a ≤ i ∧ i ≤ j ∧ j ≤ m ∧ j - i ≤ kx ∧ Hid (SW encF w0 blk off d wr) ∧ Hid (i = a ∨ Kd d (i - 1) ≤ Kd d (md + m - i)) ∧ Hid (j = m ∨ Kd d (md + m - 1 - j) < Kd d j))
  case atStart => exact ⟨a, m, by first | rfl | (congr 1; omega), rfl, Nat.le_refl _, by omega, Nat.le_refl _, Nat.le_refl _, S0, Lib.hid (.inl rfl), Lib.hid (.inl rfl)⟩
  case round =>
    clear S0
    obtain ⟨i, j, rfl, rfl, hi, hij, hj, hmx, S1, HI, HJ⟩ := hrel
    by_cases hlt : i < j
    · have hltz : (i : Int) < (j : Int) := by omega
      go_upto_region 35 with fail
      obtain ⟨h, hh⟩ : ∃ h : Nat, h = (i + j) / 2 := ⟨_, rfl⟩
      have eh : ((i : Int) + (j : Int)) / 2 = (h : Int) := by omega
      rw [eh]
      have hh1 : i ≤ h := by omega
      have hh2 : h < j := by omega
      have hz0 : (0 : Int) ≤ (h : Int) := by omega
      have hz1 : (h : Int) < (ds : Int) := by omega
      obtain ⟨t, ht⟩ : ∃ t : Nat, t = md + m - 1 - h := ⟨_, rfl⟩
      have et : (md : Int) + (m : Int) - 1 - (h : Int) = (t : Int) := by omega
      have tz0 : (0 : Int) ≤ (md : Int) + (m : Int) - 1 - (h : Int) := by omega
      have tz1 : (md : Int) + (m : Int) - 1 - (h : Int) < (ds : Int) := by omega
      have tz2 : ((md : Int) + (m : Int) - 1 - (h : Int)).toNat = t := by omega
      have HT := Lib.hid ht
      have htl : t < ds := by omega
      have hpl : t < d.size := by have := HDS.out; omega
      have hql : h < d.size := by have := HDS.out; omega
      have c1 := S1.out.c1 HR.out HD1.out.symm (t) hpl
      have c2 := S1.out.c1 HR.out HD1.out.symm (h) hql
      obtain ⟨x, hx⟩ : ∃ x, x = d[t]! := ⟨_, rfl⟩
      obtain ⟨y, hy⟩ : ∃ y, y = d[h]! := ⟨_, rfl⟩
      have HXK : Hid (Kd d (t) = ky x.toNat) := Lib.hid (by rw [hx]; rfl)
      have HYK : Hid (Kd d (h) = ky y.toNat) := Lib.hid (by rw [hy]; rfl)
      rw [← hx] at c1
      rw [← hy] at c2
      clear hx hy
      clear hh eh ht et
      by_cases hc : ky x.toNat < ky y.toNat
      · have hd : decide (cmp (ky x.toNat) (ky y.toNat) < 0) = true := decide_eq_true (cmp_lt.2 hc)
        have HC := Lib.hid hc
        clear hc
        go_wp2_with fail
        go_quiet (first | (go_at_fn 14; refine Calls.quiet_of_same (order_any _ _ (u_lt _) (u_lt _) _)))
        go_wp2_with fail
        go_roundg (h - i)
        case measure => omega
        case rel => exact ⟨i, h, rfl, rfl, hi, hh1, by omega, Nat.le_refl _, Lib.hid (S1.out.drewN nq), HI, Lib.hid (.inr (by rw [← HT.out, HXK.out, HYK.out]; exact HC.out))⟩
      · have hd : decide (cmp (ky x.toNat) (ky y.toNat) < 0) = false := decide_eq_false (fun h => hc (cmp_lt.1 h))
        have HC := Lib.hid (Int.not_lt.1 hc)
        clear hc
        go_wp2_with fail
        go_quiet (first | (go_at_fn 14; refine Calls.quiet_of_same (order_any _ _ (u_lt _) (u_lt _) _)))
        go_wp2_with fail
        go_roundg (j - (h + 1))
        case measure => omega
        case rel => exact ⟨h + 1, j, by go_num, rfl, by omega, by omega, hj, Nat.le_refl _, Lib.hid (S1.out.drewN nq), Lib.hid (.inr (by rw [show md + m - (h + 1) = t by have := HT.out; omega, show h + 1 - 1 = h by omega, HXK.out, HYK.out]; exact HC.out)), HJ⟩
    · obtain rfl : i = j := by omega
      obtain ⟨en, hen⟩ : ∃ en : Nat, en = md + m - i := ⟨_, rfl⟩
      have een : (md : Int) + (m : Int) - (i : Int) = (en : Int) := by omega
      have HH : Hid (Hp a m b md i en d) := Lib.hid ⟨by omega, by omega, by omega, by omega, by omega, by omega, by omega, fun q1 q2 => by
        rcases HI.out with h | h
        · omega
        · rw [← hen] at h; exact h, fun q1 q2 => by
        rcases HJ.out with h | h
        · omega
        · rw [show en - 1 = md + m - 1 - i by omega]; exact h⟩
      have HEN := Lib.hid hen
      clear hen
      go_upto_region 39 with fail
      have hq := HH.out
      have g1 := hq.a0
      have g2 := hq.a1
      have g3 := hq.a2
      have g4 := hq.b0
      have g5 := hq.b1
      have g6 := hq.b2
      clear een hq HI HJ hmx
      by_cases r1 : i < m
      · have rz1 : (i : Int) < (m : Int) := by omega
        by_cases r2 : m < en
        · have rz2 : (m : Int) < (en : Int) := by omega
          have hc := rotate_any (.func (.func 14) #[] #[]) blk off cap i m en d0 d w0 wr HR.out HD1.out S1.out r1 r2 (by rw [← HDS.out]; omega) (by rw [← HDS.out]; exact hsz)
          rw [← HDS.out] at hc
          have HC := Lib.hid hc
          clear hc
          go_upto_region 41 with (go_at_call 53; refine HC.out.mono ?_; rintro e wt ⟨rfl, d1, S1', P1, e1⟩)
          have HP1 : Hid (PermIn a b d d1) := Lib.hid (permIn_mono _ _ _ _ _ _ (by omega) (by omega) (by rw [← HDS.out]; omega) P1)
          have HE1 := Lib.hid (HH.out.parts HA.out HB.out e1)
          have S4 := Lib.hid S1'
          clear e1 P1 S1' HC S1
          have HS1 : Hid (d1.size = ds) := Lib.hid (by rw [HP1.out.1, HDS.out])
          by_cases s1 : a < i
          · have sz1 : (a : Int) < (i : Int) := by omega
            by_cases s2 : i < md
            · have sz2 : (i : Int) < (md : Int) := by omega
              have hc := IH.out a i md d0 d1 blk off cap w0 wt (by omega) (by omega) (by omega) (by rw [HS1.out]; omega) (by rw [HS1.out]; exact hsz) HR.out (by rw [HSZ.out, HS1.out]) S4.out HE1.out.2.1 HE1.out.2.2.1
              rw [HS1.out] at hc
              have HC := Lib.hid hc
              clear hc S4
              go_upto_region 43 with (go_at_call 50; refine HC.out.mono ?_; rintro e w2 ⟨rfl, d2, S5', P2, D2⟩)
              have HP2 := Lib.hid P2
              have HD2 := Lib.hid D2
              have S5 := Lib.hid S5'
              clear P2 D2 S5' HC
              have HF3 : Hid (Sd md en d2) := Lib.hid (HE1.out.2.2.2.1.congr (fun x x1 _ => HP2.out.2.1 x (.inr x1)))
              have HF4 : Hid (Sd en b d2) := Lib.hid (HE1.out.2.2.2.2.congr (fun x x1 _ => HP2.out.2.1 x (.inr (by omega))))
              have HS2 : Hid (d2.size = ds) := Lib.hid (by rw [HP2.out.1]; exact HS1.out)
              by_cases t1 : md < en
              · have tz1 : (md : Int) < (en : Int) := by omega
                by_cases t2 : en < b
                · have tz2 : (en : Int) < (b : Int) := by omega
                  have hc := IH.out md en b d0 d2 blk off cap w0 w2 (by omega) (by omega) (by omega) (by rw [HS2.out]; exact hb) (by rw [HS2.out]; exact hsz) HR.out (by rw [HSZ.out, HS2.out]) S5.out HF3.out HF4.out
                  rw [HS2.out] at hc
                  have HC := Lib.hid hc
                  clear hc S5
                  go_wp2_with (go_at_call 50; refine HC.out.mono ?_; rintro e w3 ⟨rfl, d3, S6', P3, D3⟩)
                  have HP3 := Lib.hid P3
                  have HD3 := Lib.hid D3
                  have S6 := Lib.hid S6'
                  go_end0
                  have hX := (HE1.out.1.left (by rw [HS1.out]; omega) HP2.out).right (by rw [HS2.out]; exact hb) HP3.out
                  refine ⟨rfl, d3, S6.out, ?_, hX.both (HD2.out.congr (fun x x1 x2 => HP3.out.2.1 x (.inl x2))) HD3.out⟩
                  have p2 := permIn_mono _ _ _ _ a b (Nat.le_refl _) (by omega) (by rw [HS1.out]; exact hb) HP2.out
                  have p3 := permIn_mono _ _ _ _ a b (by omega) (Nat.le_refl _) (by rw [HS2.out]; exact hb) HP3.out
                  exact permIn_trans _ _ _ _ _ HP1.out (permIn_trans _ _ _ _ _ p2 p3)
                · have tz2 : ¬ (en : Int) < (b : Int) := by omega
                  obtain ⟨d3, hd3⟩ : ∃ d3, d3 = d2 := ⟨_, rfl⟩
                  have HP3 : Hid (PermIn md b d2 d3) := Lib.hid (by rw [hd3]; exact permIn_refl _ _ _)
                  have HD3 : Hid (Sd md b d3) := Lib.hid (by
                    rw [hd3]
                    rcases Nat.lt_or_ge md en with q | q
                    · have e : en = b := by omega
                      rw [← e]; exact HF3.out
                    · have e : en = md := by omega
                      rw [← e]; exact HF4.out)
                  have S6 : Hid (SW encF w0 blk off d3 w2) := Lib.hid (by rw [hd3]; exact S5.out)
                  clear hd3 S5
                  go_wp2_with fail
                  go_end0
                  have hX := (HE1.out.1.left (by rw [HS1.out]; omega) HP2.out).right (by rw [HS2.out]; exact hb) HP3.out
                  refine ⟨rfl, d3, S6.out, ?_, hX.both (HD2.out.congr (fun x x1 x2 => HP3.out.2.1 x (.inl x2))) HD3.out⟩
                  have p2 := permIn_mono _ _ _ _ a b (Nat.le_refl _) (by omega) (by rw [HS1.out]; exact hb) HP2.out
                  have p3 := permIn_mono _ _ _ _ a b (by omega) (Nat.le_refl _) (by rw [HS2.out]; exact hb) HP3.out
                  exact permIn_trans _ _ _ _ _ HP1.out (permIn_trans _ _ _ _ _ p2 p3)
              · have tz1 : ¬ (md : Int) < (en : Int) := by omega
                obtain ⟨d3, hd3⟩ : ∃ d3, d3 = d2 := ⟨_, rfl⟩
                have HP3 : Hid (PermIn md b d2 d3) := Lib.hid (by rw [hd3]; exact permIn_refl _ _ _)
                have HD3 : Hid (Sd md b d3) := Lib.hid (by
                  rw [hd3]
                  rcases Nat.lt_or_ge md en with q | q
                  · have e : en = b := by omega
                    rw [← e]; exact HF3.out
                  · have e : en = md := by omega
                    rw [← e]; exact HF4.out)
                have S6 : Hid (SW encF w0 blk off d3 w2) := Lib.hid (by rw [hd3]; exact S5.out)
                clear hd3 S5
                go_wp2_with fail
                go_end0
                have hX := (HE1.out.1.left (by rw [HS1.out]; omega) HP2.out).right (by rw [HS2.out]; exact hb) HP3.out
                refine ⟨rfl, d3, S6.out, ?_, hX.both (HD2.out.congr (fun x x1 x2 => HP3.out.2.1 x (.inl x2))) HD3.out⟩
                have p2 := permIn_mono _ _ _ _ a b (Nat.le_refl _) (by omega) (by rw [HS1.out]; exact hb) HP2.out
                have p3 := permIn_mono _ _ _ _ a b (by omega) (Nat.le_refl _) (by rw [HS2.out]; exact hb) HP3.out
                exact permIn_trans _ _ _ _ _ HP1.out (permIn_trans _ _ _ _ _ p2 p3)
            · have sz2 : ¬ (i : Int) < (md : Int) := by omega
              go_upto_region 43 with fail
              obtain ⟨d2, hd2⟩ : ∃ d2, d2 = d1 := ⟨_, rfl⟩
              have HP2 : Hid (PermIn a md d1 d2) := Lib.hid (by rw [hd2]; exact permIn_refl _ _ _)
              have HD2 : Hid (Sd a md d2) := Lib.hid (by
                rw [hd2]
                have e : i = md := by omega
                have q := HE1.out.2.1
                rw [e] at q
                exact q)
              have S5 : Hid (SW encF w0 blk off d2 wt) := Lib.hid (by rw [hd2]; exact S4.out)
              clear hd2 S4
              have HF3 : Hid (Sd md en d2) := Lib.hid (HE1.out.2.2.2.1.congr (fun x x1 _ => HP2.out.2.1 x (.inr x1)))
              have HF4 : Hid (Sd en b d2) := Lib.hid (HE1.out.2.2.2.2.congr (fun x x1 _ => HP2.out.2.1 x (.inr (by omega))))
              have HS2 : Hid (d2.size = ds) := Lib.hid (by rw [HP2.out.1]; exact HS1.out)
              by_cases t1 : md < en
              · have tz1 : (md : Int) < (en : Int) := by omega
                by_cases t2 : en < b
                · have tz2 : (en : Int) < (b : Int) := by omega
                  have hc := IH.out md en b d0 d2 blk off cap w0 wt (by omega) (by omega) (by omega) (by rw [HS2.out]; exact hb) (by rw [HS2.out]; exact hsz) HR.out (by rw [HSZ.out, HS2.out]) S5.out HF3.out HF4.out
                  rw [HS2.out] at hc
                  have HC := Lib.hid hc
                  clear hc S5
                  go_wp2_with (go_at_call 50; refine HC.out.mono ?_; rintro e w3 ⟨rfl, d3, S6', P3, D3⟩)
                  have HP3 := Lib.hid P3
                  have HD3 := Lib.hid D3
                  have S6 := Lib.hid S6'
                  go_end0
                  have hX := (HE1.out.1.left (by rw [HS1.out]; omega) HP2.out).right (by rw [HS2.out]; exact hb) HP3.out
                  refine ⟨rfl, d3, S6.out, ?_, hX.both (HD2.out.congr (fun x x1 x2 => HP3.out.2.1 x (.inl x2))) HD3.out⟩
                  have p2 := permIn_mono _ _ _ _ a b (Nat.le_refl _) (by omega) (by rw [HS1.out]; exact hb) HP2.out
                  have p3 := permIn_mono _ _ _ _ a b (by omega) (Nat.le_refl _) (by rw [HS2.out]; exact hb) HP3.out
                  exact permIn_trans _ _ _ _ _ HP1.out (permIn_trans _ _ _ _ _ p2 p3)
                · have tz2 : ¬ (en : Int) < (b : Int) := by omega
                  obtain ⟨d3, hd3⟩ : ∃ d3, d3 = d2 := ⟨_, rfl⟩
                  have HP3 : Hid (PermIn md b d2 d3) := Lib.hid (by rw [hd3]; exact permIn_refl _ _ _)
                  have HD3 : Hid (Sd md b d3) := Lib.hid (by
                    rw [hd3]
                    rcases Nat.lt_or_ge md en with q | q
                    · have e : en = b := by omega
                      rw [← e]; exact HF3.out
                    · have e : en = md := by omega
                      rw [← e]; exact HF4.out)
                  have S6 : Hid (SW encF w0 blk off d3 wt) := Lib.hid (by rw [hd3]; exact S5.out)
                  clear hd3 S5
                  go_wp2_with fail
                  go_end0
                  have hX := (HE1.out.1.left (by rw [HS1.out]; omega) HP2.out).right (by rw [HS2.out]; exact hb) HP3.out
                  refine ⟨rfl, d3, S6.out, ?_, hX.both (HD2.out.congr (fun x x1 x2 => HP3.out.2.1 x (.inl x2))) HD3.out⟩
                  have p2 := permIn_mono _ _ _ _ a b (Nat.le_refl _) (by omega) (by rw [HS1.out]; exact hb) HP2.out
                  have p3 := permIn_mono _ _ _ _ a b (by omega) (Nat.le_refl _) (by rw [HS2.out]; exact hb) HP3.out
                  exact permIn_trans _ _ _ _ _ HP1.out (permIn_trans _ _ _ _ _ p2 p3)
              · have tz1 : ¬ (md : Int) < (en : Int) := by omega
                obtain ⟨d3, hd3⟩ : ∃ d3, d3 = d2 := ⟨_, rfl⟩
                have HP3 : Hid (PermIn md b d2 d3) := Lib.hid (by rw [hd3]; exact permIn_refl _ _ _)
                have HD3 : Hid (Sd md b d3) := Lib.hid (by
                  rw [hd3]
                  rcases Nat.lt_or_ge md en with q | q
                  · have e : en = b := by omega
                    rw [← e]; exact HF3.out
                  · have e : en = md := by omega
                    rw [← e]; exact HF4.out)
                have S6 : Hid (SW encF w0 blk off d3 wt) := Lib.hid (by rw [hd3]; exact S5.out)
                clear hd3 S5
                go_wp2_with fail
                go_end0
                have hX := (HE1.out.1.left (by rw [HS1.out]; omega) HP2.out).right (by rw [HS2.out]; exact hb) HP3.out
                refine ⟨rfl, d3, S6.out, ?_, hX.both (HD2.out.congr (fun x x1 x2 => HP3.out.2.1 x (.inl x2))) HD3.out⟩
                have p2 := permIn_mono _ _ _ _ a b (Nat.le_refl _) (by omega) (by rw [HS1.out]; exact hb) HP2.out
                have p3 := permIn_mono _ _ _ _ a b (by omega) (Nat.le_refl _) (by rw [HS2.out]; exact hb) HP3.out
                exact permIn_trans _ _ _ _ _ HP1.out (permIn_trans _ _ _ _ _ p2 p3)
          · have sz1 : ¬ (a : Int) < (i : Int) := by omega
            go_upto_region 43 with fail
            obtain ⟨d2, hd2⟩ : ∃ d2, d2 = d1 := ⟨_, rfl⟩
            have HP2 : Hid (PermIn a md d1 d2) := Lib.hid (by rw [hd2]; exact permIn_refl _ _ _)
            have HD2 : Hid (Sd a md d2) := Lib.hid (by
              rw [hd2]
              have e : i = a := by omega
              have q := HE1.out.2.2.1
              rw [e] at q
              exact q)
            have S5 : Hid (SW encF w0 blk off d2 wt) := Lib.hid (by rw [hd2]; exact S4.out)
            clear hd2 S4
            have HF3 : Hid (Sd md en d2) := Lib.hid (HE1.out.2.2.2.1.congr (fun x x1 _ => HP2.out.2.1 x (.inr x1)))
            have HF4 : Hid (Sd en b d2) := Lib.hid (HE1.out.2.2.2.2.congr (fun x x1 _ => HP2.out.2.1 x (.inr (by omega))))
            have HS2 : Hid (d2.size = ds) := Lib.hid (by rw [HP2.out.1]; exact HS1.out)
            by_cases t1 : md < en
            · have tz1 : (md : Int) < (en : Int) := by omega
              by_cases t2 : en < b
              · have tz2 : (en : Int) < (b : Int) := by omega
                have hc := IH.out md en b d0 d2 blk off cap w0 wt (by omega) (by omega) (by omega) (by rw [HS2.out]; exact hb) (by rw [HS2.out]; exact hsz) HR.out (by rw [HSZ.out, HS2.out]) S5.out HF3.out HF4.out
                rw [HS2.out] at hc
                have HC := Lib.hid hc
                clear hc S5
                go_wp2_with (go_at_call 50; refine HC.out.mono ?_; rintro e w3 ⟨rfl, d3, S6', P3, D3⟩)
                have HP3 := Lib.hid P3
                have HD3 := Lib.hid D3
                have S6 := Lib.hid S6'
                go_end0
                have hX := (HE1.out.1.left (by rw [HS1.out]; omega) HP2.out).right (by rw [HS2.out]; exact hb) HP3.out
                refine ⟨rfl, d3, S6.out, ?_, hX.both (HD2.out.congr (fun x x1 x2 => HP3.out.2.1 x (.inl x2))) HD3.out⟩
                have p2 := permIn_mono _ _ _ _ a b (Nat.le_refl _) (by omega) (by rw [HS1.out]; exact hb) HP2.out
                have p3 := permIn_mono _ _ _ _ a b (by omega) (Nat.le_refl _) (by rw [HS2.out]; exact hb) HP3.out
                exact permIn_trans _ _ _ _ _ HP1.out (permIn_trans _ _ _ _ _ p2 p3)
              · have tz2 : ¬ (en : Int) < (b : Int) := by omega
                obtain ⟨d3, hd3⟩ : ∃ d3, d3 = d2 := ⟨_, rfl⟩
                have HP3 : Hid (PermIn md b d2 d3) := Lib.hid (by rw [hd3]; exact permIn_refl _ _ _)
                have HD3 : Hid (Sd md b d3) := Lib.hid (by
                  rw [hd3]
                  rcases Nat.lt_or_ge md en with q | q
                  · have e : en = b := by omega
                    rw [← e]; exact HF3.out
                  · have e : en = md := by omega
                    rw [← e]; exact HF4.out)
                have S6 : Hid (SW encF w0 blk off d3 wt) := Lib.hid (by rw [hd3]; exact S5.out)
                clear hd3 S5
                go_wp2_with fail
                go_end0
                have hX := (HE1.out.1.left (by rw [HS1.out]; omega) HP2.out).right (by rw [HS2.out]; exact hb) HP3.out
                refine ⟨rfl, d3, S6.out, ?_, hX.both (HD2.out.congr (fun x x1 x2 => HP3.out.2.1 x (.inl x2))) HD3.out⟩
                have p2 := permIn_mono _ _ _ _ a b (Nat.le_refl _) (by omega) (by rw [HS1.out]; exact hb) HP2.out
                have p3 := permIn_mono _ _ _ _ a b (by omega) (Nat.le_refl _) (by rw [HS2.out]; exact hb) HP3.out
                exact permIn_trans _ _ _ _ _ HP1.out (permIn_trans _ _ _ _ _ p2 p3)
            · have tz1 : ¬ (md : Int) < (en : Int) := by omega
              obtain ⟨d3, hd3⟩ : ∃ d3, d3 = d2 := ⟨_, rfl⟩
              have HP3 : Hid (PermIn md b d2 d3) := Lib.hid (by rw [hd3]; exact permIn_refl _ _ _)
              have HD3 : Hid (Sd md b d3) := Lib.hid (by
                rw [hd3]
                rcases Nat.lt_or_ge md en with q | q
                · have e : en = b := by omega
                  rw [← e]; exact HF3.out
                · have e : en = md := by omega
                  rw [← e]; exact HF4.out)
              have S6 : Hid (SW encF w0 blk off d3 wt) := Lib.hid (by rw [hd3]; exact S5.out)
              clear hd3 S5
              go_wp2_with fail
              go_end0
              have hX := (HE1.out.1.left (by rw [HS1.out]; omega) HP2.out).right (by rw [HS2.out]; exact hb) HP3.out
              refine ⟨rfl, d3, S6.out, ?_, hX.both (HD2.out.congr (fun x x1 x2 => HP3.out.2.1 x (.inl x2))) HD3.out⟩
              have p2 := permIn_mono _ _ _ _ a b (Nat.le_refl _) (by omega) (by rw [HS1.out]; exact hb) HP2.out
              have p3 := permIn_mono _ _ _ _ a b (by omega) (Nat.le_refl _) (by rw [HS2.out]; exact hb) HP3.out
              exact permIn_trans _ _ _ _ _ HP1.out (permIn_trans _ _ _ _ _ p2 p3)
        · have rz2 : ¬ (m : Int) < (en : Int) := by omega
          go_upto_region 41 with fail
          obtain ⟨d1, hd1⟩ : ∃ d1, d1 = d := ⟨_, rfl⟩
          have HP1 : Hid (PermIn a b d d1) := Lib.hid (by rw [hd1]; exact permIn_refl _ _ _)
          have HE1 := Lib.hid (HH.out.parts (d1 := d1) HA.out HB.out (fun x => by rw [hd1]; exact (rt2_same (by omega) g2 g4 x).symm))
          have S4 : Hid (SW encF w0 blk off d1 wr) := Lib.hid (by rw [hd1]; exact S1.out)
          clear hd1 S1
          have HS1 : Hid (d1.size = ds) := Lib.hid (by rw [HP1.out.1, HDS.out])
          by_cases s1 : a < i
          · have sz1 : (a : Int) < (i : Int) := by omega
            by_cases s2 : i < md
            · have sz2 : (i : Int) < (md : Int) := by omega
              have hc := IH.out a i md d0 d1 blk off cap w0 wr (by omega) (by omega) (by omega) (by rw [HS1.out]; omega) (by rw [HS1.out]; exact hsz) HR.out (by rw [HSZ.out, HS1.out]) S4.out HE1.out.2.1 HE1.out.2.2.1
              rw [HS1.out] at hc
              have HC := Lib.hid hc
              clear hc S4
              go_upto_region 43 with (go_at_call 50; refine HC.out.mono ?_; rintro e w2 ⟨rfl, d2, S5', P2, D2⟩)
              have HP2 := Lib.hid P2
              have HD2 := Lib.hid D2
              have S5 := Lib.hid S5'
              clear P2 D2 S5' HC
              have HF3 : Hid (Sd md en d2) := Lib.hid (HE1.out.2.2.2.1.congr (fun x x1 _ => HP2.out.2.1 x (.inr x1)))
              have HF4 : Hid (Sd en b d2) := Lib.hid (HE1.out.2.2.2.2.congr (fun x x1 _ => HP2.out.2.1 x (.inr (by omega))))
              have HS2 : Hid (d2.size = ds) := Lib.hid (by rw [HP2.out.1]; exact HS1.out)
              by_cases t1 : md < en
              · have tz1 : (md : Int) < (en : Int) := by omega
                by_cases t2 : en < b
                · have tz2 : (en : Int) < (b : Int) := by omega
                  have hc := IH.out md en b d0 d2 blk off cap w0 w2 (by omega) (by omega) (by omega) (by rw [HS2.out]; exact hb) (by rw [HS2.out]; exact hsz) HR.out (by rw [HSZ.out, HS2.out]) S5.out HF3.out HF4.out
                  rw [HS2.out] at hc
                  have HC := Lib.hid hc
                  clear hc S5
                  go_wp2_with (go_at_call 50; refine HC.out.mono ?_; rintro e w3 ⟨rfl, d3, S6', P3, D3⟩)
                  have HP3 := Lib.hid P3
                  have HD3 := Lib.hid D3
                  have S6 := Lib.hid S6'
                  go_end0
                  have hX := (HE1.out.1.left (by rw [HS1.out]; omega) HP2.out).right (by rw [HS2.out]; exact hb) HP3.out
                  refine ⟨rfl, d3, S6.out, ?_, hX.both (HD2.out.congr (fun x x1 x2 => HP3.out.2.1 x (.inl x2))) HD3.out⟩
                  have p2 := permIn_mono _ _ _ _ a b (Nat.le_refl _) (by omega) (by rw [HS1.out]; exact hb) HP2.out
                  have p3 := permIn_mono _ _ _ _ a b (by omega) (Nat.le_refl _) (by rw [HS2.out]; exact hb) HP3.out
                  exact permIn_trans _ _ _ _ _ HP1.out (permIn_trans _ _ _ _ _ p2 p3)
                · have tz2 : ¬ (en : Int) < (b : Int) := by omega
                  obtain ⟨d3, hd3⟩ : ∃ d3, d3 = d2 := ⟨_, rfl⟩
                  have HP3 : Hid (PermIn md b d2 d3) := Lib.hid (by rw [hd3]; exact permIn_refl _ _ _)
                  have HD3 : Hid (Sd md b d3) := Lib.hid (by
                    rw [hd3]
                    rcases Nat.lt_or_ge md en with q | q
                    · have e : en = b := by omega
                      rw [← e]; exact HF3.out
                    · have e : en = md := by omega
                      rw [← e]; exact HF4.out)
                  have S6 : Hid (SW encF w0 blk off d3 w2) := Lib.hid (by rw [hd3]; exact S5.out)
                  clear hd3 S5
                  go_wp2_with fail
                  go_end0
                  have hX := (HE1.out.1.left (by rw [HS1.out]; omega) HP2.out).right (by rw [HS2.out]; exact hb) HP3.out
                  refine ⟨rfl, d3, S6.out, ?_, hX.both (HD2.out.congr (fun x x1 x2 => HP3.out.2.1 x (.inl x2))) HD3.out⟩
                  have p2 := permIn_mono _ _ _ _ a b (Nat.le_refl _) (by omega) (by rw [HS1.out]; exact hb) HP2.out
                  have p3 := permIn_mono _ _ _ _ a b (by omega) (Nat.le_refl _) (by rw [HS2.out]; exact hb) HP3.out
                  exact permIn_trans _ _ _ _ _ HP1.out (permIn_trans _ _ _ _ _ p2 p3)
              · have tz1 : ¬ (md : Int) < (en : Int) := by omega
                obtain ⟨d3, hd3⟩ : ∃ d3, d3 = d2 := ⟨_, rfl⟩
                have HP3 : Hid (PermIn md b d2 d3) := Lib.hid (by rw [hd3]; exact permIn_refl _ _ _)
                have HD3 : Hid (Sd md b d3) := Lib.hid (by
                  rw [hd3]
                  rcases Nat.lt_or_ge md en with q | q
                  · have e : en = b := by omega
                    rw [← e]; exact HF3.out
                  · have e : en = md := by omega
                    rw [← e]; exact HF4.out)
                have S6 : Hid (SW encF w0 blk off d3 w2) := Lib.hid (by rw [hd3]; exact S5.out)
                clear hd3 S5
                go_wp2_with fail
                go_end0
                have hX := (HE1.out.1.left (by rw [HS1.out]; omega) HP2.out).right (by rw [HS2.out]; exact hb) HP3.out
                refine ⟨rfl, d3, S6.out, ?_, hX.both (HD2.out.congr (fun x x1 x2 => HP3.out.2.1 x (.inl x2))) HD3.out⟩
                have p2 := permIn_mono _ _ _ _ a b (Nat.le_refl _) (by omega) (by rw [HS1.out]; exact hb) HP2.out
                have p3 := permIn_mono _ _ _ _ a b (by omega) (Nat.le_refl _) (by rw [HS2.out]; exact hb) HP3.out
                exact permIn_trans _ _ _ _ _ HP1.out (permIn_trans _ _ _ _ _ p2 p3)
            · have sz2 : ¬ (i : Int) < (md : Int) := by omega
              go_upto_region 43 with fail
              obtain ⟨d2, hd2⟩ : ∃ d2, d2 = d1 := ⟨_, rfl⟩
              have HP2 : Hid (PermIn a md d1 d2) := Lib.hid (by rw [hd2]; exact permIn_refl _ _ _)
              have HD2 : Hid (Sd a md d2) := Lib.hid (by
                rw [hd2]
                have e : i = md := by omega
                have q := HE1.out.2.1
                rw [e] at q
                exact q)
              have S5 : Hid (SW encF w0 blk off d2 wr) := Lib.hid (by rw [hd2]; exact S4.out)
              clear hd2 S4
              have HF3 : Hid (Sd md en d2) := Lib.hid (HE1.out.2.2.2.1.congr (fun x x1 _ => HP2.out.2.1 x (.inr x1)))
              have HF4 : Hid (Sd en b d2) := Lib.hid (HE1.out.2.2.2.2.congr (fun x x1 _ => HP2.out.2.1 x (.inr (by omega))))
              have HS2 : Hid (d2.size = ds) := Lib.hid (by rw [HP2.out.1]; exact HS1.out)
              by_cases t1 : md < en
              · have tz1 : (md : Int) < (en : Int) := by omega
                by_cases t2 : en < b
                · have tz2 : (en : Int) < (b : Int) := by omega
                  have hc := IH.out md en b d0 d2 blk off cap w0 wr (by omega) (by omega) (by omega) (by rw [HS2.out]; exact hb) (by rw [HS2.out]; exact hsz) HR.out (by rw [HSZ.out, HS2.out]) S5.out HF3.out HF4.out
                  rw [HS2.out] at hc
                  have HC := Lib.hid hc
                  clear hc S5
                  go_wp2_with (go_at_call 50; refine HC.out.mono ?_; rintro e w3 ⟨rfl, d3, S6', P3, D3⟩)
                  have HP3 := Lib.hid P3
                  have HD3 := Lib.hid D3
                  have S6 := Lib.hid S6'
                  go_end0
                  have hX := (HE1.out.1.left (by rw [HS1.out]; omega) HP2.out).right (by rw [HS2.out]; exact hb) HP3.out
                  refine ⟨rfl, d3, S6.out, ?_, hX.both (HD2.out.congr (fun x x1 x2 => HP3.out.2.1 x (.inl x2))) HD3.out⟩
                  have p2 := permIn_mono _ _ _ _ a b (Nat.le_refl _) (by omega) (by rw [HS1.out]; exact hb) HP2.out
                  have p3 := permIn_mono _ _ _ _ a b (by omega) (Nat.le_refl _) (by rw [HS2.out]; exact hb) HP3.out
                  exact permIn_trans _ _ _ _ _ HP1.out (permIn_trans _ _ _ _ _ p2 p3)
                · have tz2 : ¬ (en : Int) < (b : Int) := by omega
                  obtain ⟨d3, hd3⟩ : ∃ d3, d3 = d2 := ⟨_, rfl⟩
                  have HP3 : Hid (PermIn md b d2 d3) := Lib.hid (by rw [hd3]; exact permIn_refl _ _ _)
                  have HD3 : Hid (Sd md b d3) := Lib.hid (by
                    rw [hd3]
                    rcases Nat.lt_or_ge md en with q | q
                    · have e : en = b := by omega
                      rw [← e]; exact HF3.out
                    · have e : en = md := by omega
                      rw [← e]; exact HF4.out)
                  have S6 : Hid (SW encF w0 blk off d3 wr) := Lib.hid (by rw [hd3]; exact S5.out)
                  clear hd3 S5
                  go_wp2_with fail
                  go_end0
                  have hX := (HE1.out.1.left (by rw [HS1.out]; omega) HP2.out).right (by rw [HS2.out]; exact hb) HP3.out
                  refine ⟨rfl, d3, S6.out, ?_, hX.both (HD2.out.congr (fun x x1 x2 => HP3.out.2.1 x (.inl x2))) HD3.out⟩
                  have p2 := permIn_mono _ _ _ _ a b (Nat.le_refl _) (by omega) (by rw [HS1.out]; exact hb) HP2.out
                  have p3 := permIn_mono _ _ _ _ a b (by omega) (Nat.le_refl _) (by rw [HS2.out]; exact hb) HP3.out
                  exact permIn_trans _ _ _ _ _ HP1.out (permIn_trans _ _ _ _ _ p2 p3)
              · have tz1 : ¬ (md : Int) < (en : Int) := by omega
                obtain ⟨d3, hd3⟩ : ∃ d3, d3 = d2 := ⟨_, rfl⟩
                have HP3 : Hid (PermIn md b d2 d3) := Lib.hid (by rw [hd3]; exact permIn_refl _ _ _)
                have HD3 : Hid (Sd md b d3) := Lib.hid (by
                  rw [hd3]
                  rcases Nat.lt_or_ge md en with q | q
                  · have e : en = b := by omega
                    rw [← e]; exact HF3.out
                  · have e : en = md := by omega
                    rw [← e]; exact HF4.out)
                have S6 : Hid (SW encF w0 blk off d3 wr) := Lib.hid (by rw [hd3]; exact S5.out)
                clear hd3 S5
                go_wp2_with fail
                go_end0
                have hX := (HE1.out.1.left (by rw [HS1.out]; omega) HP2.out).right (by rw [HS2.out]; exact hb) HP3.out
                refine ⟨rfl, d3, S6.out, ?_, hX.both (HD2.out.congr (fun x x1 x2 => HP3.out.2.1 x (.inl x2))) HD3.out⟩
                have p2 := permIn_mono _ _ _ _ a b (Nat.le_refl _) (by omega) (by rw [HS1.out]; exact hb) HP2.out
                have p3 := permIn_mono _ _ _ _ a b (by omega) (Nat.le_refl _) (by rw [HS2.out]; exact hb) HP3.out
                exact permIn_trans _ _ _ _ _ HP1.out (permIn_trans _ _ _ _ _ p2 p3)
          · have sz1 : ¬ (a : Int) < (i : Int) := by omega
            go_upto_region 43 with fail
            obtain ⟨d2, hd2⟩ : ∃ d2, d2 = d1 := ⟨_, rfl⟩
            have HP2 : Hid (PermIn a md d1 d2) := Lib.hid (by rw [hd2]; exact permIn_refl _ _ _)
            have HD2 : Hid (Sd a md d2) := Lib.hid (by
              rw [hd2]
              have e : i = a := by omega
              have q := HE1.out.2.2.1
              rw [e] at q
              exact q)
            have S5 : Hid (SW encF w0 blk off d2 wr) := Lib.hid (by rw [hd2]; exact S4.out)
            clear hd2 S4
            have HF3 : Hid (Sd md en d2) := Lib.hid (HE1.out.2.2.2.1.congr (fun x x1 _ => HP2.out.2.1 x (.inr x1)))
            have HF4 : Hid (Sd en b d2) := Lib.hid (HE1.out.2.2.2.2.congr (fun x x1 _ => HP2.out.2.1 x (.inr (by omega))))
            have HS2 : Hid (d2.size = ds) := Lib.hid (by rw [HP2.out.1]; exact HS1.out)
            by_cases t1 : md < en
            · have tz1 : (md : Int) < (en : Int) := by omega
              by_cases t2 : en < b
              · have tz2 : (en : Int) < (b : Int) := by omega
                have hc := IH.out md en b d0 d2 blk off cap w0 wr (by omega) (by omega) (by omega) (by rw [HS2.out]; exact hb) (by rw [HS2.out]; exact hsz) HR.out (by rw [HSZ.out, HS2.out]) S5.out HF3.out HF4.out
                rw [HS2.out] at hc
                have HC := Lib.hid hc
                clear hc S5
                go_wp2_with (go_at_call 50; refine HC.out.mono ?_; rintro e w3 ⟨rfl, d3, S6', P3, D3⟩)
                have HP3 := Lib.hid P3
                have HD3 := Lib.hid D3
                have S6 := Lib.hid S6'
                go_end0
                have hX := (HE1.out.1.left (by rw [HS1.out]; omega) HP2.out).right (by rw [HS2.out]; exact hb) HP3.out
                refine ⟨rfl, d3, S6.out, ?_, hX.both (HD2.out.congr (fun x x1 x2 => HP3.out.2.1 x (.inl x2))) HD3.out⟩
                have p2 := permIn_mono _ _ _ _ a b (Nat.le_refl _) (by omega) (by rw [HS1.out]; exact hb) HP2.out
                have p3 := permIn_mono _ _ _ _ a b (by omega) (Nat.le_refl _) (by rw [HS2.out]; exact hb) HP3.out
                exact permIn_trans _ _ _ _ _ HP1.out (permIn_trans _ _ _ _ _ p2 p3)
              · have tz2 : ¬ (en : Int) < (b : Int) := by omega
                obtain ⟨d3, hd3⟩ : ∃ d3, d3 = d2 := ⟨_, rfl⟩
                have HP3 : Hid (PermIn md b d2 d3) := Lib.hid (by rw [hd3]; exact permIn_refl _ _ _)
                have HD3 : Hid (Sd md b d3) := Lib.hid (by
                  rw [hd3]
                  rcases Nat.lt_or_ge md en with q | q
                  · have e : en = b := by omega
                    rw [← e]; exact HF3.out
                  · have e : en = md := by omega
                    rw [← e]; exact HF4.out)
                have S6 : Hid (SW encF w0 blk off d3 wr) := Lib.hid (by rw [hd3]; exact S5.out)
                clear hd3 S5
                go_wp2_with fail
                go_end0
                have hX := (HE1.out.1.left (by rw [HS1.out]; omega) HP2.out).right (by rw [HS2.out]; exact hb) HP3.out
                refine ⟨rfl, d3, S6.out, ?_, hX.both (HD2.out.congr (fun x x1 x2 => HP3.out.2.1 x (.inl x2))) HD3.out⟩
                have p2 := permIn_mono _ _ _ _ a b (Nat.le_refl _) (by omega) (by rw [HS1.out]; exact hb) HP2.out
                have p3 := permIn_mono _ _ _ _ a b (by omega) (Nat.le_refl _) (by rw [HS2.out]; exact hb) HP3.out
                exact permIn_trans _ _ _ _ _ HP1.out (permIn_trans _ _ _ _ _ p2 p3)
            · have tz1 : ¬ (md : Int) < (en : Int) := by omega
              obtain ⟨d3, hd3⟩ : ∃ d3, d3 = d2 := ⟨_, rfl⟩
              have HP3 : Hid (PermIn md b d2 d3) := Lib.hid (by rw [hd3]; exact permIn_refl _ _ _)
              have HD3 : Hid (Sd md b d3) := Lib.hid (by
                rw [hd3]
                rcases Nat.lt_or_ge md en with q | q
                · have e : en = b := by omega
                  rw [← e]; exact HF3.out
                · have e : en = md := by omega
                  rw [← e]; exact HF4.out)
              have S6 : Hid (SW encF w0 blk off d3 wr) := Lib.hid (by rw [hd3]; exact S5.out)
              clear hd3 S5
              go_wp2_with fail
              go_end0
              have hX := (HE1.out.1.left (by rw [HS1.out]; omega) HP2.out).right (by rw [HS2.out]; exact hb) HP3.out
              refine ⟨rfl, d3, S6.out, ?_, hX.both (HD2.out.congr (fun x x1 x2 => HP3.out.2.1 x (.inl x2))) HD3.out⟩
              have p2 := permIn_mono _ _ _ _ a b (Nat.le_refl _) (by omega) (by rw [HS1.out]; exact hb) HP2.out
              have p3 := permIn_mono _ _ _ _ a b (by omega) (Nat.le_refl _) (by rw [HS2.out]; exact hb) HP3.out
              exact permIn_trans _ _ _ _ _ HP1.out (permIn_trans _ _ _ _ _ p2 p3)
      · have rz1 : ¬ (i : Int) < (m : Int) := by omega
        go_upto_region 41 with fail
        obtain ⟨d1, hd1⟩ : ∃ d1, d1 = d := ⟨_, rfl⟩
        have HP1 : Hid (PermIn a b d d1) := Lib.hid (by rw [hd1]; exact permIn_refl _ _ _)
        have HE1 := Lib.hid (HH.out.parts (d1 := d1) HA.out HB.out (fun x => by rw [hd1]; exact (rt2_same (by omega) g2 g4 x).symm))
        have S4 : Hid (SW encF w0 blk off d1 wr) := Lib.hid (by rw [hd1]; exact S1.out)
        clear hd1 S1
        have HS1 : Hid (d1.size = ds) := Lib.hid (by rw [HP1.out.1, HDS.out])
        by_cases s1 : a < i
        · have sz1 : (a : Int) < (i : Int) := by omega
          by_cases s2 : i < md
          · have sz2 : (i : Int) < (md : Int) := by omega
            have hc := IH.out a i md d0 d1 blk off cap w0 wr (by omega) (by omega) (by omega) (by rw [HS1.out]; omega) (by rw [HS1.out]; exact hsz) HR.out (by rw [HSZ.out, HS1.out]) S4.out HE1.out.2.1 HE1.out.2.2.1
            rw [HS1.out] at hc
            have HC := Lib.hid hc
            clear hc S4
            go_upto_region 43 with (go_at_call 50; refine HC.out.mono ?_; rintro e w2 ⟨rfl, d2, S5', P2, D2⟩)
            have HP2 := Lib.hid P2
            have HD2 := Lib.hid D2
            have S5 := Lib.hid S5'
            clear P2 D2 S5' HC
            have HF3 : Hid (Sd md en d2) := Lib.hid (HE1.out.2.2.2.1.congr (fun x x1 _ => HP2.out.2.1 x (.inr x1)))
            have HF4 : Hid (Sd en b d2) := Lib.hid (HE1.out.2.2.2.2.congr (fun x x1 _ => HP2.out.2.1 x (.inr (by omega))))
            have HS2 : Hid (d2.size = ds) := Lib.hid (by rw [HP2.out.1]; exact HS1.out)
            by_cases t1 : md < en
            · have tz1 : (md : Int) < (en : Int) := by omega
              by_cases t2 : en < b
              · have tz2 : (en : Int) < (b : Int) := by omega
                have hc := IH.out md en b d0 d2 blk off cap w0 w2 (by omega) (by omega) (by omega) (by rw [HS2.out]; exact hb) (by rw [HS2.out]; exact hsz) HR.out (by rw [HSZ.out, HS2.out]) S5.out HF3.out HF4.out
                rw [HS2.out] at hc
                have HC := Lib.hid hc
                clear hc S5
                go_wp2_with (go_at_call 50; refine HC.out.mono ?_; rintro e w3 ⟨rfl, d3, S6', P3, D3⟩)
                have HP3 := Lib.hid P3
                have HD3 := Lib.hid D3
                have S6 := Lib.hid S6'
                go_end0
                have hX := (HE1.out.1.left (by rw [HS1.out]; omega) HP2.out).right (by rw [HS2.out]; exact hb) HP3.out
                refine ⟨rfl, d3, S6.out, ?_, hX.both (HD2.out.congr (fun x x1 x2 => HP3.out.2.1 x (.inl x2))) HD3.out⟩
                have p2 := permIn_mono _ _ _ _ a b (Nat.le_refl _) (by omega) (by rw [HS1.out]; exact hb) HP2.out
                have p3 := permIn_mono _ _ _ _ a b (by omega) (Nat.le_refl _) (by rw [HS2.out]; exact hb) HP3.out
                exact permIn_trans _ _ _ _ _ HP1.out (permIn_trans _ _ _ _ _ p2 p3)
              · have tz2 : ¬ (en : Int) < (b : Int) := by omega
                obtain ⟨d3, hd3⟩ : ∃ d3, d3 = d2 := ⟨_, rfl⟩
                have HP3 : Hid (PermIn md b d2 d3) := Lib.hid (by rw [hd3]; exact permIn_refl _ _ _)
                have HD3 : Hid (Sd md b d3) := Lib.hid (by
                  rw [hd3]
                  rcases Nat.lt_or_ge md en with q | q
                  · have e : en = b := by omega
                    rw [← e]; exact HF3.out
                  · have e : en = md := by omega
                    rw [← e]; exact HF4.out)
                have S6 : Hid (SW encF w0 blk off d3 w2) := Lib.hid (by rw [hd3]; exact S5.out)
                clear hd3 S5
                go_wp2_with fail
                go_end0
                have hX := (HE1.out.1.left (by rw [HS1.out]; omega) HP2.out).right (by rw [HS2.out]; exact hb) HP3.out
                refine ⟨rfl, d3, S6.out, ?_, hX.both (HD2.out.congr (fun x x1 x2 => HP3.out.2.1 x (.inl x2))) HD3.out⟩
                have p2 := permIn_mono _ _ _ _ a b (Nat.le_refl _) (by omega) (by rw [HS1.out]; exact hb) HP2.out
                have p3 := permIn_mono _ _ _ _ a b (by omega) (Nat.le_refl _) (by rw [HS2.out]; exact hb) HP3.out
                exact permIn_trans _ _ _ _ _ HP1.out (permIn_trans _ _ _ _ _ p2 p3)
            · have tz1 : ¬ (md : Int) < (en : Int) := by omega
              obtain ⟨d3, hd3⟩ : ∃ d3, d3 = d2 := ⟨_, rfl⟩
              have HP3 : Hid (PermIn md b d2 d3) := Lib.hid (by rw [hd3]; exact permIn_refl _ _ _)
              have HD3 : Hid (Sd md b d3) := Lib.hid (by
                rw [hd3]
                rcases Nat.lt_or_ge md en with q | q
                · have e : en = b := by omega
                  rw [← e]; exact HF3.out
                · have e : en = md := by omega
                  rw [← e]; exact HF4.out)
              have S6 : Hid (SW encF w0 blk off d3 w2) := Lib.hid (by rw [hd3]; exact S5.out)
              clear hd3 S5
              go_wp2_with fail
              go_end0
              have hX := (HE1.out.1.left (by rw [HS1.out]; omega) HP2.out).right (by rw [HS2.out]; exact hb) HP3.out
              refine ⟨rfl, d3, S6.out, ?_, hX.both (HD2.out.congr (fun x x1 x2 => HP3.out.2.1 x (.inl x2))) HD3.out⟩
              have p2 := permIn_mono _ _ _ _ a b (Nat.le_refl _) (by omega) (by rw [HS1.out]; exact hb) HP2.out
              have p3 := permIn_mono _ _ _ _ a b (by omega) (Nat.le_refl _) (by rw [HS2.out]; exact hb) HP3.out
              exact permIn_trans _ _ _ _ _ HP1.out (permIn_trans _ _ _ _ _ p2 p3)
          · have sz2 : ¬ (i : Int) < (md : Int) := by omega
            go_upto_region 43 with fail
            obtain ⟨d2, hd2⟩ : ∃ d2, d2 = d1 := ⟨_, rfl⟩
            have HP2 : Hid (PermIn a md d1 d2) := Lib.hid (by rw [hd2]; exact permIn_refl _ _ _)
            have HD2 : Hid (Sd a md d2) := Lib.hid (by
              rw [hd2]
              have e : i = md := by omega
              have q := HE1.out.2.1
              rw [e] at q
              exact q)
            have S5 : Hid (SW encF w0 blk off d2 wr) := Lib.hid (by rw [hd2]; exact S4.out)
            clear hd2 S4
            have HF3 : Hid (Sd md en d2) := Lib.hid (HE1.out.2.2.2.1.congr (fun x x1 _ => HP2.out.2.1 x (.inr x1)))
            have HF4 : Hid (Sd en b d2) := Lib.hid (HE1.out.2.2.2.2.congr (fun x x1 _ => HP2.out.2.1 x (.inr (by omega))))
            have HS2 : Hid (d2.size = ds) := Lib.hid (by rw [HP2.out.1]; exact HS1.out)
            by_cases t1 : md < en
            · have tz1 : (md : Int) < (en : Int) := by omega
              by_cases t2 : en < b
              · have tz2 : (en : Int) < (b : Int) := by omega
                have hc := IH.out md en b d0 d2 blk off cap w0 wr (by omega) (by omega) (by omega) (by rw [HS2.out]; exact hb) (by rw [HS2.out]; exact hsz) HR.out (by rw [HSZ.out, HS2.out]) S5.out HF3.out HF4.out
                rw [HS2.out] at hc
                have HC := Lib.hid hc
                clear hc S5
                go_wp2_with (go_at_call 50; refine HC.out.mono ?_; rintro e w3 ⟨rfl, d3, S6', P3, D3⟩)
                have HP3 := Lib.hid P3
                have HD3 := Lib.hid D3
                have S6 := Lib.hid S6'
                go_end0
                have hX := (HE1.out.1.left (by rw [HS1.out]; omega) HP2.out).right (by rw [HS2.out]; exact hb) HP3.out
                refine ⟨rfl, d3, S6.out, ?_, hX.both (HD2.out.congr (fun x x1 x2 => HP3.out.2.1 x (.inl x2))) HD3.out⟩
                have p2 := permIn_mono _ _ _ _ a b (Nat.le_refl _) (by omega) (by rw [HS1.out]; exact hb) HP2.out
                have p3 := permIn_mono _ _ _ _ a b (by omega) (Nat.le_refl _) (by rw [HS2.out]; exact hb) HP3.out
                exact permIn_trans _ _ _ _ _ HP1.out (permIn_trans _ _ _ _ _ p2 p3)
              · have tz2 : ¬ (en : Int) < (b : Int) := by omega
                obtain ⟨d3, hd3⟩ : ∃ d3, d3 = d2 := ⟨_, rfl⟩
                have HP3 : Hid (PermIn md b d2 d3) := Lib.hid (by rw [hd3]; exact permIn_refl _ _ _)
                have HD3 : Hid (Sd md b d3) := Lib.hid (by
                  rw [hd3]
                  rcases Nat.lt_or_ge md en with q | q
                  · have e : en = b := by omega
                    rw [← e]; exact HF3.out
                  · have e : en = md := by omega
                    rw [← e]; exact HF4.out)
                have S6 : Hid (SW encF w0 blk off d3 wr) := Lib.hid (by rw [hd3]; exact S5.out)
                clear hd3 S5
                go_wp2_with fail
                go_end0
                have hX := (HE1.out.1.left (by rw [HS1.out]; omega) HP2.out).right (by rw [HS2.out]; exact hb) HP3.out
                refine ⟨rfl, d3, S6.out, ?_, hX.both (HD2.out.congr (fun x x1 x2 => HP3.out.2.1 x (.inl x2))) HD3.out⟩
                have p2 := permIn_mono _ _ _ _ a b (Nat.le_refl _) (by omega) (by rw [HS1.out]; exact hb) HP2.out
                have p3 := permIn_mono _ _ _ _ a b (by omega) (Nat.le_refl _) (by rw [HS2.out]; exact hb) HP3.out
                exact permIn_trans _ _ _ _ _ HP1.out (permIn_trans _ _ _ _ _ p2 p3)
            · have tz1 : ¬ (md : Int) < (en : Int) := by omega
              obtain ⟨d3, hd3⟩ : ∃ d3, d3 = d2 := ⟨_, rfl⟩
              have HP3 : Hid (PermIn md b d2 d3) := Lib.hid (by rw [hd3]; exact permIn_refl _ _ _)
              have HD3 : Hid (Sd md b d3) := Lib.hid (by
                rw [hd3]
                rcases Nat.lt_or_ge md en with q | q
                · have e : en = b := by omega
                  rw [← e]; exact HF3.out
                · have e : en = md := by omega
                  rw [← e]; exact HF4.out)
              have S6 : Hid (SW encF w0 blk off d3 wr) := Lib.hid (by rw [hd3]; exact S5.out)
              clear hd3 S5
              go_wp2_with fail
              go_end0
              have hX := (HE1.out.1.left (by rw [HS1.out]; omega) HP2.out).right (by rw [HS2.out]; exact hb) HP3.out
              refine ⟨rfl, d3, S6.out, ?_, hX.both (HD2.out.congr (fun x x1 x2 => HP3.out.2.1 x (.inl x2))) HD3.out⟩
              have p2 := permIn_mono _ _ _ _ a b (Nat.le_refl _) (by omega) (by rw [HS1.out]; exact hb) HP2.out
              have p3 := permIn_mono _ _ _ _ a b (by omega) (Nat.le_refl _) (by rw [HS2.out]; exact hb) HP3.out
              exact permIn_trans _ _ _ _ _ HP1.out (permIn_trans _ _ _ _ _ p2 p3)
        · have sz1 : ¬ (a : Int) < (i : Int) := by omega
          go_upto_region 43 with fail
          obtain ⟨d2, hd2⟩ : ∃ d2, d2 = d1 := ⟨_, rfl⟩
          have HP2 : Hid (PermIn a md d1 d2) := Lib.hid (by rw [hd2]; exact permIn_refl _ _ _)
          have HD2 : Hid (Sd a md d2) := Lib.hid (by
            rw [hd2]
            have e : i = a := by omega
            have q := HE1.out.2.2.1
            rw [e] at q
            exact q)
          have S5 : Hid (SW encF w0 blk off d2 wr) := Lib.hid (by rw [hd2]; exact S4.out)
          clear hd2 S4
          have HF3 : Hid (Sd md en d2) := Lib.hid (HE1.out.2.2.2.1.congr (fun x x1 _ => HP2.out.2.1 x (.inr x1)))
          have HF4 : Hid (Sd en b d2) := Lib.hid (HE1.out.2.2.2.2.congr (fun x x1 _ => HP2.out.2.1 x (.inr (by omega))))
          have HS2 : Hid (d2.size = ds) := Lib.hid (by rw [HP2.out.1]; exact HS1.out)
          by_cases t1 : md < en
          · have tz1 : (md : Int) < (en : Int) := by omega
            by_cases t2 : en < b
            · have tz2 : (en : Int) < (b : Int) := by omega
              have hc := IH.out md en b d0 d2 blk off cap w0 wr (by omega) (by omega) (by omega) (by rw [HS2.out]; exact hb) (by rw [HS2.out]; exact hsz) HR.out (by rw [HSZ.out, HS2.out]) S5.out HF3.out HF4.out
              rw [HS2.out] at hc
              have HC := Lib.hid hc
              clear hc S5
              go_wp2_with (go_at_call 50; refine HC.out.mono ?_; rintro e w3 ⟨rfl, d3, S6', P3, D3⟩)
              have HP3 := Lib.hid P3
              have HD3 := Lib.hid D3
              have S6 := Lib.hid S6'
              go_end0
              have hX := (HE1.out.1.left (by rw [HS1.out]; omega) HP2.out).right (by rw [HS2.out]; exact hb) HP3.out
              refine ⟨rfl, d3, S6.out, ?_, hX.both (HD2.out.congr (fun x x1 x2 => HP3.out.2.1 x (.inl x2))) HD3.out⟩
              have p2 := permIn_mono _ _ _ _ a b (Nat.le_refl _) (by omega) (by rw [HS1.out]; exact hb) HP2.out
              have p3 := permIn_mono _ _ _ _ a b (by omega) (Nat.le_refl _) (by rw [HS2.out]; exact hb) HP3.out
              exact permIn_trans _ _ _ _ _ HP1.out (permIn_trans _ _ _ _ _ p2 p3)
            · have tz2 : ¬ (en : Int) < (b : Int) := by omega
              obtain ⟨d3, hd3⟩ : ∃ d3, d3 = d2 := ⟨_, rfl⟩
              have HP3 : Hid (PermIn md b d2 d3) := Lib.hid (by rw [hd3]; exact permIn_refl _ _ _)
              have HD3 : Hid (Sd md b d3) := Lib.hid (by
                rw [hd3]
                rcases Nat.lt_or_ge md en with q | q
                · have e : en = b := by omega
                  rw [← e]; exact HF3.out
                · have e : en = md := by omega
                  rw [← e]; exact HF4.out)
              have S6 : Hid (SW encF w0 blk off d3 wr) := Lib.hid (by rw [hd3]; exact S5.out)
              clear hd3 S5
              go_wp2_with fail
              go_end0
              have hX := (HE1.out.1.left (by rw [HS1.out]; omega) HP2.out).right (by rw [HS2.out]; exact hb) HP3.out
              refine ⟨rfl, d3, S6.out, ?_, hX.both (HD2.out.congr (fun x x1 x2 => HP3.out.2.1 x (.inl x2))) HD3.out⟩
              have p2 := permIn_mono _ _ _ _ a b (Nat.le_refl _) (by omega) (by rw [HS1.out]; exact hb) HP2.out
              have p3 := permIn_mono _ _ _ _ a b (by omega) (Nat.le_refl _) (by rw [HS2.out]; exact hb) HP3.out
              exact permIn_trans _ _ _ _ _ HP1.out (permIn_trans _ _ _ _ _ p2 p3)
          · have tz1 : ¬ (md : Int) < (en : Int) := by omega
            obtain ⟨d3, hd3⟩ : ∃ d3, d3 = d2 := ⟨_, rfl⟩
            have HP3 : Hid (PermIn md b d2 d3) := Lib.hid (by rw [hd3]; exact permIn_refl _ _ _)
            have HD3 : Hid (Sd md b d3) := Lib.hid (by
              rw [hd3]
              rcases Nat.lt_or_ge md en with q | q
              · have e : en = b := by omega
                rw [← e]; exact HF3.out
              · have e : en = md := by omega
                rw [← e]; exact HF4.out)
            have S6 : Hid (SW encF w0 blk off d3 wr) := Lib.hid (by rw [hd3]; exact S5.out)
            clear hd3 S5
            go_wp2_with fail
            go_end0
            have hX := (HE1.out.1.left (by rw [HS1.out]; omega) HP2.out).right (by rw [HS2.out]; exact hb) HP3.out
            refine ⟨rfl, d3, S6.out, ?_, hX.both (HD2.out.congr (fun x x1 x2 => HP3.out.2.1 x (.inl x2))) HD3.out⟩
            have p2 := permIn_mono _ _ _ _ a b (Nat.le_refl _) (by omega) (by rw [HS1.out]; exact hb) HP2.out
            have p3 := permIn_mono _ _ _ _ a b (by omega) (Nat.le_refl _) (by rw [HS2.out]; exact hb) HP3.out
            exact permIn_trans _ _ _ _ _ HP1.out (permIn_trans _ _ _ _ _ p2 p3)
end Go.Proofs.Ytngboallknmepaa.Fp
