/-
  The law InternOnce.
-/
import Derived.Test.YtllgeffjkjdadaaGnf
import Derived.Test.YtllgeffjkjdadaaGnc
namespace Go.Proofs.Ytllgeffjkjdadaa.N
set_option linter.unusedVariables false
set_option linter.unusedSimpArgs false
open Go.RowKit
open T
open V (grown_of IntsIn numCells numCells_snoc ints_own drawn_below LvC LvC.at)
open I (alloc1 own_at own_below)

theorem ints_take {w : World} {A : Option Addr} {a : List Int} (h : IntsIn w A a) (k : Nat) : IntsIn w A (a.take k) := fun hp => by
  obtain ⟨bk, off, rfl, hlt, hI⟩ := h (by rw [List.length_take] at hp; omega)
  refine ⟨bk, off, rfl, hlt, fun j hj => ?_⟩
  rw [List.getElem_take]
  exact hI j (by rw [List.length_take] at hj; omega)
def OnC (A B : Option Addr) (n m c c' : Nat) (w : World) (ps : List (Int × Int)) : Prop := ∀ W : World, Below w.heap.size w W → Calls Try.prog 14 #[.slice A n c, .slice B m c'] W (PsEnd W ps)
theorem OnC.at {A B : Option Addr} {n m c c' : Nat} {w : World} {ps : List (Int × Int)} (h : OnC A B n m c c' w ps) (W : World) (hb : Below w.heap.size w W) : Calls Try.prog 14 #[.slice A n c, .slice B m c'] W (PsEnd W ps) := h W hb

set_option maxRecDepth 100000 in
set_option maxHeartbeats 8000000 in
theorem nonce_walk {A B : Option Addr} {a b : List Int} {x y : List (Int × Int)} {na nb c c' : Nat} {w : World} (hna : na ≤ maxLen) (hnb : nb ≤ maxLen) (hc : na ≤ c) (hc' : nb ≤ c') (hla : min (na : Int) 60 = (a.length : Int)) (hlb : min (nb : Int) 60 = (b.length : Int)) (HA : Hid (IntsIn w A a)) (HB : Hid (IntsIn w B b))
    (HX : Hid (OnC A B a.length b.length c c' w x)) (HY : Hid (OnC B A b.length a.length c' c w y)) (HF : Hid (OnceF a b x y)) (hx : x.length ≤ 60) (hy : y.length ≤ 60) :
    Calls Try.prog 5 #[.slice A na c, .slice B nb c'] w fun e w' => e = .returned (.bool true) ∧ Below w.heap.size w w' := by
  unfold maxLen at hna hnb
  have han : a.length ≤ na := by omega
  have hbn : b.length ≤ nb := by omega
  have hl60 : a.length ≤ 60 ∧ b.length ≤ 60 := by omega
  have HL := Lib.hid live6
  go_enter Try.func5, Try.ntmps5
  go_wp2_with fail
  go_quiet (fail)
  clear hla hlb hc hc' hna hnb han hbn
  have HB1 := Lib.hid (drawn_below w nq)
  obtain ⟨w1, hw1⟩ : ∃ W, W = w.drewN nq := ⟨_, rfl⟩
  rw [← hw1] at HB1 ⊢
  clear hw1
  go_wp2_with fail
  with_reducible refine (HX.out.at w1 HB1.out).mono ?_
  rintro e w2 ⟨X, xc, rfl, ho2, hb2⟩
  have HB2 := Lib.hid (HB1.out.trans (hb2.mono HB1.out.size))
  have HPX := Lib.hid (pr_own ho2)
  clear ho2 hb2 HX
  go_wp2_with fail
  with_reducible refine (HY.out.at w2 HB2.out).mono ?_
  rintro e w3 ⟨Y, yc, rfl, ho3, hb3⟩
  have HB3 := Lib.hid (HB2.out.trans (hb3.mono HB2.out.size))
  replace HPX := Lib.hid (HPX.out.below hb3)
  have HPY := Lib.hid (pr_own ho3)
  clear ho3 hb3 HY HB1 HB2
  replace HA := Lib.hid (HA.out.below HB3.out)
  replace HB := Lib.hid (HB.out.below HB3.out)
  obtain ⟨ny, hny⟩ : ∃ n, n = y.length := ⟨_, rfl⟩
  have HXY := Lib.hid (HF.out.len.trans hny.symm)
  have HFT := Lib.hid (HF.out.fits)
  have HNY := Lib.hid hny
  rw [← hny] at HFT hy ⊢
  rw [HXY.out] at hx ⊢
  clear hny HF
  obtain ⟨ha60, hb60⟩ := hl60
  have hself : ((ny : Int) != (ny : Int)) = false := by simp
  go_wp2_with fail
  go_loopg [7] ny (fun m v wr => ∃ i : Nat, i ≤ ny ∧ v = .int .i64 i ∧ ny - i ≤ m ∧ ∃ d, wr = w3.drewN d)
  case atStart => exact ⟨0, Nat.zero_le _, rfl, by omega, 0, rfl⟩
  case round =>
    obtain ⟨i, hi, rfl, hm, d, rfl⟩ := hrel
    by_cases hlt : i < ny
    · obtain ⟨b1, o1, hXe, hb1, hI1⟩ := HPX.out (by rw [HXY.out]; omega)
      subst hXe
      obtain ⟨c0, c1⟩ := hI1 i (by rw [HXY.out]; omega)
      obtain ⟨p, q, hpq, hp, hq, hab, hit⟩ := HFT.out i (by rw [HXY.out]; omega)
      rw [hpq] at c0 c1
      simp only at c0 c1
      obtain ⟨b3, o3, hAe, hb3, hI3⟩ := HA.out (by omega)
      obtain ⟨b4, o4, hBe, hb4, hI4⟩ := HB.out (by omega)
      subst hAe hBe
      have c3 := hI3 p hp
      have c4 := hI4 q hq
      rw [hab] at c3
      generalize b[q] = v at *
      have h0i : (0 : Int) ≤ (i : Int) := by omega
      have hin : (i : Int) < (ny : Int) := by omega
      have h0p : (0 : Int) ≤ (p : Int) := by omega
      have hpn : (p : Int) < (a.length : Int) := by omega
      have h0q : (0 : Int) ≤ (q : Int) := by omega
      have hqn : (q : Int) < (b.length : Int) := by omega
      have HIT := Lib.hid hit
      clear hI1 hI3 hI4 hpq hab hit
      go_wp2_with fail
      go_quiet (fail)
      clear c3 c4 h0p hpn h0q hqn
      have hp60 : p < 60 := by omega
      have hq60 : q < 60 := by omega
      go_wp2_with fail
      go_loopg [8, 9] ny (fun m fv kv wx => ∃ (k : Nat) (f : Bool), k ≤ ny ∧ kv = .int .i64 k ∧ fv = .bool f ∧ ny - k ≤ m ∧ Hid (f = hits y p q k) ∧ ∃ d', wx = w3.drewN d')
      case atStart => exact ⟨0, false, Nat.zero_le _, rfl, rfl, by omega, Lib.hid (hits_zero y p q).symm, _, World.drewN_drewN _ _ _⟩
      case round =>
        obtain ⟨k, f, hk, rfl, rfl, hmk, HH, d', rfl⟩ := hrel
        by_cases hkl : k < ny
        · obtain ⟨b2, o2, hYe, hb2, hI2⟩ := HPY.out (by rw [← HNY.out]; omega)
          subst hYe
          obtain ⟨e0, e1⟩ := hI2 k (by rw [← HNY.out]; omega)
          have HS := Lib.hid (hits_succ (y := y) (p := (p : Int)) (q := (q : Int)) (k := k) (by rw [← HNY.out]; omega))
          rw [← HH.out] at HS
          generalize (y[k]'(by rw [← HNY.out]; omega)).1 = u at *
          generalize (y[k]'(by rw [← HNY.out]; omega)).2 = v2 at *
          have h0k : (0 : Int) ≤ (k : Int) := by omega
          have hkn : (k : Int) < (ny : Int) := by omega
          clear hI2
          cases f with
          | true =>
            go_wp2_with fail
            go_quiet (fail)
            go_wp2_with fail
            go_roundg (ny - (k + 1))
            case rel => exact ⟨k + 1, true, by omega, by go_num, rfl, Nat.le_refl _, Lib.hid (by rw [HS.out]; rfl), _, rfl⟩
            case measure => omega
          | false =>
            by_cases hu : u = (q : Int)
            · subst hu
              by_cases hv2 : v2 = (p : Int)
              · subst hv2
                go_wp2_with fail
                go_quiet (fail)
                go_wp2_with fail
                go_roundg (ny - (k + 1))
                case rel => exact ⟨k + 1, true, by omega, by go_num, rfl, Nat.le_refl _, Lib.hid (by rw [HS.out]; simp), _, rfl⟩
                case measure => omega
              · have hne : (v2 == (p : Int)) = false := beq_eq_false_iff_ne.2 hv2
                clear hv2
                go_wp2_with fail
                go_quiet (fail)
                go_wp2_with fail
                go_roundg (ny - (k + 1))
                case rel => exact ⟨k + 1, false, by omega, by go_num, rfl, Nat.le_refl _, Lib.hid (by rw [HS.out, hne]; simp), _, rfl⟩
                case measure => omega
            · have hne : (u == (q : Int)) = false := beq_eq_false_iff_ne.2 hu
              clear hu
              go_wp2_with fail
              go_quiet (fail)
              go_wp2_with fail
              go_roundg (ny - (k + 1))
              case rel => exact ⟨k + 1, false, by omega, by go_num, rfl, Nat.le_refl _, Lib.hid (by rw [HS.out, hne]; rfl), _, rfl⟩
              case measure => omega
        · obtain rfl : k = ny := by omega
          have hf : f = true := HH.out.trans HIT.out
          subst hf
          go_wp2_with fail
          go_roundg (k - (i + 1))
          case rel => exact ⟨i + 1, by omega, by go_num, Nat.le_refl _, _, rfl⟩
          case measure => omega
    · obtain rfl : i = ny := by omega
      have HB4 := Lib.hid (HB3.out.trans ((drawn_below w3 d).mono HB3.out.size))
      go_wp2_with fail
      with_reducible refine (HL.out.at _).mono ?_
      rintro e w5 ⟨rfl, hb5⟩
      replace HB4 := Lib.hid (HB4.out.trans (hb5.mono HB4.out.size))
      clear hb5
      go_wp2_with fail
      go_ret
      exact ⟨rfl, HB4.out⟩
theorem nonce_law {A B : Option Addr} {a b : List Int} {c c' : Nat} {w : World} (hA : IntsIn w A a) (hB : IntsIn w B b) (ha : a.length ≤ maxLen) (hb : b.length ≤ maxLen) (hc : a.length ≤ c) (hc' : b.length ≤ c')
    (hwa : ∀ z ∈ a, -9223372036854775808 ≤ z ∧ z ≤ 9223372036854775807) (hwb : ∀ z ∈ b, -9223372036854775808 ≤ z ∧ z ≤ 9223372036854775807) :
    Calls Try.prog 5 #[.slice A a.length c, .slice B b.length c'] w fun e w' => e = .returned (.bool true) ∧ Below w.heap.size w w' := by
  have h1 : (a.take 60).length ≤ 60 := List.length_take_le _ _
  have h2 : (b.take 60).length ≤ 60 := List.length_take_le _ _
  have hA' := ints_take hA 60
  have hB' := ints_take hB 60
  refine nonce_walk (a := a.take 60) (b := b.take 60) ha hb hc hc' (by rw [List.length_take]; omega) (by rw [List.length_take]; omega) (Lib.hid hA') (Lib.hid hB')
    (Lib.hid fun W hb => once_any A B c c' (a.take 60) (b.take 60) W (hA'.below hb) (hB'.below hb) h1 h2 (fun z hz => hwa z (List.mem_of_mem_take hz)) (fun z hz => hwb z (List.mem_of_mem_take hz)))
    (Lib.hid fun W hb => once_any B A c' c (b.take 60) (a.take 60) W (hB'.below hb) (hA'.below hb) h2 h1 (fun z hz => hwb z (List.mem_of_mem_take hz)) (fun z hz => hwa z (List.mem_of_mem_take hz)))
    (Lib.hid (once_fits _ _)) (Nat.le_trans (oU_len _ _ _) h1) (Nat.le_trans (oU_len _ _ _) h2)
end Go.Proofs.Ytllgeffjkjdadaa.N
