/-
  The law InternCounts.
-/
import Derived.Test.YtllgeffjkjdadaaGLawNOnce
import Derived.Test.YtllgeffjkjdadaaGnf
namespace Go.Proofs.Ytllgeffjkjdadaa.N
set_option linter.unusedVariables false
set_option linter.unusedSimpArgs false
open Go.RowKit
open T
open V (grown_of IntsIn numCells numCells_snoc ints_own drawn_below LvC LvC.at)
open I (alloc1 own_at own_below)

theorem tot_le (cs : List (Int × Nat)) (k : Nat) : tot (cs.take k) ≤ tot cs := by
  have h := List.take_append_drop k cs
  have : tot cs = tot (cs.take k) + tot (cs.drop k) := by
    unfold tot
    conv => lhs; rw [← h]
    rw [List.map_append, List.sum_append]
  omega
theorem tot_take {cs : List (Int × Nat)} {k : Nat} (hk : k < cs.length) : tot (cs.take (k + 1)) = tot (cs.take k) + cs[k].2 := by
  rw [List.take_succ_eq_append_getElem hk, tot_snoc]
theorem asI_at {cs : List (Int × Nat)} {k : Nat} (h : k < (asI cs).length) : ((asI cs)[k]).2 = ((cs[k]'(by rw [asI_length] at h; exact h)).2 : Int) := by simp [asI]

set_option maxRecDepth 100000 in
set_option maxHeartbeats 8000000 in
theorem ncounts_walk {A B : Option Addr} {a b : List Int} {na nb c c' : Nat} {w : World} (hna : na ≤ maxLen) (hnb : nb ≤ maxLen) (hc : na ≤ c) (hc' : nb ≤ c') (hla : min (na : Int) 60 = (a.length : Int)) (hlb : min (nb : Int) 60 = (b.length : Int)) (HA : Hid (IntsIn w A a)) (HB : Hid (IntsIn w B b))
    (hwa : ∀ z ∈ a, -9223372036854775808 ≤ z ∧ z ≤ 9223372036854775807) (hwb : ∀ z ∈ b, -9223372036854775808 ≤ z ∧ z ≤ 9223372036854775807) :
    Calls Try.prog 4 #[.slice A na c, .slice B nb c'] w fun e w' => e = .returned (.bool true) ∧ Below w.heap.size w w' := by
  unfold maxLen at hna hnb
  have han : a.length ≤ na := by omega
  have hbn : b.length ≤ nb := by omega
  have ha60 : a.length ≤ 60 := by omega
  have hb60 : b.length ≤ 60 := by omega
  have HL := Lib.hid live6
  have HC := Lib.hid (fun (W : World) (h : Below w.heap.size w W) => counts_any A c a W (HA.out.below h) (by omega))
  have HRC := Lib.hid (fun (W : World) (h : Below w.heap.size w W) => rcounts_any A c a W (HA.out.below h) ha60)
  have HO := Lib.hid (fun (W : World) (h : Below w.heap.size w W) => once_any A B c c' a b W (HA.out.below h) (HB.out.below h) ha60 hb60 hwa hwb)
  have HRO := Lib.hid (fun (W : World) (h : Below w.heap.size w W) => ronce_any A B c c' a b W (HA.out.below h) (HB.out.below h) ha60 hb60)
  have hol := Nat.le_trans (oU_len a b a.length) ha60
  generalize oU a b a.length = ps at *
  clear HA HB hwa hwb
  go_enter Try.func4, Try.ntmps4
  go_wp2_with fail
  go_quiet (fail)
  clear hla hlb hc hc' hna hnb han hbn
  have HB1 := Lib.hid (drawn_below w nq)
  obtain ⟨w1, hw1⟩ : ∃ W, W = w.drewN nq := ⟨_, rfl⟩
  rw [← hw1] at HB1 ⊢
  clear hw1
  go_wp2_with fail
  with_reducible refine (HC.out w1 HB1.out).mono ?_
  rintro e w2 ⟨_, ⟨cs, rfl, hcn, htot⟩, X, xc, rfl, ho2, hb2⟩
  have HB2 := Lib.hid (HB1.out.trans (hb2.mono HB1.out.size))
  have HPX := Lib.hid (pr_own ho2)
  have HCN := Lib.hid hcn
  have hcl : cs.length ≤ 60 := by have := hcn.le; omega
  have hal := asI_length cs
  have HAL := Lib.hid hal
  rw [hal]
  clear ho2 hb2 HC HB1 hcn hal
  go_wp2_with fail
  go_loopg [6, 7] cs.length (fun m tv iv wr => ∃ i : Nat, i ≤ cs.length ∧ iv = .int .i64 i ∧ tv = .int .i64 (tot (cs.take i) : Nat) ∧ cs.length - i ≤ m ∧ wr = w2)
  case atStart => exact ⟨0, Nat.zero_le _, rfl, rfl, by omega, rfl⟩
  case round =>
    obtain ⟨i, hi, rfl, rfl, hm, rfl⟩ := hrel
    by_cases hlt : i < cs.length
    · obtain ⟨b1, o1, hXe, hb1, hI1⟩ := HPX.out (by rw [HAL.out]; omega)
      subst hXe
      obtain ⟨-, c1⟩ := hI1 i (by rw [HAL.out]; omega)
      rw [asI_at] at c1
      have hts := tot_take hlt
      have htl := tot_le cs (i + 1)
      have HTS := Lib.hid hts
      generalize tot (cs.take i) = t at *
      generalize (cs[i]'(by omega)).2 = y at *
      have h0i : (0 : Int) ≤ (i : Int) := by omega
      have hin : (i : Int) < (cs.length : Int) := by omega
      have hwr : IntKind.i64.wrap ((t : Int) + (y : Int)) = (t : Int) + (y : Int) := by rw [IntKind.wrap_i64]; omega
      clear hI1 hts htl
      go_wp2_with fail
      go_roundg (cs.length - (i + 1))
      case rel => exact ⟨i + 1, by omega, by go_num, by rw [HTS.out]; go_num, Nat.le_refl _, rfl⟩
      case measure => omega
    · obtain rfl : i = cs.length := by omega
      rw [List.take_length, htot]
      clear htot
      go_wp2_with fail
      with_reducible refine (HL.out.at _).mono ?_
      rintro e w5 ⟨rfl, hb5⟩
      have HB5 := Lib.hid (HB2.out.trans (hb5.mono HB2.out.size))
      replace HPX := Lib.hid (HPX.out.below hb5)
      clear hb5 HB2
      have hself : ((a.length : Int) == (a.length : Int)) = true := by simp
      go_wp2_with fail
      with_reducible refine (HRC.out w5 HB5.out).mono ?_
      rintro e w6 ⟨ds, hds, Y, yc, rfl, ho6, hb6⟩
      obtain rfl := HCN.out.same hds
      have HB6 := Lib.hid (HB5.out.trans (hb6.mono HB5.out.size))
      replace HPX := Lib.hid (HPX.out.below hb6)
      have HPY := Lib.hid (pr_own ho6)
      have HSM := Lib.hid (rsame_any X Y xc yc _ w6 HPX.out HPY.out (by rw [HAL.out]; omega))
      rw [HAL.out] at HSM ⊢
      clear ho6 hb6 HB5 HRC hds
      go_wp2_with fail
      with_reducible refine (HSM.out).mono ?_
      rintro e w7 ⟨rfl, hb7⟩
      have HB7 := Lib.hid (HB6.out.trans (hb7.mono HB6.out.size))
      clear hb7 HB6 HSM HPX HPY
      go_wp2_with fail
      with_reducible refine (HO.out w7 HB7.out).mono ?_
      rintro e w8 ⟨Z, zc, rfl, ho8, hb8⟩
      have HB8 := Lib.hid (HB7.out.trans (hb8.mono HB7.out.size))
      have HPZ := Lib.hid (pr_own ho8)
      clear ho8 hb8 HB7 HO
      go_wp2_with fail
      with_reducible refine (HRO.out w8 HB8.out).mono ?_
      rintro e w9 ⟨V, vc, rfl, ho9, hb9⟩
      have HB9 := Lib.hid (HB8.out.trans (hb9.mono HB8.out.size))
      replace HPZ := Lib.hid (HPZ.out.below hb9)
      have HPV := Lib.hid (pr_own ho9)
      have HSN := Lib.hid (rsame_any Z V zc vc _ w9 HPZ.out HPV.out (by omega))
      clear ho9 hb9 HB8 HRO
      go_wp2_with fail
      with_reducible refine (HSN.out).mono ?_
      rintro e w10 ⟨rfl, hb10⟩
      have HBa := Lib.hid (HB9.out.trans (hb10.mono HB9.out.size))
      clear hb10
      go_wp2_with fail
      go_ret
      exact ⟨rfl, HBa.out⟩
theorem ncounts_law {A B : Option Addr} {a b : List Int} {c c' : Nat} {w : World} (hA : IntsIn w A a) (hB : IntsIn w B b) (ha : a.length ≤ maxLen) (hb : b.length ≤ maxLen) (hc : a.length ≤ c) (hc' : b.length ≤ c')
    (hwa : ∀ z ∈ a, -9223372036854775808 ≤ z ∧ z ≤ 9223372036854775807) (hwb : ∀ z ∈ b, -9223372036854775808 ≤ z ∧ z ≤ 9223372036854775807) :
    Calls Try.prog 4 #[.slice A a.length c, .slice B b.length c'] w fun e w' => e = .returned (.bool true) ∧ Below w.heap.size w w' :=
  ncounts_walk (a := a.take 60) (b := b.take 60) ha hb hc hc' (by rw [List.length_take]; omega) (by rw [List.length_take]; omega) (Lib.hid (ints_take hA 60)) (Lib.hid (ints_take hB 60)) (fun z hz => hwa z (List.mem_of_mem_take hz)) (fun z hz => hwb z (List.mem_of_mem_take hz))
end Go.Proofs.Ytllgeffjkjdadaa.N
