/-
  The law RankAll, walked.
-/
import Derived.Test.YtfndiggpnkjacaaDoorGLawRkLike
import Derived.BigQuiet
namespace Go.Proofs.YtfndiggpnkjacaaDoor.Rk
set_option linter.unusedVariables false
set_option linter.unusedSimpArgs false
open Go.RowKit
open T
open N (Ln ListsIn)
open Fp (fV isN same same_any ky)

theorem tx_le (ls : List (List Ln)) : (tx ls).length ≤ 8 := by rw [tx_len]; omega
theorem tx_mem {ls : List (List Ln)} {l : List Ln} (h : l ∈ tx ls) : ∃ m ∈ ls, l = fw m := by
  unfold tx at h
  obtain ⟨m, hm, rfl⟩ := List.mem_map.1 h
  exact ⟨m, List.mem_of_mem_take hm, rfl⟩
/-- All that a law asks of texts as they are handed in. -/
structure Tx (w : World) (A : Option Addr) (ls : List (List Ln)) : Prop where
  i : ListsIn w A ls
  n : ls.length ≤ maxLen
  l : ∀ l ∈ ls, l.length ≤ maxLen
  t : ∀ l ∈ ls, ∀ y ∈ l, y.1.length ≤ maxLen
theorem Tx.lk {w : World} {A : Option Addr} {ls : List (List Ln)} (h : Tx w A ls) {t : List Ln} (ht : t.length ≤ 40) (htl : ∀ y ∈ t, y.1.length ≤ maxLen) : ∀ l ∈ tx ls, LkC 14 l t := fun l hl => by
  obtain ⟨m, hm, rfl⟩ := tx_mem hl
  exact lk_is (fw_le m) ht (fw_mem (h.t m hm)) htl
theorem Tx.rlk {w : World} {A : Option Addr} {ls : List (List Ln)} (_h : Tx w A ls) {t : List Ln} (ht : t.length ≤ 40) : ∀ l ∈ tx ls, LkC 15 l t := fun l hl => by
  obtain ⟨m, hm, rfl⟩ := tx_mem hl
  exact rlike_any (fw_le m) ht
set_option maxRecDepth 100000 in
set_option maxHeartbeats 4000000 in
theorem rall_law {A B : Option Addr} {ls : List (List Ln)} {t : List Ln} {c c' : Nat} (w : World) (hX : Tx w A ls) (hB : LinesIn w B t) (htn : t.length ≤ maxLen) (hcb : t.length ≤ c') (htl : ∀ y ∈ t, y.1.length ≤ maxLen) (ht : Tab w) :
    Calls Tryd.prog 4 #[.slice A ls.length c, .slice B t.length c'] w fun e w' => e = .returned (.bool true) ∧ Below w.heap.size w w' := by
  have HTX := Lib.hid (texts_any A ls c w hX.i hX.l hX.n)
  have HF := Lib.hid (few_is (A := B) htn hcb)
  have HLK := Lib.hid (hX.lk (fw_le t) (fw_mem htl))
  have HRK := Lib.hid (hX.rlk (fw_le t))
  have HIB := Lib.hid (fw_in hB)
  have hcw : (fw t).length ≤ c' := fw_cap hcb
  have h8 := tx_le ls
  have HT := Lib.hid ht
  clear hX hB htn hcb htl ht
  generalize tx ls = ts at *
  generalize fw t = u at *
  obtain ⟨n, hn⟩ : ∃ n, n = ts.length := ⟨_, rfl⟩
  obtain ⟨m, hm⟩ : ∃ m, m = u.length := ⟨_, rfl⟩
  rw [← hn] at HTX h8
  rw [← hm] at HF hcw
  have HN := Lib.hid hn
  have HM := Lib.hid hm
  clear hn hm
  go_enter Tryd.func4, Tryd.ntmps4
  go_wp2_with fail
  refine (HTX.out).mono ?_
  rintro e w1 ⟨D, cap, rfl, hD, hcap, hb1⟩
  go_wp2_with fail
  refine (HF.out _).mono ?_
  rintro e wz ⟨rfl, hwz⟩
  rw [hwz]
  clear hwz
  have HBD := Lib.hid (HIB.out.below hb1)
  have HRA : Hid (Calls Tryd.prog 17 #[.slice D n cap, .slice B m c'] w1 (AlEnd w1 ts u)) := Lib.hid (by
    have := rall_any D B ts u cap c' w1 hD HBD.out (by rw [← HN.out]; exact h8) (by rw [← HM.out]; exact hcw) HRK.out
    rw [← HN.out, ← HM.out] at this
    exact this)
  have HD := Lib.hid hD
  have HB1 := Lib.hid hb1
  have HT1 := Lib.hid (Tab.later HT.out hb1)
  clear hD hb1 HIB HT HTX HF
  go_wp2_with fail
  refine (HRA.out).mono ?_
  rintro e w2 ⟨ws, ys, Y, yc, rfl, hl, hw, hrd, hY, hyc, hb2⟩
  have HPH := Lib.hid (rd_phi hl hw hrd)
  have hyl : ys.length = n := by rw [hrd.len, hl, HN.out]
  rw [← HN.out]
  rw [← HN.out] at hyc
  replace HD := Lib.hid (HD.out.below hb2)
  replace HBD := Lib.hid (HBD.out.below hb2)
  replace HB1 := Lib.hid (bel HB1.out hb2)
  replace HT1 := Lib.hid (Tab.later HT1.out hb2)
  have HNR : Hid (Calls Tryd.prog 18 #[.slice D n cap, .slice B m c'] w2 fun e w' => e = .returned (.tuple #[.int .i64 (nr ys).1, .bool (nr ys).2]) ∧ Below w2.heap.size w2 w') := Lib.hid (by
    have := nearest_any D B ts u cap c' w2 HD.out HBD.out (by rw [← HN.out]; exact h8) (by rw [← HM.out]; exact hcw) HLK.out
    rw [← HN.out, ← HM.out, ← nr_phi HPH.out] at this
    exact this)
  have HY := Lib.hid hY
  have HYL := Lib.hid hyl
  clear hl hw hrd hY hb2 HRA HRK hyl
  go_wp2_with fail
  refine (HNR.out).mono ?_
  rintro e w3 ⟨rfl, hb3⟩
  replace HD := Lib.hid (HD.out.below hb3)
  replace HBD := Lib.hid (HBD.out.below hb3)
  replace HB1 := Lib.hid (bel HB1.out hb3)
  replace HT1 := Lib.hid (Tab.later HT1.out hb3)
  replace HY := Lib.hid (HY.out.below hb3)
  clear hb3 HNR
  have HLV : Hid (∀ W : World, Below w3.heap.size w3 W → Calls Tryd.prog 10 #[] W fun e w' => e = .returned (.bool true) ∧ Below w3.heap.size w3 w') := Lib.hid fun W h => (live23.call W (Tab.later HT1.out h)).mono fun e w' q => ⟨q.1, bel h q.2⟩
  have HAL : Hid (∀ W : World, Below w3.heap.size w3 W → Calls Tryd.prog 20 #[.slice D n cap, .slice B m c'] W fun e w' => ∃ zs Z zc, e = .returned (.slice Z n zc) ∧ LksIn w' Z zs ∧ zs.map phi = ys.map phi ∧ zs.length = n ∧ Below w3.heap.size w3 w') := Lib.hid fun W h => by
    have := all_any D B ts u cap c' W (HD.out.below h) (HBD.out.below h) (by rw [← HN.out]; exact h8) (by rw [← HM.out]; exact hcw) HLK.out
    rw [← HN.out, ← HM.out] at this
    refine this.mono ?_
    rintro e w' ⟨vs, zs, Z, zc, q1, q2, q3, q4, q5, q6, q7⟩
    exact ⟨zs, Z, zc, by rw [q1, HN.out], q5, (rd_phi q2 q3 q4).trans HPH.out.symm, by rw [q4.len, q2, HN.out], bel h q7⟩
  have HSM : Hid (∀ (W : World) (Z : Option Addr) (zc : Nat) (zs : List Kx), Below w3.heap.size w3 W → LksIn W Z zs → zs.map phi = ys.map phi → zs.length = n → Calls Tryd.prog 19 #[.slice Z n zc, .slice Y n yc] W fun e w' => e = .returned (.bool true) ∧ Below w3.heap.size w3 w') := Lib.hid fun W Z zc zs h q1 q2 q3 => (rsame_any Z Y zs ys n zc yc W q1 (HY.out.below h) q2 q3 (by omega)).mono fun e w' q => ⟨q.1, bel h q.2⟩
  clear HD HBD HLK HPH HT1 HN HM hcap
  cases ys with
  | nil =>
    have hn0 : n = 0 := by have := HYL.out; simpa using this.symm
    subst hn0
    clear HYL HY
    simp only [nr]
    go_upto_region 5 with fail
    go_quiet (fail)
    have HQ := Lib.hid (V.drawn_below w3 nq)
    go_wp2_with fail
    refine (HLV.out _ HQ.out).mono ?_
    rintro e w4 ⟨rfl, hb4⟩
    go_wp2_with fail
    refine (HAL.out _ hb4).mono ?_
    rintro e w5 ⟨zs, Z, zc, rfl, hZ, hzp, hzl, hb5⟩
    go_wp2_with fail
    refine (HSM.out _ _ _ _ hb5 hZ hzp hzl).mono ?_
    rintro e w6 ⟨rfl, hb6⟩
    go_wp2_with fail
    go_ret
    exact ⟨rfl, bel HB1.out hb6⟩
  | cons y s =>
    obtain ⟨b, x⟩ := y
    obtain ⟨bk, off, rfl, hbk, hat⟩ := HY.out (by simp)
    obtain ⟨c0, c1⟩ := hat 0 (by simp)
    simp only [List.getElem_cons_zero, Nat.zero_mul, Nat.add_zero] at c0 c1
    have hnp : 0 < n := by have := HYL.out; simp only [List.length_cons] at this; omega
    have hnz : (0 : Int) < (n : Int) := by omega
    clear hat HY HYL
    cases nx : isN x.toNat
    · rw [show nr ((b, x) :: s) = (b, true) by simp [nr, nx]]
      go_upto_region 5 with fail
      go_quiet (fail)
      obtain ⟨wq, hwq⟩ : ∃ W : World, W = w3.drewN nq := ⟨_, rfl⟩
      rw [← hwq]
      have hbq : Below w3.heap.size w3 wq := by rw [hwq]; exact V.drawn_below w3 nq
      replace c0 := (hbq.cell (p := ⟨bk, off, none⟩) hbk).trans c0
      clear hwq c1
      go_wp2_with fail
      refine (HLV.out _ hbq).mono ?_
      rintro e w4 ⟨rfl, hb4⟩
      go_wp2_with fail
      refine (HAL.out _ hb4).mono ?_
      rintro e w5 ⟨zs, Z, zc, rfl, hZ, hzp, hzl, hb5⟩
      go_wp2_with fail
      refine (HSM.out _ _ _ _ hb5 hZ hzp hzl).mono ?_
      rintro e w6 ⟨rfl, hb6⟩
      go_wp2_with fail
      go_ret
      exact ⟨rfl, bel HB1.out hb6⟩
    · rw [show nr ((b, x) :: s) = (0, false) by simp [nr, nx]]
      go_upto_region 5 with fail
      go_quiet (fail)
      have HQ := Lib.hid (V.drawn_below w3 nq)
      go_wp2_with fail
      refine (HLV.out _ HQ.out).mono ?_
      rintro e w4 ⟨rfl, hb4⟩
      go_wp2_with fail
      refine (HAL.out _ hb4).mono ?_
      rintro e w5 ⟨zs, Z, zc, rfl, hZ, hzp, hzl, hb5⟩
      go_wp2_with fail
      refine (HSM.out _ _ _ _ hb5 hZ hzp hzl).mono ?_
      rintro e w6 ⟨rfl, hb6⟩
      go_wp2_with fail
      go_ret
      exact ⟨rfl, bel HB1.out hb6⟩
end Go.Proofs.YtfndiggpnkjacaaDoor.Rk
