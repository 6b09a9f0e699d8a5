/-
  The law HunkChecks.
-/
import Derived.Test.YtimalohdchhjgaaGhh
import Derived.Test.YtimalohdchhjgaaGha
namespace Go.Proofs.Ytimalohdchhjgaa.H
set_option linter.unusedVariables false
set_option linter.unusedSimpArgs false
open Go.RowKit
open T S
open I (alloc1 own_at own_below)
open N (Ln)
open M (Lv)

set_option maxRecDepth 100000 in
set_option maxHeartbeats 4000000 in
theorem hchecks_law {A : Option Addr} {c : Nat} {hs : List Hk} {w : World} (hH : HksIn 0 w A hs) (hok : HksOk hs) (hc : hs.length ≤ c) (hj : (join (hs.take 20)).length ≤ 2000000) (hll : ∀ h ∈ hs, ∀ e ∈ h.es, e.2.length ≤ 1000000) :
    Calls Try.prog 4 #[.slice A hs.length c] w fun e w' => e = .returned (.bool true) ∧ Below w.heap.size w w' := by
  have HT := Lib.hid (hH.take 20)
  have HV := Lib.hid live9
  have hlt : (hs.take 20).length = min hs.length 20 := by rw [List.length_take]; omega
  have hok2 : HksOk (hs.take 20) := ⟨by unfold maxLen; omega, fun h hm => hok.es h (List.mem_of_mem_take hm)⟩
  have HK := Lib.hid (c_hcheck hok2)
  have HRK := Lib.hid (c_rhcheck hok2)
  have HJ := Lib.hid (c_join hok2 hj (fun h hm => hll h (List.mem_of_mem_take hm)))
  have HRJ := Lib.hid (c_rjoin hok2 hj)
  have HSM := Lib.hid (c_esame (es := join (hs.take 20)) ⟨by unfold maxLen; omega, fun e he => by
    obtain ⟨h, hm, he⟩ := List.mem_flatMap.1 he
    exact (hok2.es h hm).ls e he⟩)
  obtain ⟨n, hn⟩ : ∃ n, n = hs.length := ⟨_, rfl⟩
  obtain ⟨m, hm⟩ : ∃ m, m = (hs.take 20).length := ⟨_, rfl⟩
  have hmin : min (n : Int) 20 = (m : Int) := by omega
  have hmn : (m : Int) ≤ (n : Int) := by omega
  have hnc : (n : Int) ≤ (c : Int) := by omega
  have hmc : (m : Int) ≤ (c : Int) := by omega
  have h0m : (0 : Int) ≤ (m : Int) := by omega
  rw [← hn]
  have HMM := Lib.hid hm
  generalize hck (hs.take 20) = q at *
  generalize join (hs.take 20) = es at *
  have hqq : (q == q) = true := by simp
  have HK2 : Hid (∀ w A, HksIn 0 w A (hs.take 20) → Calls Try.prog 13 #[.slice A m c] w (CkEnd w q)) := Lib.hid (fun w A h => by rw [HMM.out]; exact HK.out.at c h)
  have HRK2 : Hid (∀ w A, HksIn 0 w A (hs.take 20) → Calls Try.prog 14 #[.slice A m c] w (CkEnd w q)) := Lib.hid (fun w A h => by rw [HMM.out]; exact HRK.out.at c h)
  have HJ2 : Hid (∀ w A, HksIn 0 w A (hs.take 20) → Calls Try.prog 16 #[.slice A m c] w (JnEnd w es)) := Lib.hid (fun w A h => by rw [HMM.out]; exact HJ.out.at c h)
  have HRJ2 : Hid (∀ w A, HksIn 0 w A (hs.take 20) → Calls Try.prog 17 #[.slice A m c] w (JnEnd w es)) := Lib.hid (fun w A h => by rw [HMM.out]; exact HRJ.out.at c h)
  generalize hs.take 20 = hs2 at *
  clear hH hok hok2 hj hll hlt HK HRK HJ HRJ hn hm HMM
  have HB0 : Hid (Below w.heap.size w w) := Lib.hid (Below.refl _ _)
  go_enter Try.func4, Try.ntmps4
  go_wp2_with fail
  with_reducible refine (HV.out.at _).mono ?_
  rintro e w1 ⟨rfl, hb⟩
  have HH_1 := Lib.hid (HT.out.below hb)
  have HB1 := Lib.hid (HB0.out.trans (hb.mono HB0.out.size))
  clear hb HB0 HT
  go_wp2_with fail
  with_reducible refine (HK2.out _ _ HH_1.out).mono ?_
  rintro e w2 ⟨rfl, hb⟩
  have HH_2 := Lib.hid (HH_1.out.below hb)
  have HB2 := Lib.hid (HB1.out.trans (hb.mono HB1.out.size))
  clear hb HB1 HH_1
  go_wp2_with fail
  with_reducible refine (HRK2.out _ _ HH_2.out).mono ?_
  rintro e w3 ⟨rfl, hb⟩
  have HH_3 := Lib.hid (HH_2.out.below hb)
  have HB3 := Lib.hid (HB2.out.trans (hb.mono HB2.out.size))
  clear hb HB2 HH_2
  go_wp2_with fail
  with_reducible refine (HJ2.out _ _ HH_3.out).mono ?_
  rintro e w4 ⟨A1, c1, rfl, he, hb⟩
  have HH_4 := Lib.hid (HH_3.out.below hb)
  have HJ_4 := Lib.hid he
  have HB4 := Lib.hid (HB3.out.trans (hb.mono HB3.out.size))
  clear hb HB3 HH_3 he
  go_wp2_with fail
  with_reducible refine (HRJ2.out _ _ HH_4.out).mono ?_
  rintro e w5 ⟨A2, c2, rfl, he, hb⟩
  have HH_5 := Lib.hid (HH_4.out.below hb)
  have HJ_5 := Lib.hid (HJ_4.out.below hb)
  have HJ2_5 := Lib.hid he
  have HB5 := Lib.hid (HB4.out.trans (hb.mono HB4.out.size))
  clear hb HB4 HH_4 HJ_4 he
  go_wp2_with fail
  with_reducible refine (HSM.out.at c1 c2 HJ_5.out HJ2_5.out).mono ?_
  rintro e w6 ⟨rfl, hb⟩
  have HH_6 := Lib.hid (HH_5.out.below hb)
  have HJ_6 := Lib.hid (HJ_5.out.below hb)
  have HJ2_6 := Lib.hid (HJ2_5.out.below hb)
  have HB6 := Lib.hid (HB5.out.trans (hb.mono HB5.out.size))
  clear hb HB5 HH_5 HJ_5 HJ2_5
  go_wp2_with fail
  go_ret
  exact ⟨rfl, HB6.out⟩
end Go.Proofs.Ytimalohdchhjgaa.H
