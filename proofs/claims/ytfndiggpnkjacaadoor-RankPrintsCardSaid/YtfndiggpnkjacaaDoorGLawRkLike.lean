/-
  The law RankLike, walked.
-/
import Derived.Test.YtfndiggpnkjacaaDoorGzl
namespace Go.Proofs.YtfndiggpnkjacaaDoor.Rk
set_option linter.unusedVariables false
set_option linter.unusedSimpArgs false
open Go.RowKit
open T
open N (Ln ListsIn)
open Fp (fV isN same same_any ky)

theorem bel {w W w' : World} (h : Below w.heap.size w W) (k : Below W.heap.size W w') : Below w.heap.size w w' := h.trans (k.mono h.size)
/-- The first forty lines. -/
def fw (a : List Ln) : List Ln := a.take 40
theorem fw_le (a : List Ln) : (fw a).length ≤ 40 := List.length_take_le _ _
theorem fw_mem {a : List Ln} (h : ∀ y ∈ a, y.1.length ≤ maxLen) : ∀ y ∈ fw a, y.1.length ≤ maxLen := fun y hy => h y (List.mem_of_mem_take hy)
theorem few_is {A : Option Addr} {a : List Ln} {c : Nat} (ha : a.length ≤ maxLen) (hc : a.length ≤ c) (W : World) : Calls Tryd.prog 9 #[.slice A a.length c] W fun e w' => e = .returned (.slice A (fw a).length c) ∧ w' = W := by
  have := few_any A a.length c W ha hc
  rw [show min a.length 40 = (fw a).length by rw [fw, List.length_take, Nat.min_comm]] at this
  exact this
theorem fw_in {w : World} {A : Option Addr} {a : List Ln} (h : LinesIn w A a) : LinesIn w A (fw a) := lines_take h 40
theorem fw_cap {a : List Ln} {c : Nat} (h : a.length ≤ c) : (fw a).length ≤ c := by rw [fw, List.length_take]; omega
set_option maxRecDepth 100000 in
set_option maxHeartbeats 4000000 in
theorem rlike_law {A B : Option Addr} {a b : List Ln} {c c' : Nat} (w : World) (hA : LinesIn w A a) (hB : LinesIn w B b) (ha : a.length ≤ maxLen) (hb : b.length ≤ maxLen) (hca : a.length ≤ c) (hcb : b.length ≤ c')
    (hta : ∀ y ∈ a, y.1.length ≤ maxLen) (htb : ∀ y ∈ b, y.1.length ≤ maxLen) (ht : Tab w) :
    Calls Tryd.prog 3 #[.slice A a.length c, .slice B b.length c'] w fun e w' => e = .returned (.bool true) ∧ Below w.heap.size w w' := by
  have HF1 := Lib.hid (few_is (A := A) ha hca)
  have HF2 := Lib.hid (few_is (A := B) hb hcb)
  have la := fw_le a
  have lb := fw_le b
  have HIA := Lib.hid (fw_in hA)
  have HIB := Lib.hid (fw_in hB)
  have HC : Hid (∀ W, Below w.heap.size w W → Calls Tryd.prog 11 #[.slice A (fw a).length c, .slice B (fw b).length c'] W fun e w' => e = .returned (.int .i64 (cn (fw a) (fw b) : Nat)) ∧ Below w.heap.size w w') :=
    Lib.hid fun W h => (cmn_any A B (fw a) (fw b) c c' W (HIA.out.below h) (HIB.out.below h) (by omega) (by omega) (fw_cap hca) (fw_cap hcb) (fw_mem hta) (fw_mem htb)).mono fun e w' q => ⟨q.1, bel h q.2⟩
  have HR : Hid (∀ W, Below w.heap.size w W → Calls Tryd.prog 12 #[.slice A (fw a).length c, .slice B (fw b).length c'] W fun e w' => e = .returned (.int .i64 (cn (fw a) (fw b) : Nat)) ∧ Below w.heap.size w w') :=
    Lib.hid fun W h => (rcommon_any A B (fw a) (fw b) c c' W (HIA.out.below h) (HIB.out.below h) (by omega) (by omega) (fw_cap hca) (fw_cap hcb)).mono fun e w' q => ⟨q.1, bel h q.2⟩
  have HL : Hid (∀ W, Below w.heap.size w W → Calls Tryd.prog 14 #[.slice A (fw a).length c, .slice B (fw b).length c'] W fun e w' => ∃ x : UInt64, e = .returned (fV x.toNat) ∧ ky x.toNat = ky (lks (fw a) (fw b)) ∧ Below w.heap.size w w') :=
    Lib.hid fun W h => ((lk_is la lb (fw_mem hta) (fw_mem htb)).call W (HIA.out.below h) (HIB.out.below h) (fw_cap hca) (fw_cap hcb)).mono fun e w' ⟨x, q1, q2, q3⟩ => ⟨x, q1, q2.key, bel h q3⟩
  have HM : Hid (∀ W, Below w.heap.size w W → Calls Tryd.prog 15 #[.slice A (fw a).length c, .slice B (fw b).length c'] W fun e w' => ∃ x : UInt64, e = .returned (fV x.toNat) ∧ ky x.toNat = ky (lks (fw a) (fw b)) ∧ Below w.heap.size w w') :=
    Lib.hid fun W h => ((rlike_any la lb).call W (HIA.out.below h) (HIB.out.below h) (fw_cap hca) (fw_cap hcb)).mono fun e w' ⟨x, q1, q2, q3⟩ => ⟨x, q1, q2.key, bel h q3⟩
  have HV := Lib.hid (live23.call w ht)
  clear hA hB ha hb hca hcb hta htb ht la lb HIA HIB
  generalize cn (fw a) (fw b) = n at *
  generalize ky (lks (fw a) (fw b)) = q at *
  generalize (fw a).length = k at *
  generalize (fw b).length = m at *
  go_enter Tryd.func3, Tryd.ntmps3
  go_wp2_with fail
  refine (HF1.out _).mono ?_
  rintro e w1 ⟨rfl, rfl⟩
  go_wp2_with fail
  refine (HF2.out _).mono ?_
  rintro e w1' ⟨rfl, rfl⟩
  go_wp2_with fail
  refine (HV.out).mono ?_
  rintro e w1 ⟨rfl, hb1⟩
  go_wp2_with fail
  refine (HC.out w1 hb1).mono ?_
  rintro e w2 ⟨rfl, hb2⟩
  go_wp2_with fail
  refine (HR.out w2 hb2).mono ?_
  rintro e w3 ⟨rfl, hb3⟩
  go_wp2_with fail
  refine (HL.out w3 hb3).mono ?_
  rintro e w4 ⟨x, rfl, hx, hb4⟩
  go_wp2_with fail
  refine (HM.out w4 hb4).mono ?_
  rintro e w5 ⟨y, rfl, hy, hb5⟩
  have HS := Lib.hid (show ∀ W : World, Calls Tryd.prog 13 #[fV x.toNat, fV y.toNat] W fun e w' => e = .returned (.bool true) ∧ w' = W from fun W => (same_any _ _ (u_lt x) (u_lt y) W).mono fun e w' ⟨h1, h2⟩ => ⟨by rw [h1, show same x.toNat y.toNat = true from decide_eq_true (hx.trans hy.symm)], h2⟩)
  clear hx hy
  go_wp2_with fail
  refine (HS.out _).mono ?_
  rintro e w6 ⟨rfl, rfl⟩
  go_wp2_with fail
  go_ret
  exact ⟨rfl, hb5⟩
end Go.Proofs.YtfndiggpnkjacaaDoor.Rk
