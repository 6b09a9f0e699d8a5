/-
  The laws ChunkOf and ChunkRight.
-/
import Derived.Test.YtcnnbchaelboeaaGcp
namespace Go.Proofs.Ytcnnbchaelboeaa.Ck
set_option linter.unusedVariables false
set_option linter.unusedSimpArgs false
open Go.RowKit
open T
open Mt (Pr fnd Rt right)
open N (PrIn PrIn.below)
open V (drawn_below)
open I (alloc1)

set_option maxRecDepth 100000 in
set_option maxHeartbeats 4000000 in
theorem cof_walk {A B : Option Addr} {c0 c1 n0 n1 : Nat} {p q : List Pr} {o a b z : Int} {l : List Ck} (w : World)
    (HF0 : Hid (∀ W, Calls Try.prog 9 #[.slice A n0 c0] W fun e w' => e = .returned (.slice A p.length c0) ∧ w' = W)) (HF1 : Hid (∀ W, Calls Try.prog 9 #[.slice B n1 c1] W fun e w' => e = .returned (.slice B q.length c1) ∧ w' = W))
    (hP : PrIn w A p) (hQ : PrIn w B q) (HO : Hid (OfC 10 p q o a b l z)) (HR : Hid (OfC 11 p q o a b l z)) (HS : Hid (SmC 13 l)) :
    Calls Try.prog 3 #[.slice A n0 c0, .slice B n1 c1, .int .i64 o, .int .i64 a, .int .i64 b] w fun e w' => e = .returned (.bool true) ∧ Below w.heap.size w w' := by
  have HP := Lib.hid hP
  have HQ := Lib.hid hQ
  clear hP hQ
  go_enter Try.func3, Try.ntmps3
  go_wp2_with fail
  with_reducible refine (HF0.out _).mono ?_
  rintro e w1 ⟨rfl, rfl⟩
  go_wp2_with fail
  with_reducible refine (HF1.out _).mono ?_
  rintro e w1 ⟨rfl, rfl⟩
  have HB1 := Lib.hid (Below.refl w1.heap.size w1)
  clear HF0 HF1
  go_wp2_with fail
  with_reducible refine (HO.out.at c0 c1 HP.out HQ.out).mono ?_
  rintro e w2 ⟨C1, k1, rfl, h1, hb2⟩
  have HB2 := Lib.hid (HB1.out.trans (hb2.mono HB1.out.size))
  replace HP := Lib.hid (HP.out.below hb2)
  replace HQ := Lib.hid (HQ.out.below hb2)
  have H1 := Lib.hid h1
  clear hb2 HB1 h1 HO
  go_wp2_with fail
  with_reducible refine (HR.out.at c0 c1 HP.out HQ.out).mono ?_
  rintro e w3 ⟨C2, k2, rfl, h2, hb3⟩
  have HB3 := Lib.hid (HB2.out.trans (hb3.mono HB2.out.size))
  replace H1 := Lib.hid (H1.out.below hb3)
  have H2 := Lib.hid h2
  clear hb3 HB2 h2 HR HP HQ
  go_wp2_with fail
  with_reducible refine (live13.at w3).mono ?_
  rintro e w4 ⟨rfl, hb4⟩
  have HB4 := Lib.hid (HB3.out.trans (hb4.mono HB3.out.size))
  replace H1 := Lib.hid (H1.out.below hb4)
  replace H2 := Lib.hid (H2.out.below hb4)
  clear hb4 HB3
  go_wp2_with fail
  with_reducible refine (HS.out.at k1 k2 H1.out H2.out).mono ?_
  rintro e w5 ⟨rfl, hb5⟩
  have HB5 := Lib.hid (HB4.out.trans (hb5.mono HB4.out.size))
  go_wp2_with fail
  go_ret
  exact ⟨by simp, HB5.out⟩
theorem len40 (p : List Pr) : (p.take 40).length ≤ 40 := by rw [List.length_take]; omega
theorem cof_law {A B : Option Addr} {c0 c1 : Nat} {p q : List Pr} {o a b : Int} {w : World} (hP : PrIn w A p) (hQ : PrIn w B q) (hp : p.length ≤ maxLen) (hq : q.length ≤ maxLen) (h0 : p.length ≤ c0) (h1 : q.length ≤ c1) :
    Calls Try.prog 3 #[.slice A p.length c0, .slice B q.length c1, .int .i64 o, .int .i64 a, .int .i64 b] w fun e w' => e = .returned (.bool true) ∧ Below w.heap.size w w' := by
  have l1 := len40 p
  have l2 := len40 q
  exact cof_walk w (Lib.hid fun W => few_any A p c0 W hp h0) (Lib.hid fun W => few_any B q c1 W hq h1) (pr_take hP 40) (pr_take hQ 40) (Lib.hid (c_of (p.take 40) (q.take 40) o a b (by omega) (by omega))) (Lib.hid (c_rof (p.take 40) (q.take 40) o a b (by omega) (by omega))) (Lib.hid (c_same _ (Nat.le_trans (chunks_len _ _ _ _ _) (by decide))))

set_option maxRecDepth 100000 in
set_option maxHeartbeats 4000000 in
theorem cright_law {A : Option Addr} {c : Nat} {l : List Ck} {o a b : Int} {w : World} (hA : CkIn w A l) (hl : l.length ≤ maxLen) (ho : W64 o) (ha : W64 a) (hb : W64 b) :
    Calls Try.prog 7 #[.slice A l.length c, .int .i64 o, .int .i64 a, .int .i64 b] w fun e w' => e = .returned (.bool true) ∧ Below w.heap.size w w' := by
  have HA := Lib.hid hA
  have HR := Lib.hid (c_right l o a b hl ho ha hb)
  have HQ := Lib.hid (c_rright l o a b hl ho ha hb)
  obtain ⟨v, hv⟩ : ∃ v, v = cright l o a b := ⟨_, rfl⟩
  rw [← hv] at HR HQ
  clear hA hv ho ha hb
  go_enter Try.func7, Try.ntmps7
  go_wp2_with fail
  with_reducible refine (live13.at w).mono ?_
  rintro e w1 ⟨rfl, hb1⟩
  have HB1 := Lib.hid hb1
  replace HA := Lib.hid (HA.out.below hb1)
  clear hb1
  go_wp2_with fail
  with_reducible refine (HR.out.at c HA.out).mono ?_
  rintro e w2 ⟨rfl, hb2⟩
  have HB2 := Lib.hid (HB1.out.trans (hb2.mono HB1.out.size))
  replace HA := Lib.hid (HA.out.below hb2)
  clear hb2 HB1
  go_wp2_with fail
  with_reducible refine (HQ.out.at c HA.out).mono ?_
  rintro e w3 ⟨rfl, hb3⟩
  have HB3 := Lib.hid (HB2.out.trans (hb3.mono HB2.out.size))
  go_wp2_with fail
  go_ret
  exact ⟨by simp, HB3.out⟩
end Go.Proofs.Ytcnnbchaelboeaa.Ck
