/-
  The law ChunkTurns.
-/
import Derived.Test.YtcnnbchaelboeaaGLawCOf
import Derived.BigQuiet
namespace Go.Proofs.Ytcnnbchaelboeaa.Ck
set_option linter.unusedVariables false
set_option linter.unusedSimpArgs false
open Go.RowKit
open T
open Mt (Pr fnd Rt right right_iff)
open N (PrIn PrIn.below)
open V (drawn_below)
open I (alloc1)

set_option maxRecDepth 100000 in
set_option maxHeartbeats 4000000 in
theorem cturns_walk {A B : Option Addr} {c0 c1 n0 n1 : Nat} {p q : List Pr} {o a b z : Int} {l : List Ck} (w : World)
    (HF0 : Hid (∀ W, Calls Try.prog 9 #[.slice A n0 c0] W fun e w' => e = .returned (.slice A p.length c0) ∧ w' = W)) (HF1 : Hid (∀ W, Calls Try.prog 9 #[.slice B n1 c1] W fun e w' => e = .returned (.slice B q.length c1) ∧ w' = W))
    (hP : PrIn w A p) (hQ : PrIn w B q) (hl : l.length ≤ 1200) (HO : Hid (OfC 10 p q o a b l z)) (HR : Hid (OfC 10 q p o b a (l.map turn) z)) :
    Calls Try.prog 6 #[.slice A n0 c0, .slice B n1 c1, .int .i64 o, .int .i64 a, .int .i64 b] w fun e w' => e = .returned (.bool true) ∧ Below w.heap.size w w' := by
  have HP := Lib.hid hP
  have HQ := Lib.hid hQ
  clear hP hQ
  go_enter Try.func6, Try.ntmps6
  go_wp2_with fail
  with_reducible refine (HF0.out _).mono ?_
  rintro e w1 ⟨rfl, rfl⟩
  go_wp2_with fail
  with_reducible refine (HF1.out _).mono ?_
  rintro e w1 ⟨rfl, rfl⟩
  have HB1 := Lib.hid (Below.refl w1.heap.size w1)
  clear HF0 HF1
  go_wp2_with fail
  with_reducible refine (HO.out.at c0 c1 HP.out HQ.out).mono ?_
  rintro e w2 ⟨C1, k1, rfl, h1, hb2⟩
  have HB2 := Lib.hid (HB1.out.trans (hb2.mono HB1.out.size))
  replace HP := Lib.hid (HP.out.below hb2)
  replace HQ := Lib.hid (HQ.out.below hb2)
  have H1 := Lib.hid h1
  clear hb2 HB1 h1 HO
  go_wp2_with fail
  with_reducible refine (HR.out.at c1 c0 HQ.out HP.out).mono ?_
  rintro e w3 ⟨C2, k2, rfl, h2, hb3⟩
  have HB3 := Lib.hid (HB2.out.trans (hb3.mono HB2.out.size))
  replace H1 := Lib.hid (H1.out.below hb3)
  have H2 := Lib.hid h2
  clear hb3 HB2 h2 HR HP HQ
  have hml : (l.map turn).length = l.length := List.length_map ..
  rw [hml]
  have HML := Lib.hid hml
  clear hml
  have hzz : (z != z) = false := by simp
  have hne : ((l.length : Int) != (l.length : Int)) = false := by simp
  go_wp2_with fail
  go_loopg [15] l.length (fun mm x15 wr => ∃ k : Nat, k ≤ l.length ∧ x15 = .int .i64 (k : Int) ∧ l.length - k ≤ mm ∧ Below w3.heap.size w3 wr)
  case atStart => exact ⟨0, Nat.zero_le _, rfl, by omega, Below.refl _ _⟩
  case round =>
    obtain ⟨k, hk, rfl, hm, hbr⟩ := hrel
    by_cases hlt : k < l.length
    · obtain ⟨b1, o1, hAe, hb1, hI1⟩ := (H1.out.below hbr) (by omega)
      obtain ⟨b2, o2, hBe, hb2, hI2⟩ := (H2.out.below hbr) (by rw [HML.out]; omega)
      subst hAe hBe
      obtain ⟨c0, c1, c2, c3, c4, c5, c6⟩ := hI1 k hlt
      obtain ⟨d0, d1, d2, d3, d4, d5, d6⟩ := hI2 k (by rw [HML.out]; exact hlt)
      simp only [List.getElem_map] at d0 d1 d2 d3 d4 d5 d6
      have h0k : (0 : Int) ≤ (k : Int) := by omega
      have hki : (k : Int) < (l.length : Int) := by omega
      obtain ⟨x, hx⟩ : ∃ x : Ck, l[k]'hlt = x := ⟨_, rfl⟩
      rw [hx] at c0 c1 c2 c3 c4 c5 c6 d0 d1 d2 d3 d4 d5 d6
      have qX := fun w => ck_neq w x
      simp only [ckV] at qX
      clear hx hI1 hI2
      obtain ⟨x0, x1, x2, x3, x4, x5, x6⟩ := x
      simp only [turn] at c0 c1 c2 c3 c4 c5 c6 d0 d1 d2 d3 d4 d5 d6 qX
      obtain ⟨W4, hW4⟩ : ∃ W : World, W = wr.alloc (.cells #[.bool x0, .int .i64 x1, .int .i64 x2, .int .i64 x5, .int .i64 x6, .int .i64 x3, .int .i64 x4] 35) := ⟨_, rfl⟩
      have hb4 : Below wr.heap.size wr W4 := by rw [hW4]; exact alloc1 _ _
      have HX4 := Lib.hid (show W4.heap[wr.heap.size]? = some (.cells #[.bool x0, .int .i64 x1, .int .i64 x2, .int .i64 x5, .int .i64 x6, .int .i64 x3, .int .i64 x4] 35 (0, 0)) by rw [hW4]; exact heap_alloc_new wr _)
      have e0 := (hb4.cell (p := ⟨b1, o1 + k * 7, none⟩) hb1).trans c0
      have e1 := (hb4.cell (p := ⟨b1, o1 + k * 7 + 1, none⟩) hb1).trans c1
      have e2 := (hb4.cell (p := ⟨b1, o1 + k * 7 + 2, none⟩) hb1).trans c2
      have e3 := (hb4.cell (p := ⟨b1, o1 + k * 7 + 3, none⟩) hb1).trans c3
      have e4 := (hb4.cell (p := ⟨b1, o1 + k * 7 + 4, none⟩) hb1).trans c4
      have e5 := (hb4.cell (p := ⟨b1, o1 + k * 7 + 5, none⟩) hb1).trans c5
      have e6 := (hb4.cell (p := ⟨b1, o1 + k * 7 + 6, none⟩) hb1).trans c6
      have HBR := Lib.hid (hbr.trans (hb4.mono hbr.size))
      go_wp2_with fail
      rw [← hW4]
      obtain ⟨xb, hxb⟩ : ∃ x, x = wr.heap.size := ⟨_, rfl⟩
      rw [← hxb] at HX4 ⊢
      have f0 := L.blk_cell HX4.out 0
      have f1 := L.blk_cell HX4.out 1
      have f2 := L.blk_cell HX4.out 2
      have f3 := L.blk_cell HX4.out 3
      have f4 := L.blk_cell HX4.out 4
      have f5 := L.blk_cell HX4.out 5
      have f6 := L.blk_cell HX4.out 6
      simp only [List.getElem?_toArray, List.getElem?_cons_zero, List.getElem?_cons_succ] at f0 f1 f2 f3 f4 f5 f6
      clear hW4 hxb c0 c1 c2 c3 c4 c5 c6 d0 d1 d2 d3 d4 d5 d6 hb4 hbr
      go_quiet (fail)
      go_wp2_with fail
      go_roundg (l.length - (k + 1))
      case rel => exact ⟨k + 1, by omega, by go_num, Nat.le_refl _, HBR.out.trans ((drawn_below _ _).mono HBR.out.size)⟩
      case measure => omega
    · obtain rfl : k = l.length := by omega
      have HBR := Lib.hid (HB3.out.trans (hbr.mono HB3.out.size))
      clear hbr
      go_wp2_with fail
      with_reducible refine (live13.at wr).mono ?_
      rintro e w4 ⟨rfl, hb4⟩
      have HB4 := Lib.hid (HBR.out.trans (hb4.mono HBR.out.size))
      go_wp2_with fail
      go_ret
      exact ⟨rfl, HB4.out⟩
theorem cturns_law {A B : Option Addr} {c0 c1 : Nat} {p q : List Pr} {o a b : Int} {w : World} (hP : PrIn w A p) (hQ : PrIn w B q) (hp : p.length ≤ maxLen) (hq : q.length ≤ maxLen) (h0 : p.length ≤ c0) (h1 : q.length ≤ c1) :
    Calls Try.prog 6 #[.slice A p.length c0, .slice B q.length c1, .int .i64 o, .int .i64 a, .int .i64 b] w fun e w' => e = .returned (.bool true) ∧ Below w.heap.size w w' := by
  have l1 := len40 p
  have l2 := len40 q
  have hs := chunks_sw (p.take 40) (q.take 40) o a b
  have hr := c_of (q.take 40) (p.take 40) o b a (by omega) (by omega)
  rw [hs.1, hs.2] at hr
  exact cturns_walk w (Lib.hid fun W => few_any A p c0 W hp h0) (Lib.hid fun W => few_any B q c1 W hq h1) (pr_take hP 40) (pr_take hQ 40) (chunks_len _ _ _ _ _) (Lib.hid (c_of (p.take 40) (q.take 40) o a b (by omega) (by omega))) (Lib.hid hr)
end Go.Proofs.Ytcnnbchaelboeaa.Ck
