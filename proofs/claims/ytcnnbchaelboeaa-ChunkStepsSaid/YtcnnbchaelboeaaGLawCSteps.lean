/-
  The law ChunkSteps.
-/
import Derived.Test.YtcnnbchaelboeaaGLawCOf
import Derived.Deep.RegionHeld3
namespace Go.Proofs.Ytcnnbchaelboeaa.Ck
set_option linter.unusedVariables false
set_option linter.unusedSimpArgs false
open Go.RowKit
open T
open Mt (Pr fnd Rt right right_iff)
open N (PrIn PrIn.below)
open V (drawn_below)
open I (alloc1)

theorem fine_small {p q : List Pr} {n m l : Int} (hp : Rt p n m) (hq : Rt q n l) (h0 : n ≤ 1000) (h1 : m ≤ 1000) (h2 : l ≤ 1000) (hl1 : p.length ≤ 1000) (hl2 : q.length ≤ 1000) : Fine p q :=
  ⟨hp.up.imp fun h => h.1, hq.up.imp fun h => h.1, hl1, hl2, fun z hz => by have := hp.all z hz; omega, fun z hz => by have := hq.all z hz; omega⟩
section
variable {w6 wa wb : World} {cx : Nat} {t0 t1 t2 : Int}
theorem cs_a (h : w6.heap[cx]? = some (.cells #[.bool false, .int .i64 t0, .int .i64 0, .int .i64 t1, .int .i64 0, .int .i64 t2, .int .i64 0] 35 (0, 0))) : w6.drew.cell? ⟨cx, 0, none⟩ = some (.bool false) ∧ w6.drew.cell? ⟨cx, 1, none⟩ = some (.int .i64 t0) ∧ w6.drew.cell? ⟨cx, 2, none⟩ = some (.int .i64 0) ∧ w6.drew.cell? ⟨cx, 3, none⟩ = some (.int .i64 t1) ∧ w6.drew.cell? ⟨cx, 4, none⟩ = some (.int .i64 0) ∧ w6.drew.cell? ⟨cx, 5, none⟩ = some (.int .i64 t2) ∧ w6.drew.cell? ⟨cx, 6, none⟩ = some (.int .i64 0) ∧ Below w6.heap.size w6 w6.drew := ⟨L.blk_cell h 0, L.blk_cell h 1, L.blk_cell h 2, L.blk_cell h 3, L.blk_cell h 4, L.blk_cell h 5, L.blk_cell h 6, drawn_below w6 1⟩
theorem cs_c (h : wa.cell? ⟨cx, 0, none⟩ = some (.bool false) ∧ wa.cell? ⟨cx, 1, none⟩ = some (.int .i64 t0) ∧ wa.cell? ⟨cx, 2, none⟩ = some (.int .i64 0) ∧ wa.cell? ⟨cx, 3, none⟩ = some (.int .i64 t1) ∧ wa.cell? ⟨cx, 4, none⟩ = some (.int .i64 0) ∧ wa.cell? ⟨cx, 5, none⟩ = some (.int .i64 t2) ∧ wa.cell? ⟨cx, 6, none⟩ = some (.int .i64 0) ∧ Below w6.heap.size w6 wa) : Below w6.heap.size w6 wa := h.2.2.2.2.2.2.2
theorem cs_b (h : w6.heap[cx]? = some (.cells #[.bool false, .int .i64 t0, .int .i64 0, .int .i64 t1, .int .i64 0, .int .i64 t2, .int .i64 0] 35 (0, 0))) (ha : wa.cell? ⟨cx, 0, none⟩ = some (.bool false) ∧ wa.cell? ⟨cx, 1, none⟩ = some (.int .i64 t0) ∧ wa.cell? ⟨cx, 2, none⟩ = some (.int .i64 0) ∧ wa.cell? ⟨cx, 3, none⟩ = some (.int .i64 t1) ∧ wa.cell? ⟨cx, 4, none⟩ = some (.int .i64 0) ∧ wa.cell? ⟨cx, 5, none⟩ = some (.int .i64 t2) ∧ wa.cell? ⟨cx, 6, none⟩ = some (.int .i64 0) ∧ Below w6.heap.size w6 wa) (hb : Below wa.heap.size wa wb) : wb.cell? ⟨cx, 0, none⟩ = some (.bool false) ∧ wb.cell? ⟨cx, 1, none⟩ = some (.int .i64 t0) ∧ wb.cell? ⟨cx, 2, none⟩ = some (.int .i64 0) ∧ wb.cell? ⟨cx, 3, none⟩ = some (.int .i64 t1) ∧ wb.cell? ⟨cx, 4, none⟩ = some (.int .i64 0) ∧ wb.cell? ⟨cx, 5, none⟩ = some (.int .i64 t2) ∧ wb.cell? ⟨cx, 6, none⟩ = some (.int .i64 0) ∧ Below w6.heap.size w6 wb := by
  have hz := (cs_c ha).trans (hb.mono (cs_c ha).size)
  have h2 := (hz.block cx (L.blk_lt h)).trans h
  exact ⟨L.blk_cell h2 0, L.blk_cell h2 1, L.blk_cell h2 2, L.blk_cell h2 3, L.blk_cell h2 4, L.blk_cell h2 5, L.blk_cell h2 6, hz⟩
end
set_option maxRecDepth 100000 in
set_option maxHeartbeats 4000000 in
theorem csteps_law {A B : Option Addr} {c0 c1 : Nat} {p q : List Pr} {n0 n1 n2 t0 t1 t2 : Int} {w : World} (hP : PrIn w A p) (hQ : PrIn w B q) (hp : p.length ≤ maxLen) (hq : q.length ≤ maxLen) (h0 : p.length ≤ c0) (h1 : q.length ≤ c1)
    (hn0 : -128 ≤ n0 ∧ n0 ≤ 127) (hn1 : -128 ≤ n1 ∧ n1 ≤ 127) (hn2 : -128 ≤ n2 ∧ n2 ≤ 127) (ht0 : 0 ≤ t0 ∧ t0 ≤ 255) (ht1 : 0 ≤ t1 ∧ t1 ≤ 255) (ht2 : 0 ≤ t2 ∧ t2 ≤ 255) :
    Calls Try.prog 4 #[.slice A p.length c0, .slice B q.length c1, .agg #[.int .i8 n0, .int .i8 n1, .int .i8 n2], .agg #[.int .u8 t0, .int .u8 t1, .int .u8 t2]] w fun e w' => e = .returned (.bool true) ∧ Below w.heap.size w w' := by
  have HF0 := Lib.hid fun W => few_any A p c0 W hp h0
  have HF1 := Lib.hid fun W => few_any B q c1 W hq h1
  have HP := Lib.hid (pr_take hP 40)
  have HQ := Lib.hid (pr_take hQ 40)
  have HL1 := Lib.hid (len40 p)
  have HL2 := Lib.hid (len40 q)
  obtain ⟨m0, hm0⟩ : ∃ n, n = p.length := ⟨_, rfl⟩
  obtain ⟨m1, hm1⟩ : ∃ n, n = q.length := ⟨_, rfl⟩
  rw [← hm0] at HF0 ⊢
  rw [← hm1] at HF1 ⊢
  generalize p.take 40 = p at *
  generalize q.take 40 = q at *
  clear hP hQ hp hq h0 h1 hm0 hm1
  obtain ⟨ha0, hb0⟩ := hn0
  obtain ⟨ha1, hb1⟩ := hn1
  obtain ⟨ha2, hb2⟩ := hn2
  obtain ⟨hc0, hd0⟩ := ht0
  obtain ⟨hc1, hd1⟩ := ht1
  obtain ⟨hc2, hd2⟩ := ht2
  obtain ⟨W0, hW0⟩ : ∃ W : World, W = (w.alloc (.cells #[.int .i8 n0, .int .i8 n1, .int .i8 n2] 32)).alloc (.cells #[.int .u8 t0, .int .u8 t1, .int .u8 t2] 33) := ⟨_, rfl⟩
  have HB0 := Lib.hid (show Below w.heap.size w W0 by rw [hW0]; exact (alloc1 _ _).alloc (by simp) _)
  have HX0 := Lib.hid (show W0.heap[w.heap.size]? = some (.cells #[.int .i8 n0, .int .i8 n1, .int .i8 n2] 32 (0, 0)) ∧ W0.heap[w.heap.size + 1]? = some (.cells #[.int .u8 t0, .int .u8 t1, .int .u8 t2] 33 (0, 0)) by rw [hW0]; exact L.two_blocks w _ _)
  have hz0 : W0.heap.size = w.heap.size + 1 + 1 := by rw [hW0]; simp
  obtain ⟨s, hs⟩ : ∃ s, s = w.heap.size := ⟨_, rfl⟩
  go_enter Try.func4, Try.ntmps4
  go_wp2_with fail
  rw [← hW0, ← hs]
  rw [← hs] at HX0 hz0
  have HSE := Lib.hid hs
  clear hW0 hs
  with_reducible refine (HF0.out _).mono ?_
  rintro e w1 ⟨rfl, rfl⟩
  go_wp2_with fail
  with_reducible refine (HF1.out _).mono ?_
  rintro e w1 ⟨rfl, rfl⟩
  replace HP := Lib.hid (HP.out.below HB0.out)
  replace HQ := Lib.hid (HQ.out.below HB0.out)
  clear HF0 HF1
  obtain ⟨W3, hW3⟩ : ∃ W : World, W = w1.alloc (.cells #[.bool false, .int .i64 t0, .int .i64 0, .int .i64 t1, .int .i64 0, .int .i64 t2, .int .i64 0] 35) := ⟨_, rfl⟩
  have hb3 : Below w1.heap.size w1 W3 := by rw [hW3]; exact alloc1 _ _
  have HX3 := Lib.hid (show W3.heap[w1.heap.size]? = some (.cells #[.bool false, .int .i64 t0, .int .i64 0, .int .i64 t1, .int .i64 0, .int .i64 t2, .int .i64 0] 35 (0, 0)) by rw [hW3]; exact heap_alloc_new w1 _)
  have a0 := L.blk_cell HX0.out.1 0
  have a1 := L.blk_cell HX0.out.1 1
  have a2 := L.blk_cell HX0.out.1 2
  have e0 := L.blk_cell HX0.out.2 0
  have e1 := L.blk_cell HX0.out.2 1
  have e2 := L.blk_cell HX0.out.2 2
  simp only [List.getElem?_toArray, List.getElem?_cons_zero, List.getElem?_cons_succ] at a0 a1 a2 e0 e1 e2
  have HRA := Lib.hid (Mt.rright_any A c0 p n0 n1 W3 (HP.out.below hb3) (by unfold maxLen; have := HL1.out; omega))
  have HB3 := Lib.hid (HB0.out.trans (hb3.mono HB0.out.size))
  have HX1 := Lib.hid ((hb3.block s (by omega)).trans HX0.out.1)
  replace HP := Lib.hid (HP.out.below hb3)
  replace HQ := Lib.hid (HQ.out.below hb3)
  go_wp2_with fail
  rw [← hW3]
  rw [hz0] at HX3
  obtain ⟨cx, hcx⟩ : ∃ x, x = s + 1 + 1 := ⟨_, rfl⟩
  rw [← hcx] at HX3 ⊢
  clear hW3 a0 a1 a2 e0 e1 e2 hb3 HX0 HB0 hcx
  by_cases hr1 : right p n0 n1 = true
  · rw [hr1] at HRA
    with_reducible refine (HRA.out).mono ?_
    rintro e w4 ⟨rfl, hb4⟩
    have HB4 := Lib.hid (HB3.out.trans (hb4.mono HB3.out.size))
    replace HX1 := Lib.hid ((hb4.block s (L.blk_lt HX1.out)).trans HX1.out)
    replace HX3 := Lib.hid ((hb4.block cx (L.blk_lt HX3.out)).trans HX3.out)
    replace HP := Lib.hid (HP.out.below hb4)
    replace HQ := Lib.hid (HQ.out.below hb4)
    have HRB := Lib.hid (Mt.rright_any B c1 q n0 n2 w4 HQ.out (by unfold maxLen; have := HL2.out; omega))
    clear hb4 HRA HB3
    have a0 := L.blk_cell HX1.out 0
    have a1 := L.blk_cell HX1.out 1
    have a2 := L.blk_cell HX1.out 2
    simp only [List.getElem?_toArray, List.getElem?_cons_zero, List.getElem?_cons_succ] at a0 a1 a2
    by_cases hr2 : right q n0 n2 = true
    · rw [hr2] at HRB
      have HRT := Lib.hid (And.intro (right_iff.1 hr1) (right_iff.1 hr2))
      clear hr1 hr2
      go_wp2_with fail
      with_reducible refine (HRB.out).mono ?_
      rintro e w5 ⟨rfl, hb5⟩
      have HB5 := Lib.hid (HB4.out.trans (hb5.mono HB4.out.size))
      replace HX3 := Lib.hid ((hb5.block cx (L.blk_lt HX3.out)).trans HX3.out)
      replace HP := Lib.hid (HP.out.below hb5)
      replace HQ := Lib.hid (HQ.out.below hb5)
      have HFN := Lib.hid (fine_small HRT.out.1 HRT.out.2 (by omega) (by omega) (by omega) (Nat.le_trans HL1.out (by decide)) (Nat.le_trans HL2.out (by decide)))
      have HNX := Lib.hid (next_any A B c0 c1 p q ⟨false, t0, 0, t1, 0, t2, 0⟩ w5 HFN.out HP.out HQ.out)
      simp only [ckV] at HNX
      have g0 := L.blk_cell HX3.out 0
      have g1 := L.blk_cell HX3.out 1
      have g2 := L.blk_cell HX3.out 2
      have g3 := L.blk_cell HX3.out 3
      have g4 := L.blk_cell HX3.out 4
      have g5 := L.blk_cell HX3.out 5
      have g6 := L.blk_cell HX3.out 6
      simp only [List.getElem?_toArray, List.getElem?_cons_zero, List.getElem?_cons_succ] at g0 g1 g2 g3 g4 g5 g6
      clear hb5 HRB HB4 a0 a1 a2 HX1
      obtain ⟨nv, hnv⟩ : ∃ n, n = nxt p q (t0, t1, t2) := ⟨_, rfl⟩
      rw [← hnv] at HNX
      have HNV := Lib.hid hnv
      clear hnv
      obtain ⟨y0, y1, y2, yb, hy⟩ : ∃ y0 y1 y2 yb, nxV nv = .tuple #[.int .i64 y0, .int .i64 y1, .int .i64 y2, .bool yb] := ⟨_, _, _, _, rfl⟩
      rw [hy] at HNX
      have HY := Lib.hid hy
      clear hy
      go_wp2_with fail
      with_reducible refine (HNX.out).mono ?_
      rintro e w6 ⟨rfl, hb6⟩
      replace HB5 := Lib.hid (HB5.out.trans (hb6.mono HB5.out.size))
      replace HX3 := Lib.hid ((hb6.block cx (L.blk_lt HX3.out)).trans HX3.out)
      replace HP := Lib.hid (HP.out.below hb6)
      replace HQ := Lib.hid (HQ.out.below hb6)
      have HRN := Lib.hid (rnext_any A B c0 c1 p q n0 n1 n2 ⟨false, t0, 0, t1, 0, t2, 0⟩ w6 HRT.out.1 HRT.out.2 (Nat.le_trans HL1.out (by decide)) (Nat.le_trans HL2.out (by decide)) HP.out HQ.out)
      simp only [ckV] at HRN
      rw [← HNV.out, HY.out] at HRN
      clear hb6 HNX g0 g1 g2 g3 g4 g5 g6 w5
      have g0 := L.blk_cell HX3.out 0
      have g1 := L.blk_cell HX3.out 1
      have g2 := L.blk_cell HX3.out 2
      have g3 := L.blk_cell HX3.out 3
      have g4 := L.blk_cell HX3.out 4
      have g5 := L.blk_cell HX3.out 5
      have g6 := L.blk_cell HX3.out 6
      simp only [List.getElem?_toArray, List.getElem?_cons_zero, List.getElem?_cons_succ] at g0 g1 g2 g3 g4 g5 g6
      go_wp2_with fail
      with_reducible refine (HRN.out).mono ?_
      rintro e w7 ⟨rfl, hb7⟩
      replace HB5 := Lib.hid (HB5.out.trans (hb7.mono HB5.out.size))
      replace HX3 := Lib.hid ((hb7.block cx (L.blk_lt HX3.out)).trans HX3.out)
      replace HP := Lib.hid (HP.out.below hb7)
      replace HQ := Lib.hid (HQ.out.below hb7)
      clear hb7 HRN g0 g1 g2 g3 g4 g5 g6 w6
      generalize w7 = w6 at *
      have HRC := Lib.hid (fun (wz : World) (hz : Below w6.heap.size w6 wz) => run_any A B c0 c1 p q ⟨false, t0, 0, t1, 0, t2, 0⟩ wz HFN.out (HP.out.below hz) (HQ.out.below hz))
      have HRR := Lib.hid (fun (wz : World) (hz : Below w6.heap.size w6 wz) => rrun_any A B c0 c1 p q n0 n1 n2 ⟨false, t0, 0, t1, 0, t2, 0⟩ wz HRT.out.1 HRT.out.2 (Nat.le_trans HL1.out (by decide)) (Nat.le_trans HL2.out (by decide)) ⟨⟨hc0, by show t0 ≤ 1000; omega⟩, ⟨hc1, by show t1 ≤ 1000; omega⟩, ⟨hc2, by show t2 ≤ 1000; omega⟩⟩ (HP.out.below hz) (HQ.out.below hz))
      simp only [ckV] at HRC HRR
      obtain ⟨rv, hrv⟩ : ∃ r, r = run p q (t0, t1, t2) := ⟨_, rfl⟩
      rw [← hrv] at HRC HRR
      clear hrv
      have HLV := Lib.hid (show ∀ w : World, Calls Try.prog 12 #[] w fun e w' => e = .returned (.bool true) ∧ Below w.heap.size w w' from live13)
      go_wp2_with fail
      go_region_held3 (fun w' => w'.cell? ⟨cx, 0, none⟩ = some (.bool false) ∧ w'.cell? ⟨cx, 1, none⟩ = some (.int .i64 t0) ∧ w'.cell? ⟨cx, 2, none⟩ = some (.int .i64 0) ∧ w'.cell? ⟨cx, 3, none⟩ = some (.int .i64 t1) ∧ w'.cell? ⟨cx, 4, none⟩ = some (.int .i64 0) ∧ w'.cell? ⟨cx, 5, none⟩ = some (.int .i64 t2) ∧ w'.cell? ⟨cx, 6, none⟩ = some (.int .i64 0) ∧ Below w6.heap.size w6 w')
        (first | with_reducible exact cs_a HX3.out | with_reducible exact cs_b HX3.out (by assumption) hbq)
        (first
          | (go_at_call 12; with_reducible refine (HLV.out _).mono ?_; rintro r wq ⟨rfl, hbq⟩)
          | (go_at_call 17; with_reducible refine (HRC.out _ (cs_c (by assumption))).mono ?_; rintro r wq ⟨rfl, hbq⟩)
          | (go_at_call 18; with_reducible refine (HRR.out _ (cs_c (by assumption))).mono ?_; rintro r wq ⟨rfl, hbq⟩))
      all_goals
        go_wp2_with fail
        go_ret
        exact ⟨rfl, HB5.out.trans ((cs_c (by assumption)).mono HB5.out.size)⟩
    · have hr2' : right q n0 n2 = false := by simpa using hr2
      rw [hr2'] at HRB
      clear hr1 hr2 hr2'
      go_wp2_with fail
      with_reducible refine (HRB.out).mono ?_
      rintro e w5 ⟨rfl, hb5⟩
      have HB5 := Lib.hid (HB4.out.trans (hb5.mono HB4.out.size))
      go_wp2_with fail
      with_reducible refine (live13.at w5).mono ?_
      rintro e w6 ⟨rfl, hb6⟩
      have HB6 := Lib.hid (HB5.out.trans (hb6.mono HB5.out.size))
      go_wp2_with fail
      go_ret
      exact ⟨rfl, HB6.out⟩
  · have hr1' : right p n0 n1 = false := by simpa using hr1
    rw [hr1'] at HRA
    clear hr1 hr1'
    with_reducible refine (HRA.out).mono ?_
    rintro e w4 ⟨rfl, hb4⟩
    have HB4 := Lib.hid (HB3.out.trans (hb4.mono HB3.out.size))
    go_wp2_with fail
    with_reducible refine (live13.at w4).mono ?_
    rintro e w6 ⟨rfl, hb6⟩
    have HB6 := Lib.hid (HB4.out.trans (hb6.mono HB4.out.size))
    go_wp2_with fail
    go_ret
    exact ⟨rfl, HB6.out⟩
end Go.Proofs.Ytcnnbchaelboeaa.Ck
