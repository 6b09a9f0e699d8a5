/-
  A range over the places that are matched on both sides: the iterator's contract.
-/
import Derived.Test.YtkflhcfopejigaaGgd
import Derived.Sort.BigQuietIn
import Derived.BigRegion
import Derived.Deep.RegionHeld3
namespace Go.Proofs.Ytkflhcfopejigaa.Ck
set_option linter.unusedVariables false
set_option linter.unusedSimpArgs false
open Go.RowKit Go.Shelf
open T
open Mt (Pr fnd Rt right)
open N (PrIn PrIn.below)
open V (drawn_below KpZ KpZ.t KpZ.b KpZ.of KpZ.refl grown_of)
open I (alloc1)
attribute [local go_sem] Oper.semAt_some

theorem first_call (n : Nat) (A : Option Addr) (cap : Nat) (ps : List Pr) (o : Int) (w : World) (hup : ps.Pairwise fun p q => p.1 < q.1) (hl : ps.length ≤ 1000000) (hA : PrIn w A ps) :
    CallsIn Fence.wide n Try.prog 64 #[.slice A ps.length cap, .int .i64 o] w fun e w' => (∃ k : Nat, e = .returned (.int .i64 (k : Int)) ∧ Frm ps o k) ∧ Below w.heap.size w w' := callsIn_wide.2 (first_any A cap ps o w hup hl hA)

section
variable {W w1 w2 : World} {Ba Bo Bb n₀ : Nat} {va vo vb : Value}
theorem sd_a (W : World) (Ba Bo Bb : Nat) (va vo vb : Value) (h1 : W.cell? ⟨Ba, 0, none⟩ = some va) (h2 : W.cell? ⟨Bo, 0, none⟩ = some vo) (h3 : W.cell? ⟨Bb, 0, none⟩ = some vb) : W.drew.cell? ⟨Ba, 0, none⟩ = some va ∧ W.drew.cell? ⟨Bo, 0, none⟩ = some vo ∧ W.drew.cell? ⟨Bb, 0, none⟩ = some vb ∧ Below W.heap.size W W.drew :=
  ⟨h1, h2, h3, drawn_below W 1⟩
theorem sd_b (ha : Ba < W.heap.size) (ho : Bo < W.heap.size) (hb : Bb < W.heap.size) (h : w1.cell? ⟨Ba, 0, none⟩ = some va ∧ w1.cell? ⟨Bo, 0, none⟩ = some vo ∧ w1.cell? ⟨Bb, 0, none⟩ = some vb ∧ Below W.heap.size W w1) (hq : Below w1.heap.size w1 w2) : w2.cell? ⟨Ba, 0, none⟩ = some va ∧ w2.cell? ⟨Bo, 0, none⟩ = some vo ∧ w2.cell? ⟨Bb, 0, none⟩ = some vb ∧ Below W.heap.size W w2 := by
  obtain ⟨h1, h2, h3, h4⟩ := h
  have hs := h4.size
  exact ⟨(hq.cell (p := ⟨Ba, 0, none⟩) (Nat.lt_of_lt_of_le ha hs)).trans h1, (hq.cell (p := ⟨Bo, 0, none⟩) (Nat.lt_of_lt_of_le ho hs)).trans h2, (hq.cell (p := ⟨Bb, 0, none⟩) (Nat.lt_of_lt_of_le hb hs)).trans h3, h4.trans (hq.mono hs)⟩
theorem sd_n (hn : n₀ ≤ W.heap.size) (h : w1.cell? ⟨Ba, 0, none⟩ = some va ∧ w1.cell? ⟨Bo, 0, none⟩ = some vo ∧ w1.cell? ⟨Bb, 0, none⟩ = some vb ∧ Below W.heap.size W w1) : Below n₀ W w1 := h.2.2.2.mono hn
end
set_option maxRecDepth 100000 in
set_option maxHeartbeats 4000000 in
/-- The iterator's closure, for every loop body that keeps what lay below n0 and the boxes of both rows. -/
theorem shared1_in (n : Nat) (hn : 1 ≤ n) (lp Ba Bo Bb n₀ za zb ca cb : Nat) (A B : Option Addr) (p q : List Pr) (o : Int) (hp : p.Pairwise fun p q => p.1 < q.1) (hq : q.Pairwise fun p q => p.1 < q.1) (hpl : p.length ≤ 1000) (hql : q.length ≤ 1000) (hpk : okp p) (hqk : okp q)
    (hza : za ≤ Ba ∧ Ba < zb) (hzc : za ≤ Bb ∧ Bb < zb) (J Jx : List TrB → World → Prop)
    (W : World) (hJ : AbidesFrom W.heap.size J)
    (hY : ∀ pre x W, J pre W → pre.length < p.length → YieldAt Fence.wide (n - 1) Try.prog lp #[trV x.1] W fun e W' =>
      (e = .returned (.bool true) ∧ J (pre ++ [x]) W' ∧ KpZ n₀ za zb W W') ∨ (e = .returned (.bool false) ∧ Jx (pre ++ [x]) W'))
    (hn₀ : n₀ ≤ W.heap.size) (hzb : zb ≤ W.heap.size) (hBa : W.heap[Ba]? = some (.cells #[.slice A p.length ca] 23 (0, 0))) (hBo : W.cell? ⟨Bo, 0, none⟩ = some (.int .i64 o)) (hBb : W.heap[Bb]? = some (.cells #[.slice B q.length cb] 23 (0, 0)))
    (hA : PrLow W n₀ A p) (hB : PrLow W n₀ B q) (h0 : J [] W) :
    CallsIn Fence.wide n Try.prog 63 #[.func (.yield lp) #[] #[], .pointer (some ⟨Ba, 0, none⟩), .pointer (some ⟨Bo, 0, none⟩), .pointer (some ⟨Bb, 0, none⟩)] W fun e W' => (∃ v, e = .returned v) ∧
      ((∃ ys : List TrB, ys.map (·.1) = shd p q o ∧ J ys W') ∨ (∃ pre : List TrB, (∃ r, pre.map (·.1) ++ r = shd p q o) ∧ Jx pre W')) := by
  have hba := L.blk_lt hBa
  have hbb := L.blk_lt hBb
  have hbo := World.block_lt_of_cell? _ _ hBo
  have b1 := hBo
  have a0 := L.blk_cell hBa 0
  have b0 := L.blk_cell hBb 0
  simp only [List.getElem?_toArray, List.getElem?_cons_zero] at a0 b0
  have HF1 := Lib.hid (fun (w : World) (hw : Below n₀ W w) => first_any A ca p o w hp (by omega) ((hA.kept hw).prIn (Nat.le_trans hn₀ hw.size)))
  have HF2 := Lib.hid (fun (w : World) (hw : Below n₀ W w) => first_any B cb q o w hq (by omega) ((hB.kept hw).prIn (Nat.le_trans hn₀ hw.size)))
  refine callsIn_of_wp Try.func63 rfl trivial ?_ rfl
  simp only [Try.ntmps63, List.size_toArray, List.length_cons, List.length_nil, Nat.reduceAdd, Nat.reduceSub, Array.replicate_succ, Array.replicate_zero, List.push_toArray, List.append_toArray, List.nil_append, List.cons_append]
  gi_wp2
  refine wpIn_wide.2 ?_
  go_region_held3 (fun w' => w'.cell? ⟨Ba, 0, none⟩ = some (.slice A p.length ca) ∧ w'.cell? ⟨Bo, 0, none⟩ = some (.int .i64 o) ∧ w'.cell? ⟨Bb, 0, none⟩ = some (.slice B q.length cb) ∧ Below W.heap.size W w')
      (first | with_reducible exact sd_a W Ba Bo Bb _ _ _ a0 b1 b0 | with_reducible exact sd_b hba hbo hbb (by assumption) hbq)
      (first
        | (go_at_call 64; with_reducible refine (HF1.out _ (sd_n hn₀ (by assumption))).mono ?_; rintro r wq ⟨⟨k1, rfl, hk1⟩, hbq⟩)
        | (go_at_call 64; with_reducible refine (HF2.out _ (sd_n hn₀ (by assumption))).mono ?_; rintro r wq ⟨⟨k2, rfl, hk2⟩, hbq⟩))
  have hS : wq.cell? ⟨Ba, 0, none⟩ = some (.slice A p.length ca) ∧ wq.cell? ⟨Bo, 0, none⟩ = some (.int .i64 o) ∧ wq.cell? ⟨Bb, 0, none⟩ = some (.slice B q.length cb) ∧ Below W.heap.size W wq := by assumption
  have hJ1 : J [] wq := hJ _ _ _ none h0 (grown_of hS.2.2.2 none) (fun r e => by cases e)
  have hK1 : KpZ n₀ za zb W wq := KpZ.of hS.2.2.2 hn₀ hzb
  have hsz1 := hS.2.2.2.size
  have HST := Lib.hid (sh_from hk1 hk2)
  have hkl1 := hk1.1
  have hkl2 := hk2.1
  clear hk1 hk2
  gi_wp2
  gi_loopw [5, 6] (fun x5 x6 wr => ∃ (i j : Nat) (pre : List TrB), x5 = .int .i64 i ∧ x6 = .int .i64 j ∧ i ≤ p.length ∧ j ≤ q.length ∧ J pre wr ∧ KpZ n₀ za zb W wr ∧ W.heap.size ≤ wr.heap.size ∧ pre.length ≤ i ∧ Hid (shd p q o = pre.map (·.1) ++ sh (p.drop i) (q.drop j)))
    (fun x5 x6 _ => (p.length - (intOf x5).toNat) + (q.length - (intOf x6).toNat))
  case atStart => exact ⟨k1, k2, [], rfl, rfl, hkl1, hkl2, hJ1, hK1, hsz1, Nat.zero_le _, HST⟩
  case round =>
    obtain ⟨i, j, pre, rfl, rfl, hi, hj, hJs, hkp, hsz, hpi, HX⟩ := hrel
    have c0 := L.blk_cell ((hkp.2 Ba hza.1 hza.2).trans hBa) 0
    have d0 := L.blk_cell ((hkp.2 Bb hzc.1 hzc.2).trans hBb) 0
    simp only [List.getElem?_toArray, List.getElem?_cons_zero] at c0 d0
    by_cases hip : i < p.length
    · by_cases hjq : j < q.length
      · obtain ⟨bk, off, hAe, hbk, hI⟩ := (hA.kept hkp.1) (by omega)
        obtain ⟨bk', off', hBe, hbk', hI'⟩ := (hB.kept hkp.1) (by omega)
        subst hAe hBe
        obtain ⟨p0, p1⟩ := hI i hip
        obtain ⟨q0, q1⟩ := hI' j hjq
        have z0 : (0 : Int) ≤ (i : Int) := by omega
        have z1 : (i : Int) < (p.length : Int) := by omega
        have z2 : (0 : Int) ≤ (j : Int) := by omega
        have z3 : (j : Int) < (q.length : Int) := by omega
        have HIQ := Lib.hid (And.intro hip hjq)
        obtain ⟨x, hx⟩ : ∃ x, x = p[i] := ⟨_, rfl⟩
        obtain ⟨y, hy⟩ : ∃ y, y = q[j] := ⟨_, rfl⟩
        rw [← hx] at p0 p1
        rw [← hy] at q0 q1
        have HXE := Lib.hid hx
        have HYE := Lib.hid hy
        clear hx hy hI hI'
        obtain ⟨x0, x1⟩ := x
        obtain ⟨y0, y1⟩ := y
        simp only at p0 p1 q0 q1
        have hbl : bk < wr.heap.size := by omega
        have hbl' : bk' < wr.heap.size := by omega
        have HB2 := Lib.hid (fun (o o' : Obj) => (alloc1 wr o).alloc (show wr.heap.size ≤ (wr.alloc o).heap.size by simp) o')
        have P0 : ∀ o o', ((wr.alloc o).alloc o').cell? ⟨bk, off + i * 2, none⟩ = some (.int .i64 x0) := fun o o' => ((HB2.out o o').cell (p := ⟨bk, off + i * 2, none⟩) hbl).trans p0
        have P1 : ∀ o o', ((wr.alloc o).alloc o').cell? ⟨bk, off + i * 2 + 1, none⟩ = some (.int .i64 x1) := fun o o' => ((HB2.out o o').cell (p := ⟨bk, off + i * 2 + 1, none⟩) hbl).trans p1
        have Q0 : ∀ o o', ((wr.alloc o).alloc o').cell? ⟨bk', off' + j * 2, none⟩ = some (.int .i64 y0) := fun o o' => ((HB2.out o o').cell (p := ⟨bk', off' + j * 2, none⟩) hbl').trans q0
        have Q1 : ∀ o o', ((wr.alloc o).alloc o').cell? ⟨bk', off' + j * 2 + 1, none⟩ = some (.int .i64 y1) := fun o o' => ((HB2.out o o').cell (p := ⟨bk', off' + j * 2 + 1, none⟩) hbl').trans q1
        have C0 : ∀ o o', ((wr.alloc o).alloc o').cell? ⟨Ba, 0, none⟩ = some (.slice (some ⟨bk, off, none⟩) p.length ca) := fun o o' => ((HB2.out o o').cell (p := ⟨Ba, 0, none⟩) (show Ba < wr.heap.size by omega)).trans c0
        have D0 : ∀ o o', ((wr.alloc o).alloc o').cell? ⟨Bb, 0, none⟩ = some (.slice (some ⟨bk', off', none⟩) q.length cb) := fun o o' => ((HB2.out o o').cell (p := ⟨Bb, 0, none⟩) (show Bb < wr.heap.size by omega)).trans d0
        have P0' : ∀ o, (wr.alloc o).cell? ⟨bk, off + i * 2, none⟩ = some (.int .i64 x0) := fun o => ((alloc1 wr o).cell (p := ⟨bk, off + i * 2, none⟩) hbl).trans p0
        have P1' : ∀ o, (wr.alloc o).cell? ⟨bk, off + i * 2 + 1, none⟩ = some (.int .i64 x1) := fun o => ((alloc1 wr o).cell (p := ⟨bk, off + i * 2 + 1, none⟩) hbl).trans p1
        have Q0' : ∀ o, (wr.alloc o).cell? ⟨bk', off' + j * 2, none⟩ = some (.int .i64 y0) := fun o => ((alloc1 wr o).cell (p := ⟨bk', off' + j * 2, none⟩) hbl').trans q0
        have Q1' : ∀ o, (wr.alloc o).cell? ⟨bk', off' + j * 2 + 1, none⟩ = some (.int .i64 y1) := fun o => ((alloc1 wr o).cell (p := ⟨bk', off' + j * 2 + 1, none⟩) hbl').trans q1
        have C0' : ∀ o, (wr.alloc o).cell? ⟨Ba, 0, none⟩ = some (.slice (some ⟨bk, off, none⟩) p.length ca) := fun o => ((alloc1 wr o).cell (p := ⟨Ba, 0, none⟩) (show Ba < wr.heap.size by omega)).trans c0
        have D0' : ∀ o, (wr.alloc o).cell? ⟨Bb, 0, none⟩ = some (.slice (some ⟨bk', off', none⟩) q.length cb) := fun o => ((alloc1 wr o).cell (p := ⟨Bb, 0, none⟩) (show Bb < wr.heap.size by omega)).trans d0
        gi_wp2
        refine wpIn_wide.2 ?_
        go_region
        · have HB3 := Lib.hid (show Below wr.heap.size wr (((wr.alloc (.cells #[.int .i64 x0, .int .i64 x1] 57)).alloc (.cells #[.int .i64 y0, .int .i64 y1] 57)).drew) from ((HB2.out _ _).trans ((drawn_below _ 1).mono (by simp; omega))))
          have HS3 := HB3.out.size
          have HJ3 := Lib.hid (hJ _ _ _ none hJs (grown_of HB3.out none) (fun r e => by cases e))
          have HK3 := Lib.hid (hkp.t (KpZ.of HB3.out (by omega) (by omega)))
          rcases Int.lt_trichotomy x0 y0 with hlt | heq | hgt
          · have HN := Lib.hid (HX.out.trans (congrArg (pre.map (·.1) ++ ·) (sh_left hq HIQ.out.1 HIQ.out.2 (by rw [← HXE.out, ← HYE.out]; exact hlt))))
            gi_wp2
            go_roundw
            case rel => exact ⟨i + 1, j, pre, by go_num, rfl, by omega, by omega, HJ3.out, HK3.out, Nat.le_trans hsz HS3, by omega, HN⟩
            case measure => simp [intOf]; omega
          · subst heq
            have hok : Okt (x0, x1, y1) := by
              have h1 := hpk _ (List.getElem_mem HIQ.out.1)
              have h2 := hqk _ (List.getElem_mem HIQ.out.2)
              rw [← HXE.out] at h1
              rw [← HYE.out] at h2
              exact ⟨h1.1, h1.2, h2.2⟩
            have HN := Lib.hid (HX.out.trans (congrArg (pre.map (·.1) ++ ·) (sh_both hp HIQ.out.1 HIQ.out.2 (by rw [← HXE.out, ← HYE.out]))))
            rw [← HXE.out, ← HYE.out] at HN
            obtain ⟨fn, tmps, assign, body, hy, hR⟩ := hY pre ⟨(x0, x1, y1), hok⟩ _ HJ3.out (by omega)
            simp only [trV] at hy
            gi_wp2
            refine hR.mono ?_
            rintro e w3 (⟨rfl, hJ3, hk3⟩ | ⟨rfl, hJx3⟩)
            · gi_wp2
              go_roundw
              case rel => exact ⟨i + 1, j + 1, pre ++ [⟨(x0, x1, y1), hok⟩], by go_num, by go_num, by omega, by omega, hJ3, HK3.out.t hk3, Nat.le_trans (Nat.le_trans hsz HS3) hk3.1.size, by simp; omega, Lib.hid (by rw [HN.out]; simp)⟩
              case measure => simp [intOf]; omega
            · gi_wp2
              refine bodyPost_ret (results_none rfl _ _ _) rfl ?_
              exact ⟨⟨_, rfl⟩, .inr ⟨_, ⟨sh (p.drop (i + 1)) (q.drop (j + 1)), by rw [HN.out]; simp⟩, hJx3⟩⟩
          · have HN := Lib.hid (HX.out.trans (congrArg (pre.map (·.1) ++ ·) (sh_right hp HIQ.out.1 HIQ.out.2 (by rw [← HXE.out, ← HYE.out]; exact hgt))))
            have hge : ¬ x0 < y0 := by omega
            gi_wp2
            go_roundw
            case rel => exact ⟨i, j + 1, pre, rfl, by go_num, by omega, by omega, HJ3.out, HK3.out, Nat.le_trans hsz HS3, by omega, HN⟩
            case measure => simp [intOf]; omega
        · have HB3 := Lib.hid (show Below wr.heap.size wr (((wr.alloc (.cells #[.int .i64 y0, .int .i64 y1] 57)).alloc (.cells #[.int .i64 x0, .int .i64 x1] 57)).drew) from ((HB2.out _ _).trans ((drawn_below _ 1).mono (by simp; omega))))
          have HS3 := HB3.out.size
          have HJ3 := Lib.hid (hJ _ _ _ none hJs (grown_of HB3.out none) (fun r e => by cases e))
          have HK3 := Lib.hid (hkp.t (KpZ.of HB3.out (by omega) (by omega)))
          rcases Int.lt_trichotomy x0 y0 with hlt | heq | hgt
          · have HN := Lib.hid (HX.out.trans (congrArg (pre.map (·.1) ++ ·) (sh_left hq HIQ.out.1 HIQ.out.2 (by rw [← HXE.out, ← HYE.out]; exact hlt))))
            gi_wp2
            go_roundw
            case rel => exact ⟨i + 1, j, pre, by go_num, rfl, by omega, by omega, HJ3.out, HK3.out, Nat.le_trans hsz HS3, by omega, HN⟩
            case measure => simp [intOf]; omega
          · subst heq
            have hok : Okt (x0, x1, y1) := by
              have h1 := hpk _ (List.getElem_mem HIQ.out.1)
              have h2 := hqk _ (List.getElem_mem HIQ.out.2)
              rw [← HXE.out] at h1
              rw [← HYE.out] at h2
              exact ⟨h1.1, h1.2, h2.2⟩
            have HN := Lib.hid (HX.out.trans (congrArg (pre.map (·.1) ++ ·) (sh_both hp HIQ.out.1 HIQ.out.2 (by rw [← HXE.out, ← HYE.out]))))
            rw [← HXE.out, ← HYE.out] at HN
            obtain ⟨fn, tmps, assign, body, hy, hR⟩ := hY pre ⟨(x0, x1, y1), hok⟩ _ HJ3.out (by omega)
            simp only [trV] at hy
            gi_wp2
            refine hR.mono ?_
            rintro e w3 (⟨rfl, hJ3, hk3⟩ | ⟨rfl, hJx3⟩)
            · gi_wp2
              go_roundw
              case rel => exact ⟨i + 1, j + 1, pre ++ [⟨(x0, x1, y1), hok⟩], by go_num, by go_num, by omega, by omega, hJ3, HK3.out.t hk3, Nat.le_trans (Nat.le_trans hsz HS3) hk3.1.size, by simp; omega, Lib.hid (by rw [HN.out]; simp)⟩
              case measure => simp [intOf]; omega
            · gi_wp2
              refine bodyPost_ret (results_none rfl _ _ _) rfl ?_
              exact ⟨⟨_, rfl⟩, .inr ⟨_, ⟨sh (p.drop (i + 1)) (q.drop (j + 1)), by rw [HN.out]; simp⟩, hJx3⟩⟩
          · have HN := Lib.hid (HX.out.trans (congrArg (pre.map (·.1) ++ ·) (sh_right hp HIQ.out.1 HIQ.out.2 (by rw [← HXE.out, ← HYE.out]; exact hgt))))
            have hge : ¬ x0 < y0 := by omega
            gi_wp2
            go_roundw
            case rel => exact ⟨i, j + 1, pre, rfl, by go_num, by omega, by omega, HJ3.out, HK3.out, Nat.le_trans hsz HS3, by omega, HN⟩
            case measure => simp [intOf]; omega
      · obtain rfl : j = q.length := by omega
        have HE := Lib.hid (HX.out.trans (by rw [sh_out (.inr (Nat.le_refl _)), List.append_nil]))
        have z0 : (i : Int) < (p.length : Int) := by omega
        gi_wp2
        go_end0
        exact ⟨⟨_, rfl⟩, .inl ⟨pre, HE.out.symm, hJs⟩⟩
    · obtain rfl : i = p.length := by omega
      have HE := Lib.hid (HX.out.trans (by rw [sh_out (.inl (Nat.le_refl _)), List.append_nil]))
      gi_wp2
      go_end0
      exact ⟨⟨_, rfl⟩, .inl ⟨pre, HE.out.symm, hJs⟩⟩
end Go.Proofs.Ytkflhcfopejigaa.Ck
