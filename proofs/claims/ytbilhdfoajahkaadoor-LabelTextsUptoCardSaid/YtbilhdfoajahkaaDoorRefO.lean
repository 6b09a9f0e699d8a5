/-
  The contracts of the reference's Cats and Of for labels.
-/
import Derived.Test.YtbilhdfoajahkaaDoorRefL
import Derived.RegionTactic
import Derived.BigRegion
import Derived.Deep.RegionWith
namespace Go.Proofs.YtbilhdfoajahkaaDoor.L
open Go.RowKit
open T

set_option maxHeartbeats 1000000 in
set_option maxRecDepth 100000 in
theorem refCats_any (l : Int) (c : Nat) (w : World) :
    Calls Tryd.prog 42 #[lab l c] w fun e w' => ∃ v, e = .returned v ∧ w'.ownsRow w.heap.size 3 1 v (catsTo c 64).length (intCells (catsTo c 64)) ∧ Below w.heap.size w w' := by
  obtain ⟨i0, hi0, hz0, hz1, hz2⟩ := info_parts infoInt
  go_enter Tryd.func42, Tryd.ntmps42
  go_wp2_with fail
  go_loopg [3, 4] 64 (fun n v i wr => ∃ k : Nat, k ≤ 64 ∧ i = .int .i64 k ∧ 64 - k ≤ n ∧ wr.ownsRow (w.heap.size + 1) 3 1 v (catsTo c k).length (intCells (catsTo c k)) ∧ Hid (wr.heap[w.heap.size]? = some (.cells #[.int .i64 l, .int .u64 (c : Int)] 40 (0, 0))) ∧ Below w.heap.size w wr)
  case atStart =>
    obtain ⟨b0, b1⟩ := two_blocks w (.cells #[.int .i64 l, .int .u64 (c : Int)] 40) (.cells #[] 3)
    exact ⟨0, by omega, rfl, by omega, ⟨by simp [catsTo, intCells], .inr ⟨w.heap.size + 1, 0, #[], by simp [catsTo], Nat.le_refl _, b1, by simp [catsTo], by simp [maxLen], rfl, by simp [catsTo, intCells]⟩⟩, Lib.hid b0, ((Below.refl _ _).alloc (Nat.le_refl _) _).alloc (by simp) _⟩
  case round =>
    obtain ⟨k, hk, rfl, hn, hown, HB0, hbel⟩ := hrel
    have c0 := (res_cells HB0.out).1
    have c1 := (res_cells HB0.out).2
    have hwr : w.heap.size + 1 ≤ wr.heap.size := blk_lt HB0.out
    by_cases hlt : k < 64
    · have hlen := catsTo_len c k
      cases hbit : c.testBit k with
      | true =>
        have HC := Lib.hid (catsTo_yes hbit)
        have HH := Lib.hid (hs_is (l := l) hlt hbit)
        clear hbit
        generalize catsTo c k = xs at *
        go_wp2_with fail
        with_reducible refine (HH.out.call _).mono ?_
        rintro r w1 ⟨rfl, hb1⟩
        have hbe1 : Below w.heap.size w w1 := hbel.trans (hb1.mono hbel.size)
        have HB1 := Lib.hid ((hb1.block w.heap.size (by omega)).trans HB0.out)
        have hw1 := blk_lt HB1.out
        have hown1 : w1.ownsRow (w.heap.size + 1) 3 1 u3 xs.length (intCells xs) := hown.kept (row := none) ⟨hb1.os, hb1.tape, hb1.output, hb1.size, fun i hi _ => hb1.block i hi⟩ (by
          rcases hh : u3.ownBlock with _ | b
          · exact .inl rfl
          · exact .inr (by simp))
        clear c0 c1 hb1 HB0 hown
        go_wp2_with (at_builtin; refine wpList_append_own _ rfl (.tmp 13) (.tmp 15) 46 rfl (w.heap.size + 1) 3 i0 _ 1 8 Tryd.underlying46 hi0 hz0 hz1 hz2 rfl (by decide) _ xs.length (intCells xs) rfl ?ho ⟨w1.heap.size, 0, none⟩ 1 1 [.int .i64 (k : Int)] rfl rfl ?c1 ?c2 ?c3 ?c4 ?c5 ?_)
        case ho => exact hown1.alloc _
        case c1 => exact cell_one_new _ _ _
        case c2 => intro u hu; simp at hu; rcases hu with rfl; rfl
        case c3 => simp only [maxLen]; omega
        case c4 => omega
        case c5 => simp; omega
        intro v' w2 hown2 hg2 _
        have hbe2 : Below w.heap.size w w2 := (hbe1.alloc hbe1.size _).grown hg2 (by simp; omega) (fun k hk => by have := own_base hown1 k hk; omega)
        have hb2 : w2.heap[w.heap.size]? = some (.cells #[.int .i64 l, .int .u64 (c : Int)] 40 (0, 0)) := by
          rw [hg2.block w.heap.size (by simp; omega) (fun e => by have := own_base hown1 _ e.symm; omega)]
          exact (Below.heap_alloc w1 _ _ (by omega)).trans HB1.out
        have HB2 := Lib.hid hb2
        rw [← intCells_snoc] at hown2
        have hl1 : (xs ++ [k]).length = xs.length + 1 := by simp
        rw [← hl1, ← HC.out] at hown2
        clear hl1 hown1 hb2
        go_wp2_with fail
        go_roundg (64 - (k + 1))
        case measure => omega
        case rel => exact ⟨k + 1, by omega, by go_num, Nat.le_refl _, hown2, HB2, hbe2⟩
      | false =>
        have HC := Lib.hid (catsTo_no hbit)
        have HH := Lib.hid (hs_is (l := l) hlt hbit)
        clear hbit
        go_wp2_with fail
        with_reducible refine (HH.out.call _).mono ?_
        rintro r w1 ⟨rfl, hb1⟩
        have hbe1 : Below w.heap.size w w1 := hbel.trans (hb1.mono hbel.size)
        have HB1 := Lib.hid ((hb1.block w.heap.size (by omega)).trans HB0.out)
        have hown1 : w1.ownsRow (w.heap.size + 1) 3 1 u3 (catsTo c k).length (intCells (catsTo c k)) := hown.kept (row := none) ⟨hb1.os, hb1.tape, hb1.output, hb1.size, fun i hi _ => hb1.block i hi⟩ (by
          rcases hh : u3.ownBlock with _ | b
          · exact .inl rfl
          · exact .inr (by simp))
        rw [← HC.out] at hown1
        clear c0 c1 hb1 HB0 hown
        go_wp2_with fail
        go_roundg (64 - (k + 1))
        case measure => omega
        case rel => exact ⟨k + 1, by omega, by go_num, Nat.le_refl _, hown1, HB1, hbe1⟩
    · obtain rfl : k = 64 := by omega
      have hown' := own_more hown (Nat.le_succ w.heap.size)
      clear hown c0 c1
      go_wp2_with fail
      go_ret
      exact ⟨_, rfl, hown', hbel⟩

theorem or_add {c m : Nat} (h : c.testBit m = false) : c ||| 2 ^ m = c + 2 ^ m := by
  have e : c = c / 2 ^ (m + 1) * 2 ^ (m + 1) + c % 2 ^ m := by
    have h1 : c / 2 ^ m % 2 = 0 := by
      rw [Nat.testBit_eq_decide_div_mod_eq] at h
      have := of_decide_eq_false h
      omega
    have h2 := Nat.div_add_mod c (2 ^ m)
    rw [Nat.pow_succ, ← Nat.div_div_eq_div_mul]
    generalize c / 2 ^ m = y at *
    have h3 : y = y / 2 * 2 := by omega
    calc c = 2 ^ m * y + c % 2 ^ m := h2.symm
      _ = y / 2 * (2 ^ m * 2) + c % 2 ^ m := by
        congr 1
        rw [Nat.mul_comm (2 ^ m) 2, ← Nat.mul_assoc, ← h3, Nat.mul_comm]
  have hp := Nat.pow_pos (n := m) (show 0 < 2 by omega)
  have hlo : c % 2 ^ m < 2 ^ m := Nat.mod_lt _ hp
  generalize c / 2 ^ (m + 1) * 2 ^ (m + 1) = hi, hhi : c / 2 ^ (m + 1) * 2 ^ (m + 1) = hi at e
  have hm : hi % 2 ^ (m + 1) = 0 := by rw [← hhi]; exact Nat.mul_mod_left _ _
  generalize c % 2 ^ m = lo at e hlo
  have h1 := nat_join (m + 1) hi lo hm (by rw [Nat.pow_succ]; omega)
  have h2 := nat_join m (2 ^ m) lo (Nat.mod_self _) hlo
  have h3 := nat_join (m + 1) hi (2 ^ m + lo) hm (by rw [Nat.pow_succ]; omega)
  rw [e, ← h1, Nat.or_assoc, Nat.or_comm lo, h2, h3, h1]
  omega

set_option maxHeartbeats 2000000 in
set_option maxRecDepth 100000 in
theorem refOf_any (l : Int) (A : Option Addr) (cap : Nat) (xs : List Int) (w : World) (hlen : xs.length ≤ maxLen) (hA : 0 < xs.length → ∃ bk off, A = some ⟨bk, off, none⟩ ∧ bk < w.heap.size ∧ IntsAt w bk off xs) :
    Calls Tryd.prog 44 #[.int .i64 l, .slice A xs.length cap] w fun e w' => e = .returned (ofVal l (ofAll l xs)) ∧ Below w.heap.size w w' := by
  unfold maxLen at hlen
  have HA := Lib.hid hA
  clear hA
  by_cases hl0 : l < 0
  · have HV := Lib.hid (show ofVal l (ofAll l xs) = .tuple #[lab 0 0, .int .i64 2] by
      have : rightB l = false := by unfold rightB; rw [decide_eq_false (by omega)]; rfl
      rw [ofAll, this]; rfl)
    have hbel : Below w.heap.size w (w.alloc (.cells #[.int .i64 0, .int .u64 0] 40)) := (Below.refl _ _).alloc (Nat.le_refl _) _
    go_enter Tryd.func44, Tryd.ntmps44
    go_wp2_with fail
    exact bodyPost_ret (v := .tuple #[lab 0 0, .int .i64 2]) (by simp [results, Tryd.results44, go_sem]) rfl ⟨ret_of HV.out.symm, hbel⟩
  by_cases hl1 : 15 < l
  · have HV := Lib.hid (show ofVal l (ofAll l xs) = .tuple #[lab 0 0, .int .i64 2] by
      have : rightB l = false := by unfold rightB; rw [decide_eq_false (p := l ≤ 15) (by omega), Bool.and_false]
      rw [ofAll, this]; rfl)
    have hbel : Below w.heap.size w (w.alloc (.cells #[.int .i64 0, .int .u64 0] 40)) := (Below.refl _ _).alloc (Nat.le_refl _) _
    go_enter Tryd.func44, Tryd.ntmps44
    go_wp2_with fail
    exact bodyPost_ret (v := .tuple #[lab 0 0, .int .i64 2]) (by simp [results, Tryd.results44, go_sem]) rfl ⟨ret_of HV.out.symm, hbel⟩
  have HV := Lib.hid (show ofAll l xs = ofGo xs 0 by
    have : rightB l = true := by unfold rightB; rw [decide_eq_true (by omega), decide_eq_true (by omega)]; rfl
    rw [ofAll, this]; rfl)
  go_enter Tryd.func44, Tryd.ntmps44
  go_wp2_with fail
  go_loopg [7] xs.length (fun n i wr => ∃ k c : Nat, k ≤ xs.length ∧ i = .int .i64 k ∧ xs.length - k ≤ n ∧ c < 18446744073709551616 ∧ Hid (ofGo xs 0 = ofGo (xs.drop k) c) ∧ Hid (wr.heap[w.heap.size]? = some (.cells #[.int .i64 0, .int .u64 0] 40 (0, 0))) ∧ Hid (wr.heap[w.heap.size + 1]? = some (.cells #[.int .i64 l, .int .u64 (c : Int)] 40 (0, 0))) ∧ Below w.heap.size w wr)
  case atStart =>
    have h2 := two_blocks w (.cells #[.int .i64 0, .int .u64 0] 40) (.cells #[.int .i64 l, .int .u64 0] 40)
    exact ⟨0, 0, Nat.zero_le _, rfl, by omega, by omega, Lib.hid rfl, Lib.hid h2.1, Lib.hid h2.2, ((Below.refl _ _).alloc (Nat.le_refl _) _).alloc (by simp) _⟩
  case round =>
    obtain ⟨k, c, hk, rfl, hn, hc, HO, HK0, HK1, hbel⟩ := hrel
    by_cases hlt : k < xs.length
    · obtain ⟨bk, off, hAe, hbk, hI⟩ := HA.out (by omega)
      subst hAe
      have hcell := hI.below hbel hbk k hlt
      have h0k : (0 : Int) ≤ (k : Int) := Int.natCast_nonneg _
      have h1k : (k : Int) < (xs.length : Int) := by omega
      by_cases hbad : xs[k] < 0 ∨ 63 < xs[k]
      · have HN := Lib.hid (HO.out.trans (of_bad hlt hbad))
        have d0 := (res_cells HK0.out).1
        have d1 := (res_cells HK0.out).2
        have e0 := blk_free HK0.out 0
        have e1 := blk_free HK0.out 1
        generalize xs[k] = x at *
        rcases hbad with hx | hx
        · go_wp2_with fail
          have hfin := blk_set (blk_set HK0.out 0 (.int .i64 0)) 1 (.int .u64 0)
          have hbf := (hbel.setCell (p := ⟨w.heap.size, 0, none⟩) (Nat.le_refl _) (.int .i64 0)).setCell (p := ⟨w.heap.size, 1, none⟩) (Nat.le_refl _) (.int .u64 0)
          clear d0 d1 e0 e1
          generalize (wr.setCell ⟨w.heap.size, 0, none⟩ (.int .i64 0)).setCell ⟨w.heap.size, 1, none⟩ (.int .u64 0) = wf at *
          have q0 : wf.cell? ⟨w.heap.size, 0, none⟩ = some (.int .i64 0) := blk_cell hfin 0
          have q1 : wf.cell? ⟨w.heap.size, 1, none⟩ = some (.int .u64 0) := blk_cell hfin 1
          exact bodyPost_ret (v := .tuple #[.agg #[.int .i64 0, .int .u64 0], .int .i64 2]) (by simp [results, Tryd.results44, go_sem, q0, q1]) rfl ⟨ret_of (by rw [HV.out, HN.out]; rfl), hbf⟩
        · go_wp2_with fail
          have hfin := blk_set (blk_set HK0.out 0 (.int .i64 0)) 1 (.int .u64 0)
          have hbf := (hbel.setCell (p := ⟨w.heap.size, 0, none⟩) (Nat.le_refl _) (.int .i64 0)).setCell (p := ⟨w.heap.size, 1, none⟩) (Nat.le_refl _) (.int .u64 0)
          clear d0 d1 e0 e1
          generalize (wr.setCell ⟨w.heap.size, 0, none⟩ (.int .i64 0)).setCell ⟨w.heap.size, 1, none⟩ (.int .u64 0) = wf at *
          have q0 : wf.cell? ⟨w.heap.size, 0, none⟩ = some (.int .i64 0) := blk_cell hfin 0
          have q1 : wf.cell? ⟨w.heap.size, 1, none⟩ = some (.int .u64 0) := blk_cell hfin 1
          exact bodyPost_ret (v := .tuple #[.agg #[.int .i64 0, .int .u64 0], .int .i64 2]) (by simp [results, Tryd.results44, go_sem, q0, q1]) rfl ⟨ret_of (by rw [HV.out, HN.out]; rfl), hbf⟩
      · have HN := Lib.hid (HO.out.trans (of_on hlt hbad))
        have hx0 : 0 ≤ xs[k] := by omega
        have hx1 : xs[k] ≤ 63 := by omega
        have HI := Lib.hid hI
        obtain ⟨m, hxm⟩ := Int.eq_ofNat_of_zero_le hx0
        have HX := Lib.hid hxm
        rw [hxm] at hcell hx0 hx1
        rw [hxm, Int.toNat_natCast] at HN
        clear hxm hbad
        have hm : m < 64 := by omega
        have c0 := (res_cells HK1.out).1
        have c1 := (res_cells HK1.out).2
        clear hI
        cases hbit : c.testBit m with
        | true =>
          have HH := Lib.hid (hs_is (l := l) hm hbit)
          have HS := Lib.hid (show c ||| 2 ^ m = c by
            apply Nat.eq_of_testBit_eq; intro i
            rw [Nat.testBit_or, Nat.testBit_two_pow]
            by_cases e : m = i
            · subst e; rw [hbit]; rfl
            · rw [decide_eq_false e, Bool.or_false])
          rw [HS.out] at HN
          clear hbit
          go_wp2_with fail
          go_region_with (go_at_call 52; with_reducible refine (HH.out.call _).mono ?_; rintro r wq ⟨rfl, hbq⟩)
          all_goals
            go_wp2_with fail
            go_roundg (xs.length - (k + 1))
            case measure => omega
            case rel =>
              have hsz : w.heap.size + 1 < wr.heap.size := blk_lt HK1.out
              exact ⟨k + 1, c, by omega, by go_num, Nat.le_refl _, hc, HN, Lib.hid ((hbq.block _ (by show w.heap.size < wr.heap.size; omega)).trans HK0.out), Lib.hid ((hbq.block _ (by show w.heap.size + 1 < wr.heap.size; omega)).trans HK1.out), hbel.trans ((show Below wr.heap.size wr wq from ⟨hbq.os, hbq.tape, hbq.output, hbq.size, hbq.block⟩).mono hbel.size)⟩
        | false =>
          have HH := Lib.hid (hs_is (l := l) hm hbit)
          have hpb : 2 ^ m < 18446744073709551616 := Nat.pow_lt_pow_right (a := 2) (n := 64) (by omega) hm
          have hcy := or_small hc hpb
          have hadd := or_add hbit
          have hsh : IntKind.u64.wrap (2 ^ m) = ((2 ^ m : Nat) : Int) := by
            rw [show (2 : Int) ^ m = ((2 ^ m : Nat) : Int) by simp]
            generalize 2 ^ m = x at hpb
            exact IntWalk.u64_in _ (by omega)
          have hsum : IntKind.u64.wrap ((c : Int) + ((2 ^ m : Nat) : Int)) = ((c ||| 2 ^ m : Nat) : Int) := by
            rw [hadd] at hcy ⊢
            generalize 2 ^ m = x at hcy
            rw [IntWalk.u64_in _ (by omega)]; omega
          clear hbit hpb hadd
          generalize c ||| 2 ^ m = y at *
          generalize 2 ^ m = p at *
          have HSH := Lib.hid hsh
          have HSU := Lib.hid hsum
          clear hsh hsum
          go_wp2_with fail
          go_region_with (go_at_call 52; with_reducible refine (HH.out.call _).mono ?_; rintro r wq ⟨rfl, hbq⟩)
          all_goals
            have hsz : w.heap.size + 1 < wr.heap.size := blk_lt HK1.out
            have HQ0 := Lib.hid ((hbq.block w.heap.size (by show w.heap.size < wr.heap.size; omega)).trans HK0.out)
            have HQ1 := Lib.hid ((hbq.block (w.heap.size + 1) (by show w.heap.size + 1 < wr.heap.size; omega)).trans HK1.out)
            have hbe : Below w.heap.size w wq := hbel.trans ((show Below wr.heap.size wr wq from ⟨hbq.os, hbq.tape, hbq.output, hbq.size, hbq.block⟩).mono hbel.size)
            have hcellq := HI.out.below hbe hbk k hlt
            rw [show xs[k] = (m : Int) from HX.out] at hcellq
            have q1 := (res_cells HQ1.out).2
            have f1 := blk_free HQ1.out 1
            have hsh := HSH.out
            have hsum := HSU.out
            clear hcell c0 c1 hbq HK0 HK1 hbel
            go_wp2_with fail
            go_region
            all_goals
              go_wp2_with fail
              go_roundg (xs.length - (k + 1))
              case measure => omega
              case rel => exact ⟨k + 1, y, by omega, by go_num, Nat.le_refl _, hcy, HN, Lib.hid ((blk_far (by omega) _).trans HQ0.out), Lib.hid (blk_set HQ1.out 1 _), (hbe.setCell (p := ⟨w.heap.size + 1, 1, none⟩) (Nat.le_succ _) _).drew⟩
    · obtain rfl : k = xs.length := by omega
      have HN := Lib.hid (HO.out.trans of_end)
      have d0 := (res_cells HK0.out).1
      have d1 := (res_cells HK0.out).2
      have e0 := blk_free HK0.out 0
      have e1 := blk_free HK0.out 1
      have c0 := (res_cells HK1.out).1
      have c1 := (res_cells HK1.out).2
      go_wp2_with fail
      clear c0 c1
      have hfin := blk_set (blk_set HK0.out 0 (.int .i64 l)) 1 (.int .u64 (c : Int))
      have hbf := (hbel.setCell (p := ⟨w.heap.size, 0, none⟩) (Nat.le_refl _) (.int .i64 l)).setCell (p := ⟨w.heap.size, 1, none⟩) (Nat.le_refl _) (.int .u64 (c : Int))
      clear d0 d1 e0 e1
      generalize (wr.setCell ⟨w.heap.size, 0, none⟩ (.int .i64 l)).setCell ⟨w.heap.size, 1, none⟩ (.int .u64 (c : Int)) = wf at *
      have q0 : wf.cell? ⟨w.heap.size, 0, none⟩ = some (.int .i64 l) := blk_cell hfin 0
      have q1 : wf.cell? ⟨w.heap.size, 1, none⟩ = some (.int .u64 (c : Int)) := blk_cell hfin 1
      exact bodyPost_ret (v := .tuple #[.agg #[.int .i64 l, .int .u64 (c : Int)], .int .i64 0]) (by simp [results, Tryd.results44, go_sem, q0, q1]) rfl ⟨ret_of (by rw [HV.out, HN.out]; rfl), hbf⟩
end Go.Proofs.YtbilhdfoajahkaaDoor.L
