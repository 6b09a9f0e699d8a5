/-
  same, EqualFunc and the reference's Same on any two scripts.
  withinLimits, follows, right and Check.
-/
import Derived.Test.YtimalohdchhjgaaGhd
import Derived.Test.YtimalohdchhjgaaGsf
namespace Go.Proofs.Ytimalohdchhjgaa.H
set_option linter.unusedVariables false
set_option linter.unusedSimpArgs false
open Go.RowKit
open T S
open V (grown_of)
open I (alloc1 own_at own_below)
open N (Ln)

set_option maxHeartbeats 1000000 in
set_option maxRecDepth 100000 in
theorem rsame_genq (A B : Option Addr) (c c' : Nat) (xs ys : List Ln) (w : World) (h1 : xs.length ≤ maxLen) (h2 : ys.length ≤ maxLen) (hA : LinesIn w A xs) (hB : LinesIn w B ys) :
    Calls Try.prog 31 #[.slice A xs.length c, .slice B ys.length c'] w fun e w' => e = .returned (.bool (decide (xs = ys))) ∧ ∃ q, w' = w.drewN q := by
  unfold maxLen at h1 h2
  have HA := Lib.hid hA
  have HB := Lib.hid hB
  clear hA hB
  by_cases hl : xs.length = ys.length
  · have hne : ((xs.length : Int) != (ys.length : Int)) = false := by simp [hl]
    have HL := Lib.hid hl
    clear hl
    go_enter Try.func31, Try.ntmps31
    go_wp2_with fail
    go_loopg [5] xs.length (fun n i wr => ∃ k : Nat, k ≤ xs.length ∧ i = .int .i64 k ∧ xs.length - k ≤ n ∧ Hid (xs.take k = ys.take k) ∧ ∃ q, wr = w.drewN q)
    case atStart => exact ⟨0, Nat.zero_le _, rfl, by omega, Lib.hid rfl, 0, rfl⟩
    case round =>
      obtain ⟨k, hk, rfl, hn, HT, q, rfl⟩ := hrel
      by_cases hlt : k < xs.length
      · have hlt2 : k < ys.length := by have := HL.out; omega
        obtain ⟨bk, off, hAe, hbk, hL⟩ := HA.out (by omega)
        obtain ⟨bk', off', hAe', hbk', hL'⟩ := HB.out (by omega)
        subst hAe hAe'
        obtain ⟨c0, c1⟩ := hL k hlt
        obtain ⟨d0, d1⟩ := hL' k hlt2
        have h0k : (0 : Int) ≤ (k : Int) := Int.natCast_nonneg _
        have h1k : (k : Int) < (xs.length : Int) := by omega
        have h2k : (k : Int) < (ys.length : Int) := by omega
        have HTK := Lib.hid (take_eq_succ hlt hlt2 HT.out)
        have HNE := Lib.hid (ne_of_at hlt hlt2)
        have hq0 := fun W => ln_neq W xs[k] ys[k]
        clear hL hL'
        by_cases he : xs[k] = ys[k]
        · have HTE := Lib.hid (HTK.out he)
          rw [decide_eq_true he] at hq0
          simp only [lnV] at hq0
          clear he HNE HTK
          generalize xs[k].2 = b at *
          generalize xs[k].1 = t at *
          generalize ys[k].2 = b' at *
          generalize ys[k].1 = t' at *
          have hq : ∀ W, (binOp .neq 51 (.agg #[.string ⟨t.toArray⟩, .bool b]) (.agg #[.string ⟨t'.toArray⟩, .bool b'])).run Try.prog W = .ok (.bool false) W := hq0
          clear hq0
          go_wp2_with fail
          go_quiet (fail)
          clear hq
          go_wp2_with fail
          go_roundg (xs.length - (k + 1))
          case measure => omega
          case rel => exact ⟨k + 1, by omega, by go_num, Nat.le_refl _, HTE, _, rfl⟩
        · have HTE := Lib.hid (HNE.out he)
          rw [decide_eq_false he] at hq0
          simp only [lnV] at hq0
          clear he HNE HTK
          generalize xs[k].2 = b at *
          generalize xs[k].1 = t at *
          generalize ys[k].2 = b' at *
          generalize ys[k].1 = t' at *
          have hq : ∀ W, (binOp .neq 51 (.agg #[.string ⟨t.toArray⟩, .bool b]) (.agg #[.string ⟨t'.toArray⟩, .bool b'])).run Try.prog W = .ok (.bool true) W := hq0
          clear hq0
          go_wp2_with fail
          go_quiet (fail)
          clear hq
          have hd := decide_eq_false HTE.out
          go_wp2_with fail
          go_ret
          exact ⟨by rw [hd]; rfl, _, World.drewN_drewN _ _ _⟩
      · obtain rfl : k = xs.length := by omega
        have hT := HT.out
        rw [List.take_length, HL.out, List.take_length] at hT
        have hd := decide_eq_true hT
        clear hT HT
        go_wp2_with fail
        go_ret
        exact ⟨by rw [hd]; rfl, _, rfl⟩
  · have hne : ((xs.length : Int) != (ys.length : Int)) = true := by simp [bne]; omega
    have hd := decide_eq_false (fun e : xs = ys => hl (by rw [e]))
    clear hl
    go_enter Try.func31, Try.ntmps31
    go_wp2_with fail
    go_ret
    exact ⟨by rw [hd]; rfl, 0, rfl⟩

theorem take_eq_ed {xs ys : List Ed} {k : Nat} (h1 : k < xs.length) (h2 : k < ys.length) (h : xs.take k = ys.take k) (he : xs[k] = ys[k]) : xs.take (k + 1) = ys.take (k + 1) := by
  rw [List.take_succ_eq_append_getElem h1, List.take_succ_eq_append_getElem h2, h, he]
theorem ne_of_ed {xs ys : List Ed} {k : Nat} (h1 : k < xs.length) (h2 : k < ys.length) (he : xs[k] ≠ ys[k]) : xs ≠ ys := fun e => by
  subst e; exact he rfl
set_option maxHeartbeats 2000000 in
set_option maxRecDepth 100000 in
theorem esame_gen (A B : Option Addr) (c c' : Nat) (xs ys : List Ed) (w : World) (hx : EdsOk xs) (hy : EdsOk ys) (hA : EdsIn 0 w A xs) (hB : EdsIn 0 w B ys) :
    Calls Try.prog 15 #[.slice A xs.length c, .slice B ys.length c'] w fun e w' => e = .returned (.bool (decide (xs = ys))) ∧ ∃ q, w' = w.drewN q := by
  have h1 := hx.len
  have h2 := hy.len
  have HLX := Lib.hid hx.ls
  have HLY := Lib.hid hy.ls
  unfold maxLen at h1 h2
  have HA := Lib.hid hA
  have HB := Lib.hid hB
  clear hA hB hx hy
  by_cases hl : xs.length = ys.length
  · have hne : ((xs.length : Int) != (ys.length : Int)) = false := by simp [hl]
    have HL := Lib.hid hl
    clear hl
    go_enter Try.func15, Try.ntmps15
    go_wp2_with fail
    go_loopg [5] xs.length (fun n i wr => ∃ k : Nat, k ≤ xs.length ∧ i = .int .i64 k ∧ xs.length - k ≤ n ∧ Hid (xs.take k = ys.take k) ∧ Hid (∃ q, wr = w.drewN q))
    case atStart => exact ⟨0, Nat.zero_le _, rfl, by omega, Lib.hid rfl, Lib.hid ⟨0, rfl⟩⟩
    case round =>
      obtain ⟨k, hk, rfl, hn, HT, HQ⟩ := hrel
      by_cases hlt : k < xs.length
      · have hlt2 : k < ys.length := by have := HL.out; omega
        have hbw : Below w.heap.size w wr := by obtain ⟨q, rfl⟩ := HQ.out; exact V.drawn_below w q
        obtain ⟨bk, off, LA, lc, hAe, c0, c1, g2, -⟩ := edit_at HA.out hbw hlt
        obtain ⟨bk', off', LB, lc', hBe, d0, d1, g3, -⟩ := edit_at HB.out hbw hlt2
        subst hAe hBe
        have hl1 := HLX.out _ (List.getElem_mem hlt)
        have hl2 := HLY.out _ (List.getElem_mem hlt2)
        have HC : Hid (∀ n, Calls Try.prog 31 #[.slice LA xs[k].2.length lc, .slice LB ys[k].2.length lc'] (wr.drewN n) fun e w' => e = .returned (.bool (decide (xs[k].2 = ys[k].2))) ∧ ∃ m, w' = (wr.drewN n).drewN m) := Lib.hid (fun n => rsame_genq LA LB lc lc' xs[k].2 ys[k].2 (wr.drewN n) hl1 hl2 ((g2.below hbw).below (V.drawn_below wr n)) ((g3.below hbw).below (V.drawn_below wr n)))
        have HTK := Lib.hid (take_eq_ed hlt hlt2 HT.out)
        have HNE := Lib.hid (ne_of_ed hlt hlt2)
        have h0k : (0 : Int) ≤ (k : Int) := Int.natCast_nonneg _
        have h1k : (k : Int) < (xs.length : Int) := by omega
        have h2k : (k : Int) < (ys.length : Int) := by omega
        have hlt3 : xs[k] = (xs[k].1, xs[k].2) := rfl
        have hlt4 : ys[k] = (ys[k].1, ys[k].2) := rfl
        rw [hlt3, hlt4] at HTK HNE
        clear hbw g2 g3 hl1 hl2 hlt3 hlt4
        generalize xs[k].2 = l at *
        generalize xs[k].1 = d at *
        generalize ys[k].2 = l' at *
        generalize ys[k].1 = d' at *
        by_cases hd : d = d'
        · subst hd
          have hnd : (d != d) = false := by simp
          by_cases he : l = l'
          · have HTE := Lib.hid (HTK.out (by rw [he]))
            rw [decide_eq_true he] at HC
            clear HTK HNE he
            go_wp2_with fail
            go_quiet ((go_at_call 31; exact Calls.quiet_of (HC.out _)))
            go_wp2_with fail
            go_roundg (xs.length - (k + 1))
            case measure => omega
            case rel => exact ⟨k + 1, by omega, by go_num, Nat.le_refl _, HTE, Lib.hid (by obtain ⟨q, rfl⟩ := HQ.out; exact ⟨_, World.drewN_drewN _ _ _⟩)⟩
          · have HTE := Lib.hid (HNE.out (by simpa using he))
            rw [decide_eq_false he] at HC
            clear HTK HNE he
            go_wp2_with fail
            go_quiet ((go_at_call 31; exact Calls.quiet_of (HC.out _)))
            have hdd := decide_eq_false HTE.out
            go_wp2_with fail
            go_ret
            exact ⟨by rw [hdd]; rfl, by obtain ⟨q, rfl⟩ := HQ.out; exact ⟨_, World.drewN_drewN _ _ _⟩⟩
        · have hnd : (d != d') = true := by simp [bne, hd]
          have HTE := Lib.hid (HNE.out (fun e => hd (by injection e)))
          clear HTK HNE hd HC
          go_wp2_with fail
          go_quiet (fail)
          have hdd := decide_eq_false HTE.out
          go_wp2_with fail
          go_ret
          exact ⟨by rw [hdd]; rfl, by obtain ⟨q, rfl⟩ := HQ.out; exact ⟨_, World.drewN_drewN _ _ _⟩⟩
      · obtain rfl : k = xs.length := by omega
        have hT := HT.out
        rw [List.take_length, HL.out, List.take_length] at hT
        have hdd := decide_eq_true hT
        clear hT HT
        go_wp2_with fail
        go_ret
        exact ⟨by rw [hdd]; rfl, HQ.out⟩
  · have hne : ((xs.length : Int) != (ys.length : Int)) = true := by simp [bne]; omega
    have hdd : decide (xs = ys) = false := decide_eq_false (fun e => hl (by rw [e]))
    clear hl
    go_enter Try.func15, Try.ntmps15
    go_wp2_with fail
    go_ret
    exact ⟨by rw [hdd]; rfl, 0, rfl⟩
theorem two (w : World) (o0 o1 : Obj) : ∃ W : World, W = (w.alloc o0).alloc o1 ∧ W.heap[w.heap.size]? = some o0 ∧ W.heap[w.heap.size + 1]? = some o1 ∧ Below w.heap.size w W := by
  refine ⟨_, rfl, ?_, ?_, ?_⟩
  · exact ((alloc1 (w.alloc o0) o1).block w.heap.size (by simp)).trans (heap_alloc_new w o0)
  · have := heap_alloc_new (w.alloc o0) o1
    simpa using this
  · exact (alloc1 w o0).alloc (by simp) _
def BlEnd (w : World) (v : Bool) (e : Ending) (w' : World) : Prop := e = .returned (.bool v) ∧ Below w.heap.size w w'
set_option maxHeartbeats 2000000 in
set_option maxRecDepth 100000 in
theorem same_any (LA LB : Option Addr) (c c' : Nat) (d d' : Int) (l l' : List Ln) (w : World) (h1 : l.length ≤ maxLen) (h2 : l'.length ≤ maxLen) (hA : LinesIn w LA l) (hB : LinesIn w LB l') :
    Calls Try.prog 44 #[.agg #[.int .i64 d, .slice LA l.length c], .agg #[.int .i64 d', .slice LB l'.length c']] w (BlEnd w (decide ((d, l) = (d', l')))) := by
  obtain ⟨W, hW, x0, x1, hb⟩ := two w (.cells #[.int .i64 d, .slice LA l.length c] 47) (.cells #[.int .i64 d', .slice LB l'.length c'] 47)
  have a0 := L.blk_cell x0 0
  have a1 := L.blk_cell x0 1
  have b0 := L.blk_cell x1 0
  have b1 := L.blk_cell x1 1
  simp only [List.getElem?_toArray, List.getElem?_cons_zero, List.getElem?_cons_succ] at a0 a1 b0 b1
  have HC := Lib.hid (equal_gen LA LB c c' l l' W h1 h2 (hA.below hb) (hB.below hb))
  have HB := Lib.hid hb
  clear x0 x1 hb hA hB h1 h2
  unfold BlEnd
  by_cases hd : d = d'
  · subst hd
    have hdd : (d == d) = true := by simp
    have HE : Hid (decide ((d, l) = (d, l')) = decide (l = l')) := Lib.hid (by simp)
    rw [HE.out]
    generalize decide (l = l') = v at *
    go_enter Try.func44, Try.ntmps44
    go_upto_region 1 with fail
    rw [← hW]
    clear hW
    go_wp2_with fail
    with_reducible refine (HC.out).mono ?_
    rintro e w2 ⟨rfl, hb2⟩
    have HB2 := Lib.hid (HB.out.trans (hb2.mono HB.out.size))
    clear hb2
    go_wp2_with fail
    go_ret
    exact ⟨rfl, HB2.out⟩
  · have hdd : (d == d') = false := beq_eq_false_iff_ne.2 hd
    have HE : Hid (decide ((d, l) = (d', l')) = false) := Lib.hid (by simp [hd])
    rw [HE.out]
    clear hd HC
    go_enter Try.func44, Try.ntmps44
    go_upto_region 1 with fail
    rw [← hW]
    clear hW
    go_wp2_with fail
    go_ret
    exact ⟨rfl, HB.out⟩
set_option maxHeartbeats 2000000 in
set_option maxRecDepth 100000 in
theorem equalf_any (A B : Option Addr) (c c' : Nat) (xs ys : List Ed) (w : World) (hx : EdsOk xs) (hy : EdsOk ys) (hA : EdsIn 0 w A xs) (hB : EdsIn 0 w B ys) :
    Calls Try.prog 43 #[.slice A xs.length c, .slice B ys.length c', .func (.func 44) #[] #[]] w (BlEnd w (decide (xs = ys))) := by
  have h1 := hx.len
  have h2 := hy.len
  have HLX := Lib.hid hx.ls
  have HLY := Lib.hid hy.ls
  unfold maxLen at h1 h2
  have HA := Lib.hid hA
  have HB := Lib.hid hB
  clear hA hB hx hy
  unfold BlEnd
  by_cases hl : xs.length = ys.length
  · have hne : ((xs.length : Int) != (ys.length : Int)) = false := by simp [hl]
    have HL := Lib.hid hl
    clear hl
    go_enter Try.func43, Try.ntmps43
    go_wp2_with fail
    go_loopg [17] xs.length (fun n i wr => ∃ k : Nat, k ≤ xs.length ∧ i = .int .i64 k ∧ xs.length - k ≤ n ∧ Hid (xs.take k = ys.take k) ∧ Hid (Below w.heap.size w wr))
    case atStart => exact ⟨0, Nat.zero_le _, rfl, by omega, Lib.hid rfl, Lib.hid (Below.refl _ _)⟩
    case round =>
      obtain ⟨k, hk, rfl, hn, HT, HQ⟩ := hrel
      by_cases hlt : k < xs.length
      · have hlt2 : k < ys.length := by have := HL.out; omega
        obtain ⟨bk, off, LA, lc, hAe, c0, c1, g2, -⟩ := edit_at HA.out HQ.out hlt
        obtain ⟨bk', off', LB, lc', hBe, d0', d1', g3, -⟩ := edit_at HB.out HQ.out hlt2
        subst hAe hBe
        have hl1 := HLX.out _ (List.getElem_mem hlt)
        have hl2 := HLY.out _ (List.getElem_mem hlt2)
        obtain ⟨W, hW, x0, x1, hb⟩ := two wr (.cells #[.int .i64 xs[k].1, .slice LA xs[k].2.length lc] 47) (.cells #[.int .i64 ys[k].1, .slice LB ys[k].2.length lc'] 47)
        have HC := Lib.hid (same_any LA LB lc lc' xs[k].1 ys[k].1 xs[k].2 ys[k].2 W hl1 hl2 ((g2.below HQ.out).below hb) ((g3.below HQ.out).below hb))
        have HTK := Lib.hid (take_eq_ed hlt hlt2 HT.out)
        have HNE := Lib.hid (ne_of_ed hlt hlt2)
        have hbk : bk' < wr.heap.size := World.block_lt_of_cell? wr _ d0'
        have d0 : ∀ o, (wr.alloc o).cell? ⟨bk', off' + k * 2, none⟩ = some (.int .i64 ys[k].1) := fun o => ((alloc1 wr o).cell (p := ⟨bk', off' + k * 2, none⟩) hbk).trans d0'
        have d1 : ∀ o, (wr.alloc o).cell? ⟨bk', off' + k * 2 + 1, none⟩ = some (.slice LB ys[k].2.length lc') := fun o => ((alloc1 wr o).cell (p := ⟨bk', off' + k * 2 + 1, none⟩) hbk).trans d1'
        have a0 := L.blk_cell x0 0
        have a1 := L.blk_cell x0 1
        have b0 := L.blk_cell x1 0
        have b1 := L.blk_cell x1 1
        simp only [List.getElem?_toArray, List.getElem?_cons_zero, List.getElem?_cons_succ] at a0 a1 b0 b1
        have HB1 := Lib.hid (HQ.out.trans (hb.mono HQ.out.size))
        have h0k : (0 : Int) ≤ (k : Int) := Int.natCast_nonneg _
        have h1k : (k : Int) < (xs.length : Int) := by omega
        have h2k : (k : Int) < (ys.length : Int) := by omega
        have hlt3 : xs[k] = (xs[k].1, xs[k].2) := rfl
        have hlt4 : ys[k] = (ys[k].1, ys[k].2) := rfl
        rw [hlt3, hlt4] at HTK HNE
        clear g2 g3 hl1 hl2 hlt3 hlt4 d0' d1' x0 x1 hb HQ
        generalize xs[k].2 = l at *
        generalize xs[k].1 = d at *
        generalize ys[k].2 = l' at *
        generalize ys[k].1 = d' at *
        by_cases he : (d, l) = (d', l')
        · have HTE := Lib.hid (HTK.out he)
          rw [decide_eq_true he] at HC
          clear HTK HNE he
          go_upto_region 7 with fail
          rw [← hW]
          clear hW c0 c1 d0 d1
          go_wp2_with fail
          with_reducible refine (HC.out).mono ?_
          rintro e w2 ⟨rfl, hb2⟩
          have HB2 := Lib.hid (HB1.out.trans (hb2.mono HB1.out.size))
          clear hb2 HC
          go_wp2_with fail
          go_roundg (xs.length - (k + 1))
          case measure => omega
          case rel => exact ⟨k + 1, by omega, by go_num, Nat.le_refl _, HTE, HB2⟩
        · have HTE := Lib.hid (HNE.out he)
          rw [decide_eq_false he] at HC
          clear HTK HNE he
          go_upto_region 7 with fail
          rw [← hW]
          clear hW c0 c1 d0 d1
          go_wp2_with fail
          with_reducible refine (HC.out).mono ?_
          rintro e w2 ⟨rfl, hb2⟩
          have HB2 := Lib.hid (HB1.out.trans (hb2.mono HB1.out.size))
          clear hb2 HC
          have hdd := decide_eq_false HTE.out
          go_wp2_with fail
          go_ret
          exact ⟨by rw [hdd]; rfl, HB2.out⟩
      · obtain rfl : k = xs.length := by omega
        have hT := HT.out
        rw [List.take_length, HL.out, List.take_length] at hT
        have hdd := decide_eq_true hT
        clear hT HT
        go_wp2_with fail
        go_ret
        exact ⟨by rw [hdd]; rfl, HQ.out⟩
  · have hne : ((xs.length : Int) != (ys.length : Int)) = true := by simp [bne]; omega
    have hdd : decide (xs = ys) = false := decide_eq_false (fun e => hl (by rw [e]))
    clear hl
    go_enter Try.func43, Try.ntmps43
    go_wp2_with fail
    go_ret
    exact ⟨by rw [hdd]; rfl, Below.refl _ _⟩
end Go.Proofs.Ytimalohdchhjgaa.H

namespace Go.Proofs.Ytimalohdchhjgaa.H
set_option linter.unusedVariables false
set_option linter.unusedSimpArgs false
open Go.RowKit
open T S
open V (grown_of)
open I (alloc1 own_at own_below)
open N (Ln)

theorem hunk_at {b : Nat} {w wr : World} {A : Option Addr} {hs : List Hk} {k : Nat} (h : HksIn b w A hs) (hb : Below w.heap.size w wr) (hk : k < hs.length) :
    ∃ bk off EA ec, A = some ⟨bk, off, none⟩ ∧ wr.cell? ⟨bk, off + k * 5, none⟩ = some (.int .i64 hs[k].oa) ∧ wr.cell? ⟨bk, off + k * 5 + 1, none⟩ = some (.int .i64 hs[k].o) ∧ wr.cell? ⟨bk, off + k * 5 + 2, none⟩ = some (.int .i64 hs[k].na) ∧ wr.cell? ⟨bk, off + k * 5 + 3, none⟩ = some (.int .i64 hs[k].n) ∧ wr.cell? ⟨bk, off + k * 5 + 4, none⟩ = some (.slice EA hs[k].es.length ec) ∧ EdsIn b w EA hs[k].es ∧ hs[k].es.length ≤ ec ∧ (EA = none → ec = 0) := by
  obtain ⟨bk, off, hA, -, hbk, hI⟩ := h (by omega)
  obtain ⟨EA, ec, h0, h1, h2, h3, h4, h5, h6, h7⟩ := hI k hk
  exact ⟨bk, off, EA, ec, hA, (hb.cell (p := ⟨bk, _, none⟩) hbk).trans h0, (hb.cell (p := ⟨bk, _, none⟩) hbk).trans h1, (hb.cell (p := ⟨bk, _, none⟩) hbk).trans h2, (hb.cell (p := ⟨bk, _, none⟩) hbk).trans h3, (hb.cell (p := ⟨bk, _, none⟩) hbk).trans h4, h5, h6, h7⟩
/-- Are hunks within the limits? -/
def lim (hs : List Hk) : Bool := !decide (400 < hs.length ∨ hs.any (fun h => decide (ck h.es = 4)))
theorem lim_long {hs : List Hk} (h : 400 < hs.length) : lim hs = false := by unfold lim; simp [h]
theorem lim_at {hs : List Hk} {k : Nat} (hk : k < hs.length) (h : ck hs[k].es = 4) : lim hs = false := by
  unfold lim
  have : hs.any (fun h => decide (ck h.es = 4)) = true := List.any_eq_true.2 ⟨_, List.getElem_mem hk, decide_eq_true h⟩
  simp [this]
theorem lim_all {hs : List Hk} (h1 : ¬ 400 < hs.length) (h : ∀ j (hj : j < hs.length), ck hs[j].es ≠ 4) : lim hs = true := by
  unfold lim
  have : hs.any (fun h => decide (ck h.es = 4)) = false := by
    rw [List.any_eq_false]
    intro x hx
    obtain ⟨j, hj, rfl⟩ := List.mem_iff_getElem.1 hx
    simpa using h j hj
  simp [this, h1]
theorem hck_lim (hs : List Hk) : hck hs = if lim hs then (if chain 0 0 hs then 0 else 3) else 4 := by
  unfold hck lim
  by_cases h : 400 < hs.length ∨ hs.any (fun h => decide (ck h.es = 4))
  · rw [if_pos h, decide_eq_true h]; rfl
  · rw [if_neg h, decide_eq_false h]; rfl
set_option maxRecDepth 100000 in
set_option maxHeartbeats 4000000 in
theorem within_any (A : Option Addr) (c b : Nat) (hs : List Hk) (w : World) (hH : HksIn b w A hs) (hok : HksOk hs) :
    Calls Try.prog 28 #[.slice A hs.length c] w (BlEnd w (lim hs)) := by
  have HH := Lib.hid (hH.low (Nat.zero_le _))
  have hl := hok.len
  have HES := Lib.hid hok.es
  unfold maxLen at hl
  clear hH hok
  unfold BlEnd
  go_enter Try.func28, Try.ntmps28
  by_cases hlong : 400 < hs.length
  · have HR := Lib.hid (lim_long hlong)
    have h4 : (400 : Int) < (hs.length : Int) := by omega
    go_wp2_with fail
    go_ret
    exact ⟨by rw [HR.out]; rfl, Below.refl _ _⟩
  have h4 : ¬ (400 : Int) < (hs.length : Int) := by omega
  go_wp2_with fail
  go_loopg [10] hs.length (fun m iv wr => ∃ (k : Nat), k ≤ hs.length ∧ iv = .int .i64 k ∧ hs.length - k ≤ m ∧ Hid (∀ j (hj : j < hs.length), j < k → ck hs[j].es ≠ 4) ∧ Hid (Below w.heap.size w wr))
  case atStart => exact ⟨0, Nat.zero_le _, rfl, by omega, Lib.hid (fun j _ h => absurd h (Nat.not_lt_zero _)), Lib.hid (Below.refl _ _)⟩
  case round =>
    obtain ⟨k, hk, rfl, hmm, HOK, HB⟩ := hrel
    by_cases hlt : k < hs.length
    · obtain ⟨bk, off, EA, ec, hAe, c0, c1, c2, c3, c4, hE, -, -⟩ := hunk_at HH.out HB.out hlt
      subst hAe
      have HFM := Lib.hid (fun h => lim_at hlt h)
      have HNX : Hid (ck hs[k].es ≠ 4 → ∀ j (hj : j < hs.length), j < k + 1 → ck hs[j].es ≠ 4) := Lib.hid (fun h j hj hjk => by
        by_cases e : j = k
        · subst e; exact h
        · exact HOK.out j hj (by omega))
      have hes := HES.out _ (List.getElem_mem hlt)
      have HE := Lib.hid hE
      generalize hs[k] = h at *
      obtain ⟨oa, o, na, nn, es⟩ := h
      simp only at c0 c1 c2 c3 c4 hes HFM HNX HE
      obtain ⟨W1, hW1⟩ : ∃ W : World, W = wr.alloc (.cells #[.int .i64 oa, .int .i64 o, .int .i64 na, .int .i64 nn, .slice EA es.length ec] 44) := ⟨_, rfl⟩
      have hX := heap_alloc_new wr (.cells #[.int .i64 oa, .int .i64 o, .int .i64 na, .int .i64 nn, .slice EA es.length ec] 44)
      rw [← hW1] at hX
      have x4 := L.blk_cell hX 4
      simp only [List.getElem?_toArray, List.getElem?_cons_zero, List.getElem?_cons_succ] at x4
      have HB1 := Lib.hid (HB.out.trans ((show Below wr.heap.size wr W1 by rw [hW1]; exact alloc1 _ _).mono HB.out.size))
      have HC := Lib.hid (check_any EA ec 0 es W1 (HE.out.below HB1.out) hes)
      have h0k : (0 : Int) ≤ (k : Int) := by omega
      have hki : (k : Int) < (hs.length : Int) := by omega
      clear hX hE hes HE
      by_cases hq : ck es = 4
      · have HR := Lib.hid (HFM.out hq)
        rw [hq] at HC
        clear hq HFM HNX
        go_upto_region 6 with fail
        rw [← hW1]
        obtain ⟨xb, hxb⟩ : ∃ xb, xb = wr.heap.size := ⟨_, rfl⟩
        rw [← hxb] at x4 ⊢
        clear hW1 hxb
        go_wp2_with fail
        with_reducible refine (HC.out).mono ?_
        rintro e w2 ⟨rfl, hb2⟩
        have HB2 := Lib.hid (HB1.out.trans (hb2.mono HB1.out.size))
        clear hb2
        go_wp2_with fail
        go_ret
        exact ⟨by rw [HR.out]; rfl, HB2.out⟩
      · have HR := Lib.hid (HNX.out hq)
        have hq4 : (ck es == 4) = false := beq_eq_false_iff_ne.2 hq
        generalize ck es = q at *
        clear hq HFM HNX
        go_upto_region 6 with fail
        rw [← hW1]
        obtain ⟨xb, hxb⟩ : ∃ xb, xb = wr.heap.size := ⟨_, rfl⟩
        rw [← hxb] at x4 ⊢
        clear hW1 hxb
        go_wp2_with fail
        with_reducible refine (HC.out).mono ?_
        rintro e w2 ⟨rfl, hb2⟩
        have HB2 := Lib.hid (HB1.out.trans (hb2.mono HB1.out.size))
        clear hb2
        go_wp2_with fail
        go_roundg (hs.length - (k + 1))
        case rel => exact ⟨k + 1, by omega, by go_num, Nat.le_refl _, HR, HB2⟩
        case measure => omega
    · obtain rfl : k = hs.length := by omega
      have HR := Lib.hid (lim_all hlong (fun j hj => HOK.out j hj hj))
      go_wp2_with fail
      go_ret
      exact ⟨by rw [HR.out]; rfl, HB.out⟩
abbrev hkV (oa o na n : Int) (EA : Option Addr) (k ec : Nat) : Value := .agg #[.int .i64 oa, .int .i64 o, .int .i64 na, .int .i64 n, .slice EA k ec]
/-- Is it a number from 0 to MaxLines? -/
def ok4 (x : Int) : Prop := 0 ≤ x ∧ x ≤ 400
set_option maxRecDepth 100000 in
set_option maxHeartbeats 4000000 in
theorem follows_any (p0 p1 p2 p3 oa o na nn : Int) (PA EA : Option Addr) (pk pc ek ec : Nat) (es : List Ed) (w : World) (h1 : ok4 p0) (h2 : ok4 p1) (h3 : ok4 p2) (h4 : ok4 p3) (h5 : ok4 oa) (h6 : ok4 na) :
    Calls Try.prog 30 #[hkV p0 p1 p2 p3 PA pk pc, hkV oa o na nn EA ek ec] w (BlEnd w (flw (p0 + p1) (p2 + p3) ⟨oa, o, na, nn, es⟩)) := by
  unfold ok4 at h1 h2 h3 h4 h5 h6
  obtain ⟨W, hW, x0, x1, hb⟩ := two w (.cells #[.int .i64 p0, .int .i64 p1, .int .i64 p2, .int .i64 p3, .slice PA pk pc] 44) (.cells #[.int .i64 oa, .int .i64 o, .int .i64 na, .int .i64 nn, .slice EA ek ec] 44)
  have a0 := L.blk_cell x0 0
  have a1 := L.blk_cell x0 1
  have a2 := L.blk_cell x0 2
  have a3 := L.blk_cell x0 3
  have b0 := L.blk_cell x1 0
  have b2 := L.blk_cell x1 2
  simp only [List.getElem?_toArray, List.getElem?_cons_zero, List.getElem?_cons_succ] at a0 a1 a2 a3 b0 b2
  have w1 : IntKind.i64.wrap (p0 + p1) = p0 + p1 := by rw [IntKind.wrap_i64]; omega
  have w2 : IntKind.i64.wrap (p2 + p3) = p2 + p3 := by rw [IntKind.wrap_i64]; omega
  have w3 : IntKind.i64.wrap (oa - (p0 + p1)) = oa - (p0 + p1) := by rw [IntKind.wrap_i64]; omega
  have w4 : IntKind.i64.wrap (na - (p2 + p3)) = na - (p2 + p3) := by rw [IntKind.wrap_i64]; omega
  have HB := Lib.hid hb
  clear x0 x1 hb
  unfold BlEnd hkV
  by_cases hg : 0 ≤ oa - (p0 + p1)
  · have HE : Hid ((oa - (p0 + p1) == na - (p2 + p3)) = flw (p0 + p1) (p2 + p3) ⟨oa, o, na, nn, es⟩) := Lib.hid (by
      unfold flw
      rw [Bool.eq_iff_iff]
      simp
      omega)
    have hgd : decide (0 ≤ oa - (p0 + p1)) = true := decide_eq_true hg
    clear h1 h2 h3 h4 h5 h6
    go_enter Try.func30, Try.ntmps30
    go_upto_region 1 with fail
    rw [← hW]
    clear hW
    go_wp2_with fail
    go_ret
    exact ⟨by rw [← HE.out]; rfl, HB.out⟩
  · have HE : Hid (flw (p0 + p1) (p2 + p3) ⟨oa, o, na, nn, es⟩ = false) := Lib.hid (decide_eq_false (by simp only; omega))
    have hgd : decide (0 ≤ oa - (p0 + p1)) = false := decide_eq_false hg
    clear h1 h2 h3 h4 h5 h6
    go_enter Try.func30, Try.ntmps30
    go_upto_region 1 with fail
    rw [← hW]
    clear hW
    go_wp2_with fail
    go_ret
    exact ⟨by rw [HE.out]; rfl, HB.out⟩
theorem rgt_num {h : Hk} (q : ¬ (ok4 h.oa ∧ ok4 h.o ∧ ok4 h.na ∧ ok4 h.n)) : rgt h = false := by
  unfold rgt
  rw [decide_eq_false]
  · rfl
  · unfold ok4 at q
    intro e
    exact q ⟨⟨e.1, e.2.1⟩, ⟨e.2.2.1, e.2.2.2.1⟩, ⟨e.2.2.2.2.1, e.2.2.2.2.2.1⟩, ⟨e.2.2.2.2.2.2.1, e.2.2.2.2.2.2.2⟩⟩
theorem rgt_ok {h : Hk} (q : ok4 h.oa ∧ ok4 h.o ∧ ok4 h.na ∧ ok4 h.n) : rgt h = (decide (ck h.es = 0) && (decide (norm h.es = h.es) && (decide (chg h.es ≠ 0) && decide (h.o = ((sides h.es).1.length : Int) ∧ h.n = ((sides h.es).2.length : Int))))) := by
  unfold rgt
  unfold ok4 at q
  rw [decide_eq_true ⟨q.1.1, q.1.2, q.2.1.1, q.2.1.2, q.2.2.1.1, q.2.2.1.2, q.2.2.2.1, q.2.2.2.2⟩]; rfl
theorem rgt_nums {h : Hk} (q : rgt h = true) : ok4 h.oa ∧ ok4 h.o ∧ ok4 h.na ∧ ok4 h.n := by
  by_cases e : ok4 h.oa ∧ ok4 h.o ∧ ok4 h.na ∧ ok4 h.n
  · exact e
  · rw [rgt_num e] at q; cases q
set_option maxRecDepth 100000 in
set_option maxHeartbeats 4000000 in
theorem right_any (EA : Option Addr) (ec : Nat) (h : Hk) (w : World) (hE : EdsIn 0 w EA h.es) (hok : EdsOk h.es) :
    Calls Try.prog 29 #[hkV h.oa h.o h.na h.n EA h.es.length ec] w (BlEnd w (rgt h)) := by
  obtain ⟨oa, o, na, nn, es⟩ := h
  simp only at hE hok
  obtain ⟨W, hW, x0, x1, hb⟩ := two w (.cells #[.int .i64 oa, .int .i64 o, .int .i64 na, .int .i64 nn, .slice EA es.length ec] 44) (.cells #[.int .i64 oa, .int .i64 o, .int .i64 na, .int .i64 nn] 3)
  have a1 := L.blk_cell x0 1
  have a3 := L.blk_cell x0 3
  have a4 := L.blk_cell x0 4
  have b0 := L.blk_cell x1 0
  have b1 := L.blk_cell x1 1
  have b2 := L.blk_cell x1 2
  have b3 := L.blk_cell x1 3
  simp only [List.getElem?_toArray, List.getElem?_cons_zero, List.getElem?_cons_succ] at a1 a3 a4 b0 b1 b2 b3
  have hxb : w.heap.size < W.heap.size := L.blk_lt x0
  have HB := Lib.hid hb
  have HEW := Lib.hid (hE.below hb)
  have HOK := Lib.hid hok
  have HNUM := Lib.hid (rgt_num (h := ⟨oa, o, na, nn, es⟩))
  have HRO := Lib.hid (rgt_ok (h := ⟨oa, o, na, nn, es⟩))
  simp only at HNUM HRO
  generalize rgt ⟨oa, o, na, nn, es⟩ = R at *
  clear x0 x1 hb hE hok
  unfold BlEnd hkV
  go_enter Try.func29, Try.ntmps29
  go_upto_region 2 with fail
  rw [← hW]
  obtain ⟨xb, hx⟩ : ∃ xb, xb = w.heap.size := ⟨_, rfl⟩
  rw [← hx] at a1 a3 a4 b0 b1 b2 b3 hxb ⊢
  clear hW hx
  go_loopg [19] 4 (fun m iv wr => ∃ (k : Nat), k ≤ 4 ∧ iv = .int .i64 k ∧ 4 - k ≤ m ∧ wr = W ∧ (0 < k → ok4 oa) ∧ (1 < k → ok4 o) ∧ (2 < k → ok4 na) ∧ (3 < k → ok4 nn))
  case atStart => exact ⟨0, by omega, rfl, by omega, rfl, by omega, by omega, by omega, by omega⟩
  case round =>
    obtain ⟨k, hk, rfl, hmm, rfl, i0, i1, i2, i3⟩ := hrel
    by_cases hlt : k < 4
    · rcases (show k = 0 ∨ k = 1 ∨ k = 2 ∨ k = 3 by omega) with rfl | rfl | rfl | rfl

      · by_cases hx0 : oa < 0
        · have hR := HNUM.out (by unfold ok4; omega)
          have hd : decide (oa < 0) = true := decide_eq_true hx0
          clear HNUM HRO hx0 i0 i1 i2 i3
          go_wp2_with fail
          go_ret
          exact ⟨by rw [hR]; rfl, HB.out⟩
        have hd : decide (oa < 0) = false := decide_eq_false hx0
        by_cases hx1 : 400 < oa
        · have hR := HNUM.out (by unfold ok4; omega)
          have hd1 : decide (400 < oa) = true := decide_eq_true hx1
          clear HNUM HRO hx0 hx1 i0 i1 i2 i3
          go_wp2_with fail
          go_ret
          exact ⟨by rw [hR]; rfl, HB.out⟩
        have hd1 : decide (400 < oa) = false := decide_eq_false hx1
        have hk4 : ok4 oa := ⟨by omega, by omega⟩
        clear hx0 hx1
        go_wp2_with fail
        go_roundg (4 - (0 + 1))
        case rel => exact ⟨1, by omega, by go_num, by omega, rfl, fun _ => hk4, by omega, by omega, by omega⟩
        case measure => omega
      · by_cases hx0 : o < 0
        · have hR := HNUM.out (by unfold ok4; omega)
          have hd : decide (o < 0) = true := decide_eq_true hx0
          clear HNUM HRO hx0 i0 i1 i2 i3
          go_wp2_with fail
          go_ret
          exact ⟨by rw [hR]; rfl, HB.out⟩
        have hd : decide (o < 0) = false := decide_eq_false hx0
        by_cases hx1 : 400 < o
        · have hR := HNUM.out (by unfold ok4; omega)
          have hd1 : decide (400 < o) = true := decide_eq_true hx1
          clear HNUM HRO hx0 hx1 i0 i1 i2 i3
          go_wp2_with fail
          go_ret
          exact ⟨by rw [hR]; rfl, HB.out⟩
        have hd1 : decide (400 < o) = false := decide_eq_false hx1
        have hk4 : ok4 o := ⟨by omega, by omega⟩
        clear hx0 hx1
        go_wp2_with fail
        go_roundg (4 - (1 + 1))
        case rel => exact ⟨2, by omega, by go_num, by omega, rfl, fun _ => i0 (by omega), fun _ => hk4, by omega, by omega⟩
        case measure => omega
      · by_cases hx0 : na < 0
        · have hR := HNUM.out (by unfold ok4; omega)
          have hd : decide (na < 0) = true := decide_eq_true hx0
          clear HNUM HRO hx0 i0 i1 i2 i3
          go_wp2_with fail
          go_ret
          exact ⟨by rw [hR]; rfl, HB.out⟩
        have hd : decide (na < 0) = false := decide_eq_false hx0
        by_cases hx1 : 400 < na
        · have hR := HNUM.out (by unfold ok4; omega)
          have hd1 : decide (400 < na) = true := decide_eq_true hx1
          clear HNUM HRO hx0 hx1 i0 i1 i2 i3
          go_wp2_with fail
          go_ret
          exact ⟨by rw [hR]; rfl, HB.out⟩
        have hd1 : decide (400 < na) = false := decide_eq_false hx1
        have hk4 : ok4 na := ⟨by omega, by omega⟩
        clear hx0 hx1
        go_wp2_with fail
        go_roundg (4 - (2 + 1))
        case rel => exact ⟨3, by omega, by go_num, by omega, rfl, fun _ => i0 (by omega), fun _ => i1 (by omega), fun _ => hk4, by omega⟩
        case measure => omega
      · by_cases hx0 : nn < 0
        · have hR := HNUM.out (by unfold ok4; omega)
          have hd : decide (nn < 0) = true := decide_eq_true hx0
          clear HNUM HRO hx0 i0 i1 i2 i3
          go_wp2_with fail
          go_ret
          exact ⟨by rw [hR]; rfl, HB.out⟩
        have hd : decide (nn < 0) = false := decide_eq_false hx0
        by_cases hx1 : 400 < nn
        · have hR := HNUM.out (by unfold ok4; omega)
          have hd1 : decide (400 < nn) = true := decide_eq_true hx1
          clear HNUM HRO hx0 hx1 i0 i1 i2 i3
          go_wp2_with fail
          go_ret
          exact ⟨by rw [hR]; rfl, HB.out⟩
        have hd1 : decide (400 < nn) = false := decide_eq_false hx1
        have hk4 : ok4 nn := ⟨by omega, by omega⟩
        clear hx0 hx1
        go_wp2_with fail
        go_roundg (4 - (3 + 1))
        case rel => exact ⟨4, by omega, by go_num, by omega, rfl, fun _ => i0 (by omega), fun _ => i1 (by omega), fun _ => i2 (by omega), fun _ => hk4⟩
        case measure => omega
    · obtain rfl : k = 4 := by omega
      have hq4 : ok4 oa ∧ ok4 o ∧ ok4 na ∧ ok4 nn := ⟨i0 (by omega), i1 (by omega), i2 (by omega), i3 (by omega)⟩
      have HR := Lib.hid (HRO.out hq4)
      clear HNUM HRO i0 i1 i2 i3 hq4
      have HN := Lib.hid (normal_any EA ec 0 es wr HEW.out HOK.out)
      by_cases hck : ck es = 0
      · have hnm : nrm es = norm es := by unfold nrm; rw [if_pos hck]
        rw [hnm, hck] at HN
        have hcn := (norm_ok hck).1
        have HON := Lib.hid (EdsOk.of_ck hcn)
        have HSN : Hid (sides (norm es) = ((sides (norm es)).1, (sides (norm es)).2)) := Lib.hid rfl
        rw [decide_eq_true hck, Bool.true_and] at HR
        have HCN := Lib.hid hcn
        clear hnm hck hcn
        go_wp2_with fail
        with_reducible refine (HN.out).mono ?_
        rintro e w2 ⟨NA, nc, rfl, hE2, hb2⟩
        have HB2 := Lib.hid (HB.out.trans (hb2.mono HB.out.size))
        have HE2 := Lib.hid (hE2.low (Nat.zero_le _))
        have k1 := (hb2.cell (p := ⟨xb, 1, none⟩) hxb).trans a1
        have k3 := (hb2.cell (p := ⟨xb, 3, none⟩) hxb).trans a3
        have k4 := (hb2.cell (p := ⟨xb, 4, none⟩) hxb).trans a4
        have hxb2 : xb < w2.heap.size := Nat.lt_of_lt_of_le hxb hb2.size
        have HQ := Lib.hid (equalf_any EA NA ec nc es (norm es) w2 HOK.out HON.out (HEW.out.below hb2) HE2.out)
        clear HN hE2 hb2 a1 a3 a4 b0 b1 b2 b3
        by_cases he : norm es = es
        · have hqe : decide (es = norm es) = true := decide_eq_true he.symm
          rw [hqe] at HQ
          rw [decide_eq_true he, Bool.true_and] at HR
          have HCH := Lib.hid (fun W hb => changed_any NA nc 0 (norm es) W (HE2.out.below hb) HON.out)
          have HSD := Lib.hid (fun W hb => sides_read NA nc 0 (norm es) W (HE2.out.below hb) HON.out)
          rw [HCN.out] at HSD
          rw [he] at HCH HSD
          have hln : (norm es).length = es.length := by rw [he]
          rw [hln] at HQ ⊢
          clear hqe he hln
          go_wp2_with fail
          with_reducible refine (HQ.out).mono ?_
          rintro e w3 ⟨rfl, hb3⟩
          have HB3 := Lib.hid (HB2.out.trans (hb3.mono HB2.out.size))
          have k1' := (hb3.cell (p := ⟨xb, 1, none⟩) hxb2).trans k1
          have k3' := (hb3.cell (p := ⟨xb, 3, none⟩) hxb2).trans k3
          have hxb3 : xb < w3.heap.size := Nat.lt_of_lt_of_le hxb2 hb3.size
          have HC3 := Lib.hid (HCH.out w3 hb3)
          have HSD3 := Lib.hid (fun W (hb : Below w3.heap.size w3 W) => HSD.out W (hb3.trans (hb.mono hb3.size)))
          clear HQ HCH HSD k1 k3 k4 hb3
          by_cases hz : chg es = 0
          · have hz0 : (chg es == 0) = true := by simp [hz]
            have hR : R = false := by rw [HR.out, hz]; simp
            go_wp2_with fail
            with_reducible refine (HC3.out).mono ?_
            rintro e w4 ⟨rfl, hb4⟩
            have HB4 := Lib.hid (HB3.out.trans (hb4.mono HB3.out.size))
            go_wp2_with fail
            go_ret
            exact ⟨by rw [hR]; rfl, HB4.out⟩
          · have hz0 : (chg es == 0) = false := beq_eq_false_iff_ne.2 hz
            have hz1 : decide (chg es ≠ 0) = true := decide_eq_true hz
            rw [hz1, Bool.true_and] at HR
            clear hz hz1
            generalize chg es = cz at *
            go_wp2_with fail
            with_reducible refine (HC3.out).mono ?_
            rintro e w4 ⟨rfl, hb4⟩
            have HB4 := Lib.hid (HB3.out.trans (hb4.mono HB3.out.size))
            have k1 := (hb4.cell (p := ⟨xb, 1, none⟩) hxb3).trans k1'
            have k3 := (hb4.cell (p := ⟨xb, 3, none⟩) hxb3).trans k3'
            have hxb4 : xb < w4.heap.size := Nat.lt_of_lt_of_le hxb3 hb4.size
            have HS4 := Lib.hid (HSD3.out w4 hb4)
            clear HC3 HSD3 hb4 k1' k3'
            go_wp2_with fail
            with_reducible refine (HS4.out).mono ?_
            rintro e w5 ⟨XA, xc, YA, yc, rfl, -, -, hb5⟩
            have HB5 := Lib.hid (HB4.out.trans (hb5.mono HB4.out.size))
            have k1' := (hb5.cell (p := ⟨xb, 1, none⟩) hxb4).trans k1
            have k3' := (hb5.cell (p := ⟨xb, 3, none⟩) hxb4).trans k3
            clear HS4 hb5 k1 k3
            generalize (sides es).1.length = n1 at *
            generalize (sides es).2.length = n2 at *
            by_cases ho : o = (n1 : Int)
            · have ho1 : (o == (n1 : Int)) = true := by simp [ho]
              have hR : R = (nn == (n2 : Int)) := by rw [HR.out, Bool.eq_iff_iff]; simp [ho]
              clear ho
              go_wp2_with fail
              go_ret
              exact ⟨by rw [hR]; rfl, HB5.out⟩
            · have ho1 : (o == (n1 : Int)) = false := beq_eq_false_iff_ne.2 ho
              have hR : R = false := by rw [HR.out]; simp [ho]
              clear ho
              go_wp2_with fail
              go_ret
              exact ⟨by rw [hR]; rfl, HB5.out⟩
        · have hqe : decide (es = norm es) = false := decide_eq_false (fun e => he e.symm)
          rw [hqe] at HQ
          have hR : R = false := by rw [HR.out, decide_eq_false he]; rfl
          clear hqe he
          go_wp2_with fail
          with_reducible refine (HQ.out).mono ?_
          rintro e w3 ⟨rfl, hb3⟩
          have HB3 := Lib.hid (HB2.out.trans (hb3.mono HB2.out.size))
          clear HQ hb3
          go_wp2_with fail
          go_ret
          exact ⟨by rw [hR]; rfl, HB3.out⟩
      · have hnm : nrm es = [] := by unfold nrm; rw [if_neg hck]
        rw [hnm] at HN
        have hR : R = false := by rw [HR.out, decide_eq_false hck]; rfl
        generalize ck es = q at *
        have h0 : (q == 0) = false := beq_eq_false_iff_ne.2 hck
        have h1 : (q != 0) = true := by simp [bne, h0]
        clear hnm hck
        go_wp2_with fail
        with_reducible refine (HN.out).mono ?_
        rintro e w2 ⟨NA, nc, rfl, -, hb2⟩
        have HB2 := Lib.hid (HB.out.trans (hb2.mono HB.out.size))
        clear HN hb2
        go_wp2_with fail
        go_ret
        exact ⟨by rw [hR]; rfl, HB2.out⟩
end Go.Proofs.Ytimalohdchhjgaa.H
