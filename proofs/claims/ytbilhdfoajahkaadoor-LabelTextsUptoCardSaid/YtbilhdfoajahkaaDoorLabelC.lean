/-
  The contract of label's Top.
-/
import Derived.Test.YtbilhdfoajahkaaDoorLabelA
import Derived.Test.YtbilhdfoajahkaaDoorOwn
import Derived.Deep.LoopGhost
import Derived.Deep.QuietTactic
import Derived.BigQuiet
import Derived.Laws.Rows
namespace Go.Proofs.YtbilhdfoajahkaaDoor.L
open Go.RowKit
open T

theorem blk_cell {w : World} {g : Nat} {t : TypeId} {cs : Array Value} (h : w.heap[g]? = some (.cells cs t (0, 0))) (i : Nat) : w.cell? ⟨g, i, none⟩ = cs[i]? := cell_of_row w g i cs t (0, 0) h
theorem blk_free {w : World} {g : Nat} {t : TypeId} {cs : Array Value} (h : w.heap[g]? = some (.cells cs t (0, 0))) (i : Nat) : w.frozen? ⟨g, i, none⟩ = false := by simp [World.frozen?, h]
theorem blk_set {w : World} {g : Nat} {t : TypeId} {cs : Array Value} (h : w.heap[g]? = some (.cells cs t (0, 0))) (i : Nat) (u : Value) : (w.setCell ⟨g, i, none⟩ u).heap[g]? = some (.cells (cs.setIfInBounds i u) t (0, 0)) := by
  simp [World.setCell, Array.getElem?_modify, h]
theorem blk_far {w : World} {g g' i : Nat} (hne : g ≠ g') (u : Value) : (w.setCell ⟨g', i, none⟩ u).heap[g]? = w.heap[g]? := Below.heap_setCell w ⟨g', i, none⟩ u g hne
theorem blk_lt {w : World} {g : Nat} {o : Obj} (h : w.heap[g]? = some o) : g < w.heap.size := by
  rcases Nat.lt_or_ge g w.heap.size with hlt | hge
  · exact hlt
  · rw [Array.getElem?_eq_none hge] at h; cases h

/-- All categories below k. -/
theorem ones_or (k : Nat) : (2 ^ k - 1) ||| 2 ^ k = 2 ^ (k + 1) - 1 := by
  have h := nat_join k (2 ^ k) (2 ^ k - 1) (Nat.mod_self _) (by have := Nat.pow_pos (n := k) (show 0 < 2 by omega); omega)
  rw [Nat.or_comm, h, Nat.pow_succ]
  have := Nat.pow_pos (n := k) (show 0 < 2 by omega)
  omega

set_option maxHeartbeats 1000000 in
theorem top_any (w : World) :
    Calls Tryd.prog 40 #[] w fun e w' => e = .returned (lab 15 18446744073709551615) ∧ Below w.heap.size w w' := by
  go_enter Tryd.func40, Tryd.ntmps40
  go_wp2_with fail
  go_loopg [4] 64 (fun n i wr => ∃ k x : Nat, k ≤ 64 ∧ i = .int .i64 k ∧ 64 - k ≤ n ∧ Hid (x = 2 ^ k - 1) ∧ wr.heap[w.heap.size]? = some (.cells #[.int .i64 0, .int .u64 0] 40 (0, 0)) ∧ wr.heap[w.heap.size + 1]? = some (.cells #[.int .i64 15, .int .u64 (x : Int)] 40 (0, 0)) ∧ Below w.heap.size w wr)
  case atStart =>
    refine ⟨0, 0, by omega, rfl, by omega, Lib.hid rfl, ?_, ?_, (((Below.refl _ _).alloc (Nat.le_refl _) _).alloc (by simp) _)⟩
    · rw [Below.heap_alloc _ _ _ (by simp)]; exact heap_alloc_new w _
    · have := heap_alloc_new (w.alloc (.cells #[.int .i64 0, .int .u64 0] 40)) (.cells #[.int .i64 15, .int .u64 0] 40)
      rwa [World.size_alloc] at this
  case round =>
    obtain ⟨k, x, hk, rfl, hn, HX, hb0, hb1, hbel⟩ := hrel
    have c1 : wr.cell? ⟨w.heap.size + 1, 1, none⟩ = some (.int .u64 (x : Int)) := blk_cell hb1 1
    have f1 := blk_free hb1 1
    have HB0 := Lib.hid hb0
    have HB1 := Lib.hid hb1
    clear hb0 hb1
    by_cases hlt : k < 64
    · have hxb : x < 18446744073709551616 := by
        have := Nat.pow_le_pow_right (n := 2) (by omega) (show k ≤ 64 by omega)
        rw [HX.out]; have := Nat.pow_pos (n := k) (show 0 < 2 by omega); omega
      have hpb : 2 ^ k < 18446744073709551616 := Nat.pow_lt_pow_right (a := 2) (n := 64) (by omega) hlt
      have hor := u64_or_nat x (2 ^ k) hxb hpb
      have HB := Lib.hid (fun w => bit_any k w hlt)
      have HY := Lib.hid (show x ||| 2 ^ k = 2 ^ (k + 1) - 1 by rw [HX.out, ones_or])
      clear hxb hpb
      generalize x ||| 2 ^ k = y at *
      generalize 2 ^ k = p at *
      go_wp2_with fail
      go_region_with (go_at_call 54; with_reducible refine (HB.out _).mono ?_; rintro e w' ⟨rfl, rfl⟩)
      all_goals
        go_wp2_with fail
        go_roundg (64 - (k + 1))
        case measure => omega
        case rel =>
          refine ⟨k + 1, y, by omega, by go_num, Nat.le_refl _, HY, ?_, ?_, (hbel.setCell (p := ⟨w.heap.size + 1, 1, none⟩) (Nat.le_succ _) _).drew⟩
          · exact (blk_far (by omega) _).trans HB0.out
          · exact blk_set HB1.out 1 _
    · obtain rfl : k = 64 := by omega
      have c0 : wr.cell? ⟨w.heap.size + 1, 0, none⟩ = some (.int .i64 15) := blk_cell HB1.out 0
      have d0 : wr.cell? ⟨w.heap.size, 0, none⟩ = some (.int .i64 0) := blk_cell HB0.out 0
      have d1 : wr.cell? ⟨w.heap.size, 1, none⟩ = some (.int .u64 0) := blk_cell HB0.out 1
      have e0 := blk_free HB0.out 0
      have e1 := blk_free HB0.out 1
      obtain rfl : x = 18446744073709551615 := HX.out
      go_wp2_with fail
      have hfin := blk_set (blk_set HB0.out 0 (.int .i64 15)) 1 (.int .u64 18446744073709551615)
      have hbf := (hbel.setCell (p := ⟨w.heap.size, 0, none⟩) (Nat.le_refl _) (.int .i64 15)).setCell (p := ⟨w.heap.size, 1, none⟩) (Nat.le_refl _) (.int .u64 18446744073709551615)
      clear c0 d0 d1 e0 e1 c1 f1
      generalize (wr.setCell ⟨w.heap.size, 0, none⟩ (.int .i64 15)).setCell ⟨w.heap.size, 1, none⟩ (.int .u64 18446744073709551615) = wf at *
      have q0 : wf.cell? ⟨w.heap.size, 0, none⟩ = some (.int .i64 15) := blk_cell hfin 0
      have q1 : wf.cell? ⟨w.heap.size, 1, none⟩ = some (.int .u64 18446744073709551615) := blk_cell hfin 1
      exact bodyPost_ret (v := lab 15 18446744073709551615) (by simp [results, Tryd.results40, go_sem, q0, q1]) rfl ⟨rfl, hbf⟩
end Go.Proofs.YtbilhdfoajahkaaDoor.L
