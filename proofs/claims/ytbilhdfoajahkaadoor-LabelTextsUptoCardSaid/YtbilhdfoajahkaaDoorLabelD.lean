/-
  The contracts of label's Cats and Of.
-/
import Derived.Test.YtbilhdfoajahkaaDoorLabelC
namespace Go.Proofs.YtbilhdfoajahkaaDoor.L
open Go.RowKit
open T

/-- The categories of a label, from k on up to 64. -/
def catsTo (c k : Nat) : List Nat := (List.range k).filter fun i => c.testBit i
def intCells (xs : List Nat) : List Value := xs.map fun n : Nat => .int .i64 (n : Int)
theorem intCells_snoc (xs : List Nat) (n : Nat) : intCells (xs ++ [n]) = intCells xs ++ [.int .i64 (n : Int)] := by simp [intCells]
theorem catsTo_yes {c k : Nat} (h : c.testBit k = true) : catsTo c (k + 1) = catsTo c k ++ [k] := by simp [catsTo, List.range_succ, h]
theorem catsTo_no {c k : Nat} (h : c.testBit k = false) : catsTo c (k + 1) = catsTo c k := by simp [catsTo, List.range_succ, h]
theorem catsTo_len (c k : Nat) : (catsTo c k).length ≤ k := by
  have := List.length_filter_le (fun i => c.testBit i) (List.range k)
  simpa [catsTo] using this
theorem and_bit (c k : Nat) : (c &&& 2 ^ k = 0) ↔ c.testBit k = false := by
  rw [nat_bit, Nat.testBit_eq_decide_div_mod_eq]
  have hp := Nat.pow_pos (n := k) (show 0 < 2 by omega)
  rcases Nat.mod_two_eq_zero_or_one (c / 2 ^ k) with h | h <;> rw [h] <;> simp
theorem infoInt : (Tryd.prog.info? 3).map (fun i => (i.zero, i.size, i.bytes)) = some (some (.int .i64 0), 1, 8) := by kernel_rfl

set_option maxHeartbeats 1000000 in
set_option maxRecDepth 100000 in
theorem cats_any (l : Int) (c : Nat) (w : World) (hc : c < 18446744073709551616) :
    Calls Tryd.prog 41 #[lab l c] w fun e w' => ∃ v, e = .returned v ∧ w'.ownsRow w.heap.size 3 1 v (catsTo c 64).length (intCells (catsTo c 64)) ∧ Below w.heap.size w w' := by
  obtain ⟨i0, hi0, hz0, hz1, hz2⟩ := info_parts infoInt
  go_enter Tryd.func41, Tryd.ntmps41
  go_wp2_with fail
  go_loopg [3, 5] 64 (fun n v i wr => ∃ k : Nat, k ≤ 64 ∧ i = .int .i64 k ∧ 64 - k ≤ n ∧ wr.ownsRow (w.heap.size + 1) 3 1 v (catsTo c k).length (intCells (catsTo c k)) ∧ wr.heap[w.heap.size]? = some (.cells #[.int .i64 l, .int .u64 (c : Int)] 40 (0, 0)) ∧ Below w.heap.size w wr)
  case atStart => exact ⟨0, by omega, rfl, by omega, ⟨by simp [catsTo, intCells], .inl ⟨rfl, by simp [catsTo]⟩⟩, heap_alloc_new w _, (Below.refl _ _).alloc (Nat.le_refl _) _⟩
  case round =>
    obtain ⟨k, hk, rfl, hn, hown, hb0, hbel⟩ := hrel
    have c1 : wr.cell? ⟨w.heap.size, 1, none⟩ = some (.int .u64 (c : Int)) := blk_cell hb0 1
    have hwr : w.heap.size + 1 ≤ wr.heap.size := blk_lt hb0
    have HB0 := Lib.hid hb0
    clear hb0
    by_cases hlt : k < 64
    · have hpb : 2 ^ k < 18446744073709551616 := Nat.pow_lt_pow_right (a := 2) (n := 64) (by omega) hlt
      have hand := u64_and_nat c (2 ^ k) hc hpb
      have HB := Lib.hid (fun w => bit_any k w hlt)
      have hlen := catsTo_len c k
      by_cases hbit : c.testBit k
      · have hne : ((c &&& 2 ^ k : Nat) : Int) ≠ 0 := by
          intro e
          have := (and_bit c k).1 (by omega)
          rw [hbit] at this; cases this
        have HC := Lib.hid (catsTo_yes hbit)
        clear hpb hbit
        generalize c &&& 2 ^ k = y at *
        generalize 2 ^ k = p at *
        generalize catsTo c k = xs at *
        have hne' : ((y : Int) != 0) = true := by simpa using hne
        clear hne
        go_wp2_with fail
        go_quiet ((go_at_call 54; exact Calls.quiet_of_same ((HB.out _).mono fun _ _ h => ⟨h.1, h.2.symm⟩)))
        go_wp2_with (at_builtin; refine wpList_append_own _ rfl (.tmp 14) (.tmp 16) 46 rfl (w.heap.size + 1) 3 i0 _ 1 8 Tryd.underlying46 hi0 hz0 hz1 hz2 rfl (by decide) _ xs.length (intCells xs) rfl ?ho ⟨wr.heap.size, 0, none⟩ 1 1 [.int .i64 (k : Int)] rfl rfl ?c1 ?c2 ?c3 ?c4 ?c5 ?_)
        case ho => exact hown.alloc _
        case c1 => exact cell_one_new _ _ _
        case c2 => intro u hu; simp at hu; rcases hu with rfl; rfl
        case c3 => simp only [maxLen]; omega
        case c4 => omega
        case c5 => show w.heap.size + 1 ≤ (wr.alloc _).heap.size; simp; omega
        intro v' w2 hown1 hg1 _
        have hbel1 : Below w.heap.size w w2 := (below_drewN (hbel.alloc hbel.size _) _).grown hg1 (by show w.heap.size ≤ (wr.alloc _).heap.size; simp; omega) (fun k hk => by have := own_base hown k hk; omega)
        have hb2 : w2.heap[w.heap.size]? = some (.cells #[.int .i64 l, .int .u64 (c : Int)] 40 (0, 0)) := by
          rw [hg1.block w.heap.size (by show w.heap.size < (wr.alloc _).heap.size; simp; omega) (fun e => by have := own_base hown _ e.symm; omega)]
          exact (Below.heap_alloc wr _ _ (by omega)).trans HB0.out
        have HB2 := Lib.hid hb2
        rw [← intCells_snoc] at hown1
        have hl1 : (xs ++ [k]).length = xs.length + 1 := by simp
        rw [← hl1, ← HC.out] at hown1
        clear hl1 hown hb2
        go_wp2_with fail
        go_roundg (64 - (k + 1))
        case measure => omega
        case rel => exact ⟨k + 1, by omega, by go_num, Nat.le_refl _, hown1, HB2.out, hbel1⟩
      · have hbit' : c.testBit k = false := by simpa using hbit
        have hne' : (((c &&& 2 ^ k : Nat) : Int) != 0) = false := by
          have := (and_bit c k).2 hbit'
          rw [this]; rfl
        have HC := Lib.hid (catsTo_no hbit')
        clear hpb hbit hbit'
        generalize c &&& 2 ^ k = y at *
        generalize 2 ^ k = p at *
        go_wp2_with fail
        go_quiet ((go_at_call 54; exact Calls.quiet_of_same ((HB.out _).mono fun _ _ h => ⟨h.1, h.2.symm⟩)))
        go_wp2_with fail
        go_roundg (64 - (k + 1))
        case measure => omega
        case rel => exact ⟨k + 1, by omega, by go_num, Nat.le_refl _, by rw [HC.out]; exact hown, HB0.out, below_drewN hbel _⟩
    · obtain rfl : k = 64 := by omega
      have hown' := own_more hown (Nat.le_succ w.heap.size)
      clear hown
      go_wp2_with fail
      go_ret
      exact ⟨_, rfl, hown', hbel⟩
end Go.Proofs.YtbilhdfoajahkaaDoor.L
