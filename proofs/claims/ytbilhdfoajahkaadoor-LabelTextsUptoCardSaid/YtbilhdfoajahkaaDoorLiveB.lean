/-
  The contract of layer 2's live: it returns true, where the library's table of powers of ten holds what its text lays.
-/
import Derived.Test.YtbilhdfoajahkaaDoorLabelK
namespace Go.Proofs.YtbilhdfoajahkaaDoor.L
open Go.RowKit
open T

theorem of_live_call (bk : Nat) (w : World) (hbk : bk < w.heap.size) (h0 : w.cell? ⟨bk, 0, none⟩ = some (.int .i64 0)) (h1 : w.cell? ⟨bk, 1, none⟩ = some (.int .i64 7)) :
    Calls Tryd.prog 43 #[.int .i64 3, .slice (some ⟨bk, 0, none⟩) 2 2] w fun e w' => e = .returned (.tuple #[.agg #[.int .i64 3, .int .u64 129], .int .i64 0]) ∧ Below w.heap.size w w' := by
  have h := of_any 3 (some ⟨bk, 0, none⟩) 2 [0, 7] w (by simp [maxLen]) (fun _ => ⟨bk, 0, rfl, hbk, fun j hj => by
    match j, hj with
    | 0, _ => exact h0
    | 1, _ => exact h1⟩)
  rw [of_live] at h
  exact h
theorem parse_live_call (w : World) (ht : Tab w) :
    Calls Tryd.prog 45 #[.string ⟨#[51, 58, 48, 44, 55]⟩] w fun e w' => e = .returned (.tuple #[.agg #[.int .i64 3, .int .u64 129], .bool true]) ∧ Below w.heap.size w w' := by
  have h := parse_any ⟨#[51, 58, 48, 44, 55]⟩ w (by decide) ht
  rw [show (⟨#[51, 58, 48, 44, 55]⟩ : ByteArray).data.toList = [51, 58, 48, 44, 55] from rfl, parse_live] at h
  exact h
theorem parse_dead_call (w : World) (ht : Tab w) :
    Calls Tryd.prog 45 #[.string ⟨#[51, 58, 55, 44, 48]⟩] w fun e w' => e = .returned (.tuple #[.agg #[.int .i64 0, .int .u64 0], .bool false]) ∧ Below w.heap.size w w' := by
  have h := parse_any ⟨#[51, 58, 55, 44, 48]⟩ w (by decide) ht
  rw [show (⟨#[51, 58, 55, 44, 48]⟩ : ByteArray).data.toList = [51, 58, 55, 44, 48] from rfl, parse_dead] at h
  exact h
theorem print_live_call (w : World) (ht : Tab w) :
    Calls Tryd.prog 47 #[.agg #[.int .i64 3, .int .u64 129]] w fun e w' => e = .returned (.string ⟨#[51, 58, 48, 44, 55]⟩) ∧ Below w.heap.size w w' := by
  have h := print_any 3 129 w (by omega) (by omega) (by omega) ht
  rw [print_live] at h
  exact h
theorem below_live_call (w : World) :
    Calls Tryd.prog 34 #[.agg #[.int .i64 0, .int .u64 0], .agg #[.int .i64 15, .int .u64 18446744073709551615]] w fun e w' => e = .returned (.bool true) ∧ Below w.heap.size w w' := by
  have h := below_any 0 15 0 18446744073709551615 w (by omega) (by omega)
  rw [show belowB 0 0 15 18446744073709551615 = true by decide] at h
  exact h
theorem top_live_call (w : World) :
    Calls Tryd.prog 40 #[] w fun e w' => e = .returned (.agg #[.int .i64 15, .int .u64 18446744073709551615]) ∧ Below w.heap.size w w' := top_any w

set_option maxHeartbeats 1000000 in
set_option maxRecDepth 100000 in
theorem live2 (w : World) (ht : Tab w) :
    Calls Tryd.prog 31 #[] w fun e w' => e = .returned (.bool true) ∧ Below w.heap.size w w' := by
  have HT := Lib.hid ht
  clear ht
  go_enter Tryd.func31, Tryd.ntmps31
  go_wp2_with fail
  with_reducible refine (of_live_call w.heap.size _ (by simp) (by simp) (by simp)).mono ?_
  rintro e w1 ⟨rfl, hb1⟩
  have hbe1 : Below w.heap.size w w1 := ((Below.refl _ _).alloc (Nat.le_refl _) _).trans (hb1.mono (by simp))
  have HT1 := Lib.hid (HT.out.later hbe1)
  clear hb1
  go_wp2_with fail
  with_reducible refine (parse_live_call _ (HT1.out.alloc _)).mono ?_
  rintro e w2 ⟨rfl, hb2⟩
  have hbe2 : Below w.heap.size w w2 := (hbe1.alloc hbe1.size _).trans (hb2.mono (by have := hbe1.size; simp; omega))
  have HT2 := Lib.hid (HT.out.later hbe2)
  have HA2 := Lib.hid ((hb2.block w1.heap.size (by simp)).trans (heap_alloc_new w1 _))
  have hl2 := blk_lt HA2.out
  clear hb2 HT1
  go_wp2_with fail
  with_reducible refine (parse_dead_call _ (HT2.out.alloc _)).mono ?_
  rintro e w3 ⟨rfl, hb3⟩
  have hbe3 : Below w.heap.size w w3 := (hbe2.alloc hbe2.size _).trans (hb3.mono (by have := hbe2.size; simp; omega))
  have HT3 := Lib.hid (HT.out.later hbe3)
  have HB3 := Lib.hid ((hb3.block w2.heap.size (by simp)).trans (heap_alloc_new w2 _))
  have HA3 := Lib.hid ((hb3.block w1.heap.size (by simp; omega)).trans ((Below.heap_alloc w2 _ _ hl2).trans HA2.out))
  have hla := blk_lt HA3.out
  have hlb := blk_lt HB3.out
  have a0 := (res_cells HA3.out).1
  have a1 := (res_cells HA3.out).2
  clear hb3 HT2 HA2
  go_wp2_with fail
  with_reducible refine (print_live_call _ (HT3.out.alloc _)).mono ?_
  rintro e w4 ⟨rfl, hb4⟩
  have hbe4 : Below w.heap.size w w4 := (hbe3.alloc hbe3.size _).trans (hb4.mono (by have := hbe3.size; simp; omega))
  have HB4 := Lib.hid ((hb4.block w2.heap.size (by simp; omega)).trans ((Below.heap_alloc w3 _ _ hlb).trans HB3.out))
  have HA4 := Lib.hid ((hb4.block w1.heap.size (by simp; omega)).trans ((Below.heap_alloc w3 _ _ hla).trans HA3.out))
  clear hb4 a0 a1
  have a0 := (res_cells HA4.out).1
  have a1 := (res_cells HA4.out).2
  have b0 := (res_cells HB4.out).1
  have b1 := (res_cells HB4.out).2
  go_wp2_with fail
  clear a0 a1 b0 b1
  with_reducible refine (top_live_call _).mono ?_
  rintro e w5 ⟨rfl, hb5⟩
  have hbe5 : Below w.heap.size w w5 := hbe4.trans (hb5.mono hbe4.size)
  go_wp2_with fail
  with_reducible refine (below_live_call _).mono ?_
  rintro e w6 ⟨rfl, hb6⟩
  have hbe6 : Below w.heap.size w w6 := hbe5.trans (hb6.mono hbe5.size)
  go_wp2_with fail
  go_ret
  exact ⟨rfl, hbe6⟩
end Go.Proofs.YtbilhdfoajahkaaDoor.L
