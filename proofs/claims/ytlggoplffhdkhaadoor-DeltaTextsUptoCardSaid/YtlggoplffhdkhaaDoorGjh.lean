/-
  The contract of label's Parse, from the call of Of on: for every text of at most 2^22 bytes.
  The contract of label's Parse, whole, for every text of at most 2^22 bytes; and of layer 2's live: it returns true.
  Plain facts: the text of a right label is read as that label; of a label that may not be, nothing is read.
  The contract of delta's lines: a part's lines.
-/
import Derived.Test.YtlggoplffhdkhaaDoorGjg
import Derived.Deep.AppendLies
import Derived.Laws.OwnMore
import Derived.Deep.RegionHeldLaw
import Derived.Deep.DrawnRows
namespace Go.Proofs.YtlggoplffhdkhaaDoor.L
open Go.RowKit
open T

theorem of_own {B : Nat} (l : Int) (A : Option Addr) (cap : Nat) (xs : List Nat) (w : World) (hlen : xs.length ≤ maxLen) (hA : 0 < xs.length → ∃ g, A = some ⟨g, 0, none⟩ ∧ B ≤ g ∧ g < w.heap.size ∧ ∀ j u, (intCells xs)[j]? = some u → w.cell? ⟨g, j, none⟩ = some u) :
    Of l A xs.length cap (ofVal l (ofAll l (xs.map fun x : Nat => (x : Int)))) w := by
  have h := of_any l A cap (xs.map fun x : Nat => (x : Int)) w (by simpa using hlen) (fun hp => by
    obtain ⟨g, rfl, _, hg, hc⟩ := hA (by simpa using hp)
    refine ⟨g, 0, rfl, hg, fun j hj => ?_⟩
    rw [Nat.zero_add]
    refine hc j _ ?_
    have hj' : j < xs.length := by simpa using hj
    simp [intCells, List.getElem?_eq_getElem hj'])
  rw [List.length_map] at h
  exact h

set_option maxHeartbeats 1000000 in
set_option maxRecDepth 100000 in
theorem parse_some_err (s h r : ByteArray) (n : Int) (xs : List Nat) (w : World) (hr : r.size ≤ 4194304) (HX : Hid (xs.length ≤ maxLen)) (HC : Hid (Ct s 58 (.tuple #[.string h, .string r, .bool true]))) (HN : Hid (Nm h n true)) (HM : Hid (nums r.data.toList = some xs)) (HV : Hid (ofAll n (xs.map fun x : Nat => (x : Int)) = none)) :
    Calls Tryd.prog 71 #[.string s] w fun e w' => e = .returned (.tuple #[lab 0 0, .bool false]) ∧ Below w.heap.size w w' := by
  go_enter Tryd.func71, Tryd.ntmps71
  go_wp2_with fail
  with_reducible refine (HC.out.call _).mono ?_
  rintro e w1 ⟨rfl, hb1⟩
  have HK1 := Lib.hid ((hb1.block w.heap.size (by simp)).trans (heap_alloc_new w _))
  have hbe1 : Below w.heap.size w w1 := ((Below.refl _ _).alloc (Nat.le_refl _) _).trans (hb1.mono (by simp))
  clear hb1
  go_wp2_with fail
  with_reducible refine (HN.out.call _).mono ?_
  rintro e w2 ⟨rfl, rfl⟩
  go_wp2_with fail
  with_reducible refine (numbers_any r _ hr).mono ?_
  rintro e w2 (⟨ys, v, hx, rfl, hown, hb2⟩ | ⟨hx, _⟩)
  rotate_left
  · rw [HM.out] at hx; cases hx
  rw [HM.out] at hx
  obtain rfl : xs = ys := by injection hx
  have hbe2 : Below w.heap.size w w2 := hbe1.trans (hb2.mono hbe1.size)
  have HK2 := Lib.hid ((hb2.block w.heap.size (blk_lt HK1.out)).trans HK1.out)
  obtain ⟨A, cap, hv, hcap, hA⟩ := own_form hown
  subst hv
  have HO := Lib.hid (of_own n A cap xs w2 HX.out hA)
  rw [HV.out] at HO
  clear hb2 HK1 hbe1 hA hown hx
  go_wp2_with fail
  with_reducible refine (HO.out.call).mono ?_
  rintro e w3 ⟨rfl, hb3⟩
  simp only [ofVal]
  have hbel : Below w.heap.size w w3 := hbe2.trans (hb3.mono hbe2.size)
  have HK0 := Lib.hid ((hb3.block w.heap.size (blk_lt HK2.out)).trans HK2.out)
  have hlt3 := blk_lt HK0.out
  have d0 := (res_cells HK0.out).1
  have d1 := (res_cells HK0.out).2
  have e0 := blk_free HK0.out 0
  have e1 := blk_free HK0.out 1
  clear hb3
  go_wp2_with fail
  have hfin := blk_set (blk_set HK0.out 0 (.int .i64 0)) 1 (.int .u64 0)
  have hbf := (hbel.setCell (p := ⟨w.heap.size, 0, none⟩) (Nat.le_refl _) (.int .i64 0)).setCell (p := ⟨w.heap.size, 1, none⟩) (Nat.le_refl _) (.int .u64 0)
  clear d0 d1 e0 e1
  generalize (w3.setCell ⟨w.heap.size, 0, none⟩ (.int .i64 0)).setCell ⟨w.heap.size, 1, none⟩ (.int .u64 0) = wg at *
  have hz : w.heap.size < wg.heap.size := blk_lt hfin
  have hfo := (Below.heap_alloc wg (.cells #[.int .i64 0, .int .u64 0] 37) _ hz).trans hfin
  have hbo := hbf.alloc (Nat.le_of_lt hz) (.cells #[.int .i64 0, .int .u64 0] 37)
  clear hfin hbf
  generalize wg.alloc (.cells #[.int .i64 0, .int .u64 0] 37) = wf at *
  have q0 : wf.cell? ⟨w.heap.size, 0, none⟩ = some (.int .i64 0) := blk_cell hfo 0
  have q1 : wf.cell? ⟨w.heap.size, 1, none⟩ = some (.int .u64 0) := blk_cell hfo 1
  exact bodyPost_ret (v := .tuple #[.agg #[.int .i64 0, .int .u64 0], .bool false]) (by simp [results, Tryd.results71, go_sem, q0, q1]) rfl ⟨rfl, hbo⟩

set_option maxHeartbeats 1000000 in
set_option maxRecDepth 100000 in
theorem parse_some_not (s h r : ByteArray) (n : Int) (xs : List Nat) (w : World) (hr : r.size ≤ 4194304) (HX : Hid (xs.length ≤ maxLen)) (HC : Hid (Ct s 58 (.tuple #[.string h, .string r, .bool true]))) (HN : Hid (Nm h n true)) (HM : Hid (nums r.data.toList = some xs)) (c : Nat) (d : ByteArray) (HV : Hid (ofAll n (xs.map fun x : Nat => (x : Int)) = some c)) (HP : Hid (Pr n c d)) (HT : Hid (Tab w)) (hne : (d.toList == s.toList) = false) :
    Calls Tryd.prog 71 #[.string s] w fun e w' => e = .returned (.tuple #[lab 0 0, .bool false]) ∧ Below w.heap.size w w' := by
  go_enter Tryd.func71, Tryd.ntmps71
  go_wp2_with fail
  with_reducible refine (HC.out.call _).mono ?_
  rintro e w1 ⟨rfl, hb1⟩
  have HK1 := Lib.hid ((hb1.block w.heap.size (by simp)).trans (heap_alloc_new w _))
  have hbe1 : Below w.heap.size w w1 := ((Below.refl _ _).alloc (Nat.le_refl _) _).trans (hb1.mono (by simp))
  clear hb1
  go_wp2_with fail
  with_reducible refine (HN.out.call _).mono ?_
  rintro e w2 ⟨rfl, rfl⟩
  go_wp2_with fail
  with_reducible refine (numbers_any r _ hr).mono ?_
  rintro e w2 (⟨ys, v, hx, rfl, hown, hb2⟩ | ⟨hx, _⟩)
  rotate_left
  · rw [HM.out] at hx; cases hx
  rw [HM.out] at hx
  obtain rfl : xs = ys := by injection hx
  have hbe2 : Below w.heap.size w w2 := hbe1.trans (hb2.mono hbe1.size)
  have HK2 := Lib.hid ((hb2.block w.heap.size (blk_lt HK1.out)).trans HK1.out)
  obtain ⟨A, cap, hv, hcap, hA⟩ := own_form hown
  subst hv
  have HO := Lib.hid (of_own n A cap xs w2 HX.out hA)
  rw [HV.out] at HO
  clear hb2 HK1 hbe1 hA hown hx
  go_wp2_with fail
  with_reducible refine (HO.out.call).mono ?_
  rintro e w3 ⟨rfl, hb3⟩
  simp only [ofVal]
  have hbel : Below w.heap.size w w3 := hbe2.trans (hb3.mono hbe2.size)
  have HK0 := Lib.hid ((hb3.block w.heap.size (blk_lt HK2.out)).trans HK2.out)
  have hlt3 := blk_lt HK0.out
  have HTb := Lib.hid (HT.out.later hbel)
  clear hb3
  go_wp2_with fail
  with_reducible refine (HP.out.call _ (HTb.out.alloc _)).mono ?_
  rintro e w4 ⟨rfl, hb4⟩
  have hbel4 : Below w.heap.size w w4 := (hbel.alloc hbel.size _).trans (hb4.mono (by have := hbel.size; simp; omega))
  have HK4 := Lib.hid ((hb4.block w.heap.size (by simp; omega)).trans ((Below.heap_alloc w3 _ _ hlt3).trans HK0.out))
  have HA4 := Lib.hid ((hb4.block w3.heap.size (by simp)).trans (heap_alloc_new w3 _))
  clear HK0 hbel hb4
  have HK0 := HK4
  have hbel := hbel4
  have a0 := (res_cells HA4.out).1
  have a1 := (res_cells HA4.out).2
  have d0 := (res_cells HK0.out).1
  have d1 := (res_cells HK0.out).2
  have e0 := blk_free HK0.out 0
  have e1 := blk_free HK0.out 1
  go_wp2_with fail
  clear a0 a1
  have hfin := blk_set (blk_set HK0.out 0 (.int .i64 0)) 1 (.int .u64 0)
  have hbf := (hbel.setCell (p := ⟨w.heap.size, 0, none⟩) (Nat.le_refl _) (.int .i64 0)).setCell (p := ⟨w.heap.size, 1, none⟩) (Nat.le_refl _) (.int .u64 0)
  clear d0 d1 e0 e1
  generalize (w4.setCell ⟨w.heap.size, 0, none⟩ (.int .i64 0)).setCell ⟨w.heap.size, 1, none⟩ (.int .u64 0) = wf at *
  have q0 : wf.cell? ⟨w.heap.size, 0, none⟩ = some (.int .i64 0) := blk_cell hfin 0
  have q1 : wf.cell? ⟨w.heap.size, 1, none⟩ = some (.int .u64 0) := blk_cell hfin 1
  exact bodyPost_ret (v := .tuple #[.agg #[.int .i64 0, .int .u64 0], .bool false]) (by simp [results, Tryd.results71, go_sem, q0, q1]) rfl ⟨rfl, hbf⟩

set_option maxHeartbeats 1000000 in
set_option maxRecDepth 100000 in
theorem parse_some_yes (s h r : ByteArray) (n : Int) (xs : List Nat) (w : World) (hr : r.size ≤ 4194304) (HX : Hid (xs.length ≤ maxLen)) (HC : Hid (Ct s 58 (.tuple #[.string h, .string r, .bool true]))) (HN : Hid (Nm h n true)) (HM : Hid (nums r.data.toList = some xs)) (c : Nat) (HV : Hid (ofAll n (xs.map fun x : Nat => (x : Int)) = some c)) (HP : Hid (Pr n c s)) (HT : Hid (Tab w)) :
    Calls Tryd.prog 71 #[.string s] w fun e w' => e = .returned (.tuple #[lab n c, .bool true]) ∧ Below w.heap.size w w' := by
  go_enter Tryd.func71, Tryd.ntmps71
  go_wp2_with fail
  with_reducible refine (HC.out.call _).mono ?_
  rintro e w1 ⟨rfl, hb1⟩
  have HK1 := Lib.hid ((hb1.block w.heap.size (by simp)).trans (heap_alloc_new w _))
  have hbe1 : Below w.heap.size w w1 := ((Below.refl _ _).alloc (Nat.le_refl _) _).trans (hb1.mono (by simp))
  clear hb1
  go_wp2_with fail
  with_reducible refine (HN.out.call _).mono ?_
  rintro e w2 ⟨rfl, rfl⟩
  go_wp2_with fail
  with_reducible refine (numbers_any r _ hr).mono ?_
  rintro e w2 (⟨ys, v, hx, rfl, hown, hb2⟩ | ⟨hx, _⟩)
  rotate_left
  · rw [HM.out] at hx; cases hx
  rw [HM.out] at hx
  obtain rfl : xs = ys := by injection hx
  have hbe2 : Below w.heap.size w w2 := hbe1.trans (hb2.mono hbe1.size)
  have HK2 := Lib.hid ((hb2.block w.heap.size (blk_lt HK1.out)).trans HK1.out)
  obtain ⟨A, cap, hv, hcap, hA⟩ := own_form hown
  subst hv
  have HO := Lib.hid (of_own n A cap xs w2 HX.out hA)
  rw [HV.out] at HO
  clear hb2 HK1 hbe1 hA hown hx
  go_wp2_with fail
  with_reducible refine (HO.out.call).mono ?_
  rintro e w3 ⟨rfl, hb3⟩
  simp only [ofVal]
  have hbel : Below w.heap.size w w3 := hbe2.trans (hb3.mono hbe2.size)
  have HK0 := Lib.hid ((hb3.block w.heap.size (blk_lt HK2.out)).trans HK2.out)
  have hlt3 := blk_lt HK0.out
  have HTb := Lib.hid (HT.out.later hbel)
  clear hb3
  go_wp2_with fail
  with_reducible refine (HP.out.call _ (HTb.out.alloc _)).mono ?_
  rintro e w4 ⟨rfl, hb4⟩
  have hbel4 : Below w.heap.size w w4 := (hbel.alloc hbel.size _).trans (hb4.mono (by have := hbel.size; simp; omega))
  have HK4 := Lib.hid ((hb4.block w.heap.size (by simp; omega)).trans ((Below.heap_alloc w3 _ _ hlt3).trans HK0.out))
  have HA4 := Lib.hid ((hb4.block w3.heap.size (by simp)).trans (heap_alloc_new w3 _))
  clear HK0 hbel hb4
  have HK0 := HK4
  have hbel := hbel4
  have a0 := (res_cells HA4.out).1
  have a1 := (res_cells HA4.out).2
  have d0 := (res_cells HK0.out).1
  have d1 := (res_cells HK0.out).2
  have e0 := blk_free HK0.out 0
  have e1 := blk_free HK0.out 1
  go_wp2_with fail
  clear a0 a1
  have hfin := blk_set (blk_set HK0.out 0 (.int .i64 n)) 1 (.int .u64 (c : Int))
  have hbf := (hbel.setCell (p := ⟨w.heap.size, 0, none⟩) (Nat.le_refl _) (.int .i64 n)).setCell (p := ⟨w.heap.size, 1, none⟩) (Nat.le_refl _) (.int .u64 (c : Int))
  clear d0 d1 e0 e1
  generalize (w4.setCell ⟨w.heap.size, 0, none⟩ (.int .i64 n)).setCell ⟨w.heap.size, 1, none⟩ (.int .u64 (c : Int)) = wf at *
  have q0 : wf.cell? ⟨w.heap.size, 0, none⟩ = some (.int .i64 n) := blk_cell hfin 0
  have q1 : wf.cell? ⟨w.heap.size, 1, none⟩ = some (.int .u64 (c : Int)) := blk_cell hfin 1
  exact bodyPost_ret (v := .tuple #[.agg #[.int .i64 n, .int .u64 (c : Int)], .bool true]) (by simp [results, Tryd.results71, go_sem, q0, q1]) rfl ⟨rfl, hbf⟩

set_option maxHeartbeats 1000000 in
set_option maxRecDepth 100000 in
theorem parse_none_err (s h r : ByteArray) (n : Int) (w : World) (HC : Hid (Ct s 58 (.tuple #[.string h, .string r, .bool false]))) (HN : Hid (Nm h n true)) (HV : Hid (ofAll n [] = none)) :
    Calls Tryd.prog 71 #[.string s] w fun e w' => e = .returned (.tuple #[lab 0 0, .bool false]) ∧ Below w.heap.size w w' := by
  go_enter Tryd.func71, Tryd.ntmps71
  go_wp2_with fail
  with_reducible refine (HC.out.call _).mono ?_
  rintro e w1 ⟨rfl, hb1⟩
  have HK1 := Lib.hid ((hb1.block w.heap.size (by simp)).trans (heap_alloc_new w _))
  have hbe1 : Below w.heap.size w w1 := ((Below.refl _ _).alloc (Nat.le_refl _) _).trans (hb1.mono (by simp))
  clear hb1
  go_wp2_with fail
  with_reducible refine (HN.out.call _).mono ?_
  rintro e w2 ⟨rfl, rfl⟩
  go_wp2_with fail
  have HK2 := HK1
  have hbe2 := hbe1
  have HO : Hid (Of n none 0 0 (ofVal n (ofAll n [])) w1) := Lib.hid (of_any n none 0 [] w1 (by simp [maxLen]) (fun h => absurd h (by simp)))
  rw [HV.out] at HO
  clear HK1 hbe1
  with_reducible refine (HO.out.call).mono ?_
  rintro e w3 ⟨rfl, hb3⟩
  simp only [ofVal]
  have hbel : Below w.heap.size w w3 := hbe2.trans (hb3.mono hbe2.size)
  have HK0 := Lib.hid ((hb3.block w.heap.size (blk_lt HK2.out)).trans HK2.out)
  have hlt3 := blk_lt HK0.out
  have d0 := (res_cells HK0.out).1
  have d1 := (res_cells HK0.out).2
  have e0 := blk_free HK0.out 0
  have e1 := blk_free HK0.out 1
  clear hb3
  go_wp2_with fail
  have hfin := blk_set (blk_set HK0.out 0 (.int .i64 0)) 1 (.int .u64 0)
  have hbf := (hbel.setCell (p := ⟨w.heap.size, 0, none⟩) (Nat.le_refl _) (.int .i64 0)).setCell (p := ⟨w.heap.size, 1, none⟩) (Nat.le_refl _) (.int .u64 0)
  clear d0 d1 e0 e1
  generalize (w3.setCell ⟨w.heap.size, 0, none⟩ (.int .i64 0)).setCell ⟨w.heap.size, 1, none⟩ (.int .u64 0) = wg at *
  have hz : w.heap.size < wg.heap.size := blk_lt hfin
  have hfo := (Below.heap_alloc wg (.cells #[.int .i64 0, .int .u64 0] 37) _ hz).trans hfin
  have hbo := hbf.alloc (Nat.le_of_lt hz) (.cells #[.int .i64 0, .int .u64 0] 37)
  clear hfin hbf
  generalize wg.alloc (.cells #[.int .i64 0, .int .u64 0] 37) = wf at *
  have q0 : wf.cell? ⟨w.heap.size, 0, none⟩ = some (.int .i64 0) := blk_cell hfo 0
  have q1 : wf.cell? ⟨w.heap.size, 1, none⟩ = some (.int .u64 0) := blk_cell hfo 1
  exact bodyPost_ret (v := .tuple #[.agg #[.int .i64 0, .int .u64 0], .bool false]) (by simp [results, Tryd.results71, go_sem, q0, q1]) rfl ⟨rfl, hbo⟩

set_option maxHeartbeats 1000000 in
set_option maxRecDepth 100000 in
theorem parse_none_not (s h r : ByteArray) (n : Int) (w : World) (HC : Hid (Ct s 58 (.tuple #[.string h, .string r, .bool false]))) (HN : Hid (Nm h n true)) (c : Nat) (d : ByteArray) (HV : Hid (ofAll n [] = some c)) (HP : Hid (Pr n c d)) (HT : Hid (Tab w)) (hne : (d.toList == s.toList) = false) :
    Calls Tryd.prog 71 #[.string s] w fun e w' => e = .returned (.tuple #[lab 0 0, .bool false]) ∧ Below w.heap.size w w' := by
  go_enter Tryd.func71, Tryd.ntmps71
  go_wp2_with fail
  with_reducible refine (HC.out.call _).mono ?_
  rintro e w1 ⟨rfl, hb1⟩
  have HK1 := Lib.hid ((hb1.block w.heap.size (by simp)).trans (heap_alloc_new w _))
  have hbe1 : Below w.heap.size w w1 := ((Below.refl _ _).alloc (Nat.le_refl _) _).trans (hb1.mono (by simp))
  clear hb1
  go_wp2_with fail
  with_reducible refine (HN.out.call _).mono ?_
  rintro e w2 ⟨rfl, rfl⟩
  go_wp2_with fail
  have HK2 := HK1
  have hbe2 := hbe1
  have HO : Hid (Of n none 0 0 (ofVal n (ofAll n [])) w1) := Lib.hid (of_any n none 0 [] w1 (by simp [maxLen]) (fun h => absurd h (by simp)))
  rw [HV.out] at HO
  clear HK1 hbe1
  with_reducible refine (HO.out.call).mono ?_
  rintro e w3 ⟨rfl, hb3⟩
  simp only [ofVal]
  have hbel : Below w.heap.size w w3 := hbe2.trans (hb3.mono hbe2.size)
  have HK0 := Lib.hid ((hb3.block w.heap.size (blk_lt HK2.out)).trans HK2.out)
  have hlt3 := blk_lt HK0.out
  have HTb := Lib.hid (HT.out.later hbel)
  clear hb3
  go_wp2_with fail
  with_reducible refine (HP.out.call _ (HTb.out.alloc _)).mono ?_
  rintro e w4 ⟨rfl, hb4⟩
  have hbel4 : Below w.heap.size w w4 := (hbel.alloc hbel.size _).trans (hb4.mono (by have := hbel.size; simp; omega))
  have HK4 := Lib.hid ((hb4.block w.heap.size (by simp; omega)).trans ((Below.heap_alloc w3 _ _ hlt3).trans HK0.out))
  have HA4 := Lib.hid ((hb4.block w3.heap.size (by simp)).trans (heap_alloc_new w3 _))
  clear HK0 hbel hb4
  have HK0 := HK4
  have hbel := hbel4
  have a0 := (res_cells HA4.out).1
  have a1 := (res_cells HA4.out).2
  have d0 := (res_cells HK0.out).1
  have d1 := (res_cells HK0.out).2
  have e0 := blk_free HK0.out 0
  have e1 := blk_free HK0.out 1
  go_wp2_with fail
  clear a0 a1
  have hfin := blk_set (blk_set HK0.out 0 (.int .i64 0)) 1 (.int .u64 0)
  have hbf := (hbel.setCell (p := ⟨w.heap.size, 0, none⟩) (Nat.le_refl _) (.int .i64 0)).setCell (p := ⟨w.heap.size, 1, none⟩) (Nat.le_refl _) (.int .u64 0)
  clear d0 d1 e0 e1
  generalize (w4.setCell ⟨w.heap.size, 0, none⟩ (.int .i64 0)).setCell ⟨w.heap.size, 1, none⟩ (.int .u64 0) = wf at *
  have q0 : wf.cell? ⟨w.heap.size, 0, none⟩ = some (.int .i64 0) := blk_cell hfin 0
  have q1 : wf.cell? ⟨w.heap.size, 1, none⟩ = some (.int .u64 0) := blk_cell hfin 1
  exact bodyPost_ret (v := .tuple #[.agg #[.int .i64 0, .int .u64 0], .bool false]) (by simp [results, Tryd.results71, go_sem, q0, q1]) rfl ⟨rfl, hbf⟩

set_option maxHeartbeats 1000000 in
set_option maxRecDepth 100000 in
theorem parse_none_yes (s h r : ByteArray) (n : Int) (w : World) (HC : Hid (Ct s 58 (.tuple #[.string h, .string r, .bool false]))) (HN : Hid (Nm h n true)) (c : Nat) (HV : Hid (ofAll n [] = some c)) (HP : Hid (Pr n c s)) (HT : Hid (Tab w)) :
    Calls Tryd.prog 71 #[.string s] w fun e w' => e = .returned (.tuple #[lab n c, .bool true]) ∧ Below w.heap.size w w' := by
  go_enter Tryd.func71, Tryd.ntmps71
  go_wp2_with fail
  with_reducible refine (HC.out.call _).mono ?_
  rintro e w1 ⟨rfl, hb1⟩
  have HK1 := Lib.hid ((hb1.block w.heap.size (by simp)).trans (heap_alloc_new w _))
  have hbe1 : Below w.heap.size w w1 := ((Below.refl _ _).alloc (Nat.le_refl _) _).trans (hb1.mono (by simp))
  clear hb1
  go_wp2_with fail
  with_reducible refine (HN.out.call _).mono ?_
  rintro e w2 ⟨rfl, rfl⟩
  go_wp2_with fail
  have HK2 := HK1
  have hbe2 := hbe1
  have HO : Hid (Of n none 0 0 (ofVal n (ofAll n [])) w1) := Lib.hid (of_any n none 0 [] w1 (by simp [maxLen]) (fun h => absurd h (by simp)))
  rw [HV.out] at HO
  clear HK1 hbe1
  with_reducible refine (HO.out.call).mono ?_
  rintro e w3 ⟨rfl, hb3⟩
  simp only [ofVal]
  have hbel : Below w.heap.size w w3 := hbe2.trans (hb3.mono hbe2.size)
  have HK0 := Lib.hid ((hb3.block w.heap.size (blk_lt HK2.out)).trans HK2.out)
  have hlt3 := blk_lt HK0.out
  have HTb := Lib.hid (HT.out.later hbel)
  clear hb3
  go_wp2_with fail
  with_reducible refine (HP.out.call _ (HTb.out.alloc _)).mono ?_
  rintro e w4 ⟨rfl, hb4⟩
  have hbel4 : Below w.heap.size w w4 := (hbel.alloc hbel.size _).trans (hb4.mono (by have := hbel.size; simp; omega))
  have HK4 := Lib.hid ((hb4.block w.heap.size (by simp; omega)).trans ((Below.heap_alloc w3 _ _ hlt3).trans HK0.out))
  have HA4 := Lib.hid ((hb4.block w3.heap.size (by simp)).trans (heap_alloc_new w3 _))
  clear HK0 hbel hb4
  have HK0 := HK4
  have hbel := hbel4
  have a0 := (res_cells HA4.out).1
  have a1 := (res_cells HA4.out).2
  have d0 := (res_cells HK0.out).1
  have d1 := (res_cells HK0.out).2
  have e0 := blk_free HK0.out 0
  have e1 := blk_free HK0.out 1
  go_wp2_with fail
  clear a0 a1
  have hfin := blk_set (blk_set HK0.out 0 (.int .i64 n)) 1 (.int .u64 (c : Int))
  have hbf := (hbel.setCell (p := ⟨w.heap.size, 0, none⟩) (Nat.le_refl _) (.int .i64 n)).setCell (p := ⟨w.heap.size, 1, none⟩) (Nat.le_refl _) (.int .u64 (c : Int))
  clear d0 d1 e0 e1
  generalize (w4.setCell ⟨w.heap.size, 0, none⟩ (.int .i64 n)).setCell ⟨w.heap.size, 1, none⟩ (.int .u64 (c : Int)) = wf at *
  have q0 : wf.cell? ⟨w.heap.size, 0, none⟩ = some (.int .i64 n) := blk_cell hfin 0
  have q1 : wf.cell? ⟨w.heap.size, 1, none⟩ = some (.int .u64 (c : Int)) := blk_cell hfin 1
  exact bodyPost_ret (v := .tuple #[.agg #[.int .i64 n, .int .u64 (c : Int)], .bool true]) (by simp [results, Tryd.results71, go_sem, q0, q1]) rfl ⟨rfl, hbf⟩

end Go.Proofs.YtlggoplffhdkhaaDoor.L

namespace Go.Proofs.YtlggoplffhdkhaaDoor.L
open Go.RowKit
open T

theorem ofGo_small : ∀ (xs : List Int) (c d : Nat), c < 18446744073709551616 → ofGo xs c = some d → d < 18446744073709551616
  | [], c, d, hc, h => by simp [ofGo] at h; omega
  | x :: r, c, d, hc, h => by
    rw [ofGo] at h
    split at h
    · cases h
    · next hx => exact ofGo_small r _ d (or_small hc (Nat.pow_lt_pow_right (a := 2) (n := 64) (by omega) (by omega))) h
theorem ofAll_small {l : Int} {xs : List Int} {c : Nat} (h : ofAll l xs = some c) : c < 18446744073709551616 := by
  unfold ofAll at h
  split at h
  · exact ofGo_small xs 0 c (by omega) h
  · cases h
theorem parts_len (c : UInt8) : ∀ l cur : List UInt8, (partsGo c cur l).length ≤ l.length + 1
  | [], cur => by simp [partsGo]
  | x :: r, cur => by
    rw [partsGo]
    split
    · have := parts_len c r []; simp; omega
    · have := parts_len c r (cur ++ [x]); simp; omega
theorem numsOf_len : ∀ (ps : List (List UInt8)) (xs : List Nat), numsOf ps = some xs → xs.length = ps.length
  | [], xs, h => by simp [numsOf] at h; simp [← h]
  | p :: r, xs, h => by
    rw [numsOf, Option.bind_eq_some_iff] at h
    obtain ⟨n, _, h⟩ := h
    rw [Option.map_eq_some_iff] at h
    obtain ⟨ys, hy, rfl⟩ := h
    simp [numsOf_len r ys hy]
theorem nums_len {l : List UInt8} {xs : List Nat} (h : nums l = some xs) : xs.length ≤ l.length + 1 := by
  rw [numsOf_len _ _ h]; exact parts_len 44 l []

theorem pr_is (n : Nat) (c : Nat) (hn : n ≤ 2147483647) (hc : c < 18446744073709551616) : Pr n c ⟨(print n c).toArray⟩ := fun w ht => print_any n c w (by omega) (by omega) hc ht
theorem eta (s : ByteArray) : (⟨s.data.toList.toArray⟩ : ByteArray) = s := by cases s; simp
theorem str_ne {l : List UInt8} {s : ByteArray} (h : ¬ l = s.data.toList) : ((⟨l.toArray⟩ : ByteArray).toList == s.toList) = false := by
  rw [Lib.toList_data, Lib.toList_data]; exact beq_eq_false_iff_ne.2 h

theorem parse_any (s : ByteArray) (w : World) (hs : s.size ≤ 4194304) (ht : Tab w) :
    Calls Tryd.prog 71 #[.string s] w fun e w' => e = .returned (parseVal (parse s.data.toList)) ∧ Below w.heap.size w w' := by
  have hmx : s.size ≤ maxLen := by simp only [maxLen]; omega
  unfold parse
  cases hsp : split 58 s.data.toList with
  | none =>
    have HC := Lib.hid (ct_none hmx hsp)
    cases hnum : P.number s.data.toList with
    | none => exact parse_head s s _ false w HC (Lib.hid (nm_none hmx hnum))
    | some n =>
      have hn := (P.dec_number _ _ hnum).2
      have HN := Lib.hid (nm_some hmx hnum)
      show Calls _ _ _ _ fun e w' => e = .returned (parseVal (parseRest s.data.toList n (some []))) ∧ _
      unfold parseRest
      cases hof : ofAll n [] with
      | none =>
        have := parse_none_err s s _ n w HC HN (Lib.hid hof)
        simpa [hof, parseVal] using this
      | some c =>
        have hP := pr_is n c hn (ofAll_small hof)
        by_cases hp : print n c = s.data.toList
        · rw [hp, eta] at hP
          have := parse_none_yes s s _ n w HC HN c (Lib.hid hof) (Lib.hid hP) (Lib.hid ht)
          simpa [hof, hp, parseVal] using this
        · have := parse_none_not s s _ n w HC HN c _ (Lib.hid hof) (Lib.hid hP) (Lib.hid ht) (str_ne hp)
          simpa [hof, hp, parseVal] using this
  | some q =>
    obtain ⟨a, b⟩ := q
    have HC := Lib.hid (ct_some hmx hsp)
    have hsl := split_len hsp
    rw [← Lib.size_eq] at hsl
    have hma : (⟨a.toArray⟩ : ByteArray).size ≤ maxLen := by rw [size_list]; simp only [maxLen]; omega
    have hmb : (⟨b.toArray⟩ : ByteArray).size ≤ 4194304 := by rw [size_list]; omega
    cases hnum : P.number a with
    | none =>
      have := parse_head s ⟨a.toArray⟩ _ true w HC (Lib.hid (nm_none hma hnum))
      simpa [hnum, parseVal] using this
    | some n =>
      have hn := (P.dec_number _ _ hnum).2
      have HN := Lib.hid (nm_some (s := ⟨a.toArray⟩) hma hnum)
      cases hns : nums b with
      | none =>
        have := parse_nums s ⟨a.toArray⟩ ⟨b.toArray⟩ n w hmb HC HN (Lib.hid hns)
        simpa [hnum, hns, parseRest, parseVal] using this
      | some xs =>
        have hxl := nums_len hns
        have HX : Hid (xs.length ≤ maxLen) := Lib.hid (by simp only [maxLen]; omega)
        cases hof : ofAll n (xs.map fun x : Nat => (x : Int)) with
        | none =>
          have := parse_some_err s ⟨a.toArray⟩ ⟨b.toArray⟩ n xs w hmb HX HC HN (Lib.hid hns) (Lib.hid hof)
          simpa [hnum, hns, hof, parseRest, parseVal] using this
        | some c =>
          have hP := pr_is n c hn (ofAll_small hof)
          by_cases hp : print n c = s.data.toList
          · rw [hp, eta] at hP
            have := parse_some_yes s ⟨a.toArray⟩ ⟨b.toArray⟩ n xs w hmb HX HC HN (Lib.hid hns) c (Lib.hid hof) (Lib.hid hP) (Lib.hid ht)
            simpa [hnum, hns, hof, parseRest, hp, parseVal] using this
          · have := parse_some_not s ⟨a.toArray⟩ ⟨b.toArray⟩ n xs w hmb HX HC HN (Lib.hid hns) c _ (Lib.hid hof) (Lib.hid hP) (Lib.hid ht) (str_ne hp)
            simpa [hnum, hns, hof, parseRest, hp, parseVal] using this

theorem dec_digit (n : Nat) (h : n < 10) : P.decimal (n : Int) = [UInt8.ofNat (48 + n)] := by
  rw [P.decimal_in _ (by omega) (by omega), Int.toNat_natCast, Lib.decDigits_one h]
theorem print_live : print 3 129 = [51, 58, 48, 44, 55] := by
  have hc : catsTo 129 64 = [0, 7] := by decide
  unfold print
  rw [hc, if_neg (by simp)]
  unfold catsText Lib.join
  rw [show ((3 : Int)) = ((3 : Nat) : Int) from rfl, dec_digit 3 (by omega)]
  simp only [List.map_cons, List.map_nil]
  rw [dec_digit 0 (by omega), dec_digit 7 (by omega)]
  decide
theorem of_live : ofAll 3 [0, 7] = some 129 := by decide
theorem of_live2 : ofAll 3 [7, 0] = some 129 := by decide
theorem parse_live : parse [51, 58, 48, 44, 55] = some (3, 129) := by
  have h1 : split 58 [51, 58, 48, 44, 55] = some ([51], [48, 44, 55]) := by decide
  have h2 : P.number [51] = some 3 := by decide
  have h3 : nums [48, 44, 55] = some [0, 7] := by decide
  have h4 : ofAll ((3 : Nat) : Int) ([0, 7].map fun x : Nat => (x : Int)) = some 129 := of_live
  have h5 : print ((3 : Nat) : Int) 129 = [51, 58, 48, 44, 55] := print_live
  unfold parse
  rw [h1]
  simp only [h2, Option.bind_some, parseRest, h3, h4, h5, if_true]
theorem parse_dead : parse [51, 58, 55, 44, 48] = none := by
  have h1 : split 58 [51, 58, 55, 44, 48] = some ([51], [55, 44, 48]) := by decide
  have h2 : P.number [51] = some 3 := by decide
  have h3 : nums [55, 44, 48] = some [7, 0] := by decide
  have h4 : ofAll ((3 : Nat) : Int) ([7, 0].map fun x : Nat => (x : Int)) = some 129 := of_live2
  have h5 : print ((3 : Nat) : Int) 129 = [51, 58, 48, 44, 55] := print_live
  unfold parse
  rw [h1]
  simp only [h2, Option.bind_some, parseRest, h3, h4, h5]
  decide
end Go.Proofs.YtlggoplffhdkhaaDoor.L

namespace Go.Proofs.YtlggoplffhdkhaaDoor.L
open T

/-- Digits and the sign for a number that has no text. -/
theorem dec_no (n : Int) (c : UInt8) (hc : c = 58 ∨ c = 44) : ∀ x ∈ P.decimal n, x ≠ c := by
  have hd : ∀ u : Nat, ∀ x ∈ Lib.decDigits u, 48 ≤ x.toNat ∧ x.toNat ≤ 57 := by
    intro u
    induction u using Nat.strongRecOn with
    | ind u ih =>
      intro x hx
      rw [Lib.decDigits] at hx
      split at hx
      · next h =>
        rw [List.mem_singleton.1 hx, P.digit u h]; omega
      · next h =>
        rw [List.mem_append] at hx
        rcases hx with hx | hx
        · exact ih (u / 10) (by omega) x hx
        · rw [List.mem_singleton.1 hx, P.digit _ (by omega)]; omega
  intro x hx e
  subst e
  unfold P.decimal at hx
  split at hx
  · simp at hx; rcases hc with h | h <;> rw [hx] at h <;> exact absurd h (by decide)
  · have := hd _ x hx
    rcases hc with h | h <;> rw [h] at this <;> simp at this
theorem split_no {c : UInt8} : ∀ {l : List UInt8}, (∀ x ∈ l, x ≠ c) → split c l = none
  | [], _ => rfl
  | x :: r, h => by
    rw [split, if_neg (h x (by simp)), split_no (fun y hy => h y (by simp [hy]))]; rfl
theorem split_at {c : UInt8} : ∀ {l r : List UInt8}, (∀ x ∈ l, x ≠ c) → split c (l ++ c :: r) = some (l, r)
  | [], r, _ => by simp [split]
  | x :: t, r, h => by
    rw [List.cons_append, split, if_neg (h x (by simp)), split_at (fun y hy => h y (by simp [hy]))]; rfl
theorem nums_text : ∀ (xs : List Nat), xs ≠ [] → (∀ x ∈ xs, x ≤ 2147483647) → nums (catsText xs) = some xs
  | [x], _, h => by
    unfold catsText Lib.join
    simp only [List.map_cons, List.map_nil]
    have e : [44].intercalate [P.decimal (x : Int)] = P.decimal (x : Int) := by simp
    rw [e, nums_none (split_no (dec_no _ 44 (.inr rfl))), P.number_decimal _ (by omega) (by have := h x (by simp); omega)]
    simp
  | x :: y :: r, _, h => by
    have ih := nums_text (y :: r) (by simp) (fun z hz => h z (by simp [hz]))
    have e : catsText (x :: y :: r) = P.decimal (x : Int) ++ 44 :: catsText (y :: r) := by
      unfold catsText Lib.join
      rw [List.map_cons, List.map_cons, List.intercalate_cons_cons]
      simp
    rw [e, nums_some (split_at (dec_no _ 44 (.inr rfl))), P.number_decimal _ (by omega) (by have := h x (by simp); omega), ih]
    simp

/-- The categories put together again. -/
theorem ofGo_cats (xs : List Nat) : ∀ c, (∀ x ∈ xs, x < 64) → ofGo (xs.map fun x : Nat => (x : Int)) c = some (xs.foldl (fun a x => a ||| 2 ^ x) c) := by
  induction xs with
  | nil => intro c _; rfl
  | cons x r ih =>
    intro c h
    have hx := h x (by simp)
    rw [List.map_cons, ofGo, if_neg (by omega), Int.toNat_natCast, ih _ (fun y hy => h y (by simp [hy]))]
    rfl
theorem fold_bit (xs : List Nat) : ∀ (c i : Nat), (xs.foldl (fun a x => a ||| 2 ^ x) c).testBit i = (c.testBit i || decide (i ∈ xs)) := by
  induction xs with
  | nil => intro c i; simp
  | cons x r ih =>
    intro c i
    rw [List.foldl_cons, ih, Nat.testBit_or, Nat.testBit_two_pow]
    by_cases e : x = i
    · subst e; simp
    · have : ¬ i = x := fun h => e h.symm
      simp [e, this]
theorem cats_back (c : Nat) (hc : c < 18446744073709551616) : (catsTo c 64).foldl (fun a x => a ||| 2 ^ x) 0 = c := by
  apply Nat.eq_of_testBit_eq
  intro i
  rw [fold_bit]
  simp only [Nat.zero_testBit, Bool.false_or]
  unfold catsTo
  by_cases hi : i < 64
  · cases hb : c.testBit i with
    | true => simp [List.mem_filter, hi, hb]
    | false => simp [List.mem_filter, hb]
  · rw [Nat.testBit_lt_two_pow (Nat.lt_of_lt_of_le hc (Nat.pow_le_pow_right (n := 2) (by omega) (show 64 ≤ i by omega)))]
    simp [List.mem_filter]; omega
theorem cats_small (c : Nat) : ∀ x ∈ catsTo c 64, x < 64 := fun x hx => by
  unfold catsTo at hx
  rw [List.mem_filter, List.mem_range] at hx
  exact hx.1

theorem parse_print (l : Int) (c : Nat) (hc : c < 18446744073709551616) (h : rightB l = true) : parse (print l c) = some (l.toNat, c) := by
  have hr := h
  unfold rightB at h
  rw [Bool.and_eq_true, decide_eq_true_iff, decide_eq_true_iff] at h
  obtain ⟨n, rfl⟩ := Int.eq_ofNat_of_zero_le h.1
  have hnum : P.number (P.decimal (n : Int)) = some n := by
    have := P.number_decimal (n : Int) (by omega) (by omega)
    rwa [Int.toNat_natCast] at this
  have hof : ofAll (n : Int) ((catsTo c 64).map fun x : Nat => (x : Int)) = some c := by
    rw [ofAll, hr, if_pos rfl, ofGo_cats _ 0 (cats_small c), cats_back c hc]
  rw [Int.toNat_natCast]
  unfold parse
  by_cases he : catsTo c 64 = []
  · have hp : print (n : Int) c = P.decimal (n : Int) := by rw [print, if_pos he]
    have hsp : split 58 (print (n : Int) c) = none := by rw [hp]; exact split_no (dec_no _ 58 (.inl rfl))
    rw [he] at hof
    rw [hsp]
    show (P.number (print (n : Int) c)).bind _ = _
    rw [hp, hnum]
    show parseRest _ n (some []) = _
    rw [parseRest, Option.bind_some]
    simp only [hof, Option.bind_some]
    rw [← hp, if_pos rfl]
  · have hp : print (n : Int) c = P.decimal (n : Int) ++ 58 :: catsText (catsTo c 64) := by rw [print, if_neg he]; simp
    have hsp : split 58 (print (n : Int) c) = some (P.decimal (n : Int), catsText (catsTo c 64)) := by rw [hp]; exact split_at (dec_no _ 58 (.inl rfl))
    have hns := nums_text (catsTo c 64) he (fun x hx => by have := cats_small c x hx; omega)
    rw [hsp]
    show (P.number (P.decimal (n : Int))).bind _ = _
    rw [hnum]
    show parseRest _ n (nums (catsText (catsTo c 64))) = _
    rw [hns, parseRest, Option.bind_some, hof, Option.bind_some, if_pos rfl]

theorem parse_not (l : Int) (c : Nat) (h : rightB l = false) : parse (print l c) = none := by
  have key : ∀ (o : Option (List Nat)), (P.number (P.decimal l)).bind (fun n => parseRest (print l c) n o) = none := by
    intro o
    by_cases hl : l < 0 ∨ 2147483647 < l
    · rw [P.number_untold l hl]; rfl
    · obtain ⟨n, rfl⟩ := Int.eq_ofNat_of_zero_le (show 0 ≤ l by omega)
      have hnum := P.number_decimal (n : Int) (by omega) (by omega)
      rw [Int.toNat_natCast] at hnum
      rw [hnum, Option.bind_some, parseRest]
      cases o with
      | none => rfl
      | some xs =>
        rw [Option.bind_some, ofAll, h]; rfl
  unfold parse
  by_cases he : catsTo c 64 = []
  · have hp : print l c = P.decimal l := by rw [print, if_pos he]
    have hsp : split 58 (print l c) = none := by rw [hp]; exact split_no (dec_no _ 58 (.inl rfl))
    rw [hsp]
    have := key (some [])
    rwa [← hp] at this
  · have hp : print l c = P.decimal l ++ 58 :: catsText (catsTo c 64) := by rw [print, if_neg he]; simp
    have hsp : split 58 (print l c) = some (P.decimal l, catsText (catsTo c 64)) := by rw [hp]; exact split_at (dec_no _ 58 (.inl rfl))
    rw [hsp]
    exact key _
theorem print_parse {l : List UInt8} {n c : Nat} (h : parse l = some (n, c)) : print n c = l ∧ c < 18446744073709551616 ∧ n ≤ 15 := by
  have key : ∀ (m : Nat) (o : Option (List Nat)), parseRest l m o = some (n, c) → print n c = l ∧ c < 18446744073709551616 ∧ n ≤ 15 := by
    intro m o hr
    rw [parseRest, Option.bind_eq_some_iff] at hr
    obtain ⟨xs, _, hr⟩ := hr
    rw [Option.bind_eq_some_iff] at hr
    obtain ⟨c', hc', hr⟩ := hr
    split at hr
    · next hp =>
      injection hr with hr
      injection hr with h1 h2
      subst h1 h2
      refine ⟨hp, ofAll_small hc', ?_⟩
      unfold ofAll at hc'
      split at hc'
      · next hb => unfold rightB at hb; rw [Bool.and_eq_true, decide_eq_true_iff, decide_eq_true_iff] at hb; omega
      · cases hc'
    · cases hr
  unfold parse at h
  split at h
  · rw [Option.bind_eq_some_iff] at h
    obtain ⟨m, _, h⟩ := h
    exact key m _ h
  · rw [Option.bind_eq_some_iff] at h
    obtain ⟨m, _, h⟩ := h
    exact key m _ h
theorem print_len (l : Int) (c : Nat) : (print l c).length ≤ 1000 := by
  have h1 := P.decimal_length l
  have h2 := join_len (catsTo c 64)
  have h3 := catsTo_len c 64
  unfold print
  split
  · omega
  · simp; omega
end Go.Proofs.YtlggoplffhdkhaaDoor.L

namespace Go.Proofs.YtlggoplffhdkhaaDoor.Dl
set_option linter.unusedVariables false
set_option linter.unusedSimpArgs false
open Go.RowKit Go.Maps
open T
open V (drawn_below grown_of)
open I (It ItemsIn ItemsAt itCells itCells_snoc itCells_at alloc1 own_at own_below items_of_own items_own infoItem ItemsIn.below)

/-- The text of a line that stays, of an item's line. -/
def cpw (at_ n : Int) : List (List UInt8) := [[99, 111, 112, 121], P.decimal at_, P.decimal n]
def itw (x : It) : List (List UInt8) := [[105, 116, 101, 109], P.decimal x.id, L.print x.lv x.ct, knd x, x.tx]
def cpln (at_ n : Int) : List UInt8 := Lib.join (cpw at_ n) [32]
def itln (x : It) : List UInt8 := Lib.join (itw x) [32]
def itls (l : List It) : List (List UInt8 × Bool) := l.map fun x => (itln x, false)
/-- A part's lines. -/
def plns (at_ n : Int) (l : List It) : List (List UInt8 × Bool) := if l = [] then [(cpln at_ n, false)] else itls l
theorem knd_len (x : It) : (knd x).length ≤ 2 := by unfold knd; rw [List.length_append]; split <;> split <;> simp
theorem cpln_is (at_ n : Int) : cpln at_ n = [99, 111, 112, 121] ++ 32 :: (P.decimal at_ ++ 32 :: P.decimal n) := by simp [cpln, cpw, Lib.join]
theorem itln_is (x : It) : itln x = [105, 116, 101, 109] ++ 32 :: (P.decimal x.id ++ 32 :: (L.print x.lv x.ct ++ 32 :: (knd x ++ 32 :: x.tx))) := by simp [itln, itw, Lib.join]
theorem cpln_len (at_ n : Int) : (cpln at_ n).length ≤ 100 := by
  have h1 := P.decimal_length at_
  have h2 := P.decimal_length n
  simp only [cpln_is, List.length_append, List.length_cons, List.length_nil]
  omega
theorem itln_len (x : It) (h : x.tx.length ≤ 200) : (itln x).length ≤ 2000 := by
  have h1 := P.decimal_length x.id
  have h2 := L.print_len x.lv x.ct
  have h3 := knd_len x
  simp only [itln_is, List.length_append, List.length_cons, List.length_nil]
  omega
theorem itls_snoc {l : List It} {k : Nat} (h : k < l.length) : lineCells (itls (l.take (k + 1))) = lineCells (itls (l.take k)) ++ [.string ⟨(itln l[k]).toArray⟩, .bool false] := by
  unfold itls
  rw [List.take_succ_eq_append_getElem h, List.map_append, List.map_cons, List.map_nil, lineCells_snoc]
/-- A line of a row of words. -/
theorem ln_words {W : World} {g cap : Nat} (ws : List (List UInt8)) (hc : ∀ (j : Nat) (hj : j < ws.length), W.cell? ⟨g, j, none⟩ = some (.string ⟨ws[j].toArray⟩)) (hg : g < W.heap.size) (hcap : ws.length ≤ cap) (hN : ws.length ≤ 5) (hl : (Lib.join ws [32]).length ≤ 140737488355328) :
    Calls Tryd.prog 33 #[.slice (some ⟨g, 0, none⟩) ws.length cap] W fun e w' => e = .returned (.agg #[.string ⟨(Lib.join ws [32]).toArray⟩, .bool false]) ∧ Below W.heap.size W w' := by
  have e : (ws.map fun l => (⟨l.toArray⟩ : ByteArray)).map (·.data.toList) = ws := by
    rw [List.map_map]
    exact (List.map_congr_left (fun l _ => rfl)).trans (List.map_id _)
  have := line_any g 0 cap (ws.map fun l => ⟨l.toArray⟩) W (fun j x hj => by
    rw [List.getElem?_map] at hj
    obtain ⟨l, h1, rfl⟩ := Option.map_eq_some_iff.1 hj
    obtain ⟨hj', rfl⟩ := List.getElem?_eq_some_iff.1 h1
    rw [Nat.zero_add]
    exact hc j hj') hg (by rw [List.length_map]; exact hcap) (by rw [List.length_map]; omega) (by rw [e]; exact hl)
  rw [e, List.length_map] at this
  exact this
theorem words_of {g : Nat} {W : World} {ws : List (List UInt8)} {cs : Array Value} {t : TypeId} (h : W.heap[g]? = some (.cells cs t (0, 0))) (hc : cs = (ws.map fun l => Value.string ⟨l.toArray⟩).toArray) : ∀ (j : Nat) (hj : j < ws.length), W.cell? ⟨g, j, none⟩ = some (.string ⟨ws[j].toArray⟩) := by
  intro j hj
  rw [L.blk_cell h j, hc]
  simp [hj]
def LsEnd (w : World) (ls : List (List UInt8 × Bool)) (e : Ending) (w' : World) : Prop := ∃ A cap, e = .returned (.slice A ls.length cap) ∧ w'.ownsRow w.heap.size 39 2 (.slice A ls.length cap) ls.length (lineCells ls) ∧ Below w.heap.size w w'
theorem cell2 (w : World) (a b : Value) (t : TypeId) : ∀ (j : Nat) (u : Value), [a, b][j]? = some u → (w.alloc (.cells #[a, b] t)).cell? ((⟨w.heap.size, 0, none⟩ : Addr).add j) = some u := World.news_of_block (heap_alloc_new w _)
/-- What stays while a region's row may grow. -/
structure Cx (W0 : World) (ob : Option Nat) (W : World) : Prop where
  g : W0.grownBy W ob
set_option maxRecDepth 100000 in
set_option maxHeartbeats 8000000 in
theorem lines_any (at_ n : Int) (C : Option Addr) (cc : Nat) (l : List It) (w : World) (hC : Ix w C cc l) (hl : l.length ≤ 4000000000) (hx : ∀ x ∈ l, x.tx.length ≤ 200 ∧ (-9223372036854775808 ≤ x.id ∧ x.id ≤ 9223372036854775807) ∧ (-9223372036854775808 ≤ x.lv ∧ x.lv ≤ 9223372036854775807) ∧ x.ct < 18446744073709551616)
    (ha : -9223372036854775808 ≤ at_ ∧ at_ ≤ 9223372036854775807) (hn : -9223372036854775808 ≤ n ∧ n ≤ 9223372036854775807) (hT : Tab w) :
    Calls Tryd.prog 34 #[.agg #[.int .i64 at_, .int .i64 n, .slice C l.length cc]] w (LsEnd w (plns at_ n l)) := by
  obtain ⟨i0, hi0, hz0, hz1, hz2⟩ := info_parts infoLine
  obtain ⟨W1, hW1⟩ : ∃ W : World, W = w.alloc (.cells #[.int .i64 at_, .int .i64 n, .slice C l.length cc] 27) := ⟨_, rfl⟩
  have hx1 : W1.heap[w.heap.size]? = some (.cells #[.int .i64 at_, .int .i64 n, .slice C l.length cc] 27 (0, 0)) := by rw [hW1]; exact heap_alloc_new w _
  have HB1 := Lib.hid (show Below w.heap.size w W1 by rw [hW1]; exact alloc1 _ _)
  have HC := Lib.hid hC
  have HX := Lib.hid (fun (k : Nat) (h : k < l.length) => hx l[k] (List.getElem_mem h))
  have HT := Lib.hid hT
  have e0 := L.blk_cell hx1 0
  have e1 := L.blk_cell hx1 1
  have e2 := L.blk_cell hx1 2
  simp only [List.getElem?_toArray, List.getElem?_cons_zero, List.getElem?_cons_succ] at e0 e1 e2
  clear hC hx hT
  by_cases h0 : l = []
  · subst h0
    simp only [List.length_nil] at *
    have HV : Hid (plns at_ n [] = [(cpln at_ n, false)]) := Lib.hid rfl
    generalize plns at_ n [] = res at *
    have HTB := Lib.hid (fun (W : World) (h : Below W1.heap.size W1 W) => (HT.out.later (HB1.out.trans (h.mono HB1.out.size))))
    have HDA : Hid (∀ W, Below W1.heap.size W1 W → Calls Tryd.prog 49 #[.int .i64 at_] W fun e w' => e = .returned (.string ⟨(P.decimal at_).toArray⟩) ∧ Below W1.heap.size W1 w') := Lib.hid (fun W h => (decimal_any at_ W ha.1 ha.2 (HTB.out W h)).mono fun e w' h' => ⟨h'.1, h.trans (h'.2.mono h.size)⟩)
    have HDN : Hid (∀ W, Below W1.heap.size W1 W → Calls Tryd.prog 49 #[.int .i64 n] W fun e w' => e = .returned (.string ⟨(P.decimal n).toArray⟩) ∧ Below W1.heap.size W1 w') := Lib.hid (fun W h => (decimal_any n W hn.1 hn.2 (HTB.out W h)).mono fun e w' h' => ⟨h'.1, h.trans (h'.2.mono h.size)⟩)
    have HLN : Hid (∀ W, Below W1.heap.size W1 W → Calls Tryd.prog 33 #[.slice (some ⟨W.heap.size, 0, none⟩) 3 3] (W.alloc (.cells #[.string ⟨#[99, 111, 112, 121]⟩, .string ⟨(P.decimal at_).toArray⟩, .string ⟨(P.decimal n).toArray⟩] 9)) fun e w' => e = .returned (.agg #[.string ⟨(cpln at_ n).toArray⟩, .bool false]) ∧ Below W1.heap.size W1 w') := Lib.hid (fun W h => (ln_words (cpw at_ n) (words_of (heap_alloc_new W _) rfl) (by simp) (Nat.le_refl _) (by simp [cpw]) (Nat.le_trans (cpln_len at_ n) (by decide))).mono fun e w' h' => ⟨h'.1, (h.trans ((alloc1 W _).mono h.size)).trans (h'.2.mono ((h.trans ((alloc1 W _).mono h.size)).size))⟩)
    have HSX : Hid (∀ W, Below W1.heap.size W1 W → (W.cell? ⟨w.heap.size, 0, none⟩ = some (.int .i64 at_) ∧ W.cell? ⟨w.heap.size, 1, none⟩ = some (.int .i64 n) ∧ Below W1.heap.size W1 W)) := Lib.hid (fun W h => ⟨(h.cell (p := ⟨w.heap.size, _, none⟩) (L.blk_lt hx1)).trans e0, (h.cell (p := ⟨w.heap.size, _, none⟩) (L.blk_lt hx1)).trans e1, h⟩)
    have HSA : Hid (∀ W o, Below W1.heap.size W1 W → (∃ W', W' = W.alloc o ∧ (W'.cell? ⟨w.heap.size, 0, none⟩ = some (.int .i64 at_) ∧ W'.cell? ⟨w.heap.size, 1, none⟩ = some (.int .i64 n) ∧ Below W1.heap.size W1 W'))) := Lib.hid (fun W o h => ⟨_, rfl, HSX.out _ (h.trans ((alloc1 W o).mono h.size))⟩)
    have HND : Hid (∀ W, Below W1.heap.size W1 W → LsEnd w res (.returned (.slice (some ⟨W.heap.size, 0, none⟩) 1 1)) (W.alloc (.cells #[.string ⟨(cpln at_ n).toArray⟩, .bool false] 39))) := Lib.hid (fun W h => by
      rw [HV.out]
      have hb := HB1.out.trans (h.mono HB1.out.size)
      exact ⟨_, _, rfl, World.ownsRow_lit W #[.string ⟨(cpln at_ n).toArray⟩, .bool false] 1 hb.size (by decide) rfl, hb.trans ((alloc1 W _).mono hb.size)⟩)
    generalize (⟨(cpln at_ n).toArray⟩ : ByteArray) = y at *
    generalize (⟨(P.decimal at_).toArray⟩ : ByteArray) = s1 at *
    generalize (⟨(P.decimal n).toArray⟩ : ByteArray) = s2 at *
    go_enter Tryd.func34, Tryd.ntmps34
    go_upto_region 1 with fail
    rw [← hW1]
    obtain ⟨xb, hxb⟩ : ∃ q, q = w.heap.size := ⟨_, rfl⟩
    have HXB := Lib.hid hxb
    rw [← hxb] at HSX e0 e1 e2 ⊢
    clear hW1 hx1 hxb HSA
    go_upto_region 2 with fail
    go_cut [2] (fun v wz => ∃ W, v = .slice (some ⟨W.heap.size, 0, none⟩) 1 1 ∧ wz = W.alloc (.cells #[.string y, .bool false] 39) ∧ Hid (Below W1.heap.size W1 W))
    case first =>
      go_region_held3 (fun W => W.cell? ⟨xb, 0, none⟩ = some (.int .i64 at_) ∧ W.cell? ⟨xb, 1, none⟩ = some (.int .i64 n) ∧ Below W1.heap.size W1 W)
        (first | exact HSX.out _ ((Below.refl _ _).drew) | exact HSX.out _ (by assumption) | exact HSX.out _ (Below.alloc (by assumption) (by assumption) _))
        (first | (go_at_call 49; with_reducible refine (HDA.out _ (And.right (And.right (by assumption)))).mono ?_; rintro r wq ⟨rfl, hbq⟩; have hsq := hbq.size) | (go_at_call 49; with_reducible refine (HDN.out _ (And.right (And.right (by assumption)))).mono ?_; rintro r wq ⟨rfl, hbq⟩; have hsq := hbq.size) | (go_at_call 33; with_reducible refine (HLN.out _ (by assumption)).mono ?_; rintro r wq ⟨rfl, hbq⟩; have hsq := hbq.size))
      all_goals
        go_wp2_with fail
        go_meet
        case rel => exact ⟨_, rfl, rfl, Lib.hid (by assumption)⟩
    case rest =>
    obtain ⟨W, rfl, rfl, HZ⟩ := hcut
    go_wp2_with fail
    go_ret
    exact HND.out _ HZ.out
  · have hlp : 0 < l.length := List.length_pos_iff.2 h0
    have HV : Hid (plns at_ n l = itls l) := Lib.hid (if_neg h0)
    have hlz : ((l.length : Int) == 0) = false := beq_eq_false_iff_ne.2 (by omega)
    generalize plns at_ n l = res at *
    have HL0 := Lib.hid (fun (k : Nat) (h : k < l.length) => itls_snoc h)
    obtain ⟨ck, hck⟩ : ∃ ck : Nat → List Value, ∀ k, lineCells (itls (l.take k)) = ck k := ⟨fun k => lineCells (itls (l.take k)), fun _ => rfl⟩
    have HC0 : Hid (ck 0 = []) := Lib.hid (by rw [← hck]; rfl)
    have HCE : Hid (ck l.length = lineCells res) := Lib.hid (by rw [← hck, List.take_length, HV.out])
    have HRL : Hid (l.length = res.length) := Lib.hid (by rw [HV.out]; unfold itls; rw [List.length_map])
    simp only [hck] at HL0
    clear hck h0 HV ha hn
    go_enter Tryd.func34, Tryd.ntmps34
    go_upto_region 1 with fail
    rw [← hW1]
    obtain ⟨xb, hxb⟩ : ∃ q, q = w.heap.size := ⟨_, rfl⟩
    have HXB := Lib.hid hxb
    rw [← hxb] at e0 e1 e2 ⊢
    clear hW1 hx1 hxb e0 e1
    go_wp2_with fail
    clear e2
    go_loopg [3, 22] l.length (fun m v i wr => ∃ (k : Nat) (VA : Option Addr) (vc : Nat), k ≤ l.length ∧ i = .int .i64 (k : Int) ∧ v = .slice VA k vc ∧ l.length - k ≤ m ∧ wr.ownsRow w.heap.size 39 2 (.slice VA k vc) k (ck k) ∧ Below w.heap.size w wr)
    case atStart => exact ⟨0, none, 0, Nat.zero_le _, rfl, rfl, by omega, by rw [HC0.out]; exact World.ownsRow_nil _ _ _ _, HB1.out⟩
    case round =>
      obtain ⟨k, VA, vc, hk, rfl, rfl, hm, hown, hbr⟩ := hrel
      by_cases hlt : k < l.length
      · obtain ⟨bk, off, hAe, hbk, g0, g1, g2, g3, g4, g5⟩ := it_at (HC.out.below hbr).i hlt
        subst hAe
        have HT1 := Lib.hid (HL0.out k hlt)
        obtain ⟨x1, x2, x3, x4⟩ := HX.out k hlt
        have h0k : (0 : Int) ≤ (k : Int) := by omega
        have hki : (k : Int) < (l.length : Int) := by omega
        obtain ⟨x, hx⟩ : ∃ x, x = l[k]'hlt := ⟨_, rfl⟩
        rw [← hx] at g0 g1 g2 g3 g4 g5 HT1 x1 x2 x3 x4
        obtain ⟨W2, hW2⟩ : ∃ W : World, W = wr.alloc (.cells #[.int .i64 x.id, .int .i64 x.lv, .int .u64 (x.ct : Int), .bool x.an, .string ⟨x.tx.toArray⟩, .bool x.ba] 41) := ⟨_, rfl⟩
        have hb1 : Below wr.heap.size wr W2 := by rw [hW2]; exact alloc1 _ _
        have hx3 : W2.heap[wr.heap.size]? = some (.cells #[.int .i64 x.id, .int .i64 x.lv, .int .u64 (x.ct : Int), .bool x.an, .string ⟨x.tx.toArray⟩, .bool x.ba] 41 (0, 0)) := by rw [hW2]; exact heap_alloc_new wr _
        have HB3 := Lib.hid (hbr.trans (hb1.mono hbr.size))
        have HO := Lib.hid (own_below hown hb1)
        have HNE := Lib.hid (V.own_ne' HO.out (fun cs e => by rw [hx3] at e; injection e with e; injection e with _ e; exact absurd e (by decide)))
        have hsz := HB3.out.size
        have hlt2 := L.blk_lt hx3
        obtain ⟨ob, hob⟩ : ∃ ob, ob = (Value.slice VA k vc).ownBlock := ⟨_, rfl⟩
        rw [← hob] at HNE
        obtain ⟨bb, hbb⟩ : ∃ q, q = wr.heap.size := ⟨_, rfl⟩
        rw [← hbb] at hx3 HNE hlt2
        have HSC : Hid (∀ W, Cx W2 ob W → (W.cell? ⟨bb, 0, none⟩ = some (.int .i64 x.id) ∧ W.cell? ⟨bb, 1, none⟩ = some (.int .i64 x.lv) ∧ W.cell? ⟨bb, 2, none⟩ = some (.int .u64 (x.ct : Int)) ∧ W.cell? ⟨bb, 3, none⟩ = some (.bool x.an) ∧ W.cell? ⟨bb, 4, none⟩ = some (.string ⟨x.tx.toArray⟩) ∧ W.cell? ⟨bb, 5, none⟩ = some (.bool x.ba) ∧ Cx W2 ob W)) := Lib.hid (fun W h => by
          have hh := h.g.block bb hlt2 HNE.out
          have hx4 := hh.trans hx3
          exact ⟨L.blk_cell hx4 0, L.blk_cell hx4 1, L.blk_cell hx4 2, L.blk_cell hx4 3, L.blk_cell hx4 4, L.blk_cell hx4 5, h⟩)
        have HSB : Hid (∀ W, Below W2.heap.size W2 W → Cx W2 ob W) := Lib.hid (fun W h => ⟨grown_of h _⟩)
        have HTB := Lib.hid (fun (W : World) (h : Below W2.heap.size W2 W) => (HT.out.later (HB3.out.trans (h.mono HB3.out.size))))
        have HDA : Hid (∀ W, Below W2.heap.size W2 W → Calls Tryd.prog 49 #[.int .i64 x.id] W fun e w' => e = .returned (.string ⟨(P.decimal x.id).toArray⟩) ∧ Below W2.heap.size W2 w') := Lib.hid (fun W h => (decimal_any x.id W x2.1 x2.2 (HTB.out W h)).mono fun e w' h' => ⟨h'.1, h.trans (h'.2.mono h.size)⟩)
        have HDN : Hid (∀ W, Below W2.heap.size W2 W → Calls Tryd.prog 50 #[.agg #[.int .i64 x.lv, .int .u64 (x.ct : Int)]] W fun e w' => e = .returned (.string ⟨(L.print x.lv x.ct).toArray⟩) ∧ Below W2.heap.size W2 w') := Lib.hid (fun W h => (L.print_any x.lv x.ct W x3.1 x3.2 x4 (HTB.out W h)).mono fun e w' h' => ⟨h'.1, h.trans (h'.2.mono h.size)⟩)
        have HDK : Hid (∀ W, Below W2.heap.size W2 W → Calls Tryd.prog 51 #[.agg #[.int .i64 x.id, .int .i64 x.lv, .int .u64 (x.ct : Int), .bool x.an, .string ⟨x.tx.toArray⟩, .bool x.ba]] W fun e w' => e = .returned (.string ⟨(knd x).toArray⟩) ∧ Below W2.heap.size W2 w') := Lib.hid (fun W h => (kind_any x W).mono fun e w' h' => ⟨h'.1, h.trans (h'.2.mono h.size)⟩)
        have HLN : Hid (∀ W, Below W2.heap.size W2 W → Calls Tryd.prog 33 #[.slice (some ⟨W.heap.size, 0, none⟩) 5 5] (W.alloc (.cells #[.string ⟨#[105, 116, 101, 109]⟩, .string ⟨(P.decimal x.id).toArray⟩, .string ⟨(L.print x.lv x.ct).toArray⟩, .string ⟨(knd x).toArray⟩, .string ⟨x.tx.toArray⟩] 9)) fun e w' => e = .returned (.agg #[.string ⟨(itln x).toArray⟩, .bool false]) ∧ Below W2.heap.size W2 w') := Lib.hid (fun W h => (ln_words (itw x) (words_of (heap_alloc_new W _) rfl) (by simp) (Nat.le_refl _) (by simp [itw]) (Nat.le_trans (itln_len x x1) (by decide))).mono fun e w' h' => ⟨h'.1, (h.trans ((alloc1 W _).mono h.size)).trans (h'.2.mono ((h.trans ((alloc1 W _).mono h.size)).size))⟩)
        have HOA : Hid (∀ W o, Below W2.heap.size W2 W → (W.alloc o).ownsRow w.heap.size 39 2 (.slice VA k vc) k (ck k)) := Lib.hid (fun W o h => World.ownsRow.alloc (own_below HO.out h) o)
        have HSZ : Hid (∀ (W : World) (o : Obj), Below W2.heap.size W2 W → w.heap.size ≤ (W.alloc o).heap.size) := Lib.hid (fun W o h => by have := h.size; simp; omega)
        have HFG : Hid (∀ (W : World) (o : Obj) (w6 : World), (W.alloc o).grownBy w6 ob → Below W2.heap.size W2 W → Cx W2 ob w6 ∧ Hid (Below w.heap.size w w6)) := Lib.hid (fun W o w6 hg h => by
          have h2 := h.trans ((alloc1 W o).mono h.size)
          refine ⟨⟨(grown_of h2 _).trans hg⟩, Lib.hid ((HB3.out.trans (h2.mono hsz)).grown hg (Nat.le_trans hsz h2.size) (fun k2 e => (World.ownsRow.lt HO.out k2 (by rw [← hob]; exact e)).1))⟩)
        have H1C : Hid (∀ u ∈ ([.string ⟨(itln x).toArray⟩, .bool false] : List Value), u.oneCell' = true) := Lib.hid (by intro u hu; simp at hu; rcases hu with rfl | rfl <;> rfl)
        generalize (⟨(itln x).toArray⟩ : ByteArray) = y at *
        generalize (⟨(P.decimal x.id).toArray⟩ : ByteArray) = s1 at *
        generalize (⟨(L.print x.lv x.ct).toArray⟩ : ByteArray) = s2 at *
        generalize (⟨(knd x).toArray⟩ : ByteArray) = s3 at *
        generalize (⟨x.tx.toArray⟩ : ByteArray) = s4 at *
        generalize x.id = id at *
        generalize x.lv = lv at *
        generalize x.ct = ct at *
        generalize x.an = an at *
        generalize x.ba = ba at *
        go_upto_region 7 with fail
        rw [← hW2, ← hbb]
        clear hx hbk hbr hb1 hx3 x1 x2 x3 x4 hown hW2 hbb g0 g1 g2 g3 g4 g5
        go_region_held3 (fun W => W.cell? ⟨bb, 0, none⟩ = some (.int .i64 id) ∧ W.cell? ⟨bb, 1, none⟩ = some (.int .i64 lv) ∧ W.cell? ⟨bb, 2, none⟩ = some (.int .u64 (ct : Int)) ∧ W.cell? ⟨bb, 3, none⟩ = some (.bool an) ∧ W.cell? ⟨bb, 4, none⟩ = some (.string s4) ∧ W.cell? ⟨bb, 5, none⟩ = some (.bool ba) ∧ Cx W2 ob W)
          (first | exact HSC.out _ (HSB.out _ ((Below.refl _ _).drew)) | exact HSC.out _ (by assumption) | exact HSC.out _ (HSB.out _ (by assumption)) | exact HSC.out _ (HSB.out _ (Below.alloc (by assumption) (by assumption) _)))
          (first
            | (go_at_call 49; with_reducible refine (HDA.out _ (by first | assumption | exact (Below.refl _ _).drew)).mono ?_; rintro r wq ⟨rfl, hbq⟩; have hsq := hbq.size)
            | (go_at_call 50; with_reducible refine (HDN.out _ (by first | assumption | exact (Below.refl _ _).drew)).mono ?_; rintro r wq ⟨rfl, hbq⟩; have hsq := hbq.size)
            | (go_at_call 51; with_reducible refine (HDK.out _ (by first | assumption | exact (Below.refl _ _).drew)).mono ?_; rintro r wq ⟨rfl, hbq⟩; have hsq := hbq.size)
            | (go_at_call 33; with_reducible refine (HLN.out _ (by first | assumption | exact (Below.refl _ _).drew)).mono ?_; rintro r wq ⟨rfl, hbq⟩; have hsq := hbq.size)
            | (refine step_append_lies _ (by rfl) (.tmp 26) (.tmp 40) 61 (by rfl) w.heap.size 39 i0 _ 2 24 Tryd.underlying61 hi0 hz0 hz1 hz2 rfl (by decide) (.slice VA k vc) k (ck k) (by rfl) (HOA.out _ _ (by assumption)) _ 1 1 [.string y, .bool false] (by rfl) rfl (cell2 _ _ _ _) H1C.out (by omega) (by unfold maxLen; omega) (by omega) (HSZ.out _ _ (by assumption)) _ rfl ?_; intro g6 cap6 w6 hown6 hg6 hat6 hlt6; have hcx := (HFG.out _ _ _ (by rw [hob]; exact hg6) (by assumption)).1; have hbf := (HFG.out _ _ _ (by rw [hob]; exact hg6) (by assumption)).2; have hown7 := Lib.hid hown6; clear hown6 hg6 hat6 hlt6))
        all_goals
          rw [← HT1.out] at hown7
          clear HT1 HSC HSB HTB HDA HDN HDK HLN HOA HSZ HFG H1C HNE HO HB3
          go_wp2_with fail
          go_roundg (l.length - (k + 1))
          case rel => exact ⟨k + 1, some ⟨g6, 0, none⟩, cap6, by omega, by go_num, rfl, Nat.le_refl _, hown7.out, hbf.out⟩
          case measure => omega
      · obtain rfl : k = l.length := by omega
        rw [HCE.out] at hown
        go_wp2_with fail
        go_ret
        exact ⟨VA, vc, by rw [← HRL.out]; rfl, by rw [← HRL.out]; exact hown, hbr⟩
end Go.Proofs.YtlggoplffhdkhaaDoor.Dl
