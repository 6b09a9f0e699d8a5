/-
  The contract of label's Parse, from the call of Of on: for every text of at most 2^22 bytes.
  The contract of label's Parse, whole, for every text of at most 2^22 bytes; and of layer 2's live: it returns true.
  Plain facts: the text of a right label is read as that label; of a label that may not be, nothing is read.
-/
import Derived.Test.YthkdpokdmkkdjaaDoorGhi
namespace Go.Proofs.YthkdpokdmkkdjaaDoor.L
open Go.RowKit
open T

theorem of_own {B : Nat} (l : Int) (A : Option Addr) (cap : Nat) (xs : List Nat) (w : World) (hlen : xs.length ≤ maxLen) (hA : 0 < xs.length → ∃ g, A = some ⟨g, 0, none⟩ ∧ B ≤ g ∧ g < w.heap.size ∧ ∀ j u, (intCells xs)[j]? = some u → w.cell? ⟨g, j, none⟩ = some u) :
    Of l A xs.length cap (ofVal l (ofAll l (xs.map fun x : Nat => (x : Int)))) w := by
  have h := of_any l A cap (xs.map fun x : Nat => (x : Int)) w (by simpa using hlen) (fun hp => by
    obtain ⟨g, rfl, _, hg, hc⟩ := hA (by simpa using hp)
    refine ⟨g, 0, rfl, hg, fun j hj => ?_⟩
    rw [Nat.zero_add]
    refine hc j _ ?_
    have hj' : j < xs.length := by simpa using hj
    simp [intCells, List.getElem?_eq_getElem hj'])
  rw [List.length_map] at h
  exact h

set_option maxHeartbeats 1000000 in
set_option maxRecDepth 100000 in
theorem parse_some_err (s h r : ByteArray) (n : Int) (xs : List Nat) (w : World) (hr : r.size ≤ 4194304) (HX : Hid (xs.length ≤ maxLen)) (HC : Hid (Ct s 58 (.tuple #[.string h, .string r, .bool true]))) (HN : Hid (Nm h n true)) (HM : Hid (nums r.data.toList = some xs)) (HV : Hid (ofAll n (xs.map fun x : Nat => (x : Int)) = none)) :
    Calls Tryd.prog 71 #[.string s] w fun e w' => e = .returned (.tuple #[lab 0 0, .bool false]) ∧ Below w.heap.size w w' := by
  go_enter Tryd.func71, Tryd.ntmps71
  go_wp2_with fail
  with_reducible refine (HC.out.call _).mono ?_
  rintro e w1 ⟨rfl, hb1⟩
  have HK1 := Lib.hid ((hb1.block w.heap.size (by simp)).trans (heap_alloc_new w _))
  have hbe1 : Below w.heap.size w w1 := ((Below.refl _ _).alloc (Nat.le_refl _) _).trans (hb1.mono (by simp))
  clear hb1
  go_wp2_with fail
  with_reducible refine (HN.out.call _).mono ?_
  rintro e w2 ⟨rfl, rfl⟩
  go_wp2_with fail
  with_reducible refine (numbers_any r _ hr).mono ?_
  rintro e w2 (⟨ys, v, hx, rfl, hown, hb2⟩ | ⟨hx, _⟩)
  rotate_left
  · rw [HM.out] at hx; cases hx
  rw [HM.out] at hx
  obtain rfl : xs = ys := by injection hx
  have hbe2 : Below w.heap.size w w2 := hbe1.trans (hb2.mono hbe1.size)
  have HK2 := Lib.hid ((hb2.block w.heap.size (blk_lt HK1.out)).trans HK1.out)
  obtain ⟨A, cap, hv, hcap, hA⟩ := own_form hown
  subst hv
  have HO := Lib.hid (of_own n A cap xs w2 HX.out hA)
  rw [HV.out] at HO
  clear hb2 HK1 hbe1 hA hown hx
  go_wp2_with fail
  with_reducible refine (HO.out.call).mono ?_
  rintro e w3 ⟨rfl, hb3⟩
  simp only [ofVal]
  have hbel : Below w.heap.size w w3 := hbe2.trans (hb3.mono hbe2.size)
  have HK0 := Lib.hid ((hb3.block w.heap.size (blk_lt HK2.out)).trans HK2.out)
  have hlt3 := blk_lt HK0.out
  have d0 := (res_cells HK0.out).1
  have d1 := (res_cells HK0.out).2
  have e0 := blk_free HK0.out 0
  have e1 := blk_free HK0.out 1
  clear hb3
  go_wp2_with fail
  have hfin := blk_set (blk_set HK0.out 0 (.int .i64 0)) 1 (.int .u64 0)
  have hbf := (hbel.setCell (p := ⟨w.heap.size, 0, none⟩) (Nat.le_refl _) (.int .i64 0)).setCell (p := ⟨w.heap.size, 1, none⟩) (Nat.le_refl _) (.int .u64 0)
  clear d0 d1 e0 e1
  generalize (w3.setCell ⟨w.heap.size, 0, none⟩ (.int .i64 0)).setCell ⟨w.heap.size, 1, none⟩ (.int .u64 0) = wg at *
  have hz : w.heap.size < wg.heap.size := blk_lt hfin
  have hfo := (Below.heap_alloc wg (.cells #[.int .i64 0, .int .u64 0] 37) _ hz).trans hfin
  have hbo := hbf.alloc (Nat.le_of_lt hz) (.cells #[.int .i64 0, .int .u64 0] 37)
  clear hfin hbf
  generalize wg.alloc (.cells #[.int .i64 0, .int .u64 0] 37) = wf at *
  have q0 : wf.cell? ⟨w.heap.size, 0, none⟩ = some (.int .i64 0) := blk_cell hfo 0
  have q1 : wf.cell? ⟨w.heap.size, 1, none⟩ = some (.int .u64 0) := blk_cell hfo 1
  exact bodyPost_ret (v := .tuple #[.agg #[.int .i64 0, .int .u64 0], .bool false]) (by simp [results, Tryd.results71, go_sem, q0, q1]) rfl ⟨rfl, hbo⟩

set_option maxHeartbeats 1000000 in
set_option maxRecDepth 100000 in
theorem parse_some_not (s h r : ByteArray) (n : Int) (xs : List Nat) (w : World) (hr : r.size ≤ 4194304) (HX : Hid (xs.length ≤ maxLen)) (HC : Hid (Ct s 58 (.tuple #[.string h, .string r, .bool true]))) (HN : Hid (Nm h n true)) (HM : Hid (nums r.data.toList = some xs)) (c : Nat) (d : ByteArray) (HV : Hid (ofAll n (xs.map fun x : Nat => (x : Int)) = some c)) (HP : Hid (Pr n c d)) (HT : Hid (Tab w)) (hne : (d.toList == s.toList) = false) :
    Calls Tryd.prog 71 #[.string s] w fun e w' => e = .returned (.tuple #[lab 0 0, .bool false]) ∧ Below w.heap.size w w' := by
  go_enter Tryd.func71, Tryd.ntmps71
  go_wp2_with fail
  with_reducible refine (HC.out.call _).mono ?_
  rintro e w1 ⟨rfl, hb1⟩
  have HK1 := Lib.hid ((hb1.block w.heap.size (by simp)).trans (heap_alloc_new w _))
  have hbe1 : Below w.heap.size w w1 := ((Below.refl _ _).alloc (Nat.le_refl _) _).trans (hb1.mono (by simp))
  clear hb1
  go_wp2_with fail
  with_reducible refine (HN.out.call _).mono ?_
  rintro e w2 ⟨rfl, rfl⟩
  go_wp2_with fail
  with_reducible refine (numbers_any r _ hr).mono ?_
  rintro e w2 (⟨ys, v, hx, rfl, hown, hb2⟩ | ⟨hx, _⟩)
  rotate_left
  · rw [HM.out] at hx; cases hx
  rw [HM.out] at hx
  obtain rfl : xs = ys := by injection hx
  have hbe2 : Below w.heap.size w w2 := hbe1.trans (hb2.mono hbe1.size)
  have HK2 := Lib.hid ((hb2.block w.heap.size (blk_lt HK1.out)).trans HK1.out)
  obtain ⟨A, cap, hv, hcap, hA⟩ := own_form hown
  subst hv
  have HO := Lib.hid (of_own n A cap xs w2 HX.out hA)
  rw [HV.out] at HO
  clear hb2 HK1 hbe1 hA hown hx
  go_wp2_with fail
  with_reducible refine (HO.out.call).mono ?_
  rintro e w3 ⟨rfl, hb3⟩
  simp only [ofVal]
  have hbel : Below w.heap.size w w3 := hbe2.trans (hb3.mono hbe2.size)
  have HK0 := Lib.hid ((hb3.block w.heap.size (blk_lt HK2.out)).trans HK2.out)
  have hlt3 := blk_lt HK0.out
  have HTb := Lib.hid (HT.out.later hbel)
  clear hb3
  go_wp2_with fail
  with_reducible refine (HP.out.call _ (HTb.out.alloc _)).mono ?_
  rintro e w4 ⟨rfl, hb4⟩
  have hbel4 : Below w.heap.size w w4 := (hbel.alloc hbel.size _).trans (hb4.mono (by have := hbel.size; simp; omega))
  have HK4 := Lib.hid ((hb4.block w.heap.size (by simp; omega)).trans ((Below.heap_alloc w3 _ _ hlt3).trans HK0.out))
  have HA4 := Lib.hid ((hb4.block w3.heap.size (by simp)).trans (heap_alloc_new w3 _))
  clear HK0 hbel hb4
  have HK0 := HK4
  have hbel := hbel4
  have a0 := (res_cells HA4.out).1
  have a1 := (res_cells HA4.out).2
  have d0 := (res_cells HK0.out).1
  have d1 := (res_cells HK0.out).2
  have e0 := blk_free HK0.out 0
  have e1 := blk_free HK0.out 1
  go_wp2_with fail
  clear a0 a1
  have hfin := blk_set (blk_set HK0.out 0 (.int .i64 0)) 1 (.int .u64 0)
  have hbf := (hbel.setCell (p := ⟨w.heap.size, 0, none⟩) (Nat.le_refl _) (.int .i64 0)).setCell (p := ⟨w.heap.size, 1, none⟩) (Nat.le_refl _) (.int .u64 0)
  clear d0 d1 e0 e1
  generalize (w4.setCell ⟨w.heap.size, 0, none⟩ (.int .i64 0)).setCell ⟨w.heap.size, 1, none⟩ (.int .u64 0) = wf at *
  have q0 : wf.cell? ⟨w.heap.size, 0, none⟩ = some (.int .i64 0) := blk_cell hfin 0
  have q1 : wf.cell? ⟨w.heap.size, 1, none⟩ = some (.int .u64 0) := blk_cell hfin 1
  exact bodyPost_ret (v := .tuple #[.agg #[.int .i64 0, .int .u64 0], .bool false]) (by simp [results, Tryd.results71, go_sem, q0, q1]) rfl ⟨rfl, hbf⟩

set_option maxHeartbeats 1000000 in
set_option maxRecDepth 100000 in
theorem parse_some_yes (s h r : ByteArray) (n : Int) (xs : List Nat) (w : World) (hr : r.size ≤ 4194304) (HX : Hid (xs.length ≤ maxLen)) (HC : Hid (Ct s 58 (.tuple #[.string h, .string r, .bool true]))) (HN : Hid (Nm h n true)) (HM : Hid (nums r.data.toList = some xs)) (c : Nat) (HV : Hid (ofAll n (xs.map fun x : Nat => (x : Int)) = some c)) (HP : Hid (Pr n c s)) (HT : Hid (Tab w)) :
    Calls Tryd.prog 71 #[.string s] w fun e w' => e = .returned (.tuple #[lab n c, .bool true]) ∧ Below w.heap.size w w' := by
  go_enter Tryd.func71, Tryd.ntmps71
  go_wp2_with fail
  with_reducible refine (HC.out.call _).mono ?_
  rintro e w1 ⟨rfl, hb1⟩
  have HK1 := Lib.hid ((hb1.block w.heap.size (by simp)).trans (heap_alloc_new w _))
  have hbe1 : Below w.heap.size w w1 := ((Below.refl _ _).alloc (Nat.le_refl _) _).trans (hb1.mono (by simp))
  clear hb1
  go_wp2_with fail
  with_reducible refine (HN.out.call _).mono ?_
  rintro e w2 ⟨rfl, rfl⟩
  go_wp2_with fail
  with_reducible refine (numbers_any r _ hr).mono ?_
  rintro e w2 (⟨ys, v, hx, rfl, hown, hb2⟩ | ⟨hx, _⟩)
  rotate_left
  · rw [HM.out] at hx; cases hx
  rw [HM.out] at hx
  obtain rfl : xs = ys := by injection hx
  have hbe2 : Below w.heap.size w w2 := hbe1.trans (hb2.mono hbe1.size)
  have HK2 := Lib.hid ((hb2.block w.heap.size (blk_lt HK1.out)).trans HK1.out)
  obtain ⟨A, cap, hv, hcap, hA⟩ := own_form hown
  subst hv
  have HO := Lib.hid (of_own n A cap xs w2 HX.out hA)
  rw [HV.out] at HO
  clear hb2 HK1 hbe1 hA hown hx
  go_wp2_with fail
  with_reducible refine (HO.out.call).mono ?_
  rintro e w3 ⟨rfl, hb3⟩
  simp only [ofVal]
  have hbel : Below w.heap.size w w3 := hbe2.trans (hb3.mono hbe2.size)
  have HK0 := Lib.hid ((hb3.block w.heap.size (blk_lt HK2.out)).trans HK2.out)
  have hlt3 := blk_lt HK0.out
  have HTb := Lib.hid (HT.out.later hbel)
  clear hb3
  go_wp2_with fail
  with_reducible refine (HP.out.call _ (HTb.out.alloc _)).mono ?_
  rintro e w4 ⟨rfl, hb4⟩
  have hbel4 : Below w.heap.size w w4 := (hbel.alloc hbel.size _).trans (hb4.mono (by have := hbel.size; simp; omega))
  have HK4 := Lib.hid ((hb4.block w.heap.size (by simp; omega)).trans ((Below.heap_alloc w3 _ _ hlt3).trans HK0.out))
  have HA4 := Lib.hid ((hb4.block w3.heap.size (by simp)).trans (heap_alloc_new w3 _))
  clear HK0 hbel hb4
  have HK0 := HK4
  have hbel := hbel4
  have a0 := (res_cells HA4.out).1
  have a1 := (res_cells HA4.out).2
  have d0 := (res_cells HK0.out).1
  have d1 := (res_cells HK0.out).2
  have e0 := blk_free HK0.out 0
  have e1 := blk_free HK0.out 1
  go_wp2_with fail
  clear a0 a1
  have hfin := blk_set (blk_set HK0.out 0 (.int .i64 n)) 1 (.int .u64 (c : Int))
  have hbf := (hbel.setCell (p := ⟨w.heap.size, 0, none⟩) (Nat.le_refl _) (.int .i64 n)).setCell (p := ⟨w.heap.size, 1, none⟩) (Nat.le_refl _) (.int .u64 (c : Int))
  clear d0 d1 e0 e1
  generalize (w4.setCell ⟨w.heap.size, 0, none⟩ (.int .i64 n)).setCell ⟨w.heap.size, 1, none⟩ (.int .u64 (c : Int)) = wf at *
  have q0 : wf.cell? ⟨w.heap.size, 0, none⟩ = some (.int .i64 n) := blk_cell hfin 0
  have q1 : wf.cell? ⟨w.heap.size, 1, none⟩ = some (.int .u64 (c : Int)) := blk_cell hfin 1
  exact bodyPost_ret (v := .tuple #[.agg #[.int .i64 n, .int .u64 (c : Int)], .bool true]) (by simp [results, Tryd.results71, go_sem, q0, q1]) rfl ⟨rfl, hbf⟩

set_option maxHeartbeats 1000000 in
set_option maxRecDepth 100000 in
theorem parse_none_err (s h r : ByteArray) (n : Int) (w : World) (HC : Hid (Ct s 58 (.tuple #[.string h, .string r, .bool false]))) (HN : Hid (Nm h n true)) (HV : Hid (ofAll n [] = none)) :
    Calls Tryd.prog 71 #[.string s] w fun e w' => e = .returned (.tuple #[lab 0 0, .bool false]) ∧ Below w.heap.size w w' := by
  go_enter Tryd.func71, Tryd.ntmps71
  go_wp2_with fail
  with_reducible refine (HC.out.call _).mono ?_
  rintro e w1 ⟨rfl, hb1⟩
  have HK1 := Lib.hid ((hb1.block w.heap.size (by simp)).trans (heap_alloc_new w _))
  have hbe1 : Below w.heap.size w w1 := ((Below.refl _ _).alloc (Nat.le_refl _) _).trans (hb1.mono (by simp))
  clear hb1
  go_wp2_with fail
  with_reducible refine (HN.out.call _).mono ?_
  rintro e w2 ⟨rfl, rfl⟩
  go_wp2_with fail
  have HK2 := HK1
  have hbe2 := hbe1
  have HO : Hid (Of n none 0 0 (ofVal n (ofAll n [])) w1) := Lib.hid (of_any n none 0 [] w1 (by simp [maxLen]) (fun h => absurd h (by simp)))
  rw [HV.out] at HO
  clear HK1 hbe1
  with_reducible refine (HO.out.call).mono ?_
  rintro e w3 ⟨rfl, hb3⟩
  simp only [ofVal]
  have hbel : Below w.heap.size w w3 := hbe2.trans (hb3.mono hbe2.size)
  have HK0 := Lib.hid ((hb3.block w.heap.size (blk_lt HK2.out)).trans HK2.out)
  have hlt3 := blk_lt HK0.out
  have d0 := (res_cells HK0.out).1
  have d1 := (res_cells HK0.out).2
  have e0 := blk_free HK0.out 0
  have e1 := blk_free HK0.out 1
  clear hb3
  go_wp2_with fail
  have hfin := blk_set (blk_set HK0.out 0 (.int .i64 0)) 1 (.int .u64 0)
  have hbf := (hbel.setCell (p := ⟨w.heap.size, 0, none⟩) (Nat.le_refl _) (.int .i64 0)).setCell (p := ⟨w.heap.size, 1, none⟩) (Nat.le_refl _) (.int .u64 0)
  clear d0 d1 e0 e1
  generalize (w3.setCell ⟨w.heap.size, 0, none⟩ (.int .i64 0)).setCell ⟨w.heap.size, 1, none⟩ (.int .u64 0) = wg at *
  have hz : w.heap.size < wg.heap.size := blk_lt hfin
  have hfo := (Below.heap_alloc wg (.cells #[.int .i64 0, .int .u64 0] 37) _ hz).trans hfin
  have hbo := hbf.alloc (Nat.le_of_lt hz) (.cells #[.int .i64 0, .int .u64 0] 37)
  clear hfin hbf
  generalize wg.alloc (.cells #[.int .i64 0, .int .u64 0] 37) = wf at *
  have q0 : wf.cell? ⟨w.heap.size, 0, none⟩ = some (.int .i64 0) := blk_cell hfo 0
  have q1 : wf.cell? ⟨w.heap.size, 1, none⟩ = some (.int .u64 0) := blk_cell hfo 1
  exact bodyPost_ret (v := .tuple #[.agg #[.int .i64 0, .int .u64 0], .bool false]) (by simp [results, Tryd.results71, go_sem, q0, q1]) rfl ⟨rfl, hbo⟩

set_option maxHeartbeats 1000000 in
set_option maxRecDepth 100000 in
theorem parse_none_not (s h r : ByteArray) (n : Int) (w : World) (HC : Hid (Ct s 58 (.tuple #[.string h, .string r, .bool false]))) (HN : Hid (Nm h n true)) (c : Nat) (d : ByteArray) (HV : Hid (ofAll n [] = some c)) (HP : Hid (Pr n c d)) (HT : Hid (Tab w)) (hne : (d.toList == s.toList) = false) :
    Calls Tryd.prog 71 #[.string s] w fun e w' => e = .returned (.tuple #[lab 0 0, .bool false]) ∧ Below w.heap.size w w' := by
  go_enter Tryd.func71, Tryd.ntmps71
  go_wp2_with fail
  with_reducible refine (HC.out.call _).mono ?_
  rintro e w1 ⟨rfl, hb1⟩
  have HK1 := Lib.hid ((hb1.block w.heap.size (by simp)).trans (heap_alloc_new w _))
  have hbe1 : Below w.heap.size w w1 := ((Below.refl _ _).alloc (Nat.le_refl _) _).trans (hb1.mono (by simp))
  clear hb1
  go_wp2_with fail
  with_reducible refine (HN.out.call _).mono ?_
  rintro e w2 ⟨rfl, rfl⟩
  go_wp2_with fail
  have HK2 := HK1
  have hbe2 := hbe1
  have HO : Hid (Of n none 0 0 (ofVal n (ofAll n [])) w1) := Lib.hid (of_any n none 0 [] w1 (by simp [maxLen]) (fun h => absurd h (by simp)))
  rw [HV.out] at HO
  clear HK1 hbe1
  with_reducible refine (HO.out.call).mono ?_
  rintro e w3 ⟨rfl, hb3⟩
  simp only [ofVal]
  have hbel : Below w.heap.size w w3 := hbe2.trans (hb3.mono hbe2.size)
  have HK0 := Lib.hid ((hb3.block w.heap.size (blk_lt HK2.out)).trans HK2.out)
  have hlt3 := blk_lt HK0.out
  have HTb := Lib.hid (HT.out.later hbel)
  clear hb3
  go_wp2_with fail
  with_reducible refine (HP.out.call _ (HTb.out.alloc _)).mono ?_
  rintro e w4 ⟨rfl, hb4⟩
  have hbel4 : Below w.heap.size w w4 := (hbel.alloc hbel.size _).trans (hb4.mono (by have := hbel.size; simp; omega))
  have HK4 := Lib.hid ((hb4.block w.heap.size (by simp; omega)).trans ((Below.heap_alloc w3 _ _ hlt3).trans HK0.out))
  have HA4 := Lib.hid ((hb4.block w3.heap.size (by simp)).trans (heap_alloc_new w3 _))
  clear HK0 hbel hb4
  have HK0 := HK4
  have hbel := hbel4
  have a0 := (res_cells HA4.out).1
  have a1 := (res_cells HA4.out).2
  have d0 := (res_cells HK0.out).1
  have d1 := (res_cells HK0.out).2
  have e0 := blk_free HK0.out 0
  have e1 := blk_free HK0.out 1
  go_wp2_with fail
  clear a0 a1
  have hfin := blk_set (blk_set HK0.out 0 (.int .i64 0)) 1 (.int .u64 0)
  have hbf := (hbel.setCell (p := ⟨w.heap.size, 0, none⟩) (Nat.le_refl _) (.int .i64 0)).setCell (p := ⟨w.heap.size, 1, none⟩) (Nat.le_refl _) (.int .u64 0)
  clear d0 d1 e0 e1
  generalize (w4.setCell ⟨w.heap.size, 0, none⟩ (.int .i64 0)).setCell ⟨w.heap.size, 1, none⟩ (.int .u64 0) = wf at *
  have q0 : wf.cell? ⟨w.heap.size, 0, none⟩ = some (.int .i64 0) := blk_cell hfin 0
  have q1 : wf.cell? ⟨w.heap.size, 1, none⟩ = some (.int .u64 0) := blk_cell hfin 1
  exact bodyPost_ret (v := .tuple #[.agg #[.int .i64 0, .int .u64 0], .bool false]) (by simp [results, Tryd.results71, go_sem, q0, q1]) rfl ⟨rfl, hbf⟩

set_option maxHeartbeats 1000000 in
set_option maxRecDepth 100000 in
theorem parse_none_yes (s h r : ByteArray) (n : Int) (w : World) (HC : Hid (Ct s 58 (.tuple #[.string h, .string r, .bool false]))) (HN : Hid (Nm h n true)) (c : Nat) (HV : Hid (ofAll n [] = some c)) (HP : Hid (Pr n c s)) (HT : Hid (Tab w)) :
    Calls Tryd.prog 71 #[.string s] w fun e w' => e = .returned (.tuple #[lab n c, .bool true]) ∧ Below w.heap.size w w' := by
  go_enter Tryd.func71, Tryd.ntmps71
  go_wp2_with fail
  with_reducible refine (HC.out.call _).mono ?_
  rintro e w1 ⟨rfl, hb1⟩
  have HK1 := Lib.hid ((hb1.block w.heap.size (by simp)).trans (heap_alloc_new w _))
  have hbe1 : Below w.heap.size w w1 := ((Below.refl _ _).alloc (Nat.le_refl _) _).trans (hb1.mono (by simp))
  clear hb1
  go_wp2_with fail
  with_reducible refine (HN.out.call _).mono ?_
  rintro e w2 ⟨rfl, rfl⟩
  go_wp2_with fail
  have HK2 := HK1
  have hbe2 := hbe1
  have HO : Hid (Of n none 0 0 (ofVal n (ofAll n [])) w1) := Lib.hid (of_any n none 0 [] w1 (by simp [maxLen]) (fun h => absurd h (by simp)))
  rw [HV.out] at HO
  clear HK1 hbe1
  with_reducible refine (HO.out.call).mono ?_
  rintro e w3 ⟨rfl, hb3⟩
  simp only [ofVal]
  have hbel : Below w.heap.size w w3 := hbe2.trans (hb3.mono hbe2.size)
  have HK0 := Lib.hid ((hb3.block w.heap.size (blk_lt HK2.out)).trans HK2.out)
  have hlt3 := blk_lt HK0.out
  have HTb := Lib.hid (HT.out.later hbel)
  clear hb3
  go_wp2_with fail
  with_reducible refine (HP.out.call _ (HTb.out.alloc _)).mono ?_
  rintro e w4 ⟨rfl, hb4⟩
  have hbel4 : Below w.heap.size w w4 := (hbel.alloc hbel.size _).trans (hb4.mono (by have := hbel.size; simp; omega))
  have HK4 := Lib.hid ((hb4.block w.heap.size (by simp; omega)).trans ((Below.heap_alloc w3 _ _ hlt3).trans HK0.out))
  have HA4 := Lib.hid ((hb4.block w3.heap.size (by simp)).trans (heap_alloc_new w3 _))
  clear HK0 hbel hb4
  have HK0 := HK4
  have hbel := hbel4
  have a0 := (res_cells HA4.out).1
  have a1 := (res_cells HA4.out).2
  have d0 := (res_cells HK0.out).1
  have d1 := (res_cells HK0.out).2
  have e0 := blk_free HK0.out 0
  have e1 := blk_free HK0.out 1
  go_wp2_with fail
  clear a0 a1
  have hfin := blk_set (blk_set HK0.out 0 (.int .i64 n)) 1 (.int .u64 (c : Int))
  have hbf := (hbel.setCell (p := ⟨w.heap.size, 0, none⟩) (Nat.le_refl _) (.int .i64 n)).setCell (p := ⟨w.heap.size, 1, none⟩) (Nat.le_refl _) (.int .u64 (c : Int))
  clear d0 d1 e0 e1
  generalize (w4.setCell ⟨w.heap.size, 0, none⟩ (.int .i64 n)).setCell ⟨w.heap.size, 1, none⟩ (.int .u64 (c : Int)) = wf at *
  have q0 : wf.cell? ⟨w.heap.size, 0, none⟩ = some (.int .i64 n) := blk_cell hfin 0
  have q1 : wf.cell? ⟨w.heap.size, 1, none⟩ = some (.int .u64 (c : Int)) := blk_cell hfin 1
  exact bodyPost_ret (v := .tuple #[.agg #[.int .i64 n, .int .u64 (c : Int)], .bool true]) (by simp [results, Tryd.results71, go_sem, q0, q1]) rfl ⟨rfl, hbf⟩

end Go.Proofs.YthkdpokdmkkdjaaDoor.L

namespace Go.Proofs.YthkdpokdmkkdjaaDoor.L
open Go.RowKit
open T

theorem ofGo_small : ∀ (xs : List Int) (c d : Nat), c < 18446744073709551616 → ofGo xs c = some d → d < 18446744073709551616
  | [], c, d, hc, h => by simp [ofGo] at h; omega
  | x :: r, c, d, hc, h => by
    rw [ofGo] at h
    split at h
    · cases h
    · next hx => exact ofGo_small r _ d (or_small hc (Nat.pow_lt_pow_right (a := 2) (n := 64) (by omega) (by omega))) h
theorem ofAll_small {l : Int} {xs : List Int} {c : Nat} (h : ofAll l xs = some c) : c < 18446744073709551616 := by
  unfold ofAll at h
  split at h
  · exact ofGo_small xs 0 c (by omega) h
  · cases h
theorem parts_len (c : UInt8) : ∀ l cur : List UInt8, (partsGo c cur l).length ≤ l.length + 1
  | [], cur => by simp [partsGo]
  | x :: r, cur => by
    rw [partsGo]
    split
    · have := parts_len c r []; simp; omega
    · have := parts_len c r (cur ++ [x]); simp; omega
theorem numsOf_len : ∀ (ps : List (List UInt8)) (xs : List Nat), numsOf ps = some xs → xs.length = ps.length
  | [], xs, h => by simp [numsOf] at h; simp [← h]
  | p :: r, xs, h => by
    rw [numsOf, Option.bind_eq_some_iff] at h
    obtain ⟨n, _, h⟩ := h
    rw [Option.map_eq_some_iff] at h
    obtain ⟨ys, hy, rfl⟩ := h
    simp [numsOf_len r ys hy]
theorem nums_len {l : List UInt8} {xs : List Nat} (h : nums l = some xs) : xs.length ≤ l.length + 1 := by
  rw [numsOf_len _ _ h]; exact parts_len 44 l []

theorem pr_is (n : Nat) (c : Nat) (hn : n ≤ 2147483647) (hc : c < 18446744073709551616) : Pr n c ⟨(print n c).toArray⟩ := fun w ht => print_any n c w (by omega) (by omega) hc ht
theorem eta (s : ByteArray) : (⟨s.data.toList.toArray⟩ : ByteArray) = s := by cases s; simp
theorem str_ne {l : List UInt8} {s : ByteArray} (h : ¬ l = s.data.toList) : ((⟨l.toArray⟩ : ByteArray).toList == s.toList) = false := by
  rw [Lib.toList_data, Lib.toList_data]; exact beq_eq_false_iff_ne.2 h

theorem parse_any (s : ByteArray) (w : World) (hs : s.size ≤ 4194304) (ht : Tab w) :
    Calls Tryd.prog 71 #[.string s] w fun e w' => e = .returned (parseVal (parse s.data.toList)) ∧ Below w.heap.size w w' := by
  have hmx : s.size ≤ maxLen := by simp only [maxLen]; omega
  unfold parse
  cases hsp : split 58 s.data.toList with
  | none =>
    have HC := Lib.hid (ct_none hmx hsp)
    cases hnum : P.number s.data.toList with
    | none => exact parse_head s s _ false w HC (Lib.hid (nm_none hmx hnum))
    | some n =>
      have hn := (P.dec_number _ _ hnum).2
      have HN := Lib.hid (nm_some hmx hnum)
      show Calls _ _ _ _ fun e w' => e = .returned (parseVal (parseRest s.data.toList n (some []))) ∧ _
      unfold parseRest
      cases hof : ofAll n [] with
      | none =>
        have := parse_none_err s s _ n w HC HN (Lib.hid hof)
        simpa [hof, parseVal] using this
      | some c =>
        have hP := pr_is n c hn (ofAll_small hof)
        by_cases hp : print n c = s.data.toList
        · rw [hp, eta] at hP
          have := parse_none_yes s s _ n w HC HN c (Lib.hid hof) (Lib.hid hP) (Lib.hid ht)
          simpa [hof, hp, parseVal] using this
        · have := parse_none_not s s _ n w HC HN c _ (Lib.hid hof) (Lib.hid hP) (Lib.hid ht) (str_ne hp)
          simpa [hof, hp, parseVal] using this
  | some q =>
    obtain ⟨a, b⟩ := q
    have HC := Lib.hid (ct_some hmx hsp)
    have hsl := split_len hsp
    rw [← Lib.size_eq] at hsl
    have hma : (⟨a.toArray⟩ : ByteArray).size ≤ maxLen := by rw [size_list]; simp only [maxLen]; omega
    have hmb : (⟨b.toArray⟩ : ByteArray).size ≤ 4194304 := by rw [size_list]; omega
    cases hnum : P.number a with
    | none =>
      have := parse_head s ⟨a.toArray⟩ _ true w HC (Lib.hid (nm_none hma hnum))
      simpa [hnum, parseVal] using this
    | some n =>
      have hn := (P.dec_number _ _ hnum).2
      have HN := Lib.hid (nm_some (s := ⟨a.toArray⟩) hma hnum)
      cases hns : nums b with
      | none =>
        have := parse_nums s ⟨a.toArray⟩ ⟨b.toArray⟩ n w hmb HC HN (Lib.hid hns)
        simpa [hnum, hns, parseRest, parseVal] using this
      | some xs =>
        have hxl := nums_len hns
        have HX : Hid (xs.length ≤ maxLen) := Lib.hid (by simp only [maxLen]; omega)
        cases hof : ofAll n (xs.map fun x : Nat => (x : Int)) with
        | none =>
          have := parse_some_err s ⟨a.toArray⟩ ⟨b.toArray⟩ n xs w hmb HX HC HN (Lib.hid hns) (Lib.hid hof)
          simpa [hnum, hns, hof, parseRest, parseVal] using this
        | some c =>
          have hP := pr_is n c hn (ofAll_small hof)
          by_cases hp : print n c = s.data.toList
          · rw [hp, eta] at hP
            have := parse_some_yes s ⟨a.toArray⟩ ⟨b.toArray⟩ n xs w hmb HX HC HN (Lib.hid hns) c (Lib.hid hof) (Lib.hid hP) (Lib.hid ht)
            simpa [hnum, hns, hof, parseRest, hp, parseVal] using this
          · have := parse_some_not s ⟨a.toArray⟩ ⟨b.toArray⟩ n xs w hmb HX HC HN (Lib.hid hns) c _ (Lib.hid hof) (Lib.hid hP) (Lib.hid ht) (str_ne hp)
            simpa [hnum, hns, hof, parseRest, hp, parseVal] using this

theorem dec_digit (n : Nat) (h : n < 10) : P.decimal (n : Int) = [UInt8.ofNat (48 + n)] := by
  rw [P.decimal_in _ (by omega) (by omega), Int.toNat_natCast, Lib.decDigits_one h]
theorem print_live : print 3 129 = [51, 58, 48, 44, 55] := by
  have hc : catsTo 129 64 = [0, 7] := by decide
  unfold print
  rw [hc, if_neg (by simp)]
  unfold catsText Lib.join
  rw [show ((3 : Int)) = ((3 : Nat) : Int) from rfl, dec_digit 3 (by omega)]
  simp only [List.map_cons, List.map_nil]
  rw [dec_digit 0 (by omega), dec_digit 7 (by omega)]
  decide
theorem of_live : ofAll 3 [0, 7] = some 129 := by decide
theorem of_live2 : ofAll 3 [7, 0] = some 129 := by decide
theorem parse_live : parse [51, 58, 48, 44, 55] = some (3, 129) := by
  have h1 : split 58 [51, 58, 48, 44, 55] = some ([51], [48, 44, 55]) := by decide
  have h2 : P.number [51] = some 3 := by decide
  have h3 : nums [48, 44, 55] = some [0, 7] := by decide
  have h4 : ofAll ((3 : Nat) : Int) ([0, 7].map fun x : Nat => (x : Int)) = some 129 := of_live
  have h5 : print ((3 : Nat) : Int) 129 = [51, 58, 48, 44, 55] := print_live
  unfold parse
  rw [h1]
  simp only [h2, Option.bind_some, parseRest, h3, h4, h5, if_true]
theorem parse_dead : parse [51, 58, 55, 44, 48] = none := by
  have h1 : split 58 [51, 58, 55, 44, 48] = some ([51], [55, 44, 48]) := by decide
  have h2 : P.number [51] = some 3 := by decide
  have h3 : nums [55, 44, 48] = some [7, 0] := by decide
  have h4 : ofAll ((3 : Nat) : Int) ([7, 0].map fun x : Nat => (x : Int)) = some 129 := of_live2
  have h5 : print ((3 : Nat) : Int) 129 = [51, 58, 48, 44, 55] := print_live
  unfold parse
  rw [h1]
  simp only [h2, Option.bind_some, parseRest, h3, h4, h5]
  decide
end Go.Proofs.YthkdpokdmkkdjaaDoor.L

namespace Go.Proofs.YthkdpokdmkkdjaaDoor.L
open T

/-- Digits and the sign for a number that has no text. -/
theorem dec_no (n : Int) (c : UInt8) (hc : c = 58 ∨ c = 44) : ∀ x ∈ P.decimal n, x ≠ c := by
  have hd : ∀ u : Nat, ∀ x ∈ Lib.decDigits u, 48 ≤ x.toNat ∧ x.toNat ≤ 57 := by
    intro u
    induction u using Nat.strongRecOn with
    | ind u ih =>
      intro x hx
      rw [Lib.decDigits] at hx
      split at hx
      · next h =>
        rw [List.mem_singleton.1 hx, P.digit u h]; omega
      · next h =>
        rw [List.mem_append] at hx
        rcases hx with hx | hx
        · exact ih (u / 10) (by omega) x hx
        · rw [List.mem_singleton.1 hx, P.digit _ (by omega)]; omega
  intro x hx e
  subst e
  unfold P.decimal at hx
  split at hx
  · simp at hx; rcases hc with h | h <;> rw [hx] at h <;> exact absurd h (by decide)
  · have := hd _ x hx
    rcases hc with h | h <;> rw [h] at this <;> simp at this
theorem split_no {c : UInt8} : ∀ {l : List UInt8}, (∀ x ∈ l, x ≠ c) → split c l = none
  | [], _ => rfl
  | x :: r, h => by
    rw [split, if_neg (h x (by simp)), split_no (fun y hy => h y (by simp [hy]))]; rfl
theorem split_at {c : UInt8} : ∀ {l r : List UInt8}, (∀ x ∈ l, x ≠ c) → split c (l ++ c :: r) = some (l, r)
  | [], r, _ => by simp [split]
  | x :: t, r, h => by
    rw [List.cons_append, split, if_neg (h x (by simp)), split_at (fun y hy => h y (by simp [hy]))]; rfl
theorem nums_text : ∀ (xs : List Nat), xs ≠ [] → (∀ x ∈ xs, x ≤ 2147483647) → nums (catsText xs) = some xs
  | [x], _, h => by
    unfold catsText Lib.join
    simp only [List.map_cons, List.map_nil]
    have e : [44].intercalate [P.decimal (x : Int)] = P.decimal (x : Int) := by simp
    rw [e, nums_none (split_no (dec_no _ 44 (.inr rfl))), P.number_decimal _ (by omega) (by have := h x (by simp); omega)]
    simp
  | x :: y :: r, _, h => by
    have ih := nums_text (y :: r) (by simp) (fun z hz => h z (by simp [hz]))
    have e : catsText (x :: y :: r) = P.decimal (x : Int) ++ 44 :: catsText (y :: r) := by
      unfold catsText Lib.join
      rw [List.map_cons, List.map_cons, List.intercalate_cons_cons]
      simp
    rw [e, nums_some (split_at (dec_no _ 44 (.inr rfl))), P.number_decimal _ (by omega) (by have := h x (by simp); omega), ih]
    simp

/-- The categories put together again. -/
theorem ofGo_cats (xs : List Nat) : ∀ c, (∀ x ∈ xs, x < 64) → ofGo (xs.map fun x : Nat => (x : Int)) c = some (xs.foldl (fun a x => a ||| 2 ^ x) c) := by
  induction xs with
  | nil => intro c _; rfl
  | cons x r ih =>
    intro c h
    have hx := h x (by simp)
    rw [List.map_cons, ofGo, if_neg (by omega), Int.toNat_natCast, ih _ (fun y hy => h y (by simp [hy]))]
    rfl
theorem fold_bit (xs : List Nat) : ∀ (c i : Nat), (xs.foldl (fun a x => a ||| 2 ^ x) c).testBit i = (c.testBit i || decide (i ∈ xs)) := by
  induction xs with
  | nil => intro c i; simp
  | cons x r ih =>
    intro c i
    rw [List.foldl_cons, ih, Nat.testBit_or, Nat.testBit_two_pow]
    by_cases e : x = i
    · subst e; simp
    · have : ¬ i = x := fun h => e h.symm
      simp [e, this]
theorem cats_back (c : Nat) (hc : c < 18446744073709551616) : (catsTo c 64).foldl (fun a x => a ||| 2 ^ x) 0 = c := by
  apply Nat.eq_of_testBit_eq
  intro i
  rw [fold_bit]
  simp only [Nat.zero_testBit, Bool.false_or]
  unfold catsTo
  by_cases hi : i < 64
  · cases hb : c.testBit i with
    | true => simp [List.mem_filter, hi, hb]
    | false => simp [List.mem_filter, hb]
  · rw [Nat.testBit_lt_two_pow (Nat.lt_of_lt_of_le hc (Nat.pow_le_pow_right (n := 2) (by omega) (show 64 ≤ i by omega)))]
    simp [List.mem_filter]; omega
theorem cats_small (c : Nat) : ∀ x ∈ catsTo c 64, x < 64 := fun x hx => by
  unfold catsTo at hx
  rw [List.mem_filter, List.mem_range] at hx
  exact hx.1

theorem parse_print (l : Int) (c : Nat) (hc : c < 18446744073709551616) (h : rightB l = true) : parse (print l c) = some (l.toNat, c) := by
  have hr := h
  unfold rightB at h
  rw [Bool.and_eq_true, decide_eq_true_iff, decide_eq_true_iff] at h
  obtain ⟨n, rfl⟩ := Int.eq_ofNat_of_zero_le h.1
  have hnum : P.number (P.decimal (n : Int)) = some n := by
    have := P.number_decimal (n : Int) (by omega) (by omega)
    rwa [Int.toNat_natCast] at this
  have hof : ofAll (n : Int) ((catsTo c 64).map fun x : Nat => (x : Int)) = some c := by
    rw [ofAll, hr, if_pos rfl, ofGo_cats _ 0 (cats_small c), cats_back c hc]
  rw [Int.toNat_natCast]
  unfold parse
  by_cases he : catsTo c 64 = []
  · have hp : print (n : Int) c = P.decimal (n : Int) := by rw [print, if_pos he]
    have hsp : split 58 (print (n : Int) c) = none := by rw [hp]; exact split_no (dec_no _ 58 (.inl rfl))
    rw [he] at hof
    rw [hsp]
    show (P.number (print (n : Int) c)).bind _ = _
    rw [hp, hnum]
    show parseRest _ n (some []) = _
    rw [parseRest, Option.bind_some]
    simp only [hof, Option.bind_some]
    rw [← hp, if_pos rfl]
  · have hp : print (n : Int) c = P.decimal (n : Int) ++ 58 :: catsText (catsTo c 64) := by rw [print, if_neg he]; simp
    have hsp : split 58 (print (n : Int) c) = some (P.decimal (n : Int), catsText (catsTo c 64)) := by rw [hp]; exact split_at (dec_no _ 58 (.inl rfl))
    have hns := nums_text (catsTo c 64) he (fun x hx => by have := cats_small c x hx; omega)
    rw [hsp]
    show (P.number (P.decimal (n : Int))).bind _ = _
    rw [hnum]
    show parseRest _ n (nums (catsText (catsTo c 64))) = _
    rw [hns, parseRest, Option.bind_some, hof, Option.bind_some, if_pos rfl]

theorem parse_not (l : Int) (c : Nat) (h : rightB l = false) : parse (print l c) = none := by
  have key : ∀ (o : Option (List Nat)), (P.number (P.decimal l)).bind (fun n => parseRest (print l c) n o) = none := by
    intro o
    by_cases hl : l < 0 ∨ 2147483647 < l
    · rw [P.number_untold l hl]; rfl
    · obtain ⟨n, rfl⟩ := Int.eq_ofNat_of_zero_le (show 0 ≤ l by omega)
      have hnum := P.number_decimal (n : Int) (by omega) (by omega)
      rw [Int.toNat_natCast] at hnum
      rw [hnum, Option.bind_some, parseRest]
      cases o with
      | none => rfl
      | some xs =>
        rw [Option.bind_some, ofAll, h]; rfl
  unfold parse
  by_cases he : catsTo c 64 = []
  · have hp : print l c = P.decimal l := by rw [print, if_pos he]
    have hsp : split 58 (print l c) = none := by rw [hp]; exact split_no (dec_no _ 58 (.inl rfl))
    rw [hsp]
    have := key (some [])
    rwa [← hp] at this
  · have hp : print l c = P.decimal l ++ 58 :: catsText (catsTo c 64) := by rw [print, if_neg he]; simp
    have hsp : split 58 (print l c) = some (P.decimal l, catsText (catsTo c 64)) := by rw [hp]; exact split_at (dec_no _ 58 (.inl rfl))
    rw [hsp]
    exact key _
theorem print_parse {l : List UInt8} {n c : Nat} (h : parse l = some (n, c)) : print n c = l ∧ c < 18446744073709551616 ∧ n ≤ 15 := by
  have key : ∀ (m : Nat) (o : Option (List Nat)), parseRest l m o = some (n, c) → print n c = l ∧ c < 18446744073709551616 ∧ n ≤ 15 := by
    intro m o hr
    rw [parseRest, Option.bind_eq_some_iff] at hr
    obtain ⟨xs, _, hr⟩ := hr
    rw [Option.bind_eq_some_iff] at hr
    obtain ⟨c', hc', hr⟩ := hr
    split at hr
    · next hp =>
      injection hr with hr
      injection hr with h1 h2
      subst h1 h2
      refine ⟨hp, ofAll_small hc', ?_⟩
      unfold ofAll at hc'
      split at hc'
      · next hb => unfold rightB at hb; rw [Bool.and_eq_true, decide_eq_true_iff, decide_eq_true_iff] at hb; omega
      · cases hc'
    · cases hr
  unfold parse at h
  split at h
  · rw [Option.bind_eq_some_iff] at h
    obtain ⟨m, _, h⟩ := h
    exact key m _ h
  · rw [Option.bind_eq_some_iff] at h
    obtain ⟨m, _, h⟩ := h
    exact key m _ h
theorem print_len (l : Int) (c : Nat) : (print l c).length ≤ 1000 := by
  have h1 := P.decimal_length l
  have h2 := join_len (catsTo c 64)
  have h3 := catsTo_len c 64
  unfold print
  split
  · omega
  · simp; omega
end Go.Proofs.YthkdpokdmkkdjaaDoor.L
