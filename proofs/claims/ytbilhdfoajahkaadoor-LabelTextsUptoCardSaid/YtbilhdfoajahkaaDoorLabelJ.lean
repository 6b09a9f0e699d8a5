/-
  The contract of label's Parse, from the call of Of on: for every text of at most 2^22 bytes.
-/
import Derived.Test.YtbilhdfoajahkaaDoorLabelI
namespace Go.Proofs.YtbilhdfoajahkaaDoor.L
open Go.RowKit
open T

theorem of_own {B : Nat} (l : Int) (A : Option Addr) (cap : Nat) (xs : List Nat) (w : World) (hlen : xs.length ≤ maxLen) (hA : 0 < xs.length → ∃ g, A = some ⟨g, 0, none⟩ ∧ B ≤ g ∧ g < w.heap.size ∧ ∀ j u, (intCells xs)[j]? = some u → w.cell? ⟨g, j, none⟩ = some u) :
    Of l A xs.length cap (ofVal l (ofAll l (xs.map fun x : Nat => (x : Int)))) w := by
  have h := of_any l A cap (xs.map fun x : Nat => (x : Int)) w (by simpa using hlen) (fun hp => by
    obtain ⟨g, rfl, _, hg, hc⟩ := hA (by simpa using hp)
    refine ⟨g, 0, rfl, hg, fun j hj => ?_⟩
    rw [Nat.zero_add]
    refine hc j _ ?_
    have hj' : j < xs.length := by simpa using hj
    simp [intCells, List.getElem?_eq_getElem hj'])
  rw [List.length_map] at h
  exact h

set_option maxHeartbeats 1000000 in
set_option maxRecDepth 100000 in
theorem parse_some_err (s h r : ByteArray) (n : Int) (xs : List Nat) (w : World) (hr : r.size ≤ 4194304) (HX : Hid (xs.length ≤ maxLen)) (HC : Hid (Ct s 58 (.tuple #[.string h, .string r, .bool true]))) (HN : Hid (Nm h n true)) (HM : Hid (nums r.data.toList = some xs)) (HV : Hid (ofAll n (xs.map fun x : Nat => (x : Int)) = none)) :
    Calls Tryd.prog 45 #[.string s] w fun e w' => e = .returned (.tuple #[lab 0 0, .bool false]) ∧ Below w.heap.size w w' := by
  go_enter Tryd.func45, Tryd.ntmps45
  go_wp2_with fail
  with_reducible refine (HC.out.call _).mono ?_
  rintro e w1 ⟨rfl, hb1⟩
  have HK1 := Lib.hid ((hb1.block w.heap.size (by simp)).trans (heap_alloc_new w _))
  have hbe1 : Below w.heap.size w w1 := ((Below.refl _ _).alloc (Nat.le_refl _) _).trans (hb1.mono (by simp))
  clear hb1
  go_wp2_with fail
  with_reducible refine (HN.out.call _).mono ?_
  rintro e w2 ⟨rfl, rfl⟩
  go_wp2_with fail
  with_reducible refine (numbers_any r _ hr).mono ?_
  rintro e w2 (⟨ys, v, hx, rfl, hown, hb2⟩ | ⟨hx, _⟩)
  rotate_left
  · rw [HM.out] at hx; cases hx
  rw [HM.out] at hx
  obtain rfl : xs = ys := by injection hx
  have hbe2 : Below w.heap.size w w2 := hbe1.trans (hb2.mono hbe1.size)
  have HK2 := Lib.hid ((hb2.block w.heap.size (blk_lt HK1.out)).trans HK1.out)
  obtain ⟨A, cap, hv, hcap, hA⟩ := own_form hown
  subst hv
  have HO := Lib.hid (of_own n A cap xs w2 HX.out hA)
  rw [HV.out] at HO
  clear hb2 HK1 hbe1 hA hown hx
  go_wp2_with fail
  with_reducible refine (HO.out.call).mono ?_
  rintro e w3 ⟨rfl, hb3⟩
  simp only [ofVal]
  have hbel : Below w.heap.size w w3 := hbe2.trans (hb3.mono hbe2.size)
  have HK0 := Lib.hid ((hb3.block w.heap.size (blk_lt HK2.out)).trans HK2.out)
  have hlt3 := blk_lt HK0.out
  have d0 := (res_cells HK0.out).1
  have d1 := (res_cells HK0.out).2
  have e0 := blk_free HK0.out 0
  have e1 := blk_free HK0.out 1
  clear hb3
  go_wp2_with fail
  have hfin := blk_set (blk_set HK0.out 0 (.int .i64 0)) 1 (.int .u64 0)
  have hbf := (hbel.setCell (p := ⟨w.heap.size, 0, none⟩) (Nat.le_refl _) (.int .i64 0)).setCell (p := ⟨w.heap.size, 1, none⟩) (Nat.le_refl _) (.int .u64 0)
  clear d0 d1 e0 e1
  generalize (w3.setCell ⟨w.heap.size, 0, none⟩ (.int .i64 0)).setCell ⟨w.heap.size, 1, none⟩ (.int .u64 0) = wg at *
  have hz : w.heap.size < wg.heap.size := blk_lt hfin
  have hfo := (Below.heap_alloc wg (.cells #[.int .i64 0, .int .u64 0] 40) _ hz).trans hfin
  have hbo := hbf.alloc (Nat.le_of_lt hz) (.cells #[.int .i64 0, .int .u64 0] 40)
  clear hfin hbf
  generalize wg.alloc (.cells #[.int .i64 0, .int .u64 0] 40) = wf at *
  have q0 : wf.cell? ⟨w.heap.size, 0, none⟩ = some (.int .i64 0) := blk_cell hfo 0
  have q1 : wf.cell? ⟨w.heap.size, 1, none⟩ = some (.int .u64 0) := blk_cell hfo 1
  exact bodyPost_ret (v := .tuple #[.agg #[.int .i64 0, .int .u64 0], .bool false]) (by simp [results, Tryd.results45, go_sem, q0, q1]) rfl ⟨rfl, hbo⟩

set_option maxHeartbeats 1000000 in
set_option maxRecDepth 100000 in
theorem parse_some_not (s h r : ByteArray) (n : Int) (xs : List Nat) (w : World) (hr : r.size ≤ 4194304) (HX : Hid (xs.length ≤ maxLen)) (HC : Hid (Ct s 58 (.tuple #[.string h, .string r, .bool true]))) (HN : Hid (Nm h n true)) (HM : Hid (nums r.data.toList = some xs)) (c : Nat) (d : ByteArray) (HV : Hid (ofAll n (xs.map fun x : Nat => (x : Int)) = some c)) (HP : Hid (Pr n c d)) (HT : Hid (Tab w)) (hne : (d.toList == s.toList) = false) :
    Calls Tryd.prog 45 #[.string s] w fun e w' => e = .returned (.tuple #[lab 0 0, .bool false]) ∧ Below w.heap.size w w' := by
  go_enter Tryd.func45, Tryd.ntmps45
  go_wp2_with fail
  with_reducible refine (HC.out.call _).mono ?_
  rintro e w1 ⟨rfl, hb1⟩
  have HK1 := Lib.hid ((hb1.block w.heap.size (by simp)).trans (heap_alloc_new w _))
  have hbe1 : Below w.heap.size w w1 := ((Below.refl _ _).alloc (Nat.le_refl _) _).trans (hb1.mono (by simp))
  clear hb1
  go_wp2_with fail
  with_reducible refine (HN.out.call _).mono ?_
  rintro e w2 ⟨rfl, rfl⟩
  go_wp2_with fail
  with_reducible refine (numbers_any r _ hr).mono ?_
  rintro e w2 (⟨ys, v, hx, rfl, hown, hb2⟩ | ⟨hx, _⟩)
  rotate_left
  · rw [HM.out] at hx; cases hx
  rw [HM.out] at hx
  obtain rfl : xs = ys := by injection hx
  have hbe2 : Below w.heap.size w w2 := hbe1.trans (hb2.mono hbe1.size)
  have HK2 := Lib.hid ((hb2.block w.heap.size (blk_lt HK1.out)).trans HK1.out)
  obtain ⟨A, cap, hv, hcap, hA⟩ := own_form hown
  subst hv
  have HO := Lib.hid (of_own n A cap xs w2 HX.out hA)
  rw [HV.out] at HO
  clear hb2 HK1 hbe1 hA hown hx
  go_wp2_with fail
  with_reducible refine (HO.out.call).mono ?_
  rintro e w3 ⟨rfl, hb3⟩
  simp only [ofVal]
  have hbel : Below w.heap.size w w3 := hbe2.trans (hb3.mono hbe2.size)
  have HK0 := Lib.hid ((hb3.block w.heap.size (blk_lt HK2.out)).trans HK2.out)
  have hlt3 := blk_lt HK0.out
  have HTb := Lib.hid (HT.out.later hbel)
  clear hb3
  go_wp2_with fail
  with_reducible refine (HP.out.call _ (HTb.out.alloc _)).mono ?_
  rintro e w4 ⟨rfl, hb4⟩
  have hbel4 : Below w.heap.size w w4 := (hbel.alloc hbel.size _).trans (hb4.mono (by have := hbel.size; simp; omega))
  have HK4 := Lib.hid ((hb4.block w.heap.size (by simp; omega)).trans ((Below.heap_alloc w3 _ _ hlt3).trans HK0.out))
  have HA4 := Lib.hid ((hb4.block w3.heap.size (by simp)).trans (heap_alloc_new w3 _))
  clear HK0 hbel hb4
  have HK0 := HK4
  have hbel := hbel4
  have a0 := (res_cells HA4.out).1
  have a1 := (res_cells HA4.out).2
  have d0 := (res_cells HK0.out).1
  have d1 := (res_cells HK0.out).2
  have e0 := blk_free HK0.out 0
  have e1 := blk_free HK0.out 1
  go_wp2_with fail
  clear a0 a1
  have hfin := blk_set (blk_set HK0.out 0 (.int .i64 0)) 1 (.int .u64 0)
  have hbf := (hbel.setCell (p := ⟨w.heap.size, 0, none⟩) (Nat.le_refl _) (.int .i64 0)).setCell (p := ⟨w.heap.size, 1, none⟩) (Nat.le_refl _) (.int .u64 0)
  clear d0 d1 e0 e1
  generalize (w4.setCell ⟨w.heap.size, 0, none⟩ (.int .i64 0)).setCell ⟨w.heap.size, 1, none⟩ (.int .u64 0) = wf at *
  have q0 : wf.cell? ⟨w.heap.size, 0, none⟩ = some (.int .i64 0) := blk_cell hfin 0
  have q1 : wf.cell? ⟨w.heap.size, 1, none⟩ = some (.int .u64 0) := blk_cell hfin 1
  exact bodyPost_ret (v := .tuple #[.agg #[.int .i64 0, .int .u64 0], .bool false]) (by simp [results, Tryd.results45, go_sem, q0, q1]) rfl ⟨rfl, hbf⟩

set_option maxHeartbeats 1000000 in
set_option maxRecDepth 100000 in
theorem parse_some_yes (s h r : ByteArray) (n : Int) (xs : List Nat) (w : World) (hr : r.size ≤ 4194304) (HX : Hid (xs.length ≤ maxLen)) (HC : Hid (Ct s 58 (.tuple #[.string h, .string r, .bool true]))) (HN : Hid (Nm h n true)) (HM : Hid (nums r.data.toList = some xs)) (c : Nat) (HV : Hid (ofAll n (xs.map fun x : Nat => (x : Int)) = some c)) (HP : Hid (Pr n c s)) (HT : Hid (Tab w)) :
    Calls Tryd.prog 45 #[.string s] w fun e w' => e = .returned (.tuple #[lab n c, .bool true]) ∧ Below w.heap.size w w' := by
  go_enter Tryd.func45, Tryd.ntmps45
  go_wp2_with fail
  with_reducible refine (HC.out.call _).mono ?_
  rintro e w1 ⟨rfl, hb1⟩
  have HK1 := Lib.hid ((hb1.block w.heap.size (by simp)).trans (heap_alloc_new w _))
  have hbe1 : Below w.heap.size w w1 := ((Below.refl _ _).alloc (Nat.le_refl _) _).trans (hb1.mono (by simp))
  clear hb1
  go_wp2_with fail
  with_reducible refine (HN.out.call _).mono ?_
  rintro e w2 ⟨rfl, rfl⟩
  go_wp2_with fail
  with_reducible refine (numbers_any r _ hr).mono ?_
  rintro e w2 (⟨ys, v, hx, rfl, hown, hb2⟩ | ⟨hx, _⟩)
  rotate_left
  · rw [HM.out] at hx; cases hx
  rw [HM.out] at hx
  obtain rfl : xs = ys := by injection hx
  have hbe2 : Below w.heap.size w w2 := hbe1.trans (hb2.mono hbe1.size)
  have HK2 := Lib.hid ((hb2.block w.heap.size (blk_lt HK1.out)).trans HK1.out)
  obtain ⟨A, cap, hv, hcap, hA⟩ := own_form hown
  subst hv
  have HO := Lib.hid (of_own n A cap xs w2 HX.out hA)
  rw [HV.out] at HO
  clear hb2 HK1 hbe1 hA hown hx
  go_wp2_with fail
  with_reducible refine (HO.out.call).mono ?_
  rintro e w3 ⟨rfl, hb3⟩
  simp only [ofVal]
  have hbel : Below w.heap.size w w3 := hbe2.trans (hb3.mono hbe2.size)
  have HK0 := Lib.hid ((hb3.block w.heap.size (blk_lt HK2.out)).trans HK2.out)
  have hlt3 := blk_lt HK0.out
  have HTb := Lib.hid (HT.out.later hbel)
  clear hb3
  go_wp2_with fail
  with_reducible refine (HP.out.call _ (HTb.out.alloc _)).mono ?_
  rintro e w4 ⟨rfl, hb4⟩
  have hbel4 : Below w.heap.size w w4 := (hbel.alloc hbel.size _).trans (hb4.mono (by have := hbel.size; simp; omega))
  have HK4 := Lib.hid ((hb4.block w.heap.size (by simp; omega)).trans ((Below.heap_alloc w3 _ _ hlt3).trans HK0.out))
  have HA4 := Lib.hid ((hb4.block w3.heap.size (by simp)).trans (heap_alloc_new w3 _))
  clear HK0 hbel hb4
  have HK0 := HK4
  have hbel := hbel4
  have a0 := (res_cells HA4.out).1
  have a1 := (res_cells HA4.out).2
  have d0 := (res_cells HK0.out).1
  have d1 := (res_cells HK0.out).2
  have e0 := blk_free HK0.out 0
  have e1 := blk_free HK0.out 1
  go_wp2_with fail
  clear a0 a1
  have hfin := blk_set (blk_set HK0.out 0 (.int .i64 n)) 1 (.int .u64 (c : Int))
  have hbf := (hbel.setCell (p := ⟨w.heap.size, 0, none⟩) (Nat.le_refl _) (.int .i64 n)).setCell (p := ⟨w.heap.size, 1, none⟩) (Nat.le_refl _) (.int .u64 (c : Int))
  clear d0 d1 e0 e1
  generalize (w4.setCell ⟨w.heap.size, 0, none⟩ (.int .i64 n)).setCell ⟨w.heap.size, 1, none⟩ (.int .u64 (c : Int)) = wf at *
  have q0 : wf.cell? ⟨w.heap.size, 0, none⟩ = some (.int .i64 n) := blk_cell hfin 0
  have q1 : wf.cell? ⟨w.heap.size, 1, none⟩ = some (.int .u64 (c : Int)) := blk_cell hfin 1
  exact bodyPost_ret (v := .tuple #[.agg #[.int .i64 n, .int .u64 (c : Int)], .bool true]) (by simp [results, Tryd.results45, go_sem, q0, q1]) rfl ⟨rfl, hbf⟩

set_option maxHeartbeats 1000000 in
set_option maxRecDepth 100000 in
theorem parse_none_err (s h r : ByteArray) (n : Int) (w : World) (HC : Hid (Ct s 58 (.tuple #[.string h, .string r, .bool false]))) (HN : Hid (Nm h n true)) (HV : Hid (ofAll n [] = none)) :
    Calls Tryd.prog 45 #[.string s] w fun e w' => e = .returned (.tuple #[lab 0 0, .bool false]) ∧ Below w.heap.size w w' := by
  go_enter Tryd.func45, Tryd.ntmps45
  go_wp2_with fail
  with_reducible refine (HC.out.call _).mono ?_
  rintro e w1 ⟨rfl, hb1⟩
  have HK1 := Lib.hid ((hb1.block w.heap.size (by simp)).trans (heap_alloc_new w _))
  have hbe1 : Below w.heap.size w w1 := ((Below.refl _ _).alloc (Nat.le_refl _) _).trans (hb1.mono (by simp))
  clear hb1
  go_wp2_with fail
  with_reducible refine (HN.out.call _).mono ?_
  rintro e w2 ⟨rfl, rfl⟩
  go_wp2_with fail
  have HK2 := HK1
  have hbe2 := hbe1
  have HO : Hid (Of n none 0 0 (ofVal n (ofAll n [])) w1) := Lib.hid (of_any n none 0 [] w1 (by simp [maxLen]) (fun h => absurd h (by simp)))
  rw [HV.out] at HO
  clear HK1 hbe1
  with_reducible refine (HO.out.call).mono ?_
  rintro e w3 ⟨rfl, hb3⟩
  simp only [ofVal]
  have hbel : Below w.heap.size w w3 := hbe2.trans (hb3.mono hbe2.size)
  have HK0 := Lib.hid ((hb3.block w.heap.size (blk_lt HK2.out)).trans HK2.out)
  have hlt3 := blk_lt HK0.out
  have d0 := (res_cells HK0.out).1
  have d1 := (res_cells HK0.out).2
  have e0 := blk_free HK0.out 0
  have e1 := blk_free HK0.out 1
  clear hb3
  go_wp2_with fail
  have hfin := blk_set (blk_set HK0.out 0 (.int .i64 0)) 1 (.int .u64 0)
  have hbf := (hbel.setCell (p := ⟨w.heap.size, 0, none⟩) (Nat.le_refl _) (.int .i64 0)).setCell (p := ⟨w.heap.size, 1, none⟩) (Nat.le_refl _) (.int .u64 0)
  clear d0 d1 e0 e1
  generalize (w3.setCell ⟨w.heap.size, 0, none⟩ (.int .i64 0)).setCell ⟨w.heap.size, 1, none⟩ (.int .u64 0) = wg at *
  have hz : w.heap.size < wg.heap.size := blk_lt hfin
  have hfo := (Below.heap_alloc wg (.cells #[.int .i64 0, .int .u64 0] 40) _ hz).trans hfin
  have hbo := hbf.alloc (Nat.le_of_lt hz) (.cells #[.int .i64 0, .int .u64 0] 40)
  clear hfin hbf
  generalize wg.alloc (.cells #[.int .i64 0, .int .u64 0] 40) = wf at *
  have q0 : wf.cell? ⟨w.heap.size, 0, none⟩ = some (.int .i64 0) := blk_cell hfo 0
  have q1 : wf.cell? ⟨w.heap.size, 1, none⟩ = some (.int .u64 0) := blk_cell hfo 1
  exact bodyPost_ret (v := .tuple #[.agg #[.int .i64 0, .int .u64 0], .bool false]) (by simp [results, Tryd.results45, go_sem, q0, q1]) rfl ⟨rfl, hbo⟩

set_option maxHeartbeats 1000000 in
set_option maxRecDepth 100000 in
theorem parse_none_not (s h r : ByteArray) (n : Int) (w : World) (HC : Hid (Ct s 58 (.tuple #[.string h, .string r, .bool false]))) (HN : Hid (Nm h n true)) (c : Nat) (d : ByteArray) (HV : Hid (ofAll n [] = some c)) (HP : Hid (Pr n c d)) (HT : Hid (Tab w)) (hne : (d.toList == s.toList) = false) :
    Calls Tryd.prog 45 #[.string s] w fun e w' => e = .returned (.tuple #[lab 0 0, .bool false]) ∧ Below w.heap.size w w' := by
  go_enter Tryd.func45, Tryd.ntmps45
  go_wp2_with fail
  with_reducible refine (HC.out.call _).mono ?_
  rintro e w1 ⟨rfl, hb1⟩
  have HK1 := Lib.hid ((hb1.block w.heap.size (by simp)).trans (heap_alloc_new w _))
  have hbe1 : Below w.heap.size w w1 := ((Below.refl _ _).alloc (Nat.le_refl _) _).trans (hb1.mono (by simp))
  clear hb1
  go_wp2_with fail
  with_reducible refine (HN.out.call _).mono ?_
  rintro e w2 ⟨rfl, rfl⟩
  go_wp2_with fail
  have HK2 := HK1
  have hbe2 := hbe1
  have HO : Hid (Of n none 0 0 (ofVal n (ofAll n [])) w1) := Lib.hid (of_any n none 0 [] w1 (by simp [maxLen]) (fun h => absurd h (by simp)))
  rw [HV.out] at HO
  clear HK1 hbe1
  with_reducible refine (HO.out.call).mono ?_
  rintro e w3 ⟨rfl, hb3⟩
  simp only [ofVal]
  have hbel : Below w.heap.size w w3 := hbe2.trans (hb3.mono hbe2.size)
  have HK0 := Lib.hid ((hb3.block w.heap.size (blk_lt HK2.out)).trans HK2.out)
  have hlt3 := blk_lt HK0.out
  have HTb := Lib.hid (HT.out.later hbel)
  clear hb3
  go_wp2_with fail
  with_reducible refine (HP.out.call _ (HTb.out.alloc _)).mono ?_
  rintro e w4 ⟨rfl, hb4⟩
  have hbel4 : Below w.heap.size w w4 := (hbel.alloc hbel.size _).trans (hb4.mono (by have := hbel.size; simp; omega))
  have HK4 := Lib.hid ((hb4.block w.heap.size (by simp; omega)).trans ((Below.heap_alloc w3 _ _ hlt3).trans HK0.out))
  have HA4 := Lib.hid ((hb4.block w3.heap.size (by simp)).trans (heap_alloc_new w3 _))
  clear HK0 hbel hb4
  have HK0 := HK4
  have hbel := hbel4
  have a0 := (res_cells HA4.out).1
  have a1 := (res_cells HA4.out).2
  have d0 := (res_cells HK0.out).1
  have d1 := (res_cells HK0.out).2
  have e0 := blk_free HK0.out 0
  have e1 := blk_free HK0.out 1
  go_wp2_with fail
  clear a0 a1
  have hfin := blk_set (blk_set HK0.out 0 (.int .i64 0)) 1 (.int .u64 0)
  have hbf := (hbel.setCell (p := ⟨w.heap.size, 0, none⟩) (Nat.le_refl _) (.int .i64 0)).setCell (p := ⟨w.heap.size, 1, none⟩) (Nat.le_refl _) (.int .u64 0)
  clear d0 d1 e0 e1
  generalize (w4.setCell ⟨w.heap.size, 0, none⟩ (.int .i64 0)).setCell ⟨w.heap.size, 1, none⟩ (.int .u64 0) = wf at *
  have q0 : wf.cell? ⟨w.heap.size, 0, none⟩ = some (.int .i64 0) := blk_cell hfin 0
  have q1 : wf.cell? ⟨w.heap.size, 1, none⟩ = some (.int .u64 0) := blk_cell hfin 1
  exact bodyPost_ret (v := .tuple #[.agg #[.int .i64 0, .int .u64 0], .bool false]) (by simp [results, Tryd.results45, go_sem, q0, q1]) rfl ⟨rfl, hbf⟩

set_option maxHeartbeats 1000000 in
set_option maxRecDepth 100000 in
theorem parse_none_yes (s h r : ByteArray) (n : Int) (w : World) (HC : Hid (Ct s 58 (.tuple #[.string h, .string r, .bool false]))) (HN : Hid (Nm h n true)) (c : Nat) (HV : Hid (ofAll n [] = some c)) (HP : Hid (Pr n c s)) (HT : Hid (Tab w)) :
    Calls Tryd.prog 45 #[.string s] w fun e w' => e = .returned (.tuple #[lab n c, .bool true]) ∧ Below w.heap.size w w' := by
  go_enter Tryd.func45, Tryd.ntmps45
  go_wp2_with fail
  with_reducible refine (HC.out.call _).mono ?_
  rintro e w1 ⟨rfl, hb1⟩
  have HK1 := Lib.hid ((hb1.block w.heap.size (by simp)).trans (heap_alloc_new w _))
  have hbe1 : Below w.heap.size w w1 := ((Below.refl _ _).alloc (Nat.le_refl _) _).trans (hb1.mono (by simp))
  clear hb1
  go_wp2_with fail
  with_reducible refine (HN.out.call _).mono ?_
  rintro e w2 ⟨rfl, rfl⟩
  go_wp2_with fail
  have HK2 := HK1
  have hbe2 := hbe1
  have HO : Hid (Of n none 0 0 (ofVal n (ofAll n [])) w1) := Lib.hid (of_any n none 0 [] w1 (by simp [maxLen]) (fun h => absurd h (by simp)))
  rw [HV.out] at HO
  clear HK1 hbe1
  with_reducible refine (HO.out.call).mono ?_
  rintro e w3 ⟨rfl, hb3⟩
  simp only [ofVal]
  have hbel : Below w.heap.size w w3 := hbe2.trans (hb3.mono hbe2.size)
  have HK0 := Lib.hid ((hb3.block w.heap.size (blk_lt HK2.out)).trans HK2.out)
  have hlt3 := blk_lt HK0.out
  have HTb := Lib.hid (HT.out.later hbel)
  clear hb3
  go_wp2_with fail
  with_reducible refine (HP.out.call _ (HTb.out.alloc _)).mono ?_
  rintro e w4 ⟨rfl, hb4⟩
  have hbel4 : Below w.heap.size w w4 := (hbel.alloc hbel.size _).trans (hb4.mono (by have := hbel.size; simp; omega))
  have HK4 := Lib.hid ((hb4.block w.heap.size (by simp; omega)).trans ((Below.heap_alloc w3 _ _ hlt3).trans HK0.out))
  have HA4 := Lib.hid ((hb4.block w3.heap.size (by simp)).trans (heap_alloc_new w3 _))
  clear HK0 hbel hb4
  have HK0 := HK4
  have hbel := hbel4
  have a0 := (res_cells HA4.out).1
  have a1 := (res_cells HA4.out).2
  have d0 := (res_cells HK0.out).1
  have d1 := (res_cells HK0.out).2
  have e0 := blk_free HK0.out 0
  have e1 := blk_free HK0.out 1
  go_wp2_with fail
  clear a0 a1
  have hfin := blk_set (blk_set HK0.out 0 (.int .i64 n)) 1 (.int .u64 (c : Int))
  have hbf := (hbel.setCell (p := ⟨w.heap.size, 0, none⟩) (Nat.le_refl _) (.int .i64 n)).setCell (p := ⟨w.heap.size, 1, none⟩) (Nat.le_refl _) (.int .u64 (c : Int))
  clear d0 d1 e0 e1
  generalize (w4.setCell ⟨w.heap.size, 0, none⟩ (.int .i64 n)).setCell ⟨w.heap.size, 1, none⟩ (.int .u64 (c : Int)) = wf at *
  have q0 : wf.cell? ⟨w.heap.size, 0, none⟩ = some (.int .i64 n) := blk_cell hfin 0
  have q1 : wf.cell? ⟨w.heap.size, 1, none⟩ = some (.int .u64 (c : Int)) := blk_cell hfin 1
  exact bodyPost_ret (v := .tuple #[.agg #[.int .i64 n, .int .u64 (c : Int)], .bool true]) (by simp [results, Tryd.results45, go_sem, q0, q1]) rfl ⟨rfl, hbf⟩

end Go.Proofs.YtbilhdfoajahkaaDoor.L
