/-
  The contract of label's Parse: for every text of at most 2^22 bytes.
-/
import Derived.Test.YtbilhdfoajahkaaDoorLabelH
namespace Go.Proofs.YtbilhdfoajahkaaDoor.L
open Go.RowKit
open T

/-- A text's label. -/
def parseRest (l : List UInt8) (n : Nat) (o : Option (List Nat)) : Option (Nat × Nat) :=
  o.bind fun xs => (ofAll n (xs.map fun x : Nat => (x : Int))).bind fun c => if print n c = l then some (n, c) else none
def parse (l : List UInt8) : Option (Nat × Nat) :=
  match split 58 l with
  | none => (P.number l).bind fun n => parseRest l n (some [])
  | some p => (P.number p.1).bind fun n => parseRest l n (nums p.2)
def parseVal (o : Option (Nat × Nat)) : Value := match o with
  | some p => .tuple #[lab (p.1 : Int) p.2, .bool true]
  | none => .tuple #[lab 0 0, .bool false]

def Of (l : Int) (A : Option Addr) (n cap : Nat) (v : Value) (w : World) : Prop := Calls Tryd.prog 43 #[.int .i64 l, .slice A n cap] w fun e w' => e = .returned v ∧ Below w.heap.size w w'
theorem Of.call {l : Int} {A : Option Addr} {n cap : Nat} {v : Value} {w : World} (h : Of l A n cap v w) : Calls Tryd.prog 43 #[.int .i64 l, .slice A n cap] w fun e w' => e = .returned v ∧ Below w.heap.size w w' := h
def Pr (l : Int) (c : Nat) (s : ByteArray) : Prop := ∀ w : World, Tab w → Calls Tryd.prog 47 #[lab l c] w fun e w' => e = .returned (.string s) ∧ Below w.heap.size w w'
theorem Pr.call {l : Int} {c : Nat} {s : ByteArray} (h : Pr l c s) (w : World) (ht : Tab w) : Calls Tryd.prog 47 #[lab l c] w fun e w' => e = .returned (.string s) ∧ Below w.heap.size w w' := h w ht

set_option maxHeartbeats 1000000 in
set_option maxRecDepth 100000 in
theorem parse_head (s h r : ByteArray) (m : Bool) (w : World) (HC : Hid (Ct s 58 (.tuple #[.string h, .string r, .bool m]))) (HN : Hid (Nm h 0 false)) :
    Calls Tryd.prog 45 #[.string s] w fun e w' => e = .returned (.tuple #[lab 0 0, .bool false]) ∧ Below w.heap.size w w' := by
  go_enter Tryd.func45, Tryd.ntmps45
  go_wp2_with fail
  with_reducible refine (HC.out.call _).mono ?_
  rintro e w1 ⟨rfl, hb1⟩
  have HK0 := Lib.hid ((hb1.block w.heap.size (by simp)).trans (heap_alloc_new w _))
  have hbel : Below w.heap.size w w1 := ((Below.refl _ _).alloc (Nat.le_refl _) _).trans (hb1.mono (by simp))
  have d0 := (res_cells HK0.out).1
  have d1 := (res_cells HK0.out).2
  have e0 := blk_free HK0.out 0
  have e1 := blk_free HK0.out 1
  clear hb1
  go_wp2_with fail
  with_reducible refine (HN.out.call _).mono ?_
  rintro e w2 ⟨rfl, rfl⟩
  go_wp2_with fail
  have hfin := blk_set (blk_set HK0.out 0 (.int .i64 0)) 1 (.int .u64 0)
  have hbf := (hbel.setCell (p := ⟨w.heap.size, 0, none⟩) (Nat.le_refl _) (.int .i64 0)).setCell (p := ⟨w.heap.size, 1, none⟩) (Nat.le_refl _) (.int .u64 0)
  clear d0 d1 e0 e1
  generalize (w1.setCell ⟨w.heap.size, 0, none⟩ (.int .i64 0)).setCell ⟨w.heap.size, 1, none⟩ (.int .u64 0) = wf at *
  have q0 : wf.cell? ⟨w.heap.size, 0, none⟩ = some (.int .i64 0) := blk_cell hfin 0
  have q1 : wf.cell? ⟨w.heap.size, 1, none⟩ = some (.int .u64 0) := blk_cell hfin 1
  exact bodyPost_ret (v := .tuple #[.agg #[.int .i64 0, .int .u64 0], .bool false]) (by simp [results, Tryd.results45, go_sem, q0, q1]) rfl ⟨rfl, hbf⟩

set_option maxHeartbeats 1000000 in
set_option maxRecDepth 100000 in
theorem parse_nums (s h r : ByteArray) (n : Int) (w : World) (hr : r.size ≤ 4194304) (HC : Hid (Ct s 58 (.tuple #[.string h, .string r, .bool true]))) (HN : Hid (Nm h n true)) (HM : Hid (nums r.data.toList = none)) :
    Calls Tryd.prog 45 #[.string s] w fun e w' => e = .returned (.tuple #[lab 0 0, .bool false]) ∧ Below w.heap.size w w' := by
  go_enter Tryd.func45, Tryd.ntmps45
  go_wp2_with fail
  with_reducible refine (HC.out.call _).mono ?_
  rintro e w1 ⟨rfl, hb1⟩
  have HK1 := Lib.hid ((hb1.block w.heap.size (by simp)).trans (heap_alloc_new w _))
  have hbe1 : Below w.heap.size w w1 := ((Below.refl _ _).alloc (Nat.le_refl _) _).trans (hb1.mono (by simp))
  clear hb1
  go_wp2_with fail
  with_reducible refine (HN.out.call _).mono ?_
  rintro e w2 ⟨rfl, rfl⟩
  go_wp2_with fail
  with_reducible refine (numbers_any r _ hr).mono ?_
  rintro e w2 (⟨xs, v, hx, _⟩ | ⟨_, rfl, hb2⟩)
  · rw [HM.out] at hx; cases hx
  have hbel : Below w.heap.size w w2 := hbe1.trans (hb2.mono hbe1.size)
  have HK0 := Lib.hid ((hb2.block w.heap.size (blk_lt HK1.out)).trans HK1.out)
  have d0 := (res_cells HK0.out).1
  have d1 := (res_cells HK0.out).2
  have e0 := blk_free HK0.out 0
  have e1 := blk_free HK0.out 1
  clear hb2 HK1 hbe1
  go_wp2_with fail
  have hfin := blk_set (blk_set HK0.out 0 (.int .i64 0)) 1 (.int .u64 0)
  have hbf := (hbel.setCell (p := ⟨w.heap.size, 0, none⟩) (Nat.le_refl _) (.int .i64 0)).setCell (p := ⟨w.heap.size, 1, none⟩) (Nat.le_refl _) (.int .u64 0)
  clear d0 d1 e0 e1
  generalize (w2.setCell ⟨w.heap.size, 0, none⟩ (.int .i64 0)).setCell ⟨w.heap.size, 1, none⟩ (.int .u64 0) = wf at *
  have q0 : wf.cell? ⟨w.heap.size, 0, none⟩ = some (.int .i64 0) := blk_cell hfin 0
  have q1 : wf.cell? ⟨w.heap.size, 1, none⟩ = some (.int .u64 0) := blk_cell hfin 1
  exact bodyPost_ret (v := .tuple #[.agg #[.int .i64 0, .int .u64 0], .bool false]) (by simp [results, Tryd.results45, go_sem, q0, q1]) rfl ⟨rfl, hbf⟩
end Go.Proofs.YtbilhdfoajahkaaDoor.L
