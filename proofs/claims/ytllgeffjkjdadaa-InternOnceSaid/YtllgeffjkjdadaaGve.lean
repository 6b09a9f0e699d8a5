/-
  A range over the items that are seen, with their places: the iterator's contract.
  The contract of view's Cut.
  A region of a loop's body over a function, walked as a region of any other code: without its fence.
  The contract of view's Of.
-/
import Derived.RangeFuncNested
import Derived.RangeFuncBox
import Derived.RangeFuncBound
import Derived.RangeFuncCalls
import Derived.RangeFuncLeaves
import Derived.Shelf.Abstract
import Derived.Shelf.RegionOpen
import Derived.WalkKit
import Derived.OwnWalkIn
import Derived.TacticsInMore
import Derived.LoopNIn
import Derived.LoopIn
import Derived.Maps.AppendAt
import Derived.Test.YtllgeffjkjdadaaGvd
import Derived.Deep.RegionHeld
import Derived.Lib.Hide
import Derived.Deep.AppendLies
namespace Go.Proofs.Ytllgeffjkjdadaa.V
set_option linter.unusedVariables false
set_option linter.unusedSimpArgs false
open Go.RowKit Go.Shelf
open T
open I (It Lb ItemsIn ItemsAt ItemsOk itCells itCells_snoc itCells_at items_cells items_own own_at own_below infoItem alloc1)
attribute [local go_sem] Oper.semAt_some

/-- The items that are seen, with their places. -/
def prs (o : Lb) : Nat → List It → List (Nat × It)
  | _, [] => []
  | k, x :: r => if sees o x = true then (k, x) :: prs o (k + 1) r else prs o (k + 1) r
theorem prs_snoc (o : Lb) (x : It) : ∀ (l : List It) (k : Nat), prs o k (l ++ [x]) = prs o k l ++ (if sees o x = true then [(k + l.length, x)] else [])
  | [], k => by simp [prs]
  | y :: r, k => by
    rw [List.cons_append, prs, prs, prs_snoc o x r (k + 1), List.length_cons, show k + 1 + r.length = k + (r.length + 1) by omega]
    split <;> rfl
theorem prs_take {o : Lb} {l : List It} {k : Nat} (hk : k < l.length) : prs o 0 (l.take (k + 1)) = prs o 0 (l.take k) ++ (if sees o l[k] = true then [(k, l[k])] else []) := by
  rw [List.take_succ_eq_append_getElem hk, prs_snoc, Nat.zero_add, List.length_take, Nat.min_eq_left (by omega)]
theorem prs_le (o : Lb) : ∀ (l : List It) (k : Nat), (prs o k l).length ≤ l.length
  | [], _ => Nat.le_refl _
  | x :: r, k => by
    rw [prs]
    have := prs_le o r (k + 1)
    split <;> simp <;> omega
def itV (x : It) : Value := .agg #[.int .i64 x.id, .int .i64 x.lv, .int .u64 (x.ct : Int), .bool x.an, .string ⟨x.tx.toArray⟩, .bool x.ba]
/-- What lies below n₀ stays, and the blocks from za on, below zb. -/
def KpZ (n₀ za zb : Nat) (W W' : World) : Prop := Below n₀ W W' ∧ ∀ k, za ≤ k → k < zb → W'.heap[k]? = W.heap[k]?
theorem KpZ.t {n₀ za zb : Nat} {A B C : World} (h : KpZ n₀ za zb A B) (k : KpZ n₀ za zb B C) : KpZ n₀ za zb A C := ⟨h.1.trans k.1, fun i h1 h2 => (k.2 i h1 h2).trans (h.2 i h1 h2)⟩
theorem KpZ.b {n₀ za zb : Nat} {w : World} (hn : n₀ ≤ w.heap.size) (hz : zb ≤ w.heap.size) (W : World) (l : Nat) (o o' : Obj) (hl : w.heap.size ≤ l) (h : W.heap[l]? = some o) (h1 : o.isCells = false) (h2 : o.isWalk = false) : KpZ n₀ za zb W (W.putObj l o') :=
  ⟨belowK_b hn W l o o' hl h h1 h2, fun k _ hk => by
    have := (belowK_b (n₀ := w.heap.size) (Nat.le_refl _) W l o o' hl h h1 h2).block k (by omega)
    exact this⟩
theorem KpZ.of {n₀ za zb : Nat} {W W' : World} (h : Below W.heap.size W W') (hn : n₀ ≤ W.heap.size) (hz : zb ≤ W.heap.size) : KpZ n₀ za zb W W' := ⟨h.mono hn, fun k _ hk => h.block k (by omega)⟩
theorem KpZ.refl (n₀ za zb : Nat) (W : World) : KpZ n₀ za zb W W := ⟨Below.refl _ _, fun _ _ _ => rfl⟩
def BlC (l m : Int) (c d : Nat) (b : Bool) : Prop := ∀ w : World, Calls Try.prog 31 #[L.lab l c, L.lab m d] w fun e w' => e = .returned (.bool b) ∧ Below w.heap.size w w'
theorem BlC.call {l m : Int} {c d : Nat} {b : Bool} (h : BlC l m c d b) (n : Nat) (w : World) : CallsIn Fence.wide n Try.prog 31 #[L.lab l c, L.lab m d] w fun e w' => e = .returned (.bool b) ∧ Below w.heap.size w w' := callsIn_wide.2 (h w)

set_option maxRecDepth 100000 in
set_option maxHeartbeats 4000000 in
/-- The iterator's closure, for every loop body that keeps what lay below n₀ and the boxes of the items and of the label. -/
theorem seen1_in (n : Nat) (hn : 1 ≤ n) (lp Bs Bo n₀ za zb bk off cap : Nat) (l : List It) (f0 : Int) (f1 : Nat) (hll : l.length ≤ maxLen) (HB : Hid (∀ x ∈ l, BlC x.lv f0 x.ct f1 (sees (f0, f1) x))) (hb : bk < n₀) (hzo : za ≤ Bo ∧ Bo < zb) (J Jx : List (Nat × It) → World → Prop)
    (W : World) (hJ : AbidesFrom W.heap.size J)
    (hY : ∀ pre x W, J pre W → pre.length < l.length → YieldAt Fence.wide (n - 1) Try.prog lp #[.int .i64 (x.1 : Int), itV x.2] W fun e W' =>
      (e = .returned (.bool true) ∧ J (pre ++ [x]) W' ∧ KpZ n₀ za zb W W') ∨ (e = .returned (.bool false) ∧ Jx (pre ++ [x]) W'))
    (hn₀ : n₀ ≤ W.heap.size) (hzb : zb ≤ W.heap.size) (hBs : W.cell? ⟨Bs, 0, none⟩ = some (.slice (some ⟨bk, off, none⟩) l.length cap)) (hBo : W.heap[Bo]? = some (.cells #[.int .i64 f0, .int .u64 (f1 : Int)] 25 (0, 0))) (hI : ItemsAt W bk off l) (h0 : J [] W) :
    CallsIn Fence.wide n Try.prog 30 #[.func (.yield lp) #[] #[], .pointer (some ⟨Bs, 0, none⟩), .pointer (some ⟨Bo, 0, none⟩)] W fun e W' => (∃ v, e = .returned v) ∧
      ((∃ ys, ys = prs (f0, f1) 0 l ∧ J ys W') ∨ (∃ pre, (∃ k, k ≤ l.length ∧ pre = prs (f0, f1) 0 (l.take k)) ∧ Jx pre W')) := by
  unfold maxLen at hll
  refine callsIn_of_wp Try.func30 rfl trivial ?_ rfl
  simp only [Try.ntmps30, List.size_toArray, List.length_cons, List.length_nil, Nat.reduceAdd, Nat.reduceSub, Array.replicate_succ, Array.replicate_zero, List.push_toArray, List.append_toArray, List.nil_append, List.cons_append]
  gi_wp2
  gi_loopw [8] (fun i wr => ∃ k : Nat, k ≤ l.length ∧ i = .int .i64 k ∧ J (prs (f0, f1) 0 (l.take k)) wr ∧ KpZ n₀ za zb W wr ∧ W.heap.size ≤ wr.heap.size)
    (fun i _ => l.length - (intOf i).toNat)
  case atStart => exact ⟨0, Nat.zero_le _, rfl, h0, KpZ.refl _ _ _ _, Nat.le_refl _⟩
  case round =>
    obtain ⟨k, hk, rfl, hJs, hkp, hsz⟩ := hrel
    by_cases hlt : k < l.length
    · obtain ⟨c0, c1, c2, c3, c4, c5⟩ := items_cells hI hkp.1 hb hlt
      have HC := Lib.hid (HB.out _ (List.getElem_mem hlt))
      have HN := Lib.hid (prs_take (o := (f0, f1)) hlt)
      have hpl : (prs (f0, f1) 0 (l.take k)).length ≤ k := Nat.le_trans (prs_le _ _ _) (by rw [List.length_take]; omega)
      have h0k : (0 : Int) ≤ (k : Int) := by omega
      have hki : (k : Int) < (l.length : Int) := by omega
      obtain ⟨y, hy⟩ : ∃ y, y = l[k] := ⟨_, rfl⟩
      rw [← hy] at c0 c1 c2 c3 c4 c5 HC HN
      clear hy
      obtain ⟨s, hs⟩ : ∃ s : ByteArray, s = ⟨y.tx.toArray⟩ := ⟨_, rfl⟩
      rw [← hs] at c4
      have HS := Lib.hid hs
      clear hs
      obtain ⟨w1, hw1⟩ : ∃ W : World, W = wr.alloc (.cells #[.int .i64 y.id, .int .i64 y.lv, .int .u64 (y.ct : Int), .bool y.an, .string s, .bool y.ba] 37) := ⟨_, rfl⟩
      have hb1 : Below wr.heap.size wr w1 := by rw [hw1]; exact alloc1 _ _
      have HX1 := Lib.hid (show w1.heap[wr.heap.size]? = some (.cells #[.int .i64 y.id, .int .i64 y.lv, .int .u64 (y.ct : Int), .bool y.an, .string s, .bool y.ba] 37 (0, 0)) by rw [hw1]; exact heap_alloc_new wr _)
      obtain ⟨x0, x1⟩ := lab_cells ((hb1.block Bo (by omega)).trans ((hkp.2 Bo hzo.1 hzo.2).trans hBo))
      rw [hw1] at x0 x1
      obtain ⟨b, hbb⟩ : ∃ b, b = sees (f0, f1) y := ⟨_, rfl⟩
      rw [← hbb] at HC HN
      clear hbb
      have HJ1 := Lib.hid (hJ _ _ _ none hJs (grown_of hb1 none) (fun r e => by cases e))
      gi_wp2
      rw [← hw1]
      clear hw1 x0 x1
      refine ⟨trivial, ?_⟩
      refine (HC.out.call _ _).mono ?_
      rintro e w2 ⟨rfl, hb2⟩
      have HJ2 := Lib.hid (hJ _ _ _ none HJ1.out (grown_of hb2 none) (fun r e => by cases e))
      have hs1 : wr.heap.size ≤ w1.heap.size := hb1.size
      have hs2 : w1.heap.size ≤ w2.heap.size := hb2.size
      have hkp2 : KpZ n₀ za zb W w2 := (hkp.t (KpZ.of hb1 (by omega) (by omega))).t (KpZ.of hb2 (by omega) (by omega))
      have HX2 := Lib.hid ((hb2.block _ (L.blk_lt HX1.out)).trans HX1.out)
      clear HJ1 HX1 hb2 hJs
      cases b with
      | false =>
        gi_wp2
        refine ⟨fun _ h => (by cases h), ?_⟩
        gi_wp2
        go_roundw
        case rel => exact ⟨k + 1, by omega, by simp, by rw [HN.out]; simpa using HJ2.out, hkp2, by omega⟩
        case measure => simp [intOf]; omega
      | true =>
        obtain ⟨fn, tmps, assign, body, hy, hR⟩ := hY _ (k, y) w2 HJ2.out (by omega)
        simp only [itV] at hy
        rw [← HS.out] at hy
        have e0 := L.blk_cell HX2.out 0
        have e1 := L.blk_cell HX2.out 1
        have e2 := L.blk_cell HX2.out 2
        have e3 := L.blk_cell HX2.out 3
        have e4 := L.blk_cell HX2.out 4
        have e5 := L.blk_cell HX2.out 5
        gi_wp2
        refine hR.mono ?_
        rintro e w3 (⟨rfl, hJ3, hk3⟩ | ⟨rfl, hJx3⟩)
        · gi_wp2
          go_roundw
          case rel => exact ⟨k + 1, by omega, by simp, by rw [HN.out]; simpa using hJ3, hkp2.t hk3, Nat.le_trans (by omega) hk3.1.size⟩
          case measure => simp [intOf]; omega
        · gi_wp2
          refine bodyPost_ret (results_none rfl _ _ _) rfl ?_
          exact ⟨⟨_, rfl⟩, .inr ⟨_, ⟨k + 1, by omega, by rw [HN.out]; simp⟩, hJx3⟩⟩
    · obtain rfl : k = l.length := by omega
      rw [List.take_length] at hJs
      gi_wp2
      go_end0
      exact ⟨⟨_, rfl⟩, .inl ⟨_, rfl, hJs⟩⟩
set_option maxRecDepth 100000 in
set_option maxHeartbeats 1000000 in
/-- .. of no item. -/
theorem seen1_none (n : Nat) (lp Bs Bo cap : Nat) (A : Option Addr) (J : List (Nat × It) → World → Prop) (W : World) (hBs : W.cell? ⟨Bs, 0, none⟩ = some (.slice A 0 cap)) (h0 : J [] W) :
    CallsIn Fence.wide n Try.prog 30 #[.func (.yield lp) #[] #[], .pointer (some ⟨Bs, 0, none⟩), .pointer (some ⟨Bo, 0, none⟩)] W fun e W' => (∃ v, e = .returned v) ∧ J [] W' := by
  refine callsIn_of_wp Try.func30 rfl trivial ?_ rfl
  simp only [Try.ntmps30, List.size_toArray, List.length_cons, List.length_nil, Nat.reduceAdd, Nat.reduceSub, Array.replicate_succ, Array.replicate_zero, List.push_toArray, List.append_toArray, List.nil_append, List.cons_append]
  gi_wp2
  gi_loopw [8] (fun i wr => i = .int .i64 0 ∧ J [] wr) (fun _ _ => 0)
  case atStart => exact ⟨rfl, h0⟩
  case round =>
    obtain ⟨rfl, hJs⟩ := hrel
    gi_wp2
    go_end0
    exact ⟨⟨_, rfl⟩, hJs⟩
theorem seen_in (n : Nat) (A : Option Addr) (len cap : Nat) (f0 : Int) (f1 : Nat) (w : World) :
    CallsIn Fence.wide n Try.prog 16 #[.slice A len cap, .agg #[.int .i64 f0, .int .u64 (f1 : Int)]] w fun e w' => e = .returned (.func (.func 30) #[] #[.pointer (some ⟨w.heap.size, 0, none⟩), .pointer (some ⟨w.heap.size + 1, 0, none⟩)]) ∧
      w' = (w.alloc (.cells #[.slice A len cap] 22)).alloc (.cells #[.int .i64 f0, .int .u64 (f1 : Int)] 25) := by
  refine callsIn_of_wp Try.func16 rfl trivial ?_ rfl
  simp only [Try.ntmps16, List.size_toArray, List.length_cons, List.length_nil, Nat.reduceAdd, Nat.reduceSub, Array.replicate_succ, Array.replicate_zero, List.push_toArray, List.append_toArray, List.nil_append, List.cons_append]
  gi_wp2
  go_ret
  exact ⟨rfl, rfl⟩
/-- What seen hands back tells all that is seen, in order. -/
theorem seen_stops (n : Nat) (hn : 1 ≤ n) (Bs Bo n₀ za zb : Nat) (A : Option Addr) (cap : Nat) (l : List It) (f0 : Int) (f1 : Nat) (hll : l.length ≤ maxLen) (HB : Hid (∀ x ∈ l, BlC x.lv f0 x.ct f1 (sees (f0, f1) x))) (w : World)
    (hzo : za ≤ Bo ∧ Bo < zb) (hn₀ : n₀ ≤ w.heap.size) (hzb : zb ≤ w.heap.size) (hBs : Bs < w.heap.size) (hc : w.cell? ⟨Bs, 0, none⟩ = some (.slice A l.length cap)) (hBo : w.heap[Bo]? = some (.cells #[.int .i64 f0, .int .u64 (f1 : Int)] 25 (0, 0)))
    (hI : 0 < l.length → ∃ bk off, A = some ⟨bk, off, none⟩ ∧ bk < n₀ ∧ ItemsAt w bk off l) :
    SeqStopsK Fence.wide n Try.prog 30 #[.pointer (some ⟨Bs, 0, none⟩), .pointer (some ⟨Bo, 0, none⟩)] (fun x : Nat × It => #[Value.int .i64 (x.1 : Int), itV x.2]) (KpZ n₀ za zb) (fun ys => ys = prs (f0, f1) 0 l) (fun _ => True) l.length w := fun lp J Jx W hW hJ _ hY h0 => by
  have hc' := (hW.cell (p := ⟨Bs, 0, none⟩) hBs).trans hc
  have hsz := hW.size
  by_cases hl : 0 < l.length
  · obtain ⟨bk, off, rfl, hb, hIt⟩ := hI hl
    refine (seen1_in n hn lp Bs Bo n₀ za zb bk off cap l f0 f1 hll HB hb hzo J Jx W hJ hY (by omega) (by omega) hc' ((hW.block Bo (by omega)).trans hBo) (hIt.below hW (by omega)) h0).mono ?_
    rintro e W' ⟨he, ⟨ys, rfl, hj⟩ | ⟨pre, -, hj⟩⟩
    · exact ⟨he, .inl ⟨_, rfl, hj⟩⟩
    · exact ⟨he, .inr ⟨_, trivial, hj⟩⟩
  · obtain rfl : l = [] := List.length_eq_zero_iff.1 (by omega)
    exact (seen1_none n lp Bs Bo cap A J W hc' h0).mono fun e W' ⟨he, hj⟩ => ⟨he, .inl ⟨_, rfl, hj⟩⟩
end Go.Proofs.Ytllgeffjkjdadaa.V

namespace Go.Proofs.Ytllgeffjkjdadaa.V
set_option linter.unusedVariables false
set_option linter.unusedSimpArgs false
open Go.RowKit Go.Shelf
open T
open I (It Lb ItemsIn ItemsAt ItemsOk itCells itCells_snoc itCells_at items_cells items_own own_at own_below infoItem alloc1)
attribute [local go_sem] Oper.semAt_some

theorem prs_cut (o : Lb) : ∀ (l : List It) (k : Nat), (prs o k l).map (·.2) = cut o l
  | [], _ => rfl
  | x :: r, k => by
    rw [prs]
    by_cases hx : sees o x = true
    · rw [if_pos hx, List.map_cons, prs_cut o r (k + 1)]; simp [cut, hx]
    · rw [if_neg hx, prs_cut o r (k + 1)]; simp [cut, hx]
/-- Behind an append whose row is stored into a box ahead of it: what lies below n₀ stays, and the blocks from za on, below zb. -/
theorem appendedZ {W w1 : World} {n₀ za zb r₀ B : Nat} {t e : TypeId} {size : Nat} {v v' : Value} {k m : Nat} {xs ys : List Value} {tmp : Obj}
    (hv : Boxed W B t v) (hte : t ≠ e) (hrow : W.ownsRow r₀ e size v k xs) (hr₀ : r₀ ≤ W.heap.size) (hB : n₀ ≤ B) (hBz : B < za) (hnr : n₀ ≤ r₀) (hzr : zb ≤ r₀)
    (hown' : w1.ownsRow r₀ e size v' m ys) (hgrow : (W.alloc tmp).grownBy w1 v.ownBlock) :
    Boxed w1 B t v ∧ Boxed (w1.setCell ⟨B, 0, none⟩ v') B t v' ∧ (w1.setCell ⟨B, 0, none⟩ v').ownsRow r₀ e size v' m ys ∧ KeepsOthers W (w1.setCell ⟨B, 0, none⟩ v') ∧ KpZ n₀ za zb W (w1.setCell ⟨B, 0, none⟩ v') := by
  have hv1 : Boxed w1 B t v := (hv.alloc tmp).kept hgrow (hv.not_row hte hrow)
  obtain ⟨-, h2, -, h4, -⟩ := hv.appended hte (own_more hrow (Nat.zero_le r₀)) (Nat.zero_le _) (Nat.zero_le _) (own_more hown' (Nat.zero_le r₀)) hgrow
  have hblk : ∀ i, i < W.heap.size → i < r₀ → i ≠ B → (w1.setCell ⟨B, 0, none⟩ v').heap[i]? = W.heap[i]? := fun i hi hr hne => by
    rw [L.blk_far (g := i) (g' := B) hne v', hgrow.block i (by simp; omega) (fun e' => by have := own_base hrow i e'.symm; omega)]
    exact (alloc1 W tmp).block i hi
  refine ⟨hv1, h2, hown'.kept (grown_set w1 ⟨B, 0, none⟩ v') (own_ne hown' fun cs he => ?_), h4, ⟨?_, fun i h1 h2 => hblk i (by omega) (by omega) (by omega)⟩⟩
  · rw [show w1.heap[B]? = _ from hv1] at he
    injection he with he; injection he with _ he; exact hte he
  · refine (((Below.refl n₀ W).alloc (by omega) tmp).grown hgrow (by simp; omega) fun j ej => ?_).setCell (p := ⟨B, 0, none⟩) hB v'
    have := own_base hrow j ej
    omega
theorem boxed_le {W W' : World} {n : Nat} (h : n ≤ W.heap.size) {row : Option Nat} (hg : W.grownBy W' row) : n ≤ W'.heap.size := Nat.le_trans h hg.size
set_option maxRecDepth 100000 in
set_option maxHeartbeats 4000000 in
theorem cut_in (n : Nat) (hn : 6 ≤ n) (A : Option Addr) (cap : Nat) (l : List It) (f0 : Int) (f1 : Nat) (w : World) (hA : ItemsIn w A l) (hll : l.length ≤ maxLen) (HB : Hid (∀ x ∈ l, BlC x.lv f0 x.ct f1 (sees (f0, f1) x))) (hb : l.length * 56 ≤ 140737488355328) :
    CallsIn Fence.wide n Try.prog 23 #[.slice A l.length cap, .agg #[.int .i64 f0, .int .u64 (f1 : Int)]] w fun e W' => ∃ v, e = .returned v ∧ W'.ownsRow w.heap.size 37 6 v (cut (f0, f1) l).length (itCells (cut (f0, f1) l)) ∧ Below w.heap.size w W' := by
  have h1 : 1 ≤ n := by omega
  obtain ⟨i0, hi0, hz0, hz1, hz2⟩ := info_parts infoItem
  obtain ⟨W0, hW0⟩ : ∃ W : World, W = (((w.alloc (.cells #[.int .i64 f0, .int .u64 (f1 : Int)] 25)).alloc (.cells #[.slice none 0 0] 22)).alloc (.cells #[.slice A l.length cap] 22)).alloc (.cells #[.int .i64 f0, .int .u64 (f1 : Int)] 25) := ⟨_, rfl⟩
  refine callsIn_of_wp_marks Try.func23 rfl trivial ?_ rfl
  simp only [Try.ntmps23, List.size_toArray, List.length_cons, List.length_nil, Nat.reduceAdd, Nat.reduceSub, Array.replicate_succ, Array.replicate_zero, List.push_toArray, List.append_toArray, List.nil_append, List.cons_append]
  gi_wp2
  refine ⟨trivial, ?_⟩
  refine (seen_in (n - 1) A l.length cap f0 f1 _).mono ?_
  rintro e w' ⟨rfl, hw'⟩
  rw [← hW0] at hw'
  subst hw'
  simp only [World.size_alloc]
  have hsz : w'.heap.size = w.heap.size + 1 + 1 + 1 + 1 := by rw [hW0]; simp
  have hB0 : Below w.heap.size w w' := by rw [hW0]; exact (((alloc1 _ _).trans ((alloc1 _ _).mono (by simp))).trans ((alloc1 _ _).mono (by simp; omega))).trans ((alloc1 _ _).mono (by simp; omega))
  have k1 : w'.heap[w.heap.size + 1]? = some (.cells #[.slice none 0 0] 22 (0, 0)) := by
    rw [hW0, (alloc1 _ _).block _ (by simp), (alloc1 _ _).block _ (by simp)]
    have := heap_alloc_new (w.alloc (.cells #[.int .i64 f0, .int .u64 (f1 : Int)] 25)) (.cells #[.slice none 0 0] 22); rw [World.size_alloc] at this; exact this
  have k2 : w'.heap[w.heap.size + 1 + 1]? = some (.cells #[.slice A l.length cap] 22 (0, 0)) := by
    rw [hW0, (alloc1 _ _).block _ (by simp)]
    have := heap_alloc_new ((w.alloc (.cells #[.int .i64 f0, .int .u64 (f1 : Int)] 25)).alloc (.cells #[.slice none 0 0] 22)) (.cells #[.slice A l.length cap] 22); rw [World.size_alloc, World.size_alloc] at this; exact this
  have k3 : w'.heap[w.heap.size + 1 + 1 + 1]? = some (.cells #[.int .i64 f0, .int .u64 (f1 : Int)] 25 (0, 0)) := by
    rw [hW0]
    have := heap_alloc_new (((w.alloc (.cells #[.int .i64 f0, .int .u64 (f1 : Int)] 25)).alloc (.cells #[.slice none 0 0] 22)).alloc (.cells #[.slice A l.length cap] 22)) (.cells #[.int .i64 f0, .int .u64 (f1 : Int)] 25); rw [World.size_alloc, World.size_alloc, World.size_alloc] at this; exact this
  clear hW0
  obtain ⟨b0, hb0⟩ : ∃ b, b = w.heap.size := ⟨_, rfl⟩
  rw [← hb0] at hsz hB0 k1 k2 k3 ⊢
  have hbO : Boxed w' (b0 + 1) 22 (.slice none 0 0) := k1
  have hbx : Boxed w' (b0 + 1 + 1) 22 (.slice A l.length cap) := k2
  have hIt : 0 < l.length → ∃ bk off, A = some ⟨bk, off, none⟩ ∧ bk < b0 ∧ ItemsAt w' bk off l := fun hp => by
    obtain ⟨bk, off, e, hlt, hl⟩ := hA hp
    exact ⟨bk, off, e, by omega, hl.below hB0 (by omega)⟩
  have HBE := Lib.hid hb0
  have hbw : b0 ≤ w.heap.size := by omega
  clear hb0
  gi_wp2
  refine wpIn_rangeFunc_ownH rfl h1 (gf := 30) (lb := #[.pointer (some ⟨b0 + 1 + 1, 0, none⟩), .pointer (some ⟨b0 + 1 + 1 + 1, 0, none⟩)]) rfl trivial (enters_of Try.func30 (by kernel_rfl) rfl)
    (seen_stops (n - 1) (by omega) (b0 + 1 + 1) (b0 + 1 + 1 + 1) b0 (b0 + 2) (b0 + 4) A cap l f0 f1 hll HB w' (by omega) (by omega) (by omega) (by omega) hbx.cell k3 hIt) KpZ.t (KpZ.b (by omega) (by omega)) (Below.refl _ _) (fun _ => rfl)
    (fun (pre : List (Nat × It)) W => (∃ v, Boxed W (b0 + 1) 22 v ∧ W.ownsRow (b0 + 4) 37 6 v pre.length (itCells (pre.map (·.2))) ∧ True) ∧ (Below b0 w W ∧ b0 + 4 ≤ W.heap.size))
    (fun _ _ _ => False)
    (OwnFrom.and (Own.from (holdsRow_own (b0 + 4) (b0 + 1) 22 37 6 (fun (pre : List (Nat × It)) => pre.length) (fun (pre : List (Nat × It)) => itCells (pre.map (·.2))) (fun _ _ => True)) _) (OwnFrom.and (ownFrom_below hbw (by omega)) (fun _ _ _ _ hs hg _ => boxed_le hs hg)))
    (fun _ _ _ _ _ hs _ _ => hs)
    ⟨⟨_, hbO, World.ownsRow_nil _ _ _ _, trivial⟩, hB0, by omega⟩
    (fun (x : Nat × It) a' W => ∃ Bx, b0 + 3 < Bx ∧ W.heap[Bx]? = some (.cells #[.int .i64 x.2.id, .int .i64 x.2.lv, .int .u64 (x.2.ct : Int), .bool x.2.an, .string ⟨x.2.tx.toArray⟩, .bool x.2.ba] 37 (0, 0)) ∧ a' = { tmps := #[.slice A l.length cap, .agg #[.int .i64 f0, .int .u64 (f1 : Int)], undef, .pointer (some ⟨b0, 0, none⟩), .slice none 0 0, .pointer (some ⟨b0 + 1, 0, none⟩), undef, .pointer (some ⟨Bx, 0, none⟩), .slice A l.length cap, .agg #[.int .i64 f0, .int .u64 (f1 : Int)], .func (.func 30) #[] #[.pointer (some ⟨b0 + 1 + 1, 0, none⟩), .pointer (some ⟨b0 + 1 + 1 + 1, 0, none⟩)], .int .i64 (x.1 : Int), itV x.2, undef, undef, undef, undef, undef], defers := [] })
    (fun x a' _ X Y row hs hg hr => by
      obtain ⟨Bx, h1, h2, h3⟩ := hs
      exact ⟨Bx, h1, (hg.block Bx (L.blk_lt h2) (fun e => by
        obtain ⟨_, o, ho, hc⟩ := hr Bx e.symm
        rw [h2] at ho; cases ho; cases hc)).trans h2, h3⟩)
    ?assign ?body ?done ?stop
  case assign =>
    rintro lp pre x W K ⟨⟨v, hv, hrow, -⟩, hB, hs4⟩ hK
    dsimp only [itV] at hK ⊢
    gi_wp2
    exact hK _ _ ((KeepsOthers.alloc _ _).from _) (KpZ.of (alloc1 _ _) (by omega) (by omega)) ⟨⟨v, hv.alloc _, hrow.alloc _, trivial⟩, hB.alloc (by omega) _, by simp; omega⟩ ⟨W.heap.size, by omega, heap_alloc_new W _, rfl⟩
  case body =>
    rintro lp pre x a' W hlp ⟨r, hr⟩ ⟨⟨v, hv, hrow, -⟩, hB, hs4⟩ ⟨Bx, hBx, hbX, rfl⟩ hlt
    have hc := hv.cell
    have hbs := hB.size
    have e0 := L.blk_cell hbX 0
    have e1 := L.blk_cell hbX 1
    have e2 := L.blk_cell hbX 2
    have e3 := L.blk_cell hbX 3
    have e4 := L.blk_cell hbX 4
    have e5 := L.blk_cell hbX 5
    obtain ⟨q, y⟩ := x
    simp only at e0 e1 e2 e3 e4 e5 hbX ⊢
    obtain ⟨s, hs⟩ : ∃ s : ByteArray, s = ⟨y.tx.toArray⟩ := ⟨_, rfl⟩
    rw [← hs] at e4
    have HS := Lib.hid hs
    clear hs
    gi_wp2_with (gi_at_builtin; refine wpListIn_append_own _ rfl _ _ 22 rfl (b0 + 4) 37 i0 _ 6 56 Try.underlying22 hi0 hz0 hz1 hz2 rfl (by decide) _ _ _ rfl (hrow.alloc _) ⟨W.heap.size, 0, none⟩ 1 1 [.int .i64 y.id, .int .i64 y.lv, .int .u64 (y.ct : Int), .bool y.an, .string s, .bool y.ba] rfl rfl (World.news_of_block (heap_alloc_new W _)) (by intro u hu; simp at hu; rcases hu with rfl | rfl | rfl | rfl | rfl | rfl <;> rfl) (by simp only [maxLen] at hll ⊢; omega) (by omega) (by simp; omega) ?_; intro v' w1 hown' hgrow _; obtain ⟨g', cap', rfl⟩ := ownsRow_succ hown'; obtain ⟨hv1, hv2, hr2, hk2, hb2⟩ := appendedZ (n₀ := b0) (za := b0 + 2) (zb := b0 + 4) hv (by decide) hrow hs4 (by omega) (by omega) (by omega) (by omega) hown' hgrow; have hc1 := hv1.cell; have hf1 := hv1.frozen)
    have e6 : itCells (pre.map (·.2)) ++ [.int .i64 y.id, .int .i64 y.lv, .int .u64 (y.ct : Int), .bool y.an, .string s, .bool y.ba] = itCells ((pre ++ [(q, y)]).map (·.2)) := by
      rw [List.map_append, List.map_cons, List.map_nil, itCells_snoc, HS.out]
    have e7 : (pre ++ [(q, y)]).length = pre.length + 1 := by simp
    refine ⟨hk2.from _, hb2, ⟨⟨_, hv2, ?_, trivial⟩, hB.trans hb2.1, Nat.le_trans hs4 hb2.1.size⟩⟩
    rw [← e6, e7]
    exact hr2
  case done =>
    rintro D ys W hD rfl ⟨⟨v, hv, hrow, -⟩, hB, hs4⟩ hK
    have hc := hv.cell
    gi_wp2
    refine ⟨by simp, .inl ⟨_, _, rfl, run_takeDeferred hK, ?_⟩⟩
    have hm := prs_cut (f0, f1) l 0
    have hl2 : (prs (f0, f1) 0 l).length = (cut (f0, f1) l).length := by rw [← hm, List.length_map]
    rw [hm, hl2] at hrow
    refine ⟨_, results_tmp rfl _ _ _, v, rfl, own_more (ownsRow_putObj hrow _ hK rfl) (by rw [← HBE.out]; omega), ?_⟩
    rw [← HBE.out]
    exact hB.trans (belowK_b (w := w') (by omega) W D _ _ (by omega) hK rfl rfl)
  case stop =>
    rintro D c pre W _ _ h _
    exact h.elim
end Go.Proofs.Ytllgeffjkjdadaa.V

namespace Go.Proofs.Ytllgeffjkjdadaa.V
set_option linter.unusedVariables false
set_option linter.unusedSimpArgs false

def notDefer (o : Oper) : Bool := match o.op with
  | .defer _ => false
  | _ => true
theorem notDefer_out {o : Oper} (h : notDefer o = true) : ∀ c, o.op ≠ .defer c := fun c e => by
  unfold notDefer at h
  rw [e] at h
  cases h
theorem rows_round {n l : Nat} {P : Program} {row : String} {args : Array Value} {w : World} {R : Value → World → Prop} (h : Rows P row args w R) : RowsIn (Fence.wide.inRound l) n P row args w R := by
  intro c cs _
  obtain ⟨v, w', hR, hs⟩ := h c cs
  exact ⟨v, w', hR, stepsIn_wide.2 hs⟩
theorem op_round {n l : Nat} {P : Program} {o : Oper} {a : Act} {w : World} {K : Act → World → Prop} {Q : Exit → Act → World → Prop} (hd : notDefer o = true) (h : o.wp P a w K Q) : o.wpIn (Fence.wide.inRound l) n P a w K Q := by
  unfold Oper.wpIn
  refine ⟨fun _ _ => trivial, ?_⟩
  rw [Oper.semAt_plain _ _ _ (notDefer_out hd)]
  unfold Oper.wp at h
  generalize (execOp a.eval o).run P w = r at *
  cases r with
  | ok x w' =>
    cases x <;> simp only [Oper.upon, Oper.uponIn] at h ⊢
    case value u => exact h
    case skip => exact h
    case defer d => exact h
    case enter f args => exact ⟨fun h => by simp [Fence.wide] at h, callsIn_wide.2 h⟩
    case row row args => exact ⟨fun h => by simp [Fence.wide] at h, rows_round h⟩
  | halt x w' =>
    cases x <;> simp only [Oper.upon, Oper.uponIn] at h ⊢
    case panic u => exact h
theorem any_round {n l : Nat} {P : Program} {md : Region.Mode} {ops : Array Oper} {Q : Exit → Act → World → Prop} (hd : ops.all notDefer = true) (hq : ¬ LetsOut Q) :
    ∀ (fuel : Nat) (listed : Array Bool) (a : Act) (w : World), wpAny P md ops Q fuel listed a w → wpAnyIn (Fence.wide.inRound l) n P md ops Q fuel listed a w
  | 0, _, _, _, h => h
  | fuel + 1, listed, a, w, h => ⟨h.1, fun i hi => by
    have h2 := h.2 i hi
    unfold wpOp at h2
    unfold wpOpIn
    cases ho : ops[i]? with
    | none => rw [ho] at h2; exact any_round hd hq fuel _ _ _ h2
    | some o =>
      rw [ho] at h2
      simp only at h2 ⊢
      split
      · rename_i hw
        simp only [hw, if_true] at h2
        rcases h2 with h2 | h2
        · exact Oper.wpIn_mono (fun a' w' h' => any_round hd hq fuel _ _ _ h') (op_round (Array.all_eq_true'.1 hd o (Array.mem_of_getElem? ho)) h2)
        · exact absurd h2.2 hq
      · rename_i hw
        simp only [hw] at h2
        exact ⟨fun _ _ => trivial, any_round hd hq fuel _ _ _ h2⟩⟩
/-- A region of a round that draws its order, as one outside of it. -/
theorem region_round {n l id : Nat} {P : Program} {ops : Array Oper} {Q : Exit → Act → World → Prop} {a : Act} {w : World} (S : World → Prop) (hm : P.follows .mixedOrders = true) (hd : ops.all notDefer = true) (hq : ¬ LetsOut Q) (hS : S w.drew)
    (h : S w.drew → wpAnyH P .any ops Q S ops.size (Array.replicate ops.size false) a w.drew) : (Code.region id ops true).wpIn (Fence.wide.inRound l) n P Q a w :=
  wpIn_region_any hm (any_round hd hq _ _ _ _ (wpAny_of_held _ _ _ _ (h hS)))
end Go.Proofs.Ytllgeffjkjdadaa.V

namespace Go.Proofs.Ytllgeffjkjdadaa.V
set_option linter.unusedVariables false
set_option linter.unusedSimpArgs false
open Go.RowKit Go.Shelf
open T
open I (It Lb ItemsIn ItemsAt ItemsOk itCells itCells_snoc itCells_at items_cells items_own own_at own_below infoItem alloc1)
attribute [local go_sem] Oper.semAt_some

set_option maxRecDepth 100000 in
set_option maxHeartbeats 1000000 in
theorem shown_any (x : It) (h : List UInt8) (w : World) : Calls Try.prog 17 #[itV x, .string ⟨h.toArray⟩] w fun e w' => e = .returned (.agg #[.string ⟨(txt h x).toArray⟩, .bool false]) ∧ Below w.heap.size w w' := by
  obtain ⟨i, lv, ct, an, tx, ba⟩ := x
  unfold itV txt
  simp only
  obtain ⟨s, hs⟩ : ∃ s : ByteArray, s = ⟨tx.toArray⟩ := ⟨_, rfl⟩
  obtain ⟨t, ht⟩ : ∃ t : ByteArray, t = ⟨h.toArray⟩ := ⟨_, rfl⟩
  have he : (⟨(if an = true then h else tx).toArray⟩ : ByteArray) = if an = true then t else s := by rw [hs, ht]; cases an <;> rfl
  rw [he, ← hs, ← ht]
  clear he hs ht
  have hb := fun (o o' : Obj) => (alloc1 w o).alloc (show w.heap.size ≤ (w.alloc o).heap.size by simp) o'
  cases an
  · go_enter Try.func17, Try.ntmps17
    go_wp2_with fail
    refine bodyPost_ret (v := .agg #[.string s, .bool false]) (by simp [results, Try.results17, go_sem]) rfl ⟨rfl, hb _ _⟩
  · go_enter Try.func17, Try.ntmps17
    go_wp2_with fail
    refine bodyPost_ret (v := .agg #[.string t, .bool false]) (by simp [results, Try.results17, go_sem]) rfl ⟨rfl, hb _ _⟩

def lastBa (pre : List (Nat × It)) : Bool := (pre.getLast?.map (·.2.ba)).getD false
theorem lastBa_snoc (pre : List (Nat × It)) (x : Nat × It) : lastBa (pre ++ [x]) = x.2.ba := by simp [lastBa]
/-- What Of holds while items come: ub, tb: what the view's box holds; vl, vt: the rows that it owns. -/
structure OfS (b : Nat) (hx : ByteArray) (ub tb vl : Value) (nl : Nat) (ls : List (List UInt8 × Bool)) (vt : Value) (nt : Nat) (ts : List Int) (bb : Bool) (W : World) : Prop where
  hx : W.heap[b + 1]? = some (.cells #[.string hx] 9 (0, 0))
  rs : W.heap[b + 1 + 1]? = some (.cells #[.slice none 0 0, .slice none 0 0] 29 (0, 0))
  v : W.heap[b + 1 + 1 + 1]? = some (.cells #[ub, tb] 29 (0, 0))
  ba : W.heap[b + 1 + 1 + 1 + 1]? = some (.cells #[.bool bb] 4 (0, 0))
  rl : W.ownsRow (b + 7) 35 2 vl nl (lineCells ls)
  rt : W.ownsRow (b + 7) 3 1 vt nt (numCells ts)
theorem blk_grown {W W' : World} {row : Option Nat} {i : Nat} {o : Obj} (h : W.heap[i]? = some o) (hg : W.grownBy W' row) (hr : row ≠ some i) : W'.heap[i]? = some o := (hg.block i (L.blk_lt h) (fun e => hr e.symm)).trans h
theorem row_cells {W : World} {row : Option Nat} {i : Nat} {cs : Array Value} {t : TypeId} {f : Nat × Nat} (h : W.heap[i]? = some (.cells cs t f)) (hr : ∀ r, row = some r → ∃ o : Obj, W.heap[r]? = some o ∧ o.isCells = false) : row ≠ some i := fun e => by
  obtain ⟨o, ho, hc⟩ := hr i e
  rw [h] at ho; cases ho; cases hc
theorem own_walk {W W' : World} {row : Option Nat} {base : Nat} {e : TypeId} {size n : Nat} {v : Value} {xs : List Value} (h : W.ownsRow base e size v n xs) (hg : W.grownBy W' row) (hr : ∀ r, row = some r → ∃ o : Obj, W.heap[r]? = some o ∧ o.isCells = false) : W'.ownsRow base e size v n xs := by
  refine h.kept hg ?_
  rcases h.2 with ⟨rfl, _⟩ | ⟨g, cap, cur, rfl, _, hgb, _⟩
  · exact .inl rfl
  · exact .inr fun e' => row_cells hgb hr e'.symm
section
variable {b : Nat} {hx : ByteArray} {ub tb vl : Value} {nl : Nat} {ls : List (List UInt8 × Bool)} {vt : Value} {nt : Nat} {ts : List Int} {bb : Bool} {W W' : World}
theorem OfS.kept {row : Option Nat} (s : OfS b hx ub tb vl nl ls vt nt ts bb W) (hg : W.grownBy W' row) (hr : ∀ r, row = some r → ∃ o : Obj, W.heap[r]? = some o ∧ o.isCells = false) : OfS b hx ub tb vl nl ls vt nt ts bb W' :=
  ⟨blk_grown s.hx hg (row_cells s.hx hr), blk_grown s.rs hg (row_cells s.rs hr), blk_grown s.v hg (row_cells s.v hr), blk_grown s.ba hg (row_cells s.ba hr), own_walk s.rl hg hr, own_walk s.rt hg hr⟩
theorem OfS.below (s : OfS b hx ub tb vl nl ls vt nt ts bb W) (hb : Below W.heap.size W W') : OfS b hx ub tb vl nl ls vt nt ts bb W' :=
  s.kept (grown_of hb none) (fun r e => by cases e)
/-- A row is in no block of another type. -/
theorem own_type {base : Nat} {e t : TypeId} {size n g : Nat} {v : Value} {xs : List Value} {cs : Array Value} {f : Nat × Nat} (h : W.ownsRow base e size v n xs) (hg : W.heap[g]? = some (.cells cs t f)) (hne : t ≠ e) : v.ownBlock ≠ some g := by
  rcases h.2 with ⟨rfl, _⟩ | ⟨g', cap, cur, rfl, _, hgb, _⟩
  · simp [Value.ownBlock]
  · intro e'
    simp only [Value.ownBlock, Option.some.injEq] at e'
    subst e'
    rw [hg] at hgb
    injection hgb with e1
    injection e1 with _ e2
    exact hne e2
theorem own_apart2 {base base' : Nat} {e e' : TypeId} {size size' n n' : Nat} {v v' : Value} {xs xs' : List Value} (h : W.ownsRow base e size v n xs) (h' : W.ownsRow base' e' size' v' n' xs') (hne : e' ≠ e) : v'.ownBlock = none ∨ v'.ownBlock ≠ v.ownBlock := by
  rcases h'.2 with ⟨rfl, _⟩ | ⟨g', cap, cur, rfl, _, hgb, _⟩
  · exact .inl rfl
  · exact .inr fun e1 => own_type h hgb hne e1.symm
theorem OfS.grownL {vl' : Value} {nl' : Nat} {ls' : List (List UInt8 × Bool)} (s : OfS b hx ub tb vl nl ls vt nt ts bb W) (ho : W'.ownsRow (b + 7) 35 2 vl' nl' (lineCells ls')) (hg : W.grownBy W' vl.ownBlock) : OfS b hx ub tb vl' nl' ls' vt nt ts bb W' :=
  ⟨blk_grown s.hx hg (own_type s.rl s.hx (by decide)), blk_grown s.rs hg (own_type s.rl s.rs (by decide)), blk_grown s.v hg (own_type s.rl s.v (by decide)), blk_grown s.ba hg (own_type s.rl s.ba (by decide)), ho, s.rt.kept hg (own_apart2 s.rl s.rt (by decide))⟩
theorem OfS.grownT {vt' : Value} {nt' : Nat} {ts' : List Int} (s : OfS b hx ub tb vl nl ls vt nt ts bb W) (ho : W'.ownsRow (b + 7) 3 1 vt' nt' (numCells ts')) (hg : W.grownBy W' vt.ownBlock) : OfS b hx ub tb vl nl ls vt' nt' ts' bb W' :=
  ⟨blk_grown s.hx hg (own_type s.rt s.hx (by decide)), blk_grown s.rs hg (own_type s.rt s.rs (by decide)), blk_grown s.v hg (own_type s.rt s.v (by decide)), blk_grown s.ba hg (own_type s.rt s.ba (by decide)), s.rl.kept hg (own_apart2 s.rt s.rl (by decide)), ho⟩
theorem OfS.setL (s : OfS b hx ub tb vl nl ls vt nt ts bb W) (u : Value) : OfS b hx u tb vl nl ls vt nt ts bb (W.setCell ⟨b + 1 + 1 + 1, 0, none⟩ u) :=
  have hg := grown_set W ⟨b + 1 + 1 + 1, 0, none⟩ u
  ⟨blk_grown s.hx hg (by simp; omega), blk_grown s.rs hg (by simp), L.blk_set s.v 0 u, blk_grown s.ba hg (by simp), s.rl.kept hg (.inr (own_type s.rl s.v (by decide))), s.rt.kept hg (.inr (own_type s.rt s.v (by decide)))⟩
theorem OfS.setT (s : OfS b hx ub tb vl nl ls vt nt ts bb W) (u : Value) : OfS b hx ub u vl nl ls vt nt ts bb (W.setCell ⟨b + 1 + 1 + 1, 1, none⟩ u) :=
  have hg := grown_set W ⟨b + 1 + 1 + 1, 1, none⟩ u
  ⟨blk_grown s.hx hg (by simp; omega), blk_grown s.rs hg (by simp), L.blk_set s.v 1 u, blk_grown s.ba hg (by simp), s.rl.kept hg (.inr (own_type s.rl s.v (by decide))), s.rt.kept hg (.inr (own_type s.rt s.v (by decide)))⟩
theorem OfS.setB (s : OfS b hx ub tb vl nl ls vt nt ts bb W) (c : Bool) : OfS b hx ub tb vl nl ls vt nt ts c (W.setCell ⟨b + 1 + 1 + 1 + 1, 0, none⟩ (.bool c)) :=
  have hg := grown_set W ⟨b + 1 + 1 + 1 + 1, 0, none⟩ (.bool c)
  ⟨blk_grown s.hx hg (by simp; omega), blk_grown s.rs hg (by simp; omega), blk_grown s.v hg (by simp), L.blk_set s.ba 0 _, s.rl.kept hg (.inr (own_type s.rl s.ba (by decide))), s.rt.kept hg (.inr (own_type s.rt s.ba (by decide)))⟩
/-- What a round keeps. -/
def Kf (b : Nat) (A W : World) : Prop := (KeepsOthers A W ∧ KpZ b (b + 5) (b + 7) A W) ∧ b + 7 ≤ W.heap.size
theorem Kf.below {A : World} (h : Kf b A W) (hb : Below W.heap.size W W') : Kf b A W' :=
  ⟨⟨h.1.1.trans (KeepsOthers.of_grownBy (grown_of hb none) (fun j o e => by cases e)), h.1.2.t (KpZ.of hb (by have := h.2; omega) h.2)⟩, Nat.le_trans h.2 hb.size⟩
theorem Kf.grown {A : World} {e : TypeId} {size n r : Nat} {v : Value} {xs : List Value} (h : Kf b A W) (ho : W.ownsRow r e size v n xs) (hr : b + 7 ≤ r) (hg : W.grownBy W' v.ownBlock) : Kf b A W' := by
  have hf : ∀ j, v.ownBlock = some j → b + 7 ≤ j := fun j ej => by have := own_base ho j ej; omega
  refine ⟨⟨h.1.1.trans (KeepsOthers.of_grownBy hg (fun j o e ho' => ?_)), h.1.2.t ⟨(Below.refl b W).grown hg (by have := h.2; omega) (fun j ej => by have := hf j ej; omega), fun k h1 h2 => hg.block k (by have := h.2; omega) (fun ej => by have := hf k ej.symm; omega)⟩⟩, Nat.le_trans h.2 hg.size⟩
  rcases ho.2 with ⟨rfl, _⟩ | ⟨g', cap, cur, rfl, _, hgb, _⟩
  · cases e
  · simp only [Value.ownBlock, Option.some.injEq] at e
    subst e
    rw [hgb] at ho'; cases ho'; rfl
theorem Kf.setc {A : World} {p : Addr} (h : Kf b A W) (hp : b ≤ p.block) (hp' : p.block < b + 5) (u : Value) : Kf b A (W.setCell p u) :=
  ⟨⟨h.1.1.trans (KeepsOthers.setCell _ _ _), h.1.2.t ⟨(Below.refl b W).setCell hp u, fun k h1 h2 => Below.heap_setCell W p u k (by omega)⟩⟩, by have := h.2; simpa using this⟩
theorem Kf.set {A : World} {i : Nat} (h : Kf b A W) (u : Value) : Kf b A (W.setCell ⟨b + 1 + 1 + 1, i, none⟩ u) := h.setc (p := ⟨b + 1 + 1 + 1, i, none⟩) (by show b ≤ b + 1 + 1 + 1; omega) (by show b + 1 + 1 + 1 < b + 5; omega) u
end
/-- The boxes that a round's loads read. -/
structure SI (b Bx : Nat) (hx : ByteArray) (cs : Array Value) (W : World) : Prop where
  x : W.heap[Bx]? = some (.cells cs 37 (0, 0))
  h : W.heap[b + 1]? = some (.cells #[.string hx] 9 (0, 0))
theorem SI.below {b Bx : Nat} {hx : ByteArray} {cs : Array Value} {W W' : World} (s : SI b Bx hx cs W) (hb : Below W.heap.size W W') : SI b Bx hx cs W' := ⟨(hb.block _ (L.blk_lt s.x)).trans s.x, (hb.block _ (L.blk_lt s.h)).trans s.h⟩
theorem SI.grown {b Bx : Nat} {hx : ByteArray} {cs : Array Value} {W W' : World} {e : TypeId} {base size n : Nat} {v : Value} {xs : List Value} (s : SI b Bx hx cs W) (ho : W.ownsRow base e size v n xs) (h1 : 37 ≠ e) (h2 : 9 ≠ e) (hg : W.grownBy W' v.ownBlock) : SI b Bx hx cs W' :=
  ⟨blk_grown s.x hg (own_type ho s.x h1), blk_grown s.h hg (own_type ho s.h h2)⟩
theorem SI.set {b Bx : Nat} {hx : ByteArray} {cs : Array Value} {W : World} {i : Nat} (s : SI b Bx hx cs W) (hB : b + 6 < Bx) (u : Value) : SI b Bx hx cs (W.setCell ⟨b + 1 + 1 + 1, i, none⟩ u) :=
  ⟨(L.blk_far (by omega) u).trans s.x, (L.blk_far (by omega) u).trans s.h⟩
def ofI (b : Nat) (hx : ByteArray) (h : List UInt8) (w : World) (pre : List (Nat × It)) (W : World) : Prop := (∃ vl vt, OfS b hx vl vt vl pre.length (bln h (pre.map (·.2))) vt pre.length (pre.map fun p => (p.1 : Int)) (lastBa pre) W) ∧ (Below b w W ∧ b + 7 ≤ W.heap.size)
theorem ofI_own (b : Nat) (hx : ByteArray) (h : List UInt8) (w : World) (hb : b ≤ w.heap.size) (B : Nat) (hB : b ≤ B) : OwnFrom B (ofI b hx h w) :=
  OwnFrom.and (Own.from (fun _ _ _ _ ⟨vl, vt, s⟩ hg hr => ⟨vl, vt, s.kept hg hr⟩) B) (OwnFrom.and (ownFrom_below hb hB) (fun _ _ _ _ hs hg _ => boxed_le hs hg))
theorem alloc_old {w : World} {i : Nat} {x : Obj} (o : Obj) (h : w.heap[i]? = some x) : (w.alloc o).heap[i]? = some x := by rw [Below.heap_alloc _ _ _ (L.blk_lt h)]; exact h
theorem alloc_at {w : World} {n : Nat} (o : Obj) (h : w.heap.size = n) : (w.alloc o).heap[n]? = some o := by subst h; exact heap_alloc_new w o
theorem seven (w : World) (o0 o1 o2 o3 o4 o5 o6 : Obj) : ∃ W : World, W = ((((((w.alloc o0).alloc o1).alloc o2).alloc o3).alloc o4).alloc o5).alloc o6 ∧ W.heap[w.heap.size + 1]? = some o1 ∧ W.heap[w.heap.size + 2]? = some o2 ∧ W.heap[w.heap.size + 3]? = some o3 ∧ W.heap[w.heap.size + 4]? = some o4 ∧ W.heap[w.heap.size + 5]? = some o5 ∧ W.heap[w.heap.size + 6]? = some o6 ∧ Below w.heap.size w W ∧ W.heap.size = w.heap.size + 7 := by
  refine ⟨_, rfl, ?_, ?_, ?_, ?_, ?_, ?_, ?_, ?_⟩
  · exact alloc_old _ (alloc_old _ (alloc_old _ (alloc_old _ (alloc_old _ (alloc_at _ (by simp))))))
  · exact alloc_old _ (alloc_old _ (alloc_old _ (alloc_old _ (alloc_at _ (by simp)))))
  · exact alloc_old _ (alloc_old _ (alloc_old _ (alloc_at _ (by simp))))
  · exact alloc_old _ (alloc_old _ (alloc_at _ (by simp)))
  · exact alloc_old _ (alloc_at _ (by simp))
  · exact alloc_at _ (by simp)
  · exact ((((((alloc1 _ _).alloc (by simp) _).alloc (by simp; omega) _).alloc (by simp; omega) _).alloc (by simp; omega) _).alloc (by simp; omega) _).alloc (by simp; omega) _
  · simp

theorem nil_or_snoc {α : Type} (l : List α) : l = [] ∨ ∃ p x, l = p ++ [x] := by
  rcases List.eq_nil_or_concat l with h | ⟨p, x, h⟩
  · exact .inl h
  · exact .inr ⟨p, x, by simpa using h⟩
theorem prs_ats (o : Lb) : ∀ (l : List It) (k : Nat), (prs o k l).map (·.1) = ats o k l
  | [], _ => rfl
  | x :: r, k => by
    rw [prs, ats]
    split
    · rw [List.map_cons, prs_ats o r (k + 1)]
    · exact prs_ats o r (k + 1)
theorem prs_atI (o : Lb) (l : List It) : (prs o 0 l).map (fun p => (p.1 : Int)) = atI o l := by
  rw [atI, ← prs_ats, List.map_map]; rfl
/-- A row of at least one element, its block. -/
theorem own_cells {W : World} {base : Nat} {e : TypeId} {size n : Nat} {v : Value} {xs : List Value} (h : W.ownsRow base e size v n xs) (hn : 0 < n) : ∃ g cap cur, v = .slice (some ⟨g, 0, none⟩) n cap ∧ base ≤ g ∧ W.heap[g]? = some (.cells cur e (0, 0)) ∧ n ≤ cap ∧ cap ≤ maxLen ∧ cur.size = cap * size ∧ cur.toList.take (n * size) = xs := by
  rcases h.2 with ⟨_, h0⟩ | h
  · omega
  · exact h
/-- A cell of a row of one's own is stored. -/
theorem own_put {W : World} {base g j : Nat} {e : TypeId} {size n cap : Nat} {xs : List Value} {u : Value} (h : W.ownsRow base e size (.slice (some ⟨g, 0, none⟩) n cap) n xs) (hj : j < n * size) : (W.setCell ⟨g, j, none⟩ u).ownsRow base e size (.slice (some ⟨g, 0, none⟩) n cap) n (xs.set j u) := by
  refine ⟨by rw [List.length_set]; exact h.1, .inr ?_⟩
  rcases h.2 with ⟨h0, _⟩ | ⟨g', cap', cur, hv, hb, hg, h1, h2, h3, h4⟩
  · cases h0
  · cases hv
    exact ⟨g, cap, cur.setIfInBounds j u, rfl, hb, L.blk_set hg j u, h1, h2, by simpa using h3, by rw [Array.toList_setIfInBounds, List.take_set, h4]⟩
/-- Behind the two stores into the result's box, and the record put away. -/
theorem ended {W W2 w : World} {b B D : Nat} {u0 u1 x0 x1 vl vt : Value} {nl nt : Nat} {ls : List (List UInt8 × Bool)} {ts : List Int} (hr : W.heap[b + 1 + 1]? = some (.cells #[x0, x1] 29 (0, 0))) (hD : W.heap[D]? = some (.deferred (some []))) (hd : B ≤ D) (hB : b + 7 ≤ B) (hbw : b ≤ w.heap.size) (hb : Below b w W)
    (rl : W.ownsRow (b + 7) 35 2 vl nl (lineCells ls)) (rt : W.ownsRow (b + 7) 3 1 vt nt (numCells ts)) (h2 : W2 = (W.setCell ⟨b + 1 + 1, 0, none⟩ u0).setCell ⟨b + 1 + 1, 1, none⟩ u1) :
    W2.heap[D]? = some (.deferred (some [])) ∧ (W2.putObj D (.deferred none)).heap[b + 1 + 1]? = some (.cells #[u0, u1] 29 (0, 0)) ∧ (W2.putObj D (.deferred none)).ownsRow b 35 2 vl nl (lineCells ls) ∧ (W2.putObj D (.deferred none)).ownsRow b 3 1 vt nt (numCells ts) ∧ Below b w (W2.putObj D (.deferred none)) := by
  have g1 := grown_set W ⟨b + 1 + 1, 0, none⟩ u0
  have g2 := grown_set (W.setCell ⟨b + 1 + 1, 0, none⟩ u0) ⟨b + 1 + 1, 1, none⟩ u1
  have n1 := own_type rl hr (by decide)
  have n2 := own_type rt hr (by decide)
  have hD2 : W2.heap[D]? = some (.deferred (some [])) := by
    rw [h2]; exact blk_grown (blk_grown hD g1 (by simp; omega)) g2 (by simp; omega)
  have k1 : W2.heap[b + 1 + 1]? = some (.cells #[u0, u1] 29 (0, 0)) := by rw [h2]; exact L.blk_set (L.blk_set hr 0 u0) 1 u1
  have k2 : W2.ownsRow (b + 7) 35 2 vl nl (lineCells ls) := by rw [h2]; exact (rl.kept g1 (.inr n1)).kept g2 (.inr n1)
  have k3 : W2.ownsRow (b + 7) 3 1 vt nt (numCells ts) := by rw [h2]; exact (rt.kept g1 (.inr n2)).kept g2 (.inr n2)
  have k4 : Below b w W2 := by rw [h2]; exact (hb.setCell (p := ⟨b + 1 + 1, 0, none⟩) (by show b ≤ b + 1 + 1; omega) _).setCell (p := ⟨b + 1 + 1, 1, none⟩) (by show b ≤ b + 1 + 1; omega) _
  refine ⟨hD2, blk_grown k1 (grownBy_putObj' W2 D (.deferred none)) (by simp; omega), own_more (ownsRow_putObj k2 _ hD2 rfl) (by omega), own_more (ownsRow_putObj k3 _ hD2 rfl) (by omega), ?_⟩
  exact k4.trans ((Below.refl b W2).grown (grownBy_putObj' W2 D (.deferred none)) (by have := k4.size; omega) (fun k e => by cases e; omega))

set_option maxRecDepth 100000 in
set_option maxHeartbeats 4000000 in
theorem of_in (n : Nat) (hn : 6 ≤ n) (A : Option Addr) (cap : Nat) (l : List It) (f0 : Int) (f1 : Nat) (h : List UInt8) (w : World) (hA : ItemsIn w A l) (hll : l.length ≤ maxLen) (HB : Hid (∀ x ∈ l, BlC x.lv f0 x.ct f1 (sees (f0, f1) x))) (hb : l.length * 56 ≤ 140737488355328) :
    CallsIn Fence.wide n Try.prog 6 #[.slice A l.length cap, .agg #[.int .i64 f0, .int .u64 (f1 : Int)], .string ⟨h.toArray⟩] w (VoEnd w (lns h (cut (f0, f1) l)) (atI (f0, f1) l)) := by
  have h1 : 1 ≤ n := by omega
  obtain ⟨i0, hi0, hz0, hz1, hz2⟩ := info_parts infoLine
  obtain ⟨hx, hhx⟩ : ∃ s : ByteArray, s = ⟨h.toArray⟩ := ⟨_, rfl⟩
  rw [← hhx]
  have HHX := Lib.hid hhx
  clear hhx
  obtain ⟨W0, hW0, k1, k2, k3, k4, k5, k6, hB0, hsz⟩ := seven w (.cells #[.int .i64 f0, .int .u64 (f1 : Int)] 25) (.cells #[.string hx] 9) (.cells #[.slice none 0 0, .slice none 0 0] 29) (.cells #[.slice none 0 0, .slice none 0 0] 29) (.cells #[.bool false] 4) (.cells #[.slice A l.length cap] 22) (.cells #[.int .i64 f0, .int .u64 (f1 : Int)] 25)
  refine callsIn_of_wp_marks Try.func6 rfl trivial ?_ rfl
  simp only [Try.ntmps6, List.size_toArray, List.length_cons, List.length_nil, Nat.reduceAdd, Nat.reduceSub, Array.replicate_succ, Array.replicate_zero, List.push_toArray, List.append_toArray, List.nil_append, List.cons_append]
  gi_wp2
  refine ⟨trivial, ?_⟩
  refine (seen_in (n - 1) A l.length cap f0 f1 _).mono ?_
  rintro e w' ⟨rfl, hw'⟩
  rw [← hW0] at hw'
  subst hw'
  simp only [World.size_alloc]
  clear hW0
  obtain ⟨b0, hb0⟩ : ∃ b, b = w.heap.size := ⟨_, rfl⟩
  rw [← hb0] at hsz hB0 k1 k2 k3 k4 k5 k6 ⊢
  have hIt : 0 < l.length → ∃ bk off, A = some ⟨bk, off, none⟩ ∧ bk < b0 ∧ ItemsAt w' bk off l := fun hp => by
    obtain ⟨bk, off, e, hlt, hl⟩ := hA hp
    exact ⟨bk, off, e, by omega, hl.below hB0 (by omega)⟩
  have HBE := Lib.hid hb0
  have hbw : b0 ≤ w.heap.size := by omega
  clear hb0
  obtain ⟨j0, hj0, hy0, hy1, hy2⟩ := info_parts L.infoInt
  unfold maxLen at hll
  gi_wp2
  refine wpIn_rangeFunc_ownH rfl h1 (gf := 30) (lb := #[.pointer (some ⟨b0 + 1 + 1 + 1 + 1 + 1, 0, none⟩), .pointer (some ⟨b0 + 1 + 1 + 1 + 1 + 1 + 1, 0, none⟩)]) rfl trivial (enters_of Try.func30 (by kernel_rfl) rfl)
    (seen_stops (n - 1) (by omega) (b0 + 5) (b0 + 6) b0 (b0 + 5) (b0 + 7) A cap l f0 f1 hll HB w' (by omega) (by omega) (by omega) (by omega) (L.blk_cell k5 0) k6 hIt) KpZ.t (KpZ.b (by omega) (by omega)) (Below.refl _ _) (fun _ => rfl)
    (ofI b0 hx h w)
    (fun _ _ _ => False)
    (ofI_own b0 hx h w hbw _ (by omega))
    (fun _ _ _ _ _ hs _ _ => hs)
    ⟨⟨_, _, ⟨k1, k2, k3, k4, World.ownsRow_nil _ _ _ _, World.ownsRow_nil _ _ _ _⟩⟩, hB0, by omega⟩
    (fun (x : Nat × It) a' W => ∃ Bx, b0 + 6 < Bx ∧ W.heap[Bx]? = some (.cells #[.int .i64 x.2.id, .int .i64 x.2.lv, .int .u64 (x.2.ct : Int), .bool x.2.an, .string ⟨x.2.tx.toArray⟩, .bool x.2.ba] 37 (0, 0)) ∧ a' = { tmps := #[.slice A l.length cap, .agg #[.int .i64 f0, .int .u64 (f1 : Int)], .string hx, undef, .pointer (some ⟨b0, 0, none⟩), .pointer (some ⟨b0 + 1, 0, none⟩), .pointer (some ⟨b0 + 1 + 1, 0, none⟩), .pointer (some ⟨b0 + 1 + 1 + 1, 0, none⟩), .pointer (some ⟨b0 + 1 + 1 + 1 + 1, 0, none⟩), .int .i64 (x.1 : Int), .pointer (some ⟨Bx, 0, none⟩), undef, .slice A l.length cap, .agg #[.int .i64 f0, .int .u64 (f1 : Int)], .func (.func 30) #[] #[.pointer (some ⟨b0 + 1 + 1 + 1 + 1 + 1, 0, none⟩), .pointer (some ⟨b0 + 1 + 1 + 1 + 1 + 1 + 1, 0, none⟩)], .int .i64 (x.1 : Int), itV x.2, undef, undef, undef, undef, undef, undef, undef, undef, undef, undef, undef, undef, undef, undef, undef, undef, undef, undef, undef, undef, undef, undef, undef, undef, undef, undef, undef, undef, undef, undef], defers := [] })
    (fun x a' _ X Y row hs hg hr => by
      obtain ⟨Bx, h1, h2, h3⟩ := hs
      exact ⟨Bx, h1, (hg.block Bx (L.blk_lt h2) (fun e => by
        obtain ⟨_, o, ho, hc⟩ := hr Bx e.symm
        rw [h2] at ho; cases ho; cases hc)).trans h2, h3⟩)
    ?assign ?body ?done ?stop
  case assign =>
    rintro lp pre x W K ⟨⟨vl, vt, s⟩, hB, hs4⟩ hK
    dsimp only [itV] at hK ⊢
    gi_wp2
    exact hK _ _ ((KeepsOthers.alloc _ _).from _) (KpZ.of (alloc1 _ _) (by omega) (by omega)) ⟨⟨vl, vt, s.below (alloc1 _ _)⟩, hB.alloc (by omega) _, by simp; omega⟩ ⟨W.heap.size, by omega, heap_alloc_new W _, rfl⟩
  case body =>
    rintro lp pre x a' W hlp ⟨r, hr⟩ ⟨⟨vl, vt, s⟩, hB, hs4⟩ ⟨Bx, hBx, hbX, rfl⟩ hlt
    obtain ⟨q, y⟩ := x
    simp only at hbX ⊢
    have HSH := Lib.hid (fun w => shown_any y h w)
    rw [← HHX.out] at HSH
    obtain ⟨tz, htz⟩ : ∃ s : ByteArray, s = ⟨(txt h y).toArray⟩ := ⟨_, rfl⟩
    rw [← htz] at HSH
    have HTZ := Lib.hid htz
    clear htz
    have H1C : Hid (∀ u ∈ ([.string tz, .bool false] : List Value), u.oneCell' = true) := Lib.hid (by intro u hu; simp at hu; rcases hu with rfl | rfl <;> rfl)
    obtain ⟨ys, hys⟩ : ∃ s : ByteArray, s = ⟨y.tx.toArray⟩ := ⟨_, rfl⟩
    unfold itV at HSH
    rw [← hys] at hbX HSH
    simp only [itV]
    rw [← hys]
    have HYS := Lib.hid hys
    clear hys
    have HSX : Hid (∀ wz, SI b0 Bx hx #[.int .i64 y.id, .int .i64 y.lv, .int .u64 (y.ct : Int), .bool y.an, .string ys, .bool y.ba] wz → wz.cell? ⟨Bx, 0, none⟩ = some (.int .i64 y.id) ∧ wz.cell? ⟨Bx, 1, none⟩ = some (.int .i64 y.lv) ∧ wz.cell? ⟨Bx, 2, none⟩ = some (.int .u64 (y.ct : Int)) ∧ wz.cell? ⟨Bx, 3, none⟩ = some (.bool y.an) ∧ wz.cell? ⟨Bx, 4, none⟩ = some (.string ys) ∧ wz.cell? ⟨Bx, 5, none⟩ = some (.bool y.ba) ∧ wz.cell? ⟨b0 + 1, 0, none⟩ = some (.string hx)) := Lib.hid (fun wz h => ⟨L.blk_cell h.x 0, L.blk_cell h.x 1, L.blk_cell h.x 2, L.blk_cell h.x 3, L.blk_cell h.x 4, L.blk_cell h.x 5, L.blk_cell h.h 0⟩)
    have HO := Lib.hid (s.below ((Below.refl _ W).drew))
    have HK : Hid (Kf b0 W W.drew) := Lib.hid ⟨⟨KeepsOthers.drew _, KpZ.of ((Below.refl _ W).drew) (by omega) (by omega)⟩, hs4⟩
    have HS0 : Hid (SI b0 Bx hx #[.int .i64 y.id, .int .i64 y.lv, .int .u64 (y.ct : Int), .bool y.an, .string ys, .bool y.ba] W.drew) := Lib.hid (SI.below ⟨hbX, s.hx⟩ ((Below.refl _ W).drew))
    have HBW := Lib.hid hB
    clear s hbX hB
    gi_wp2
    refine region_round (S := SI b0 Bx hx #[.int .i64 y.id, .int .i64 y.lv, .int .u64 (y.ct : Int), .bool y.an, .string ys, .bool y.ba]) (by kernel_rfl) (by kernel_rfl) (fun h => ?_) HS0.out (fun hS => ?_)
    · obtain ⟨_, _, h⟩ := h
      exact h.elim
    clear HS0
    generalize W.drew = wc at *
    refine wpAnyH_take (i := 0) (oi := { dst := some 17, op := Go.Op.fieldAddr 29 (Go.Operand.tmp 7) 0, type := 0, pos := "view.go:29", after := #[], guard := none }) (v := ?_) rfl (by kernel_rfl) (by kernel_rfl) (by kernel_rfl) (fun _ _ _ h => h) (Or.inl ⟨by rfl, ?_⟩) hS ?_
    rotate_left
    · (intro wz hSz; obtain ⟨z0, z1, z2, z3, z4, z5, z6⟩ := HSX.out wz hSz; go_simp; try with_reducible rfl)
    try simp only [Act.put, List.setIfInBounds_toArray, List.set_cons_zero, List.set_cons_succ]
    refine wpAnyH_take (i := 2) (oi := { dst := some 19, op := Go.Op.load 37 (Go.Operand.tmp 10), type := 37, pos := "view.go:29", after := #[], guard := none }) (v := ?_) rfl (by kernel_rfl) (by kernel_rfl) (by kernel_rfl) (fun _ _ _ h => h) (Or.inl ⟨by rfl, ?_⟩) hS ?_
    rotate_left
    · (intro wz hSz; obtain ⟨z0, z1, z2, z3, z4, z5, z6⟩ := HSX.out wz hSz; go_simp; try with_reducible rfl)
    try simp only [Act.put, List.setIfInBounds_toArray, List.set_cons_zero, List.set_cons_succ]
    refine wpAnyH_take (i := 3) (oi := { dst := some 20, op := Go.Op.load 9 (Go.Operand.tmp 5), type := 9, pos := "view.go:29", after := #[], guard := none }) (v := ?_) rfl (by kernel_rfl) (by kernel_rfl) (by kernel_rfl) (fun _ _ _ h => h) (Or.inl ⟨by rfl, ?_⟩) hS ?_
    rotate_left
    · (intro wz hSz; obtain ⟨z0, z1, z2, z3, z4, z5, z6⟩ := HSX.out wz hSz; go_simp; try with_reducible rfl)
    try simp only [Act.put, List.setIfInBounds_toArray, List.set_cons_zero, List.set_cons_succ]
    refine wpAnyH_ready (rs := [1, 4]) (by kernel_rfl) (by simp) ?_
    refine AllReadyH.cons (o := { dst := some 18, op := Go.Op.load 26 (Go.Operand.tmp 17), type := 26, pos := "view.go:29", after := #[{ on := 0, ground := Go.Ground.data }], guard := none }) rfl (fun K hK => ?_) (AllReadyH.cons (o := { dst := some 21, op := Go.Op.call { callee := Go.Callee.value (Go.Operand.func 17), args := #[Go.Operand.tmp 19, Go.Operand.tmp 20], argTypes := #[37, 9] }, type := 35, pos := "view.go:29", after := #[{ on := 2, ground := Go.Ground.data }, { on := 3, ground := Go.Ground.data }], guard := none }) rfl (fun K hK => ?_) AllReadyH.nil)
    · skip
      have c3 := L.blk_cell HO.out.v 0
      simp only [List.getElem?_toArray, List.getElem?_cons_zero] at c3
      go_simp
      clear c3
      refine hK.out _ _ hS (fun hS1 => ?_)
      clear hK K hS
      have hS := hS1
      clear hS1
      try simp only [Act.put, List.setIfInBounds_toArray, List.set_cons_zero, List.set_cons_succ]
      refine wpAnyH_ready (rs := [4]) (by kernel_rfl) (by simp) ?_
      refine AllReadyH.cons (o := { dst := some 21, op := Go.Op.call { callee := Go.Callee.value (Go.Operand.func 17), args := #[Go.Operand.tmp 19, Go.Operand.tmp 20], argTypes := #[37, 9] }, type := 35, pos := "view.go:29", after := #[{ on := 2, ground := Go.Ground.data }, { on := 3, ground := Go.Ground.data }], guard := none }) rfl (fun K hK => ?_) AllReadyH.nil
      go_simp
      with_reducible refine (HSH.out _).mono ?_
      rintro r wn ⟨rfl, hbq⟩
      go_wp2_with fail
      refine hK.out _ _ (hS.below hbq) (fun hS1 => ?_)
      replace HO := Lib.hid (HO.out.below hbq)
      replace HK := Lib.hid (HK.out.below hbq)
      clear hK K hbq hS
      have hS := hS1
      clear hS1
      clear wc
      generalize hwc : wn = wc at *
      clear hwc
      clear wn
      try simp only [Act.put, List.setIfInBounds_toArray, List.set_cons_zero, List.set_cons_succ]
      refine wpAnyH_ready (rs := [5]) (by kernel_rfl) (by simp) ?_
      refine AllReadyH.cons (o := { dst := some 22, op := Go.Op.buildSlice 26 1 #[(0, Go.Operand.tmp 21)], type := 26, pos := "view.go:29", after := #[{ on := 4, ground := Go.Ground.data }], guard := none }) rfl (fun K hK => ?_) AllReadyH.nil
      go_simp
      refine hK.out _ _ (hS.below (alloc1 _ _)) (fun hS1 => ?_)
      have HNW := Lib.hid (World.news_of_block (heap_alloc_new wc (.cells #[.string tz, .bool false] 35)))
      replace HO := Lib.hid (HO.out.below (alloc1 wc (.cells #[.string tz, .bool false] 35)))
      replace HK := Lib.hid (HK.out.below (alloc1 wc (.cells #[.string tz, .bool false] 35)))
      clear hK K hS
      have hS := hS1
      clear hS1
      generalize wc.alloc (.cells #[.string tz, .bool false] 35) = W5 at *
      generalize wc.heap.size = hb5 at *
      try simp only [Act.put, List.setIfInBounds_toArray, List.set_cons_zero, List.set_cons_succ]
      have hsd : b0 + 7 ≤ W5.heap.size := HK.out.2
      refine wpAnyH_ready (rs := [6]) (by kernel_rfl) (by simp) ?_
      refine AllReadyH.cons (o := { dst := some 23, op := Go.Op.call { callee := Go.Callee.builtin Go.Builtin.append, args := #[Go.Operand.tmp 18, Go.Operand.tmp 22], argTypes := #[26, 26] }, type := 26, pos := "view.go:29", after := #[{ on := 1, ground := Go.Ground.data }, { on := 5, ground := Go.Ground.data }, { on := 4, ground := Go.Ground.chain }], guard := none }) rfl (fun K hK => ?_) AllReadyH.nil
      refine step_append_lies _ (by rfl) (.tmp 18) (.tmp 22) 26 (by rfl) (b0 + 7) 35 i0 _ 2 24 Try.underlying26 hi0 hz0 hz1 hz2 rfl (by decide) vl pre.length (lineCells (bln h (pre.map (·.2)))) (by rfl) HO.out.rl ⟨hb5, 0, none⟩ 1 1 [.string tz, .bool false] (by rfl) rfl HNW.out H1C.out (by omega) (by unfold maxLen; omega) (by omega) (by omega) _ rfl ?_
      intro g5 cap5 w5 hown5 hg5 hat5 hlt5
      skip
      have HO6 := Lib.hid (HO.out.grownL (ls' := bln h (pre.map (·.2)) ++ [(txt h y, false)]) (by rw [lineCells_snoc, ← HTZ.out]; exact hown5) hg5)
      have HK6 := Lib.hid (HK.out.grown HO.out.rl (by omega) hg5)
      refine hK.out _ _ (hS.grown HO.out.rl (by decide) (by decide) hg5) (fun hS1 => ?_)
      clear hS
      have hS := hS1
      clear hS1
      clear hK K HO HK HNW hown5 hg5 hat5 hlt5
      try simp only [Act.put, List.setIfInBounds_toArray, List.set_cons_zero, List.set_cons_succ]
      refine wpAnyH_take (i := 7) (oi := { dst := some 24, op := Go.Op.fieldAddr 29 (Go.Operand.tmp 7) 0, type := 0, pos := "view.go:29", after := #[{ on := 0, ground := Go.Ground.phase }, { on := 1, ground := Go.Ground.phase }, { on := 2, ground := Go.Ground.phase }, { on := 3, ground := Go.Ground.phase }, { on := 4, ground := Go.Ground.phase }, { on := 5, ground := Go.Ground.phase }, { on := 6, ground := Go.Ground.phase }], guard := none }) (v := ?_) rfl (by kernel_rfl) (by kernel_rfl) (by kernel_rfl) (fun _ _ _ h => h) (Or.inl ⟨by rfl, ?_⟩) hS ?_
      rotate_left
      · (intro wz hSz; obtain ⟨z0, z1, z2, z3, z4, z5, z6⟩ := HSX.out wz hSz; go_simp; try with_reducible rfl)
      try simp only [Act.put, List.setIfInBounds_toArray, List.set_cons_zero, List.set_cons_succ]
      refine wpAnyH_ready (rs := [8]) (by kernel_rfl) (by simp) ?_
      refine AllReadyH.cons (o := { dst := none, op := Go.Op.store 26 (Go.Operand.tmp 24) (Go.Operand.tmp 23), type := 0, pos := "view.go:29", after := #[{ on := 7, ground := Go.Ground.data }, { on := 6, ground := Go.Ground.data }, { on := 6, ground := Go.Ground.chain }, { on := 0, ground := Go.Ground.phase }, { on := 1, ground := Go.Ground.phase }, { on := 2, ground := Go.Ground.phase }, { on := 3, ground := Go.Ground.phase }, { on := 4, ground := Go.Ground.phase }, { on := 5, ground := Go.Ground.phase }, { on := 6, ground := Go.Ground.phase }], guard := none }) rfl (fun K hK => ?_) AllReadyH.nil
      have c3 := L.blk_cell HO6.out.v 0
      have c4 := L.blk_free HO6.out.v 0
      simp only [List.getElem?_toArray, List.getElem?_cons_zero] at c3
      go_simp
      clear c3 c4
      have HO8 := Lib.hid (HO6.out.setL (.slice (some ⟨g5, 0, none⟩) (pre.length + 1) cap5))
      have HK8 := Lib.hid (HK6.out.set (i := 0) (.slice (some ⟨g5, 0, none⟩) (pre.length + 1) cap5))
      refine hK.out _ _ (hS.set (by omega) (.slice (some ⟨g5, 0, none⟩) (pre.length + 1) cap5)) (fun hS1 => ?_)
      clear hS
      have hS := hS1
      clear hS1
      clear hK K HO6 HK6
      generalize w5.setCell ⟨b0 + 1 + 1 + 1, 0, none⟩ (.slice (some ⟨g5, 0, none⟩) (pre.length + 1) cap5) = W8 at *
      try simp only [Act.put, List.setIfInBounds_toArray, List.set_cons_zero, List.set_cons_succ]
      refine wpAnyH_done (by kernel_rfl) ?_ _
      have c1 := L.blk_cell HO8.out.v 1
      have d1 := L.blk_free HO8.out.v 1
      simp only [List.getElem?_toArray, List.getElem?_cons_zero, List.getElem?_cons_succ] at c1
      have hs8 : b0 + 7 ≤ W8.heap.size := HK8.out.2
      gi_wp2_with (gi_at_builtin; refine wpListIn_append_own _ rfl _ _ 27 rfl (b0 + 7) 3 j0 _ 1 8 Try.underlying27 hj0 hy0 hy1 hy2 rfl (by decide) _ _ _ rfl (HO8.out.rt.alloc _) ⟨W8.heap.size, 0, none⟩ 1 1 [.int .i64 (q : Int)] rfl rfl (World.news_of_block (heap_alloc_new W8 _)) (by intro u hu; simp at hu; rcases hu with rfl; rfl) (by unfold maxLen; omega) (by omega) (by simp; omega) ?_; intro v9 w9 hown9 hgrow9 _; obtain ⟨g9, cap9, rfl⟩ := ownsRow_succ hown9; have HO9 := Lib.hid ((HO8.out.below (alloc1 W8 (.cells #[.int .i64 (q : Int)] 3))).grownT (ts' := pre.map (fun p => (p.1 : Int)) ++ [(q : Int)]) (by rw [numCells_snoc]; exact hown9) hgrow9); have HK9 := Lib.hid ((HK8.out.below (alloc1 W8 (.cells #[.int .i64 (q : Int)] 3))).grown (HO8.out.rt.alloc _) (by omega) hgrow9); have hS9 := (hS.below (alloc1 W8 (.cells #[.int .i64 (q : Int)] 3))).grown (HO8.out.rt.alloc _) (by decide) (by decide) hgrow9; have c9 := L.blk_cell HO9.out.v 1; have d9 := L.blk_free HO9.out.v 1; simp only [List.getElem?_toArray, List.getElem?_cons_zero, List.getElem?_cons_succ] at c9; have HO10 := Lib.hid (HO9.out.setT (.slice (some ⟨g9, 0, none⟩) (pre.length + 1) cap9)); have HK10 := Lib.hid (HK9.out.set (i := 1) (.slice (some ⟨g9, 0, none⟩) (pre.length + 1) cap9)); have hS10 := hS9.set (i := 1) hBx (.slice (some ⟨g9, 0, none⟩) (pre.length + 1) cap9); obtain ⟨W10, hW10⟩ : ∃ W : World, W = w9.setCell ⟨b0 + 1 + 1 + 1, 1, none⟩ (.slice (some ⟨g9, 0, none⟩) (pre.length + 1) cap9) := ⟨_, rfl⟩; rw [← hW10] at HO10 HK10 hS10; have x5 := (HSX.out _ hS10).2.2.2.2.2.1; have b5 := L.blk_cell HO10.out.ba 0; have f5 := L.blk_free HO10.out.ba 0; simp only [List.getElem?_toArray, List.getElem?_cons_zero, List.getElem?_cons_succ] at b5; rw [hW10] at x5 b5 f5; clear hown9 hgrow9 hS HO8 HK8 HO9 HK9 hS9 hS10)
      rw [← hW10]
      clear hW10 x5 b5 f5 c9 d9 c1 d1
      have HO11 := Lib.hid (HO10.out.setB y.ba)
      have HK11 := Lib.hid (HK10.out.setc (p := ⟨b0 + 1 + 1 + 1 + 1, 0, none⟩) (by show b0 ≤ b0 + 1 + 1 + 1 + 1; omega) (by show b0 + 1 + 1 + 1 + 1 < b0 + 5; omega) (.bool y.ba))
      clear HO10 HK10
      refine ⟨HK11.out.1.1.from _, HK11.out.1.2, ⟨⟨.slice (some ⟨g5, 0, none⟩) (pre.length + 1) cap5, .slice (some ⟨g9, 0, none⟩) (pre.length + 1) cap9, ?_⟩, HBW.out.trans HK11.out.1.2.1, HK11.out.2⟩⟩
      have e1 : bln h ((pre ++ [(q, y)]).map (·.2)) = bln h (pre.map (·.2)) ++ [(txt h y, false)] := by simp [bln]
      have e2 : (pre ++ [(q, y)]).map (fun p => (p.1 : Int)) = pre.map (fun p => (p.1 : Int)) ++ [(q : Int)] := by simp
      have e3 : (pre ++ [(q, y)]).length = pre.length + 1 := by simp
      rw [e1, e2, e3, lastBa_snoc]
      exact HO11.out
    · skip
      go_simp
      with_reducible refine (HSH.out _).mono ?_
      rintro r wn ⟨rfl, hbq⟩
      go_wp2_with fail
      refine hK.out _ _ (hS.below hbq) (fun hS1 => ?_)
      replace HO := Lib.hid (HO.out.below hbq)
      replace HK := Lib.hid (HK.out.below hbq)
      clear hK K hbq hS
      have hS := hS1
      clear hS1
      clear wc
      generalize hwc : wn = wc at *
      clear hwc
      clear wn
      try simp only [Act.put, List.setIfInBounds_toArray, List.set_cons_zero, List.set_cons_succ]
      refine wpAnyH_ready (rs := [1, 5]) (by kernel_rfl) (by simp) ?_
      refine AllReadyH.cons (o := { dst := some 18, op := Go.Op.load 26 (Go.Operand.tmp 17), type := 26, pos := "view.go:29", after := #[{ on := 0, ground := Go.Ground.data }], guard := none }) rfl (fun K hK => ?_) (AllReadyH.cons (o := { dst := some 22, op := Go.Op.buildSlice 26 1 #[(0, Go.Operand.tmp 21)], type := 26, pos := "view.go:29", after := #[{ on := 4, ground := Go.Ground.data }], guard := none }) rfl (fun K hK => ?_) AllReadyH.nil)
      · skip
        have c3 := L.blk_cell HO.out.v 0
        simp only [List.getElem?_toArray, List.getElem?_cons_zero] at c3
        go_simp
        clear c3
        refine hK.out _ _ hS (fun hS1 => ?_)
        clear hK K hS
        have hS := hS1
        clear hS1
        try simp only [Act.put, List.setIfInBounds_toArray, List.set_cons_zero, List.set_cons_succ]
        refine wpAnyH_ready (rs := [5]) (by kernel_rfl) (by simp) ?_
        refine AllReadyH.cons (o := { dst := some 22, op := Go.Op.buildSlice 26 1 #[(0, Go.Operand.tmp 21)], type := 26, pos := "view.go:29", after := #[{ on := 4, ground := Go.Ground.data }], guard := none }) rfl (fun K hK => ?_) AllReadyH.nil
        go_simp
        refine hK.out _ _ (hS.below (alloc1 _ _)) (fun hS1 => ?_)
        have HNW := Lib.hid (World.news_of_block (heap_alloc_new wc (.cells #[.string tz, .bool false] 35)))
        replace HO := Lib.hid (HO.out.below (alloc1 wc (.cells #[.string tz, .bool false] 35)))
        replace HK := Lib.hid (HK.out.below (alloc1 wc (.cells #[.string tz, .bool false] 35)))
        clear hK K hS
        have hS := hS1
        clear hS1
        generalize wc.alloc (.cells #[.string tz, .bool false] 35) = W5 at *
        generalize wc.heap.size = hb5 at *
        try simp only [Act.put, List.setIfInBounds_toArray, List.set_cons_zero, List.set_cons_succ]
        have hsd : b0 + 7 ≤ W5.heap.size := HK.out.2
        refine wpAnyH_ready (rs := [6]) (by kernel_rfl) (by simp) ?_
        refine AllReadyH.cons (o := { dst := some 23, op := Go.Op.call { callee := Go.Callee.builtin Go.Builtin.append, args := #[Go.Operand.tmp 18, Go.Operand.tmp 22], argTypes := #[26, 26] }, type := 26, pos := "view.go:29", after := #[{ on := 1, ground := Go.Ground.data }, { on := 5, ground := Go.Ground.data }, { on := 4, ground := Go.Ground.chain }], guard := none }) rfl (fun K hK => ?_) AllReadyH.nil
        refine step_append_lies _ (by rfl) (.tmp 18) (.tmp 22) 26 (by rfl) (b0 + 7) 35 i0 _ 2 24 Try.underlying26 hi0 hz0 hz1 hz2 rfl (by decide) vl pre.length (lineCells (bln h (pre.map (·.2)))) (by rfl) HO.out.rl ⟨hb5, 0, none⟩ 1 1 [.string tz, .bool false] (by rfl) rfl HNW.out H1C.out (by omega) (by unfold maxLen; omega) (by omega) (by omega) _ rfl ?_
        intro g5 cap5 w5 hown5 hg5 hat5 hlt5
        skip
        have HO6 := Lib.hid (HO.out.grownL (ls' := bln h (pre.map (·.2)) ++ [(txt h y, false)]) (by rw [lineCells_snoc, ← HTZ.out]; exact hown5) hg5)
        have HK6 := Lib.hid (HK.out.grown HO.out.rl (by omega) hg5)
        refine hK.out _ _ (hS.grown HO.out.rl (by decide) (by decide) hg5) (fun hS1 => ?_)
        clear hS
        have hS := hS1
        clear hS1
        clear hK K HO HK HNW hown5 hg5 hat5 hlt5
        try simp only [Act.put, List.setIfInBounds_toArray, List.set_cons_zero, List.set_cons_succ]
        refine wpAnyH_take (i := 7) (oi := { dst := some 24, op := Go.Op.fieldAddr 29 (Go.Operand.tmp 7) 0, type := 0, pos := "view.go:29", after := #[{ on := 0, ground := Go.Ground.phase }, { on := 1, ground := Go.Ground.phase }, { on := 2, ground := Go.Ground.phase }, { on := 3, ground := Go.Ground.phase }, { on := 4, ground := Go.Ground.phase }, { on := 5, ground := Go.Ground.phase }, { on := 6, ground := Go.Ground.phase }], guard := none }) (v := ?_) rfl (by kernel_rfl) (by kernel_rfl) (by kernel_rfl) (fun _ _ _ h => h) (Or.inl ⟨by rfl, ?_⟩) hS ?_
        rotate_left
        · (intro wz hSz; obtain ⟨z0, z1, z2, z3, z4, z5, z6⟩ := HSX.out wz hSz; go_simp; try with_reducible rfl)
        try simp only [Act.put, List.setIfInBounds_toArray, List.set_cons_zero, List.set_cons_succ]
        refine wpAnyH_ready (rs := [8]) (by kernel_rfl) (by simp) ?_
        refine AllReadyH.cons (o := { dst := none, op := Go.Op.store 26 (Go.Operand.tmp 24) (Go.Operand.tmp 23), type := 0, pos := "view.go:29", after := #[{ on := 7, ground := Go.Ground.data }, { on := 6, ground := Go.Ground.data }, { on := 6, ground := Go.Ground.chain }, { on := 0, ground := Go.Ground.phase }, { on := 1, ground := Go.Ground.phase }, { on := 2, ground := Go.Ground.phase }, { on := 3, ground := Go.Ground.phase }, { on := 4, ground := Go.Ground.phase }, { on := 5, ground := Go.Ground.phase }, { on := 6, ground := Go.Ground.phase }], guard := none }) rfl (fun K hK => ?_) AllReadyH.nil
        have c3 := L.blk_cell HO6.out.v 0
        have c4 := L.blk_free HO6.out.v 0
        simp only [List.getElem?_toArray, List.getElem?_cons_zero] at c3
        go_simp
        clear c3 c4
        have HO8 := Lib.hid (HO6.out.setL (.slice (some ⟨g5, 0, none⟩) (pre.length + 1) cap5))
        have HK8 := Lib.hid (HK6.out.set (i := 0) (.slice (some ⟨g5, 0, none⟩) (pre.length + 1) cap5))
        refine hK.out _ _ (hS.set (by omega) (.slice (some ⟨g5, 0, none⟩) (pre.length + 1) cap5)) (fun hS1 => ?_)
        clear hS
        have hS := hS1
        clear hS1
        clear hK K HO6 HK6
        generalize w5.setCell ⟨b0 + 1 + 1 + 1, 0, none⟩ (.slice (some ⟨g5, 0, none⟩) (pre.length + 1) cap5) = W8 at *
        try simp only [Act.put, List.setIfInBounds_toArray, List.set_cons_zero, List.set_cons_succ]
        refine wpAnyH_done (by kernel_rfl) ?_ _
        have c1 := L.blk_cell HO8.out.v 1
        have d1 := L.blk_free HO8.out.v 1
        simp only [List.getElem?_toArray, List.getElem?_cons_zero, List.getElem?_cons_succ] at c1
        have hs8 : b0 + 7 ≤ W8.heap.size := HK8.out.2
        gi_wp2_with (gi_at_builtin; refine wpListIn_append_own _ rfl _ _ 27 rfl (b0 + 7) 3 j0 _ 1 8 Try.underlying27 hj0 hy0 hy1 hy2 rfl (by decide) _ _ _ rfl (HO8.out.rt.alloc _) ⟨W8.heap.size, 0, none⟩ 1 1 [.int .i64 (q : Int)] rfl rfl (World.news_of_block (heap_alloc_new W8 _)) (by intro u hu; simp at hu; rcases hu with rfl; rfl) (by unfold maxLen; omega) (by omega) (by simp; omega) ?_; intro v9 w9 hown9 hgrow9 _; obtain ⟨g9, cap9, rfl⟩ := ownsRow_succ hown9; have HO9 := Lib.hid ((HO8.out.below (alloc1 W8 (.cells #[.int .i64 (q : Int)] 3))).grownT (ts' := pre.map (fun p => (p.1 : Int)) ++ [(q : Int)]) (by rw [numCells_snoc]; exact hown9) hgrow9); have HK9 := Lib.hid ((HK8.out.below (alloc1 W8 (.cells #[.int .i64 (q : Int)] 3))).grown (HO8.out.rt.alloc _) (by omega) hgrow9); have hS9 := (hS.below (alloc1 W8 (.cells #[.int .i64 (q : Int)] 3))).grown (HO8.out.rt.alloc _) (by decide) (by decide) hgrow9; have c9 := L.blk_cell HO9.out.v 1; have d9 := L.blk_free HO9.out.v 1; simp only [List.getElem?_toArray, List.getElem?_cons_zero, List.getElem?_cons_succ] at c9; have HO10 := Lib.hid (HO9.out.setT (.slice (some ⟨g9, 0, none⟩) (pre.length + 1) cap9)); have HK10 := Lib.hid (HK9.out.set (i := 1) (.slice (some ⟨g9, 0, none⟩) (pre.length + 1) cap9)); have hS10 := hS9.set (i := 1) hBx (.slice (some ⟨g9, 0, none⟩) (pre.length + 1) cap9); obtain ⟨W10, hW10⟩ : ∃ W : World, W = w9.setCell ⟨b0 + 1 + 1 + 1, 1, none⟩ (.slice (some ⟨g9, 0, none⟩) (pre.length + 1) cap9) := ⟨_, rfl⟩; rw [← hW10] at HO10 HK10 hS10; have x5 := (HSX.out _ hS10).2.2.2.2.2.1; have b5 := L.blk_cell HO10.out.ba 0; have f5 := L.blk_free HO10.out.ba 0; simp only [List.getElem?_toArray, List.getElem?_cons_zero, List.getElem?_cons_succ] at b5; rw [hW10] at x5 b5 f5; clear hown9 hgrow9 hS HO8 HK8 HO9 HK9 hS9 hS10)
        rw [← hW10]
        clear hW10 x5 b5 f5 c9 d9 c1 d1
        have HO11 := Lib.hid (HO10.out.setB y.ba)
        have HK11 := Lib.hid (HK10.out.setc (p := ⟨b0 + 1 + 1 + 1 + 1, 0, none⟩) (by show b0 ≤ b0 + 1 + 1 + 1 + 1; omega) (by show b0 + 1 + 1 + 1 + 1 < b0 + 5; omega) (.bool y.ba))
        clear HO10 HK10
        refine ⟨HK11.out.1.1.from _, HK11.out.1.2, ⟨⟨.slice (some ⟨g5, 0, none⟩) (pre.length + 1) cap5, .slice (some ⟨g9, 0, none⟩) (pre.length + 1) cap9, ?_⟩, HBW.out.trans HK11.out.1.2.1, HK11.out.2⟩⟩
        have e1 : bln h ((pre ++ [(q, y)]).map (·.2)) = bln h (pre.map (·.2)) ++ [(txt h y, false)] := by simp [bln]
        have e2 : (pre ++ [(q, y)]).map (fun p => (p.1 : Int)) = pre.map (fun p => (p.1 : Int)) ++ [(q : Int)] := by simp
        have e3 : (pre ++ [(q, y)]).length = pre.length + 1 := by simp
        rw [e1, e2, e3, lastBa_snoc]
        exact HO11.out
      · skip
        go_simp
        refine hK.out _ _ (hS.below (alloc1 _ _)) (fun hS1 => ?_)
        have HNW := Lib.hid (World.news_of_block (heap_alloc_new wc (.cells #[.string tz, .bool false] 35)))
        replace HO := Lib.hid (HO.out.below (alloc1 wc (.cells #[.string tz, .bool false] 35)))
        replace HK := Lib.hid (HK.out.below (alloc1 wc (.cells #[.string tz, .bool false] 35)))
        clear hK K hS
        have hS := hS1
        clear hS1
        generalize wc.alloc (.cells #[.string tz, .bool false] 35) = W5 at *
        generalize wc.heap.size = hb5 at *
        try simp only [Act.put, List.setIfInBounds_toArray, List.set_cons_zero, List.set_cons_succ]
        refine wpAnyH_ready (rs := [1]) (by kernel_rfl) (by simp) ?_
        refine AllReadyH.cons (o := { dst := some 18, op := Go.Op.load 26 (Go.Operand.tmp 17), type := 26, pos := "view.go:29", after := #[{ on := 0, ground := Go.Ground.data }], guard := none }) rfl (fun K hK => ?_) AllReadyH.nil
        have c3 := L.blk_cell HO.out.v 0
        simp only [List.getElem?_toArray, List.getElem?_cons_zero] at c3
        go_simp
        clear c3
        refine hK.out _ _ hS (fun hS1 => ?_)
        clear hK K hS
        have hS := hS1
        clear hS1
        try simp only [Act.put, List.setIfInBounds_toArray, List.set_cons_zero, List.set_cons_succ]
        have hsd : b0 + 7 ≤ W5.heap.size := HK.out.2
        refine wpAnyH_ready (rs := [6]) (by kernel_rfl) (by simp) ?_
        refine AllReadyH.cons (o := { dst := some 23, op := Go.Op.call { callee := Go.Callee.builtin Go.Builtin.append, args := #[Go.Operand.tmp 18, Go.Operand.tmp 22], argTypes := #[26, 26] }, type := 26, pos := "view.go:29", after := #[{ on := 1, ground := Go.Ground.data }, { on := 5, ground := Go.Ground.data }, { on := 4, ground := Go.Ground.chain }], guard := none }) rfl (fun K hK => ?_) AllReadyH.nil
        refine step_append_lies _ (by rfl) (.tmp 18) (.tmp 22) 26 (by rfl) (b0 + 7) 35 i0 _ 2 24 Try.underlying26 hi0 hz0 hz1 hz2 rfl (by decide) vl pre.length (lineCells (bln h (pre.map (·.2)))) (by rfl) HO.out.rl ⟨hb5, 0, none⟩ 1 1 [.string tz, .bool false] (by rfl) rfl HNW.out H1C.out (by omega) (by unfold maxLen; omega) (by omega) (by omega) _ rfl ?_
        intro g5 cap5 w5 hown5 hg5 hat5 hlt5
        skip
        have HO6 := Lib.hid (HO.out.grownL (ls' := bln h (pre.map (·.2)) ++ [(txt h y, false)]) (by rw [lineCells_snoc, ← HTZ.out]; exact hown5) hg5)
        have HK6 := Lib.hid (HK.out.grown HO.out.rl (by omega) hg5)
        refine hK.out _ _ (hS.grown HO.out.rl (by decide) (by decide) hg5) (fun hS1 => ?_)
        clear hS
        have hS := hS1
        clear hS1
        clear hK K HO HK HNW hown5 hg5 hat5 hlt5
        try simp only [Act.put, List.setIfInBounds_toArray, List.set_cons_zero, List.set_cons_succ]
        refine wpAnyH_take (i := 7) (oi := { dst := some 24, op := Go.Op.fieldAddr 29 (Go.Operand.tmp 7) 0, type := 0, pos := "view.go:29", after := #[{ on := 0, ground := Go.Ground.phase }, { on := 1, ground := Go.Ground.phase }, { on := 2, ground := Go.Ground.phase }, { on := 3, ground := Go.Ground.phase }, { on := 4, ground := Go.Ground.phase }, { on := 5, ground := Go.Ground.phase }, { on := 6, ground := Go.Ground.phase }], guard := none }) (v := ?_) rfl (by kernel_rfl) (by kernel_rfl) (by kernel_rfl) (fun _ _ _ h => h) (Or.inl ⟨by rfl, ?_⟩) hS ?_
        rotate_left
        · (intro wz hSz; obtain ⟨z0, z1, z2, z3, z4, z5, z6⟩ := HSX.out wz hSz; go_simp; try with_reducible rfl)
        try simp only [Act.put, List.setIfInBounds_toArray, List.set_cons_zero, List.set_cons_succ]
        refine wpAnyH_ready (rs := [8]) (by kernel_rfl) (by simp) ?_
        refine AllReadyH.cons (o := { dst := none, op := Go.Op.store 26 (Go.Operand.tmp 24) (Go.Operand.tmp 23), type := 0, pos := "view.go:29", after := #[{ on := 7, ground := Go.Ground.data }, { on := 6, ground := Go.Ground.data }, { on := 6, ground := Go.Ground.chain }, { on := 0, ground := Go.Ground.phase }, { on := 1, ground := Go.Ground.phase }, { on := 2, ground := Go.Ground.phase }, { on := 3, ground := Go.Ground.phase }, { on := 4, ground := Go.Ground.phase }, { on := 5, ground := Go.Ground.phase }, { on := 6, ground := Go.Ground.phase }], guard := none }) rfl (fun K hK => ?_) AllReadyH.nil
        have c3 := L.blk_cell HO6.out.v 0
        have c4 := L.blk_free HO6.out.v 0
        simp only [List.getElem?_toArray, List.getElem?_cons_zero] at c3
        go_simp
        clear c3 c4
        have HO8 := Lib.hid (HO6.out.setL (.slice (some ⟨g5, 0, none⟩) (pre.length + 1) cap5))
        have HK8 := Lib.hid (HK6.out.set (i := 0) (.slice (some ⟨g5, 0, none⟩) (pre.length + 1) cap5))
        refine hK.out _ _ (hS.set (by omega) (.slice (some ⟨g5, 0, none⟩) (pre.length + 1) cap5)) (fun hS1 => ?_)
        clear hS
        have hS := hS1
        clear hS1
        clear hK K HO6 HK6
        generalize w5.setCell ⟨b0 + 1 + 1 + 1, 0, none⟩ (.slice (some ⟨g5, 0, none⟩) (pre.length + 1) cap5) = W8 at *
        try simp only [Act.put, List.setIfInBounds_toArray, List.set_cons_zero, List.set_cons_succ]
        refine wpAnyH_done (by kernel_rfl) ?_ _
        have c1 := L.blk_cell HO8.out.v 1
        have d1 := L.blk_free HO8.out.v 1
        simp only [List.getElem?_toArray, List.getElem?_cons_zero, List.getElem?_cons_succ] at c1
        have hs8 : b0 + 7 ≤ W8.heap.size := HK8.out.2
        gi_wp2_with (gi_at_builtin; refine wpListIn_append_own _ rfl _ _ 27 rfl (b0 + 7) 3 j0 _ 1 8 Try.underlying27 hj0 hy0 hy1 hy2 rfl (by decide) _ _ _ rfl (HO8.out.rt.alloc _) ⟨W8.heap.size, 0, none⟩ 1 1 [.int .i64 (q : Int)] rfl rfl (World.news_of_block (heap_alloc_new W8 _)) (by intro u hu; simp at hu; rcases hu with rfl; rfl) (by unfold maxLen; omega) (by omega) (by simp; omega) ?_; intro v9 w9 hown9 hgrow9 _; obtain ⟨g9, cap9, rfl⟩ := ownsRow_succ hown9; have HO9 := Lib.hid ((HO8.out.below (alloc1 W8 (.cells #[.int .i64 (q : Int)] 3))).grownT (ts' := pre.map (fun p => (p.1 : Int)) ++ [(q : Int)]) (by rw [numCells_snoc]; exact hown9) hgrow9); have HK9 := Lib.hid ((HK8.out.below (alloc1 W8 (.cells #[.int .i64 (q : Int)] 3))).grown (HO8.out.rt.alloc _) (by omega) hgrow9); have hS9 := (hS.below (alloc1 W8 (.cells #[.int .i64 (q : Int)] 3))).grown (HO8.out.rt.alloc _) (by decide) (by decide) hgrow9; have c9 := L.blk_cell HO9.out.v 1; have d9 := L.blk_free HO9.out.v 1; simp only [List.getElem?_toArray, List.getElem?_cons_zero, List.getElem?_cons_succ] at c9; have HO10 := Lib.hid (HO9.out.setT (.slice (some ⟨g9, 0, none⟩) (pre.length + 1) cap9)); have HK10 := Lib.hid (HK9.out.set (i := 1) (.slice (some ⟨g9, 0, none⟩) (pre.length + 1) cap9)); have hS10 := hS9.set (i := 1) hBx (.slice (some ⟨g9, 0, none⟩) (pre.length + 1) cap9); obtain ⟨W10, hW10⟩ : ∃ W : World, W = w9.setCell ⟨b0 + 1 + 1 + 1, 1, none⟩ (.slice (some ⟨g9, 0, none⟩) (pre.length + 1) cap9) := ⟨_, rfl⟩; rw [← hW10] at HO10 HK10 hS10; have x5 := (HSX.out _ hS10).2.2.2.2.2.1; have b5 := L.blk_cell HO10.out.ba 0; have f5 := L.blk_free HO10.out.ba 0; simp only [List.getElem?_toArray, List.getElem?_cons_zero, List.getElem?_cons_succ] at b5; rw [hW10] at x5 b5 f5; clear hown9 hgrow9 hS HO8 HK8 HO9 HK9 hS9 hS10)
        rw [← hW10]
        clear hW10 x5 b5 f5 c9 d9 c1 d1
        have HO11 := Lib.hid (HO10.out.setB y.ba)
        have HK11 := Lib.hid (HK10.out.setc (p := ⟨b0 + 1 + 1 + 1 + 1, 0, none⟩) (by show b0 ≤ b0 + 1 + 1 + 1 + 1; omega) (by show b0 + 1 + 1 + 1 + 1 < b0 + 5; omega) (.bool y.ba))
        clear HO10 HK10
        refine ⟨HK11.out.1.1.from _, HK11.out.1.2, ⟨⟨.slice (some ⟨g5, 0, none⟩) (pre.length + 1) cap5, .slice (some ⟨g9, 0, none⟩) (pre.length + 1) cap9, ?_⟩, HBW.out.trans HK11.out.1.2.1, HK11.out.2⟩⟩
        have e1 : bln h ((pre ++ [(q, y)]).map (·.2)) = bln h (pre.map (·.2)) ++ [(txt h y, false)] := by simp [bln]
        have e2 : (pre ++ [(q, y)]).map (fun p => (p.1 : Int)) = pre.map (fun p => (p.1 : Int)) ++ [(q : Int)] := by simp
        have e3 : (pre ++ [(q, y)]).length = pre.length + 1 := by simp
        rw [e1, e2, e3, lastBa_snoc]
        exact HO11.out
  case done =>
    rintro D ys W hD hys ⟨⟨vl, vt, s⟩, hB, hs4⟩ hK
    have v0 := L.blk_cell s.v 0
    have v1 := L.blk_cell s.v 1
    have r0 := L.blk_cell s.rs 0
    have r1 := L.blk_cell s.rs 1
    have q0 := L.blk_free s.rs 0
    have q1 := L.blk_free s.rs 1
    simp only [List.getElem?_toArray, List.getElem?_cons_zero, List.getElem?_cons_succ] at v0 v1 r0 r1
    rcases nil_or_snoc ys with rfl | ⟨pre, x, rfl⟩
    · obtain ⟨A1, c1, rfl, -, -⟩ := own_form s.rl
      obtain ⟨A2, c2, rfl, -, -⟩ := own_form s.rt
      simp only [List.length_nil] at *
      obtain ⟨W2, hW2⟩ : ∃ W2 : World, W2 = (W.setCell ⟨b0 + 1 + 1, 0, none⟩ (.slice A1 0 c1)).setCell ⟨b0 + 1 + 1, 1, none⟩ (.slice A2 0 c2) := ⟨_, rfl⟩
      have HE := Lib.hid (ended s.rs hK hD (by omega) (by omega) hB s.rl s.rt hW2)
      gi_wp2
      rw [← hW2]
      clear hW2 v0 v1 r0 r1 q0 q1 s hK
      refine ⟨by simp, .inl ⟨_, _, rfl, run_takeDeferred HE.out.1, ?_⟩⟩
      have e0 := L.blk_cell HE.out.2.1 0
      have e1 := L.blk_cell HE.out.2.1 1
      simp only [List.getElem?_toArray, List.getElem?_cons_zero, List.getElem?_cons_succ] at e0 e1
      refine ⟨.agg #[.slice A1 0 c1, .slice A2 0 c2], by simp [results, Try.results6, go_sem, e0, e1], ?_⟩
      have hc : cut (f0, f1) l = [] := by rw [← prs_cut (f0, f1) l 0, ← hys]; rfl
      have ha : atI (f0, f1) l = [] := by rw [← prs_atI, ← hys]; rfl
      rw [hc, ha]
      unfold VoEnd
      rw [← HBE.out]
      exact ⟨A1, c1, A2, c2, rfl, HE.out.2.2.1, HE.out.2.2.2.1, HE.out.2.2.2.2⟩
    · have HL : Hid (lns h (cut (f0, f1) l) = bln h (pre.map (·.2)) ++ [(txt h x.2, x.2.ba)]) := Lib.hid (by rw [← prs_cut (f0, f1) l 0, ← hys, List.map_append, List.map_cons, List.map_nil, lns_snoc])
      have HA : Hid (atI (f0, f1) l = (pre ++ [x]).map fun p => (p.1 : Int)) := Lib.hid (by rw [← prs_atI, ← hys])
      have hpl : pre.length + 1 ≤ l.length := by
        have := prs_le (f0, f1) l 0
        rw [← hys] at this
        simpa using this
      rw [lastBa_snoc] at s
      have e4 : (pre ++ [x]).length = pre.length + 1 := by simp
      have e5 : bln h ((pre ++ [x]).map (·.2)) = bln h (pre.map (·.2)) ++ [(txt h x.2, false)] := by simp [bln]
      have e6 : (pre.map (·.2)).length = pre.length := by simp
      have e7 : (bln h (pre.map (·.2))).length = pre.length := by simp [bln]
      rw [e4, e5] at s
      obtain ⟨k, hk⟩ : ∃ k, k = pre.length := ⟨_, rfl⟩
      rw [← hk] at s e7 hpl e4
      obtain ⟨m, hm⟩ : ∃ m, m = k + 1 := ⟨_, rfl⟩
      rw [← hm] at s hpl e4
      obtain ⟨A2, c2, rfl, -, -⟩ := own_form s.rt
      obtain ⟨g, cap1, cur, rfl, hgb, hgc, hn1, hn2, hcs, htk⟩ := own_cells s.rl (by omega)
      obtain ⟨ub, hub⟩ : ∃ ub, ub = x.2.ba := ⟨_, rfl⟩
      rw [← hub] at s HL
      have HE7 := Lib.hid (And.intro e4 e7)
      have g1 : cur[k * 2 + 1]? = some (.bool false) := by
        rw [← Array.getElem?_toList, ← List.getElem?_take_of_lt (show k * 2 + 1 < m * 2 by omega), htk, lineCells_snoc, List.getElem?_append_right (by rw [lineCells_length, e7]; omega), lineCells_length, e7, show k * 2 + 1 - k * 2 = 1 by omega]
        rfl
      have c1 := (L.blk_cell hgc (k * 2 + 1)).trans g1
      have d1 := L.blk_free hgc (k * 2 + 1)
      have b4 := L.blk_cell s.ba 0
      simp only [List.getElem?_toArray, List.getElem?_cons_zero] at b4
      have hm0 : 0 < m := by omega
      have hm1 : IntKind.i64.wrap ((m : Int) - 1) = (k : Int) := by rw [show (m : Int) - 1 = (k : Int) by omega]; rw [IntKind.wrap_i64]; omega
      have hm2 : (k : Int) < (m : Int) := by omega
      have hm3 : (0 : Int) ≤ (k : Int) := by omega
      have hgne : ¬ g = b0 + 1 + 1 + 1 := by omega
      have hgn2 : ¬ g = b0 + 1 + 1 := by omega
      have HM := Lib.hid hm
      have HKK := Lib.hid hk
      have hsr := L.blk_far (w := W) (g := b0 + 1 + 1) (g' := g) (i := k * 2 + 1) (by omega) (.bool ub)
      have hsD := L.blk_far (w := W) (g := D) (g' := g) (i := k * 2 + 1) (fun e => by rw [e] at hK; rw [hK] at hgc; cases hgc) (.bool ub)
      obtain ⟨W2, hW2⟩ : ∃ W2 : World, W2 = ((W.setCell ⟨g, k * 2 + 1, none⟩ (.bool ub)).setCell ⟨b0 + 1 + 1, 0, none⟩ (.slice (some ⟨g, 0, none⟩) m cap1)).setCell ⟨b0 + 1 + 1, 1, none⟩ (.slice A2 m c2) := ⟨_, rfl⟩
      have HE := Lib.hid (ended (ls := bln h (pre.map (·.2)) ++ [(txt h x.2, ub)]) (hsr.trans s.rs) (hsD.trans hK) hD (by omega) (by omega) (hB.setCell (p := ⟨g, k * 2 + 1, none⟩) (by show b0 ≤ g; omega) (.bool ub)) (by
        have := own_put (j := k * 2 + 1) (u := .bool ub) s.rl (by omega)
        rw [lineCells_snoc] at this ⊢
        rw [List.set_append_right _ _ (by rw [lineCells_length, e7]; omega), lineCells_length, e7, show k * 2 + 1 - k * 2 = 1 by omega] at this
        exact this) (s.rt.kept (grown_set W ⟨g, k * 2 + 1, none⟩ (.bool ub)) (.inr (own_type s.rt hgc (by decide)))) hW2)
      clear hm hk e4 e5 e6 e7 htk hcs g1 hub hys
      gi_wp2
      rw [← hW2]
      clear hW2 v0 v1 r0 r1 q0 q1 s hK b4 c1 d1 hgc hm1 hm2 hm3 hgne hgn2 hsr hsD
      refine ⟨by simp, .inl ⟨_, _, rfl, run_takeDeferred HE.out.1, ?_⟩⟩
      have e0 := L.blk_cell HE.out.2.1 0
      have e1 := L.blk_cell HE.out.2.1 1
      simp only [List.getElem?_toArray, List.getElem?_cons_zero, List.getElem?_cons_succ] at e0 e1
      refine ⟨.agg #[.slice (some ⟨g, 0, none⟩) m cap1, .slice A2 m c2], by simp [results, Try.results6, go_sem, e0, e1], ?_⟩
      rw [HL.out, HA.out]
      have f1 : (bln h (pre.map (·.2)) ++ [(txt h x.2, ub)]).length = m := by rw [List.length_append, HE7.out.2, HM.out]; rfl
      have f2 : ((pre ++ [x]).map fun p => (p.1 : Int)).length = m := by rw [List.length_map, HE7.out.1]
      unfold VoEnd
      rw [← HBE.out, f1, f2]
      exact ⟨_, cap1, A2, c2, rfl, HE.out.2.2.1, HE.out.2.2.2.1, HE.out.2.2.2.2⟩
  case stop =>
    rintro D c pre W _ _ h _
    exact h.elim
end Go.Proofs.Ytllgeffjkjdadaa.V
