/-
  A range over the commits that one sees, by one's own numbers: the iterator's contract.
  The contract of view's Cut.
  The contract of remap's Seen.
  A region of a loop's body over a function, walked as a region of any other code: without its fence.
  The contract of view's Of.
  The contracts of remap's Full and Own: a range over the commits that one sees, left where the number, or the commit, is found.
-/
import Derived.Test.YtlkfmaeillnhhaaGib
import Derived.RangeFuncNested
import Derived.RangeFuncBox
import Derived.RangeFuncCalls
import Derived.RangeFuncLeaves
import Derived.OwnWalkIn
import Derived.Deep.RegionHeld
import Derived.Lib.Hide
import Derived.Deep.AppendLies
namespace Go.Proofs.Ytlkfmaeillnhhaa.Rm
set_option linter.unusedVariables false
set_option linter.unusedSimpArgs false
open Go.RowKit Go.Shelf
open T
open I (Lb alloc1 own_at own_below)
open V (grown_of KpZ KpZ.t KpZ.b KpZ.of KpZ.refl BlC BlC.call drawn_below)
attribute [local go_sem] Oper.semAt_some

/-- Labels in memory, to be read. -/
def LabsAt (w : World) (bk off : Nat) (l : List Lb) : Prop := ∀ j (h : j < l.length), w.cell? ⟨bk, off + j * 2, none⟩ = some (.int .i64 l[j].1) ∧ w.cell? ⟨bk, off + j * 2 + 1, none⟩ = some (.int .u64 (l[j].2 : Int))
def LabsIn (w : World) (A : Option Addr) (l : List Lb) : Prop := 0 < l.length → ∃ bk off, A = some ⟨bk, off, none⟩ ∧ bk < w.heap.size ∧ LabsAt w bk off l
theorem LabsAt.below {w w' : World} {n bk off : Nat} {l : List Lb} (h : LabsAt w bk off l) (hb : Below n w w') (hk : bk < n) : LabsAt w' bk off l := fun j hj => ⟨(hb.cell (p := ⟨bk, off + j * 2, none⟩) hk).trans (h j hj).1, (hb.cell (p := ⟨bk, off + j * 2 + 1, none⟩) hk).trans (h j hj).2⟩
theorem LabsIn.below {w w' : World} {A : Option Addr} {l : List Lb} (h : LabsIn w A l) (hb : Below w.heap.size w w') : LabsIn w' A l := fun hp => by
  obtain ⟨bk, off, e, hlt, hl⟩ := h hp
  exact ⟨bk, off, e, Nat.lt_of_lt_of_le hlt hb.size, hl.below hb hlt⟩
def lbCells (l : List Lb) : List Value := l.flatMap fun a => [.int .i64 a.1, .int .u64 (a.2 : Int)]
theorem lbCells_snoc (l : List Lb) (a : Lb) : lbCells (l ++ [a]) = lbCells l ++ [.int .i64 a.1, .int .u64 (a.2 : Int)] := by simp [lbCells]
theorem lbCells_app (l r : List Lb) : lbCells (l ++ r) = lbCells l ++ lbCells r := by simp [lbCells]
theorem lbCells_len : ∀ l : List Lb, (lbCells l).length = l.length * 2
  | [] => rfl
  | a :: r => by
    have := lbCells_len r
    simp only [lbCells, List.flatMap_cons, List.length_append, List.length_cons, List.length_nil] at this ⊢
    omega
theorem lbCells_at : ∀ (l : List Lb) (j : Nat) (h : j < l.length), (lbCells l)[j * 2]? = some (.int .i64 l[j].1) ∧ (lbCells l)[j * 2 + 1]? = some (.int .u64 (l[j].2 : Int))
  | [], j, h => by simp at h
  | p :: r, 0, _ => ⟨rfl, rfl⟩
  | p :: r, j + 1, h => by
    have := lbCells_at r j (by simpa using h)
    rw [show (j + 1) * 2 = j * 2 + 2 by omega, show j * 2 + 2 + 1 = j * 2 + 1 + 2 by omega]
    exact this
theorem labs_own {w : World} {base : Nat} {A : Option Addr} {cap : Nat} {l : List Lb} (h : w.ownsRow base 25 2 (.slice A l.length cap) l.length (lbCells l)) : LabsIn w A l := fun hp => by
  obtain ⟨g, hA, _, hlt, hc⟩ := own_at h hp
  refine ⟨g, 0, hA, hlt, fun j hj => ?_⟩
  obtain ⟨h0, h1⟩ := lbCells_at l j hj
  rw [Nat.zero_add]
  exact ⟨hc _ _ h0, hc _ _ h1⟩
theorem infoLab : (Try.prog.info? 25).map (fun i => (i.zero, i.size, i.bytes)) = some (some (.agg #[.int .i64 0, .int .u64 0]), 2, 16) := by kernel_rfl

set_option maxRecDepth 100000 in
set_option maxHeartbeats 4000000 in
/-- The iterator's closure, for every loop body that keeps what lay below n₀ and the boxes of the labels and of the label. -/
theorem seen1_in (n : Nat) (hn : 1 ≤ n) (lp Bs Bo n₀ za zb bk off cap : Nat) (l : List Lb) (f0 : Int) (f1 : Nat) (hll : l.length ≤ maxLen) (HB : Hid (∀ x ∈ l, BlC x.1 f0 x.2 f1 (bl (f0, f1) x))) (hb : bk < n₀) (hzo : za ≤ Bo ∧ Bo < zb) (J Jx : List (Nat × Nat) → World → Prop)
    (W : World) (hJ : AbidesFrom W.heap.size J)
    (hY : ∀ pre x W, J pre W → pre.length < l.length → YieldAt Fence.wide (n - 1) Try.prog lp #[.int .i64 (x.1 : Int), .int .i64 (x.2 : Int)] W fun e W' =>
      (e = .returned (.bool true) ∧ J (pre ++ [x]) W' ∧ KpZ n₀ za zb W W') ∨ (e = .returned (.bool false) ∧ Jx (pre ++ [x]) W'))
    (hn₀ : n₀ ≤ W.heap.size) (hzb : zb ≤ W.heap.size) (hBs : W.cell? ⟨Bs, 0, none⟩ = some (.slice (some ⟨bk, off, none⟩) l.length cap)) (hBo : W.heap[Bo]? = some (.cells #[.int .i64 f0, .int .u64 (f1 : Int)] 25 (0, 0))) (hI : LabsAt W bk off l) (h0 : J [] W) :
    CallsIn Fence.wide n Try.prog 23 #[.func (.yield lp) #[] #[], .pointer (some ⟨Bs, 0, none⟩), .pointer (some ⟨Bo, 0, none⟩)] W fun e W' => (∃ v, e = .returned v) ∧
      ((∃ ys, ys = prs (f0, f1) l ∧ J ys W') ∨ (∃ pre, (∃ k, k ≤ l.length ∧ pre = prs (f0, f1) (l.take k)) ∧ Jx pre W')) := by
  unfold maxLen at hll
  refine callsIn_of_wp Try.func23 rfl trivial ?_ rfl
  simp only [Try.ntmps23, List.size_toArray, List.length_cons, List.length_nil, Nat.reduceAdd, Nat.reduceSub, Array.replicate_succ, Array.replicate_zero, List.push_toArray, List.append_toArray, List.nil_append, List.cons_append]
  gi_wp2
  gi_loopw [4, 9] (fun c i wr => ∃ k : Nat, k ≤ l.length ∧ c = .int .i64 (((sn (f0, f1) 0 (l.take k)).length : Nat) : Int) ∧ i = .int .i64 k ∧ J (prs (f0, f1) (l.take k)) wr ∧ KpZ n₀ za zb W wr ∧ W.heap.size ≤ wr.heap.size)
    (fun _ i _ => l.length - (intOf i).toNat)
  case atStart => exact ⟨0, Nat.zero_le _, by simp [sn], rfl, h0, KpZ.refl _ _ _ _, Nat.le_refl _⟩
  case round =>
    obtain ⟨k, hk, rfl, rfl, hJs, hkp, hsz⟩ := hrel
    by_cases hlt : k < l.length
    · have c0 := (hkp.1.cell (p := ⟨bk, off + k * 2, none⟩) hb).trans (hI k hlt).1
      have c1 := (hkp.1.cell (p := ⟨bk, off + k * 2 + 1, none⟩) hb).trans (hI k hlt).2
      have HC := Lib.hid (HB.out _ (List.getElem_mem hlt))
      have HN := Lib.hid (prs_take (o := (f0, f1)) hlt)
      have HM := Lib.hid (sn_take (o := (f0, f1)) hlt)
      have hpl : (sn (f0, f1) 0 (l.take k)).length ≤ k := Nat.le_trans (sn_le _ _ _) (by rw [List.length_take]; omega)
      have hpq : (prs (f0, f1) (l.take k)).length < l.length := by rw [prs_length]; omega
      have h0k : (0 : Int) ≤ (k : Int) := by omega
      have hki : (k : Int) < (l.length : Int) := by omega
      obtain ⟨y, hy⟩ : ∃ y, y = l[k] := ⟨_, rfl⟩
      rw [← hy] at c0 c1 HC HN HM
      clear hy
      obtain ⟨q, hq⟩ : ∃ q, q = (sn (f0, f1) 0 (l.take k)).length := ⟨_, rfl⟩
      rw [← hq] at hpl HN ⊢
      have HQ := Lib.hid hq
      clear hq
      obtain ⟨w1, hw1⟩ : ∃ W : World, W = wr.alloc (.cells #[.int .i64 y.1, .int .u64 (y.2 : Int)] 25) := ⟨_, rfl⟩
      have hb1 : Below wr.heap.size wr w1 := by rw [hw1]; exact alloc1 _ _
      have HX1 := Lib.hid (show w1.heap[wr.heap.size]? = some (.cells #[.int .i64 y.1, .int .u64 (y.2 : Int)] 25 (0, 0)) by rw [hw1]; exact heap_alloc_new wr _)
      have hbo := (hb1.block Bo (by omega)).trans ((hkp.2 Bo hzo.1 hzo.2).trans hBo)
      have x0 := L.blk_cell hbo 0
      have x1 := L.blk_cell hbo 1
      simp only [List.getElem?_toArray, List.getElem?_cons_zero, List.getElem?_cons_succ] at x0 x1
      rw [hw1] at x0 x1
      obtain ⟨b, hbb⟩ : ∃ b, b = bl (f0, f1) y := ⟨_, rfl⟩
      rw [← hbb] at HC HN HM
      clear hbb hbo
      have HJ1 := Lib.hid (hJ _ _ _ none hJs (grown_of hb1 none) (fun r e => by cases e))
      have hwq : IntKind.i64.wrap ((q : Int) + 1) = ((q + 1 : Nat) : Int) := by rw [IntKind.wrap_i64]; omega
      gi_wp2
      rw [← hw1]
      clear hw1 x0 x1
      refine ⟨trivial, ?_⟩
      refine (HC.out.call _ _).mono ?_
      rintro e w2 ⟨rfl, hb2⟩
      have HJ2 := Lib.hid (hJ _ _ _ none HJ1.out (grown_of hb2 none) (fun r e => by cases e))
      have hs1 : wr.heap.size ≤ w1.heap.size := hb1.size
      have hs2 : w1.heap.size ≤ w2.heap.size := hb2.size
      have hkp2 : KpZ n₀ za zb W w2 := (hkp.t (KpZ.of hb1 (by omega) (by omega))).t (KpZ.of hb2 (by omega) (by omega))
      clear HJ1 HX1 hb2 hJs
      cases b with
      | false =>
        gi_wp2
        go_roundw
        case rel => exact ⟨k + 1, by omega, by rw [HM.out, HQ.out]; simp, by simp, by rw [HN.out]; simpa using HJ2.out, hkp2, by omega⟩
        case measure => simp [intOf]; omega
      | true =>
        obtain ⟨fn, tmps, assign, body, hy, hR⟩ := hY _ (q, k) w2 HJ2.out hpq
        gi_wp2
        refine hR.mono ?_
        rintro e w3 (⟨rfl, hJ3, hk3⟩ | ⟨rfl, hJx3⟩)
        · gi_wp2
          go_roundw
          case rel => exact ⟨k + 1, by omega, by rw [HM.out, HQ.out]; simp, by simp, by rw [HN.out]; simpa using hJ3, hkp2.t hk3, Nat.le_trans (by omega) hk3.1.size⟩
          case measure => simp [intOf]; omega
        · gi_wp2
          refine bodyPost_ret (results_none rfl _ _ _) rfl ?_
          exact ⟨⟨_, rfl⟩, .inr ⟨_, ⟨k + 1, by omega, by rw [HN.out]; simp⟩, hJx3⟩⟩
    · obtain rfl : k = l.length := by omega
      rw [List.take_length] at hJs
      gi_wp2
      go_end0
      exact ⟨⟨_, rfl⟩, .inl ⟨_, rfl, hJs⟩⟩
set_option maxRecDepth 100000 in
set_option maxHeartbeats 1000000 in
/-- .. of no label. -/
theorem seen1_none (n : Nat) (lp Bs Bo cap : Nat) (A : Option Addr) (J : List (Nat × Nat) → World → Prop) (W : World) (hBs : W.cell? ⟨Bs, 0, none⟩ = some (.slice A 0 cap)) (h0 : J [] W) :
    CallsIn Fence.wide n Try.prog 23 #[.func (.yield lp) #[] #[], .pointer (some ⟨Bs, 0, none⟩), .pointer (some ⟨Bo, 0, none⟩)] W fun e W' => (∃ v, e = .returned v) ∧ J [] W' := by
  refine callsIn_of_wp Try.func23 rfl trivial ?_ rfl
  simp only [Try.ntmps23, List.size_toArray, List.length_cons, List.length_nil, Nat.reduceAdd, Nat.reduceSub, Array.replicate_succ, Array.replicate_zero, List.push_toArray, List.append_toArray, List.nil_append, List.cons_append]
  gi_wp2
  gi_loopw [9] (fun i wr => i = .int .i64 0 ∧ J [] wr) (fun _ _ => 0)
  case atStart => exact ⟨rfl, h0⟩
  case round =>
    obtain ⟨rfl, hJs⟩ := hrel
    gi_wp2
    go_end0
    exact ⟨⟨_, rfl⟩, hJs⟩
theorem seen_in (n : Nat) (A : Option Addr) (len cap : Nat) (f0 : Int) (f1 : Nat) (w : World) :
    CallsIn Fence.wide n Try.prog 20 #[.slice A len cap, .agg #[.int .i64 f0, .int .u64 (f1 : Int)]] w fun e w' => e = .returned (.func (.func 23) #[] #[.pointer (some ⟨w.heap.size, 0, none⟩), .pointer (some ⟨w.heap.size + 1, 0, none⟩)]) ∧
      w' = (w.alloc (.cells #[.slice A len cap] 22)).alloc (.cells #[.int .i64 f0, .int .u64 (f1 : Int)] 25) := by
  refine callsIn_of_wp Try.func20 rfl trivial ?_ rfl
  simp only [Try.ntmps20, List.size_toArray, List.length_cons, List.length_nil, Nat.reduceAdd, Nat.reduceSub, Array.replicate_succ, Array.replicate_zero, List.push_toArray, List.append_toArray, List.nil_append, List.cons_append]
  gi_wp2
  go_ret
  exact ⟨rfl, rfl⟩
/-- What seen hands back tells all that is seen, in order. -/
theorem seen_stops (n : Nat) (hn : 1 ≤ n) (Bs Bo n₀ za zb : Nat) (A : Option Addr) (cap : Nat) (l : List Lb) (f0 : Int) (f1 : Nat) (hll : l.length ≤ maxLen) (HB : Hid (∀ x ∈ l, BlC x.1 f0 x.2 f1 (bl (f0, f1) x))) (w : World)
    (hzo : za ≤ Bo ∧ Bo < zb) (hn₀ : n₀ ≤ w.heap.size) (hzb : zb ≤ w.heap.size) (hBs : Bs < w.heap.size) (hc : w.cell? ⟨Bs, 0, none⟩ = some (.slice A l.length cap)) (hBo : w.heap[Bo]? = some (.cells #[.int .i64 f0, .int .u64 (f1 : Int)] 25 (0, 0)))
    (hI : 0 < l.length → ∃ bk off, A = some ⟨bk, off, none⟩ ∧ bk < n₀ ∧ LabsAt w bk off l) :
    SeqStopsK Fence.wide n Try.prog 23 #[.pointer (some ⟨Bs, 0, none⟩), .pointer (some ⟨Bo, 0, none⟩)] (fun x : Nat × Nat => #[Value.int .i64 (x.1 : Int), Value.int .i64 (x.2 : Int)]) (KpZ n₀ za zb) (fun ys => ys = prs (f0, f1) l) (fun pre => ∃ r, prs (f0, f1) l = pre ++ r) l.length w := fun lp J Jx W hW hJ _ hY h0 => by
  have hc' := (hW.cell (p := ⟨Bs, 0, none⟩) hBs).trans hc
  have hsz := hW.size
  by_cases hl : 0 < l.length
  · obtain ⟨bk, off, rfl, hb, hIt⟩ := hI hl
    refine (seen1_in n hn lp Bs Bo n₀ za zb bk off cap l f0 f1 hll HB hb hzo J Jx W hJ hY (by omega) (by omega) hc' ((hW.block Bo (by omega)).trans hBo) (hIt.below hW (by omega)) h0).mono ?_
    rintro e W' ⟨he, ⟨ys, rfl, hj⟩ | ⟨pre, ⟨k, hk, rfl⟩, hj⟩⟩
    · exact ⟨he, .inl ⟨_, rfl, hj⟩⟩
    · exact ⟨he, .inr ⟨_, ⟨enu (sn (f0, f1) 0 (l.take k)).length (sn (f0, f1) (l.take k).length (l.drop k)), by
        unfold prs
        conv => lhs; rw [← List.take_append_drop k l, sn_app, Nat.zero_add, enu_app, Nat.zero_add]⟩, hj⟩⟩
  · obtain rfl : l = [] := List.length_eq_zero_iff.1 (by omega)
    exact (seen1_none n lp Bs Bo cap A J W hc' h0).mono fun e W' ⟨he, hj⟩ => ⟨he, .inl ⟨_, rfl, hj⟩⟩
theorem LabsIn.of {w w' : World} {A : Option Addr} {l : List Lb} (h : LabsIn w A l) (hb : Below w.heap.size w w') : 0 < l.length → ∃ bk off, A = some ⟨bk, off, none⟩ ∧ bk < w.heap.size ∧ LabsAt w' bk off l := fun hp => by
  obtain ⟨bk, off, e, hlt, hl⟩ := h hp
  exact ⟨bk, off, e, hlt, hl.below hb hlt⟩
end Go.Proofs.Ytlkfmaeillnhhaa.Rm

namespace Go.Proofs.Ytlkfmaeillnhhaa.V
set_option linter.unusedVariables false
set_option linter.unusedSimpArgs false
open Go.RowKit Go.Shelf
open T
open I (It Lb ItemsIn ItemsAt ItemsOk itCells itCells_snoc itCells_at items_cells own_at own_below alloc1)
attribute [local go_sem] Oper.semAt_some

theorem prs_cut (o : Lb) : ∀ (l : List It) (k : Nat), (prs o k l).map (·.2) = cut o l
  | [], _ => rfl
  | x :: r, k => by
    rw [prs]
    by_cases hx : sees o x = true
    · rw [if_pos hx, List.map_cons, prs_cut o r (k + 1)]; simp [cut, hx]
    · rw [if_neg hx, prs_cut o r (k + 1)]; simp [cut, hx]
/-- Behind an append whose row is stored into a box ahead of it: what lies below n₀ stays, and the blocks from za on, below zb. -/
theorem appendedZ {W w1 : World} {n₀ za zb r₀ B : Nat} {t e : TypeId} {size : Nat} {v v' : Value} {k m : Nat} {xs ys : List Value} {tmp : Obj}
    (hv : Boxed W B t v) (hte : t ≠ e) (hrow : W.ownsRow r₀ e size v k xs) (hr₀ : r₀ ≤ W.heap.size) (hB : n₀ ≤ B) (hBz : B < za) (hnr : n₀ ≤ r₀) (hzr : zb ≤ r₀)
    (hown' : w1.ownsRow r₀ e size v' m ys) (hgrow : (W.alloc tmp).grownBy w1 v.ownBlock) :
    Boxed w1 B t v ∧ Boxed (w1.setCell ⟨B, 0, none⟩ v') B t v' ∧ (w1.setCell ⟨B, 0, none⟩ v').ownsRow r₀ e size v' m ys ∧ KeepsOthers W (w1.setCell ⟨B, 0, none⟩ v') ∧ KpZ n₀ za zb W (w1.setCell ⟨B, 0, none⟩ v') := by
  have hv1 : Boxed w1 B t v := (hv.alloc tmp).kept hgrow (hv.not_row hte hrow)
  obtain ⟨-, h2, -, h4, -⟩ := hv.appended hte (own_more hrow (Nat.zero_le r₀)) (Nat.zero_le _) (Nat.zero_le _) (own_more hown' (Nat.zero_le r₀)) hgrow
  have hblk : ∀ i, i < W.heap.size → i < r₀ → i ≠ B → (w1.setCell ⟨B, 0, none⟩ v').heap[i]? = W.heap[i]? := fun i hi hr hne => by
    rw [L.blk_far (g := i) (g' := B) hne v', hgrow.block i (by simp; omega) (fun e' => by have := own_base hrow i e'.symm; omega)]
    exact (alloc1 W tmp).block i hi
  refine ⟨hv1, h2, hown'.kept (grown_set w1 ⟨B, 0, none⟩ v') (own_ne hown' fun cs he => ?_), h4, ⟨?_, fun i h1 h2 => hblk i (by omega) (by omega) (by omega)⟩⟩
  · rw [show w1.heap[B]? = _ from hv1] at he
    injection he with he; injection he with _ he; exact hte he
  · refine (((Below.refl n₀ W).alloc (by omega) tmp).grown hgrow (by simp; omega) fun j ej => ?_).setCell (p := ⟨B, 0, none⟩) hB v'
    have := own_base hrow j ej
    omega
theorem boxed_le {W W' : World} {n : Nat} (h : n ≤ W.heap.size) {row : Option Nat} (hg : W.grownBy W' row) : n ≤ W'.heap.size := Nat.le_trans h hg.size
end Go.Proofs.Ytlkfmaeillnhhaa.V

namespace Go.Proofs.Ytlkfmaeillnhhaa.Rm
set_option linter.unusedVariables false
set_option linter.unusedSimpArgs false
open Go.RowKit Go.Shelf
open T
open I (Lb alloc1 own_at own_below)
open V (grown_of KpZ KpZ.t KpZ.b KpZ.of KpZ.refl BlC BlC.call drawn_below appendedZ boxed_le numCells numCells_snoc)
attribute [local go_sem] Oper.semAt_some

theorem prs_snd (o : Lb) (l : List Lb) : (prs o l).map (fun p => (p.2 : Int)) = snI o l := by
  have h := enu_snd (sn o 0 l) 0
  unfold prs snI
  conv => rhs; rw [← h]
  rw [List.map_map]
  rfl
set_option maxRecDepth 100000 in
set_option maxHeartbeats 4000000 in
theorem sees_in (n : Nat) (hn : 6 ≤ n) (A : Option Addr) (cap : Nat) (l : List Lb) (f0 : Int) (f1 : Nat) (w : World) (hA : LabsIn w A l) (hll : l.length ≤ maxLen) (HB : Hid (∀ x ∈ l, BlC x.1 f0 x.2 f1 (bl (f0, f1) x))) (hb : l.length * 8 ≤ 140737488355328) :
    CallsIn Fence.wide n Try.prog 15 #[.slice A l.length cap, .agg #[.int .i64 f0, .int .u64 (f1 : Int)]] w fun e W' => ∃ v, e = .returned v ∧ W'.ownsRow w.heap.size 3 1 v (snI (f0, f1) l).length (numCells (snI (f0, f1) l)) ∧ Below w.heap.size w W' := by
  have h1 : 1 ≤ n := by omega
  obtain ⟨i0, hi0, hz0, hz1, hz2⟩ := info_parts L.infoInt
  obtain ⟨W0, hW0⟩ : ∃ W : World, W = (((w.alloc (.cells #[.int .i64 f0, .int .u64 (f1 : Int)] 25)).alloc (.cells #[.slice none 0 0] 26)).alloc (.cells #[.slice A l.length cap] 22)).alloc (.cells #[.int .i64 f0, .int .u64 (f1 : Int)] 25) := ⟨_, rfl⟩
  refine callsIn_of_wp_marks Try.func15 rfl trivial ?_ rfl
  simp only [Try.ntmps15, List.size_toArray, List.length_cons, List.length_nil, Nat.reduceAdd, Nat.reduceSub, Array.replicate_succ, Array.replicate_zero, List.push_toArray, List.append_toArray, List.nil_append, List.cons_append]
  gi_wp2
  refine ⟨trivial, ?_⟩
  refine (seen_in (n - 1) A l.length cap f0 f1 _).mono ?_
  rintro e w' ⟨rfl, hw'⟩
  rw [← hW0] at hw'
  subst hw'
  simp only [World.size_alloc]
  have hsz : w'.heap.size = w.heap.size + 1 + 1 + 1 + 1 := by rw [hW0]; simp
  have hB0 : Below w.heap.size w w' := by rw [hW0]; exact (((alloc1 _ _).trans ((alloc1 _ _).mono (by simp))).trans ((alloc1 _ _).mono (by simp; omega))).trans ((alloc1 _ _).mono (by simp; omega))
  have k1 : w'.heap[w.heap.size + 1]? = some (.cells #[.slice none 0 0] 26 (0, 0)) := by
    rw [hW0, (alloc1 _ _).block _ (by simp), (alloc1 _ _).block _ (by simp)]
    have := heap_alloc_new (w.alloc (.cells #[.int .i64 f0, .int .u64 (f1 : Int)] 25)) (.cells #[.slice none 0 0] 26); rw [World.size_alloc] at this; exact this
  have k2 : w'.heap[w.heap.size + 1 + 1]? = some (.cells #[.slice A l.length cap] 22 (0, 0)) := by
    rw [hW0, (alloc1 _ _).block _ (by simp)]
    have := heap_alloc_new ((w.alloc (.cells #[.int .i64 f0, .int .u64 (f1 : Int)] 25)).alloc (.cells #[.slice none 0 0] 26)) (.cells #[.slice A l.length cap] 22); rw [World.size_alloc, World.size_alloc] at this; exact this
  have k3 : w'.heap[w.heap.size + 1 + 1 + 1]? = some (.cells #[.int .i64 f0, .int .u64 (f1 : Int)] 25 (0, 0)) := by
    rw [hW0]
    have := heap_alloc_new (((w.alloc (.cells #[.int .i64 f0, .int .u64 (f1 : Int)] 25)).alloc (.cells #[.slice none 0 0] 26)).alloc (.cells #[.slice A l.length cap] 22)) (.cells #[.int .i64 f0, .int .u64 (f1 : Int)] 25); rw [World.size_alloc, World.size_alloc, World.size_alloc] at this; exact this
  clear hW0
  have hIt0 := hA.of hB0
  obtain ⟨b0, hb0⟩ : ∃ b, b = w.heap.size := ⟨_, rfl⟩
  rw [← hb0] at hsz hB0 k1 k2 k3 hIt0 ⊢
  have hbO : Boxed w' (b0 + 1) 26 (.slice none 0 0) := k1
  have hbx : Boxed w' (b0 + 1 + 1) 22 (.slice A l.length cap) := k2
  have HBE := Lib.hid hb0
  have hbw : b0 ≤ w.heap.size := by omega
  clear hb0
  gi_wp2
  refine wpIn_rangeFunc_ownH rfl h1 (gf := 23) (lb := #[.pointer (some ⟨b0 + 1 + 1, 0, none⟩), .pointer (some ⟨b0 + 1 + 1 + 1, 0, none⟩)]) rfl trivial (enters_of Try.func23 (by kernel_rfl) rfl)
    (seen_stops (n - 1) (by omega) (b0 + 1 + 1) (b0 + 1 + 1 + 1) b0 (b0 + 2) (b0 + 4) A cap l f0 f1 hll HB w' (by omega) (by omega) (by omega) (by omega) hbx.cell k3 hIt0) KpZ.t (KpZ.b (by omega) (by omega)) (Below.refl _ _) (fun _ => rfl)
    (fun (pre : List (Nat × Nat)) W => (∃ v, Boxed W (b0 + 1) 26 v ∧ W.ownsRow (b0 + 4) 3 1 v pre.length (numCells (pre.map fun p => (p.2 : Int))) ∧ True) ∧ (Below b0 w W ∧ b0 + 4 ≤ W.heap.size))
    (fun _ _ _ => False)
    (OwnFrom.and (Own.from (holdsRow_own (b0 + 4) (b0 + 1) 26 3 1 (fun (pre : List (Nat × Nat)) => pre.length) (fun (pre : List (Nat × Nat)) => numCells (pre.map fun p => (p.2 : Int))) (fun _ _ => True)) _) (OwnFrom.and (ownFrom_below hbw (by omega)) (fun _ _ _ _ hs hg _ => boxed_le hs hg)))
    (fun _ _ _ _ _ hs _ _ => hs)
    ⟨⟨_, hbO, World.ownsRow_nil _ _ _ _, trivial⟩, hB0, by omega⟩
    (fun (x : Nat × Nat) a' _ => a' = { tmps := #[.slice A l.length cap, .agg #[.int .i64 f0, .int .u64 (f1 : Int)], undef, .pointer (some ⟨b0, 0, none⟩), .slice none 0 0, .pointer (some ⟨b0 + 1, 0, none⟩), undef, .int .i64 (x.2 : Int), .slice A l.length cap, .agg #[.int .i64 f0, .int .u64 (f1 : Int)], .func (.func 23) #[] #[.pointer (some ⟨b0 + 1 + 1, 0, none⟩), .pointer (some ⟨b0 + 1 + 1 + 1, 0, none⟩)], .int .i64 (x.1 : Int), .int .i64 (x.2 : Int), undef, undef, undef, undef, undef], defers := [] })
    (fun x a' _ X Y row hs hg hr => hs)
    ?assign ?body ?done ?stop
  case assign =>
    rintro lp pre x W K ⟨⟨v, hv, hrow, -⟩, hB, hs4⟩ hK
    dsimp only at hK ⊢
    gi_wp2
    exact hK _ _ ((KeepsOthers.refl _).from _) (KpZ.refl _ _ _ _) ⟨⟨v, hv, hrow, trivial⟩, hB, hs4⟩ rfl
  case body =>
    rintro lp pre x a' W hlp ⟨r, hr⟩ ⟨⟨v, hv, hrow, -⟩, hB, hs4⟩ rfl hlt
    have hc := hv.cell
    have hbs := hB.size
    obtain ⟨q, y⟩ := x
    simp only
    gi_wp2_with (gi_at_builtin; refine wpListIn_append_own _ rfl _ _ 26 rfl (b0 + 4) 3 i0 _ 1 8 Try.underlying26 hi0 hz0 hz1 hz2 rfl (by decide) _ _ _ rfl (hrow.alloc _) ⟨W.heap.size, 0, none⟩ 1 1 [.int .i64 (y : Int)] rfl rfl (World.news_of_block (heap_alloc_new W _)) (by intro u hu; simp at hu; subst hu; rfl) (by simp only [maxLen] at hll ⊢; omega) (by omega) (by simp; omega) ?_; intro v' w1 hown' hgrow _; obtain ⟨g', cap', rfl⟩ := ownsRow_succ hown'; obtain ⟨hv1, hv2, hr2, hk2, hb2⟩ := appendedZ (n₀ := b0) (za := b0 + 2) (zb := b0 + 4) hv (by decide) hrow hs4 (by omega) (by omega) (by omega) (by omega) hown' hgrow; have hc1 := hv1.cell; have hf1 := hv1.frozen)
    have e6 : numCells (pre.map fun p => (p.2 : Int)) ++ [.int .i64 (y : Int)] = numCells ((pre ++ [(q, y)]).map fun p => (p.2 : Int)) := by
      rw [List.map_append, List.map_cons, List.map_nil, numCells_snoc]
    have e7 : (pre ++ [(q, y)]).length = pre.length + 1 := by simp
    refine ⟨hk2.from _, hb2, ⟨⟨_, hv2, ?_, trivial⟩, hB.trans hb2.1, Nat.le_trans hs4 hb2.1.size⟩⟩
    rw [← e6, e7]
    exact hr2
  case done =>
    rintro D ys W hD rfl ⟨⟨v, hv, hrow, -⟩, hB, hs4⟩ hK
    have hc := hv.cell
    gi_wp2
    refine ⟨by simp, .inl ⟨_, _, rfl, run_takeDeferred hK, ?_⟩⟩
    rw [prs_snd, prs_length, ← snI_length] at hrow
    refine ⟨_, results_tmp rfl _ _ _, v, rfl, own_more (ownsRow_putObj hrow _ hK rfl) (by rw [← HBE.out]; omega), ?_⟩
    rw [← HBE.out]
    exact hB.trans (belowK_b (w := w') (by omega) W D _ _ (by omega) hK rfl rfl)
  case stop =>
    rintro D c pre W _ _ h _
    exact h.elim
end Go.Proofs.Ytlkfmaeillnhhaa.Rm

namespace Go.Proofs.Ytlkfmaeillnhhaa.V
set_option linter.unusedVariables false
set_option linter.unusedSimpArgs false

def notDefer (o : Oper) : Bool := match o.op with
  | .defer _ => false
  | _ => true
theorem notDefer_out {o : Oper} (h : notDefer o = true) : ∀ c, o.op ≠ .defer c := fun c e => by
  unfold notDefer at h
  rw [e] at h
  cases h
theorem rows_round {n l : Nat} {P : Program} {row : String} {args : Array Value} {w : World} {R : Value → World → Prop} (h : Rows P row args w R) : RowsIn (Fence.wide.inRound l) n P row args w R := by
  intro c cs _
  obtain ⟨v, w', hR, hs⟩ := h c cs
  exact ⟨v, w', hR, stepsIn_wide.2 hs⟩
theorem op_round {n l : Nat} {P : Program} {o : Oper} {a : Act} {w : World} {K : Act → World → Prop} {Q : Exit → Act → World → Prop} (hd : notDefer o = true) (h : o.wp P a w K Q) : o.wpIn (Fence.wide.inRound l) n P a w K Q := by
  unfold Oper.wpIn
  refine ⟨fun _ _ => trivial, ?_⟩
  rw [Oper.semAt_plain _ _ _ (notDefer_out hd)]
  unfold Oper.wp at h
  generalize (execOp a.eval o).run P w = r at *
  cases r with
  | ok x w' =>
    cases x <;> simp only [Oper.upon, Oper.uponIn] at h ⊢
    case value u => exact h
    case skip => exact h
    case defer d => exact h
    case enter f args => exact ⟨fun h => by simp [Fence.wide] at h, callsIn_wide.2 h⟩
    case row row args => exact ⟨fun h => by simp [Fence.wide] at h, rows_round h⟩
  | halt x w' =>
    cases x <;> simp only [Oper.upon, Oper.uponIn] at h ⊢
    case panic u => exact h
theorem any_round {n l : Nat} {P : Program} {md : Region.Mode} {ops : Array Oper} {Q : Exit → Act → World → Prop} (hd : ops.all notDefer = true) (hq : ¬ LetsOut Q) :
    ∀ (fuel : Nat) (listed : Array Bool) (a : Act) (w : World), wpAny P md ops Q fuel listed a w → wpAnyIn (Fence.wide.inRound l) n P md ops Q fuel listed a w
  | 0, _, _, _, h => h
  | fuel + 1, listed, a, w, h => ⟨h.1, fun i hi => by
    have h2 := h.2 i hi
    unfold wpOp at h2
    unfold wpOpIn
    cases ho : ops[i]? with
    | none => rw [ho] at h2; exact any_round hd hq fuel _ _ _ h2
    | some o =>
      rw [ho] at h2
      simp only at h2 ⊢
      split
      · rename_i hw
        simp only [hw, if_true] at h2
        rcases h2 with h2 | h2
        · exact Oper.wpIn_mono (fun a' w' h' => any_round hd hq fuel _ _ _ h') (op_round (Array.all_eq_true'.1 hd o (Array.mem_of_getElem? ho)) h2)
        · exact absurd h2.2 hq
      · rename_i hw
        simp only [hw] at h2
        exact ⟨fun _ _ => trivial, any_round hd hq fuel _ _ _ h2⟩⟩
/-- A region of a round that draws its order, as one outside of it. -/
theorem region_round {n l id : Nat} {P : Program} {ops : Array Oper} {Q : Exit → Act → World → Prop} {a : Act} {w : World} (S : World → Prop) (hm : P.follows .mixedOrders = true) (hd : ops.all notDefer = true) (hq : ¬ LetsOut Q) (hS : S w.drew)
    (h : S w.drew → wpAnyH P .any ops Q S ops.size (Array.replicate ops.size false) a w.drew) : (Code.region id ops true).wpIn (Fence.wide.inRound l) n P Q a w :=
  wpIn_region_any hm (any_round hd hq _ _ _ _ (wpAny_of_held _ _ _ _ (h hS)))
end Go.Proofs.Ytlkfmaeillnhhaa.V

namespace Go.Proofs.Ytlkfmaeillnhhaa.V
set_option linter.unusedVariables false
set_option linter.unusedSimpArgs false
open Go.RowKit Go.Shelf
open T
open I (It Lb ItemsIn ItemsAt ItemsOk itCells itCells_snoc itCells_at items_cells own_at own_below alloc1)
attribute [local go_sem] Oper.semAt_some

def lastBa (pre : List (Nat × It)) : Bool := (pre.getLast?.map (·.2.ba)).getD false
theorem lastBa_snoc (pre : List (Nat × It)) (x : Nat × It) : lastBa (pre ++ [x]) = x.2.ba := by simp [lastBa]
theorem blk_grown {W W' : World} {row : Option Nat} {i : Nat} {o : Obj} (h : W.heap[i]? = some o) (hg : W.grownBy W' row) (hr : row ≠ some i) : W'.heap[i]? = some o := (hg.block i (L.blk_lt h) (fun e => hr e.symm)).trans h
theorem row_cells {W : World} {row : Option Nat} {i : Nat} {cs : Array Value} {t : TypeId} {f : Nat × Nat} (h : W.heap[i]? = some (.cells cs t f)) (hr : ∀ r, row = some r → ∃ o : Obj, W.heap[r]? = some o ∧ o.isCells = false) : row ≠ some i := fun e => by
  obtain ⟨o, ho, hc⟩ := hr i e
  rw [h] at ho; cases ho; cases hc
theorem own_walk {W W' : World} {row : Option Nat} {base : Nat} {e : TypeId} {size n : Nat} {v : Value} {xs : List Value} (h : W.ownsRow base e size v n xs) (hg : W.grownBy W' row) (hr : ∀ r, row = some r → ∃ o : Obj, W.heap[r]? = some o ∧ o.isCells = false) : W'.ownsRow base e size v n xs := by
  refine h.kept hg ?_
  rcases h.2 with ⟨rfl, _⟩ | ⟨g, cap, cur, rfl, _, hgb, _⟩
  · exact .inl rfl
  · exact .inr fun e' => row_cells hgb hr e'.symm
section
variable {b : Nat} {hx : ByteArray} {ub tb vl : Value} {nl : Nat} {ls : List (List UInt8 × Bool)} {vt : Value} {nt : Nat} {ts : List Int} {bb : Bool} {W W' : World}
/-- A row is in no block of another type. -/
theorem own_type {base : Nat} {e t : TypeId} {size n g : Nat} {v : Value} {xs : List Value} {cs : Array Value} {f : Nat × Nat} (h : W.ownsRow base e size v n xs) (hg : W.heap[g]? = some (.cells cs t f)) (hne : t ≠ e) : v.ownBlock ≠ some g := by
  rcases h.2 with ⟨rfl, _⟩ | ⟨g', cap, cur, rfl, _, hgb, _⟩
  · simp [Value.ownBlock]
  · intro e'
    simp only [Value.ownBlock, Option.some.injEq] at e'
    subst e'
    rw [hg] at hgb
    injection hgb with e1
    injection e1 with _ e2
    exact hne e2
theorem own_apart2 {base base' : Nat} {e e' : TypeId} {size size' n n' : Nat} {v v' : Value} {xs xs' : List Value} (h : W.ownsRow base e size v n xs) (h' : W.ownsRow base' e' size' v' n' xs') (hne : e' ≠ e) : v'.ownBlock = none ∨ v'.ownBlock ≠ v.ownBlock := by
  rcases h'.2 with ⟨rfl, _⟩ | ⟨g', cap, cur, rfl, _, hgb, _⟩
  · exact .inl rfl
  · exact .inr fun e1 => own_type h hgb hne e1.symm
/-- What a round keeps. -/
def Kf (b : Nat) (A W : World) : Prop := (KeepsOthers A W ∧ KpZ b (b + 5) (b + 7) A W) ∧ b + 7 ≤ W.heap.size
theorem Kf.below {A : World} (h : Kf b A W) (hb : Below W.heap.size W W') : Kf b A W' :=
  ⟨⟨h.1.1.trans (KeepsOthers.of_grownBy (grown_of hb none) (fun j o e => by cases e)), h.1.2.t (KpZ.of hb (by have := h.2; omega) h.2)⟩, Nat.le_trans h.2 hb.size⟩
theorem Kf.grown {A : World} {e : TypeId} {size n r : Nat} {v : Value} {xs : List Value} (h : Kf b A W) (ho : W.ownsRow r e size v n xs) (hr : b + 7 ≤ r) (hg : W.grownBy W' v.ownBlock) : Kf b A W' := by
  have hf : ∀ j, v.ownBlock = some j → b + 7 ≤ j := fun j ej => by have := own_base ho j ej; omega
  refine ⟨⟨h.1.1.trans (KeepsOthers.of_grownBy hg (fun j o e ho' => ?_)), h.1.2.t ⟨(Below.refl b W).grown hg (by have := h.2; omega) (fun j ej => by have := hf j ej; omega), fun k h1 h2 => hg.block k (by have := h.2; omega) (fun ej => by have := hf k ej.symm; omega)⟩⟩, Nat.le_trans h.2 hg.size⟩
  rcases ho.2 with ⟨rfl, _⟩ | ⟨g', cap, cur, rfl, _, hgb, _⟩
  · cases e
  · simp only [Value.ownBlock, Option.some.injEq] at e
    subst e
    rw [hgb] at ho'; cases ho'; rfl
theorem Kf.setc {A : World} {p : Addr} (h : Kf b A W) (hp : b ≤ p.block) (hp' : p.block < b + 5) (u : Value) : Kf b A (W.setCell p u) :=
  ⟨⟨h.1.1.trans (KeepsOthers.setCell _ _ _), h.1.2.t ⟨(Below.refl b W).setCell hp u, fun k h1 h2 => Below.heap_setCell W p u k (by omega)⟩⟩, by have := h.2; simpa using this⟩
theorem Kf.set {A : World} {i : Nat} (h : Kf b A W) (u : Value) : Kf b A (W.setCell ⟨b + 1 + 1 + 1, i, none⟩ u) := h.setc (p := ⟨b + 1 + 1 + 1, i, none⟩) (by show b ≤ b + 1 + 1 + 1; omega) (by show b + 1 + 1 + 1 < b + 5; omega) u
end
theorem alloc_old {w : World} {i : Nat} {x : Obj} (o : Obj) (h : w.heap[i]? = some x) : (w.alloc o).heap[i]? = some x := by rw [Below.heap_alloc _ _ _ (L.blk_lt h)]; exact h
theorem alloc_at {w : World} {n : Nat} (o : Obj) (h : w.heap.size = n) : (w.alloc o).heap[n]? = some o := by subst h; exact heap_alloc_new w o
theorem seven (w : World) (o0 o1 o2 o3 o4 o5 o6 : Obj) : ∃ W : World, W = ((((((w.alloc o0).alloc o1).alloc o2).alloc o3).alloc o4).alloc o5).alloc o6 ∧ W.heap[w.heap.size + 1]? = some o1 ∧ W.heap[w.heap.size + 2]? = some o2 ∧ W.heap[w.heap.size + 3]? = some o3 ∧ W.heap[w.heap.size + 4]? = some o4 ∧ W.heap[w.heap.size + 5]? = some o5 ∧ W.heap[w.heap.size + 6]? = some o6 ∧ Below w.heap.size w W ∧ W.heap.size = w.heap.size + 7 := by
  refine ⟨_, rfl, ?_, ?_, ?_, ?_, ?_, ?_, ?_, ?_⟩
  · exact alloc_old _ (alloc_old _ (alloc_old _ (alloc_old _ (alloc_old _ (alloc_at _ (by simp))))))
  · exact alloc_old _ (alloc_old _ (alloc_old _ (alloc_old _ (alloc_at _ (by simp)))))
  · exact alloc_old _ (alloc_old _ (alloc_old _ (alloc_at _ (by simp))))
  · exact alloc_old _ (alloc_old _ (alloc_at _ (by simp)))
  · exact alloc_old _ (alloc_at _ (by simp))
  · exact alloc_at _ (by simp)
  · exact ((((((alloc1 _ _).alloc (by simp) _).alloc (by simp; omega) _).alloc (by simp; omega) _).alloc (by simp; omega) _).alloc (by simp; omega) _).alloc (by simp; omega) _
  · simp

theorem nil_or_snoc {α : Type} (l : List α) : l = [] ∨ ∃ p x, l = p ++ [x] := by
  rcases List.eq_nil_or_concat l with h | ⟨p, x, h⟩
  · exact .inl h
  · exact .inr ⟨p, x, by simpa using h⟩
theorem prs_ats (o : Lb) : ∀ (l : List It) (k : Nat), (prs o k l).map (·.1) = ats o k l
  | [], _ => rfl
  | x :: r, k => by
    rw [prs, ats]
    split
    · rw [List.map_cons, prs_ats o r (k + 1)]
    · exact prs_ats o r (k + 1)
theorem prs_atI (o : Lb) (l : List It) : (prs o 0 l).map (fun p => (p.1 : Int)) = atI o l := by
  rw [atI, ← prs_ats, List.map_map]; rfl
/-- A row of at least one element, its block. -/
theorem own_cells {W : World} {base : Nat} {e : TypeId} {size n : Nat} {v : Value} {xs : List Value} (h : W.ownsRow base e size v n xs) (hn : 0 < n) : ∃ g cap cur, v = .slice (some ⟨g, 0, none⟩) n cap ∧ base ≤ g ∧ W.heap[g]? = some (.cells cur e (0, 0)) ∧ n ≤ cap ∧ cap ≤ maxLen ∧ cur.size = cap * size ∧ cur.toList.take (n * size) = xs := by
  rcases h.2 with ⟨_, h0⟩ | h
  · omega
  · exact h
/-- A cell of a row of one's own is stored. -/
theorem own_put {W : World} {base g j : Nat} {e : TypeId} {size n cap : Nat} {xs : List Value} {u : Value} (h : W.ownsRow base e size (.slice (some ⟨g, 0, none⟩) n cap) n xs) (hj : j < n * size) : (W.setCell ⟨g, j, none⟩ u).ownsRow base e size (.slice (some ⟨g, 0, none⟩) n cap) n (xs.set j u) := by
  refine ⟨by rw [List.length_set]; exact h.1, .inr ?_⟩
  rcases h.2 with ⟨h0, _⟩ | ⟨g', cap', cur, hv, hb, hg, h1, h2, h3, h4⟩
  · cases h0
  · cases hv
    exact ⟨g, cap, cur.setIfInBounds j u, rfl, hb, L.blk_set hg j u, h1, h2, by simpa using h3, by rw [Array.toList_setIfInBounds, List.take_set, h4]⟩
end Go.Proofs.Ytlkfmaeillnhhaa.V

namespace Go.Proofs.Ytlkfmaeillnhhaa.Rm
set_option linter.unusedVariables false
set_option linter.unusedSimpArgs false
open Go.RowKit Go.Shelf
open T
open I (Lb alloc1 own_at own_below)
open V (grown_of KpZ KpZ.t KpZ.b KpZ.of KpZ.refl BlC BlC.call drawn_below boxed_le)
attribute [local go_sem] Oper.semAt_some

/-- By one's own number, or by the commit. -/
def byO (k : Int) (x : Nat × Nat) : Bool := decide ((x.1 : Int) = k)
def byR (k : Int) (x : Nat × Nat) : Bool := decide ((x.2 : Int) = k)
theorem find_on {p : Nat × Nat → Bool} {l : List (Nat × Nat)} {t : Nat × Nat} (h : l.find? p = none) (ht : p t = true) (r : List (Nat × Nat)) : (l ++ [t] ++ r).find? p = some t := by
  rw [List.append_assoc, List.find?_append, h]
  simp [List.find?_cons, ht]
theorem find_off {p : Nat × Nat → Bool} {l : List (Nat × Nat)} {t : Nat × Nat} (h : l.find? p = none) (ht : p t = false) : (l ++ [t]).find? p = none := by
  rw [List.find?_append, h]
  simp [List.find?_cons, ht]
theorem enu_full (k : Int) : ∀ (s : List Nat) (j : Nat), ((enu j s).find? (byO k)).map (·.2) = if (j : Int) ≤ k then s[(k - j).toNat]? else none
  | [], j => by simp [enu]
  | x :: r, j => by
    rw [enu, List.find?_cons]
    by_cases h : (j : Int) = k
    · have h1 : byO k (j, x) = true := decide_eq_true h
      rw [h1]
      simp only [Option.map_some]
      rw [if_pos (by omega), show (k - (j : Int)).toNat = 0 by omega]
      rfl
    · have h1 : byO k (j, x) = false := decide_eq_false h
      rw [h1]
      simp only
      rw [enu_full k r (j + 1)]
      by_cases h2 : (j : Int) ≤ k
      · rw [if_pos h2, if_pos (by omega), show (k - (j : Int)).toNat = (k - ((j + 1 : Nat) : Int)).toNat + 1 by omega]
        simp
      · rw [if_neg h2, if_neg (by omega)]
theorem enu_own (n : Int) : ∀ (s : List Nat) (j : Nat), ((enu j s).find? (byR n)).map (·.1) = (s.findIdx? fun x : Nat => decide ((x : Int) = n)).map (· + j)
  | [], j => by simp [enu]
  | x :: r, j => by
    rw [enu, List.find?_cons, List.findIdx?_cons]
    by_cases h : (x : Int) = n
    · have h1 : byR n (j, x) = true := decide_eq_true h
      have h2 : (decide ((x : Int) = n)) = true := decide_eq_true h
      rw [h1, h2]
      simp
    · have h1 : byR n (j, x) = false := decide_eq_false h
      have h2 : (decide ((x : Int) = n)) = false := decide_eq_false h
      rw [h1, h2]
      simp only
      rw [enu_own n r (j + 1)]
      cases r.findIdx? (fun x : Nat => decide ((x : Int) = n)) with
      | none => simp
      | some q => simp; omega
theorem prs_full (o : Lb) (l : List Lb) (k : Int) : ((prs o l).find? (byO k)).map (·.2) = full (sn o 0 l) k := by
  unfold prs full
  rw [enu_full]
  simp
theorem prs_own (o : Lb) (l : List Lb) (n : Int) : ((prs o l).find? (byR n)).map (·.1) = own (sn o 0 l) n := by
  unfold prs own
  rw [enu_own]
  cases (sn o 0 l).findIdx? (fun x : Nat => decide ((x : Int) = n)) <;> simp
/-- The six boxes of such a call. -/
theorem six (w : World) (o0 o1 o2 o3 o4 o5 : Obj) : ∃ W : World, W = (((((w.alloc o0).alloc o1).alloc o2).alloc o3).alloc o4).alloc o5 ∧ W.heap[w.heap.size]? = some o0 ∧ W.heap[w.heap.size + 1]? = some o1 ∧ W.heap[w.heap.size + 2]? = some o2 ∧ W.heap[w.heap.size + 3]? = some o3 ∧ W.heap[w.heap.size + 4]? = some o4 ∧ W.heap[w.heap.size + 5]? = some o5 ∧ Below w.heap.size w W ∧ W.heap.size = w.heap.size + 6 := by
  refine ⟨_, rfl, ?_, ?_, ?_, ?_, ?_, ?_, ?_, ?_⟩
  · exact V.alloc_old _ (V.alloc_old _ (V.alloc_old _ (V.alloc_old _ (V.alloc_old _ (V.alloc_at _ rfl)))))
  · exact V.alloc_old _ (V.alloc_old _ (V.alloc_old _ (V.alloc_old _ (V.alloc_at _ (by simp)))))
  · exact V.alloc_old _ (V.alloc_old _ (V.alloc_old _ (V.alloc_at _ (by simp))))
  · exact V.alloc_old _ (V.alloc_old _ (V.alloc_at _ (by simp)))
  · exact V.alloc_old _ (V.alloc_at _ (by simp))
  · exact V.alloc_at _ (by simp)
  · exact (((((alloc1 _ _).alloc (by simp) _).alloc (by simp; omega) _).alloc (by simp; omega) _).alloc (by simp; omega) _).alloc (by simp; omega) _
  · simp
theorem boxed_cell {W : World} {b : Nat} {v : Value} {t : TypeId} (h : W.heap[b]? = some (.cells #[v] t (0, 0))) : W.cell? ⟨b, 0, none⟩ = some v := by
  have := L.blk_cell h 0
  simpa using this
/-- Two boxes of results, the record put away. -/
theorem two_rest {W w : World} {b0 i j D : Nat} {ti tj : TypeId} {v1 v2 : Value} (g1 : W.heap[b0 + i]? = some (.cells #[v1] ti (0, 0))) (g2 : W.heap[b0 + j]? = some (.cells #[v2] tj (0, 0))) (hK : W.heap[D]? = some (.deferred (some []))) (hi : b0 + i < D) (hj : b0 + j < D) (hB : Below b0 w W) (hs : b0 ≤ W.heap.size) :
    W.heap[D]? = some (.deferred (some [])) ∧ (W.putObj D (.deferred none)).cell? ⟨b0 + i, 0, none⟩ = some v1 ∧ (W.putObj D (.deferred none)).cell? ⟨b0 + j, 0, none⟩ = some v2 ∧ Below b0 w (W.putObj D (.deferred none)) := by
  have hg := grownBy_putObj' W D (.deferred none)
  have hb := (Below.refl b0 W).grown hg (by omega) (fun k e => by cases e; omega)
  exact ⟨hK, boxed_cell (V.blk_grown g1 hg (by simp; omega)), boxed_cell (V.blk_grown g2 hg (by simp; omega)), hB.trans hb⟩
theorem two_end {W W2 w : World} {b0 i j D : Nat} {ti tj : TypeId} {v1 v2 x1 x2 : Value} (g1 : W.heap[b0 + i]? = some (.cells #[v1] ti (0, 0))) (g2 : W.heap[b0 + j]? = some (.cells #[v2] tj (0, 0))) (hK : W.heap[D]? = some (.deferred (some []))) (hi : b0 + i < D) (hj : b0 + j < D) (hij : i ≠ j) (hB : Below b0 w W) (hs : b0 ≤ W.heap.size)
    (hW2 : W2 = (W.setCell ⟨b0 + i, 0, none⟩ x1).setCell ⟨b0 + j, 0, none⟩ x2) :
    W2.heap[D]? = some (.deferred (some [])) ∧ (W2.putObj D (.deferred none)).cell? ⟨b0 + i, 0, none⟩ = some x1 ∧ (W2.putObj D (.deferred none)).cell? ⟨b0 + j, 0, none⟩ = some x2 ∧ Below b0 w (W2.putObj D (.deferred none)) := by
  rw [hW2]
  refine two_rest (ti := ti) (tj := tj) (v1 := x1) (v2 := x2) ?_ ?_ ?_ hi hj ?_ (by simpa using hs)
  · exact (L.blk_far (by omega) _).trans (L.blk_set g1 0 x1)
  · exact L.blk_set ((L.blk_far (by omega) _).trans g2) 0 x2
  · exact (L.blk_far (by omega) _).trans ((L.blk_far (by omega) _).trans hK)
  · exact (hB.setCell (p := ⟨b0 + i, 0, none⟩) (by show b0 ≤ b0 + i; omega) _).setCell (p := ⟨b0 + j, 0, none⟩) (by show b0 ≤ b0 + j; omega) _
def fullV (o : Option (Nat × Nat)) : Value := .tuple #[.int .i64 (nm (o.map (·.2))), .bool o.isSome]
set_option maxRecDepth 100000 in
set_option maxHeartbeats 4000000 in
theorem full_in (n : Nat) (hn : 6 ≤ n) (A : Option Addr) (cap : Nat) (l : List Lb) (f0 : Int) (f1 : Nat) (k : Int) (w : World) (hA : LabsIn w A l) (hll : l.length ≤ maxLen) (HB : Hid (∀ x ∈ l, BlC x.1 f0 x.2 f1 (bl (f0, f1) x))) :
    CallsIn Fence.wide n Try.prog 8 #[.slice A l.length cap, .agg #[.int .i64 f0, .int .u64 (f1 : Int)], .int .i64 k] w fun e W' => e = .returned (fullV ((prs (f0, f1) l).find? (byO k))) ∧ Below w.heap.size w W' := by
  have h1 : 1 ≤ n := by omega
  obtain ⟨W0, hW0, k0, k1, k2, k3, k4, k5, hB0, hsz⟩ := six w (.cells #[.int .i64 f0, .int .u64 (f1 : Int)] 25) (.cells #[.int .i64 k] 3) (.cells #[.int .i64 0] 3) (.cells #[.bool false] 4) (.cells #[.slice A l.length cap] 22) (.cells #[.int .i64 f0, .int .u64 (f1 : Int)] 25)
  refine callsIn_of_wp_marks Try.func8 rfl trivial ?_ rfl
  simp only [Try.ntmps8, List.size_toArray, List.length_cons, List.length_nil, Nat.reduceAdd, Nat.reduceSub, Array.replicate_succ, Array.replicate_zero, List.push_toArray, List.append_toArray, List.nil_append, List.cons_append]
  gi_wp2
  refine ⟨trivial, ?_⟩
  refine (seen_in (n - 1) A l.length cap f0 f1 _).mono ?_
  rintro e w' ⟨rfl, hw'⟩
  rw [← hW0] at hw'
  subst hw'
  simp only [World.size_alloc]
  clear hW0
  have hIt0 := hA.of hB0
  obtain ⟨b0, hb0⟩ : ∃ b, b = w.heap.size := ⟨_, rfl⟩
  rw [← hb0] at hsz hB0 k0 k1 k2 k3 k4 k5 hIt0 ⊢
  have HBE := Lib.hid hb0
  have hbw : b0 ≤ w.heap.size := by omega
  clear hb0
  gi_wp2
  refine wpIn_rangeFunc_ownH rfl h1 (gf := 23) (lb := #[.pointer (some ⟨b0 + 1 + 1 + 1 + 1, 0, none⟩), .pointer (some ⟨b0 + 1 + 1 + 1 + 1 + 1, 0, none⟩)]) rfl trivial (enters_of Try.func23 (by kernel_rfl) rfl)
    (seen_stops (n - 1) (by omega) (b0 + 4) (b0 + 5) b0 (b0 + 4) (b0 + 6) A cap l f0 f1 hll HB w' (by omega) (by omega) (by omega) (by omega) (L.blk_cell k4 0) k5 hIt0) KpZ.t (KpZ.b (by omega) (by omega)) (Below.refl _ _) (fun _ => rfl)
    (fun (pre : List (Nat × Nat)) W => (W.heap[b0 + 1]? = some (.cells #[.int .i64 k] 3 (0, 0)) ∧ W.heap[b0 + 2]? = some (.cells #[.int .i64 0] 3 (0, 0)) ∧ W.heap[b0 + 3]? = some (.cells #[.bool false] 4 (0, 0))) ∧ (pre.find? (byO k) = none ∧ Below b0 w W ∧ b0 + 6 ≤ W.heap.size))
    (fun c (pre : List (Nat × Nat)) W => c = .ret ∧ ∃ t : Nat × Nat, (W.heap[b0 + 2]? = some (.cells #[.int .i64 (t.2 : Int)] 3 (0, 0)) ∧ W.heap[b0 + 3]? = some (.cells #[.bool true] 4 (0, 0))) ∧ ((∀ r, (pre ++ r).find? (byO k) = some t) ∧ Below b0 w W ∧ b0 + 6 ≤ W.heap.size))
    (OwnFrom.and (fun pre X Y row hs hg hr => ⟨V.blk_grown hs.1 hg (V.row_cells hs.1 (fun r hr' => (hr r hr').2)), V.blk_grown hs.2.1 hg (V.row_cells hs.2.1 (fun r hr' => (hr r hr').2)), V.blk_grown hs.2.2 hg (V.row_cells hs.2.2 (fun r hr' => (hr r hr').2))⟩) (OwnFrom.and (ownFrom_pure _ _) (OwnFrom.and (ownFrom_below hbw (by omega)) (fun _ _ _ _ hs hg _ => boxed_le hs hg))))
    (fun _ => fun pre X Y row hs hg hr => by
      obtain ⟨h0, t, h1, h2, h3, h4⟩ := hs
      exact ⟨h0, t, (⟨V.blk_grown h1.1 hg (V.row_cells h1.1 (fun r hr' => (hr r hr').2)), V.blk_grown h1.2 hg (V.row_cells h1.2 (fun r hr' => (hr r hr').2))⟩), h2, ownFrom_below hbw (by omega) pre X Y row h3 hg hr, boxed_le h4 hg⟩)
    ⟨⟨k1, k2, k3⟩, rfl, hB0, by omega⟩
    (fun (x : Nat × Nat) a' _ => a' = { tmps := #[.slice A l.length cap, .agg #[.int .i64 f0, .int .u64 (f1 : Int)], .int .i64 k, undef, .pointer (some ⟨b0, 0, none⟩), .pointer (some ⟨b0 + 1, 0, none⟩), .pointer (some ⟨b0 + 1 + 1, 0, none⟩), .pointer (some ⟨b0 + 1 + 1 + 1, 0, none⟩), .int .i64 (x.1 : Int), .int .i64 (x.2 : Int), .slice A l.length cap, .agg #[.int .i64 f0, .int .u64 (f1 : Int)], .func (.func 23) #[] #[.pointer (some ⟨b0 + 1 + 1 + 1 + 1, 0, none⟩), .pointer (some ⟨b0 + 1 + 1 + 1 + 1 + 1, 0, none⟩)], .int .i64 (x.1 : Int), .int .i64 (x.2 : Int), undef, undef, undef, undef], defers := [] })
    (fun x a' _ X Y row hs hg hr => hs)
    ?assign ?body ?done ?stop
  case assign =>
    rintro lp pre x W K ⟨hg, hrn, hB, hs4⟩ hK
    dsimp only at hK ⊢
    gi_wp2
    exact hK _ _ ((KeepsOthers.refl _).from _) (KpZ.refl _ _ _ _) ⟨hg, hrn, hB, hs4⟩ rfl
  case body =>
    rintro lp pre x a' W hlp ⟨r, hr⟩ ⟨⟨g1, g2, g3⟩, hrn, hB, hs4⟩ rfl hlt
    obtain ⟨q, y⟩ := x
    simp only
    have HRN := Lib.hid hrn
    have HBW := Lib.hid hB
    have HG := Lib.hid (And.intro g1 (And.intro g2 g3))
    have d0 := boxed_cell g1
    have c2 := boxed_cell g2
    have f2 := L.blk_free g2 0
    have c3 := boxed_cell g3
    have f3 := L.blk_free g3 0
    clear hr hrn hlt hlp hB g1 g2 g3 k0 k1 k2 k3 k4 k5 hA
    by_cases h6 : (q : Int) = k
    · have HE := Lib.hid (show byO k (q, y) = true from decide_eq_true h6)
      obtain ⟨W2, hW2⟩ : ∃ W2 : World, W2 = (W.setCell ⟨b0 + 2, 0, none⟩ (.int .i64 (y : Int))).setCell ⟨b0 + 3, 0, none⟩ (.bool true) := ⟨_, rfl⟩
      have HW2 := Lib.hid hW2
      have h6' : ((q : Int) == k) = true := by simpa using h6
      clear h6
      gi_wp2
      rw [← hW2]
      refine ⟨?_, rfl, (q, y), ⟨?_, ?_⟩, fun r => ?_, ?_, ?_⟩
      · rw [HW2.out]
        exact ((KeepsOthers.setCell _ _ _).trans (KeepsOthers.setCell _ _ _)).from _
      · rw [HW2.out]
        exact (L.blk_far (by omega) _).trans (L.blk_set HG.out.2.1 0 _)
      · rw [HW2.out]
        exact L.blk_set ((L.blk_far (by omega) _).trans HG.out.2.2) 0 _
      · exact find_on HRN.out HE.out r
      · rw [HW2.out]
        exact (HBW.out.setCell (p := ⟨b0 + 2, 0, none⟩) (by show b0 ≤ b0 + 2; omega) _).setCell (p := ⟨b0 + 3, 0, none⟩) (by show b0 ≤ b0 + 3; omega) _
      · rw [HW2.out]; simpa using hs4
    · have HE := Lib.hid (show byO k (q, y) = false from decide_eq_false h6)
      have h6' : ((q : Int) == k) = false := by simpa using h6
      clear h6
      gi_wp2
      exact ⟨(KeepsOthers.refl _).from _, KpZ.refl _ _ _ _, HG.out, find_off HRN.out HE.out, HBW.out, hs4⟩
  case done =>
    rintro D ys W hD hys ⟨⟨g1, g2, g3⟩, hrn, hB, hs4⟩ hK
    have c2 := boxed_cell g2
    have c3 := boxed_cell g3
    have f2 := L.blk_free g2 0
    have f3 := L.blk_free g3 0
    have HN : Hid ((prs (f0, f1) l).find? (byO k) = none) := Lib.hid (by rw [← hys, hrn])
    obtain ⟨W2, hW2⟩ : ∃ W2 : World, W2 = (W.setCell ⟨b0 + 2, 0, none⟩ (.int .i64 0)).setCell ⟨b0 + 3, 0, none⟩ (.bool false) := ⟨_, rfl⟩
    have HE := Lib.hid (two_end (x1 := .int .i64 0) (x2 := .bool false) g2 g3 hK (by omega) (by omega) (by omega) hB (by omega) hW2)
    clear k0 k1 k2 k3 k4 k5 hA
    gi_wp2
    rw [← hW2]
    clear hW2 c2 c3 f2 f3 g1 g2 g3 hK
    refine ⟨by simp, .inl ⟨_, _, rfl, run_takeDeferred HE.out.1, ?_⟩⟩
    have e1 := HE.out.2.1
    have e2 := HE.out.2.2.1
    refine ⟨.tuple #[.int .i64 0, .bool false], by simp [results, Try.results8, go_sem, e1, e2], ?_, ?_⟩
    · rw [HN.out]; rfl
    · rw [← HBE.out]; exact HE.out.2.2.2
  case stop =>
    rintro D c pre W hD ⟨r, hr⟩ ⟨rfl, t, ⟨g2, g3⟩, hrn, hB, hs4⟩ hK
    have HN : Hid ((prs (f0, f1) l).find? (byO k) = some t) := Lib.hid (by rw [hr, hrn])
    obtain ⟨t0, t1⟩ := t
    simp only at g2
    have HE := Lib.hid (two_rest g2 g3 hK (by omega) (by omega) hB (by omega))
    clear k0 k1 k2 k3 k4 k5 hA
    gi_wp2
    refine ⟨by simp, .inl ⟨_, _, rfl, run_takeDeferred HE.out.1, ?_⟩⟩
    have e1 := HE.out.2.1
    have e2 := HE.out.2.2.1
    refine ⟨.tuple #[.int .i64 (t1 : Int), .bool true], by simp [results, Try.results8, go_sem, e1, e2], ?_, ?_⟩
    · rw [HN.out]; rfl
    · rw [← HBE.out]; exact HE.out.2.2.2
def ownV (o : Option (Nat × Nat)) : Value := .tuple #[.int .i64 (nm (o.map (·.1))), .bool o.isSome]
set_option maxRecDepth 100000 in
set_option maxHeartbeats 4000000 in
theorem own_in (n : Nat) (hn : 6 ≤ n) (A : Option Addr) (cap : Nat) (l : List Lb) (f0 : Int) (f1 : Nat) (k : Int) (w : World) (hA : LabsIn w A l) (hll : l.length ≤ maxLen) (HB : Hid (∀ x ∈ l, BlC x.1 f0 x.2 f1 (bl (f0, f1) x))) :
    CallsIn Fence.wide n Try.prog 10 #[.slice A l.length cap, .agg #[.int .i64 f0, .int .u64 (f1 : Int)], .int .i64 k] w fun e W' => e = .returned (ownV ((prs (f0, f1) l).find? (byR k))) ∧ Below w.heap.size w W' := by
  have h1 : 1 ≤ n := by omega
  obtain ⟨W0, hW0, k0, k1, k2, k3, k4, k5, hB0, hsz⟩ := six w (.cells #[.int .i64 f0, .int .u64 (f1 : Int)] 25) (.cells #[.int .i64 k] 3) (.cells #[.int .i64 0] 3) (.cells #[.bool false] 4) (.cells #[.slice A l.length cap] 22) (.cells #[.int .i64 f0, .int .u64 (f1 : Int)] 25)
  refine callsIn_of_wp_marks Try.func10 rfl trivial ?_ rfl
  simp only [Try.ntmps10, List.size_toArray, List.length_cons, List.length_nil, Nat.reduceAdd, Nat.reduceSub, Array.replicate_succ, Array.replicate_zero, List.push_toArray, List.append_toArray, List.nil_append, List.cons_append]
  gi_wp2
  refine ⟨trivial, ?_⟩
  refine (seen_in (n - 1) A l.length cap f0 f1 _).mono ?_
  rintro e w' ⟨rfl, hw'⟩
  rw [← hW0] at hw'
  subst hw'
  simp only [World.size_alloc]
  clear hW0
  have hIt0 := hA.of hB0
  obtain ⟨b0, hb0⟩ : ∃ b, b = w.heap.size := ⟨_, rfl⟩
  rw [← hb0] at hsz hB0 k0 k1 k2 k3 k4 k5 hIt0 ⊢
  have HBE := Lib.hid hb0
  have hbw : b0 ≤ w.heap.size := by omega
  clear hb0
  gi_wp2
  refine wpIn_rangeFunc_ownH rfl h1 (gf := 23) (lb := #[.pointer (some ⟨b0 + 1 + 1 + 1 + 1, 0, none⟩), .pointer (some ⟨b0 + 1 + 1 + 1 + 1 + 1, 0, none⟩)]) rfl trivial (enters_of Try.func23 (by kernel_rfl) rfl)
    (seen_stops (n - 1) (by omega) (b0 + 4) (b0 + 5) b0 (b0 + 4) (b0 + 6) A cap l f0 f1 hll HB w' (by omega) (by omega) (by omega) (by omega) (L.blk_cell k4 0) k5 hIt0) KpZ.t (KpZ.b (by omega) (by omega)) (Below.refl _ _) (fun _ => rfl)
    (fun (pre : List (Nat × Nat)) W => (W.heap[b0 + 1]? = some (.cells #[.int .i64 k] 3 (0, 0)) ∧ W.heap[b0 + 2]? = some (.cells #[.int .i64 0] 3 (0, 0)) ∧ W.heap[b0 + 3]? = some (.cells #[.bool false] 4 (0, 0))) ∧ (pre.find? (byR k) = none ∧ Below b0 w W ∧ b0 + 6 ≤ W.heap.size))
    (fun c (pre : List (Nat × Nat)) W => c = .ret ∧ ∃ t : Nat × Nat, (W.heap[b0 + 2]? = some (.cells #[.int .i64 (t.1 : Int)] 3 (0, 0)) ∧ W.heap[b0 + 3]? = some (.cells #[.bool true] 4 (0, 0))) ∧ ((∀ r, (pre ++ r).find? (byR k) = some t) ∧ Below b0 w W ∧ b0 + 6 ≤ W.heap.size))
    (OwnFrom.and (fun pre X Y row hs hg hr => ⟨V.blk_grown hs.1 hg (V.row_cells hs.1 (fun r hr' => (hr r hr').2)), V.blk_grown hs.2.1 hg (V.row_cells hs.2.1 (fun r hr' => (hr r hr').2)), V.blk_grown hs.2.2 hg (V.row_cells hs.2.2 (fun r hr' => (hr r hr').2))⟩) (OwnFrom.and (ownFrom_pure _ _) (OwnFrom.and (ownFrom_below hbw (by omega)) (fun _ _ _ _ hs hg _ => boxed_le hs hg))))
    (fun _ => fun pre X Y row hs hg hr => by
      obtain ⟨h0, t, h1, h2, h3, h4⟩ := hs
      exact ⟨h0, t, (⟨V.blk_grown h1.1 hg (V.row_cells h1.1 (fun r hr' => (hr r hr').2)), V.blk_grown h1.2 hg (V.row_cells h1.2 (fun r hr' => (hr r hr').2))⟩), h2, ownFrom_below hbw (by omega) pre X Y row h3 hg hr, boxed_le h4 hg⟩)
    ⟨⟨k1, k2, k3⟩, rfl, hB0, by omega⟩
    (fun (x : Nat × Nat) a' _ => a' = { tmps := #[.slice A l.length cap, .agg #[.int .i64 f0, .int .u64 (f1 : Int)], .int .i64 k, undef, .pointer (some ⟨b0, 0, none⟩), .pointer (some ⟨b0 + 1, 0, none⟩), .pointer (some ⟨b0 + 1 + 1, 0, none⟩), .pointer (some ⟨b0 + 1 + 1 + 1, 0, none⟩), .int .i64 (x.1 : Int), .int .i64 (x.2 : Int), .slice A l.length cap, .agg #[.int .i64 f0, .int .u64 (f1 : Int)], .func (.func 23) #[] #[.pointer (some ⟨b0 + 1 + 1 + 1 + 1, 0, none⟩), .pointer (some ⟨b0 + 1 + 1 + 1 + 1 + 1, 0, none⟩)], .int .i64 (x.1 : Int), .int .i64 (x.2 : Int), undef, undef, undef, undef], defers := [] })
    (fun x a' _ X Y row hs hg hr => hs)
    ?assign ?body ?done ?stop
  case assign =>
    rintro lp pre x W K ⟨hg, hrn, hB, hs4⟩ hK
    dsimp only at hK ⊢
    gi_wp2
    exact hK _ _ ((KeepsOthers.refl _).from _) (KpZ.refl _ _ _ _) ⟨hg, hrn, hB, hs4⟩ rfl
  case body =>
    rintro lp pre x a' W hlp ⟨r, hr⟩ ⟨⟨g1, g2, g3⟩, hrn, hB, hs4⟩ rfl hlt
    obtain ⟨q, y⟩ := x
    simp only
    have HRN := Lib.hid hrn
    have HBW := Lib.hid hB
    have HG := Lib.hid (And.intro g1 (And.intro g2 g3))
    have d0 := boxed_cell g1
    have c2 := boxed_cell g2
    have f2 := L.blk_free g2 0
    have c3 := boxed_cell g3
    have f3 := L.blk_free g3 0
    clear hr hrn hlt hlp hB g1 g2 g3 k0 k1 k2 k3 k4 k5 hA
    by_cases h6 : (y : Int) = k
    · have HE := Lib.hid (show byR k (q, y) = true from decide_eq_true h6)
      obtain ⟨W2, hW2⟩ : ∃ W2 : World, W2 = (W.setCell ⟨b0 + 2, 0, none⟩ (.int .i64 (q : Int))).setCell ⟨b0 + 3, 0, none⟩ (.bool true) := ⟨_, rfl⟩
      have HW2 := Lib.hid hW2
      have h6' : ((y : Int) == k) = true := by simpa using h6
      clear h6
      gi_wp2
      rw [← hW2]
      refine ⟨?_, rfl, (q, y), ⟨?_, ?_⟩, fun r => ?_, ?_, ?_⟩
      · rw [HW2.out]
        exact ((KeepsOthers.setCell _ _ _).trans (KeepsOthers.setCell _ _ _)).from _
      · rw [HW2.out]
        exact (L.blk_far (by omega) _).trans (L.blk_set HG.out.2.1 0 _)
      · rw [HW2.out]
        exact L.blk_set ((L.blk_far (by omega) _).trans HG.out.2.2) 0 _
      · exact find_on HRN.out HE.out r
      · rw [HW2.out]
        exact (HBW.out.setCell (p := ⟨b0 + 2, 0, none⟩) (by show b0 ≤ b0 + 2; omega) _).setCell (p := ⟨b0 + 3, 0, none⟩) (by show b0 ≤ b0 + 3; omega) _
      · rw [HW2.out]; simpa using hs4
    · have HE := Lib.hid (show byR k (q, y) = false from decide_eq_false h6)
      have h6' : ((y : Int) == k) = false := by simpa using h6
      clear h6
      gi_wp2
      exact ⟨(KeepsOthers.refl _).from _, KpZ.refl _ _ _ _, HG.out, find_off HRN.out HE.out, HBW.out, hs4⟩
  case done =>
    rintro D ys W hD hys ⟨⟨g1, g2, g3⟩, hrn, hB, hs4⟩ hK
    have c2 := boxed_cell g2
    have c3 := boxed_cell g3
    have f2 := L.blk_free g2 0
    have f3 := L.blk_free g3 0
    have HN : Hid ((prs (f0, f1) l).find? (byR k) = none) := Lib.hid (by rw [← hys, hrn])
    obtain ⟨W2, hW2⟩ : ∃ W2 : World, W2 = (W.setCell ⟨b0 + 2, 0, none⟩ (.int .i64 0)).setCell ⟨b0 + 3, 0, none⟩ (.bool false) := ⟨_, rfl⟩
    have HE := Lib.hid (two_end (x1 := .int .i64 0) (x2 := .bool false) g2 g3 hK (by omega) (by omega) (by omega) hB (by omega) hW2)
    clear k0 k1 k2 k3 k4 k5 hA
    gi_wp2
    rw [← hW2]
    clear hW2 c2 c3 f2 f3 g1 g2 g3 hK
    refine ⟨by simp, .inl ⟨_, _, rfl, run_takeDeferred HE.out.1, ?_⟩⟩
    have e1 := HE.out.2.1
    have e2 := HE.out.2.2.1
    refine ⟨.tuple #[.int .i64 0, .bool false], by simp [results, Try.results10, go_sem, e1, e2], ?_, ?_⟩
    · rw [HN.out]; rfl
    · rw [← HBE.out]; exact HE.out.2.2.2
  case stop =>
    rintro D c pre W hD ⟨r, hr⟩ ⟨rfl, t, ⟨g2, g3⟩, hrn, hB, hs4⟩ hK
    have HN : Hid ((prs (f0, f1) l).find? (byR k) = some t) := Lib.hid (by rw [hr, hrn])
    obtain ⟨t0, t1⟩ := t
    simp only at g2
    have HE := Lib.hid (two_rest g2 g3 hK (by omega) (by omega) hB (by omega))
    clear k0 k1 k2 k3 k4 k5 hA
    gi_wp2
    refine ⟨by simp, .inl ⟨_, _, rfl, run_takeDeferred HE.out.1, ?_⟩⟩
    have e1 := HE.out.2.1
    have e2 := HE.out.2.2.1
    refine ⟨.tuple #[.int .i64 (t0 : Int), .bool true], by simp [results, Try.results10, go_sem, e1, e2], ?_, ?_⟩
    · rw [HN.out]; rfl
    · rw [← HBE.out]; exact HE.out.2.2.2
end Go.Proofs.Ytlkfmaeillnhhaa.Rm
