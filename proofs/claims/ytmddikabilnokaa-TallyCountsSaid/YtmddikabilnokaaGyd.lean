/-
  The contract of view's Cut.
  The keys of a map of labels: the iterator, and the row of all that it tells.
  All keys of a map of labels, in a row.
  Labels sorted by the library.
  The labels of a map, sorted.
  One more at a label: the entry and its store.
-/
import Derived.Test.YtmddikabilnokaaGyc
import Derived.Test.YtmddikabilnokaaGyb
import Derived.RangeFuncNested
import Derived.RangeFuncBox
import Derived.Sort.MapsRangeIn
import Derived.Lib.OwnBridge
namespace Go.Proofs.Ytmddikabilnokaa.V
set_option linter.unusedVariables false
set_option linter.unusedSimpArgs false
open Go.RowKit Go.Shelf
open T
open I (It Lb ItemsIn ItemsAt ItemsOk itCells itCells_snoc itCells_at items_cells items_own own_at own_below infoItem alloc1)
attribute [local go_sem] Oper.semAt_some

theorem prs_cut (o : Lb) : ∀ (l : List It) (k : Nat), (prs o k l).map (·.2) = cut o l
  | [], _ => rfl
  | x :: r, k => by
    rw [prs]
    by_cases hx : sees o x = true
    · rw [if_pos hx, List.map_cons, prs_cut o r (k + 1)]; simp [cut, hx]
    · rw [if_neg hx, prs_cut o r (k + 1)]; simp [cut, hx]
/-- Behind an append whose row is stored into a box ahead of it: what lies below n₀ stays, and the blocks from za on, below zb. -/
theorem appendedZ {W w1 : World} {n₀ za zb r₀ B : Nat} {t e : TypeId} {size : Nat} {v v' : Value} {k m : Nat} {xs ys : List Value} {tmp : Obj}
    (hv : Boxed W B t v) (hte : t ≠ e) (hrow : W.ownsRow r₀ e size v k xs) (hr₀ : r₀ ≤ W.heap.size) (hB : n₀ ≤ B) (hBz : B < za) (hnr : n₀ ≤ r₀) (hzr : zb ≤ r₀)
    (hown' : w1.ownsRow r₀ e size v' m ys) (hgrow : (W.alloc tmp).grownBy w1 v.ownBlock) :
    Boxed w1 B t v ∧ Boxed (w1.setCell ⟨B, 0, none⟩ v') B t v' ∧ (w1.setCell ⟨B, 0, none⟩ v').ownsRow r₀ e size v' m ys ∧ KeepsOthers W (w1.setCell ⟨B, 0, none⟩ v') ∧ KpZ n₀ za zb W (w1.setCell ⟨B, 0, none⟩ v') := by
  have hv1 : Boxed w1 B t v := (hv.alloc tmp).kept hgrow (hv.not_row hte hrow)
  obtain ⟨-, h2, -, h4, -⟩ := hv.appended hte (own_more hrow (Nat.zero_le r₀)) (Nat.zero_le _) (Nat.zero_le _) (own_more hown' (Nat.zero_le r₀)) hgrow
  have hblk : ∀ i, i < W.heap.size → i < r₀ → i ≠ B → (w1.setCell ⟨B, 0, none⟩ v').heap[i]? = W.heap[i]? := fun i hi hr hne => by
    rw [L.blk_far (g := i) (g' := B) hne v', hgrow.block i (by simp; omega) (fun e' => by have := own_base hrow i e'.symm; omega)]
    exact (alloc1 W tmp).block i hi
  refine ⟨hv1, h2, hown'.kept (grown_set w1 ⟨B, 0, none⟩ v') (own_ne hown' fun cs he => ?_), h4, ⟨?_, fun i h1 h2 => hblk i (by omega) (by omega) (by omega)⟩⟩
  · rw [show w1.heap[B]? = _ from hv1] at he
    injection he with he; injection he with _ he; exact hte he
  · refine (((Below.refl n₀ W).alloc (by omega) tmp).grown hgrow (by simp; omega) fun j ej => ?_).setCell (p := ⟨B, 0, none⟩) hB v'
    have := own_base hrow j ej
    omega
theorem boxed_le {W W' : World} {n : Nat} (h : n ≤ W.heap.size) {row : Option Nat} (hg : W.grownBy W' row) : n ≤ W'.heap.size := Nat.le_trans h hg.size
end Go.Proofs.Ytmddikabilnokaa.V

namespace Go.Proofs.Ytmddikabilnokaa.Ta
set_option linter.unusedVariables false
set_option linter.unusedSimpArgs false
open Go.RowKit Go.Shelf Go.Maps
open T
open I (It Lb alloc1 own_at own_below)
open V (grown_of drawn_below appendedZ boxed_le)
attribute [local go_sem] Oper.semAt_some

set_option maxRecDepth 100000 in
set_option maxHeartbeats 4000000 in
/-- The iterator's closure: whatever J the caller keeps between rounds. -/
theorem keys1_in (n : Nat) (hn : 1 ≤ n) (lp Bm b nn : Nat) (f : Lb → Nat) (D0 : DataW Unit) (J Jx : List Lb → World → Prop)
    (hY : ∀ pre x W, J pre W → pre.length < nn → YieldAt Fence.wide (n - 1) Try.prog lp #[lbV x] W fun e W' =>
      (e = .returned (.bool true) ∧ J (pre ++ [x]) W' ∧ KeepsWalks W W') ∨ (e = .returned (.bool false) ∧ Jx (pre ++ [x]) W'))
    (W : World) (hJ : AbidesFrom W.heap.size J) (hm : W.cell? ⟨Bm, 0, none⟩ = some (.map (some b))) (hmap : MapIs W b nn f D0) (h0 : J [] W) :
    CallsIn Fence.wide n Try.prog 30 #[.func (.yield lp) #[] #[], .pointer (some ⟨Bm, 0, none⟩)] W fun e W' => (∃ v, e = .returned v) ∧
      ((∃ ss, (KeysAre f ss ∧ ss.length ≤ nn) ∧ J ss W') ∨ (∃ pre, True ∧ Jx pre W')) := by
  have hown := hmap.1
  have hsz := hmap.size
  refine callsIn_of_wp Try.func30 rfl trivial ?_ rfl
  simp only [Try.ntmps30, List.size_toArray, List.length_cons, List.length_nil, Nat.reduceAdd, Nat.reduceSub, Array.replicate_succ, Array.replicate_zero, List.push_toArray, List.append_toArray, List.nil_append, List.cons_append]
  gi_wp2_with (first
    | (gi_at_range; refine wpListIn_range_own _ rfl _ 48 rfl 25 3 lbLaw Try.underlying48 _ b nn _ rfl hown ?_; intro w0 hrg0 hg0 hs0)
    | gi_in)
  go_frame
  gi_loopw [3] (fun _ wr => ∃ (left : Lit → Bool) (cnt : Nat) (ss : List Lb), wr.ranges Try.prog 25 (plainElem Try.prog 3) b W.heap.size nn D0 left cnt ∧ ss.length + cnt ≤ Maps.size D0 ∧ Col D0 left ss ∧ J ss wr)
    (fun _ wr => wr.rangeLeft b W.heap.size)
  case atStart =>
    exact ⟨_, _, [], hrg0, by simp, Col.start D0, hJ [] W w0 none h0 hg0 (fun r e => by cases e)⟩
  case round =>
    obtain ⟨left, cnt, ss, hrg, hcs, hC, hJs⟩ := hrel
    gi_wp2_with (first
      | (gi_at_next; refine wpListIn_next_ranges _ rfl _ rfl 25 lbLaw (plainElem Try.prog 3) lbV id (fun key kl hk => by obtain ⟨x, hx, _⟩ := key_lb hk; exact ⟨x, hx⟩) (fun v _ _ => ⟨v, rfl⟩) b W.heap.size nn _ _ _ rfl hrg ?_ ?_)
      | gi_in)
    · intro hc0 hl0
      gi_wp2
      go_end0
      exact ⟨⟨_, rfl⟩, .inl ⟨ss, ⟨hC.all hmap hl0, by omega⟩, hJs⟩⟩
    · intro x1 x2 c kl yd yp w2 cnt2 hkey hlk hv hat hrg2 hlt hg2 hs2 hen
      obtain ⟨x', ex, hx, rfl⟩ := key_lb hkey
      obtain rfl : x' = (x1, x2) := (lbV_inj ex).symm
      have hJ2 : J ss w2 := hJ ss wr w2 (some W.heap.size) hJs hg2 (fun r e => by cases e; exact ⟨Nat.le_refl _, hrg.iter_walk⟩)
      have hJ3 : J ss (w2.alloc (.cells #[.int .i64 x1, .int .u64 (x2 : Int)] 25)) := hJ ss w2 _ none hJ2 (grown_of (alloc1 _ _) none) (fun r e => by cases e)
      obtain ⟨fn, tmps, assign, body, hy, hR⟩ := hY ss (x1, x2) _ hJ3 (by omega)
      clear hs2
      gi_wp2
      refine hR.mono ?_
      rintro e W3 (⟨rfl, hJ4, hk3⟩ | ⟨rfl, hJx⟩)
      · gi_wp2
        have hrg3 := (hrg2.alloc (.cells #[.int .i64 x1, .int .u64 (x2 : Int)] 25)).of_walks hk3
        go_roundw
        case rel => exact ⟨_, cnt2, ss ++ [(x1, x2)], hrg3, by simp; omega, hC.step hx hlk hat, hJ4⟩
        case measure => rw [hrg3.left_eq, hrg.left_eq]; exact hlt
      · gi_wp2
        refine bodyPost_ret (results_none rfl _ _ _) rfl ?_
        exact ⟨⟨_, rfl⟩, .inr ⟨_, trivial, hJx⟩⟩
end Go.Proofs.Ytmddikabilnokaa.Ta

namespace Go.Proofs.Ytmddikabilnokaa.Ta
set_option linter.unusedVariables false
set_option linter.unusedSimpArgs false
open Go.RowKit Go.Shelf Go.Maps
open T
open I (It Lb alloc1 own_at own_below)
open V (grown_of drawn_below boxed_le)
attribute [local go_sem] Oper.semAt_some

set_option maxHeartbeats 1000000 in
/-- What the iterator's closure does is what is asked of one. -/
theorem keys_stops (n : Nat) (hn : 1 ≤ n) (Bm b nn : Nat) (f : Lb → Nat) (D0 : DataW Unit) (w : World) (hBm : Bm < w.heap.size) (hm : w.cell? ⟨Bm, 0, none⟩ = some (.map (some b))) (hmap : MapIs w b nn f D0) :
    SeqStopsK Fence.wide n Try.prog 30 #[.pointer (some ⟨Bm, 0, none⟩)] (fun x : Lb => #[lbV x]) KeepsWalks (fun ss => KeysAre f ss ∧ ss.length ≤ nn) (fun _ => True) nn w := fun lp J Jx W hW hJ _ hY h0 =>
  keys1_in n hn lp Bm b nn f D0 J Jx hY W hJ ((hW.cell (p := ⟨Bm, 0, none⟩) hBm).trans hm) (hmap.kept (grown_of hW none) (by simp)) h0

set_option maxHeartbeats 1000000 in
theorem keys_in (n : Nat) (mb : Option Nat) (w : World) :
    CallsIn Fence.wide n Try.prog 23 #[.map mb] w fun e w' => e = .returned (.func (.func 30) #[] #[.pointer (some ⟨w.heap.size, 0, none⟩)]) ∧
      w' = w.alloc (.cells #[.map mb] 48) := by
  refine callsIn_of_wp Try.func23 rfl trivial ?_ rfl
  simp only [Try.ntmps23, List.size_toArray, List.length_cons, List.length_nil, Nat.reduceAdd, Nat.reduceSub, Array.replicate_succ, Array.replicate_zero, List.push_toArray, List.append_toArray, List.nil_append, List.cons_append]
  gi_wp2
  go_ret
  exact ⟨rfl, rfl⟩

/-- A block of cells stays where maps and iterators turn. -/
theorem ownFrom_cells {B g : Nat} {o : Obj} (p : Prop) (ho : o.isCells = true) : OwnFrom B (fun (_ : Unit) W => p ∧ W.heap[g]? = some o) := fun _ X Y row hs hg hr => ⟨hs.1, by
  refine (hg.block g (Array.getElem?_eq_some_iff.1 hs.2).1 (fun e' => ?_)).trans hs.2
  obtain ⟨_, o', ho', hc⟩ := hr g e'.symm
  rw [hs.2] at ho'
  cases ho'
  rw [ho] at hc
  cases hc⟩

set_option maxRecDepth 100000 in
set_option maxHeartbeats 4000000 in
/-- slices.AppendSeq(nil, keys). -/
theorem appendSeq_in (n : Nat) (hn : 3 ≤ n) (Bm b nn : Nat) (hnn : nn ≤ 1000000) (f : Lb → Nat) (D0 : DataW Unit) (w : World) (hBm : Bm < w.heap.size) (hm : w.cell? ⟨Bm, 0, none⟩ = some (.map (some b))) (hmap : MapIs w b nn f D0) :
    CallsIn Fence.wide n Try.prog 33 #[.slice none 0 0, .func (.func 30) #[] #[.pointer (some ⟨Bm, 0, none⟩)]] w fun e W' =>
      ∃ v ss, e = .returned v ∧ (KeysAre f ss ∧ ss.length ≤ nn) ∧ W'.ownsRow w.heap.size 25 2 v ss.length (lbCells ss) ∧ Below w.heap.size w W' := by
  have h1 : 1 ≤ n := by omega
  obtain ⟨i0, hi0, hz0, hz1, hz2⟩ := info_parts infoLab
  refine callsIn_of_wp_marks Try.func33 rfl trivial ?_ rfl
  simp only [Try.ntmps33, List.size_toArray, List.length_cons, List.length_nil, Nat.reduceAdd, Nat.reduceSub, Array.replicate_succ, Array.replicate_zero, List.push_toArray, List.append_toArray, List.nil_append, List.cons_append]
  obtain ⟨w', hw'⟩ : ∃ W : World, W = w.alloc (.cells #[.slice none 0 0] 35) := ⟨_, rfl⟩
  have hsz : w'.heap.size = w.heap.size + 1 := by rw [hw']; simp
  have hB0 : Below w.heap.size w w' := by rw [hw']; exact alloc1 _ _
  have k1 : w'.heap[w.heap.size]? = some (.cells #[.slice none 0 0] 35 (0, 0)) := by rw [hw']; exact heap_alloc_new w _
  have hm' := (hB0.cell (p := ⟨Bm, 0, none⟩) hBm).trans hm
  have hmap' := hmap.kept (grown_of hB0 none) (by simp)
  gi_wp2
  rw [← hw']
  clear hw'
  obtain ⟨b0, hb0⟩ : ∃ b, b = w.heap.size := ⟨_, rfl⟩
  rw [← hb0] at hsz hB0 k1 hBm ⊢
  have hbO : Boxed w' b0 35 (.slice none 0 0) := k1
  have HBE := Lib.hid hb0
  have hbw : b0 ≤ w.heap.size := by omega
  clear hb0
  refine wpIn_rangeFunc_ownH rfl h1 (gf := 30) (lb := #[.pointer (some ⟨Bm, 0, none⟩)]) rfl trivial (enters_of Try.func30 (by kernel_rfl) rfl)
    (keys_stops (n - 1) (by omega) Bm b nn f D0 w' (by omega) hm' hmap') KeepsWalks.trans (fun W l o o' _ ho _ hw => KeepsWalks.putObj o' ho hw) (Below.refl _ _) (fun _ => rfl)
    (fun (pre : List Lb) W => (∃ v, Boxed W b0 35 v ∧ W.ownsRow (b0 + 1) 25 2 v pre.length (lbCells pre) ∧ True) ∧ (Below b0 w W ∧ b0 + 1 ≤ W.heap.size))
    (fun _ _ _ => False)
    (OwnFrom.and (Own.from (holdsRow_own (b0 + 1) b0 35 25 2 (fun (pre : List Lb) => pre.length) (fun (pre : List Lb) => lbCells pre) (fun _ _ => True)) _) (OwnFrom.and (ownFrom_below hbw (by omega)) (fun _ _ _ _ hs hg _ => boxed_le hs hg)))
    (fun _ _ _ _ _ hs _ _ => hs)
    ⟨⟨_, hbO, World.ownsRow_nil _ _ _ _, trivial⟩, hB0, by omega⟩
    (fun (x : Lb) a' W => ∃ g, a' = { tmps := #[.slice none 0 0, .func (.func 30) #[] #[.pointer (some ⟨Bm, 0, none⟩)], .pointer (some ⟨b0, 0, none⟩), undef, .slice none 0 0, .pointer (some ⟨g, 0, none⟩), .func (.func 30) #[] #[.pointer (some ⟨Bm, 0, none⟩)], lbV x, undef, undef, undef, undef, undef], defers := [] } ∧ b0 + 1 ≤ g ∧ W.heap[g]? = some (.cells #[.int .i64 x.1, .int .u64 (x.2 : Int)] 25 (0, 0)))
    (fun x a' _ X Y row hs hg hr => by
      obtain ⟨g, h1, h2, h3⟩ := hs
      obtain ⟨⟨h4, h5⟩, h6⟩ := ownFrom_cells (g := g) (_ ∧ _) rfl () X Y row ⟨⟨h1, h2⟩, h3⟩ hg hr
      exact ⟨g, h4, h5, h6⟩)
    ?assign ?body ?done ?stop
  case assign =>
    rintro lp pre x W K ⟨⟨v, hv, hrow, -⟩, hB, hs4⟩ hK
    dsimp only at hK ⊢
    gi_wp2
    refine hK _ _ ((KeepsOthers.alloc W _).from _) (KeepsWalks.alloc W _) ⟨⟨v, hv.kept (World.grownBy_alloc W _ none) (by simp), hrow.alloc _, trivial⟩, hB.trans ((alloc1 _ _).mono (by omega)), by simp; omega⟩ ⟨W.heap.size, rfl, hs4, heap_alloc_new W _⟩
  case body =>
    rintro lp pre x a' W hlp ⟨r, hr⟩ ⟨⟨v, hv, hrow, -⟩, hB, hs4⟩ ⟨g, rfl, hg1, hg⟩ hlt
    have hc := hv.cell
    have hbs := hB.size
    obtain ⟨x1, x2⟩ := x
    simp only at hg ⊢
    have e0 := L.blk_cell hg 0
    have e1 := L.blk_cell hg 1
    simp only [List.getElem?_toArray, List.getElem?_cons_zero, List.getElem?_cons_succ] at e0 e1
    gi_wp2_with (gi_at_builtin; refine wpListIn_append_own _ rfl _ _ 35 rfl (b0 + 1) 25 i0 _ 2 16 Try.underlying35 hi0 hz0 hz1 hz2 rfl (by decide) _ _ _ rfl (hrow.alloc _) ⟨W.heap.size, 0, none⟩ 1 1 [.int .i64 x1, .int .u64 (x2 : Int)] rfl rfl (World.news_of_block (heap_alloc_new W _)) (by intro u hu; simp at hu; rcases hu with rfl | rfl <;> rfl) (by simp only [maxLen]; omega) (by omega) (by simp; omega) ?_; intro v' w1 hown' hgrow _; obtain ⟨g', cap', rfl⟩ := ownsRow_succ hown'; obtain ⟨hv1, hv2, hr2, hk2, hb2⟩ := V.appendedZ (n₀ := b0) (za := b0 + 1) (zb := b0 + 1) hv (by decide) hrow hs4 (Nat.le_refl _) (by omega) (by omega) (Nat.le_refl _) hown' hgrow; have hc1 := hv1.cell; have hf1 := hv1.frozen)
    have e6 : lbCells pre ++ [.int .i64 x1, .int .u64 (x2 : Int)] = lbCells (pre ++ [(x1, x2)]) := (lbCells_snoc pre (x1, x2)).symm
    have e7 : (pre ++ [(x1, x2)]).length = pre.length + 1 := by simp
    refine ⟨hk2.from _, hk2.walks, ⟨⟨_, hv2, ?_, trivial⟩, hB.trans hb2.1, Nat.le_trans hs4 hb2.1.size⟩⟩
    rw [← e6, e7]
    exact hr2
  case done =>
    rintro D ys W hD hK1 ⟨⟨v, hv, hrow, -⟩, hB, hs4⟩ hK
    have hc := hv.cell
    gi_wp2
    refine ⟨by simp, .inl ⟨_, _, rfl, run_takeDeferred hK, ?_⟩⟩
    refine ⟨_, results_tmp rfl _ _ _, v, ys, rfl, hK1, own_more (ownsRow_putObj hrow _ hK rfl) (by rw [← HBE.out]; omega), ?_⟩
    rw [← HBE.out]
    exact hB.trans (belowK_b (w := w') (by omega) W D _ _ (by omega) hK rfl rfl)
  case stop =>
    rintro D c pre W _ _ h _
    exact h.elim

set_option maxHeartbeats 1000000 in
/-- slices.Collect(keys). -/
theorem collect_in (n : Nat) (hn : 4 ≤ n) (Bm b nn : Nat) (hnn : nn ≤ 1000000) (f : Lb → Nat) (D0 : DataW Unit) (w : World) (hBm : Bm < w.heap.size) (hm : w.cell? ⟨Bm, 0, none⟩ = some (.map (some b))) (hmap : MapIs w b nn f D0) :
    CallsIn Fence.wide n Try.prog 28 #[.func (.func 30) #[] #[.pointer (some ⟨Bm, 0, none⟩)]] w fun e W' =>
      ∃ v ss, e = .returned v ∧ (KeysAre f ss ∧ ss.length ≤ nn) ∧ W'.ownsRow w.heap.size 25 2 v ss.length (lbCells ss) ∧ Below w.heap.size w W' := by
  have h1 : 1 ≤ n := by omega
  refine callsIn_of_wp Try.func28 rfl trivial ?_ rfl
  simp only [Try.ntmps28, List.size_toArray, List.length_cons, List.length_nil, Nat.reduceAdd, Nat.reduceSub, Array.replicate_succ, Array.replicate_zero, List.push_toArray, List.append_toArray, List.nil_append, List.cons_append]
  gi_wp2
  refine ⟨trivial, ?_⟩
  refine (appendSeq_in (n - 1) (by omega) Bm b nn hnn f D0 w hBm hm hmap).mono ?_
  rintro e w' ⟨v, ss, rfl, hS, hrow, hb⟩
  gi_wp2
  go_ret
  exact ⟨v, ss, rfl, hS, hrow, hb⟩
end Go.Proofs.Ytmddikabilnokaa.Ta

namespace Go.Proofs.Ytmddikabilnokaa.Ta
set_option linter.unusedVariables false
set_option linter.unusedSimpArgs false
open Go.RowKit Go.Sort Go.Shelf
open T
open I (It Lb alloc1 own_at own_below)
open V (drawn_below grown_of)

def encL (x : Lb) : List Value := [.int .i64 x.1, .int .u64 (x.2 : Int)]
theorem ltOf_ord (x y : Lb) : ltOf ord x y = decide (lt x y) := by
  unfold ltOf
  exact decide_eq_decide.2 ord_lt
theorem swo : SWO (ltOf ord) where
  irrefl x := by rw [ltOf_ord]; simp [lt_irr]
  trans x y z h1 h2 := by
    rw [ltOf_ord, decide_eq_true_eq] at *
    exact lt_trans h1 h2
  ntrans x y z h1 h2 := by
    rw [ltOf_ord, decide_eq_false_iff_not] at *
    unfold lt at *
    omega
theorem flat_at (d : Array Lb) (i : Nat) (h : i < d.size) : (flatK encL 2 d)[i * 2]! = .int .i64 d[i].1 ∧ (flatK encL 2 d)[i * 2 + 1]! = .int .u64 (d[i].2 : Int) := by
  rw [get_flatK _ _ _ _ (by omega), get_flatK _ _ _ _ (by omega), show i * 2 / 2 = i by omega, show i * 2 % 2 = 0 by omega, show (i * 2 + 1) / 2 = i by omega, show (i * 2 + 1) % 2 = 1 by omega, getElem!_pos d i h]
  exact ⟨rfl, rfl⟩
theorem holds_labs {w : World} {g : Nat} {d : Array Lb} (h : HoldsK encL 2 w g 0 d) : LabsAt w g 0 d.toList := fun j hj => by
  have hj' : j < d.size := by simpa using hj
  obtain ⟨e0, e1⟩ := flat_at d j hj'
  have c0 := (h (j * 2) (by rw [size_flatK]; omega)).1
  have c1 := (h (j * 2 + 1) (by rw [size_flatK]; omega)).1
  rw [e0] at c0
  rw [e1] at c1
  simp only [Nat.zero_add, Array.getElem_toList, id] at c0 c1 ⊢
  exact ⟨c0, c1⟩
theorem labs_holds {w : World} {g : Nat} {cs : Array Value} {ks : List Lb} (hx : w.heap[g]? = some (.cells cs 25 (0, 0))) (h : LabsAt w g 0 ks) : HoldsK encL 2 w g 0 ks.toArray := fun t ht => by
  rw [size_flatK] at ht
  simp only [List.size_toArray] at ht
  have hi : t / 2 < ks.length := by omega
  obtain ⟨e0, e1⟩ := flat_at ks.toArray (t / 2) (by simpa using hi)
  obtain ⟨c0, c1⟩ := h (t / 2) hi
  refine ⟨?_, by simp [World.frozen?, hx]⟩
  simp only [Nat.zero_add, id, List.getElem_toArray] at c0 c1 e0 e1 ⊢
  rcases Nat.mod_two_eq_zero_or_one t with hm | hm
  · rw [show t = t / 2 * 2 by omega, e0]
    exact c0
  · rw [show t = t / 2 * 2 + 1 by omega, e1]
    exact c1
theorem order_lays (blk off size : Nat) (w : World) : CmpLays Try.prog 13 #[] encL 2 ord blk off size w := fun _ _ _ _ x y => order_gw x y _
theorem sorted_pair {d : Array Lb} (h : SortedIn (ltOf ord) 0 d.size d) : d.toList.Pairwise fun a b => ¬ lt b a := by
  rw [List.pairwise_iff_getElem]
  intro i j hi hj hij
  have := h i j (Nat.zero_le _) hij (by simpa using hj)
  rw [ltOf_ord, decide_eq_false_iff_not, getElem!_pos d j (by simpa using hj), getElem!_pos d i (by simpa using hi)] at this
  simpa using this
theorem perm_all {d d' : Array Lb} (h : PermIn 0 d.size d d') : d'.toList.Perm d.toList := by
  have e := h.2.2
  have h1 := h.1
  rw [← h1, Array.extract_size, h1, Array.extract_size] at e
  exact e
set_option maxHeartbeats 1000000 in
theorem ins_none (A : Option Addr) (cap : Nat) (fv : Value) (w : World) :
    Calls Try.prog 36 #[.slice A 0 cap, .int .i64 0, .int .i64 0, fv] w fun e w' => e = .returned (.tuple #[]) ∧ w' = w := by
  go_enter Try.func36, Try.ntmps36
  go_wp2
  refine wp_loop_rounds 1 ?_
  rw [rounds_succ]
  go_wp2
  go_end0
  exact ⟨rfl, rfl⟩
set_option maxHeartbeats 1000000 in
theorem pdq_none (A : Option Addr) (cap : Nat) (lim : Int) (fv : Value) (w : World) :
    Calls Try.prog 34 #[.slice A 0 cap, .int .i64 0, .int .i64 0, .int .i64 lim, fv] w fun e w' => e = .returned (.tuple #[]) ∧ w' = w := by
  go_enter Try.func34, Try.ntmps34
  go_wp2
  refine wp_loop_rounds 1 ?_
  rw [rounds_succ]
  go_wp2_with (go_at_call 36; refine (ins_none _ _ _ _).mono ?_; rintro e w' ⟨rfl, rfl⟩)
  (try simp only [Exit.inBlock, Exit.then]); refine bodyPost_ret (results_none rfl _ _ _) rfl ?_
  exact ⟨rfl, rfl⟩
set_option maxHeartbeats 1000000 in
theorem sort_none (A : Option Addr) (cap : Nat) (fv : Value) (w : World) :
    Calls Try.prog 29 #[.slice A 0 cap, fv] w fun e w' => e = .returned (.tuple #[]) ∧ w' = w := by
  have hl : Calls Try.prog 35 #[.int .u64 0] w fun e w' => e = .returned (.int .i64 (0 : Nat)) ∧ w' = w := by
    have h := Any.bits_Len (SlLaysF0.n15.bits (P := Try.prog) (ρ := sortLab_ren) { sortLab with }) (0 : Int) w (by omega) (by omega)
    exact h
  go_enter Try.func29, Try.ntmps29
  go_wp2_with (first | (go_at_call 35; refine hl.mono ?_; rintro e w' ⟨rfl, rfl⟩) | (go_at_call 34; refine (pdq_none _ _ _ _ _).mono ?_; rintro e w' ⟨rfl, rfl⟩))
  go_end0
  exact ⟨rfl, rfl⟩
set_option maxHeartbeats 1000000 in
/-- slices.SortFunc(keys, tally.Order). -/
theorem sort_any {w : World} {base : Nat} {v : Value} {ks : List Lb} (hrow : w.ownsRow base 25 2 v ks.length (lbCells ks)) (hlen : ks.length ≤ 1000000) :
    Calls Try.prog 29 #[v, .func (.func 13) #[] #[]] w fun e w' => e = .returned (.tuple #[]) ∧
      ∃ A cap ks', v = .slice A ks.length cap ∧ ks'.Perm ks ∧ ks'.Pairwise (fun a b => ¬ lt b a) ∧ LabsIn w' A ks' ∧ Below base w w' := by
  have eg : ∀ args w, (callFunc 13 args).run Try.prog w = .ok (.enter 13 args) w := enters_of Try.func13 (by kernel_rfl) rfl
  by_cases h0 : ks.length = 0
  · obtain rfl : ks = [] := List.length_eq_zero_iff.1 h0
    obtain ⟨A, cap, rfl⟩ : ∃ A cap, v = .slice A 0 cap := by
      rcases hrow.2 with ⟨rfl, _⟩ | ⟨g, cap, cur, rfl, _⟩
      · exact ⟨_, _, rfl⟩
      · exact ⟨_, _, rfl⟩
    refine Calls.mono (sort_none A cap (.func (.func 13) #[] #[]) w) ?_
    rintro e w' ⟨rfl, rfl⟩
    exact ⟨rfl, A, cap, [], rfl, List.Perm.refl _, List.Pairwise.nil, fun h => absurd h (by simp), Below.refl _ _⟩
  · obtain ⟨g, cap, cur, rfl, hbg, hgb, rest⟩ : ∃ g cap cur, v = .slice (some ⟨g, 0, none⟩) ks.length cap ∧ base ≤ g ∧ w.heap[g]? = some (.cells cur 25 (0, 0)) ∧ True := by
      rcases hrow.2 with ⟨_, hz⟩ | ⟨g, cap, cur, h1, h2, h3, _⟩
      · exact absurd hz h0
      · exact ⟨g, cap, cur, h1, h2, h3, trivial⟩
    obtain ⟨bk, off, hA, hbk, hL⟩ := labs_own hrow (by omega)
    cases hA
    have hH : HoldsK encL 2 w g 0 ks.toArray := labs_holds hgb hL
    have hcon := AnyQ.slices_SortFunc (P := Try.prog) (ρ := sortLab_ren) sortLab 2 Try.isAgg25 Try.sizeOf25 encL (fun _ => rfl) (fun x v hv => by simp [encL] at hv; rcases hv with rfl | rfl <;> rfl) ord swo 13 #[] g 0 cap ks.toArray w eg (order_lays g 0 _ w) hH hbk (by simp only [List.size_toArray]; omega)
    refine Calls.mono hcon ?_
    rintro e w' ⟨rfl, d', n, os, hp, hs, hw⟩
    refine ⟨rfl, _, cap, d'.toList, rfl, perm_all hp, ?_, fun _ => ⟨g, 0, rfl, ?_, ?_⟩, ?_⟩
    · have := hp.1
      refine sorted_pair ?_
      rw [this]
      exact hs
    · rw [hw]
      simp [sortWorldK, putRowK, Sort.ahead]
      omega
    · rw [hw]
      exact holds_labs (holdsK_sortWorldK_c encL 2 w g 0 ks.toArray d' n os hH hbk hp.1)
    · rw [hw]
      unfold sortWorldK putRowK
      have h1 : Below base w (putRow id (Sort.ahead w n) g 0 (flatK encL 2 d')) := Lib.below_putRow (Below.refl _ _) hbg
      exact h1.trans ((T.below_grow _ 0 os).mono (by simp [Sort.ahead]; omega))
end Go.Proofs.Ytmddikabilnokaa.Ta

namespace Go.Proofs.Ytmddikabilnokaa.Ta
set_option linter.unusedVariables false
set_option linter.unusedSimpArgs false
open Go.RowKit Go.Maps Go.Sort
open T
open I (It Lb alloc1 own_at own_below)
open V (grown_of drawn_below)

/-- What slices.SortedFunc comes to. -/
def SfEnd (f : Lb → Nat) (nn : Nat) (w : World) (e : Ending) (w' : World) : Prop := ∃ A cap ks ss, e = .returned (.slice A ks.length cap) ∧ KeysAre f ss ∧ ss.length ≤ nn ∧ ks.Perm ss ∧ ks.Pairwise (fun a b => ¬ lt b a) ∧ LabsIn w' A ks ∧ Below w.heap.size w w'
set_option maxRecDepth 100000 in
set_option maxHeartbeats 2000000 in
theorem sortedF_any {w : World} {Bm b nn : Nat} (hnn : nn ≤ 1000000) {f : Lb → Nat} {D0 : DataW Unit} (hBm : Bm < w.heap.size) (hm : w.cell? ⟨Bm, 0, none⟩ = some (.map (some b))) (hmap : MapIs w b nn f D0) :
    Calls Try.prog 22 #[.func (.func 30) #[] #[.pointer (some ⟨Bm, 0, none⟩)], .func (.func 13) #[] #[]] w (SfEnd f nn w) := by
  have hc := callsIn_wide.1 (collect_in 4 (by omega) Bm b nn hnn f D0 w hBm hm hmap)
  clear hm hmap
  go_enter Try.func22, Try.ntmps22
  go_wp2_with fail
  refine hc.mono ?_
  rintro e w2 ⟨v, ss, rfl, ⟨hk, hlen⟩, hrow, hb⟩
  have HSO := Lib.hid (sort_any hrow (by omega))
  have HB := Lib.hid hb
  have HK := Lib.hid hk
  clear hc hrow hb hk
  go_wp2_with fail
  refine HSO.out.mono ?_
  rintro e w3 ⟨rfl, A, cap, ks, rfl, hp, hs, hl, hb2⟩
  go_wp2_with fail
  go_ret
  exact ⟨A, cap, ks, ss, by rw [hp.length_eq]; rfl, HK.out, hlen, hp, hs, hl, HB.out.trans hb2⟩
theorem keys_ks {l : List Lb} {ss ks : List Lb} (hok : ∀ x ∈ l, Wl x) (h : KeysAre (fun a => l.count a) ss) (hp : ks.Perm ss) (hs : ks.Pairwise fun a b => ¬ lt b a) : Ks l ks :=
  Ks.sorted h.1 (fun a => by
    by_cases ha : Wl a
    · rw [h.2.2 a ha]
      simp [List.count_eq_zero]
    · exact ⟨fun q => absurd (h.2.1 a q) ha, fun q => absurd (hok a q) ha⟩) hp hs
end Go.Proofs.Ytmddikabilnokaa.Ta

namespace Go.Proofs.Ytmddikabilnokaa.Ta
set_option linter.unusedVariables false
set_option linter.unusedSimpArgs false
open Go.RowKit Go.Maps Go.MapKept Go.WideShapes Go.ChangeMaps
open T
open I (It Lb alloc1)

theorem lbKL : WideMaps.KeyLaw Try.prog 25 := deep_law_laid (m := 2) (by kernel_rfl) (by omega) (of_decide_eq_true (by kernel_rfl)) (by kernel_rfl) (by kernel_rfl)
theorem MapIs.same {w w' : World} {mb n : Nat} {f : Lb → Nat} {D : DataW Unit} (h : MapIs w mb n f D) (e : w'.heap[mb]? = w.heap[mb]?) : MapIs w' mb n f D := by
  obtain ⟨⟨es, clock, hb, F, hs, hD⟩, h2, h3⟩ := h
  exact ⟨⟨es, clock, e.trans hb, F, hs, hD⟩, h2, h3⟩
set_option maxRecDepth 100000 in
theorem map_entry {w : World} {mb n : Nat} {f : Lb → Nat} {D : DataW Unit} (h : MapIs w mb n f D) {x : Lb} (hx : Wl x) (hn : n < maxLen) :
    ∃ (v0 : Value) (st : Nat) (es1 : Array MapEntry) (clock1 : Nat),
      (Instr.mapEntry 48 (.map (some mb)) (lbV x)).run Try.prog w = .ok (.tuple #[v0, goInt st]) (setBlock w mb (.map es1 clock1)) ∧
      (∀ w1 : World, w1.heap[mb]? = some (.map es1 clock1) → (Instr.lookup 48 (.map (some mb)) (lbV x) false).run Try.prog w1 = .ok (.int .i64 (f x : Int)) w1) ∧
      ∀ (w2 : World) (c : Nat), w2.heap[mb]? = some (.map es1 clock1) → c ≠ 0 → (Lit.int .i64 (c : Int)).wf = true → ∃ es' clock', (Instr.entryStore 48 (.map (some mb)) (goInt st) (.int .i64 (c : Int))).run Try.prog w2 = .ok () (setBlock w2 mb (.map es' clock')) ∧
        ∀ w3 : World, w3.heap[mb]? = some (.map es' clock') → MapIs w3 mb (n + 1) (upd f x c) (D.put (lk x) (.lit (.int .i64 (c : Int)))) := by
  have ht := Try.underlying48
  have hkey := lbKey hx
  have hlook := h.look ht hx
  obtain ⟨h1, h2, h3⟩ := h
  obtain ⟨es, clock, hb, F, hs, hD⟩ := id h1
  obtain ⟨v0, st, es1, clock1, hrun, hval, hst⟩ := WideElems.entry_then_store lbKL ht zeroIn hb F hkey
  refine ⟨v0, st, es1, clock1, hrun, fun w1 hw1 => ?_, fun w2 c hw2 hc hwf => ?_⟩
  · have hE : ∀ v0' st' es1' clock1', (Instr.mapEntry 48 (.map (some mb)) (lbV x)).run Try.prog w = .ok (.tuple #[v0', goInt st']) (setBlock w mb (.map es1' clock1')) → es1' = es1 ∧ clock1' = clock1 := fun v0' st' es1' clock1' q => by
      rw [hrun] at q
      have e := congrArg (fun r : Result _ => match r with | .ok _ W => W.heap[mb]? | _ => none) q
      simp only at e
      rw [heap_setBlock_same hb, heap_setBlock_same hb] at e
      cases e
      exact ⟨rfl, rfl⟩
    rcases lbKL.find w hkey es.toList F.keys with ⟨f1, f2⟩ | ⟨j, e0, f1, f2, f3⟩
    · obtain ⟨rfl, rfl⟩ := hE (.int .i64 0) clock (es.push ⟨lbV x, .int .i64 0, clock⟩) (clock + 1) (by
        simp [Instr.mapEntry, run_underlying ht, MapKept.run_getObj_map hb, lbKL.check w false hkey, f1, zeroIn, MapKept.run_setObj_map _ hb, Result.andThen, setBlock])
      have hup : (Instr.mapUpdate 48 (.map (some mb)) (lbV x) (.int .i64 0)).run Try.prog w = .ok () (setBlock w mb (.map (es.push ⟨lbV x, .int .i64 0, clock⟩) (clock + 1))) := by
        simp [Instr.mapUpdate, run_underlying ht, MapKept.run_getObj_map hb, lbKL.check w false hkey, f1, MapKept.run_setObj_map _ hb, Result.andThen, setBlock]
      obtain ⟨w', hr', ho', _⟩ := h1.update lbLaw ht hn (val := .int .i64 0) hkey (plainElem_int Try.underlying3 (by decide))
      rw [hup] at hr'
      cases hr'
      have hown : w1.ownsMap Try.prog 25 (plainElem Try.prog 3) mb (n + 1) (D.put (lk x) (.lit (.int .i64 0))) := by
        obtain ⟨es2, clock2, hb2, F2, hs2, hD2⟩ := ho'
        rw [heap_setBlock_same hb] at hb2
        cases hb2
        exact ⟨_, _, hw1, F2, hs2, hD2⟩
      obtain ⟨c, hrun1, hat, _⟩ := hown.lookup_int lbLaw ht Try.underlying3 (zeroIn w1) hkey
      rw [atKey_put_same (k := lk x) h2 trivial] at hat
      have ec : c = 0 := by simpa using hat.symm
      have e0 : (Instr.lookup 48 (.map (some mb)) (lbV x) false).run Try.prog w = .ok (.int .i64 0) w := by
        simp [Instr.lookup, run_underlying ht, MapKept.run_getObj_map hb, lbKL.check w es.isEmpty hkey, f1, zeroIn, Result.andThen]
      rw [hlook] at e0
      have ef : (f x : Int) = 0 := by simpa using e0
      rw [ef, ← ec]
      exact hrun1
    · have hj : es[j]? = some e0 := by simpa using f2
      have hsame : es.modify j (fun e => { e with key := lbV x }) = es := by
        apply Array.ext'
        rw [Array.toList_modify, modify_eq_set _ _ _ _ f2]
        have : ({ e0 with key := lbV x } : MapEntry) = e0 := by rw [← f3]
        rw [this]
        exact WideElems.set_self _ _ _ f2
      obtain ⟨rfl, rfl⟩ := hE e0.val e0.born es clock (by
        simp [Instr.mapEntry, run_underlying ht, MapKept.run_getObj_map hb, lbKL.check w false hkey, f1, hj, f3, lbKL.stays w hkey, hsame, MapKept.run_setObj_map _ hb, Result.andThen, setBlock])
      exact (show MapIs w1 mb n f D from ⟨⟨es, clock, hw1, F, hs, hD⟩, h2, h3⟩).look ht hx
  · obtain ⟨es', clock', hr, hu⟩ := hst w2 (.int .i64 (c : Int)) hw2
    refine ⟨es', clock', hr, fun w3 hw3 => ?_⟩
    obtain ⟨w', hr', ho', _⟩ := h1.update lbLaw ht hn (val := .int .i64 (c : Int)) hkey (plainElem_int Try.underlying3 hwf)
    rw [hu] at hr'
    cases hr'
    have hown : w3.ownsMap Try.prog 25 (plainElem Try.prog 3) mb (n + 1) (D.put (lk x) (.lit (.int .i64 (c : Int)))) := by
      obtain ⟨es2, clock2, hb2, F2, hs2, hD2⟩ := ho'
      rw [heap_setBlock_same hb] at hb2
      cases hb2
      exact ⟨_, _, hw3, F2, hs2, hD2⟩
    exact MapIs.put h2 h3 hx hc hown
end Go.Proofs.Ytmddikabilnokaa.Ta
