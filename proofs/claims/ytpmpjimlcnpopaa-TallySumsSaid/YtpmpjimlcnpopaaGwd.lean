/-
  All keys of a map of labels, in a row.
  Labels sorted by the library.
  The labels of a map, sorted.
  One more at a label: the entry and its store.
  How many lines all labels have: the map of them all.
-/
import Derived.Test.YtpmpjimlcnpopaaGwc
import Derived.Test.YtpmpjimlcnpopaaGwb
import Derived.Lib.OwnBridge
namespace Go.Proofs.Ytpmpjimlcnpopaa.Ta
set_option linter.unusedVariables false
set_option linter.unusedSimpArgs false
open Go.RowKit Go.Shelf Go.Maps
open T
open I (It Lb alloc1 own_at own_below)
open V (grown_of drawn_below boxed_le)
attribute [local go_sem] Oper.semAt_some

set_option maxHeartbeats 1000000 in
/-- What the iterator's closure does is what is asked of one. -/
theorem keys_stops (n : Nat) (hn : 1 ≤ n) (Bm b nn : Nat) (f : Lb → Nat) (D0 : DataW Unit) (w : World) (hBm : Bm < w.heap.size) (hm : w.cell? ⟨Bm, 0, none⟩ = some (.map (some b))) (hmap : MapIs w b nn f D0) :
    SeqStopsK Fence.wide n Try.prog 30 #[.pointer (some ⟨Bm, 0, none⟩)] (fun x : Lb => #[lbV x]) KeepsWalks (fun ss => KeysAre f ss ∧ ss.length ≤ nn) (fun _ => True) nn w := fun lp J Jx W hW hJ _ hY h0 =>
  keys1_in n hn lp Bm b nn f D0 J Jx hY W hJ ((hW.cell (p := ⟨Bm, 0, none⟩) hBm).trans hm) (hmap.kept (grown_of hW none) (by simp)) h0

set_option maxHeartbeats 1000000 in
theorem keys_in (n : Nat) (mb : Option Nat) (w : World) :
    CallsIn Fence.wide n Try.prog 23 #[.map mb] w fun e w' => e = .returned (.func (.func 30) #[] #[.pointer (some ⟨w.heap.size, 0, none⟩)]) ∧
      w' = w.alloc (.cells #[.map mb] 48) := by
  refine callsIn_of_wp Try.func23 rfl trivial ?_ rfl
  simp only [Try.ntmps23, List.size_toArray, List.length_cons, List.length_nil, Nat.reduceAdd, Nat.reduceSub, Array.replicate_succ, Array.replicate_zero, List.push_toArray, List.append_toArray, List.nil_append, List.cons_append]
  gi_wp2
  go_ret
  exact ⟨rfl, rfl⟩

/-- A block of cells stays where maps and iterators turn. -/
theorem ownFrom_cells {B g : Nat} {o : Obj} (p : Prop) (ho : o.isCells = true) : OwnFrom B (fun (_ : Unit) W => p ∧ W.heap[g]? = some o) := fun _ X Y row hs hg hr => ⟨hs.1, by
  refine (hg.block g (Array.getElem?_eq_some_iff.1 hs.2).1 (fun e' => ?_)).trans hs.2
  obtain ⟨_, o', ho', hc⟩ := hr g e'.symm
  rw [hs.2] at ho'
  cases ho'
  rw [ho] at hc
  cases hc⟩

set_option maxRecDepth 100000 in
set_option maxHeartbeats 4000000 in
/-- slices.AppendSeq(nil, keys). -/
theorem appendSeq_in (n : Nat) (hn : 3 ≤ n) (Bm b nn : Nat) (hnn : nn ≤ 1000000) (f : Lb → Nat) (D0 : DataW Unit) (w : World) (hBm : Bm < w.heap.size) (hm : w.cell? ⟨Bm, 0, none⟩ = some (.map (some b))) (hmap : MapIs w b nn f D0) :
    CallsIn Fence.wide n Try.prog 33 #[.slice none 0 0, .func (.func 30) #[] #[.pointer (some ⟨Bm, 0, none⟩)]] w fun e W' =>
      ∃ v ss, e = .returned v ∧ (KeysAre f ss ∧ ss.length ≤ nn) ∧ W'.ownsRow w.heap.size 25 2 v ss.length (lbCells ss) ∧ Below w.heap.size w W' := by
  have h1 : 1 ≤ n := by omega
  obtain ⟨i0, hi0, hz0, hz1, hz2⟩ := info_parts infoLab
  refine callsIn_of_wp_marks Try.func33 rfl trivial ?_ rfl
  simp only [Try.ntmps33, List.size_toArray, List.length_cons, List.length_nil, Nat.reduceAdd, Nat.reduceSub, Array.replicate_succ, Array.replicate_zero, List.push_toArray, List.append_toArray, List.nil_append, List.cons_append]
  obtain ⟨w', hw'⟩ : ∃ W : World, W = w.alloc (.cells #[.slice none 0 0] 35) := ⟨_, rfl⟩
  have hsz : w'.heap.size = w.heap.size + 1 := by rw [hw']; simp
  have hB0 : Below w.heap.size w w' := by rw [hw']; exact alloc1 _ _
  have k1 : w'.heap[w.heap.size]? = some (.cells #[.slice none 0 0] 35 (0, 0)) := by rw [hw']; exact heap_alloc_new w _
  have hm' := (hB0.cell (p := ⟨Bm, 0, none⟩) hBm).trans hm
  have hmap' := hmap.kept (grown_of hB0 none) (by simp)
  gi_wp2
  rw [← hw']
  clear hw'
  obtain ⟨b0, hb0⟩ : ∃ b, b = w.heap.size := ⟨_, rfl⟩
  rw [← hb0] at hsz hB0 k1 hBm ⊢
  have hbO : Boxed w' b0 35 (.slice none 0 0) := k1
  have HBE := Lib.hid hb0
  have hbw : b0 ≤ w.heap.size := by omega
  clear hb0
  refine wpIn_rangeFunc_ownH rfl h1 (gf := 30) (lb := #[.pointer (some ⟨Bm, 0, none⟩)]) rfl trivial (enters_of Try.func30 (by kernel_rfl) rfl)
    (keys_stops (n - 1) (by omega) Bm b nn f D0 w' (by omega) hm' hmap') KeepsWalks.trans (fun W l o o' _ ho _ hw => KeepsWalks.putObj o' ho hw) (Below.refl _ _) (fun _ => rfl)
    (fun (pre : List Lb) W => (∃ v, Boxed W b0 35 v ∧ W.ownsRow (b0 + 1) 25 2 v pre.length (lbCells pre) ∧ True) ∧ (Below b0 w W ∧ b0 + 1 ≤ W.heap.size))
    (fun _ _ _ => False)
    (OwnFrom.and (Own.from (holdsRow_own (b0 + 1) b0 35 25 2 (fun (pre : List Lb) => pre.length) (fun (pre : List Lb) => lbCells pre) (fun _ _ => True)) _) (OwnFrom.and (ownFrom_below hbw (by omega)) (fun _ _ _ _ hs hg _ => boxed_le hs hg)))
    (fun _ _ _ _ _ hs _ _ => hs)
    ⟨⟨_, hbO, World.ownsRow_nil _ _ _ _, trivial⟩, hB0, by omega⟩
    (fun (x : Lb) a' W => ∃ g, a' = { tmps := #[.slice none 0 0, .func (.func 30) #[] #[.pointer (some ⟨Bm, 0, none⟩)], .pointer (some ⟨b0, 0, none⟩), undef, .slice none 0 0, .pointer (some ⟨g, 0, none⟩), .func (.func 30) #[] #[.pointer (some ⟨Bm, 0, none⟩)], lbV x, undef, undef, undef, undef, undef], defers := [] } ∧ b0 + 1 ≤ g ∧ W.heap[g]? = some (.cells #[.int .i64 x.1, .int .u64 (x.2 : Int)] 25 (0, 0)))
    (fun x a' _ X Y row hs hg hr => by
      obtain ⟨g, h1, h2, h3⟩ := hs
      obtain ⟨⟨h4, h5⟩, h6⟩ := ownFrom_cells (g := g) (_ ∧ _) rfl () X Y row ⟨⟨h1, h2⟩, h3⟩ hg hr
      exact ⟨g, h4, h5, h6⟩)
    ?assign ?body ?done ?stop
  case assign =>
    rintro lp pre x W K ⟨⟨v, hv, hrow, -⟩, hB, hs4⟩ hK
    dsimp only at hK ⊢
    gi_wp2
    refine hK _ _ ((KeepsOthers.alloc W _).from _) (KeepsWalks.alloc W _) ⟨⟨v, hv.kept (World.grownBy_alloc W _ none) (by simp), hrow.alloc _, trivial⟩, hB.trans ((alloc1 _ _).mono (by omega)), by simp; omega⟩ ⟨W.heap.size, rfl, hs4, heap_alloc_new W _⟩
  case body =>
    rintro lp pre x a' W hlp ⟨r, hr⟩ ⟨⟨v, hv, hrow, -⟩, hB, hs4⟩ ⟨g, rfl, hg1, hg⟩ hlt
    have hc := hv.cell
    have hbs := hB.size
    obtain ⟨x1, x2⟩ := x
    simp only at hg ⊢
    have e0 := L.blk_cell hg 0
    have e1 := L.blk_cell hg 1
    simp only [List.getElem?_toArray, List.getElem?_cons_zero, List.getElem?_cons_succ] at e0 e1
    gi_wp2_with (gi_at_builtin; refine wpListIn_append_own _ rfl _ _ 35 rfl (b0 + 1) 25 i0 _ 2 16 Try.underlying35 hi0 hz0 hz1 hz2 rfl (by decide) _ _ _ rfl (hrow.alloc _) ⟨W.heap.size, 0, none⟩ 1 1 [.int .i64 x1, .int .u64 (x2 : Int)] rfl rfl (World.news_of_block (heap_alloc_new W _)) (by intro u hu; simp at hu; rcases hu with rfl | rfl <;> rfl) (by simp only [maxLen]; omega) (by omega) (by simp; omega) ?_; intro v' w1 hown' hgrow _; obtain ⟨g', cap', rfl⟩ := ownsRow_succ hown'; obtain ⟨hv1, hv2, hr2, hk2, hb2⟩ := V.appendedZ (n₀ := b0) (za := b0 + 1) (zb := b0 + 1) hv (by decide) hrow hs4 (Nat.le_refl _) (by omega) (by omega) (Nat.le_refl _) hown' hgrow; have hc1 := hv1.cell; have hf1 := hv1.frozen)
    have e6 : lbCells pre ++ [.int .i64 x1, .int .u64 (x2 : Int)] = lbCells (pre ++ [(x1, x2)]) := (lbCells_snoc pre (x1, x2)).symm
    have e7 : (pre ++ [(x1, x2)]).length = pre.length + 1 := by simp
    refine ⟨hk2.from _, hk2.walks, ⟨⟨_, hv2, ?_, trivial⟩, hB.trans hb2.1, Nat.le_trans hs4 hb2.1.size⟩⟩
    rw [← e6, e7]
    exact hr2
  case done =>
    rintro D ys W hD hK1 ⟨⟨v, hv, hrow, -⟩, hB, hs4⟩ hK
    have hc := hv.cell
    gi_wp2
    refine ⟨by simp, .inl ⟨_, _, rfl, run_takeDeferred hK, ?_⟩⟩
    refine ⟨_, results_tmp rfl _ _ _, v, ys, rfl, hK1, own_more (ownsRow_putObj hrow _ hK rfl) (by rw [← HBE.out]; omega), ?_⟩
    rw [← HBE.out]
    exact hB.trans (belowK_b (w := w') (by omega) W D _ _ (by omega) hK rfl rfl)
  case stop =>
    rintro D c pre W _ _ h _
    exact h.elim

set_option maxHeartbeats 1000000 in
/-- slices.Collect(keys). -/
theorem collect_in (n : Nat) (hn : 4 ≤ n) (Bm b nn : Nat) (hnn : nn ≤ 1000000) (f : Lb → Nat) (D0 : DataW Unit) (w : World) (hBm : Bm < w.heap.size) (hm : w.cell? ⟨Bm, 0, none⟩ = some (.map (some b))) (hmap : MapIs w b nn f D0) :
    CallsIn Fence.wide n Try.prog 28 #[.func (.func 30) #[] #[.pointer (some ⟨Bm, 0, none⟩)]] w fun e W' =>
      ∃ v ss, e = .returned v ∧ (KeysAre f ss ∧ ss.length ≤ nn) ∧ W'.ownsRow w.heap.size 25 2 v ss.length (lbCells ss) ∧ Below w.heap.size w W' := by
  have h1 : 1 ≤ n := by omega
  refine callsIn_of_wp Try.func28 rfl trivial ?_ rfl
  simp only [Try.ntmps28, List.size_toArray, List.length_cons, List.length_nil, Nat.reduceAdd, Nat.reduceSub, Array.replicate_succ, Array.replicate_zero, List.push_toArray, List.append_toArray, List.nil_append, List.cons_append]
  gi_wp2
  refine ⟨trivial, ?_⟩
  refine (appendSeq_in (n - 1) (by omega) Bm b nn hnn f D0 w hBm hm hmap).mono ?_
  rintro e w' ⟨v, ss, rfl, hS, hrow, hb⟩
  gi_wp2
  go_ret
  exact ⟨v, ss, rfl, hS, hrow, hb⟩
end Go.Proofs.Ytpmpjimlcnpopaa.Ta

namespace Go.Proofs.Ytpmpjimlcnpopaa.Ta
set_option linter.unusedVariables false
set_option linter.unusedSimpArgs false
open Go.RowKit Go.Sort Go.Shelf
open T
open I (It Lb alloc1 own_at own_below)
open V (drawn_below grown_of)

def encL (x : Lb) : List Value := [.int .i64 x.1, .int .u64 (x.2 : Int)]
theorem ltOf_ord (x y : Lb) : ltOf ord x y = decide (lt x y) := by
  unfold ltOf
  exact decide_eq_decide.2 ord_lt
theorem swo : SWO (ltOf ord) where
  irrefl x := by rw [ltOf_ord]; simp [lt_irr]
  trans x y z h1 h2 := by
    rw [ltOf_ord, decide_eq_true_eq] at *
    exact lt_trans h1 h2
  ntrans x y z h1 h2 := by
    rw [ltOf_ord, decide_eq_false_iff_not] at *
    unfold lt at *
    omega
theorem flat_at (d : Array Lb) (i : Nat) (h : i < d.size) : (flatK encL 2 d)[i * 2]! = .int .i64 d[i].1 ∧ (flatK encL 2 d)[i * 2 + 1]! = .int .u64 (d[i].2 : Int) := by
  rw [get_flatK _ _ _ _ (by omega), get_flatK _ _ _ _ (by omega), show i * 2 / 2 = i by omega, show i * 2 % 2 = 0 by omega, show (i * 2 + 1) / 2 = i by omega, show (i * 2 + 1) % 2 = 1 by omega, getElem!_pos d i h]
  exact ⟨rfl, rfl⟩
theorem holds_labs {w : World} {g : Nat} {d : Array Lb} (h : HoldsK encL 2 w g 0 d) : LabsAt w g 0 d.toList := fun j hj => by
  have hj' : j < d.size := by simpa using hj
  obtain ⟨e0, e1⟩ := flat_at d j hj'
  have c0 := (h (j * 2) (by rw [size_flatK]; omega)).1
  have c1 := (h (j * 2 + 1) (by rw [size_flatK]; omega)).1
  rw [e0] at c0
  rw [e1] at c1
  simp only [Nat.zero_add, Array.getElem_toList, id] at c0 c1 ⊢
  exact ⟨c0, c1⟩
theorem labs_holds {w : World} {g : Nat} {cs : Array Value} {ks : List Lb} (hx : w.heap[g]? = some (.cells cs 25 (0, 0))) (h : LabsAt w g 0 ks) : HoldsK encL 2 w g 0 ks.toArray := fun t ht => by
  rw [size_flatK] at ht
  simp only [List.size_toArray] at ht
  have hi : t / 2 < ks.length := by omega
  obtain ⟨e0, e1⟩ := flat_at ks.toArray (t / 2) (by simpa using hi)
  obtain ⟨c0, c1⟩ := h (t / 2) hi
  refine ⟨?_, by simp [World.frozen?, hx]⟩
  simp only [Nat.zero_add, id, List.getElem_toArray] at c0 c1 e0 e1 ⊢
  rcases Nat.mod_two_eq_zero_or_one t with hm | hm
  · rw [show t = t / 2 * 2 by omega, e0]
    exact c0
  · rw [show t = t / 2 * 2 + 1 by omega, e1]
    exact c1
theorem order_lays (blk off size : Nat) (w : World) : CmpLays Try.prog 13 #[] encL 2 ord blk off size w := fun _ _ _ _ x y => order_gw x y _
theorem sorted_pair {d : Array Lb} (h : SortedIn (ltOf ord) 0 d.size d) : d.toList.Pairwise fun a b => ¬ lt b a := by
  rw [List.pairwise_iff_getElem]
  intro i j hi hj hij
  have := h i j (Nat.zero_le _) hij (by simpa using hj)
  rw [ltOf_ord, decide_eq_false_iff_not, getElem!_pos d j (by simpa using hj), getElem!_pos d i (by simpa using hi)] at this
  simpa using this
theorem perm_all {d d' : Array Lb} (h : PermIn 0 d.size d d') : d'.toList.Perm d.toList := by
  have e := h.2.2
  have h1 := h.1
  rw [← h1, Array.extract_size, h1, Array.extract_size] at e
  exact e
set_option maxHeartbeats 1000000 in
theorem ins_none (A : Option Addr) (cap : Nat) (fv : Value) (w : World) :
    Calls Try.prog 36 #[.slice A 0 cap, .int .i64 0, .int .i64 0, fv] w fun e w' => e = .returned (.tuple #[]) ∧ w' = w := by
  go_enter Try.func36, Try.ntmps36
  go_wp2
  refine wp_loop_rounds 1 ?_
  rw [rounds_succ]
  go_wp2
  go_end0
  exact ⟨rfl, rfl⟩
set_option maxHeartbeats 1000000 in
theorem pdq_none (A : Option Addr) (cap : Nat) (lim : Int) (fv : Value) (w : World) :
    Calls Try.prog 34 #[.slice A 0 cap, .int .i64 0, .int .i64 0, .int .i64 lim, fv] w fun e w' => e = .returned (.tuple #[]) ∧ w' = w := by
  go_enter Try.func34, Try.ntmps34
  go_wp2
  refine wp_loop_rounds 1 ?_
  rw [rounds_succ]
  go_wp2_with (go_at_call 36; refine (ins_none _ _ _ _).mono ?_; rintro e w' ⟨rfl, rfl⟩)
  (try simp only [Exit.inBlock, Exit.then]); refine bodyPost_ret (results_none rfl _ _ _) rfl ?_
  exact ⟨rfl, rfl⟩
set_option maxHeartbeats 1000000 in
theorem sort_none (A : Option Addr) (cap : Nat) (fv : Value) (w : World) :
    Calls Try.prog 29 #[.slice A 0 cap, fv] w fun e w' => e = .returned (.tuple #[]) ∧ w' = w := by
  have hl : Calls Try.prog 35 #[.int .u64 0] w fun e w' => e = .returned (.int .i64 (0 : Nat)) ∧ w' = w := by
    have h := Any.bits_Len (SlLaysF0.n15.bits (P := Try.prog) (ρ := sortLab_ren) { sortLab with }) (0 : Int) w (by omega) (by omega)
    exact h
  go_enter Try.func29, Try.ntmps29
  go_wp2_with (first | (go_at_call 35; refine hl.mono ?_; rintro e w' ⟨rfl, rfl⟩) | (go_at_call 34; refine (pdq_none _ _ _ _ _).mono ?_; rintro e w' ⟨rfl, rfl⟩))
  go_end0
  exact ⟨rfl, rfl⟩
set_option maxHeartbeats 1000000 in
/-- slices.SortFunc(keys, tally.Order). -/
theorem sort_any {w : World} {base : Nat} {v : Value} {ks : List Lb} (hrow : w.ownsRow base 25 2 v ks.length (lbCells ks)) (hlen : ks.length ≤ 1000000) :
    Calls Try.prog 29 #[v, .func (.func 13) #[] #[]] w fun e w' => e = .returned (.tuple #[]) ∧
      ∃ A cap ks', v = .slice A ks.length cap ∧ ks'.Perm ks ∧ ks'.Pairwise (fun a b => ¬ lt b a) ∧ LabsIn w' A ks' ∧ Below base w w' := by
  have eg : ∀ args w, (callFunc 13 args).run Try.prog w = .ok (.enter 13 args) w := enters_of Try.func13 (by kernel_rfl) rfl
  by_cases h0 : ks.length = 0
  · obtain rfl : ks = [] := List.length_eq_zero_iff.1 h0
    obtain ⟨A, cap, rfl⟩ : ∃ A cap, v = .slice A 0 cap := by
      rcases hrow.2 with ⟨rfl, _⟩ | ⟨g, cap, cur, rfl, _⟩
      · exact ⟨_, _, rfl⟩
      · exact ⟨_, _, rfl⟩
    refine Calls.mono (sort_none A cap (.func (.func 13) #[] #[]) w) ?_
    rintro e w' ⟨rfl, rfl⟩
    exact ⟨rfl, A, cap, [], rfl, List.Perm.refl _, List.Pairwise.nil, fun h => absurd h (by simp), Below.refl _ _⟩
  · obtain ⟨g, cap, cur, rfl, hbg, hgb, rest⟩ : ∃ g cap cur, v = .slice (some ⟨g, 0, none⟩) ks.length cap ∧ base ≤ g ∧ w.heap[g]? = some (.cells cur 25 (0, 0)) ∧ True := by
      rcases hrow.2 with ⟨_, hz⟩ | ⟨g, cap, cur, h1, h2, h3, _⟩
      · exact absurd hz h0
      · exact ⟨g, cap, cur, h1, h2, h3, trivial⟩
    obtain ⟨bk, off, hA, hbk, hL⟩ := labs_own hrow (by omega)
    cases hA
    have hH : HoldsK encL 2 w g 0 ks.toArray := labs_holds hgb hL
    have hcon := AnyQ.slices_SortFunc (P := Try.prog) (ρ := sortLab_ren) sortLab 2 Try.isAgg25 Try.sizeOf25 encL (fun _ => rfl) (fun x v hv => by simp [encL] at hv; rcases hv with rfl | rfl <;> rfl) ord swo 13 #[] g 0 cap ks.toArray w eg (order_lays g 0 _ w) hH hbk (by simp only [List.size_toArray]; omega)
    refine Calls.mono hcon ?_
    rintro e w' ⟨rfl, d', n, os, hp, hs, hw⟩
    refine ⟨rfl, _, cap, d'.toList, rfl, perm_all hp, ?_, fun _ => ⟨g, 0, rfl, ?_, ?_⟩, ?_⟩
    · have := hp.1
      refine sorted_pair ?_
      rw [this]
      exact hs
    · rw [hw]
      simp [sortWorldK, putRowK, Sort.ahead]
      omega
    · rw [hw]
      exact holds_labs (holdsK_sortWorldK_c encL 2 w g 0 ks.toArray d' n os hH hbk hp.1)
    · rw [hw]
      unfold sortWorldK putRowK
      have h1 : Below base w (putRow id (Sort.ahead w n) g 0 (flatK encL 2 d')) := Lib.below_putRow (Below.refl _ _) hbg
      exact h1.trans ((T.below_grow _ 0 os).mono (by simp [Sort.ahead]; omega))
end Go.Proofs.Ytpmpjimlcnpopaa.Ta

namespace Go.Proofs.Ytpmpjimlcnpopaa.Ta
set_option linter.unusedVariables false
set_option linter.unusedSimpArgs false
open Go.RowKit Go.Maps Go.Sort
open T
open I (It Lb alloc1 own_at own_below)
open V (grown_of drawn_below)

/-- What slices.SortedFunc comes to. -/
def SfEnd (f : Lb → Nat) (nn : Nat) (w : World) (e : Ending) (w' : World) : Prop := ∃ A cap ks ss, e = .returned (.slice A ks.length cap) ∧ KeysAre f ss ∧ ss.length ≤ nn ∧ ks.Perm ss ∧ ks.Pairwise (fun a b => ¬ lt b a) ∧ LabsIn w' A ks ∧ Below w.heap.size w w'
set_option maxRecDepth 100000 in
set_option maxHeartbeats 2000000 in
theorem sortedF_any {w : World} {Bm b nn : Nat} (hnn : nn ≤ 1000000) {f : Lb → Nat} {D0 : DataW Unit} (hBm : Bm < w.heap.size) (hm : w.cell? ⟨Bm, 0, none⟩ = some (.map (some b))) (hmap : MapIs w b nn f D0) :
    Calls Try.prog 22 #[.func (.func 30) #[] #[.pointer (some ⟨Bm, 0, none⟩)], .func (.func 13) #[] #[]] w (SfEnd f nn w) := by
  have hc := callsIn_wide.1 (collect_in 4 (by omega) Bm b nn hnn f D0 w hBm hm hmap)
  clear hm hmap
  go_enter Try.func22, Try.ntmps22
  go_wp2_with fail
  refine hc.mono ?_
  rintro e w2 ⟨v, ss, rfl, ⟨hk, hlen⟩, hrow, hb⟩
  have HSO := Lib.hid (sort_any hrow (by omega))
  have HB := Lib.hid hb
  have HK := Lib.hid hk
  clear hc hrow hb hk
  go_wp2_with fail
  refine HSO.out.mono ?_
  rintro e w3 ⟨rfl, A, cap, ks, rfl, hp, hs, hl, hb2⟩
  go_wp2_with fail
  go_ret
  exact ⟨A, cap, ks, ss, by rw [hp.length_eq]; rfl, HK.out, hlen, hp, hs, hl, HB.out.trans hb2⟩
theorem keys_ks {l : List Lb} {ss ks : List Lb} (hok : ∀ x ∈ l, Wl x) (h : KeysAre (fun a => l.count a) ss) (hp : ks.Perm ss) (hs : ks.Pairwise fun a b => ¬ lt b a) : Ks l ks :=
  Ks.sorted h.1 (fun a => by
    by_cases ha : Wl a
    · rw [h.2.2 a ha]
      simp [List.count_eq_zero]
    · exact ⟨fun q => absurd (h.2.1 a q) ha, fun q => absurd (hok a q) ha⟩) hp hs
end Go.Proofs.Ytpmpjimlcnpopaa.Ta

namespace Go.Proofs.Ytpmpjimlcnpopaa.Ta
set_option linter.unusedVariables false
set_option linter.unusedSimpArgs false
open Go.RowKit Go.Maps Go.MapKept Go.WideShapes Go.ChangeMaps
open T
open I (It Lb alloc1)

theorem lbKL : WideMaps.KeyLaw Try.prog 25 := deep_law_laid (m := 2) (by kernel_rfl) (by omega) (of_decide_eq_true (by kernel_rfl)) (by kernel_rfl) (by kernel_rfl)
theorem MapIs.same {w w' : World} {mb n : Nat} {f : Lb → Nat} {D : DataW Unit} (h : MapIs w mb n f D) (e : w'.heap[mb]? = w.heap[mb]?) : MapIs w' mb n f D := by
  obtain ⟨⟨es, clock, hb, F, hs, hD⟩, h2, h3⟩ := h
  exact ⟨⟨es, clock, e.trans hb, F, hs, hD⟩, h2, h3⟩
set_option maxRecDepth 100000 in
theorem map_entry {w : World} {mb n : Nat} {f : Lb → Nat} {D : DataW Unit} (h : MapIs w mb n f D) {x : Lb} (hx : Wl x) (hn : n < maxLen) :
    ∃ (v0 : Value) (st : Nat) (es1 : Array MapEntry) (clock1 : Nat),
      (Instr.mapEntry 48 (.map (some mb)) (lbV x)).run Try.prog w = .ok (.tuple #[v0, goInt st]) (setBlock w mb (.map es1 clock1)) ∧
      (∀ w1 : World, w1.heap[mb]? = some (.map es1 clock1) → (Instr.lookup 48 (.map (some mb)) (lbV x) false).run Try.prog w1 = .ok (.int .i64 (f x : Int)) w1) ∧
      ∀ (w2 : World) (c : Nat), w2.heap[mb]? = some (.map es1 clock1) → c ≠ 0 → (Lit.int .i64 (c : Int)).wf = true → ∃ es' clock', (Instr.entryStore 48 (.map (some mb)) (goInt st) (.int .i64 (c : Int))).run Try.prog w2 = .ok () (setBlock w2 mb (.map es' clock')) ∧
        ∀ w3 : World, w3.heap[mb]? = some (.map es' clock') → MapIs w3 mb (n + 1) (upd f x c) (D.put (lk x) (.lit (.int .i64 (c : Int)))) := by
  have ht := Try.underlying48
  have hkey := lbKey hx
  have hlook := h.look ht hx
  obtain ⟨h1, h2, h3⟩ := h
  obtain ⟨es, clock, hb, F, hs, hD⟩ := id h1
  obtain ⟨v0, st, es1, clock1, hrun, hval, hst⟩ := WideElems.entry_then_store lbKL ht zeroIn hb F hkey
  refine ⟨v0, st, es1, clock1, hrun, fun w1 hw1 => ?_, fun w2 c hw2 hc hwf => ?_⟩
  · have hE : ∀ v0' st' es1' clock1', (Instr.mapEntry 48 (.map (some mb)) (lbV x)).run Try.prog w = .ok (.tuple #[v0', goInt st']) (setBlock w mb (.map es1' clock1')) → es1' = es1 ∧ clock1' = clock1 := fun v0' st' es1' clock1' q => by
      rw [hrun] at q
      have e := congrArg (fun r : Result _ => match r with | .ok _ W => W.heap[mb]? | _ => none) q
      simp only at e
      rw [heap_setBlock_same hb, heap_setBlock_same hb] at e
      cases e
      exact ⟨rfl, rfl⟩
    rcases lbKL.find w hkey es.toList F.keys with ⟨f1, f2⟩ | ⟨j, e0, f1, f2, f3⟩
    · obtain ⟨rfl, rfl⟩ := hE (.int .i64 0) clock (es.push ⟨lbV x, .int .i64 0, clock⟩) (clock + 1) (by
        simp [Instr.mapEntry, run_underlying ht, MapKept.run_getObj_map hb, lbKL.check w false hkey, f1, zeroIn, MapKept.run_setObj_map _ hb, Result.andThen, setBlock])
      have hup : (Instr.mapUpdate 48 (.map (some mb)) (lbV x) (.int .i64 0)).run Try.prog w = .ok () (setBlock w mb (.map (es.push ⟨lbV x, .int .i64 0, clock⟩) (clock + 1))) := by
        simp [Instr.mapUpdate, run_underlying ht, MapKept.run_getObj_map hb, lbKL.check w false hkey, f1, MapKept.run_setObj_map _ hb, Result.andThen, setBlock]
      obtain ⟨w', hr', ho', _⟩ := h1.update lbLaw ht hn (val := .int .i64 0) hkey (plainElem_int Try.underlying3 (by decide))
      rw [hup] at hr'
      cases hr'
      have hown : w1.ownsMap Try.prog 25 (plainElem Try.prog 3) mb (n + 1) (D.put (lk x) (.lit (.int .i64 0))) := by
        obtain ⟨es2, clock2, hb2, F2, hs2, hD2⟩ := ho'
        rw [heap_setBlock_same hb] at hb2
        cases hb2
        exact ⟨_, _, hw1, F2, hs2, hD2⟩
      obtain ⟨c, hrun1, hat, _⟩ := hown.lookup_int lbLaw ht Try.underlying3 (zeroIn w1) hkey
      rw [atKey_put_same (k := lk x) h2 trivial] at hat
      have ec : c = 0 := by simpa using hat.symm
      have e0 : (Instr.lookup 48 (.map (some mb)) (lbV x) false).run Try.prog w = .ok (.int .i64 0) w := by
        simp [Instr.lookup, run_underlying ht, MapKept.run_getObj_map hb, lbKL.check w es.isEmpty hkey, f1, zeroIn, Result.andThen]
      rw [hlook] at e0
      have ef : (f x : Int) = 0 := by simpa using e0
      rw [ef, ← ec]
      exact hrun1
    · have hj : es[j]? = some e0 := by simpa using f2
      have hsame : es.modify j (fun e => { e with key := lbV x }) = es := by
        apply Array.ext'
        rw [Array.toList_modify, modify_eq_set _ _ _ _ f2]
        have : ({ e0 with key := lbV x } : MapEntry) = e0 := by rw [← f3]
        rw [this]
        exact WideElems.set_self _ _ _ f2
      obtain ⟨rfl, rfl⟩ := hE e0.val e0.born es clock (by
        simp [Instr.mapEntry, run_underlying ht, MapKept.run_getObj_map hb, lbKL.check w false hkey, f1, hj, f3, lbKL.stays w hkey, hsame, MapKept.run_setObj_map _ hb, Result.andThen, setBlock])
      exact (show MapIs w1 mb n f D from ⟨⟨es, clock, hw1, F, hs, hD⟩, h2, h3⟩).look ht hx
  · obtain ⟨es', clock', hr, hu⟩ := hst w2 (.int .i64 (c : Int)) hw2
    refine ⟨es', clock', hr, fun w3 hw3 => ?_⟩
    obtain ⟨w', hr', ho', _⟩ := h1.update lbLaw ht hn (val := .int .i64 (c : Int)) hkey (plainElem_int Try.underlying3 hwf)
    rw [hu] at hr'
    cases hr'
    have hown : w3.ownsMap Try.prog 25 (plainElem Try.prog 3) mb (n + 1) (D.put (lk x) (.lit (.int .i64 (c : Int)))) := by
      obtain ⟨es2, clock2, hb2, F2, hs2, hD2⟩ := ho'
      rw [heap_setBlock_same hb] at hb2
      cases hb2
      exact ⟨_, _, hw3, F2, hs2, hD2⟩
    exact MapIs.put h2 h3 hx hc hown
end Go.Proofs.Ytpmpjimlcnpopaa.Ta

namespace Go.Proofs.Ytpmpjimlcnpopaa.Ta
set_option linter.unusedVariables false
set_option linter.unusedSimpArgs false
open Go.RowKit Go.Maps Go.Sort
open T
open I (It Lb ItemsIn ItemsAt itCells alloc1 own_at own_below)
open V (grown_of drawn_below ItAt it_at)

/-- Items whose labels are a machine's. -/
def Wls (l : List It) : Prop := ∀ x ∈ l, Wl x.lb
theorem MapIs.more {w : World} {mb n m : Nat} {f : Lb → Nat} {D : DataW Unit} (h : MapIs w mb n f D) (hn : n ≤ m) : MapIs w mb m f D := by
  obtain ⟨⟨es, clock, hb, F, hs, hD⟩, h2⟩ := h
  exact ⟨⟨es, clock, hb, F, Nat.le_trans hs hn, hD⟩, h2⟩
theorem upd_count {l : List It} {k : Nat} (h : k < l.length) {x : Lb} (hx : l[k].lb = x) (ha : l[k].an = false) :
    upd (fun a => (lns (l.take k)).count a) x ((lns (l.take k)).count x + 1) = fun a => (lns (l.take (k + 1))).count a := by
  funext a
  show upd (fun a => (lns (l.take k)).count a) x ((lns (l.take k)).count x + 1) a = (lns (l.take (k + 1))).count a
  unfold upd
  rw [count_take a h]
  by_cases e : a = x
  · subst e
    rw [if_pos rfl, if_pos ⟨ha, hx⟩]
  · rw [if_neg e, if_neg (fun q => e (q.2.symm.trans hx))]
    rfl
theorem count_anchor {l : List It} {k : Nat} (h : k < l.length) (ha : l[k].an = true) : (fun a => (lns (l.take k)).count a) = fun a => (lns (l.take (k + 1))).count a := by
  funext a
  show _ = (lns (l.take (k + 1))).count a
  rw [count_take a h, if_neg (by simp [ha])]
  rfl
theorem heap_set_map {w : World} {mb : Nat} {es : Array MapEntry} {c : Nat} (h : w.heap[mb]? = some (.map es c)) (o : Obj) : (ChangeMaps.setBlock w mb o).heap[mb]? = some o := ChangeMaps.heap_setBlock_same h o
theorem cell_set_map {w : World} {mb g o c : Nat} {es : Array MapEntry} (hb : w.heap[mb]? = some (.map es c)) (h : g ≠ mb) (b : Obj) : (ChangeMaps.setBlock w mb b).cell? ⟨g, o, none⟩ = w.cell? ⟨g, o, none⟩ :=
  World.cell?_of_block (a := ⟨g, o, none⟩) (ChangeMaps.heap_setBlock_other hb b h)
theorem grown_set_map {w : World} {mb c : Nat} {es : Array MapEntry} (hb : w.heap[mb]? = some (.map es c)) {o : Obj} : w.grownBy (ChangeMaps.setBlock w mb o) (some mb) := ⟨rfl, rfl, rfl, by simp [ChangeMaps.setBlock], fun i _ hi => ChangeMaps.heap_setBlock_other hb o (fun e => hi (by rw [e]))⟩
def MapEnd (w : World) (mb : Nat) (l : List It) (W : World) : Prop := ∃ D, MapIs W mb l.length (fun a => (lns l).count a) D ∧ Below mb w W ∧ mb < W.heap.size
/-- What comes back: a new row of counts. -/
def ctCells (c : List (Lb × Nat)) : List Value := c.flatMap fun x => [.int .i64 x.1.1, .int .u64 (x.1.2 : Int), .int .i64 (x.2 : Int)]
theorem infoCt : (Try.prog.info? 30).map (fun i => (i.zero, i.size, i.bytes)) = some (some (.agg #[.int .i64 0, .int .u64 0, .int .i64 0]), 3, 24) := by kernel_rfl
def CsEnd (w : World) (c : List (Lb × Nat)) (e : Ending) (w' : World) : Prop := ∃ A cap, e = .returned (.slice A c.length cap) ∧ w'.ownsRow w.heap.size 30 3 (.slice A c.length cap) c.length (ctCells c) ∧ Below w.heap.size w w'
theorem ce_of {w w' : World} {base : Nat} {v : Value} {c ys : List (Lb × Nat)} (h : w'.ownsRow base 30 3 v ys.length (ctCells ys)) (hs : ys = c) (hb : w.heap.size ≤ base) (hB : Below w.heap.size w w') : CsEnd w c (.returned v) w' := by
  subst hs
  obtain ⟨A, cap, rfl, -, -⟩ := own_form h
  exact ⟨A, cap, rfl, own_more h hb, hB⟩

set_option maxRecDepth 100000 in
set_option maxHeartbeats 4000000 in
theorem counts_any (A : Option Addr) (cap : Nat) (l : List It) (w : World) (hA : ItemsIn w A l) (hok : Wls l) (hl : l.length ≤ 1000) :
    Calls Try.prog 8 #[.slice A l.length cap] w fun e w' => ∃ ks, Ks (lns l) ks ∧ CsEnd w (cs (lns l) ks) e w' := by
  have HOK := Lib.hid hok
  obtain ⟨mb, hmb⟩ : ∃ q, q = w.heap.size := ⟨_, rfl⟩
  obtain ⟨W0, hW0⟩ : ∃ W : World, W = w.alloc (.map #[] 0) := ⟨_, rfl⟩
  have HB0 := Lib.hid (show Below mb w W0 by rw [hW0, hmb]; exact alloc1 _ _)
  have HM0 := Lib.hid (show MapIs W0 mb 0 (fun _ => 0) (.map []) by rw [hW0, hmb]; exact MapIs.start w)
  have HA := Lib.hid hA
  have hmm0 := @run_makeMap Try.prog
  have HMB := Lib.hid hmb
  clear hA hok
  go_enter Try.func8, Try.ntmps8
  go_wp2_with fail
  rw [← hW0]
  rw [← hmb]
  clear hW0 hmb
  go_loopg [12] l.length (fun q i wr => ∃ (k : Nat) (D : DataW Unit), k ≤ l.length ∧ i = .int .i64 k ∧ l.length - k ≤ q ∧ Hid (MapIs wr mb k (fun a => (lns (l.take k)).count a) D) ∧ Hid (Below mb w wr))
  case atStart => exact ⟨0, _, Nat.zero_le _, rfl, by omega, Lib.hid HM0.out, HB0⟩
  case round =>
    obtain ⟨k, D, hk, rfl, hm, HM, HBR⟩ := hrel
    by_cases hlt : k < l.length
    · obtain ⟨bk, off, hAe, hbk, hIt⟩ := HA.out (by omega)
      subst hAe
      have HI := Lib.hid ((it_at hIt hbk hlt).below (HMB.out ▸ HBR.out))
      have HWL := Lib.hid (HOK.out _ (List.getElem_mem hlt))
      have HUP := Lib.hid (fun (x : Lb) => upd_count (l := l) hlt (x := x))
      have HAN := Lib.hid (count_anchor (l := l) hlt)
      have hkc : ∀ x, (lns (l.take k)).count x ≤ k := fun x => Nat.le_trans List.count_le_length (Nat.le_trans (lns_le _) (by rw [List.length_take]; omega))
      have h0k : (0 : Int) ≤ (k : Int) := by omega
      have hki : (k : Int) < (l.length : Int) := by omega
      generalize l[k] = y at *
      obtain ⟨hlt3, c0, c1, c2, c3, c4, c5⟩ := HI.out
      obtain ⟨y0, x0, x1, an, tx, ba⟩ := y
      simp only [I.It.lb] at c0 c1 c2 c3 c4 c5 HWL HUP HAN
      obtain ⟨xt, hxt⟩ : ∃ x : ByteArray, x = ⟨tx.toArray⟩ := ⟨_, rfl⟩
      rw [← hxt] at c4
      obtain ⟨w1, hw1⟩ : ∃ W : World, W = wr.alloc (.cells #[.int .i64 y0, .int .i64 x0, .int .u64 (x1 : Int), .bool an, .string xt, .bool ba] 44) := ⟨_, rfl⟩
      have hb1 : Below wr.heap.size wr w1 := by rw [hw1]; exact alloc1 _ _
      have HB1 : Hid (Below mb w w1) := Lib.hid (HBR.out.trans (hb1.mono (HMB.out ▸ HBR.out.size)))
      have HM1 := Lib.hid (HM.out.kept (grown_of hb1 none) (by simp))
      have hx1 : w1.heap[wr.heap.size]? = some (.cells #[.int .i64 y0, .int .i64 x0, .int .u64 (x1 : Int), .bool an, .string xt, .bool ba] 44 (0, 0)) := by rw [hw1]; exact heap_alloc_new wr _
      have g1 := L.blk_cell hx1 1
      have g2 := L.blk_cell hx1 2
      have g3 := L.blk_cell hx1 3
      simp only [List.getElem?_toArray, List.getElem?_cons_zero, List.getElem?_cons_succ] at g1 g2 g3
      have HNE : Hid (wr.heap.size ≠ mb) := Lib.hid (HM1.out.notCells hx1)
      clear hb1 hx1 HI hxt hlt3 HM HBR
      go_upto_region 5 with fail
      rw [← hw1]
      obtain ⟨eb, heb⟩ : ∃ q, q = wr.heap.size := ⟨_, rfl⟩
      rw [← heb] at g1 g2 g3 HNE ⊢
      clear hw1 c0 c1 c2 c3 c4 c5 heb
      cases an with
      | true =>
        go_wp2_with fail
        go_roundg (l.length - (k + 1))
        case rel => exact ⟨k + 1, D, by omega, by go_num, Nat.le_refl _, Lib.hid (by rw [← HAN.out trivial]; exact HM1.out.more (by omega)), HB1⟩
        case measure => omega
      | false =>
        have hmap : MapIs w1.drew mb k (fun a => (lns (l.take k)).count a) D := HM1.out.same rfl
        obtain ⟨c, hc⟩ : ∃ c, c = (lns (l.take k)).count (x0, x1) := ⟨_, rfl⟩
        have hck : c ≤ 1000 := by rw [hc]; exact Nat.le_trans (hkc _) (by omega)
        have HL0 := Lib.hid (hmap.look Try.underlying48 HWL.out)
        obtain ⟨v0, st, es1, clock1, hrun, hlk, hst⟩ := map_entry hmap HWL.out (by unfold maxLen; omega)
        obtain ⟨es0, clock0, hmh, -⟩ := hmap.1
        have HMH := Lib.hid hmh
        have HRUN := Lib.hid hrun
        have HST := Lib.hid hst
        have HLK := Lib.hid hlk
        have HWF : Hid ((Lit.int .i64 ((c + 1 : Nat) : Int)).wf = true) := Lib.hid (by simp [Lit.wf, IntKind.min, IntKind.max, IntKind.signed, IntKind.bits]; omega)
        simp only [lbV, ← hc] at HL0 HRUN HLK
        have HC := Lib.hid hc
        clear hc hmap hrun hst hmh hkc hlk
        go_upto_region 6 with fail
        refine wp_region_held_drew (S := (fun W : World => W.cell? ⟨eb, 1, none⟩ = some (.int .i64 x0) ∧ W.cell? ⟨eb, 2, none⟩ = some (.int .u64 (x1 : Int)))) (by kernel_rfl) (⟨g1, g2⟩) (fun hK0 => ?_)
        refine wpAnyH_take (i := 0) (oi := { dst := some 19, op := Go.Op.move (Go.Operand.tmp 3), type := 48, pos := "tally.go:33", after := #[], guard := none }) (v := ?_) rfl (by kernel_rfl) (by kernel_rfl) (by kernel_rfl) (fun _ _ _ h => h) (Or.inl ⟨by rfl, ?_⟩) hK0 ?_
        rotate_left
        · (intro wz hSz; (try dsimp only at hSz); go_simp; try with_reducible rfl)
        simp only [Act.put, List.setIfInBounds_toArray, List.set_cons_zero, List.set_cons_succ]
        refine wpAnyH_take (i := 1) (oi := { dst := some 20, op := Go.Op.fieldAddr 44 (Go.Operand.tmp 5) 1, type := 0, pos := "tally.go:33", after := #[], guard := none }) (v := ?_) rfl (by kernel_rfl) (by kernel_rfl) (by kernel_rfl) (fun _ _ _ h => h) (Or.inl ⟨by rfl, ?_⟩) hK0 ?_
        rotate_left
        · (intro wz hSz; (try dsimp only at hSz); go_simp; try with_reducible rfl)
        simp only [Act.put, List.setIfInBounds_toArray, List.set_cons_zero, List.set_cons_succ]
        refine wpAnyH_take (i := 2) (oi := { dst := some 21, op := Go.Op.load 25 (Go.Operand.tmp 20), type := 25, pos := "tally.go:33", after := #[{ on := 1, ground := Go.Ground.data }], guard := none }) (v := ?_) rfl (by kernel_rfl) (by kernel_rfl) (by kernel_rfl) (fun _ _ _ h => h) (Or.inl ⟨by rfl, ?_⟩) hK0 ?_
        rotate_left
        · (intro wz hSz; obtain ⟨hcz, hcz2⟩ := hSz; go_simp; try with_reducible rfl)
        simp only [Act.put, List.setIfInBounds_toArray, List.set_cons_zero, List.set_cons_succ]
        refine wpAnyH_ready (rs := [3, 5]) (by kernel_rfl) (by simp) ?_
        refine AllReadyH.cons (o := { dst := some 22, op := Go.Op.lookup 48 (Go.Operand.tmp 19) (Go.Operand.tmp 21) false, type := 3, pos := "tally.go:33", after := #[{ on := 0, ground := Go.Ground.data }, { on := 2, ground := Go.Ground.data }], guard := none }) rfl (fun K hK => ?_) (AllReadyH.cons (o := { dst := some 24, op := Go.Op.mapEntry 48 (Go.Operand.tmp 19) (Go.Operand.tmp 21), type := 0, pos := "tally.go:33", after := #[{ on := 0, ground := Go.Ground.data }, { on := 2, ground := Go.Ground.data }, { on := 0, ground := Go.Ground.phase }, { on := 1, ground := Go.Ground.phase }, { on := 2, ground := Go.Ground.phase }, { on := 3, ground := Go.Ground.textOnly Go.Departure.mapOpAssignEntry }, { on := 4, ground := Go.Ground.textOnly Go.Departure.mapOpAssignEntry }], guard := none }) rfl (fun K hK => ?_) AllReadyH.nil)
        · skip
          have hlk := HL0.out
          go_simp
          clear hlk
          have hS : (fun W : World => W.cell? ⟨eb, 1, none⟩ = some (.int .i64 x0) ∧ W.cell? ⟨eb, 2, none⟩ = some (.int .u64 (x1 : Int))) w1.drew := ⟨g1, g2⟩
          refine hK.out _ _ hS (fun hK1 => ?_)
          clear hK K hS hK0
          refine wpAnyH_take (i := 4) (oi := { dst := some 23, op := Go.Op.binOp Go.BinOp.add 3 (Go.Operand.tmp 22) (Go.Operand.const (Go.Value.int Go.IntKind.i64 1)) 3, type := 3, pos := "tally.go:33", after := #[{ on := 3, ground := Go.Ground.data }], guard := none }) (v := ?_) rfl (by kernel_rfl) (by kernel_rfl) (by kernel_rfl) (fun _ _ _ h => h) (Or.inl ⟨by rfl, ?_⟩) hK1 ?_
          rotate_left
          · (intro wz hSz; (try dsimp only at hSz); go_simp; try with_reducible rfl)
          simp only [Act.put, List.setIfInBounds_toArray, List.set_cons_zero, List.set_cons_succ]
          refine wpAnyH_ready (rs := [5]) (by kernel_rfl) (by simp) ?_
          refine AllReadyH.cons (o := { dst := some 24, op := Go.Op.mapEntry 48 (Go.Operand.tmp 19) (Go.Operand.tmp 21), type := 0, pos := "tally.go:33", after := #[{ on := 0, ground := Go.Ground.data }, { on := 2, ground := Go.Ground.data }, { on := 0, ground := Go.Ground.phase }, { on := 1, ground := Go.Ground.phase }, { on := 2, ground := Go.Ground.phase }, { on := 3, ground := Go.Ground.textOnly Go.Departure.mapOpAssignEntry }, { on := 4, ground := Go.Ground.textOnly Go.Departure.mapOpAssignEntry }], guard := none }) rfl (fun K hK => ?_) AllReadyH.nil
          have hrun := HRUN.out
          go_simp
          clear hrun
          obtain ⟨wq2, hwq⟩ : ∃ W : World, W = ChangeMaps.setBlock w1.drew mb (.map es1 clock1) := ⟨_, rfl⟩
          rw [← hwq]
          have he : wq2.heap[mb]? = some (.map es1 clock1) := by rw [hwq]; exact heap_set_map HMH.out _
          have he1 : wq2.cell? ⟨eb, 1, none⟩ = some (.int .i64 x0) := by rw [hwq]; exact (cell_set_map HMH.out HNE.out _).trans g1
          have he2 : wq2.cell? ⟨eb, 2, none⟩ = some (.int .u64 (x1 : Int)) := by rw [hwq]; exact (cell_set_map HMH.out HNE.out _).trans g2
          have hgr : w1.grownBy wq2 (some mb) := by rw [hwq]; have q : w1.drew.grownBy (ChangeMaps.setBlock w1.drew mb (.map es1 clock1)) (some mb) := grown_set_map HMH.out; exact ⟨q.os, q.tape, q.output, q.size, q.block⟩
          have hS : (fun W : World => W.cell? ⟨eb, 1, none⟩ = some (.int .i64 x0) ∧ W.cell? ⟨eb, 2, none⟩ = some (.int .u64 (x1 : Int))) wq2 := ⟨he1, he2⟩
          have HENT := Lib.hid he
          have HE1 := Lib.hid he1
          have HE2 := Lib.hid he2
          have HGR := Lib.hid hgr
          clear he he1 he2 hgr hwq
          refine hK.out _ _ hS (fun hK2 => ?_)
          clear hK K hS hK1
          refine wpAnyH_take (i := 6) (oi := { dst := some 25, op := Go.Op.extract (Go.Operand.tmp 24) 1, type := 3, pos := "tally.go:33", after := #[{ on := 5, ground := Go.Ground.data }], guard := none }) (v := ?_) rfl (by kernel_rfl) (by kernel_rfl) (by kernel_rfl) (fun _ _ _ h => h) (Or.inl ⟨by rfl, ?_⟩) hK2 ?_
          rotate_left
          · (intro wz hSz; (try dsimp only at hSz); go_simp; try with_reducible rfl)
          simp only [Act.put, List.setIfInBounds_toArray, List.set_cons_zero, List.set_cons_succ]
          refine wpAnyH_ready (rs := [7]) (by kernel_rfl) (by simp) ?_
          refine AllReadyH.cons (o := { dst := none, op := Go.Op.entryStore 48 (Go.Operand.tmp 19) (Go.Operand.tmp 25) (Go.Operand.tmp 23), type := 0, pos := "tally.go:33", after := #[{ on := 0, ground := Go.Ground.data }, { on := 6, ground := Go.Ground.data }, { on := 4, ground := Go.Ground.data }, { on := 5, ground := Go.Ground.chain }, { on := 0, ground := Go.Ground.phase }, { on := 1, ground := Go.Ground.phase }, { on := 2, ground := Go.Ground.phase }, { on := 3, ground := Go.Ground.phase }, { on := 4, ground := Go.Ground.phase }, { on := 5, ground := Go.Ground.phase }, { on := 6, ground := Go.Ground.phase }], guard := none }) rfl (fun K hK => ?_) AllReadyH.nil
          obtain ⟨es2, clock2, hrun2, hm2⟩ := HST.out wq2 (c + 1) HENT.out (by omega) HWF.out
          rw [show ((c + 1 : Nat) : Int) = IntKind.i64.wrap ((c : Int) + 1) by rw [IntKind.wrap_i64]; omega] at hrun2
          unfold goInt at hrun2
          go_simp
          obtain ⟨wq3, hwq⟩ : ∃ W : World, W = ChangeMaps.setBlock wq2 mb (.map es2 clock2) := ⟨_, rfl⟩
          rw [← hwq]
          have hS : (fun W : World => W.cell? ⟨eb, 1, none⟩ = some (.int .i64 x0) ∧ W.cell? ⟨eb, 2, none⟩ = some (.int .u64 (x1 : Int))) wq3 := by rw [hwq]; exact ⟨(cell_set_map HENT.out HNE.out _).trans HE1.out, (cell_set_map HENT.out HNE.out _).trans HE2.out⟩
          have HM2 := Lib.hid (hm2 wq3 (by rw [hwq]; exact heap_set_map HENT.out _))
          have HG2 := Lib.hid (show w1.grownBy wq3 (some mb) by rw [hwq]; exact HGR.out.andThen (grown_set_map HENT.out) (fun j e => .inr e))
          clear hrun2 hm2 hwq
          refine hK.out _ _ hS (fun hK3 => ?_)
          clear hK K hS hK2
          refine wpAnyH_done (by kernel_rfl) ?_ _
          go_wp2_with fail
          have HB3 := Lib.hid (HB1.out.grown HG2.out (HMB.out ▸ HB1.out.size) (fun j e => by cases e; exact Nat.le_refl _))
          go_roundg (l.length - (k + 1))
          case rel => exact ⟨k + 1, _, by omega, by go_num, Nat.le_refl _, Lib.hid (by have := HM2.out; rw [HC.out, HUP.out (x0, x1) rfl trivial] at this; exact this), HB3⟩
          case measure => omega
        · skip
          have hrun := HRUN.out
          go_simp
          clear hrun
          obtain ⟨wq1, hwq⟩ : ∃ W : World, W = ChangeMaps.setBlock w1.drew mb (.map es1 clock1) := ⟨_, rfl⟩
          rw [← hwq]
          have he : wq1.heap[mb]? = some (.map es1 clock1) := by rw [hwq]; exact heap_set_map HMH.out _
          have he1 : wq1.cell? ⟨eb, 1, none⟩ = some (.int .i64 x0) := by rw [hwq]; exact (cell_set_map HMH.out HNE.out _).trans g1
          have he2 : wq1.cell? ⟨eb, 2, none⟩ = some (.int .u64 (x1 : Int)) := by rw [hwq]; exact (cell_set_map HMH.out HNE.out _).trans g2
          have hgr : w1.grownBy wq1 (some mb) := by rw [hwq]; have q : w1.drew.grownBy (ChangeMaps.setBlock w1.drew mb (.map es1 clock1)) (some mb) := grown_set_map HMH.out; exact ⟨q.os, q.tape, q.output, q.size, q.block⟩
          have hS : (fun W : World => W.cell? ⟨eb, 1, none⟩ = some (.int .i64 x0) ∧ W.cell? ⟨eb, 2, none⟩ = some (.int .u64 (x1 : Int))) wq1 := ⟨he1, he2⟩
          have HENT := Lib.hid he
          have HE1 := Lib.hid he1
          have HE2 := Lib.hid he2
          have HGR := Lib.hid hgr
          clear he he1 he2 hgr hwq
          refine hK.out _ _ hS (fun hK1 => ?_)
          clear hK K hS hK0
          refine wpAnyH_take (i := 6) (oi := { dst := some 25, op := Go.Op.extract (Go.Operand.tmp 24) 1, type := 3, pos := "tally.go:33", after := #[{ on := 5, ground := Go.Ground.data }], guard := none }) (v := ?_) rfl (by kernel_rfl) (by kernel_rfl) (by kernel_rfl) (fun _ _ _ h => h) (Or.inl ⟨by rfl, ?_⟩) hK1 ?_
          rotate_left
          · (intro wz hSz; (try dsimp only at hSz); go_simp; try with_reducible rfl)
          simp only [Act.put, List.setIfInBounds_toArray, List.set_cons_zero, List.set_cons_succ]
          refine wpAnyH_ready (rs := [3]) (by kernel_rfl) (by simp) ?_
          refine AllReadyH.cons (o := { dst := some 22, op := Go.Op.lookup 48 (Go.Operand.tmp 19) (Go.Operand.tmp 21) false, type := 3, pos := "tally.go:33", after := #[{ on := 0, ground := Go.Ground.data }, { on := 2, ground := Go.Ground.data }], guard := none }) rfl (fun K hK => ?_) AllReadyH.nil
          have hlk := HLK.out _ HENT.out
          go_simp
          clear hlk
          have hS : (fun W : World => W.cell? ⟨eb, 1, none⟩ = some (.int .i64 x0) ∧ W.cell? ⟨eb, 2, none⟩ = some (.int .u64 (x1 : Int))) wq1 := ⟨HE1.out, HE2.out⟩
          refine hK.out _ _ hS (fun hK2 => ?_)
          clear hK K hS hK1
          refine wpAnyH_take (i := 4) (oi := { dst := some 23, op := Go.Op.binOp Go.BinOp.add 3 (Go.Operand.tmp 22) (Go.Operand.const (Go.Value.int Go.IntKind.i64 1)) 3, type := 3, pos := "tally.go:33", after := #[{ on := 3, ground := Go.Ground.data }], guard := none }) (v := ?_) rfl (by kernel_rfl) (by kernel_rfl) (by kernel_rfl) (fun _ _ _ h => h) (Or.inl ⟨by rfl, ?_⟩) hK2 ?_
          rotate_left
          · (intro wz hSz; (try dsimp only at hSz); go_simp; try with_reducible rfl)
          simp only [Act.put, List.setIfInBounds_toArray, List.set_cons_zero, List.set_cons_succ]
          refine wpAnyH_ready (rs := [7]) (by kernel_rfl) (by simp) ?_
          refine AllReadyH.cons (o := { dst := none, op := Go.Op.entryStore 48 (Go.Operand.tmp 19) (Go.Operand.tmp 25) (Go.Operand.tmp 23), type := 0, pos := "tally.go:33", after := #[{ on := 0, ground := Go.Ground.data }, { on := 6, ground := Go.Ground.data }, { on := 4, ground := Go.Ground.data }, { on := 5, ground := Go.Ground.chain }, { on := 0, ground := Go.Ground.phase }, { on := 1, ground := Go.Ground.phase }, { on := 2, ground := Go.Ground.phase }, { on := 3, ground := Go.Ground.phase }, { on := 4, ground := Go.Ground.phase }, { on := 5, ground := Go.Ground.phase }, { on := 6, ground := Go.Ground.phase }], guard := none }) rfl (fun K hK => ?_) AllReadyH.nil
          obtain ⟨es2, clock2, hrun2, hm2⟩ := HST.out wq1 (c + 1) HENT.out (by omega) HWF.out
          rw [show ((c + 1 : Nat) : Int) = IntKind.i64.wrap ((c : Int) + 1) by rw [IntKind.wrap_i64]; omega] at hrun2
          unfold goInt at hrun2
          go_simp
          obtain ⟨wq3, hwq⟩ : ∃ W : World, W = ChangeMaps.setBlock wq1 mb (.map es2 clock2) := ⟨_, rfl⟩
          rw [← hwq]
          have hS : (fun W : World => W.cell? ⟨eb, 1, none⟩ = some (.int .i64 x0) ∧ W.cell? ⟨eb, 2, none⟩ = some (.int .u64 (x1 : Int))) wq3 := by rw [hwq]; exact ⟨(cell_set_map HENT.out HNE.out _).trans HE1.out, (cell_set_map HENT.out HNE.out _).trans HE2.out⟩
          have HM2 := Lib.hid (hm2 wq3 (by rw [hwq]; exact heap_set_map HENT.out _))
          have HG2 := Lib.hid (show w1.grownBy wq3 (some mb) by rw [hwq]; exact HGR.out.andThen (grown_set_map HENT.out) (fun j e => .inr e))
          clear hrun2 hm2 hwq
          refine hK.out _ _ hS (fun hK3 => ?_)
          clear hK K hS hK2
          refine wpAnyH_done (by kernel_rfl) ?_ _
          go_wp2_with fail
          have HB3 := Lib.hid (HB1.out.grown HG2.out (HMB.out ▸ HB1.out.size) (fun j e => by cases e; exact Nat.le_refl _))
          go_roundg (l.length - (k + 1))
          case rel => exact ⟨k + 1, _, by omega, by go_num, Nat.le_refl _, Lib.hid (by have := HM2.out; rw [HC.out, HUP.out (x0, x1) rfl trivial] at this; exact this), HB3⟩
          case measure => omega
    · obtain rfl : k = l.length := by omega
      rw [List.take_length] at HM
      have HKY := Lib.hid (callsIn_wide.1 (keys_in 1 (some mb) wr))
      obtain ⟨W1, hW1⟩ : ∃ W : World, W = wr.alloc (.cells #[.map (some mb)] 48) := ⟨_, rfl⟩
      have hb1 : Below wr.heap.size wr W1 := by rw [hW1]; exact alloc1 _ _
      have hx1 : W1.heap[wr.heap.size]? = some (.cells #[.map (some mb)] 48 (0, 0)) := by rw [hW1]; exact heap_alloc_new wr _
      have HM1 := Lib.hid (HM.out.kept (grown_of hb1 none) (by simp))
      have HB1 : Hid (Below mb w W1) := Lib.hid (HBR.out.trans (hb1.mono (HMB.out ▸ HBR.out.size)))
      have HSF := Lib.hid (sortedF_any (by omega) (L.blk_lt hx1) (L.blk_cell hx1 0) HM1.out)
      rw [← hW1] at HKY
      clear hb1 hx1 hW1 hmm0 HM HBR HM0 HB0 HA
      go_wp2_with fail
      refine HKY.out.mono ?_
      rintro e w2 ⟨rfl, rfl⟩
      go_wp2_with fail
      refine HSF.out.mono ?_
      rintro e W2 ⟨B, bcap, ks, ss, rfl, hka, -, hp, hs, hL, hb2⟩
      have HKS := Lib.hid (keys_ks (l := lns l) (by
        intro x hx
        simp only [lns, List.mem_map] at hx
        obtain ⟨y, hy, rfl⟩ := hx
        exact HOK.out y (List.mem_filter.1 hy |>.1)) hka hp hs)
      have HLS := Lib.hid hL
      have HM2 := Lib.hid (HM1.out.kept (grown_of hb2 none) (by simp))
      have HB2 : Hid (Below mb w W2) := Lib.hid (HB1.out.trans (hb2.mono (HMB.out ▸ HB1.out.size)))
      have HNN : Hid (ks.length ≤ 1000) := Lib.hid (Nat.le_trans HKS.out.len (Nat.le_trans (lns_le _) hl))
      clear hka hp hs hL hb2 HSF HM1 HB1 HKY
      obtain ⟨i0, hi0, hz0, hz1, hz2⟩ := info_parts infoCt
      have hnn := HNN.out
      go_wp2_with fail
      go_loopg [6, 31] ks.length (fun q v i wr => ∃ (k : Nat) (ys : List (Lb × Nat)), k ≤ ks.length ∧ i = .int .i64 k ∧ ks.length - k ≤ q ∧ ys.length ≤ 1000 ∧ Hid (wr.ownsRow W2.heap.size 30 3 v ys.length (ctCells ys)) ∧ Hid (ys = cs (lns l) (ks.take k)) ∧ Hid (Below W2.heap.size W2 wr))
      case atStart => exact ⟨0, [], Nat.zero_le _, rfl, by omega, by simp, Lib.hid (World.ownsRow_nil _ _ _ _), Lib.hid (by simp [cs]), Lib.hid (Below.refl _ _)⟩
      case round =>
        obtain ⟨k, ys, hk, rfl, hm, hyl, HO, HY, HBR⟩ := hrel
        by_cases hlt : k < ks.length
        · obtain ⟨bk, off, hAe, hbk, hIt⟩ := HLS.out (by omega)
          subst hAe
          have hat := (hIt.below HBR.out hbk) k hlt
          have h0k : (0 : Int) ≤ (k : Int) := by omega
          have hki : (k : Int) < (ks.length : Int) := by omega
          have HN := Lib.hid (cs_take (lns l) ks hlt)
          rw [← HY.out] at HN
          have HWX := Lib.hid (show Wl ks[k] by
            have hx := (HKS.out.me ks[k]).1 (List.getElem_mem hlt)
            simp only [lns, List.mem_map] at hx
            obtain ⟨y, hy, e⟩ := hx
            rw [← e]
            exact HOK.out y (List.mem_filter.1 hy |>.1))
          have HLN : Hid ((cs (lns l) (ks.take (k + 1))).length ≤ 1000) := Lib.hid (by rw [cs_len]; exact Nat.le_trans (List.length_take_le _ _) (by omega))
          obtain ⟨x, hx⟩ : ∃ x, x = ks[k]'hlt := ⟨_, rfl⟩
          rw [← hx] at hat HN HWX
          clear hx HY
          obtain ⟨x0, x1⟩ := x
          obtain ⟨c0, c1⟩ := hat
          obtain ⟨c, hc⟩ : ∃ c, c = (lns l).count (x0, x1) := ⟨_, rfl⟩
          rw [← hc] at HN
          simp only at c0 c1
          obtain ⟨w1, hw1⟩ : ∃ W : World, W = wr.alloc (.cells #[.int .i64 x0, .int .u64 (x1 : Int)] 25) := ⟨_, rfl⟩
          have hb1 : Below wr.heap.size wr w1 := by rw [hw1]; exact alloc1 _ _
          have HR := Lib.hid (HBR.out.trans (hb1.mono HBR.out.size))
          have HO1 := Lib.hid (own_below HO.out hb1)
          have HM1 := Lib.hid (HM2.out.kept (grown_of HR.out none) (by simp))
          have HLQ := Lib.hid (fun (W : World) (h : MapIs W mb l.length (fun a => (lns l).count a) D) => h.look Try.underlying48 HWX.out)
          simp only [lbV, ← hc] at HLQ
          have HEO := Lib.hid (fun (j : Nat) (e : u6.ownBlock = some j) => show j ≠ wr.heap.size from Nat.ne_of_lt (HO.out.lt j e).2)
          have HMO := Lib.hid (fun (j : Nat) (e : u6.ownBlock = some j) => show j ≠ mb from fun q => by have h1 := own_base HO.out j e; have h2 := HM2.out.lt; omega)
          have HEL : Hid (wr.heap.size < w1.heap.size) := Lib.hid (by rw [hw1]; simp)
          have hx1 : w1.heap[wr.heap.size]? = some (.cells #[.int .i64 x0, .int .u64 (x1 : Int)] 25 (0, 0)) := by rw [hw1]; exact heap_alloc_new wr _
          have g0 := L.blk_cell hx1 0
          have g1 := L.blk_cell hx1 1
          simp only [List.getElem?_toArray, List.getElem?_cons_zero, List.getElem?_cons_succ] at g0 g1
          clear hb1 hx1 HO HBR hIt hc
          go_upto_region 12 with fail
          rw [← hw1]
          obtain ⟨eb, heb⟩ : ∃ q, q = wr.heap.size := ⟨_, rfl⟩
          rw [← heb] at g0 g1 HEO HEL ⊢
          clear hw1 heb c0 c1
          have HEB : Hid (eb < w1.heap.size) := Lib.hid HEL.out
          refine wp_region_held_drew (S := (fun W : World => W.cell? ⟨eb, 0, none⟩ = some (.int .i64 x0) ∧ W.cell? ⟨eb, 1, none⟩ = some (.int .u64 (x1 : Int)) ∧ MapIs W mb l.length (fun a => (lns l).count a) D)) (by kernel_rfl) (⟨g0, g1, HM1.out.same rfl⟩) (fun hK0 => ?_)
          refine wpAnyH_take (i := 0) (oi := { dst := some 35, op := Go.Op.move (Go.Operand.tmp 6), type := 27, pos := "tally.go:39", after := #[], guard := none }) (v := ?_) rfl (by kernel_rfl) (by kernel_rfl) (by kernel_rfl) (fun _ _ _ h => h) (Or.inl ⟨by rfl, ?_⟩) hK0 ?_
          rotate_left
          · (intro wz hSz; (try dsimp only at hSz); go_simp; try with_reducible rfl)
          simp only [Act.put, List.setIfInBounds_toArray, List.set_cons_zero, List.set_cons_succ]
          refine wpAnyH_take (i := 1) (oi := { dst := some 36, op := Go.Op.load 25 (Go.Operand.tmp 8), type := 25, pos := "tally.go:39", after := #[], guard := none }) (v := ?_) rfl (by kernel_rfl) (by kernel_rfl) (by kernel_rfl) (fun _ _ _ h => h) (Or.inl ⟨by rfl, ?_⟩) hK0 ?_
          rotate_left
          · (intro wz hSz; obtain ⟨hcz, hcz2, hcz3⟩ := hSz; clear hcz3; go_simp; try with_reducible rfl)
          simp only [Act.put, List.setIfInBounds_toArray, List.set_cons_zero, List.set_cons_succ]
          refine wpAnyH_take (i := 2) (oi := { dst := some 37, op := Go.Op.move (Go.Operand.tmp 3), type := 48, pos := "tally.go:39", after := #[], guard := none }) (v := ?_) rfl (by kernel_rfl) (by kernel_rfl) (by kernel_rfl) (fun _ _ _ h => h) (Or.inl ⟨by rfl, ?_⟩) hK0 ?_
          rotate_left
          · (intro wz hSz; (try dsimp only at hSz); go_simp; try with_reducible rfl)
          simp only [Act.put, List.setIfInBounds_toArray, List.set_cons_zero, List.set_cons_succ]
          refine wpAnyH_take (i := 3) (oi := { dst := some 38, op := Go.Op.load 25 (Go.Operand.tmp 8), type := 25, pos := "tally.go:39", after := #[], guard := none }) (v := ?_) rfl (by kernel_rfl) (by kernel_rfl) (by kernel_rfl) (fun _ _ _ h => h) (Or.inl ⟨by rfl, ?_⟩) hK0 ?_
          rotate_left
          · (intro wz hSz; obtain ⟨hcz, hcz2, hcz3⟩ := hSz; clear hcz3; go_simp; try with_reducible rfl)
          simp only [Act.put, List.setIfInBounds_toArray, List.set_cons_zero, List.set_cons_succ]
          refine wpAnyH_take (i := 4) (oi := { dst := some 39, op := Go.Op.lookup 48 (Go.Operand.tmp 37) (Go.Operand.tmp 38) false, type := 3, pos := "tally.go:39", after := #[{ on := 2, ground := Go.Ground.data }, { on := 3, ground := Go.Ground.data }], guard := none }) (v := ?_) rfl (by kernel_rfl) (by kernel_rfl) (by kernel_rfl) (fun _ _ _ h => h) (Or.inl ⟨by rfl, ?_⟩) hK0 ?_
          rotate_left
          · (intro wz hSz; obtain ⟨hcz, hcz2, hcz3⟩ := hSz; have hcz4 := HLQ.out wz hcz3; clear hcz3; go_simp; try with_reducible rfl)
          simp only [Act.put, List.setIfInBounds_toArray, List.set_cons_zero, List.set_cons_succ]
          refine wpAnyH_take (i := 5) (oi := { dst := some 40, op := Go.Op.build 30 #[(0, Go.Operand.tmp 36), (1, Go.Operand.tmp 39)], type := 30, pos := "tally.go:39", after := #[{ on := 1, ground := Go.Ground.data }, { on := 4, ground := Go.Ground.data }], guard := none }) (v := ?_) rfl (by kernel_rfl) (by kernel_rfl) (by kernel_rfl) (fun _ _ _ h => h) (Or.inl ⟨by rfl, ?_⟩) hK0 ?_
          rotate_left
          · (intro wz hSz; (try dsimp only at hSz); go_simp; try with_reducible rfl)
          simp only [Act.put, List.setIfInBounds_toArray, List.set_cons_zero, List.set_cons_succ]
          refine wpAnyH_ready (rs := [6]) (by kernel_rfl) (by simp) ?_
          refine AllReadyH.cons (o := { dst := some 41, op := Go.Op.buildSlice 27 1 #[(0, Go.Operand.tmp 40)], type := 27, pos := "tally.go:39", after := #[{ on := 5, ground := Go.Ground.data }], guard := none }) rfl (fun K hK => ?_) AllReadyH.nil
          go_simp
          obtain ⟨wq1, hwq⟩ : ∃ W : World, W = (w1.alloc (.cells #[.int .i64 x0, .int .u64 (x1 : Int), .int .i64 (c : Int)] 30)).drew := ⟨_, rfl⟩
          rw [← hwq]
          have hbq : Below w1.heap.size w1 wq1 := by rw [hwq]; exact (alloc1 _ _).drew
          have hS : (fun W : World => W.cell? ⟨eb, 0, none⟩ = some (.int .i64 x0) ∧ W.cell? ⟨eb, 1, none⟩ = some (.int .u64 (x1 : Int)) ∧ MapIs W mb l.length (fun a => (lns l).count a) D) wq1 := ⟨(hbq.cell (p := ⟨eb, 0, none⟩) HEB.out).trans g0, (hbq.cell (p := ⟨eb, 1, none⟩) HEB.out).trans g1, HM1.out.kept (grown_of hbq none) (by simp)⟩
          have hg : wq1.heap[w1.heap.size]? = some (.cells #[.int .i64 x0, .int .u64 (x1 : Int), .int .i64 (c : Int)] 30 (0, 0)) := by rw [hwq]; exact heap_alloc_new w1 _
          have HHS : Hid (W2.heap.size ≤ wq1.heap.size) := Lib.hid (Nat.le_trans HR.out.size hbq.size)
          obtain ⟨ga, hgn⟩ : ∃ g, g = w1.heap.size := ⟨_, rfl⟩
          rw [← hgn] at hg ⊢
          have HGC := Lib.hid hg
          have HOA := Lib.hid (own_below HO1.out hbq)
          have HR1 := Lib.hid (HR.out.trans (hbq.mono HR.out.size))
          have HEB1 : Hid (eb < wq1.heap.size) := Lib.hid (Nat.lt_of_lt_of_le HEB.out hbq.size)
          clear hbq hg hgn hwq
          refine hK.out _ _ hS (fun hK1 => ?_)
          clear hK K hS hK0
          refine wpAnyH_ready (rs := [7]) (by kernel_rfl) (by simp) ?_
          refine AllReadyH.cons (o := { dst := some 42, op := Go.Op.call { callee := Go.Callee.builtin Go.Builtin.append, args := #[Go.Operand.tmp 35, Go.Operand.tmp 41], argTypes := #[27, 27] }, type := 27, pos := "tally.go:39", after := #[{ on := 0, ground := Go.Ground.data }, { on := 6, ground := Go.Ground.data }], guard := none }) rfl (fun K hK => ?_) AllReadyH.nil
          have HNW := Lib.hid (World.news_of_block HGC.out)
          have H1C : Hid (∀ u ∈ ([.int .i64 x0, .int .u64 (x1 : Int), .int .i64 (c : Int)] : List Value), u.oneCell' = true) := Lib.hid (by intro u hu; simp at hu; rcases hu with rfl | rfl | rfl <;> rfl)
          have hsz : W2.heap.size ≤ wq1.heap.size := HHS.out
          refine step_append_lies _ (by rfl) (.tmp 35) (.tmp 41) 27 (by rfl) W2.heap.size 30 i0 _ 3 24 Try.underlying27 hi0 hz0 hz1 hz2 rfl (by decide) u6 ys.length (ctCells ys) (by rfl) HOA.out ⟨ga, 0, none⟩ 1 1 [.int .i64 x0, .int .u64 (x1 : Int), .int .i64 (c : Int)] (by rfl) rfl HNW.out H1C.out (by omega) (by unfold maxLen; omega) (by omega) hsz _ rfl ?_
          intro gd cap2 wq2 hown2 hg2 hat2 hlt2
          have hS : (fun W : World => W.cell? ⟨eb, 0, none⟩ = some (.int .i64 x0) ∧ W.cell? ⟨eb, 1, none⟩ = some (.int .u64 (x1 : Int)) ∧ MapIs W mb l.length (fun a => (lns l).count a) D) wq2 := by obtain ⟨q0, q1, q2⟩ := hK1; exact ⟨(World.cell?_of_block (a := ⟨eb, 0, none⟩) (hg2.block eb HEB1.out (fun e => HEO.out eb e.symm rfl))).trans q0, (World.cell?_of_block (a := ⟨eb, 1, none⟩) (hg2.block eb HEB1.out (fun e => HEO.out eb e.symm rfl))).trans q1, q2.kept hg2 (fun e => HMO.out mb e.symm rfl)⟩
          have HB4 : Hid (Below W2.heap.size W2 wq2) := Lib.hid (HR1.out.grown hg2 hsz (own_base HOA.out))
          rw [show ys.length + 1 = (ys ++ [((x0, x1), c)]).length by simp, show ctCells ys ++ [.int .i64 x0, .int .u64 (x1 : Int), .int .i64 (c : Int)] = ctCells (ys ++ [((x0, x1), c)]) by simp [ctCells]] at hown2
          have HO4 := Lib.hid hown2
          clear hown2 hg2 hat2 hlt2 HNW H1C hsz
          refine hK.out _ _ hS (fun hK2 => ?_)
          clear hK K hS hK1
          refine wpAnyH_take (i := 8) (oi := { dst := some 6, op := Go.Op.assign (Go.Operand.tmp 42), type := 27, pos := "tally.go:39", after := #[{ on := 7, ground := Go.Ground.data }, { on := 7, ground := Go.Ground.chain }, { on := 0, ground := Go.Ground.phase }, { on := 1, ground := Go.Ground.phase }, { on := 2, ground := Go.Ground.phase }, { on := 3, ground := Go.Ground.phase }, { on := 4, ground := Go.Ground.phase }, { on := 5, ground := Go.Ground.phase }, { on := 6, ground := Go.Ground.phase }, { on := 7, ground := Go.Ground.phase }], guard := none }) (v := ?_) rfl (by kernel_rfl) (by kernel_rfl) (by kernel_rfl) (fun _ _ _ h => h) (Or.inl ⟨by rfl, ?_⟩) hK2 ?_
          rotate_left
          · (intro wz hSz; (try dsimp only at hSz); go_simp; try with_reducible rfl)
          simp only [Act.put, List.setIfInBounds_toArray, List.set_cons_zero, List.set_cons_succ]
          refine wpAnyH_done (by kernel_rfl) ?_ _
          go_wp2_with fail
          go_roundg (ks.length - (k + 1))
          case rel => exact ⟨k + 1, ys ++ [((x0, x1), c)], by omega, by go_num, Nat.le_refl _, by have := HLN.out; rw [HN.out] at this; exact this, Lib.hid (by rw [show ys.length + 1 = (ys ++ [((x0, x1), c)]).length by simp]; exact HO4.out), Lib.hid (by rw [HN.out]), HB4⟩
          case measure => omega
        · obtain rfl : k = ks.length := by omega
          rw [List.take_length] at HY
          go_wp2_with fail
          go_ret
          exact ⟨ks, HKS.out, ce_of HO.out (HY.out) HB2.out.size (HMB.out ▸ HB2.out.trans (HBR.out.mono (HMB.out ▸ HB2.out.size)))⟩
end Go.Proofs.Ytpmpjimlcnpopaa.Ta
