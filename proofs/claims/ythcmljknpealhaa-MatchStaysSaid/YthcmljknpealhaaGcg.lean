/-
  A map from places to places; a range over pairs from behind; the contract of match's Compose.
  The contract of match's Compose.
  The contracts of layer 12 as its laws take them, one form each; what must be whatever is asked of it; the first forty pairs.
  A label read out of an argument; small facts for arguments of structs.
  An argument that is items, opened: its value, and what its cells hold.
  An argument that is a slice of integers, opened: its value, and what its cells hold.
  What the second form's bound on the bulk of the arguments gives: bounds on lengths.
  Arguments that are bytes or lines, opened: their values, what their cells hold, and a bound on them by their bulk.
  How long an argument's slices can be, by the reach of the form.
  An argument that is a slice of integers, opened: with its capacity, and each number's bounds.
-/
import Derived.Test.YthcmljknpealhaaGcf
import Derived.Test.YthcmljknpealhaaGcc
import Derived.Test.YthcmljknpealhaaGcd
import Derived.Maps.OwnIn
import Derived.Maps.OwnSet
import Derived.Maps.Views
import Derived.Test.YthcmljknpealhaaGca
import Derived.Deep.Slices
import Derived.Deep.Strs
import Derived.Lib.SmallJoins
import Derived.Test.YthcmljknpealhaaRows
import Derived.Lib.Strings
import Derived.Test.YthcmljknpealhaaGcb
import Derived.Deep.SlicePairs
import Derived.SizedLaws
namespace Go.Proofs.Ythcmljknpealhaa.Mt
open Go.RowKit Go.Maps Go.Shelf
open T
open N (PrIn PrIn.below prCells prCells_snoc pr_own PsEnd infoPair intLaw wf_of)
open V (drawn_below KpZ grown_of)
open I (alloc1 own_at own_below)
attribute [local go_sem] Oper.semAt_some

/-- Block mb is a map in which places lead where they lead in the pairs r. -/
def Mc (w : World) (mb n : Nat) (r : List Pr) : Prop :=
  ∃ D : DataW Unit, w.ownsMap Try.prog 3 (plainElem Try.prog 3) mb n D ∧ ∀ i : Int, Maps.has D (.int .i64 i) = (fnd r i).isSome ∧ D.atKey (.int .i64 i) (.lit (.int .i64 0)) = .lit (.int .i64 ((fnd r i).getD 0))
theorem Mc.start (w : World) : Mc (w.alloc (.map #[] 0)) w.heap.size 0 [] := ⟨.map [], World.ownsMap_made _ _ _ _, fun _ => ⟨rfl, rfl⟩⟩
theorem Mc.kept {w w' : World} {mb n : Nat} {r : List Pr} {row : Option Nat} (h : Mc w mb n r) (hg : w.grownBy w' row) (hne : some mb ≠ row) : Mc w' mb n r := by
  obtain ⟨D, h1, h2⟩ := h
  exact ⟨D, h1.kept hg hne, h2⟩
theorem Mc.lt {w : World} {mb n : Nat} {r : List Pr} (h : Mc w mb n r) : mb < w.heap.size := by
  obtain ⟨D, h1, _⟩ := h
  exact h1.lt
theorem Mc.below {w w' : World} {mb n : Nat} {r : List Pr} (h : Mc w mb n r) (hb : Below w.heap.size w w') : Mc w' mb n r := h.kept (grown_of hb none) (by simp)
theorem zeroInt (w : World) : (zeroValue 3).run Try.prog w = .ok (.int .i64 0) w := by kernel_rfl
theorem Mc.look {w : World} {mb n : Nat} {r : List Pr} (h : Mc w mb n r) {i : Int} (hi : (Lit.int .i64 i).wf = true) : (Instr.lookup 42 (.map (some mb)) (.int .i64 i) true).run Try.prog w = .ok (.tuple #[.int .i64 ((fnd r i).getD 0), .bool (fnd r i).isSome]) w := by
  obtain ⟨D, h1, h2⟩ := h
  obtain ⟨v, ps, hrun, hv⟩ := h1.look_ok intLaw Try.underlying42 (zeroInt w) (zd := .lit (.int .i64 0)) (zp := []) (plainElem_int Try.underlying3 (by decide)) (keyOf_int_mk Try.underlying3 hi)
  obtain ⟨c, rfl, hc, -⟩ := plainElem_int_inv Try.underlying3 hv
  have h3 := (congrArg Prod.fst hc).symm.trans (h2 i).2
  rw [hrun, (h2 i).1]
  simp only [DataW.lit.injEq, Lit.int.injEq, true_and] at h3
  have h4 : c = (fnd r i).getD 0 := by first | exact h3 | (simp at h3; exact h3)
  rw [h4]
theorem Mc.put {w : World} {mb n : Nat} {r : List Pr} (h : Mc w mb n r) (hl : n < maxLen) {i k : Int} (hi : (Lit.int .i64 i).wf = true) (hk : (Lit.int .i64 k).wf = true) :
    ∃ w', (Instr.mapUpdate 42 (.map (some mb)) (.int .i64 i) (.int .i64 k)).run Try.prog w = .ok () w' ∧ Mc w' mb (n + 1) ((i, k) :: r) ∧ w.grownBy w' (some mb) := by
  obtain ⟨D, h1, h2⟩ := h
  obtain ⟨w', hrun, r1, r2⟩ := h1.update intLaw Try.underlying42 hl (keyOf_int_mk Try.underlying3 hi) (plainElem_int Try.underlying3 hk)
  refine ⟨w', hrun, ⟨_, r1, fun m => ?_⟩, r2⟩
  have hkl : WideAt.IsKeyLit (.int .i64 i) := trivial
  unfold fnd
  by_cases e : i = m
  · subst e
    rw [if_pos rfl, has_put_same h1.isMap hkl, atKey_put_same h1.isMap hkl]
    exact ⟨rfl, rfl⟩
  · rw [if_neg e, has_put_other (fun q => e (by injection q with _ q; exact q.symm)), atKey_put_other (fun q => e (by injection q with _ q; exact q.symm))]
    exact h2 m

/-- A place, and a pair that is there: of numbers that are int's. -/
abbrev Wp := { z : Nat × Pr // (Lit.int .i64 z.2.1).wf = true ∧ (Lit.int .i64 z.2.2).wf = true }
def wpE (x : Wp) : Array Value := #[.int .i64 (x.1.1 : Int), .agg #[.int .i64 x.1.2.1, .int .i64 x.1.2.2]]
def WfP (q : List Pr) : Prop := ∀ z ∈ q, (Lit.int .i64 z.1).wf = true ∧ (Lit.int .i64 z.2).wf = true
def prOf (ys : List Wp) : List Pr := ys.map (·.1.2)
theorem prOf_snoc (ys : List Wp) (x : Wp) : prOf (ys ++ [x]) = prOf ys ++ [x.1.2] := by simp [prOf]
theorem rev_at {q : List Pr} {k : Nat} (hk : k < q.length) : (q.drop k).reverse = (q.drop (k + 1)).reverse ++ [q[k]] := by rw [List.drop_eq_getElem_cons hk]; simp

set_option maxRecDepth 100000 in
set_option maxHeartbeats 4000000 in
/-- The iterator's closure, for every loop body that keeps what lay below n₀ and the boxes from za on, below zb. -/
theorem back1_in (n : Nat) (hn : 1 ≤ n) (lp Bs n₀ za zb : Nat) (A : Option Addr) (cap : Nat) (q : List Pr) (hq : q.length ≤ maxLen) (hw : WfP q) (hz : za ≤ Bs ∧ Bs < zb) (J Jx : List Wp → World → Prop)
    (W : World)
    (hY : ∀ pre x W, J pre W → pre.length < q.length → YieldAt Fence.wide (n - 1) Try.prog lp (wpE x) W fun e W' =>
      (e = .returned (.bool true) ∧ J (pre ++ [x]) W' ∧ KpZ n₀ za zb W W') ∨ (e = .returned (.bool false) ∧ Jx (pre ++ [x]) W'))
    (hBs : W.heap[Bs]? = some (.cells #[.slice A q.length cap] 22 (0, 0)))
    (hI : PrLow W n₀ A q) (h0 : J [] W) :
    CallsIn Fence.wide n Try.prog 24 #[.func (.yield lp) #[] #[], .pointer (some ⟨Bs, 0, none⟩)] W fun e W' => (∃ v, e = .returned v) ∧
      ((∃ ys, prOf ys = q.reverse ∧ J ys W') ∨ (∃ pre, True ∧ Jx pre W')) := by
  unfold maxLen at hq
  have c0 := L.blk_cell hBs 0
  simp only [List.getElem?_toArray, List.getElem?_cons_zero] at c0
  have hw0 : IntKind.i64.wrap ((q.length : Int) - 1) = (q.length : Int) - 1 := by rw [IntKind.wrap_i64]; omega
  have HI := Lib.hid hI
  have HW := Lib.hid hw
  have HBS := Lib.hid hBs
  clear hI hw
  refine callsIn_of_wp Try.func24 rfl trivial ?_ rfl
  simp only [Try.ntmps24, List.size_toArray, List.length_cons, List.length_nil, Nat.reduceAdd, Nat.reduceSub, Array.replicate_succ, Array.replicate_zero, List.push_toArray, List.append_toArray, List.nil_append, List.cons_append]
  gi_wp2
  gi_loopw [3] (fun i wr => ∃ (k : Nat) (ys : List Wp), k ≤ q.length ∧ i = .int .i64 ((k : Int) - 1) ∧ prOf ys = (q.drop k).reverse ∧ J ys wr ∧ KpZ n₀ za zb W wr)
    (fun i _ => (intOf i + 1).toNat)
  case atStart => exact ⟨q.length, [], Nat.le_refl _, rfl, by simp [prOf], h0, KpZ.refl _ _ _ _⟩
  case round =>
    obtain ⟨k, ys, hk, rfl, hys, hJs, hkp⟩ := hrel
    cases k with
    | zero =>
      rw [List.drop_zero] at hys
      gi_wp2
      go_end0
      exact ⟨⟨_, rfl⟩, .inl ⟨ys, hys, hJs⟩⟩
    | succ j =>
      have hj : j < q.length := by omega
      obtain ⟨bk, off, hAe, hbk, hQ⟩ := HI.out (by omega)
      subst hAe
      obtain ⟨q0, q1⟩ := hQ j hj
      have d0 := (hkp.1.cell (p := ⟨bk, off + j * 2, none⟩) hbk).trans q0
      have d1 := (hkp.1.cell (p := ⟨bk, off + j * 2 + 1, none⟩) hbk).trans q1
      have hbs := (hkp.2 Bs hz.1 hz.2).trans HBS.out
      have b0 := L.blk_cell hbs 0
      simp only [List.getElem?_toArray, List.getElem?_cons_zero] at b0
      have hyl : ys.length < q.length := by have := congrArg List.length hys; simp [prOf] at this; omega
      obtain ⟨fn, tmps, assign, body, hy, hR⟩ := hY ys ⟨(j, q[j]), HW.out _ (List.getElem_mem hj)⟩ wr hJs hyl
      have HR := Lib.hid (show prOf (ys ++ [⟨(j, q[j]), HW.out _ (List.getElem_mem hj)⟩]) = (q.drop j).reverse by rw [prOf_snoc, hys, rev_at hj])
      simp only [wpE] at hy
      have h0j : (0 : Int) ≤ (j : Int) := by omega
      have hjn : (j : Int) < (q.length : Int) := by omega
      have hji : ((j + 1 : Nat) : Int) - 1 = (j : Int) := by omega
      have hwj : IntKind.i64.wrap ((j : Int) - 1) = (j : Int) - 1 := by rw [IntKind.wrap_i64]; omega
      rw [hji]
      clear hQ q0 q1 hbs
      generalize q[j].1 = p0 at d0 hy
      generalize q[j].2 = p1 at d1 hy
      gi_wp2
      refine hR.mono ?_
      rintro e w3 (⟨rfl, hJ3, hk3⟩ | ⟨rfl, hJx3⟩)
      · gi_wp2
        go_roundw
        case rel => exact ⟨j, _, by omega, rfl, HR.out, hJ3, hkp.t hk3⟩
        case measure => first | (simp [intOf]; done) | (simp [intOf]; omega)
      · gi_wp2
        refine bodyPost_ret (results_none rfl _ _ _) rfl ?_
        exact ⟨⟨_, rfl⟩, .inr ⟨_, trivial, hJx3⟩⟩
theorem back_in (n : Nat) (A : Option Addr) (len cap : Nat) (w : World) :
    CallsIn Fence.wide n Try.prog 18 #[.slice A len cap] w fun e w' => e = .returned (.func (.func 24) #[] #[.pointer (some ⟨w.heap.size, 0, none⟩)]) ∧
      w' = w.alloc (.cells #[.slice A len cap] 22) := by
  refine callsIn_of_wp Try.func18 rfl trivial ?_ rfl
  simp only [Try.ntmps18, List.size_toArray, List.length_cons, List.length_nil, Nat.reduceAdd, Nat.reduceSub, Array.replicate_succ, Array.replicate_zero, List.push_toArray, List.append_toArray, List.nil_append, List.cons_append]
  gi_wp2
  go_ret
  exact ⟨rfl, rfl⟩
/-- What Backward hands back tells all pairs, from behind. -/
theorem back_stops (n : Nat) (hn : 1 ≤ n) (Bs n₀ za zb : Nat) (A : Option Addr) (cap : Nat) (q : List Pr) (hq : q.length ≤ maxLen) (hw : WfP q) (w : World) (hz : za ≤ Bs ∧ Bs < zb) (hzb : zb ≤ w.heap.size) (hn₀ : n₀ ≤ w.heap.size)
    (hBs : w.heap[Bs]? = some (.cells #[.slice A q.length cap] 22 (0, 0))) (hI : PrLow w n₀ A q) :
    SeqStopsK Fence.wide n Try.prog 24 #[.pointer (some ⟨Bs, 0, none⟩)] wpE (KpZ n₀ za zb) (fun ys => prOf ys = q.reverse) (fun _ => True) q.length w := fun lp J Jx W hW _ _ hY h0 => by
  refine back1_in n hn lp Bs n₀ za zb A cap q hq hw hz J Jx W hY ((hW.block Bs (by omega)).trans hBs) (fun hp => ?_) h0
  obtain ⟨bk, off, e, hlt, hl⟩ := hI hp
  exact ⟨bk, off, e, hlt, fun j hj => ⟨(hW.cell (p := ⟨bk, off + j * 2, none⟩) (by show bk < _; omega)).trans (hl j hj).1, (hW.cell (p := ⟨bk, off + j * 2 + 1, none⟩) (by show bk < _; omega)).trans (hl j hj).2⟩⟩
end Go.Proofs.Ythcmljknpealhaa.Mt

namespace Go.Proofs.Ythcmljknpealhaa.Mt
open Go.RowKit Go.Maps Go.Shelf
open T
open N (PrIn PrIn.below prCells prCells_snoc pr_own PsEnd infoPair intLaw wf_of)
open V (drawn_below KpZ grown_of)
open I (alloc1 own_at own_below)
attribute [local go_sem] Oper.semAt_some

/-- What Compose holds while pairs come: the box of the map, and the map. -/
def cmI (b : Nat) (w : World) (pre : List Wp) (W : World) : Prop := W.heap[b + 1]? = some (.cells #[.map (some b)] 42 (0, 0)) ∧ Mc W b pre.length (prOf pre).reverse ∧ Below b w W ∧ b + 3 ≤ W.heap.size
theorem cmI_own (b : Nat) (w : World) (B : Nat) (hB : b + 3 ≤ B) : OwnFrom B (cmI b w) := fun s W W' row ⟨h1, h2, h3, h4⟩ hg hr => by
  have hne : ∀ k, k < b + 3 → some k ≠ row := fun k hk e => by have := (hr k e.symm).1; omega
  exact ⟨(hg.block (b + 1) (by omega) (hne _ (by omega))).trans h1, h2.kept hg (hne _ (by omega)), h3.grown hg (by omega) (fun k e => by have := (hr k e).1; omega), Nat.le_trans h4 hg.size⟩
theorem three (w : World) (o0 o1 o2 : Obj) : ∃ W : World, W = ((w.alloc o0).alloc o1).alloc o2 ∧ W.heap[w.heap.size]? = some o0 ∧ W.heap[w.heap.size + 1]? = some o1 ∧ W.heap[w.heap.size + 2]? = some o2 ∧ Below w.heap.size w W ∧ W.heap.size = w.heap.size + 3 := by
  refine ⟨_, rfl, ?_, ?_, ?_, ?_, ?_⟩
  · exact (Below.heap_alloc _ _ _ (by simp; omega)).trans ((Below.heap_alloc _ _ _ (by simp)).trans (heap_alloc_new _ _))
  · have := heap_alloc_new (w.alloc o0) o1
    rw [World.size_alloc] at this
    exact (Below.heap_alloc _ _ _ (by simp)).trans this
  · have := heap_alloc_new ((w.alloc o0).alloc o1) o2
    rw [World.size_alloc, World.size_alloc] at this
    exact this
  · exact ((alloc1 _ _).alloc (by simp) _).alloc (by simp; omega) _
  · simp
set_option maxRecDepth 100000 in
set_option maxHeartbeats 4000000 in
theorem comp_in (n : Nat) (hn : 6 ≤ n) (A B : Option Addr) (c c' : Nat) (p q : List Pr) (w : World) (hA : PrIn w A p) (hB : PrIn w B q) (hp : p.length ≤ 1000000) (hq : q.length ≤ 1000000) (hwq : WfP q) (hwp : WfP p) :
    CallsIn Fence.wide n Try.prog 9 #[.slice A p.length c, .slice B q.length c'] w (PsEnd w (comp p q)) := by
  have h1 : 1 ≤ n := by omega
  obtain ⟨i0, hi0, hz0, hz1, hz2⟩ := info_parts infoPair
  have hmm0 := @run_makeMap Try.prog
  obtain ⟨W0, hW0, k0, k1, k2, hB0, hsz⟩ := three w (.map #[] 0) (.cells #[.map (some w.heap.size)] 42) (.cells #[.slice B q.length c'] 22)
  refine callsIn_of_wp_marks Try.func9 rfl trivial ?_ rfl
  simp only [Try.ntmps9, List.size_toArray, List.length_cons, List.length_nil, Nat.reduceAdd, Nat.reduceSub, Array.replicate_succ, Array.replicate_zero, List.push_toArray, List.append_toArray, List.nil_append, List.cons_append]
  gi_wp2
  refine ⟨trivial, ?_⟩
  refine (back_in (n - 1) B q.length c' _).mono ?_
  rintro e w' ⟨rfl, hw'⟩
  rw [← hW0] at hw'
  subst hw'
  simp only [World.size_alloc]
  have hM0 : Mc w' w.heap.size 0 [] := by
    rw [hW0]
    exact ((Mc.start w).below (alloc1 _ _)).below (alloc1 _ _)
  clear hW0 hmm0
  have HAW := Lib.hid (hA.below hB0)
  have hIq := pr_low hB hB0
  obtain ⟨b0, hb0⟩ : ∃ b, b = w.heap.size := ⟨_, rfl⟩
  rw [← hb0] at hsz hB0 k0 k1 k2 hM0 hIq ⊢
  have HBE := Lib.hid hb0
  have HAL : Hid (PrIn w A p) := Lib.hid hA
  have hbw : b0 ≤ w.heap.size := by omega
  clear hb0 hA hB
  gi_wp2
  refine wpIn_rangeFunc_ownH rfl h1 (gf := 24) (lb := #[.pointer (some ⟨b0 + 1 + 1, 0, none⟩)]) rfl trivial (enters_of Try.func24 (by kernel_rfl) rfl)
    (back_stops (n - 1) (by omega) (b0 + 2) b0 (b0 + 1) (b0 + 3) B c' q (by unfold maxLen; omega) hwq w' (by omega) (by omega) (by omega) k2 hIq) KpZ.t (KpZ.b (by omega) (by omega)) (Below.refl _ _) (fun _ => rfl)
    (cmI b0 w)
    (fun _ _ _ => False)
    (cmI_own b0 w _ (by omega))
    (fun _ _ _ _ _ hs _ _ => hs)
    ⟨k1, hM0, hB0, by omega⟩
    (fun (x : Wp) a' W => ∃ Bx, b0 + 2 < Bx ∧ W.heap[Bx]? = some (.cells #[.int .i64 x.1.2.1, .int .i64 x.1.2.2] 40 (0, 0)) ∧ a' = { tmps := #[.slice A p.length c, .slice B q.length c', undef, undef, .slice none 0 0, .pointer (some ⟨b0 + 1, 0, none⟩), undef, .pointer (some ⟨Bx, 0, none⟩), undef, undef, undef, undef, undef, .map (some b0), .slice B q.length c', .func (.func 24) #[] #[.pointer (some ⟨b0 + 1 + 1, 0, none⟩)], .int .i64 (x.1.1 : Int), .agg #[.int .i64 x.1.2.1, .int .i64 x.1.2.2], undef, undef, undef, undef, undef, undef, undef, undef, undef, undef, undef, undef, undef, undef, undef, undef, undef, undef, undef, undef, undef, undef, undef, undef, undef, undef, undef, undef], defers := [] })
    (fun x a' _ X Y row hs hg hr => by
      obtain ⟨Bx, h1, h2, h3⟩ := hs
      exact ⟨Bx, h1, (hg.block Bx (L.blk_lt h2) (fun e => by
        obtain ⟨_, o, ho, hc⟩ := hr Bx e.symm
        rw [h2] at ho; cases ho; cases hc)).trans h2, h3⟩)
    ?assign ?body ?done ?stop
  case assign =>
    rintro lp pre x W K ⟨h1, h2, h3, h4⟩ hK
    dsimp only [wpE] at hK ⊢
    gi_wp2
    exact hK _ _ ((KeepsOthers.alloc _ _).from _) (KpZ.of (alloc1 _ _) (by omega) (by omega)) ⟨(Below.heap_alloc _ _ _ (by omega)).trans h1, h2.below (alloc1 _ _), h3.alloc (by omega) _, by simp; omega⟩ ⟨W.heap.size, by omega, heap_alloc_new W _, rfl⟩
  case body =>
    rintro lp pre x a' W hlp ⟨r, hr⟩ ⟨h1, h2, h3, h4⟩ ⟨Bx, hBx, hbX, rfl⟩ hlt
    obtain ⟨w2, hru, hM2, hg2⟩ := h2.put (by unfold maxLen; omega) x.2.1 x.2.2
    have HM2 := Lib.hid hM2
    have HG2 := Lib.hid hg2
    have e0 := L.blk_cell h1 0
    have x0 := L.blk_cell hbX 0
    have x1 := L.blk_cell hbX 1
    simp only [List.getElem?_toArray, List.getElem?_cons_zero, List.getElem?_cons_succ] at e0 x0 x1
    have H1 := Lib.hid h1
    have hpl : (pre ++ [x]).length = pre.length + 1 := by simp
    have hpr : (prOf (pre ++ [x])).reverse = x.1.2 :: (prOf pre).reverse := by rw [prOf_snoc]; simp
    obtain ⟨⟨ix, p0, p1⟩, hx⟩ := x
    simp only at hru x0 x1 ⊢
    clear hM2 hg2 h1 h2 hbX
    gi_wp2
    have hs2 := HG2.out.size
    refine ⟨KeepsFrom.of_grownBy HG2.out (fun j e => by cases e; omega), ⟨(Below.refl b0 W).grown HG2.out (by omega) (fun k e => by cases e; exact Nat.le_refl _), fun k hk1 hk2 => HG2.out.block k (by omega) (fun e => by injection e with e; omega)⟩, (HG2.out.block (b0 + 1) (by omega) (fun e => by injection e with e; omega)).trans H1.out, ?_, h3.grown HG2.out (by omega) (fun k e => by cases e; exact Nat.le_refl _), by omega⟩
    rw [hpl, hpr]
    exact HM2.out
  case done =>
    rintro D ys W hD hys ⟨h1, h2, h3, h4⟩ hK
    have hyr : (prOf ys).reverse = q := by rw [hys]; simp
    rw [hyr] at h2
    have e0 := L.blk_cell h1 0
    simp only [List.getElem?_toArray, List.getElem?_cons_zero] at e0
    have HM := Lib.hid h2
    have HX := Lib.hid h1
    have HDD := Lib.hid hK
    have HPA := Lib.hid (HAL.out.below (w' := W) (by rw [← HBE.out]; exact h3))
    have HB3 := Lib.hid h3
    have hDl := L.blk_lt hK
    clear hyr hys h1 h2 h3 hK e0
    gi_wp2
    gi_loopw [8, 11, 12, 25] (fun v _ _ i wr => ∃ (k : Nat) (ps : List Pr), k ≤ p.length ∧ i = .int .i64 k ∧ wr.ownsRow W.heap.size 40 2 v ps.length (prCells ps) ∧ Below W.heap.size W wr ∧ ps.length ≤ k ∧ Hid (comp p q = ps ++ comp (p.drop k) q))
      (fun _ _ _ i _ => p.length - (intOf i).toNat)
    case atStart => exact ⟨0, [], Nat.zero_le _, rfl, World.ownsRow_nil _ _ _ _, Below.refl _ _, Nat.le_refl _, Lib.hid rfl⟩
    case round =>
      obtain ⟨k, ps, hk, rfl, hown, hbr, hpl, HP⟩ := hrel
      by_cases hlt : k < p.length
      · obtain ⟨bk, off, hAe, hbk, hI⟩ := HPA.out (by omega)
        subst hAe
        obtain ⟨q0, q1⟩ := hI k hlt
        have c0 := (hbr.cell (p := ⟨bk, off + k * 2, none⟩) hbk).trans q0
        have c1 := (hbr.cell (p := ⟨bk, off + k * 2 + 1, none⟩) hbk).trans q1
        have HN := Lib.hid (comp_at hlt q)
        have HWF := Lib.hid ((hwp _ (List.getElem_mem hlt)).2)
        have h0k : (0 : Int) ≤ (k : Int) := by omega
        have hki : (k : Int) < (p.length : Int) := by omega
        have hsb := hbr.size
        obtain ⟨RA, rcap, rfl, -, -⟩ := own_form hown
        have HOW := Lib.hid hown
        have HBR := Lib.hid hbr
        clear hI q0 q1 hown hbr
        obtain ⟨z, hz⟩ : ∃ z, z = p[k] := ⟨_, rfl⟩
        rw [← hz] at c0 c1 HN HWF
        clear hz
        obtain ⟨p0, p1⟩ := z
        simp only at c0 c1 HN HWF
        have hmx : (wr.alloc (.cells #[.int .i64 p0, .int .i64 p1] 40)).heap[b0 + 1]? = some (.cells #[.map (some b0)] 42 (0, 0)) := (Below.heap_alloc _ _ _ (by omega)).trans ((HBR.out.block (b0 + 1) (by omega)).trans HX.out)
        have m0 := L.blk_cell hmx 0
        simp only [List.getElem?_toArray, List.getElem?_cons_zero] at m0
        have hlk := ((HM.out.below HBR.out).below (alloc1 wr (.cells #[.int .i64 p0, .int .i64 p1] 40))).look HWF.out
        obtain ⟨o, ho⟩ : ∃ o, o = fnd q p1 := ⟨_, rfl⟩
        rw [← ho] at HN hlk
        clear ho hmx
        cases o with
        | none =>
          simp only [Option.getD_none, Option.isSome_none] at hlk HN
          gi_wp2
          go_roundw
          case rel => exact ⟨k + 1, ps, by omega, by simp, own_below HOW.out (alloc1 _ _), HBR.out.trans ((alloc1 _ _).mono hsb), by omega, Lib.hid (by rw [HP.out, HN.out]; rfl)⟩
          case measure => first | (simp [intOf]; done) | (simp [intOf]; omega)
        | some v =>
          simp only [Option.getD_some, Option.isSome_some] at hlk HN
          gi_wp2_with (gi_at_builtin; refine wpListIn_append_own _ rfl (.tmp 37) (.tmp 42) 22 rfl W.heap.size 40 i0 _ 2 16 Try.underlying22 hi0 hz0 hz1 hz2 rfl (by decide) _ ps.length (prCells ps) rfl ((HOW.out.alloc _).alloc _) ⟨_, 0, none⟩ 1 1 [.int .i64 p0, .int .i64 v] rfl rfl (World.news_of_block (V.alloc_at _ (by first | rfl | simp))) (by intro u hu; simp at hu; rcases hu with rfl | rfl <;> rfl) (by unfold maxLen; omega) (by omega) (by first | omega | (simp; done) | (simp; omega)) ?_; intro v' w4 hown4 hg4 _)
          have hb4 := ((HBR.out.trans ((alloc1 _ _).mono hsb)).trans ((alloc1 _ _).mono (by simp; omega))).grown hg4 (by first | omega | (simp; omega)) (own_base HOW.out)
          have ho4 : w4.ownsRow W.heap.size 40 2 v' (ps ++ [(p0, v)]).length (prCells (ps ++ [(p0, v)])) := by rw [prCells_snoc]; simpa using hown4
          clear hown4 hg4
          gi_wp2
          go_roundw
          case rel => exact ⟨k + 1, ps ++ [(p0, v)], by omega, by simp, ho4, hb4, by simp; omega, Lib.hid (by rw [HP.out, HN.out]; simp)⟩
          case measure => first | (simp [intOf]; done) | (simp [intOf]; omega)
      · obtain rfl : k = p.length := by omega
        have HE := Lib.hid (show comp p q = ps by rw [HP.out, List.drop_length]; simp [comp])
        obtain ⟨RA, rcap, rfl, -, -⟩ := own_form hown
        have hDr := (hbr.block D hDl).trans HDD.out
        have HOW := Lib.hid hown
        have HBF := Lib.hid ((HB3.out.trans (hbr.mono (by omega))).trans (show Below b0 wr (wr.putObj D (.deferred none)) from (Below.refl b0 wr).grown (grownBy_putObj' wr D (.deferred none)) (by have := hbr.size; omega) (fun k e => by cases e; omega)))
        clear HP
        gi_wp2
        refine ⟨by simp, .inl ⟨_, _, rfl, run_takeDeferred hDr, ?_⟩⟩
        refine ⟨_, results_tmp rfl _ _ _, ?_⟩
        refine ⟨RA, rcap, by rw [HE.out]; rfl, by rw [HE.out]; exact V.own_base_le (ownsRow_putObj HOW.out _ hDr rfl) (by have := HB3.out.size; omega), by rw [← HBE.out]; exact HBF.out⟩
  case stop =>
    rintro D c pre W _ _ h _
    exact h.elim
theorem comp_any (A B : Option Addr) (c c' : Nat) (p q : List Pr) (w : World) (hA : PrIn w A p) (hB : PrIn w B q) (hp : p.length ≤ 1000000) (hq : q.length ≤ 1000000) (hwq : WfP q) (hwp : WfP p) :
    Calls Try.prog 9 #[.slice A p.length c, .slice B q.length c'] w (PsEnd w (comp p q)) := callsIn_wide.1 (comp_in 6 (Nat.le_refl _) A B c c' p q w hA hB hp hq hwq hwp)
end Go.Proofs.Ythcmljknpealhaa.Mt

namespace Go.Proofs.Ythcmljknpealhaa.Mt
open Go.RowKit
open T
open N (PrIn PrIn.below prCells prCells_snoc pr_own PsEnd infoPair rsame_any wf_of)
open V (drawn_below IntsIn)
open I (alloc1 own_at own_below)

def PrEnd (w : World) (r : List Pr) (e : Ending) (w' : World) : Prop := ∃ A cap, e = .returned (.slice A r.length cap) ∧ PrIn w' A r ∧ Below w.heap.size w w'
theorem PrEnd.of {w : World} {r : List Pr} {e : Ending} {w' : World} (h : PsEnd w r e w') : PrEnd w r e w' := by
  obtain ⟨A, cap, h1, h2, h3⟩ := h
  exact ⟨A, cap, h1, pr_own h2, h3⟩
def BoEnd (w : World) (b : Bool) (e : Ending) (w' : World) : Prop := e = .returned (.bool b) ∧ Below w.heap.size w w'
def IdC (fn : FuncId) (a b : List Int) (r : List Pr) : Prop := ∀ (w : World) (A B : Option Addr) (c c' : Nat), IntsIn w A a → IntsIn w B b → Calls Try.prog fn #[.slice A a.length c, .slice B b.length c'] w (PrEnd w r)
def CmC (fn : FuncId) (p q : List Pr) (r : List Pr) : Prop := ∀ (w : World) (A B : Option Addr) (c c' : Nat), PrIn w A p → PrIn w B q → Calls Try.prog fn #[.slice A p.length c, .slice B q.length c'] w (PrEnd w r)
def RtC (fn : FuncId) (p : List Pr) (n m : Int) (b : Bool) : Prop := ∀ (w : World) (A : Option Addr) (c : Nat), PrIn w A p → Calls Try.prog fn #[.slice A p.length c, .int .i64 n, .int .i64 m] w (BoEnd w b)
def NvC (fn : FuncId) (p : List Pr) (r : List Pr) : Prop := ∀ (w : World) (A : Option Addr) (c : Nat), PrIn w A p → Calls Try.prog fn #[.slice A p.length c] w (PrEnd w r)
def SmC (fn : FuncId) (p : List Pr) : Prop := ∀ (w : World) (A B : Option Addr) (c c' : Nat), PrIn w A p → PrIn w B p → Calls Try.prog fn #[.slice A p.length c, .slice B p.length c'] w (BoEnd w true)
theorem IdC.at {fn : FuncId} {a b : List Int} {r : List Pr} (h : IdC fn a b r) {w : World} {A B : Option Addr} (c c' : Nat) (hA : IntsIn w A a) (hB : IntsIn w B b) : Calls Try.prog fn #[.slice A a.length c, .slice B b.length c'] w (PrEnd w r) := h w A B c c' hA hB
theorem CmC.at {fn : FuncId} {p q r : List Pr} (h : CmC fn p q r) {w : World} {A B : Option Addr} (c c' : Nat) (hA : PrIn w A p) (hB : PrIn w B q) : Calls Try.prog fn #[.slice A p.length c, .slice B q.length c'] w (PrEnd w r) := h w A B c c' hA hB
theorem RtC.at {fn : FuncId} {p : List Pr} {n m : Int} {b : Bool} (h : RtC fn p n m b) {w : World} {A : Option Addr} (c : Nat) (hA : PrIn w A p) : Calls Try.prog fn #[.slice A p.length c, .int .i64 n, .int .i64 m] w (BoEnd w b) := h w A c hA
theorem NvC.at {fn : FuncId} {p r : List Pr} (h : NvC fn p r) {w : World} {A : Option Addr} (c : Nat) (hA : PrIn w A p) : Calls Try.prog fn #[.slice A p.length c] w (PrEnd w r) := h w A c hA
theorem SmC.at {fn : FuncId} {p : List Pr} (h : SmC fn p) {w : World} {A B : Option Addr} (c c' : Nat) (hA : PrIn w A p) (hB : PrIn w B p) : Calls Try.prog fn #[.slice A p.length c, .slice B p.length c'] w (BoEnd w true) := h w A B c c' hA hB

def WfI (a : List Int) : Prop := ∀ z ∈ a, -9223372036854775808 ≤ z ∧ z ≤ 9223372036854775807
theorem c_ids {a b : List Int} (ha : a.length ≤ 60) (hb : b.length ≤ 60) (hwa : WfI a) (hwb : WfI b) : IdC 11 a b (ids a b) := fun w A B c c' hA hB => (ids_any A B c c' a b w hA hB ha hb hwa hwb).mono fun _ _ h => .of h
theorem c_rids {a b : List Int} (ha : a.length ≤ 60) (hb : b.length ≤ 60) : IdC 12 a b (ids a b) := fun w A B c c' hA hB => (rids_any A B c c' a b w hA hB ha hb).mono fun _ _ h => .of h
theorem c_comp {p q : List Pr} (hp : p.length ≤ 1000000) (hq : q.length ≤ 1000000) (hwq : WfP q) (hwp : WfP p) : CmC 9 p q (comp p q) := fun w A B c c' hA hB => (comp_any A B c c' p q w hA hB hp hq hwq hwp).mono fun _ _ h => .of h
theorem c_rcomp {p q : List Pr} (hp : p.length ≤ 1000000) (hq : q.length ≤ 1000000) : CmC 10 p q (comp p q) := fun w A B c c' hA hB => (rcomp_any A B c c' p q w hA hB hp hq).mono fun _ _ h => .of h
theorem c_right {p : List Pr} (n m : Int) (hp : p.length ≤ 1000000) : RtC 13 p n m (right p n m) := fun w A c hA => right_any A c p n m w hA (by unfold maxLen; omega)
theorem c_rright {p : List Pr} (n m : Int) (hp : p.length ≤ 1000000) : RtC 14 p n m (right p n m) := fun w A c hA => rright_any A c p n m w hA (by unfold maxLen; omega)
theorem c_inv {p : List Pr} (hp : p.length ≤ 1000000) : NvC 15 p (inv p) := fun w A c hA => (inv_any A c p w hA hp).mono fun _ _ h => .of h
theorem c_same {p : List Pr} (hp : p.length ≤ 1000000) : SmC 8 p := fun w A B c c' hA hB => rsame_any A B c c' p w hA hB hp

set_option maxRecDepth 100000 in
set_option maxHeartbeats 1000000 in
theorem few_any (A : Option Addr) (a : List Pr) (c : Nat) (w : World) (ha : a.length ≤ maxLen) (hc : a.length ≤ c) :
    Calls Try.prog 6 #[.slice A a.length c] w fun e w' => e = .returned (.slice A (a.take 40).length c) ∧ w = w' := by
  unfold maxLen at ha
  obtain ⟨n, hn⟩ : ∃ n, n = a.length := ⟨_, rfl⟩
  obtain ⟨m, hm⟩ : ∃ m, m = (a.take 40).length := ⟨_, rfl⟩
  rw [List.length_take, ← hn] at hm
  have hm' : min (n : Int) 40 = (m : Int) := by omega
  have hmn : m ≤ n := by omega
  have HM : Hid ((a.take 40).length = m) := Lib.hid (by rw [List.length_take, ← hn, hm])
  rw [← hn] at ha hc ⊢
  rw [HM.out]
  clear hn hm
  go_enter Try.func6, Try.ntmps6
  go_wp2_with fail
  go_ret
  exact ⟨rfl, rfl⟩
theorem pr_take {w : World} {A : Option Addr} {a : List Pr} (h : PrIn w A a) (k : Nat) : PrIn w A (a.take k) := fun hp => by
  obtain ⟨bk, off, rfl, hlt, hI⟩ := h (by rw [List.length_take] at hp; omega)
  refine ⟨bk, off, rfl, hlt, fun j hj => ?_⟩
  simp only [List.getElem_take]
  exact hI j (by rw [List.length_take] at hj; omega)
theorem ints_take {w : World} {A : Option Addr} {a : List Int} (h : IntsIn w A a) (k : Nat) : IntsIn w A (a.take k) := fun hp => by
  obtain ⟨bk, off, rfl, hlt, hI⟩ := h (by rw [List.length_take] at hp; omega)
  refine ⟨bk, off, rfl, hlt, fun j hj => ?_⟩
  rw [List.getElem_take]
  exact hI j (by rw [List.length_take] at hj; omega)
theorem pr_block {w : World} {g : Nat} {a b c d : Int} (h : w.heap[g]? = some (.cells #[.int .i64 a, .int .i64 b, .int .i64 c, .int .i64 d] 40 (0, 0))) : PrIn w (some ⟨g, 0, none⟩) [(a, b), (c, d)] := fun _ => by
  refine ⟨g, 0, rfl, L.blk_lt h, fun j hj => ?_⟩
  have hj2 : j < 2 := hj
  match j, hj2 with
  | 0, _ => exact ⟨L.blk_cell h 0, L.blk_cell h 1⟩
  | 1, _ => exact ⟨L.blk_cell h 2, L.blk_cell h 3⟩
theorem ints_block {w : World} {g : Nat} {a b c : Int} (h : w.heap[g]? = some (.cells #[.int .i64 a, .int .i64 b, .int .i64 c] 3 (0, 0))) : IntsIn w (some ⟨g, 0, none⟩) [a, b, c] := fun _ => by
  refine ⟨g, 0, rfl, L.blk_lt h, fun j hj => ?_⟩
  have hj2 : j < 3 := hj
  match j, hj2 with
  | 0, _ => exact L.blk_cell h 0
  | 1, _ => exact L.blk_cell h 1
  | 2, _ => exact L.blk_cell h 2

def LvC (fn : FuncId) : Prop := ∀ w : World, Calls Try.prog fn #[] w (BoEnd w true)
theorem LvC.at {fn : FuncId} (h : LvC fn) (w : World) : Calls Try.prog fn #[] w (BoEnd w true) := h w
theorem ids_live : ids [7, 8, 9] [9, 7, 8] = [(0, 1), (1, 2)] := by decide
theorem gaps_live : gaps [(0, 1), (1, 2)] 3 3 = [⟨0, 0, 0, 1⟩, ⟨2, 1, 3, 0⟩] := by simp [gaps, right, rt, gp, keep]
theorem right_live : right [(0, 1), (1, 2)] 3 3 = true := by decide
set_option maxRecDepth 100000 in
set_option maxHeartbeats 4000000 in
theorem live12 : LvC 7 := fun w => by
  obtain ⟨W1, hW1⟩ : ∃ W : World, W = (w.alloc (.cells #[.int .i64 7, .int .i64 8, .int .i64 9] 3)).alloc (.cells #[.int .i64 9, .int .i64 7, .int .i64 8] 3) := ⟨_, rfl⟩
  have h0 : W1.heap[w.heap.size]? = some (.cells #[.int .i64 7, .int .i64 8, .int .i64 9] 3 (0, 0)) := by rw [hW1]; exact (L.two_blocks w _ _).1
  have h1 : W1.heap[w.heap.size + 1]? = some (.cells #[.int .i64 9, .int .i64 7, .int .i64 8] 3 (0, 0)) := by rw [hW1]; exact (L.two_blocks w _ _).2
  have HB1 := Lib.hid (show Below w.heap.size w W1 by rw [hW1]; exact (alloc1 _ _).alloc (by simp) _)
  have HID := Lib.hid ((c_ids (a := [7, 8, 9]) (b := [9, 7, 8]) (by decide) (by decide) (fun z hz => by simp at hz; omega) (fun z hz => by simp at hz; omega)).at 3 3 (ints_block h0) (ints_block h1))
  rw [ids_live] at HID
  simp only [List.length_cons, List.length_nil, Nat.zero_add, Nat.reduceAdd] at HID
  clear h0 h1
  go_enter Try.func7, Try.ntmps7
  go_wp2_with fail
  rw [← hW1]
  clear hW1
  with_reducible refine HID.out.mono ?_
  rintro e w2 ⟨P, pc, rfl, hP, hb2⟩
  have HP2 := Lib.hid hP
  have HB2 := Lib.hid (HB1.out.trans (hb2.mono HB1.out.size))
  have HGP := Lib.hid (gaps_any P pc [(0, 1), (1, 2)] 3 3 w2 hP (by decide) (by decide) (by decide))
  rw [gaps_live] at HGP
  simp only [List.length_cons, List.length_nil, Nat.zero_add, Nat.reduceAdd] at HGP ⊢
  clear hP hb2 HID HB1
  go_wp2_with fail
  with_reducible refine HGP.out.mono ?_
  rintro e w3 ⟨G, gc, rfl, hG, hb3⟩
  have HP3 := Lib.hid (HP2.out.below hb3)
  have HG3 := Lib.hid hG
  have HB3 := Lib.hid (HB2.out.trans (hb3.mono HB2.out.size))
  clear hG hb3 HGP HP2 HB2
  obtain ⟨W4, hW4⟩ : ∃ W : World, W = w3.alloc (.cells #[.int .i64 0, .int .i64 1, .int .i64 1, .int .i64 2] 40) := ⟨_, rfl⟩
  have hb4 : Below w3.heap.size w3 W4 := by rw [hW4]; exact alloc1 _ _
  have h4 : W4.heap[w3.heap.size]? = some (.cells #[.int .i64 0, .int .i64 1, .int .i64 1, .int .i64 2] 40 (0, 0)) := by rw [hW4]; exact heap_alloc_new w3 _
  have HSM := Lib.hid ((c_same (p := [(0, 1), (1, 2)]) (by decide)).at pc 2 (HP3.out.below hb4) (pr_block h4))
  have HP4 := Lib.hid (HP3.out.below hb4)
  have HG4 := Lib.hid (HG3.out.below hb4)
  have HB4 := Lib.hid (HB3.out.trans (hb4.mono HB3.out.size))
  simp only [List.length_cons, List.length_nil, Nat.zero_add, Nat.reduceAdd] at HSM ⊢
  clear hb4 h4 HP3 HG3 HB3
  go_wp2_with fail
  rw [← hW4]
  clear hW4
  with_reducible refine HSM.out.mono ?_
  rintro e w5 ⟨rfl, hb5⟩
  have HP5 := Lib.hid (HP4.out.below hb5)
  have HG5 := Lib.hid (HG4.out.below hb5)
  have HB5 := Lib.hid (HB4.out.trans (hb5.mono HB4.out.size))
  have HRT := Lib.hid ((c_right (p := [(0, 1), (1, 2)]) 3 3 (by decide)).at pc HP5.out)
  rw [right_live] at HRT
  simp only [List.length_cons, List.length_nil, Nat.zero_add, Nat.reduceAdd] at HRT
  clear hb5 HSM HP4 HG4 HB4
  go_wp2_with fail
  with_reducible refine HRT.out.mono ?_
  rintro e w6 ⟨rfl, hb6⟩
  have HB6 := Lib.hid (HB5.out.trans (hb6.mono HB5.out.size))
  obtain ⟨g, hge, hgl, hgc⟩ := (HG5.out.below hb6) (by decide)
  subst hge
  have g3 := (hgc 0 (by decide)).2.2.2
  have g5 := (hgc 1 (by decide)).2.1
  simp only [List.getElem_cons_zero, List.getElem_cons_succ, Nat.zero_mul, Nat.one_mul, Nat.zero_add, Nat.reduceAdd] at g3 g5
  clear hb6 hgc HRT HP5 HG5 HB5
  go_wp2_with fail
  go_ret
  exact ⟨rfl, HB6.out⟩
end Go.Proofs.Ythcmljknpealhaa.Mt

namespace Go.Proofs.Ythcmljknpealhaa.RP
open Go.ChangeShapes Go.WideShapes Go.ChangeAt Go.RowKit Go.Deep Go.Joins

theorem cInt : Try.prog.cellsOf 3 = 1 := by kernel_rfl
theorem cStr : Try.prog.cellsOf 9 = 1 := by kernel_rfl
theorem cBool : Try.prog.cellsOf 4 = 1 := by kernel_rfl
section
variable {H : Type} {enc : TypeId × Value → H} {w : World} {base : Nat} {spare : Nat → Bool} {held : Bool} {fuel : Nat} {cs : List Value} {x : DataW H × List MemPlace}
theorem list2 {α : Type} {l : List α} (h : l.length = 2) : ∃ a b, l = [a, b] := by
  match l, h with
  | [a, b], _ => exact ⟨a, b, rfl⟩
theorem list3 {α : Type} {l : List α} (h : l.length = 3) : ∃ a b c, l = [a, b, c] := by
  match l, h with
  | [a, b, c], _ => exact ⟨a, b, c, rfl⟩
theorem list4 {α : Type} {l : List α} (h : l.length = 4) : ∃ a b c d, l = [a, b, c, d] := by
  match l, h with
  | [a, b, c, d], _ => exact ⟨a, b, c, d, rfl⟩
theorem list9 {α : Type} {l : List α} (h : l.length = 9) : ∃ a b c d e f g i j, l = [a, b, c, d, e, f, g, i, j] := by
  match l, h with
  | [a, b, c, d, e, f, g, i, j], _ => exact ⟨a, b, c, d, e, f, g, i, j, rfl⟩
end
end Go.Proofs.Ythcmljknpealhaa.RP

namespace Go.Proofs.Ythcmljknpealhaa.RI
open Go.ChangeShapes Go.WideShapes Go.ChangeAt Go.RowKit Go.Deep Go.Joins

section
variable {H : Type} {enc : TypeId × Value → H} {w : World} {base : Nat} {spare : Nat → Bool} {held : Bool} {fuel : Nat} {cs : List Value} {x : DataW H × List MemPlace}
theorem list6 {α : Type} {l : List α} (h : l.length = 6) : ∃ a b c d e f, l = [a, b, c, d, e, f] := by
  match l, h with
  | [a, b, c, d, e, f], _ => exact ⟨a, b, c, d, e, f, rfl⟩
instance : Inhabited I.It := ⟨⟨0, 0, 0, false, [], false⟩⟩
end
end Go.Proofs.Ythcmljknpealhaa.RI

namespace Go.Proofs.Ythcmljknpealhaa.R
open Go.ChangeShapes Go.WideShapes Go.ChangeAt Go.RowKit

set_option maxRecDepth 100000 in
theorem cellsInt : Try.prog.cellsOf 3 = 1 := by kernel_rfl
set_option maxRecDepth 100000 in
theorem ints_arg {H : Type} {enc : TypeId × Value → H} {W : World} {r : Reach} {b0 base : Nat} {sp : Nat → Bool} {held : Bool} {v : Value} {d : DataW H} {p : List MemPlace}
    (hv : Value.okWide Try.prog W r b0 23 v) (h : DataW.Trod enc Try.prog W base sp held 23 v d p) :
    ∃ (A : Option Addr) (cap : Nat) (xs : List Int), v = .slice A xs.length cap ∧ xs.length ≤ maxLen ∧ (0 < xs.length → ∃ bk off, A = some ⟨bk, off, none⟩ ∧ bk < W.heap.size ∧ L.IntsAt W bk off xs) := by
  obtain ⟨a0, len, cap, rfl⟩ := okWide_slice Try.underlying23 hv
  obtain ⟨fuel, hf⟩ := h
  rcases open_ints Try.underlying23 Try.underlying3 cellsInt hf with ⟨hcs, hx⟩ | ⟨a, len', cap', zs, hcs, _, hl, hm, hz, hx, hcell, hwz⟩
  · simp only [Value.cells, List.cons.injEq, Value.slice.injEq, and_true] at hcs
    obtain ⟨rfl, rfl, rfl⟩ := hcs
    exact ⟨none, 0, [], rfl, Nat.zero_le _, fun h => absurd h (by simp)⟩
  · simp only [Value.cells, List.cons.injEq, Value.slice.injEq, and_true] at hcs
    obtain ⟨rfl, rfl, rfl⟩ := hcs
    have hle : len ≤ zs.length := by rw [hz]; split <;> omega
    have htl : (zs.take len).length = len := by rw [List.length_take]; omega
    refine ⟨some a, cap, zs.take len, by rw [htl], by rw [htl]; omega, fun hp => ?_⟩
    rw [htl] at hp
    obtain ⟨bk, off, rfl, hc⟩ := ints_at hcell (by omega)
    have h0 := hc 0 (by omega)
    refine ⟨bk, off, rfl, World.block_lt_of_cell? W ⟨bk, off + 0, none⟩ h0, fun j hj => ?_⟩
    rw [htl] at hj
    rw [hc j (by omega), List.getElem_take, List.getD_eq_getElem?_getD, List.getElem?_eq_getElem (by omega)]
    rfl
end Go.Proofs.Ythcmljknpealhaa.R

namespace Go.Proofs.Ythcmljknpealhaa.Bulk

theorem bound {H : Type} {l : List (DataW H)} (hk : Rows.uptoSmall H l = true) : Rows.uptoBulkAll l ≤ 1048576 := of_decide_eq_true hk
theorem string_bulk {H : Type} (b : List UInt8) : Rows.uptoBulk (DataW.lit (H := H) (.string b)) = b.length + 1 := by simp [Rows.uptoBulk]
/-- One text: so many bytes at the most. -/
theorem string_size {H : Type} {s : ByteArray} {r : List (DataW H)} (hk : Rows.uptoSmall H ([.lit (.string s.data.toList)] ++ r) = true) : s.size ≤ 1048576 := by
  have h := bound hk
  simp only [List.cons_append, List.nil_append, Rows.uptoBulkAll, string_bulk] at h
  have := Lib.size_eq s
  omega
/-- A text behind one or two other arguments. -/
theorem string_size2 {H : Type} {a : DataW H} {s : ByteArray} {r : List (DataW H)} (hk : Rows.uptoSmall H ([a, .lit (.string s.data.toList)] ++ r) = true) : s.size ≤ 1048576 := by
  have h := bound hk
  simp only [List.cons_append, List.nil_append, Rows.uptoBulkAll, string_bulk] at h
  have := Lib.size_eq s
  omega
theorem string_size3 {H : Type} {a b : DataW H} {s : ByteArray} {r : List (DataW H)} (hk : Rows.uptoSmall H ([a, b, .lit (.string s.data.toList)] ++ r) = true) : s.size ≤ 1048576 := by
  have h := bound hk
  simp only [List.cons_append, List.nil_append, Rows.uptoBulkAll, string_bulk] at h
  have := Lib.size_eq s
  omega
/-- One or two arguments, whatever they are. -/
theorem one {H : Type} {a : DataW H} {r : List (DataW H)} (hk : Rows.uptoSmall H ([a] ++ r) = true) : Rows.uptoBulk a ≤ 1048576 := by
  have h := bound hk
  simp only [List.cons_append, List.nil_append, Rows.uptoBulkAll] at h
  omega
theorem two {H : Type} {a b : DataW H} {r : List (DataW H)} (hk : Rows.uptoSmall H ([a, b] ++ r) = true) : Rows.uptoBulk a ≤ 1048576 ∧ Rows.uptoBulk b ≤ 1048576 := by
  have h := bound hk
  simp only [List.cons_append, List.nil_append, Rows.uptoBulkAll] at h
  omega
end Go.Proofs.Ythcmljknpealhaa.Bulk

namespace Go.Proofs.Ythcmljknpealhaa.R
open Go.ChangeShapes Go.WideShapes Go.ChangeAt Go.RowKit

theorem cellsByte : Try.prog.cellsOf 5 = 1 := by kernel_rfl
theorem cellsStr : Try.prog.cellsOf 9 = 1 := by kernel_rfl
theorem cellsBool : Try.prog.cellsOf 4 = 1 := by kernel_rfl
theorem bulk_lits {H : Type} (k : IntKind) : ∀ zs : List Int, Rows.uptoBulkAll (lits (H := H) k zs) = zs.length
  | [] => rfl
  | z :: r => by
    have := bulk_lits (H := H) k r
    simp only [lits, List.map_cons, Rows.uptoBulkAll, Rows.uptoBulk, List.length_cons] at this ⊢
    omega
def textOf : Value → List UInt8
  | .string s => s.data.toList
  | _ => []
def bareOf : Value → Bool
  | .bool b => b
  | _ => false
theorem bulk_pairs {H : Type} (D0 D1 : Nat → DataW H) (f : Nat → List UInt8 × Bool) : ∀ is : List Nat, (∀ i ∈ is, D0 i = .lit (.string (f i).1)) → P.bulk (is.map f) ≤ Rows.uptoBulkAll (is.map fun i => .agg [D0 i, D1 i])
  | [], _ => Nat.le_refl _
  | i :: r, h => by
    have ih := bulk_pairs D0 D1 f r (fun j hj => h j (by simp [hj]))
    rw [List.map_cons, List.map_cons, show f i = ((f i).1, (f i).2) from rfl, P.bulk]
    simp only [Rows.uptoBulkAll, Rows.uptoBulk, h i (by simp)]
    omega
end Go.Proofs.Ythcmljknpealhaa.R

namespace Go.Proofs.Ythcmljknpealhaa.RZ
set_option linter.unusedVariables false
set_option linter.unusedSimpArgs false
open Go.ChangeShapes Go.WideShapes Go.ChangeAt Go.RowKit Go.Joins
section
variable {H : Type} {enc : TypeId × Value → H} {w : World} {base : Nat} {spare : Nat → Bool} {held : Bool}
theorem slice_shape {t e : TypeId} {A : Option Addr} {n cap : Nat} {d : DataW H} {p : List MemPlace} (hu : Try.prog.underlying t = some (.slice e)) (h : DataW.Trod enc Try.prog w base spare held t (.slice A n cap) d p) :
    (n = 0 ∧ d = .nil) ∨ ∃ es sp, d = .slice es sp ∧ es.length = n := by
  obtain ⟨fuel, hf⟩ := h
  rcases Deep.open_slice hu hf with ⟨hcs, hx⟩ | ⟨a, len, cap', m, k, D, Pl, hcs, _, _, _, _, hx, _⟩
  · simp only [Value.cells, List.cons.injEq, Value.slice.injEq, and_true] at hcs
    obtain ⟨rfl, rfl, rfl⟩ := hcs
    injection hx with h1 h2
    exact .inl ⟨rfl, h1⟩
  · simp only [Value.cells, List.cons.injEq, Value.slice.injEq, and_true] at hcs
    obtain ⟨rfl, rfl, rfl⟩ := hcs
    injection hx with h1 h2
    exact .inr ⟨_, _, h1, by simp⟩
theorem slice_size {ts : List TypeId} {ds : List (DataW H)} (hs : (DataW.weightsEach Try.prog ts ds).all (· ≤ reachBytes) = true) {j : Nat} {t e : TypeId} {A : Option Addr} {n cap : Nat} {d : DataW H} {p : List MemPlace} (ht : ts[j]? = some t) (hd : ds[j]? = some d) (hu : Try.prog.underlying t = some (.slice e)) (h : DataW.Trod enc Try.prog w base spare held t (.slice A n cap) d p) :
    n * Try.prog.bytesOf e ≤ reachBytes := by
  rcases slice_shape hu h with ⟨rfl, -⟩ | ⟨es, sp, rfl, rfl⟩
  · simp
  · exact Nat.le_trans (Nat.mul_le_mul_right _ (Nat.le_add_right _ _)) (sized_slice hs ht hd hu)
theorem bytesInt : Try.prog.bytesOf 3 = 8 := by kernel_rfl
theorem ints_size {ts : List TypeId} {ds : List (DataW H)} (hs : (DataW.weightsEach Try.prog ts ds).all (· ≤ reachBytes) = true) {j : Nat} {A : Option Addr} {n cap : Nat} {d : DataW H} {p : List MemPlace} (ht : ts[j]? = some 23) (hd : ds[j]? = some d) (h : DataW.Trod enc Try.prog w base spare held 23 (.slice A n cap) d p) : n * 8 ≤ 140737488351232 := by
  have := slice_size hs ht hd Try.underlying23 h
  rw [bytesInt] at this
  exact this
end
end Go.Proofs.Ythcmljknpealhaa.RZ

namespace Go.Proofs.Ythcmljknpealhaa.RZ
open Go.ChangeShapes Go.WideShapes Go.ChangeAt Go.RowKit Go.Joins
set_option maxRecDepth 100000 in
theorem ints_argC {H : Type} {enc : TypeId × Value → H} {W : World} {r : Reach} {b0 base : Nat} {sp : Nat → Bool} {held : Bool} {v : Value} {d : DataW H} {p : List MemPlace}
    (hv : Value.okWide Try.prog W r b0 23 v) (h : DataW.Trod enc Try.prog W base sp held 23 v d p) :
    ∃ (A : Option Addr) (cap : Nat) (xs : List Int), v = .slice A xs.length cap ∧ xs.length ≤ maxLen ∧ xs.length ≤ cap ∧ V.IntsIn W A xs ∧ ∀ x ∈ xs, -9223372036854775808 ≤ x ∧ x ≤ 9223372036854775807 := by
  obtain ⟨a0, len, cap, rfl⟩ := okWide_slice Try.underlying23 hv
  obtain ⟨fuel, hf⟩ := h
  rcases open_ints Try.underlying23 Try.underlying3 R.cellsInt hf with ⟨hcs, hx⟩ | ⟨a, len', cap', zs, hcs, _, hl, hm, hz, hx, hcell, hwz⟩
  · simp only [Value.cells, List.cons.injEq, Value.slice.injEq, and_true] at hcs
    obtain ⟨rfl, rfl, rfl⟩ := hcs
    exact ⟨none, 0, [], rfl, Nat.zero_le _, Nat.le_refl _, fun h => absurd h (by simp), fun x hx => by simp at hx⟩
  · simp only [Value.cells, List.cons.injEq, Value.slice.injEq, and_true] at hcs
    obtain ⟨rfl, rfl, rfl⟩ := hcs
    have hle : len ≤ zs.length := by rw [hz]; split <;> omega
    have htl : (zs.take len).length = len := by rw [List.length_take]; omega
    refine ⟨some a, cap, zs.take len, by rw [htl], by rw [htl]; omega, by rw [htl]; exact hl, fun hp => ?_, fun x hx => ?_⟩
    · rw [htl] at hp
      obtain ⟨bk, off, rfl, hc⟩ := ints_at hcell (by omega)
      have h0 := hc 0 (by omega)
      refine ⟨bk, off, rfl, World.block_lt_of_cell? W ⟨bk, off + 0, none⟩ h0, fun j hj => ?_⟩
      rw [htl] at hj
      rw [hc j (by omega), List.getElem_take, List.getD_eq_getElem?_getD, List.getElem?_eq_getElem (by omega)]
      rfl
    · exact bounds_i64 (hwz x (List.mem_of_mem_take hx))
end Go.Proofs.Ythcmljknpealhaa.RZ
