/-
  The contracts of merge.lines and merge.whole: the lines of a piece, the lines of pieces.
-/
import Derived.Test.YtkflhcfopejigaaGgr
import Derived.Test.YtkflhcfopejigaaGgi
import Derived.Test.YtkflhcfopejigaaGgn
namespace Go.Proofs.Ytkflhcfopejigaa.Mg
set_option linter.unusedVariables false
set_option linter.unusedSimpArgs false
open Go.RowKit
open T
open V (grown_of IntsIn numCells numCells_snoc ints_own drawn_below)
open I (alloc1 own_at own_below)
open Ck

def LsEnd (w : World) (l : List Ln) (e : Ending) (w' : World) : Prop := ∃ C cc, e = .returned (.slice C l.length cc) ∧ LinesIn w' C l ∧ (C = none → cc = 0) ∧ Below w.heap.size w w'
set_option maxRecDepth 100000 in
set_option maxHeartbeats 4000000 in
theorem lines_any {O A B : Option Addr} {co ca cb : Nat} {o a b : List Ln} (x : Pc) (w : World) (ho : Tx w O co o) (ha : Tx w A ca a) (hb : Tx w B cb b) (hc : In3 x.ck o a b) (lo : o.length ≤ 10000) (la : a.length ≤ 10000) (lb : b.length ≤ 10000) :
    Calls Try.prog 48 #[pcV x, .slice O o.length co, .slice A a.length ca, .slice B b.length cb] w (LsEnd w (plines o a b x)) := by
  obtain ⟨W0, hW0⟩ : ∃ W : World, W = w.alloc (.cells #[.int .i64 x.sd, .bool x.ck.st, .int .i64 x.ck.o, .int .i64 x.ck.on, .int .i64 x.ck.a, .int .i64 x.ck.an, .int .i64 x.ck.b, .int .i64 x.ck.bn] 43) := ⟨_, rfl⟩
  have hb0 : Below w.heap.size w W0 := by rw [hW0]; exact alloc1 _ _
  have HB0 := Lib.hid hb0
  have hx : W0.heap[w.heap.size]? = some (.cells #[.int .i64 x.sd, .bool x.ck.st, .int .i64 x.ck.o, .int .i64 x.ck.on, .int .i64 x.ck.a, .int .i64 x.ck.an, .int .i64 x.ck.b, .int .i64 x.ck.bn] 43 (0, 0)) := by rw [hW0]; exact heap_alloc_new w _
  have HST := Lib.hid (stretches_any W0 (ho.below hb0) (ha.below hb0) (hb.below hb0) hc)
  have TX := Lib.hid (cut_tx (ho.below hb0) hc.fo)
  have TY := Lib.hid (cut_tx (ha.below hb0) hc.fa)
  have TZ := Lib.hid (cut_tx (hb.below hb0) hc.fb)
  have HLX : Hid ((cutl o x.ck.o x.ck.on).length ≤ 10000 ∧ (cutl a x.ck.a x.ck.an).length ≤ 10000 ∧ (cutl b x.ck.b x.ck.bn).length ≤ 10000) := Lib.hid (by
    unfold cutl; simp only [List.length_take, List.length_drop]; omega)
  have HPL : Hid (plines o a b x = if x.sd = 2 then cutl a x.ck.a x.ck.an else if x.sd = 4 then mMine :: cutl a x.ck.a x.ck.an ++ mBase :: cutl o x.ck.o x.ck.on ++ mThen :: cutl b x.ck.b x.ck.bn ++ [mLast] else cutl b x.ck.b x.ck.bn) := Lib.hid rfl
  generalize plines o a b x = pl at *
  obtain ⟨n1, hn1⟩ : ∃ n, n = o.length := ⟨_, rfl⟩
  obtain ⟨n2, hn2⟩ : ∃ n, n = a.length := ⟨_, rfl⟩
  obtain ⟨n3, hn3⟩ : ∃ n, n = b.length := ⟨_, rfl⟩
  rw [← hn1, ← hn2, ← hn3] at HST ⊢
  clear ho ha hb hb0 hc hn1 hn2 hn3 lo la lb
  obtain ⟨sd, cst, c1, c2, c3, c4, c5, c6⟩ := x
  simp only [ckV, pcV] at *
  generalize cutl o c1 c2 = x at *
  generalize cutl a c3 c4 = y at *
  generalize cutl b c5 c6 = z at *
  generalize cutP O c1 c2 = X at *
  generalize cutP A c3 c4 = Y at *
  generalize cutP B c5 c6 = Z at *
  have d0 := L.blk_cell hx 0
  have d1 := L.blk_cell hx 1
  have d2 := L.blk_cell hx 2
  have d3 := L.blk_cell hx 3
  have d4 := L.blk_cell hx 4
  have d5 := L.blk_cell hx 5
  have d6 := L.blk_cell hx 6
  have d7 := L.blk_cell hx 7
  simp only [List.getElem?_toArray, List.getElem?_cons_zero, List.getElem?_cons_succ] at d0 d1 d2 d3 d4 d5 d6 d7
  go_enter Try.func48, Try.ntmps48
  go_wp2_with fail
  rw [← hW0]
  clear hW0
  go_wp2_with fail
  with_reducible refine HST.out.mono ?_
  rintro e w1 ⟨rfl, hb1⟩
  have HB1 := Lib.hid (HB0.out.trans (hb1.mono HB0.out.size))
  replace TX := Lib.hid (TX.out.below hb1)
  replace TY := Lib.hid (TY.out.below hb1)
  replace TZ := Lib.hid (TZ.out.below hb1)
  have hx1 := (hb1.block _ (L.blk_lt hx)).trans hx
  have f0 := L.blk_cell hx1 0
  simp only [List.getElem?_toArray, List.getElem?_cons_zero] at f0
  clear HST hb1 HB0 hx d0 d1 d2 d3 d4 d5 d6 d7 hx1
  by_cases h2 : sd = 2
  · subst h2
    have HV := Lib.hid (HPL.out.trans (if_pos rfl))
    clear HPL
    go_wp2_with fail
    go_ret
    rw [HV.out]
    exact ⟨Y, y.length, rfl, TY.out.i, TY.out.z, HB1.out⟩
  · have HV := Lib.hid (HPL.out.trans (if_neg h2))
    clear HPL
    by_cases h4 : sd = 4
    · subst h4
      have HV2 := Lib.hid (HV.out.trans (if_pos rfl))
      clear HV h2
      go_wp2_with fail
      with_reducible refine (mark_any _ _).mono ?_
      rintro e w2 ⟨rfl, hm, hb2⟩
      have HM1 := Lib.hid hm
      have HB2 := Lib.hid (HB1.out.trans (hb2.mono HB1.out.size))
      replace TX := Lib.hid (TX.out.below hb2)
      replace TY := Lib.hid (TY.out.below hb2)
      replace TZ := Lib.hid (TZ.out.below hb2)
      clear hm hb2 HB1 f0
      go_wp2_with fail
      with_reducible refine (mark_any _ _).mono ?_
      rintro e w3 ⟨rfl, hm, hb3⟩
      have HM2 := Lib.hid hm
      have HB3 := Lib.hid (HB2.out.trans (hb3.mono HB2.out.size))
      replace TX := Lib.hid (TX.out.below hb3)
      replace TY := Lib.hid (TY.out.below hb3)
      replace TZ := Lib.hid (TZ.out.below hb3)
      replace HM1 := Lib.hid (HM1.out.below hb3)
      clear hm hb3 HB2
      go_wp2_with fail
      with_reducible refine (mark_any _ _).mono ?_
      rintro e w4 ⟨rfl, hm, hb4⟩
      have HM3 := Lib.hid hm
      have HB4 := Lib.hid (HB3.out.trans (hb4.mono HB3.out.size))
      replace TX := Lib.hid (TX.out.below hb4)
      replace TY := Lib.hid (TY.out.below hb4)
      replace TZ := Lib.hid (TZ.out.below hb4)
      replace HM1 := Lib.hid (HM1.out.below hb4)
      replace HM2 := Lib.hid (HM2.out.below hb4)
      clear hm hb4 HB3
      go_wp2_with fail
      with_reducible refine (mark_any _ _).mono ?_
      rintro e w5 ⟨rfl, hm, hb5⟩
      have HM4 := Lib.hid hm
      have HB5 := Lib.hid (HB4.out.trans (hb5.mono HB4.out.size))
      replace TX := Lib.hid (TX.out.below hb5)
      replace TY := Lib.hid (TY.out.below hb5)
      replace TZ := Lib.hid (TZ.out.below hb5)
      replace HM1 := Lib.hid (HM1.out.below hb5)
      replace HM2 := Lib.hid (HM2.out.below hb5)
      replace HM3 := Lib.hid (HM3.out.below hb5)
      clear hm hb5 HB4
      generalize w1.heap.size = g1 at *
      generalize w2.heap.size = g2 at *
      generalize w3.heap.size = g3 at *
      generalize w4.heap.size = g4 at *
      obtain ⟨W6, hW6⟩ : ∃ W : World, W = w5.alloc (.cells #[.slice (some ⟨g1, 0, none⟩) 1 1, .slice Y y.length y.length, .slice (some ⟨g2, 0, none⟩) 1 1, .slice X x.length x.length, .slice (some ⟨g3, 0, none⟩) 1 1, .slice Z z.length z.length, .slice (some ⟨g4, 0, none⟩) 1 1] 22) := ⟨_, rfl⟩
      have hb6 : Below w5.heap.size w5 W6 := by rw [hW6]; exact alloc1 _ _
      have hx6 : W6.heap[w5.heap.size]? = some (.cells #[.slice (some ⟨g1, 0, none⟩) 1 1, .slice Y y.length y.length, .slice (some ⟨g2, 0, none⟩) 1 1, .slice X x.length x.length, .slice (some ⟨g3, 0, none⟩) 1 1, .slice Z z.length z.length, .slice (some ⟨g4, 0, none⟩) 1 1] 22 (0, 0)) := by rw [hW6]; exact heap_alloc_new w5 _
      have HB6 := Lib.hid (HB5.out.trans (hb6.mono HB5.out.size))
      have hls : LsZ W6 (some ⟨w5.heap.size, 0, none⟩) [[mMine], y, [mBase], x, [mThen], z, [mLast]] := fun _ => by
        refine ⟨_, 0, rfl, L.blk_lt hx6, fun j hj => ?_⟩
        simp only [Nat.zero_add]
        match j, hj with
        | 0, _ => exact ⟨_, _, L.blk_cell hx6 0, HM1.out.below hb6, fun e => by cases e⟩
        | 1, _ => exact ⟨_, _, L.blk_cell hx6 1, TY.out.i.below hb6, TY.out.z⟩
        | 2, _ => exact ⟨_, _, L.blk_cell hx6 2, HM2.out.below hb6, fun e => by cases e⟩
        | 3, _ => exact ⟨_, _, L.blk_cell hx6 3, TX.out.i.below hb6, TX.out.z⟩
        | 4, _ => exact ⟨_, _, L.blk_cell hx6 4, HM3.out.below hb6, fun e => by cases e⟩
        | 5, _ => exact ⟨_, _, L.blk_cell hx6 5, TZ.out.i.below hb6, TZ.out.z⟩
        | 6, _ => exact ⟨_, _, L.blk_cell hx6 6, HM4.out.below hb6, fun e => by cases e⟩
      have hfl : [[mMine], y, [mBase], x, [mThen], z, [mLast]].flatten = pl := by rw [HV2.out]; simp
      have hll : pl.length = y.length + x.length + z.length + 4 := by rw [HV2.out]; simp; omega
      have HCC := Lib.hid (concat_any (some ⟨w5.heap.size, 0, none⟩) 7 [[mMine], y, [mBase], x, [mThen], z, [mLast]] pl W6 hfl hls (by simp) (by rw [hll]; omega) (by rw [hll]; have := HLX.out; omega))
      have HLP : Hid (0 < pl.length) := Lib.hid (by omega)
      simp only [List.length_cons, List.length_nil, Nat.zero_add, Nat.reduceAdd] at HCC
      clear hls hfl hll hb6 hx6 HM1 HM2 HM3 HM4 TX TY TZ HV2 HB5
      go_wp2_with fail
      rw [← hW6]
      clear hW6
      go_wp2_with fail
      with_reducible refine HCC.out.mono ?_
      rintro e w7 ⟨C, cc, rfl, ho7, hb7⟩
      have HO7 := Lib.hid (own_lines2 ho7)
      have HB7 := Lib.hid (HB6.out.trans (hb7.mono HB6.out.size))
      clear ho7 hb7
      go_wp2_with fail
      go_ret
      exact ⟨C, cc, rfl, HO7.out, (fun e => by obtain ⟨_, _, h, _⟩ := HO7.out HLP.out; rw [e] at h; cases h), HB7.out⟩
    · have HV2 := Lib.hid (HV.out.trans (if_neg h4))
      clear HV
      go_wp2_with fail
      go_ret
      rw [HV2.out]
      exact ⟨Z, z.length, rfl, TZ.out.i, TZ.out.z, HB1.out⟩

/-! Only the last line stays Bare. -/
def unb (k : Nat) (l : List Ln) : List Ln := (l.take k).map (fun x => (x.1, false)) ++ l.drop k
theorem unb_zero (l : List Ln) : unb 0 l = l := by simp [unb]
theorem unb_len (k : Nat) (l : List Ln) : (unb k l).length = l.length := by simp [unb]; omega
theorem unb_at {k : Nat} {l : List Ln} (h : k < l.length) : ∃ h', (unb k l)[k]'h' = l[k] := by
  refine ⟨by rw [unb_len]; exact h, ?_⟩
  unfold unb
  rw [List.getElem_append_right (by simp; omega)]
  simp only [List.length_map, List.length_take, List.getElem_drop]
  congr 1
  omega
theorem unb_next {k : Nat} {l : List Ln} (h : k < l.length) : unb (k + 1) l = (unb k l).set k (l[k].1, false) := by
  unfold unb
  rw [List.set_append_right _ _ (by simp; omega), List.take_succ_eq_append_getElem h, List.map_append]
  have e : k - ((l.take k).map fun x => (x.1, false)).length = 0 := by simp; omega
  rw [e, List.drop_eq_getElem_cons h]
  simp only [List.map_cons, List.map_nil, List.set_cons_zero, List.append_assoc, List.singleton_append]
theorem unb_all : ∀ (l : List Ln), unb (l.length - 1) l = bared l
  | [] => rfl
  | [x] => rfl
  | x :: y :: r => by
    have ih := unb_all (y :: r)
    rw [bared, ← ih]
    simp [unb]
theorem lineCells_set : ∀ (l : List Ln) (k : Nat) (h : k < l.length) (b : Bool), (lineCells l).set (k * 2 + 1) (.bool b) = lineCells (l.set k (l[k].1, b))
  | x :: r, 0, h, b => by simp [lineCells]
  | x :: r, k + 1, h, b => by
    have ih := lineCells_set r k (by simpa using h) b
    have e : lineCells (x :: r) = .string ⟨x.1.toArray⟩ :: .bool x.2 :: lineCells r := by simp [lineCells]
    rw [e, show (k + 1) * 2 + 1 = (k * 2 + 1) + 1 + 1 by omega, List.set_cons_succ, List.set_cons_succ, ih]
    simp [lineCells]
theorem own_free {w : World} {base g n cap size : Nat} {e : TypeId} {xs : List Value} (h : w.ownsRow base e size (.slice (some ⟨g, 0, none⟩) n cap) n xs) (j : Nat) : w.frozen? ⟨g, j, none⟩ = false := by
  rcases h.2 with ⟨h', _⟩ | ⟨g', cap', cur, h', hb, hg, hnc, hcm, hcs, htake⟩
  · simp at h'
  · simp only [Value.slice.injEq, Option.some.injEq, Addr.mk.injEq, and_true, true_and] at h'
    obtain ⟨rfl, rfl⟩ := h'
    exact L.blk_free hg j
def fp (f : Pc → List Ln) (l : List Pc) (k : Nat) : List Ln := (l.take k).flatMap f
theorem fp_all (f : Pc → List Ln) (l : List Pc) : fp f l l.length = l.flatMap f := by rw [fp, List.take_length]
theorem fp_zero (f : Pc → List Ln) (l : List Pc) : fp f l 0 = [] := rfl
theorem pl_take {l : List Pc} {f : Pc → List Ln} {k : Nat} (hk : k < l.length) : fp f l (k + 1) = fp f l k ++ f (l[k]) := by
  rw [fp, fp, List.take_succ_eq_append_getElem hk, List.flatMap_append]
  simp only [List.flatMap_cons, List.flatMap_nil, List.append_nil]
theorem pl_le {l : List Pc} {f : Pc → List Ln} (k : Nat) : (fp f l k).length ≤ (l.flatMap f).length := by
  have : l.flatMap f = fp f l k ++ (l.drop k).flatMap f := by rw [fp, ← List.flatMap_append, List.take_append_drop]
  rw [this, List.length_append]; omega
set_option maxRecDepth 100000 in
set_option maxHeartbeats 8000000 in
theorem whole_any {PA O A B : Option Addr} {cp co ca cb : Nat} {l : List Pc} {o a b : List Ln} (w : World) (hP : PcIn w PA l) (ho : Tx w O co o) (ha : Tx w A ca a) (hb : Tx w B cb b) (hr : ∀ x ∈ l, In3 x.ck o a b) (lo : o.length ≤ 10000) (la : a.length ≤ 10000) (lb : b.length ≤ 10000) (hl : l.length ≤ 100000) (ht : (l.flatMap (plines o a b)).length ≤ 900000) :
    Calls Try.prog 32 #[.slice PA l.length cp, .slice O o.length co, .slice A a.length ca, .slice B b.length cb] w fun e w' => ∃ C cc, e = .returned (.slice C (whole l o a b).length cc) ∧ LinesIn w' C (whole l o a b) ∧ Below w.heap.size w w' := by
  have HP := Lib.hid hP
  have HLI := Lib.hid (fun (x : Pc) (hx : x ∈ l) (W : World) (h : Below w.heap.size w W) => lines_any x W (ho.below h) (ha.below h) (hb.below h) (hr x hx) lo la lb)
  have HLE := Lib.hid (fun k => Nat.le_trans (pl_le (l := l) (f := plines o a b) k) ht)
  have HWH : Hid (whole l o a b = bared (l.flatMap (plines o a b))) := Lib.hid rfl
  have HTK := Lib.hid (fun (k : Nat) (hk : k < l.length) => pl_take (f := plines o a b) hk)
  have HPF : Hid (plines o a b = plines o a b) := Lib.hid rfl
  generalize whole l o a b = wh at *
  generalize plines o a b = pf at *
  obtain ⟨n1, hn1⟩ : ∃ n, n = o.length := ⟨_, rfl⟩
  obtain ⟨n2, hn2⟩ : ∃ n, n = a.length := ⟨_, rfl⟩
  obtain ⟨n3, hn3⟩ : ∃ n, n = b.length := ⟨_, rfl⟩
  rw [← hn1, ← hn2, ← hn3] at HLI ⊢
  clear hP ho ha hb hr lo la lb hn1 hn2 hn3 HPF
  go_enter Try.func32, Try.ntmps32
  go_wp2_with fail
  go_loopg [9, 15] l.length (fun m v i wr => ∃ (k : Nat) (VA : Option Addr) (vc : Nat), k ≤ l.length ∧ i = .int .i64 (k : Int) ∧ v = .slice VA (fp pf l k).length vc ∧ l.length - k ≤ m ∧ wr.ownsRow w.heap.size 51 2 (.slice VA (fp pf l k).length vc) (fp pf l k).length (lineCells (fp pf l k)) ∧ Below w.heap.size w wr)
  case atStart => exact ⟨0, none, 0, Nat.zero_le _, rfl, rfl, by omega, World.ownsRow_nil _ _ _ _, Below.refl _ _⟩
  case round =>
    obtain ⟨k, VA, vc, hk, rfl, rfl, hm, hown, hbr⟩ := hrel
    by_cases hlt : k < l.length
    · obtain ⟨bk, off, hAe, hbk, hI⟩ := HP.out (by omega)
      subst hAe
      obtain ⟨q0, q1, q2, q3, q4, q5, q6, q7⟩ := hI k hlt
      have g0 := (hbr.cell (p := ⟨bk, _, none⟩) hbk).trans q0
      have g1 := (hbr.cell (p := ⟨bk, _, none⟩) hbk).trans q1
      have g2 := (hbr.cell (p := ⟨bk, _, none⟩) hbk).trans q2
      have g3 := (hbr.cell (p := ⟨bk, _, none⟩) hbk).trans q3
      have g4 := (hbr.cell (p := ⟨bk, _, none⟩) hbk).trans q4
      have g5 := (hbr.cell (p := ⟨bk, _, none⟩) hbk).trans q5
      have g6 := (hbr.cell (p := ⟨bk, _, none⟩) hbk).trans q6
      have g7 := (hbr.cell (p := ⟨bk, _, none⟩) hbk).trans q7
      have HT := Lib.hid (HTK.out k hlt)
      have h1 := HLE.out (k + 1)
      rw [HT.out, List.length_append] at h1
      have HX := Lib.hid (HLI.out (l[k]'hlt) (List.getElem_mem hlt))
      obtain ⟨x, hx⟩ : ∃ x, x = l[k]'hlt := ⟨_, rfl⟩
      rw [← hx] at g0 g1 g2 g3 g4 g5 g6 g7 HT HX h1
      obtain ⟨pl, hpl⟩ : ∃ pl, pl = pf x := ⟨_, rfl⟩
      rw [← hpl] at HT HX h1
      clear hpl
      obtain ⟨sd, x0, x1, x2, x3, x4, x5, x6⟩ := x
      simp only [pcV] at g0 g1 g2 g3 g4 g5 g6 g7 HX
      obtain ⟨W1, hW1⟩ : ∃ W : World, W = wr.alloc (.cells #[.int .i64 sd, .bool x0, .int .i64 x1, .int .i64 x2, .int .i64 x3, .int .i64 x4, .int .i64 x5, .int .i64 x6] 43) := ⟨_, rfl⟩
      have hb1 : Below wr.heap.size wr W1 := by rw [hW1]; exact alloc1 _ _
      have HB1 := Lib.hid (hbr.trans (hb1.mono hbr.size))
      have hx1 : W1.heap[wr.heap.size]? = some (.cells #[.int .i64 sd, .bool x0, .int .i64 x1, .int .i64 x2, .int .i64 x3, .int .i64 x4, .int .i64 x5, .int .i64 x6] 43 (0, 0)) := by rw [hW1]; exact heap_alloc_new wr _
      have HOW := Lib.hid (own_below hown hb1)
      have HCL := Lib.hid (HX.out W1 HB1.out)
      have e0 := L.blk_cell hx1 0
      have e1 := L.blk_cell hx1 1
      have e2 := L.blk_cell hx1 2
      have e3 := L.blk_cell hx1 3
      have e4 := L.blk_cell hx1 4
      have e5 := L.blk_cell hx1 5
      have e6 := L.blk_cell hx1 6
      have e7 := L.blk_cell hx1 7
      simp only [List.getElem?_toArray, List.getElem?_cons_zero, List.getElem?_cons_succ] at e0 e1 e2 e3 e4 e5 e6 e7
      have h0k : (0 : Int) ≤ (k : Int) := by omega
      have hki : (k : Int) < (l.length : Int) := by omega
      have hsb := HB1.out.size
      obtain ⟨y, hy⟩ : ∃ y, y = fp pf l k := ⟨_, rfl⟩
      rw [← hy] at h1 HT HOW ⊢
      clear hI q0 q1 q2 q3 q4 q5 q6 q7 hx hbk hown hx1 hb1 hbr hy HX
      go_wp2_with fail
      rw [← hW1]
      clear hW1 g0 g1 g2 g3 g4 g5 g6 g7
      go_wp2_with fail
      with_reducible refine HCL.out.mono ?_
      rintro e w2 ⟨C, cc, rfl, hL2, hz2, hb2⟩
      have HO2 := Lib.hid (own_below HOW.out hb2)
      have HB2 := Lib.hid (HB1.out.trans (hb2.mono HB1.out.size))
      have HL2 := Lib.hid hL2
      have HZ2 := Lib.hid hz2
      have hs2 := HB2.out.size
      clear hL2 hz2 hb2 HOW HB1 HCL e0 e1 e2 e3 e4 e5 e6 e7 hsb
      go_wp2_with (at_builtin; refine wpList_append_lines rfl (.tmp 19) (.tmp 24) rfl w.heap.size _ y pl rfl HO2.out C cc rfl HL2.out HZ2.out (by omega) hs2 ?_; intro v1 w3 ho3 hg3 hat3)
      have HB3 := Lib.hid (HB2.out.grown hg3 hs2 (own_base HO2.out))
      obtain ⟨RA, rcap, rfl, -, -⟩ := own_form ho3
      have HO3 := Lib.hid ho3
      clear ho3 hg3 hat3
      go_wp2_with fail
      go_roundg (l.length - (k + 1))
      case rel => exact ⟨k + 1, RA, rcap, by omega, by go_num, by rw [HT.out], Nat.le_refl _, by rw [HT.out]; exact HO3.out, HB3.out⟩
      case measure => omega
    · obtain rfl : k = l.length := by omega
      rw [fp_all] at hown ⊢
      obtain ⟨t, htt⟩ : ∃ t, t = l.flatMap pf := ⟨_, rfl⟩
      rw [← htt] at hown HWH ht ⊢
      have HU := Lib.hid (unb_all t)
      have HBR := Lib.hid hbr
      clear hbr htt HTK HLE HLI HP
      have hu0 : lineCells t = lineCells (unb 0 t) := by rw [unb_zero]
      rw [hu0] at hown
      have HOW := Lib.hid hown
      clear hown hu0
      have hw1 : IntKind.i64.wrap ((t.length : Int) - 1) = (t.length : Int) - 1 := by rw [IntKind.wrap_i64]; omega
      have hw2 : wrap64 ((t.length : Int) - 1) = (t.length : Int) - 1 := by unfold wrap64; omega
      go_wp2_with fail
      go_loopg [12, 30] t.length (fun m j i wr => ∃ k : Nat, k ≤ t.length - 1 ∧ i = .int .i64 (k : Int) ∧ t.length - 1 - k ≤ m ∧ wr.ownsRow w.heap.size 51 2 (.slice VA t.length vc) t.length (lineCells (unb k t)) ∧ Below w.heap.size w wr)
      case atStart => exact ⟨0, Nat.zero_le _, rfl, by omega, HOW.out, HBR.out⟩
      case round =>
        obtain ⟨k, hk, rfl, hm, hown, hbr⟩ := hrel
        by_cases hlt : k + 1 < t.length
        · have h0k : (0 : Int) ≤ (k : Int) := by omega
          have hki : (k : Int) < (t.length : Int) := by omega
          have hkj : (k : Int) < (t.length : Int) - 1 := by omega
          obtain ⟨g, rfl, hg1, hg2, hgc⟩ := own_at hown (by omega)
          have hfz := own_free hown (0 + k * 2 + 1)
          have hfz2 := own_free hown (k * 2 + 1)
          have hlc := (lineCells_at (unb k t) k (by rw [unb_len]; omega)).2
          have hc := hgc _ _ hlc
          have hst := World.ownsRow.stored hown (k * 2 + 1) (.bool false)
          obtain ⟨_, hua⟩ := unb_at (l := t) (k := k) (by omega)
          rw [lineCells_set _ _ (by rw [unb_len]; omega), hua, ← unb_next (by omega)] at hst
          have HS1 := Lib.hid hst.1
          have HS2 := Lib.hid (hbr.grown hst.2 hbr.size (fun q e => by injection e with e; subst e; exact hg1))
          generalize ((unb k t)[k]'_).2 = ub at hc
          clear hst hgc hown hlc hua
          go_wp2_with fail
          go_roundg (t.length - 1 - (k + 1))
          case rel => exact ⟨k + 1, by omega, by go_num, Nat.le_refl _, HS1.out, HS2.out⟩
          case measure => omega
        · obtain rfl : k = t.length - 1 := by omega
          have hkj : ¬ (((t.length - 1 : Nat) : Int) < (t.length : Int) - 1) := by omega
          rw [HU.out, ← HWH.out] at hown
          have hlw : t.length = wh.length := by rw [HWH.out, bared_len]
          have HO := Lib.hid hown
          have HBR2 := Lib.hid hbr
          clear hown hbr
          go_wp2_with fail
          go_ret
          rw [hlw] at HO
          exact ⟨VA, ⟨vc, rfl⟩, own_lines2 HO.out, HBR2.out⟩
end Go.Proofs.Ytkflhcfopejigaa.Mg
