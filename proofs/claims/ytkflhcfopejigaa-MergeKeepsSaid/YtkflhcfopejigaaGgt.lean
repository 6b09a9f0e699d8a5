/-
  The contract of the reference's Marked.
-/
import Derived.Test.YtkflhcfopejigaaGgr
import Derived.Test.YtkflhcfopejigaaGgs
import Derived.BigRegion
import Derived.Deep.RegionLaw
import Derived.Deep.AppendLies
namespace Go.Proofs.Ytkflhcfopejigaa.Mg
set_option linter.unusedVariables false
set_option linter.unusedSimpArgs false
open Go.RowKit
open T
open V (grown_of drawn_below)
open I (alloc1 own_at own_below)
open Ck

/-- A chunk's box beside a row of lines. -/
structure Fl (w0 : World) (xb : Nat) (x : Ck) (W : World) : Prop where
  box : W.heap[xb]? = some (.cells #[.bool x.st, .int .i64 x.o, .int .i64 x.on, .int .i64 x.a, .int .i64 x.an, .int .i64 x.b, .int .i64 x.bn] 41 (0, 0))
  b : Below w0.heap.size w0 W
theorem Fl.below {w0 W W' : World} {xb : Nat} {x : Ck} (h : Fl w0 xb x W) (hb : Below W.heap.size W W') : Fl w0 xb x W' := ⟨(hb.block _ (L.blk_lt h.box)).trans h.box, h.b.trans (hb.mono h.b.size)⟩
theorem Fl.grown {w0 W W' : World} {xb : Nat} {x : Ck} {v : Value} {n : Nat} {xs : List Value} (h : Fl w0 xb x W) (ho : W.ownsRow w0.heap.size 51 2 v n xs) (hg : W.grownBy W' v.ownBlock) : Fl w0 xb x W' :=
  ⟨(hg.block _ (L.blk_lt h.box) (V.own_ne' ho (fun cs e => by rw [h.box] at e; injection e with e; injection e with _ e; exact absurd e (by decide)))).trans h.box, h.b.grown hg h.b.size (own_base ho)⟩
theorem own_none {w : World} {base n cap size : Nat} {A : Option Addr} {e : TypeId} {xs : List Value} (h : w.ownsRow base e size (.slice A n cap) n xs) : A = none → cap = 0 := fun hA => by
  subst hA
  rcases h.2 with ⟨h', _⟩ | ⟨g', cap', cur, h', _⟩
  · simp at h'; exact h'.2
  · simp at h'
theorem ln_one (w : World) (s : ByteArray) (b : Bool) : LinesIn (w.alloc (.cells #[.string s, .bool b] 51)) (some ⟨w.heap.size, 0, none⟩) [(s.data.toList, b)] := fun _ => by
  have hx := heap_alloc_new w (.cells #[.string s, .bool b] 51)
  refine ⟨_, 0, rfl, L.blk_lt hx, fun j hj => ?_⟩
  simp only [List.length_cons, List.length_nil, Nat.zero_add] at hj
  obtain rfl : j = 0 := by omega
  exact ⟨L.blk_cell hx 0, L.blk_cell hx 1⟩
theorem bare_at : ∀ (l : List Ln) (k : Nat) (h : k < l.length), (bared l)[k]? = some (l[k].1, l[k].2 && decide (k + 1 = l.length))
  | [], k, h => by simp at h
  | [x], k, h => by
    have h' : k < 1 := h
    obtain rfl : k = 0 := by omega
    simp [bared]
  | x :: y :: r, 0, h => by simp [bared]
  | x :: y :: r, k + 1, h => by
    have ih := bare_at (y :: r) k (by simpa using h)
    rw [bared, List.getElem?_cons_succ, ih, List.getElem_cons_succ]
    congr 3
    simp
theorem bare_take {l : List Ln} {k : Nat} (h : k < l.length) : (bared l).take (k + 1) = (bared l).take k ++ [(l[k].1, l[k].2 && decide (k + 1 = l.length))] := by
  have h1 : k < (bared l).length := by rw [bared_len]; exact h
  have h2 := bare_at l k h
  rw [List.getElem?_eq_getElem h1] at h2
  rw [List.take_succ_eq_append_getElem h1, Option.some.inj h2]

set_option maxRecDepth 100000 in
set_option maxHeartbeats 16000000 in
theorem rmarked_good {PA O A B : Option Addr} {cp co ca cb : Nat} {l : List Pc} {o a b : List Ln} (w : World) (hP : PcIn w PA l) (ho : Tx w O co o) (ha : Tx w A ca a) (hb : Tx w B cb b) (hr : ∀ x ∈ l, In3 x.ck o a b) (lo : o.length ≤ 10000) (la : a.length ≤ 10000) (lb : b.length ≤ 10000) (hl : l.length ≤ 100000) (ht : (l.flatMap (plines o a b)).length ≤ 900000)
    (hf : fits l o.length a.length b.length = true) :
    Calls Try.prog 19 #[.slice PA l.length cp, .slice O o.length co, .slice A a.length ca, .slice B b.length cb] w fun e w' => ∃ C cc, e = .returned (.tuple #[.slice C (whole l o a b).length cc, .int .i64 0]) ∧ LinesIn w' C (whole l o a b) ∧ Below w.heap.size w w' := by
  have HP := Lib.hid hP
  have HPW := Lib.hid hP
  have HFT := Lib.hid (rfits_any PA cp l O A B o.length a.length b.length co ca cb w hP (by omega) (by unfold maxLen; omega) (by unfold maxLen; omega) (by unfold maxLen; omega))
  rw [hf] at HFT
  have HCO := Lib.hid (fun (x : Pc) (hx : x ∈ l) (W : World) (h : Below w.heap.size w W) => rcut_any W (ho.below h) (hr x hx).fo (by omega))
  have HCA := Lib.hid (fun (x : Pc) (hx : x ∈ l) (W : World) (h : Below w.heap.size w W) => rcut_any W (ha.below h) (hr x hx).fa (by omega))
  have HCB := Lib.hid (fun (x : Pc) (hx : x ∈ l) (W : World) (h : Below w.heap.size w W) => rcut_any W (hb.below h) (hr x hx).fb (by omega))
  have HLE := Lib.hid (fun k => Nat.le_trans (pl_le (l := l) (f := plines o a b) k) ht)
  have HWH : Hid (whole l o a b = bared (l.flatMap (plines o a b))) := Lib.hid rfl
  have HTK := Lib.hid (fun (k : Nat) (hk : k < l.length) => pl_take (f := plines o a b) hk)
  have HPF : Hid (∀ x, plines o a b x = if x.sd = 2 then cutl a x.ck.a x.ck.an else if x.sd = 4 then mMine :: cutl a x.ck.a x.ck.an ++ mBase :: cutl o x.ck.o x.ck.on ++ mThen :: cutl b x.ck.b x.ck.bn ++ [mLast] else cutl b x.ck.b x.ck.bn) := Lib.hid (fun x => rfl)
  generalize whole l o a b = wh at *
  generalize plines o a b = pf at *
  obtain ⟨n1, hn1⟩ : ∃ n, n = o.length := ⟨_, rfl⟩
  obtain ⟨n2, hn2⟩ : ∃ n, n = a.length := ⟨_, rfl⟩
  obtain ⟨n3, hn3⟩ : ∃ n, n = b.length := ⟨_, rfl⟩
  rw [← hn1] at HCO HFT ⊢
  rw [← hn2] at HCA HFT ⊢
  rw [← hn3] at HCB HFT ⊢
  clear hP ho ha hb hr lo la lb hn1 hn2 hn3 hf
  obtain ⟨i0, hi0, hz0, hz1, hz2⟩ := info_parts infoLine
  go_enter Try.func19, Try.ntmps19
  go_wp2_with fail
  with_reducible refine HFT.out.mono ?_
  rintro e w0 ⟨rfl, hb0⟩
  have HB0 := Lib.hid hb0
  replace HP := Lib.hid (HP.out.below hb0)
  clear hb0 HFT
  have HBN := Lib.hid (HB0.out.trans ((alloc1 w0 (.cells #[] 51)).mono HB0.out.size))
  have HN0 : Hid ((w0.alloc (.cells #[] 51)).ownsRow w.heap.size 51 2 (.slice (some ⟨w0.heap.size, 0, none⟩) 0 0) 0 []) := Lib.hid (World.ownsRow_made (size := 2) (e := 51) w0 #[] 0 HB0.out.size (by unfold maxLen; omega) rfl)
  go_wp2_with fail
  go_loopg [10, 11] l.length (fun m v i wr => ∃ (k : Nat) (VA : Option Addr) (vc : Nat), k ≤ l.length ∧ i = .int .i64 (k : Int) ∧ v = .slice VA (fp pf l k).length vc ∧ l.length - k ≤ m ∧ wr.ownsRow w.heap.size 51 2 (.slice VA (fp pf l k).length vc) (fp pf l k).length (lineCells (fp pf l k)) ∧ Below w.heap.size w wr ∧ PcIn wr PA l)
  case atStart => exact ⟨0, _, 0, Nat.zero_le _, rfl, rfl, by omega, HN0.out, HBN.out, HP.out.below (alloc1 _ _)⟩
  case round =>
    obtain ⟨k, VA, vc, hk, rfl, rfl, hm, hown, hbr, hpr⟩ := hrel
    by_cases hlt : k < l.length
    · obtain ⟨bk, off, hAe, hbk, hI⟩ := hpr (by omega)
      have HPR := Lib.hid hpr
      subst hAe
      obtain ⟨g0, g1, g2, g3, g4, g5, g6, g7⟩ := hI k hlt
      have HT := Lib.hid (HTK.out k hlt)
      have h1 := HLE.out (k + 1)
      rw [HT.out, List.length_append] at h1
      have HXO := Lib.hid (HCO.out (l[k]'hlt) (List.getElem_mem hlt))
      have HXA := Lib.hid (HCA.out (l[k]'hlt) (List.getElem_mem hlt))
      have HXB := Lib.hid (HCB.out (l[k]'hlt) (List.getElem_mem hlt))
      have HXF := Lib.hid (HPF.out (l[k]'hlt))
      obtain ⟨x, hx⟩ : ∃ x, x = l[k]'hlt := ⟨_, rfl⟩
      rw [← hx] at g0 g1 g2 g3 g4 g5 g6 g7 HT HXO HXA HXB HXF h1
      obtain ⟨pl, hpl⟩ : ∃ pl, pl = pf x := ⟨_, rfl⟩
      rw [← hpl] at HT HXF h1
      clear hpl
      obtain ⟨sd, x0, x1, x2, x3, x4, x5, x6⟩ := x
      simp only at g0 g1 g2 g3 g4 g5 g6 g7 HXO HXA HXB HXF
      generalize cutl o x1 x2 = xo at *
      generalize cutl a x3 x4 = xa at *
      generalize cutl b x5 x6 = xz at *
      obtain ⟨W1, hW1⟩ : ∃ W : World, W = wr.alloc (.cells #[.bool x0, .int .i64 x1, .int .i64 x2, .int .i64 x3, .int .i64 x4, .int .i64 x5, .int .i64 x6] 41) := ⟨_, rfl⟩
      have hb1 : Below wr.heap.size wr W1 := by rw [hW1]; exact alloc1 _ _
      have FX1 : Hid (Fl w wr.heap.size ⟨x0, x1, x2, x3, x4, x5, x6⟩ W1) := Lib.hid ⟨by rw [hW1]; exact heap_alloc_new wr _, hbr.trans (hb1.mono hbr.size)⟩
      have HO1 := Lib.hid (own_below hown hb1)
      have h0k : (0 : Int) ≤ (k : Int) := by omega
      have hki : (k : Int) < (l.length : Int) := by omega
      obtain ⟨y, hy⟩ : ∃ y, y = fp pf l k := ⟨_, rfl⟩
      obtain ⟨xb, hxb⟩ : ∃ q, q = wr.heap.size := ⟨_, rfl⟩
      have HS0 := Lib.hid hbr.size
      rw [← hy] at h1 HT HO1 ⊢
      have HPK : Hid (∀ W, Below w.heap.size w W → PcIn W (some ⟨bk, off, none⟩) l) := Lib.hid (fun W h => HPW.out.below h)
      clear hI hx hown hb1 hbr hy HPR hpr
      by_cases h2 : sd = 2
      · subst h2
        have HV := Lib.hid (HXF.out.trans (if_pos rfl))
        clear HXF
        go_wp2_with fail
        rw [← hW1]
        rw [← hxb] at FX1 ⊢
        clear hW1 g0 g1 g2 g3 g4 g5 g6 g7 hxb
        have hln : pl.length = xa.length := by rw [HV.out]
        have e1 := L.blk_cell FX1.out.box 3
        have e2 := L.blk_cell FX1.out.box 4
        simp only [List.getElem?_toArray, List.getElem?_cons_zero, List.getElem?_cons_succ] at e1 e2
        go_wp2_with fail
        with_reducible refine (HXA.out _ FX1.out.b).mono ?_
        rintro e w2 ⟨C2, cc2, rfl, hoc, hbc⟩
        have HL2 := Lib.hid (own_lines2 hoc)
        have HZ2 := Lib.hid (own_none hoc)
        have FX2 := Lib.hid (FX1.out.below hbc)
        have HO2 := Lib.hid (own_below HO1.out hbc)
        have hs2 := FX2.out.b.size
        clear hoc hbc e1 e2 FX1 HO1
        go_wp2_with (at_builtin; refine wpList_append_lines rfl (.tmp 48) (.tmp 54) rfl w.heap.size _ (y) xa rfl HO2.out C2 cc2 rfl HL2.out HZ2.out (by first | omega | (simp; omega)) hs2 ?_; intro v1 w3 hoc hgc hatc)
        have FX3 := Lib.hid (FX2.out.grown HO2.out hgc)
        obtain ⟨y3, hyn⟩ : ∃ q, q = y ++ xa := ⟨_, rfl⟩
        rw [← hyn] at hoc
        have HY3 := Lib.hid hyn
        have LY3 : Hid (y3.length = y.length + (0 + xa.length)) := Lib.hid (by rw [hyn, List.length_append]; simp)
        clear hyn
        obtain ⟨V3, vc3, rfl, -, -⟩ := own_form hoc
        have HO3 := Lib.hid hoc
        have hs3 := FX3.out.b.size
        clear hoc hgc hatc FX2 HO2 hs2 HL2 HZ2
        have hpe : y3 = fp pf l (k + 1) := by rw [HT.out, HV.out, HY3.out]
        rw [hpe] at HO3 ⊢
        go_wp2_with fail
        go_roundg (l.length - (k + 1))
        case rel => exact ⟨k + 1, V3, vc3, by omega, by go_num, rfl, Nat.le_refl _, HO3.out, FX3.out.b, HPK.out _ FX3.out.b⟩
        case measure => omega
      · have HV0 := Lib.hid (HXF.out.trans (if_neg h2))
        clear HXF
        by_cases h4 : sd = 4
        · subst h4
          have HV := Lib.hid (HV0.out.trans (if_pos rfl))
          have HLN : Hid (pl.length = xa.length + xo.length + xz.length + 4) := Lib.hid (by rw [HV.out]; simp; omega)
          have hln := HLN.out
          clear HV0 h2 HLN
          rw [hW1] at FX1 HO1
          clear hW1 hxb
          have hs1 := FX1.out.b.size
          have HL1 : Hid (LinesIn ((wr.alloc (.cells #[.bool x0, .int .i64 x1, .int .i64 x2, .int .i64 x3, .int .i64 x4, .int .i64 x5, .int .i64 x6] 41)).alloc (.cells #[.string ⟨#[60, 60, 60, 60, 60, 60, 60, 32, 109, 105, 110, 101]⟩, .bool false] 51)) (some ⟨wr.heap.size + 1, 0, none⟩) [mMine]) := Lib.hid (by have h9 := ln_one (wr.alloc (.cells #[.bool x0, .int .i64 x1, .int .i64 x2, .int .i64 x3, .int .i64 x4, .int .i64 x5, .int .i64 x6] 41)) ⟨#[60, 60, 60, 60, 60, 60, 60, 32, 109, 105, 110, 101]⟩ false; rw [show ((wr.alloc (.cells #[.bool x0, .int .i64 x1, .int .i64 x2, .int .i64 x3, .int .i64 x4, .int .i64 x5, .int .i64 x6] 41))).heap.size = wr.heap.size + 1 by simp] at h9; exact h9)
          have HO2 := Lib.hid (own_below HO1.out (alloc1 (wr.alloc (.cells #[.bool x0, .int .i64 x1, .int .i64 x2, .int .i64 x3, .int .i64 x4, .int .i64 x5, .int .i64 x6] 41)) (.cells #[.string ⟨#[60, 60, 60, 60, 60, 60, 60, 32, 109, 105, 110, 101]⟩, .bool false] 51)))
          have FX2 := Lib.hid (FX1.out.below (alloc1 (wr.alloc (.cells #[.bool x0, .int .i64 x1, .int .i64 x2, .int .i64 x3, .int .i64 x4, .int .i64 x5, .int .i64 x6] 41)) (.cells #[.string ⟨#[60, 60, 60, 60, 60, 60, 60, 32, 109, 105, 110, 101]⟩, .bool false] 51)))
          have hs2 := FX2.out.b.size
          clear FX1 HO1 hs1
          go_upto_region 14 with (at_builtin; refine wpList_append_lines rfl (.tmp 58) (.tmp 60) rfl w.heap.size _ (y) [mMine] rfl HO2.out (some ⟨_, 0, none⟩) 1 rfl HL1.out (fun e => by cases e) (by first | omega | (simp; omega)) hs2 ?_; intro v1 w3 hoc hgc hatc)
          have FX3 := Lib.hid (FX2.out.grown HO2.out hgc)
          obtain ⟨y3, hyn⟩ : ∃ q, q = y ++ [mMine] := ⟨_, rfl⟩
          rw [← hyn] at hoc
          have HY3 := Lib.hid hyn
          have LY3 : Hid (y3.length = y.length + (0 + 1)) := Lib.hid (by rw [hyn, List.length_append]; simp)
          clear hyn
          obtain ⟨V3, vc3, rfl, -, -⟩ := own_form hoc
          have HO3 := Lib.hid hoc
          have hs3 := FX3.out.b.size
          clear hoc hgc hatc FX2 HO2 hs2 HL1
          have e1 := L.blk_cell FX3.out.box 3
          have e2 := L.blk_cell FX3.out.box 4
          simp only [List.getElem?_toArray, List.getElem?_cons_zero, List.getElem?_cons_succ] at e1 e2
          go_wp2_with fail
          with_reducible refine (HXA.out _ FX3.out.b).mono ?_
          rintro e w4 ⟨C4, cc4, rfl, hoc, hbc⟩
          have HL4 := Lib.hid (own_lines2 hoc)
          have HZ4 := Lib.hid (own_none hoc)
          have FX4 := Lib.hid (FX3.out.below hbc)
          have HO4 := Lib.hid (own_below HO3.out hbc)
          have hs4 := FX4.out.b.size
          clear hoc hbc e1 e2 FX3 HO3 hs3
          go_upto_region 15 with (at_builtin; refine wpList_append_lines rfl (.tmp 62) (.tmp 68) rfl w.heap.size _ (y3) xa rfl HO4.out C4 cc4 rfl HL4.out HZ4.out (by have h9 := LY3.out; first | omega | (simp; omega)) hs4 ?_; intro v1 w5 hoc hgc hatc)
          have FX5 := Lib.hid (FX4.out.grown HO4.out hgc)
          obtain ⟨y5, hyn⟩ : ∃ q, q = y3 ++ xa := ⟨_, rfl⟩
          rw [← hyn] at hoc
          have HY5 := Lib.hid hyn
          have LY5 : Hid (y5.length = y.length + (0 + 1 + xa.length)) := Lib.hid (by have h9 := LY3.out; rw [hyn, List.length_append]; (try simp only [List.length_cons, List.length_nil]); omega)
          clear hyn
          obtain ⟨V5, vc5, rfl, -, -⟩ := own_form hoc
          have HO5 := Lib.hid hoc
          have hs5 := FX5.out.b.size
          clear hoc hgc hatc FX4 HO4 hs4 HL4 HZ4
          have HL5 := Lib.hid (ln_one w5 ⟨#[124, 124, 124, 124, 124, 124, 124, 32, 98, 97, 115, 101]⟩ false)
          have HO6 := Lib.hid (own_below HO5.out (alloc1 w5 (.cells #[.string ⟨#[124, 124, 124, 124, 124, 124, 124, 32, 98, 97, 115, 101]⟩, .bool false] 51)))
          have FX6 := Lib.hid (FX5.out.below (alloc1 w5 (.cells #[.string ⟨#[124, 124, 124, 124, 124, 124, 124, 32, 98, 97, 115, 101]⟩, .bool false] 51)))
          have hs6 := FX6.out.b.size
          clear FX5 HO5 hs5
          go_upto_region 16 with (at_builtin; refine wpList_append_lines rfl (.tmp 70) (.tmp 72) rfl w.heap.size _ (y5) [mBase] rfl HO6.out (some ⟨_, 0, none⟩) 1 rfl HL5.out (fun e => by cases e) (by have h9 := LY5.out; first | omega | (simp; omega)) hs6 ?_; intro v1 w7 hoc hgc hatc)
          have FX7 := Lib.hid (FX6.out.grown HO6.out hgc)
          obtain ⟨y7, hyn⟩ : ∃ q, q = y5 ++ [mBase] := ⟨_, rfl⟩
          rw [← hyn] at hoc
          have HY7 := Lib.hid hyn
          have LY7 : Hid (y7.length = y.length + (0 + 1 + xa.length + 1)) := Lib.hid (by have h9 := LY5.out; rw [hyn, List.length_append]; (try simp only [List.length_cons, List.length_nil]); omega)
          clear hyn
          obtain ⟨V7, vc7, rfl, -, -⟩ := own_form hoc
          have HO7 := Lib.hid hoc
          have hs7 := FX7.out.b.size
          clear hoc hgc hatc FX6 HO6 hs6 HL5
          have e1 := L.blk_cell FX7.out.box 1
          have e2 := L.blk_cell FX7.out.box 2
          simp only [List.getElem?_toArray, List.getElem?_cons_zero, List.getElem?_cons_succ] at e1 e2
          go_wp2_with fail
          with_reducible refine (HXO.out _ FX7.out.b).mono ?_
          rintro e w8 ⟨C8, cc8, rfl, hoc, hbc⟩
          have HL8 := Lib.hid (own_lines2 hoc)
          have HZ8 := Lib.hid (own_none hoc)
          have FX8 := Lib.hid (FX7.out.below hbc)
          have HO8 := Lib.hid (own_below HO7.out hbc)
          have hs8 := FX8.out.b.size
          clear hoc hbc e1 e2 FX7 HO7 hs7
          go_upto_region 17 with (at_builtin; refine wpList_append_lines rfl (.tmp 74) (.tmp 80) rfl w.heap.size _ (y7) xo rfl HO8.out C8 cc8 rfl HL8.out HZ8.out (by have h9 := LY7.out; first | omega | (simp; omega)) hs8 ?_; intro v1 w9 hoc hgc hatc)
          have FX9 := Lib.hid (FX8.out.grown HO8.out hgc)
          obtain ⟨y9, hyn⟩ : ∃ q, q = y7 ++ xo := ⟨_, rfl⟩
          rw [← hyn] at hoc
          have HY9 := Lib.hid hyn
          have LY9 : Hid (y9.length = y.length + (0 + 1 + xa.length + 1 + xo.length)) := Lib.hid (by have h9 := LY7.out; rw [hyn, List.length_append]; (try simp only [List.length_cons, List.length_nil]); omega)
          clear hyn
          obtain ⟨V9, vc9, rfl, -, -⟩ := own_form hoc
          have HO9 := Lib.hid hoc
          have hs9 := FX9.out.b.size
          clear hoc hgc hatc FX8 HO8 hs8 HL8 HZ8
          have HL9 := Lib.hid (ln_one w9 ⟨#[61, 61, 61, 61, 61, 61, 61]⟩ false)
          have HO10 := Lib.hid (own_below HO9.out (alloc1 w9 (.cells #[.string ⟨#[61, 61, 61, 61, 61, 61, 61]⟩, .bool false] 51)))
          have FX10 := Lib.hid (FX9.out.below (alloc1 w9 (.cells #[.string ⟨#[61, 61, 61, 61, 61, 61, 61]⟩, .bool false] 51)))
          have hs10 := FX10.out.b.size
          clear FX9 HO9 hs9
          go_upto_region 18 with (at_builtin; refine wpList_append_lines rfl (.tmp 82) (.tmp 84) rfl w.heap.size _ (y9) [mThen] rfl HO10.out (some ⟨_, 0, none⟩) 1 rfl HL9.out (fun e => by cases e) (by have h9 := LY9.out; first | omega | (simp; omega)) hs10 ?_; intro v1 w11 hoc hgc hatc)
          have FX11 := Lib.hid (FX10.out.grown HO10.out hgc)
          obtain ⟨y11, hyn⟩ : ∃ q, q = y9 ++ [mThen] := ⟨_, rfl⟩
          rw [← hyn] at hoc
          have HY11 := Lib.hid hyn
          have LY11 : Hid (y11.length = y.length + (0 + 1 + xa.length + 1 + xo.length + 1)) := Lib.hid (by have h9 := LY9.out; rw [hyn, List.length_append]; (try simp only [List.length_cons, List.length_nil]); omega)
          clear hyn
          obtain ⟨V11, vc11, rfl, -, -⟩ := own_form hoc
          have HO11 := Lib.hid hoc
          have hs11 := FX11.out.b.size
          clear hoc hgc hatc FX10 HO10 hs10 HL9
          have e1 := L.blk_cell FX11.out.box 5
          have e2 := L.blk_cell FX11.out.box 6
          simp only [List.getElem?_toArray, List.getElem?_cons_zero, List.getElem?_cons_succ] at e1 e2
          go_wp2_with fail
          with_reducible refine (HXB.out _ FX11.out.b).mono ?_
          rintro e w12 ⟨C12, cc12, rfl, hoc, hbc⟩
          have HL12 := Lib.hid (own_lines2 hoc)
          have HZ12 := Lib.hid (own_none hoc)
          have FX12 := Lib.hid (FX11.out.below hbc)
          have HO12 := Lib.hid (own_below HO11.out hbc)
          have hs12 := FX12.out.b.size
          clear hoc hbc e1 e2 FX11 HO11 hs11
          go_upto_region 19 with (at_builtin; refine wpList_append_lines rfl (.tmp 86) (.tmp 92) rfl w.heap.size _ (y11) xz rfl HO12.out C12 cc12 rfl HL12.out HZ12.out (by have h9 := LY11.out; first | omega | (simp; omega)) hs12 ?_; intro v1 w13 hoc hgc hatc)
          have FX13 := Lib.hid (FX12.out.grown HO12.out hgc)
          obtain ⟨y13, hyn⟩ : ∃ q, q = y11 ++ xz := ⟨_, rfl⟩
          rw [← hyn] at hoc
          have HY13 := Lib.hid hyn
          have LY13 : Hid (y13.length = y.length + (0 + 1 + xa.length + 1 + xo.length + 1 + xz.length)) := Lib.hid (by have h9 := LY11.out; rw [hyn, List.length_append]; (try simp only [List.length_cons, List.length_nil]); omega)
          clear hyn
          obtain ⟨V13, vc13, rfl, -, -⟩ := own_form hoc
          have HO13 := Lib.hid hoc
          have hs13 := FX13.out.b.size
          clear hoc hgc hatc FX12 HO12 hs12 HL12 HZ12
          have HL13 := Lib.hid (ln_one w13 ⟨#[62, 62, 62, 62, 62, 62, 62, 32, 116, 104, 101, 105, 114, 115]⟩ false)
          have HO14 := Lib.hid (own_below HO13.out (alloc1 w13 (.cells #[.string ⟨#[62, 62, 62, 62, 62, 62, 62, 32, 116, 104, 101, 105, 114, 115]⟩, .bool false] 51)))
          have FX14 := Lib.hid (FX13.out.below (alloc1 w13 (.cells #[.string ⟨#[62, 62, 62, 62, 62, 62, 62, 32, 116, 104, 101, 105, 114, 115]⟩, .bool false] 51)))
          have hs14 := FX14.out.b.size
          clear FX13 HO13 hs13
          go_wp2_with (at_builtin; refine wpList_append_lines rfl (.tmp 94) (.tmp 96) rfl w.heap.size _ (y13) [mLast] rfl HO14.out (some ⟨_, 0, none⟩) 1 rfl HL13.out (fun e => by cases e) (by have h9 := LY13.out; first | omega | (simp; omega)) hs14 ?_; intro v1 w15 hoc hgc hatc)
          have FX15 := Lib.hid (FX14.out.grown HO14.out hgc)
          obtain ⟨y15, hyn⟩ : ∃ q, q = y13 ++ [mLast] := ⟨_, rfl⟩
          rw [← hyn] at hoc
          have HY15 := Lib.hid hyn
          have LY15 : Hid (y15.length = y.length + (0 + 1 + xa.length + 1 + xo.length + 1 + xz.length + 1)) := Lib.hid (by have h9 := LY13.out; rw [hyn, List.length_append]; (try simp only [List.length_cons, List.length_nil]); omega)
          clear hyn
          obtain ⟨V15, vc15, rfl, -, -⟩ := own_form hoc
          have HO15 := Lib.hid hoc
          have hs15 := FX15.out.b.size
          clear hoc hgc hatc FX14 HO14 hs14 HL13
          have hpe : y15 = fp pf l (k + 1) := by rw [HT.out, HV.out, HY15.out, HY13.out, HY11.out, HY9.out, HY7.out, HY5.out, HY3.out]; simp
          rw [hpe] at HO15 ⊢
          go_wp2_with fail
          go_roundg (l.length - (k + 1))
          case rel => exact ⟨k + 1, V15, vc15, by omega, by go_num, rfl, Nat.le_refl _, HO15.out, FX15.out.b, HPK.out _ FX15.out.b⟩
          case measure => omega
        · have HV := Lib.hid (HV0.out.trans (if_neg h4))
          clear HV0
          go_wp2_with fail
          rw [← hW1]
          rw [← hxb] at FX1 ⊢
          clear hW1 g0 g1 g2 g3 g4 g5 g6 g7 hxb
          have hln : pl.length = xz.length := by rw [HV.out]
          have n2 : ¬ (2 : Int) = sd := fun e => h2 e.symm
          have n4 : ¬ (4 : Int) = sd := fun e => h4 e.symm
          have e1 := L.blk_cell FX1.out.box 5
          have e2 := L.blk_cell FX1.out.box 6
          simp only [List.getElem?_toArray, List.getElem?_cons_zero, List.getElem?_cons_succ] at e1 e2
          go_wp2_with fail
          with_reducible refine (HXB.out _ FX1.out.b).mono ?_
          rintro e w2 ⟨C2, cc2, rfl, hoc, hbc⟩
          have HL2 := Lib.hid (own_lines2 hoc)
          have HZ2 := Lib.hid (own_none hoc)
          have FX2 := Lib.hid (FX1.out.below hbc)
          have HO2 := Lib.hid (own_below HO1.out hbc)
          have hs2 := FX2.out.b.size
          clear hoc hbc e1 e2 FX1 HO1
          go_wp2_with (at_builtin; refine wpList_append_lines rfl (.tmp 38) (.tmp 44) rfl w.heap.size _ (y) xz rfl HO2.out C2 cc2 rfl HL2.out HZ2.out (by first | omega | (simp; omega)) hs2 ?_; intro v1 w3 hoc hgc hatc)
          have FX3 := Lib.hid (FX2.out.grown HO2.out hgc)
          obtain ⟨y3, hyn⟩ : ∃ q, q = y ++ xz := ⟨_, rfl⟩
          rw [← hyn] at hoc
          have HY3 := Lib.hid hyn
          have LY3 : Hid (y3.length = y.length + (0 + xz.length)) := Lib.hid (by rw [hyn, List.length_append]; simp)
          clear hyn
          obtain ⟨V3, vc3, rfl, -, -⟩ := own_form hoc
          have HO3 := Lib.hid hoc
          have hs3 := FX3.out.b.size
          clear hoc hgc hatc FX2 HO2 hs2 HL2 HZ2
          have hpe : y3 = fp pf l (k + 1) := by rw [HT.out, HV.out, HY3.out]
          rw [hpe] at HO3 ⊢
          go_wp2_with fail
          go_roundg (l.length - (k + 1))
          case rel => exact ⟨k + 1, V3, vc3, by omega, by go_num, rfl, Nat.le_refl _, HO3.out, FX3.out.b, HPK.out _ FX3.out.b⟩
          case measure => omega
    · obtain rfl : k = l.length := by omega
      rw [fp_all] at hown ⊢
      obtain ⟨t, htt⟩ : ∃ t, t = l.flatMap pf := ⟨_, rfl⟩
      rw [← htt] at hown HWH ht ⊢
      clear htt HTK HLE HCO HCA HCB HP HPF hpr
      have HO := Lib.hid hown
      have HBR := Lib.hid hbr
      have hs9 := hbr.size
      have HB9 := Lib.hid (hbr.trans ((alloc1 wr (.cells #[] 51)).mono hbr.size))
      have HN9 : Hid ((wr.alloc (.cells #[] 51)).ownsRow wr.heap.size 51 2 (.slice (some ⟨wr.heap.size, 0, none⟩) 0 0) 0 []) := Lib.hid (World.ownsRow_made (size := 2) (e := 51) wr #[] 0 (Nat.le_refl _) (by unfold maxLen; omega) rfl)
      have HO9 := Lib.hid (own_below hown (alloc1 wr (.cells #[] 51)))
      have HTL := Lib.hid (own_lines2 hown)
      obtain ⟨bs, hbs⟩ : ∃ q, q = wr.heap.size := ⟨_, rfl⟩
      have HT9 := Lib.hid (HTL.out.below (alloc1 wr (.cells #[] 51)))
      have HBT := Lib.hid (fun (k : Nat) (hk : k < t.length) => bare_take hk)
      have HBL := Lib.hid (bared_len t)
      rw [← HWH.out] at HBT HBL
      have HBF : Hid (Below bs wr (wr.alloc (.cells #[] 51))) := Lib.hid (by rw [hbs]; exact alloc1 _ _)
      rw [← hbs] at HN9
      obtain ⟨ww, hww⟩ : ∃ q, q = wr := ⟨_, rfl⟩
      have HBW := Lib.hid HBR.out
      rw [← hww] at HBF HTL HO hbs HBW
      have hbs2 : w.heap.size ≤ bs := by rw [hbs, hww]; exact hs9
      have HBS := Lib.hid hbs
      clear hown hbr HWH
      go_wp2_with fail
      rw [← hww, ← hbs]
      rw [← hww] at HB9 HN9 HO9 HT9
      clear hww hbs
      go_loopg [13, 14] t.length (fun m v i wr => ∃ (k : Nat) (NA : Option Addr) (nc : Nat), k ≤ t.length ∧ i = .int .i64 (k : Int) ∧ v = .slice NA k nc ∧ t.length - k ≤ m ∧ wr.ownsRow bs 51 2 (.slice NA k nc) k (lineCells (wh.take k)) ∧ Below bs ww wr)
      case atStart => exact ⟨0, _, 0, Nat.zero_le _, rfl, rfl, by omega, HN9.out, HBF.out⟩
      case round =>
        obtain ⟨k, NA, nc, hk, rfl, rfl, hm, hown, hbr⟩ := hrel
        by_cases hlt : k < t.length
        · obtain ⟨tb, tf, hAe, htb, hI⟩ := HTL.out (by omega)
          subst hAe
          obtain ⟨a0, a1⟩ := hI k hlt
          have htw : tb < bs := by rw [HBS.out]; exact htb
          have HT := Lib.hid (HBT.out k hlt)
          have h0k : (0 : Int) ≤ (k : Int) := by omega
          have hki : (k : Int) < (t.length : Int) := by omega
          obtain ⟨tx, tv, hx⟩ : ∃ tx tv, t[k]'hlt = (tx, tv) := ⟨_, _, rfl⟩
          rw [hx] at a0 a1 HT
          simp only at a0 a1 HT
          have HOW := Lib.hid hown
          have HBR := Lib.hid hbr
          have hsb := hbr.size
          have hsw : bs ≤ wr.heap.size := by rw [HBS.out]; exact hbr.size
          have hlen9 := HBL.out
          clear hI hx hown hbr htb
          have hw1 : IntKind.i64.wrap ((k : Int) + 1) = (k : Int) + 1 := by rw [IntKind.wrap_i64]; omega
          cases tv with
          | false =>
            have HQ := Lib.hid (HT.out.trans (by rw [Bool.false_and]))
            clear HBT
            have HSX : Hid (∀ wz, Below bs ww wz → (wz.cell? ⟨tb, tf + k * 2, none⟩ = some (.string ⟨tx.toArray⟩) ∧ wz.cell? ⟨tb, tf + k * 2 + 1, none⟩ = some (.bool false) ∧ Below bs ww wz)) := Lib.hid (fun wz h => ⟨(h.cell (p := ⟨tb, _, none⟩) htw).trans a0, (h.cell (p := ⟨tb, _, none⟩) htw).trans a1, h⟩)
            have HBD := Lib.hid (HBR.out.drew)
            have HOD : Hid (wr.drew.ownsRow bs 51 2 (.slice NA k nc) k (lineCells (wh.take k))) := Lib.hid HOW.out
            have hsd : bs ≤ wr.drew.heap.size := hsw
            clear HT a0 a1 htw HOW HBR hsb hsw
            go_wp2_with fail
            refine wp_region_held_drew (S := fun wz => wz.cell? ⟨tb, tf + k * 2, none⟩ = some (.string ⟨tx.toArray⟩) ∧ wz.cell? ⟨tb, tf + k * 2 + 1, none⟩ = some (.bool false) ∧ Below bs ww wz) (by kernel_rfl) (HSX.out _ HBD.out) (fun hH0 => ?_)
            simp only [List.size_toArray, List.length_cons, List.length_nil, Nat.zero_add, Nat.reduceAdd, Array.replicate_succ, Array.replicate_zero, List.push_toArray, List.nil_append, List.cons_append]
            obtain ⟨wd, hwd⟩ : ∃ z, z = wr.drew := ⟨_, rfl⟩
            rw [← hwd] at hH0 HBD HOD hsd ⊢
            clear hwd
            refine wpAnyH_take (i := 0) (oi := { dst := some 105, op := Go.Op.move (Go.Operand.tmp 13), type := 22, pos := "ref.go:95", after := #[], guard := none }) (v := ?_) rfl (by kernel_rfl) (by kernel_rfl) (by kernel_rfl) (fun _ _ _ h => h) (Or.inl ⟨by rfl, ?_⟩) hH0 ?_
            rotate_left
            · (intro wz hSz; obtain ⟨z0, z1, -⟩ := hSz; go_simp; try with_reducible rfl)
            try simp only [Act.put, List.setIfInBounds_toArray, List.set_cons_zero, List.set_cons_succ]
            refine wpAnyH_take (i := 1) (oi := { dst := some 106, op := Go.Op.move (Go.Operand.tmp 10), type := 22, pos := "ref.go:95", after := #[], guard := none }) (v := ?_) rfl (by kernel_rfl) (by kernel_rfl) (by kernel_rfl) (fun _ _ _ h => h) (Or.inl ⟨by rfl, ?_⟩) hH0 ?_
            rotate_left
            · (intro wz hSz; obtain ⟨z0, z1, -⟩ := hSz; go_simp; try with_reducible rfl)
            try simp only [Act.put, List.setIfInBounds_toArray, List.set_cons_zero, List.set_cons_succ]
            refine wpAnyH_take (i := 2) (oi := { dst := some 107, op := Go.Op.move (Go.Operand.tmp 14), type := 3, pos := "ref.go:95", after := #[], guard := none }) (v := ?_) rfl (by kernel_rfl) (by kernel_rfl) (by kernel_rfl) (fun _ _ _ h => h) (Or.inl ⟨by rfl, ?_⟩) hH0 ?_
            rotate_left
            · (intro wz hSz; obtain ⟨z0, z1, -⟩ := hSz; go_simp; try with_reducible rfl)
            try simp only [Act.put, List.setIfInBounds_toArray, List.set_cons_zero, List.set_cons_succ]
            refine wpAnyH_take (i := 3) (oi := { dst := some 108, op := Go.Op.indexAddr 22 (Go.Operand.tmp 106) (Go.Operand.tmp 107), type := 0, pos := "ref.go:95", after := #[{ on := 1, ground := Go.Ground.data }, { on := 2, ground := Go.Ground.data }], guard := none }) (v := ?_) rfl (by kernel_rfl) (by kernel_rfl) (by kernel_rfl) (fun _ _ _ h => h) (Or.inl ⟨by rfl, ?_⟩) hH0 ?_
            rotate_left
            · (intro wz hSz; obtain ⟨z0, z1, -⟩ := hSz; go_simp; try with_reducible rfl)
            try simp only [Act.put, List.setIfInBounds_toArray, List.set_cons_zero, List.set_cons_succ]
            refine wpAnyH_take (i := 4) (oi := { dst := some 109, op := Go.Op.fieldAddr 51 (Go.Operand.tmp 108) 0, type := 0, pos := "ref.go:95", after := #[{ on := 3, ground := Go.Ground.data }], guard := none }) (v := ?_) rfl (by kernel_rfl) (by kernel_rfl) (by kernel_rfl) (fun _ _ _ h => h) (Or.inl ⟨by rfl, ?_⟩) hH0 ?_
            rotate_left
            · (intro wz hSz; obtain ⟨z0, z1, -⟩ := hSz; go_simp; try with_reducible rfl)
            try simp only [Act.put, List.setIfInBounds_toArray, List.set_cons_zero, List.set_cons_succ]
            refine wpAnyH_take (i := 5) (oi := { dst := some 110, op := Go.Op.load 9 (Go.Operand.tmp 109), type := 9, pos := "ref.go:95", after := #[{ on := 4, ground := Go.Ground.data }], guard := none }) (v := ?_) rfl (by kernel_rfl) (by kernel_rfl) (by kernel_rfl) (fun _ _ _ h => h) (Or.inl ⟨by rfl, ?_⟩) hH0 ?_
            rotate_left
            · (intro wz hSz; obtain ⟨z0, z1, -⟩ := hSz; go_simp; try with_reducible rfl)
            try simp only [Act.put, List.setIfInBounds_toArray, List.set_cons_zero, List.set_cons_succ]
            refine wpAnyH_take (i := 6) (oi := { dst := some 111, op := Go.Op.move (Go.Operand.tmp 10), type := 22, pos := "ref.go:95", after := #[], guard := none }) (v := ?_) rfl (by kernel_rfl) (by kernel_rfl) (by kernel_rfl) (fun _ _ _ h => h) (Or.inl ⟨by rfl, ?_⟩) hH0 ?_
            rotate_left
            · (intro wz hSz; obtain ⟨z0, z1, -⟩ := hSz; go_simp; try with_reducible rfl)
            try simp only [Act.put, List.setIfInBounds_toArray, List.set_cons_zero, List.set_cons_succ]
            refine wpAnyH_take (i := 7) (oi := { dst := some 112, op := Go.Op.move (Go.Operand.tmp 14), type := 3, pos := "ref.go:95", after := #[], guard := none }) (v := ?_) rfl (by kernel_rfl) (by kernel_rfl) (by kernel_rfl) (fun _ _ _ h => h) (Or.inl ⟨by rfl, ?_⟩) hH0 ?_
            rotate_left
            · (intro wz hSz; obtain ⟨z0, z1, -⟩ := hSz; go_simp; try with_reducible rfl)
            try simp only [Act.put, List.setIfInBounds_toArray, List.set_cons_zero, List.set_cons_succ]
            refine wpAnyH_take (i := 8) (oi := { dst := some 113, op := Go.Op.indexAddr 22 (Go.Operand.tmp 111) (Go.Operand.tmp 112), type := 0, pos := "ref.go:95", after := #[{ on := 6, ground := Go.Ground.data }, { on := 7, ground := Go.Ground.data }], guard := none }) (v := ?_) rfl (by kernel_rfl) (by kernel_rfl) (by kernel_rfl) (fun _ _ _ h => h) (Or.inl ⟨by rfl, ?_⟩) hH0 ?_
            rotate_left
            · (intro wz hSz; obtain ⟨z0, z1, -⟩ := hSz; go_simp; try with_reducible rfl)
            try simp only [Act.put, List.setIfInBounds_toArray, List.set_cons_zero, List.set_cons_succ]
            refine wpAnyH_take (i := 9) (oi := { dst := some 114, op := Go.Op.fieldAddr 51 (Go.Operand.tmp 113) 1, type := 0, pos := "ref.go:95", after := #[{ on := 8, ground := Go.Ground.data }], guard := none }) (v := ?_) rfl (by kernel_rfl) (by kernel_rfl) (by kernel_rfl) (fun _ _ _ h => h) (Or.inl ⟨by rfl, ?_⟩) hH0 ?_
            rotate_left
            · (intro wz hSz; obtain ⟨z0, z1, -⟩ := hSz; go_simp; try with_reducible rfl)
            try simp only [Act.put, List.setIfInBounds_toArray, List.set_cons_zero, List.set_cons_succ]
            refine wpAnyH_take (i := 10) (oi := { dst := some 115, op := Go.Op.load 4 (Go.Operand.tmp 114), type := 4, pos := "ref.go:95", after := #[{ on := 9, ground := Go.Ground.data }], guard := none }) (v := ?_) rfl (by kernel_rfl) (by kernel_rfl) (by kernel_rfl) (fun _ _ _ h => h) (Or.inl ⟨by rfl, ?_⟩) hH0 ?_
            rotate_left
            · (intro wz hSz; obtain ⟨z0, z1, -⟩ := hSz; go_simp; try with_reducible rfl)
            try simp only [Act.put, List.setIfInBounds_toArray, List.set_cons_zero, List.set_cons_succ]
            refine wpAnyH_take (i := 11) (oi := { dst := some 116, op := Go.Op.move (Go.Operand.tmp 115), type := 4, pos := "ref.go:95", after := #[{ on := 10, ground := Go.Ground.data }], guard := none }) (v := ?_) rfl (by kernel_rfl) (by kernel_rfl) (by kernel_rfl) (fun _ _ _ h => h) (Or.inl ⟨by rfl, ?_⟩) hH0 ?_
            rotate_left
            · (intro wz hSz; obtain ⟨z0, z1, -⟩ := hSz; go_simp; try with_reducible rfl)
            try simp only [Act.put, List.setIfInBounds_toArray, List.set_cons_zero, List.set_cons_succ]
            refine wpAnyH_take (i := 12) (oi := { dst := some 117, op := Go.Op.move (Go.Operand.tmp 14), type := 3, pos := "ref.go:95", after := #[{ on := 11, ground := Go.Ground.guard }], guard := some (11, true) }) (v := undef) rfl (by kernel_rfl) (by kernel_rfl) (by kernel_rfl) (fun _ _ _ h => h) (Or.inr ⟨by rfl, rfl⟩) hH0 ?_
            try simp only [Act.put, List.setIfInBounds_toArray, List.set_cons_zero, List.set_cons_succ]
            refine wpAnyH_take (i := 13) (oi := { dst := some 118, op := Go.Op.binOp Go.BinOp.add 3 (Go.Operand.tmp 117) (Go.Operand.const (Go.Value.int Go.IntKind.i64 1)) 3, type := 3, pos := "ref.go:95", after := #[{ on := 12, ground := Go.Ground.data }, { on := 11, ground := Go.Ground.guard }], guard := some (11, true) }) (v := undef) rfl (by kernel_rfl) (by kernel_rfl) (by kernel_rfl) (fun _ _ _ h => h) (Or.inr ⟨by rfl, rfl⟩) hH0 ?_
            try simp only [Act.put, List.setIfInBounds_toArray, List.set_cons_zero, List.set_cons_succ]
            refine wpAnyH_take (i := 14) (oi := { dst := some 119, op := Go.Op.move (Go.Operand.tmp 10), type := 22, pos := "ref.go:95", after := #[{ on := 11, ground := Go.Ground.guard }], guard := some (11, true) }) (v := undef) rfl (by kernel_rfl) (by kernel_rfl) (by kernel_rfl) (fun _ _ _ h => h) (Or.inr ⟨by rfl, rfl⟩) hH0 ?_
            try simp only [Act.put, List.setIfInBounds_toArray, List.set_cons_zero, List.set_cons_succ]
            refine wpAnyH_take (i := 15) (oi := { dst := some 120, op := Go.Op.call { callee := Go.Callee.builtin Go.Builtin.len, args := #[Go.Operand.tmp 119], argTypes := #[22] }, type := 3, pos := "ref.go:95", after := #[{ on := 14, ground := Go.Ground.data }, { on := 11, ground := Go.Ground.guard }], guard := some (11, true) }) (v := undef) rfl (by kernel_rfl) (by kernel_rfl) (by kernel_rfl) (fun _ _ _ h => h) (Or.inr ⟨by rfl, rfl⟩) hH0 ?_
            try simp only [Act.put, List.setIfInBounds_toArray, List.set_cons_zero, List.set_cons_succ]
            refine wpAnyH_take (i := 16) (oi := { dst := some 121, op := Go.Op.binOp Go.BinOp.eql 3 (Go.Operand.tmp 118) (Go.Operand.tmp 120) 3, type := 4, pos := "ref.go:95", after := #[{ on := 13, ground := Go.Ground.data }, { on := 15, ground := Go.Ground.data }, { on := 11, ground := Go.Ground.guard }], guard := some (11, true) }) (v := undef) rfl (by kernel_rfl) (by kernel_rfl) (by kernel_rfl) (fun _ _ _ h => h) (Or.inr ⟨by rfl, rfl⟩) hH0 ?_
            try simp only [Act.put, List.setIfInBounds_toArray, List.set_cons_zero, List.set_cons_succ]
            refine wpAnyH_take (i := 17) (oi := { dst := some 122, op := Go.Op.pick (Go.Operand.tmp 116) (Go.Operand.tmp 121) (Go.Operand.const (Go.Value.bool false)), type := 4, pos := "ref.go:95", after := #[{ on := 11, ground := Go.Ground.data }, { on := 16, ground := Go.Ground.data }], guard := none }) (v := ?_) rfl (by kernel_rfl) (by kernel_rfl) (by kernel_rfl) (fun _ _ _ h => h) (Or.inl ⟨by rfl, ?_⟩) hH0 ?_
            rotate_left
            · (intro wz hSz; obtain ⟨z0, z1, -⟩ := hSz; go_simp; try with_reducible rfl)
            try simp only [Act.put, List.setIfInBounds_toArray, List.set_cons_zero, List.set_cons_succ]
            try clear e9
            refine wpAnyH_take (i := 18) (oi := { dst := some 123, op := Go.Op.build 51 #[(0, Go.Operand.tmp 110), (1, Go.Operand.tmp 122)], type := 51, pos := "ref.go:95", after := #[{ on := 5, ground := Go.Ground.data }, { on := 17, ground := Go.Ground.data }], guard := none }) (v := ?_) rfl (by kernel_rfl) (by kernel_rfl) (by kernel_rfl) (fun _ _ _ h => h) (Or.inl ⟨by rfl, ?_⟩) hH0 ?_
            rotate_left
            · (intro wz hSz; obtain ⟨z0, z1, -⟩ := hSz; go_simp; try with_reducible rfl)
            try simp only [Act.put, List.setIfInBounds_toArray, List.set_cons_zero, List.set_cons_succ]
            refine wpAnyH_ready (rs := [19]) (by kernel_rfl) (by simp) ?_
            refine AllReadyH.cons (o := { dst := some 124, op := Go.Op.buildSlice 22 1 #[(0, Go.Operand.tmp 123)], type := 22, pos := "ref.go:95", after := #[{ on := 18, ground := Go.Ground.data }], guard := none }) rfl (fun K hK => ?_) AllReadyH.nil
            go_simp
            refine hK.out _ _ (HSX.out _ (HBD.out.alloc hsd (.cells #[.string ⟨tx.toArray⟩, .bool false] 51))) (fun hH1 => ?_)
            have HNW := Lib.hid (World.news_of_block (heap_alloc_new wd (.cells #[.string ⟨tx.toArray⟩, .bool false] 51)))
            have HOA := Lib.hid (own_below HOD.out (alloc1 wd (.cells #[.string ⟨tx.toArray⟩, .bool false] 51)))
            have HBA := Lib.hid (HBD.out.alloc hsd (.cells #[.string ⟨tx.toArray⟩, .bool false] 51))
            have hse : bs ≤ (wd.alloc (.cells #[.string ⟨tx.toArray⟩, .bool false] 51)).heap.size := by simp; omega
            have H1C : Hid (∀ u ∈ ([.string ⟨tx.toArray⟩, .bool false] : List Value), u.oneCell' = true) := Lib.hid (by intro u hu; simp at hu; rcases hu with rfl | rfl <;> rfl)
            clear hK K hH0 HBD HOD
            generalize wd.alloc (.cells #[.string ⟨tx.toArray⟩, .bool false] 51) = w5 at *
            generalize wd.heap.size = gb at *
            try simp only [Act.put, List.setIfInBounds_toArray, List.set_cons_zero, List.set_cons_succ]
            refine wpAnyH_ready (rs := [20]) (by kernel_rfl) (by simp) ?_
            refine AllReadyH.cons (o := { dst := some 125, op := Go.Op.call { callee := Go.Callee.builtin Go.Builtin.append, args := #[Go.Operand.tmp 105, Go.Operand.tmp 124], argTypes := #[22, 22] }, type := 22, pos := "ref.go:95", after := #[{ on := 0, ground := Go.Ground.data }, { on := 19, ground := Go.Ground.data }, { on := 11, ground := Go.Ground.chain }], guard := none }) rfl (fun K hK => ?_) AllReadyH.nil
            refine step_append_lies _ (by rfl) (.tmp 105) (.tmp 124) 22 (by rfl) bs 51 i0 _ 2 24 Try.underlying22 hi0 hz0 hz1 hz2 rfl (by decide) (.slice NA k nc) k (lineCells (wh.take k)) (by rfl) HOA.out ⟨gb, 0, none⟩ 1 1 [.string ⟨tx.toArray⟩, .bool false] (by rfl) rfl HNW.out H1C.out (by omega) (by unfold maxLen; omega) (by omega) (by omega) _ rfl ?_
            intro g6 cap6 w6 hown6 hg6 hat6 hlt6
            have HB6 := Lib.hid (HBA.out.grown hg6 hse (own_base HOA.out))
            refine hK.out _ _ (HSX.out _ HB6.out) (fun hH2 => ?_)
            have HO6 : Hid (w6.ownsRow bs 51 2 (.slice (some ⟨g6, 0, none⟩) (k + 1) cap6) (k + 1) (lineCells (wh.take (k + 1)))) := Lib.hid (by rw [HQ.out, lineCells_app]; exact hown6)
            clear hK K hH1 HOA HNW H1C hse hown6 hg6 hat6 hlt6 HBA
            try simp only [Act.put, List.setIfInBounds_toArray, List.set_cons_zero, List.set_cons_succ]
            refine wpAnyH_take (i := 21) (oi := { dst := some 13, op := Go.Op.assign (Go.Operand.tmp 125), type := 22, pos := "ref.go:95", after := #[{ on := 20, ground := Go.Ground.data }, { on := 20, ground := Go.Ground.chain }, { on := 0, ground := Go.Ground.phase }, { on := 1, ground := Go.Ground.phase }, { on := 2, ground := Go.Ground.phase }, { on := 3, ground := Go.Ground.phase }, { on := 4, ground := Go.Ground.phase }, { on := 5, ground := Go.Ground.phase }, { on := 6, ground := Go.Ground.phase }, { on := 7, ground := Go.Ground.phase }, { on := 8, ground := Go.Ground.phase }, { on := 9, ground := Go.Ground.phase }, { on := 10, ground := Go.Ground.phase }, { on := 11, ground := Go.Ground.phase }, { on := 12, ground := Go.Ground.phase }, { on := 13, ground := Go.Ground.phase }, { on := 14, ground := Go.Ground.phase }, { on := 15, ground := Go.Ground.phase }, { on := 16, ground := Go.Ground.phase }, { on := 17, ground := Go.Ground.phase }, { on := 18, ground := Go.Ground.phase }, { on := 19, ground := Go.Ground.phase }, { on := 20, ground := Go.Ground.phase }], guard := none }) (v := ?_) rfl (by kernel_rfl) (by kernel_rfl) (by kernel_rfl) (fun _ _ _ h => h) (Or.inl ⟨by rfl, ?_⟩) hH2 ?_
            rotate_left
            · (intro wz hSz; obtain ⟨z0, z1, -⟩ := hSz; go_simp; try with_reducible rfl)
            try simp only [Act.put, List.setIfInBounds_toArray, List.set_cons_zero, List.set_cons_succ]
            refine wpAnyH_done (by kernel_rfl) ?_ _
            clear hH2 HSX
            go_wp2_with fail
            go_roundg (t.length - (k + 1))
            case rel => exact ⟨k + 1, _, cap6, by omega, by go_num, rfl, Nat.le_refl _, HO6.out, HB6.out⟩
            case measure => omega
          | true =>
            by_cases hl9 : k + 1 = t.length
            · have HQ := Lib.hid (HT.out.trans (by rw [Bool.true_and, decide_eq_true hl9]))
              have e9 : (((k : Int) + 1) == (t.length : Int)) = true := by simp; omega
              clear hl9
              clear HBT
              have HSX : Hid (∀ wz, Below bs ww wz → (wz.cell? ⟨tb, tf + k * 2, none⟩ = some (.string ⟨tx.toArray⟩) ∧ wz.cell? ⟨tb, tf + k * 2 + 1, none⟩ = some (.bool true) ∧ Below bs ww wz)) := Lib.hid (fun wz h => ⟨(h.cell (p := ⟨tb, _, none⟩) htw).trans a0, (h.cell (p := ⟨tb, _, none⟩) htw).trans a1, h⟩)
              have HBD := Lib.hid (HBR.out.drew)
              have HOD : Hid (wr.drew.ownsRow bs 51 2 (.slice NA k nc) k (lineCells (wh.take k))) := Lib.hid HOW.out
              have hsd : bs ≤ wr.drew.heap.size := hsw
              clear HT a0 a1 htw HOW HBR hsb hsw
              go_wp2_with fail
              refine wp_region_held_drew (S := fun wz => wz.cell? ⟨tb, tf + k * 2, none⟩ = some (.string ⟨tx.toArray⟩) ∧ wz.cell? ⟨tb, tf + k * 2 + 1, none⟩ = some (.bool true) ∧ Below bs ww wz) (by kernel_rfl) (HSX.out _ HBD.out) (fun hH0 => ?_)
              simp only [List.size_toArray, List.length_cons, List.length_nil, Nat.zero_add, Nat.reduceAdd, Array.replicate_succ, Array.replicate_zero, List.push_toArray, List.nil_append, List.cons_append]
              obtain ⟨wd, hwd⟩ : ∃ z, z = wr.drew := ⟨_, rfl⟩
              rw [← hwd] at hH0 HBD HOD hsd ⊢
              clear hwd
              refine wpAnyH_take (i := 0) (oi := { dst := some 105, op := Go.Op.move (Go.Operand.tmp 13), type := 22, pos := "ref.go:95", after := #[], guard := none }) (v := ?_) rfl (by kernel_rfl) (by kernel_rfl) (by kernel_rfl) (fun _ _ _ h => h) (Or.inl ⟨by rfl, ?_⟩) hH0 ?_
              rotate_left
              · (intro wz hSz; obtain ⟨z0, z1, -⟩ := hSz; go_simp; try with_reducible rfl)
              try simp only [Act.put, List.setIfInBounds_toArray, List.set_cons_zero, List.set_cons_succ]
              refine wpAnyH_take (i := 1) (oi := { dst := some 106, op := Go.Op.move (Go.Operand.tmp 10), type := 22, pos := "ref.go:95", after := #[], guard := none }) (v := ?_) rfl (by kernel_rfl) (by kernel_rfl) (by kernel_rfl) (fun _ _ _ h => h) (Or.inl ⟨by rfl, ?_⟩) hH0 ?_
              rotate_left
              · (intro wz hSz; obtain ⟨z0, z1, -⟩ := hSz; go_simp; try with_reducible rfl)
              try simp only [Act.put, List.setIfInBounds_toArray, List.set_cons_zero, List.set_cons_succ]
              refine wpAnyH_take (i := 2) (oi := { dst := some 107, op := Go.Op.move (Go.Operand.tmp 14), type := 3, pos := "ref.go:95", after := #[], guard := none }) (v := ?_) rfl (by kernel_rfl) (by kernel_rfl) (by kernel_rfl) (fun _ _ _ h => h) (Or.inl ⟨by rfl, ?_⟩) hH0 ?_
              rotate_left
              · (intro wz hSz; obtain ⟨z0, z1, -⟩ := hSz; go_simp; try with_reducible rfl)
              try simp only [Act.put, List.setIfInBounds_toArray, List.set_cons_zero, List.set_cons_succ]
              refine wpAnyH_take (i := 3) (oi := { dst := some 108, op := Go.Op.indexAddr 22 (Go.Operand.tmp 106) (Go.Operand.tmp 107), type := 0, pos := "ref.go:95", after := #[{ on := 1, ground := Go.Ground.data }, { on := 2, ground := Go.Ground.data }], guard := none }) (v := ?_) rfl (by kernel_rfl) (by kernel_rfl) (by kernel_rfl) (fun _ _ _ h => h) (Or.inl ⟨by rfl, ?_⟩) hH0 ?_
              rotate_left
              · (intro wz hSz; obtain ⟨z0, z1, -⟩ := hSz; go_simp; try with_reducible rfl)
              try simp only [Act.put, List.setIfInBounds_toArray, List.set_cons_zero, List.set_cons_succ]
              refine wpAnyH_take (i := 4) (oi := { dst := some 109, op := Go.Op.fieldAddr 51 (Go.Operand.tmp 108) 0, type := 0, pos := "ref.go:95", after := #[{ on := 3, ground := Go.Ground.data }], guard := none }) (v := ?_) rfl (by kernel_rfl) (by kernel_rfl) (by kernel_rfl) (fun _ _ _ h => h) (Or.inl ⟨by rfl, ?_⟩) hH0 ?_
              rotate_left
              · (intro wz hSz; obtain ⟨z0, z1, -⟩ := hSz; go_simp; try with_reducible rfl)
              try simp only [Act.put, List.setIfInBounds_toArray, List.set_cons_zero, List.set_cons_succ]
              refine wpAnyH_take (i := 5) (oi := { dst := some 110, op := Go.Op.load 9 (Go.Operand.tmp 109), type := 9, pos := "ref.go:95", after := #[{ on := 4, ground := Go.Ground.data }], guard := none }) (v := ?_) rfl (by kernel_rfl) (by kernel_rfl) (by kernel_rfl) (fun _ _ _ h => h) (Or.inl ⟨by rfl, ?_⟩) hH0 ?_
              rotate_left
              · (intro wz hSz; obtain ⟨z0, z1, -⟩ := hSz; go_simp; try with_reducible rfl)
              try simp only [Act.put, List.setIfInBounds_toArray, List.set_cons_zero, List.set_cons_succ]
              refine wpAnyH_take (i := 6) (oi := { dst := some 111, op := Go.Op.move (Go.Operand.tmp 10), type := 22, pos := "ref.go:95", after := #[], guard := none }) (v := ?_) rfl (by kernel_rfl) (by kernel_rfl) (by kernel_rfl) (fun _ _ _ h => h) (Or.inl ⟨by rfl, ?_⟩) hH0 ?_
              rotate_left
              · (intro wz hSz; obtain ⟨z0, z1, -⟩ := hSz; go_simp; try with_reducible rfl)
              try simp only [Act.put, List.setIfInBounds_toArray, List.set_cons_zero, List.set_cons_succ]
              refine wpAnyH_take (i := 7) (oi := { dst := some 112, op := Go.Op.move (Go.Operand.tmp 14), type := 3, pos := "ref.go:95", after := #[], guard := none }) (v := ?_) rfl (by kernel_rfl) (by kernel_rfl) (by kernel_rfl) (fun _ _ _ h => h) (Or.inl ⟨by rfl, ?_⟩) hH0 ?_
              rotate_left
              · (intro wz hSz; obtain ⟨z0, z1, -⟩ := hSz; go_simp; try with_reducible rfl)
              try simp only [Act.put, List.setIfInBounds_toArray, List.set_cons_zero, List.set_cons_succ]
              refine wpAnyH_take (i := 8) (oi := { dst := some 113, op := Go.Op.indexAddr 22 (Go.Operand.tmp 111) (Go.Operand.tmp 112), type := 0, pos := "ref.go:95", after := #[{ on := 6, ground := Go.Ground.data }, { on := 7, ground := Go.Ground.data }], guard := none }) (v := ?_) rfl (by kernel_rfl) (by kernel_rfl) (by kernel_rfl) (fun _ _ _ h => h) (Or.inl ⟨by rfl, ?_⟩) hH0 ?_
              rotate_left
              · (intro wz hSz; obtain ⟨z0, z1, -⟩ := hSz; go_simp; try with_reducible rfl)
              try simp only [Act.put, List.setIfInBounds_toArray, List.set_cons_zero, List.set_cons_succ]
              refine wpAnyH_take (i := 9) (oi := { dst := some 114, op := Go.Op.fieldAddr 51 (Go.Operand.tmp 113) 1, type := 0, pos := "ref.go:95", after := #[{ on := 8, ground := Go.Ground.data }], guard := none }) (v := ?_) rfl (by kernel_rfl) (by kernel_rfl) (by kernel_rfl) (fun _ _ _ h => h) (Or.inl ⟨by rfl, ?_⟩) hH0 ?_
              rotate_left
              · (intro wz hSz; obtain ⟨z0, z1, -⟩ := hSz; go_simp; try with_reducible rfl)
              try simp only [Act.put, List.setIfInBounds_toArray, List.set_cons_zero, List.set_cons_succ]
              refine wpAnyH_take (i := 10) (oi := { dst := some 115, op := Go.Op.load 4 (Go.Operand.tmp 114), type := 4, pos := "ref.go:95", after := #[{ on := 9, ground := Go.Ground.data }], guard := none }) (v := ?_) rfl (by kernel_rfl) (by kernel_rfl) (by kernel_rfl) (fun _ _ _ h => h) (Or.inl ⟨by rfl, ?_⟩) hH0 ?_
              rotate_left
              · (intro wz hSz; obtain ⟨z0, z1, -⟩ := hSz; go_simp; try with_reducible rfl)
              try simp only [Act.put, List.setIfInBounds_toArray, List.set_cons_zero, List.set_cons_succ]
              refine wpAnyH_take (i := 11) (oi := { dst := some 116, op := Go.Op.move (Go.Operand.tmp 115), type := 4, pos := "ref.go:95", after := #[{ on := 10, ground := Go.Ground.data }], guard := none }) (v := ?_) rfl (by kernel_rfl) (by kernel_rfl) (by kernel_rfl) (fun _ _ _ h => h) (Or.inl ⟨by rfl, ?_⟩) hH0 ?_
              rotate_left
              · (intro wz hSz; obtain ⟨z0, z1, -⟩ := hSz; go_simp; try with_reducible rfl)
              try simp only [Act.put, List.setIfInBounds_toArray, List.set_cons_zero, List.set_cons_succ]
              refine wpAnyH_take (i := 12) (oi := { dst := some 117, op := Go.Op.move (Go.Operand.tmp 14), type := 3, pos := "ref.go:95", after := #[{ on := 11, ground := Go.Ground.guard }], guard := some (11, true) }) (v := ?_) rfl (by kernel_rfl) (by kernel_rfl) (by kernel_rfl) (fun _ _ _ h => h) (Or.inl ⟨by rfl, ?_⟩) hH0 ?_
              rotate_left
              · (intro wz hSz; obtain ⟨z0, z1, -⟩ := hSz; go_simp; try with_reducible rfl)
              try simp only [Act.put, List.setIfInBounds_toArray, List.set_cons_zero, List.set_cons_succ]
              refine wpAnyH_take (i := 13) (oi := { dst := some 118, op := Go.Op.binOp Go.BinOp.add 3 (Go.Operand.tmp 117) (Go.Operand.const (Go.Value.int Go.IntKind.i64 1)) 3, type := 3, pos := "ref.go:95", after := #[{ on := 12, ground := Go.Ground.data }, { on := 11, ground := Go.Ground.guard }], guard := some (11, true) }) (v := ?_) rfl (by kernel_rfl) (by kernel_rfl) (by kernel_rfl) (fun _ _ _ h => h) (Or.inl ⟨by rfl, ?_⟩) hH0 ?_
              rotate_left
              · (intro wz hSz; obtain ⟨z0, z1, -⟩ := hSz; go_simp; try with_reducible rfl)
              try simp only [Act.put, List.setIfInBounds_toArray, List.set_cons_zero, List.set_cons_succ]
              refine wpAnyH_take (i := 14) (oi := { dst := some 119, op := Go.Op.move (Go.Operand.tmp 10), type := 22, pos := "ref.go:95", after := #[{ on := 11, ground := Go.Ground.guard }], guard := some (11, true) }) (v := ?_) rfl (by kernel_rfl) (by kernel_rfl) (by kernel_rfl) (fun _ _ _ h => h) (Or.inl ⟨by rfl, ?_⟩) hH0 ?_
              rotate_left
              · (intro wz hSz; obtain ⟨z0, z1, -⟩ := hSz; go_simp; try with_reducible rfl)
              try simp only [Act.put, List.setIfInBounds_toArray, List.set_cons_zero, List.set_cons_succ]
              refine wpAnyH_take (i := 15) (oi := { dst := some 120, op := Go.Op.call { callee := Go.Callee.builtin Go.Builtin.len, args := #[Go.Operand.tmp 119], argTypes := #[22] }, type := 3, pos := "ref.go:95", after := #[{ on := 14, ground := Go.Ground.data }, { on := 11, ground := Go.Ground.guard }], guard := some (11, true) }) (v := ?_) rfl (by kernel_rfl) (by kernel_rfl) (by kernel_rfl) (fun _ _ _ h => h) (Or.inl ⟨by rfl, ?_⟩) hH0 ?_
              rotate_left
              · (intro wz hSz; obtain ⟨z0, z1, -⟩ := hSz; go_simp; try with_reducible rfl)
              try simp only [Act.put, List.setIfInBounds_toArray, List.set_cons_zero, List.set_cons_succ]
              refine wpAnyH_take (i := 16) (oi := { dst := some 121, op := Go.Op.binOp Go.BinOp.eql 3 (Go.Operand.tmp 118) (Go.Operand.tmp 120) 3, type := 4, pos := "ref.go:95", after := #[{ on := 13, ground := Go.Ground.data }, { on := 15, ground := Go.Ground.data }, { on := 11, ground := Go.Ground.guard }], guard := some (11, true) }) (v := ?_) rfl (by kernel_rfl) (by kernel_rfl) (by kernel_rfl) (fun _ _ _ h => h) (Or.inl ⟨by rfl, ?_⟩) hH0 ?_
              rotate_left
              · (intro wz hSz; obtain ⟨z0, z1, -⟩ := hSz; go_simp; try with_reducible rfl)
              try simp only [Act.put, List.setIfInBounds_toArray, List.set_cons_zero, List.set_cons_succ]
              refine wpAnyH_take (i := 17) (oi := { dst := some 122, op := Go.Op.pick (Go.Operand.tmp 116) (Go.Operand.tmp 121) (Go.Operand.const (Go.Value.bool false)), type := 4, pos := "ref.go:95", after := #[{ on := 11, ground := Go.Ground.data }, { on := 16, ground := Go.Ground.data }], guard := none }) (v := ?_) rfl (by kernel_rfl) (by kernel_rfl) (by kernel_rfl) (fun _ _ _ h => h) (Or.inl ⟨by rfl, ?_⟩) hH0 ?_
              rotate_left
              · (intro wz hSz; obtain ⟨z0, z1, -⟩ := hSz; go_simp; try with_reducible rfl)
              try simp only [Act.put, List.setIfInBounds_toArray, List.set_cons_zero, List.set_cons_succ]
              try clear e9
              refine wpAnyH_take (i := 18) (oi := { dst := some 123, op := Go.Op.build 51 #[(0, Go.Operand.tmp 110), (1, Go.Operand.tmp 122)], type := 51, pos := "ref.go:95", after := #[{ on := 5, ground := Go.Ground.data }, { on := 17, ground := Go.Ground.data }], guard := none }) (v := ?_) rfl (by kernel_rfl) (by kernel_rfl) (by kernel_rfl) (fun _ _ _ h => h) (Or.inl ⟨by rfl, ?_⟩) hH0 ?_
              rotate_left
              · (intro wz hSz; obtain ⟨z0, z1, -⟩ := hSz; go_simp; try with_reducible rfl)
              try simp only [Act.put, List.setIfInBounds_toArray, List.set_cons_zero, List.set_cons_succ]
              refine wpAnyH_ready (rs := [19]) (by kernel_rfl) (by simp) ?_
              refine AllReadyH.cons (o := { dst := some 124, op := Go.Op.buildSlice 22 1 #[(0, Go.Operand.tmp 123)], type := 22, pos := "ref.go:95", after := #[{ on := 18, ground := Go.Ground.data }], guard := none }) rfl (fun K hK => ?_) AllReadyH.nil
              go_simp
              refine hK.out _ _ (HSX.out _ (HBD.out.alloc hsd (.cells #[.string ⟨tx.toArray⟩, .bool true] 51))) (fun hH1 => ?_)
              have HNW := Lib.hid (World.news_of_block (heap_alloc_new wd (.cells #[.string ⟨tx.toArray⟩, .bool true] 51)))
              have HOA := Lib.hid (own_below HOD.out (alloc1 wd (.cells #[.string ⟨tx.toArray⟩, .bool true] 51)))
              have HBA := Lib.hid (HBD.out.alloc hsd (.cells #[.string ⟨tx.toArray⟩, .bool true] 51))
              have hse : bs ≤ (wd.alloc (.cells #[.string ⟨tx.toArray⟩, .bool true] 51)).heap.size := by simp; omega
              have H1C : Hid (∀ u ∈ ([.string ⟨tx.toArray⟩, .bool true] : List Value), u.oneCell' = true) := Lib.hid (by intro u hu; simp at hu; rcases hu with rfl | rfl <;> rfl)
              clear hK K hH0 HBD HOD
              generalize wd.alloc (.cells #[.string ⟨tx.toArray⟩, .bool true] 51) = w5 at *
              generalize wd.heap.size = gb at *
              try simp only [Act.put, List.setIfInBounds_toArray, List.set_cons_zero, List.set_cons_succ]
              refine wpAnyH_ready (rs := [20]) (by kernel_rfl) (by simp) ?_
              refine AllReadyH.cons (o := { dst := some 125, op := Go.Op.call { callee := Go.Callee.builtin Go.Builtin.append, args := #[Go.Operand.tmp 105, Go.Operand.tmp 124], argTypes := #[22, 22] }, type := 22, pos := "ref.go:95", after := #[{ on := 0, ground := Go.Ground.data }, { on := 19, ground := Go.Ground.data }, { on := 11, ground := Go.Ground.chain }], guard := none }) rfl (fun K hK => ?_) AllReadyH.nil
              refine step_append_lies _ (by rfl) (.tmp 105) (.tmp 124) 22 (by rfl) bs 51 i0 _ 2 24 Try.underlying22 hi0 hz0 hz1 hz2 rfl (by decide) (.slice NA k nc) k (lineCells (wh.take k)) (by rfl) HOA.out ⟨gb, 0, none⟩ 1 1 [.string ⟨tx.toArray⟩, .bool true] (by rfl) rfl HNW.out H1C.out (by omega) (by unfold maxLen; omega) (by omega) (by omega) _ rfl ?_
              intro g6 cap6 w6 hown6 hg6 hat6 hlt6
              have HB6 := Lib.hid (HBA.out.grown hg6 hse (own_base HOA.out))
              refine hK.out _ _ (HSX.out _ HB6.out) (fun hH2 => ?_)
              have HO6 : Hid (w6.ownsRow bs 51 2 (.slice (some ⟨g6, 0, none⟩) (k + 1) cap6) (k + 1) (lineCells (wh.take (k + 1)))) := Lib.hid (by rw [HQ.out, lineCells_app]; exact hown6)
              clear hK K hH1 HOA HNW H1C hse hown6 hg6 hat6 hlt6 HBA
              try simp only [Act.put, List.setIfInBounds_toArray, List.set_cons_zero, List.set_cons_succ]
              refine wpAnyH_take (i := 21) (oi := { dst := some 13, op := Go.Op.assign (Go.Operand.tmp 125), type := 22, pos := "ref.go:95", after := #[{ on := 20, ground := Go.Ground.data }, { on := 20, ground := Go.Ground.chain }, { on := 0, ground := Go.Ground.phase }, { on := 1, ground := Go.Ground.phase }, { on := 2, ground := Go.Ground.phase }, { on := 3, ground := Go.Ground.phase }, { on := 4, ground := Go.Ground.phase }, { on := 5, ground := Go.Ground.phase }, { on := 6, ground := Go.Ground.phase }, { on := 7, ground := Go.Ground.phase }, { on := 8, ground := Go.Ground.phase }, { on := 9, ground := Go.Ground.phase }, { on := 10, ground := Go.Ground.phase }, { on := 11, ground := Go.Ground.phase }, { on := 12, ground := Go.Ground.phase }, { on := 13, ground := Go.Ground.phase }, { on := 14, ground := Go.Ground.phase }, { on := 15, ground := Go.Ground.phase }, { on := 16, ground := Go.Ground.phase }, { on := 17, ground := Go.Ground.phase }, { on := 18, ground := Go.Ground.phase }, { on := 19, ground := Go.Ground.phase }, { on := 20, ground := Go.Ground.phase }], guard := none }) (v := ?_) rfl (by kernel_rfl) (by kernel_rfl) (by kernel_rfl) (fun _ _ _ h => h) (Or.inl ⟨by rfl, ?_⟩) hH2 ?_
              rotate_left
              · (intro wz hSz; obtain ⟨z0, z1, -⟩ := hSz; go_simp; try with_reducible rfl)
              try simp only [Act.put, List.setIfInBounds_toArray, List.set_cons_zero, List.set_cons_succ]
              refine wpAnyH_done (by kernel_rfl) ?_ _
              clear hH2 HSX
              go_wp2_with fail
              go_roundg (t.length - (k + 1))
              case rel => exact ⟨k + 1, _, cap6, by omega, by go_num, rfl, Nat.le_refl _, HO6.out, HB6.out⟩
              case measure => omega
            · have HQ := Lib.hid (HT.out.trans (by rw [Bool.true_and, decide_eq_false hl9]))
              have e9 : (((k : Int) + 1) == (t.length : Int)) = false := by simp; omega
              clear hl9
              clear HBT
              have HSX : Hid (∀ wz, Below bs ww wz → (wz.cell? ⟨tb, tf + k * 2, none⟩ = some (.string ⟨tx.toArray⟩) ∧ wz.cell? ⟨tb, tf + k * 2 + 1, none⟩ = some (.bool true) ∧ Below bs ww wz)) := Lib.hid (fun wz h => ⟨(h.cell (p := ⟨tb, _, none⟩) htw).trans a0, (h.cell (p := ⟨tb, _, none⟩) htw).trans a1, h⟩)
              have HBD := Lib.hid (HBR.out.drew)
              have HOD : Hid (wr.drew.ownsRow bs 51 2 (.slice NA k nc) k (lineCells (wh.take k))) := Lib.hid HOW.out
              have hsd : bs ≤ wr.drew.heap.size := hsw
              clear HT a0 a1 htw HOW HBR hsb hsw
              go_wp2_with fail
              refine wp_region_held_drew (S := fun wz => wz.cell? ⟨tb, tf + k * 2, none⟩ = some (.string ⟨tx.toArray⟩) ∧ wz.cell? ⟨tb, tf + k * 2 + 1, none⟩ = some (.bool true) ∧ Below bs ww wz) (by kernel_rfl) (HSX.out _ HBD.out) (fun hH0 => ?_)
              simp only [List.size_toArray, List.length_cons, List.length_nil, Nat.zero_add, Nat.reduceAdd, Array.replicate_succ, Array.replicate_zero, List.push_toArray, List.nil_append, List.cons_append]
              obtain ⟨wd, hwd⟩ : ∃ z, z = wr.drew := ⟨_, rfl⟩
              rw [← hwd] at hH0 HBD HOD hsd ⊢
              clear hwd
              refine wpAnyH_take (i := 0) (oi := { dst := some 105, op := Go.Op.move (Go.Operand.tmp 13), type := 22, pos := "ref.go:95", after := #[], guard := none }) (v := ?_) rfl (by kernel_rfl) (by kernel_rfl) (by kernel_rfl) (fun _ _ _ h => h) (Or.inl ⟨by rfl, ?_⟩) hH0 ?_
              rotate_left
              · (intro wz hSz; obtain ⟨z0, z1, -⟩ := hSz; go_simp; try with_reducible rfl)
              try simp only [Act.put, List.setIfInBounds_toArray, List.set_cons_zero, List.set_cons_succ]
              refine wpAnyH_take (i := 1) (oi := { dst := some 106, op := Go.Op.move (Go.Operand.tmp 10), type := 22, pos := "ref.go:95", after := #[], guard := none }) (v := ?_) rfl (by kernel_rfl) (by kernel_rfl) (by kernel_rfl) (fun _ _ _ h => h) (Or.inl ⟨by rfl, ?_⟩) hH0 ?_
              rotate_left
              · (intro wz hSz; obtain ⟨z0, z1, -⟩ := hSz; go_simp; try with_reducible rfl)
              try simp only [Act.put, List.setIfInBounds_toArray, List.set_cons_zero, List.set_cons_succ]
              refine wpAnyH_take (i := 2) (oi := { dst := some 107, op := Go.Op.move (Go.Operand.tmp 14), type := 3, pos := "ref.go:95", after := #[], guard := none }) (v := ?_) rfl (by kernel_rfl) (by kernel_rfl) (by kernel_rfl) (fun _ _ _ h => h) (Or.inl ⟨by rfl, ?_⟩) hH0 ?_
              rotate_left
              · (intro wz hSz; obtain ⟨z0, z1, -⟩ := hSz; go_simp; try with_reducible rfl)
              try simp only [Act.put, List.setIfInBounds_toArray, List.set_cons_zero, List.set_cons_succ]
              refine wpAnyH_take (i := 3) (oi := { dst := some 108, op := Go.Op.indexAddr 22 (Go.Operand.tmp 106) (Go.Operand.tmp 107), type := 0, pos := "ref.go:95", after := #[{ on := 1, ground := Go.Ground.data }, { on := 2, ground := Go.Ground.data }], guard := none }) (v := ?_) rfl (by kernel_rfl) (by kernel_rfl) (by kernel_rfl) (fun _ _ _ h => h) (Or.inl ⟨by rfl, ?_⟩) hH0 ?_
              rotate_left
              · (intro wz hSz; obtain ⟨z0, z1, -⟩ := hSz; go_simp; try with_reducible rfl)
              try simp only [Act.put, List.setIfInBounds_toArray, List.set_cons_zero, List.set_cons_succ]
              refine wpAnyH_take (i := 4) (oi := { dst := some 109, op := Go.Op.fieldAddr 51 (Go.Operand.tmp 108) 0, type := 0, pos := "ref.go:95", after := #[{ on := 3, ground := Go.Ground.data }], guard := none }) (v := ?_) rfl (by kernel_rfl) (by kernel_rfl) (by kernel_rfl) (fun _ _ _ h => h) (Or.inl ⟨by rfl, ?_⟩) hH0 ?_
              rotate_left
              · (intro wz hSz; obtain ⟨z0, z1, -⟩ := hSz; go_simp; try with_reducible rfl)
              try simp only [Act.put, List.setIfInBounds_toArray, List.set_cons_zero, List.set_cons_succ]
              refine wpAnyH_take (i := 5) (oi := { dst := some 110, op := Go.Op.load 9 (Go.Operand.tmp 109), type := 9, pos := "ref.go:95", after := #[{ on := 4, ground := Go.Ground.data }], guard := none }) (v := ?_) rfl (by kernel_rfl) (by kernel_rfl) (by kernel_rfl) (fun _ _ _ h => h) (Or.inl ⟨by rfl, ?_⟩) hH0 ?_
              rotate_left
              · (intro wz hSz; obtain ⟨z0, z1, -⟩ := hSz; go_simp; try with_reducible rfl)
              try simp only [Act.put, List.setIfInBounds_toArray, List.set_cons_zero, List.set_cons_succ]
              refine wpAnyH_take (i := 6) (oi := { dst := some 111, op := Go.Op.move (Go.Operand.tmp 10), type := 22, pos := "ref.go:95", after := #[], guard := none }) (v := ?_) rfl (by kernel_rfl) (by kernel_rfl) (by kernel_rfl) (fun _ _ _ h => h) (Or.inl ⟨by rfl, ?_⟩) hH0 ?_
              rotate_left
              · (intro wz hSz; obtain ⟨z0, z1, -⟩ := hSz; go_simp; try with_reducible rfl)
              try simp only [Act.put, List.setIfInBounds_toArray, List.set_cons_zero, List.set_cons_succ]
              refine wpAnyH_take (i := 7) (oi := { dst := some 112, op := Go.Op.move (Go.Operand.tmp 14), type := 3, pos := "ref.go:95", after := #[], guard := none }) (v := ?_) rfl (by kernel_rfl) (by kernel_rfl) (by kernel_rfl) (fun _ _ _ h => h) (Or.inl ⟨by rfl, ?_⟩) hH0 ?_
              rotate_left
              · (intro wz hSz; obtain ⟨z0, z1, -⟩ := hSz; go_simp; try with_reducible rfl)
              try simp only [Act.put, List.setIfInBounds_toArray, List.set_cons_zero, List.set_cons_succ]
              refine wpAnyH_take (i := 8) (oi := { dst := some 113, op := Go.Op.indexAddr 22 (Go.Operand.tmp 111) (Go.Operand.tmp 112), type := 0, pos := "ref.go:95", after := #[{ on := 6, ground := Go.Ground.data }, { on := 7, ground := Go.Ground.data }], guard := none }) (v := ?_) rfl (by kernel_rfl) (by kernel_rfl) (by kernel_rfl) (fun _ _ _ h => h) (Or.inl ⟨by rfl, ?_⟩) hH0 ?_
              rotate_left
              · (intro wz hSz; obtain ⟨z0, z1, -⟩ := hSz; go_simp; try with_reducible rfl)
              try simp only [Act.put, List.setIfInBounds_toArray, List.set_cons_zero, List.set_cons_succ]
              refine wpAnyH_take (i := 9) (oi := { dst := some 114, op := Go.Op.fieldAddr 51 (Go.Operand.tmp 113) 1, type := 0, pos := "ref.go:95", after := #[{ on := 8, ground := Go.Ground.data }], guard := none }) (v := ?_) rfl (by kernel_rfl) (by kernel_rfl) (by kernel_rfl) (fun _ _ _ h => h) (Or.inl ⟨by rfl, ?_⟩) hH0 ?_
              rotate_left
              · (intro wz hSz; obtain ⟨z0, z1, -⟩ := hSz; go_simp; try with_reducible rfl)
              try simp only [Act.put, List.setIfInBounds_toArray, List.set_cons_zero, List.set_cons_succ]
              refine wpAnyH_take (i := 10) (oi := { dst := some 115, op := Go.Op.load 4 (Go.Operand.tmp 114), type := 4, pos := "ref.go:95", after := #[{ on := 9, ground := Go.Ground.data }], guard := none }) (v := ?_) rfl (by kernel_rfl) (by kernel_rfl) (by kernel_rfl) (fun _ _ _ h => h) (Or.inl ⟨by rfl, ?_⟩) hH0 ?_
              rotate_left
              · (intro wz hSz; obtain ⟨z0, z1, -⟩ := hSz; go_simp; try with_reducible rfl)
              try simp only [Act.put, List.setIfInBounds_toArray, List.set_cons_zero, List.set_cons_succ]
              refine wpAnyH_take (i := 11) (oi := { dst := some 116, op := Go.Op.move (Go.Operand.tmp 115), type := 4, pos := "ref.go:95", after := #[{ on := 10, ground := Go.Ground.data }], guard := none }) (v := ?_) rfl (by kernel_rfl) (by kernel_rfl) (by kernel_rfl) (fun _ _ _ h => h) (Or.inl ⟨by rfl, ?_⟩) hH0 ?_
              rotate_left
              · (intro wz hSz; obtain ⟨z0, z1, -⟩ := hSz; go_simp; try with_reducible rfl)
              try simp only [Act.put, List.setIfInBounds_toArray, List.set_cons_zero, List.set_cons_succ]
              refine wpAnyH_take (i := 12) (oi := { dst := some 117, op := Go.Op.move (Go.Operand.tmp 14), type := 3, pos := "ref.go:95", after := #[{ on := 11, ground := Go.Ground.guard }], guard := some (11, true) }) (v := ?_) rfl (by kernel_rfl) (by kernel_rfl) (by kernel_rfl) (fun _ _ _ h => h) (Or.inl ⟨by rfl, ?_⟩) hH0 ?_
              rotate_left
              · (intro wz hSz; obtain ⟨z0, z1, -⟩ := hSz; go_simp; try with_reducible rfl)
              try simp only [Act.put, List.setIfInBounds_toArray, List.set_cons_zero, List.set_cons_succ]
              refine wpAnyH_take (i := 13) (oi := { dst := some 118, op := Go.Op.binOp Go.BinOp.add 3 (Go.Operand.tmp 117) (Go.Operand.const (Go.Value.int Go.IntKind.i64 1)) 3, type := 3, pos := "ref.go:95", after := #[{ on := 12, ground := Go.Ground.data }, { on := 11, ground := Go.Ground.guard }], guard := some (11, true) }) (v := ?_) rfl (by kernel_rfl) (by kernel_rfl) (by kernel_rfl) (fun _ _ _ h => h) (Or.inl ⟨by rfl, ?_⟩) hH0 ?_
              rotate_left
              · (intro wz hSz; obtain ⟨z0, z1, -⟩ := hSz; go_simp; try with_reducible rfl)
              try simp only [Act.put, List.setIfInBounds_toArray, List.set_cons_zero, List.set_cons_succ]
              refine wpAnyH_take (i := 14) (oi := { dst := some 119, op := Go.Op.move (Go.Operand.tmp 10), type := 22, pos := "ref.go:95", after := #[{ on := 11, ground := Go.Ground.guard }], guard := some (11, true) }) (v := ?_) rfl (by kernel_rfl) (by kernel_rfl) (by kernel_rfl) (fun _ _ _ h => h) (Or.inl ⟨by rfl, ?_⟩) hH0 ?_
              rotate_left
              · (intro wz hSz; obtain ⟨z0, z1, -⟩ := hSz; go_simp; try with_reducible rfl)
              try simp only [Act.put, List.setIfInBounds_toArray, List.set_cons_zero, List.set_cons_succ]
              refine wpAnyH_take (i := 15) (oi := { dst := some 120, op := Go.Op.call { callee := Go.Callee.builtin Go.Builtin.len, args := #[Go.Operand.tmp 119], argTypes := #[22] }, type := 3, pos := "ref.go:95", after := #[{ on := 14, ground := Go.Ground.data }, { on := 11, ground := Go.Ground.guard }], guard := some (11, true) }) (v := ?_) rfl (by kernel_rfl) (by kernel_rfl) (by kernel_rfl) (fun _ _ _ h => h) (Or.inl ⟨by rfl, ?_⟩) hH0 ?_
              rotate_left
              · (intro wz hSz; obtain ⟨z0, z1, -⟩ := hSz; go_simp; try with_reducible rfl)
              try simp only [Act.put, List.setIfInBounds_toArray, List.set_cons_zero, List.set_cons_succ]
              refine wpAnyH_take (i := 16) (oi := { dst := some 121, op := Go.Op.binOp Go.BinOp.eql 3 (Go.Operand.tmp 118) (Go.Operand.tmp 120) 3, type := 4, pos := "ref.go:95", after := #[{ on := 13, ground := Go.Ground.data }, { on := 15, ground := Go.Ground.data }, { on := 11, ground := Go.Ground.guard }], guard := some (11, true) }) (v := ?_) rfl (by kernel_rfl) (by kernel_rfl) (by kernel_rfl) (fun _ _ _ h => h) (Or.inl ⟨by rfl, ?_⟩) hH0 ?_
              rotate_left
              · (intro wz hSz; obtain ⟨z0, z1, -⟩ := hSz; go_simp; try with_reducible rfl)
              try simp only [Act.put, List.setIfInBounds_toArray, List.set_cons_zero, List.set_cons_succ]
              refine wpAnyH_take (i := 17) (oi := { dst := some 122, op := Go.Op.pick (Go.Operand.tmp 116) (Go.Operand.tmp 121) (Go.Operand.const (Go.Value.bool false)), type := 4, pos := "ref.go:95", after := #[{ on := 11, ground := Go.Ground.data }, { on := 16, ground := Go.Ground.data }], guard := none }) (v := ?_) rfl (by kernel_rfl) (by kernel_rfl) (by kernel_rfl) (fun _ _ _ h => h) (Or.inl ⟨by rfl, ?_⟩) hH0 ?_
              rotate_left
              · (intro wz hSz; obtain ⟨z0, z1, -⟩ := hSz; go_simp; try with_reducible rfl)
              try simp only [Act.put, List.setIfInBounds_toArray, List.set_cons_zero, List.set_cons_succ]
              try clear e9
              refine wpAnyH_take (i := 18) (oi := { dst := some 123, op := Go.Op.build 51 #[(0, Go.Operand.tmp 110), (1, Go.Operand.tmp 122)], type := 51, pos := "ref.go:95", after := #[{ on := 5, ground := Go.Ground.data }, { on := 17, ground := Go.Ground.data }], guard := none }) (v := ?_) rfl (by kernel_rfl) (by kernel_rfl) (by kernel_rfl) (fun _ _ _ h => h) (Or.inl ⟨by rfl, ?_⟩) hH0 ?_
              rotate_left
              · (intro wz hSz; obtain ⟨z0, z1, -⟩ := hSz; go_simp; try with_reducible rfl)
              try simp only [Act.put, List.setIfInBounds_toArray, List.set_cons_zero, List.set_cons_succ]
              refine wpAnyH_ready (rs := [19]) (by kernel_rfl) (by simp) ?_
              refine AllReadyH.cons (o := { dst := some 124, op := Go.Op.buildSlice 22 1 #[(0, Go.Operand.tmp 123)], type := 22, pos := "ref.go:95", after := #[{ on := 18, ground := Go.Ground.data }], guard := none }) rfl (fun K hK => ?_) AllReadyH.nil
              go_simp
              refine hK.out _ _ (HSX.out _ (HBD.out.alloc hsd (.cells #[.string ⟨tx.toArray⟩, .bool false] 51))) (fun hH1 => ?_)
              have HNW := Lib.hid (World.news_of_block (heap_alloc_new wd (.cells #[.string ⟨tx.toArray⟩, .bool false] 51)))
              have HOA := Lib.hid (own_below HOD.out (alloc1 wd (.cells #[.string ⟨tx.toArray⟩, .bool false] 51)))
              have HBA := Lib.hid (HBD.out.alloc hsd (.cells #[.string ⟨tx.toArray⟩, .bool false] 51))
              have hse : bs ≤ (wd.alloc (.cells #[.string ⟨tx.toArray⟩, .bool false] 51)).heap.size := by simp; omega
              have H1C : Hid (∀ u ∈ ([.string ⟨tx.toArray⟩, .bool false] : List Value), u.oneCell' = true) := Lib.hid (by intro u hu; simp at hu; rcases hu with rfl | rfl <;> rfl)
              clear hK K hH0 HBD HOD
              generalize wd.alloc (.cells #[.string ⟨tx.toArray⟩, .bool false] 51) = w5 at *
              generalize wd.heap.size = gb at *
              try simp only [Act.put, List.setIfInBounds_toArray, List.set_cons_zero, List.set_cons_succ]
              refine wpAnyH_ready (rs := [20]) (by kernel_rfl) (by simp) ?_
              refine AllReadyH.cons (o := { dst := some 125, op := Go.Op.call { callee := Go.Callee.builtin Go.Builtin.append, args := #[Go.Operand.tmp 105, Go.Operand.tmp 124], argTypes := #[22, 22] }, type := 22, pos := "ref.go:95", after := #[{ on := 0, ground := Go.Ground.data }, { on := 19, ground := Go.Ground.data }, { on := 11, ground := Go.Ground.chain }], guard := none }) rfl (fun K hK => ?_) AllReadyH.nil
              refine step_append_lies _ (by rfl) (.tmp 105) (.tmp 124) 22 (by rfl) bs 51 i0 _ 2 24 Try.underlying22 hi0 hz0 hz1 hz2 rfl (by decide) (.slice NA k nc) k (lineCells (wh.take k)) (by rfl) HOA.out ⟨gb, 0, none⟩ 1 1 [.string ⟨tx.toArray⟩, .bool false] (by rfl) rfl HNW.out H1C.out (by omega) (by unfold maxLen; omega) (by omega) (by omega) _ rfl ?_
              intro g6 cap6 w6 hown6 hg6 hat6 hlt6
              have HB6 := Lib.hid (HBA.out.grown hg6 hse (own_base HOA.out))
              refine hK.out _ _ (HSX.out _ HB6.out) (fun hH2 => ?_)
              have HO6 : Hid (w6.ownsRow bs 51 2 (.slice (some ⟨g6, 0, none⟩) (k + 1) cap6) (k + 1) (lineCells (wh.take (k + 1)))) := Lib.hid (by rw [HQ.out, lineCells_app]; exact hown6)
              clear hK K hH1 HOA HNW H1C hse hown6 hg6 hat6 hlt6 HBA
              try simp only [Act.put, List.setIfInBounds_toArray, List.set_cons_zero, List.set_cons_succ]
              refine wpAnyH_take (i := 21) (oi := { dst := some 13, op := Go.Op.assign (Go.Operand.tmp 125), type := 22, pos := "ref.go:95", after := #[{ on := 20, ground := Go.Ground.data }, { on := 20, ground := Go.Ground.chain }, { on := 0, ground := Go.Ground.phase }, { on := 1, ground := Go.Ground.phase }, { on := 2, ground := Go.Ground.phase }, { on := 3, ground := Go.Ground.phase }, { on := 4, ground := Go.Ground.phase }, { on := 5, ground := Go.Ground.phase }, { on := 6, ground := Go.Ground.phase }, { on := 7, ground := Go.Ground.phase }, { on := 8, ground := Go.Ground.phase }, { on := 9, ground := Go.Ground.phase }, { on := 10, ground := Go.Ground.phase }, { on := 11, ground := Go.Ground.phase }, { on := 12, ground := Go.Ground.phase }, { on := 13, ground := Go.Ground.phase }, { on := 14, ground := Go.Ground.phase }, { on := 15, ground := Go.Ground.phase }, { on := 16, ground := Go.Ground.phase }, { on := 17, ground := Go.Ground.phase }, { on := 18, ground := Go.Ground.phase }, { on := 19, ground := Go.Ground.phase }, { on := 20, ground := Go.Ground.phase }], guard := none }) (v := ?_) rfl (by kernel_rfl) (by kernel_rfl) (by kernel_rfl) (fun _ _ _ h => h) (Or.inl ⟨by rfl, ?_⟩) hH2 ?_
              rotate_left
              · (intro wz hSz; obtain ⟨z0, z1, -⟩ := hSz; go_simp; try with_reducible rfl)
              try simp only [Act.put, List.setIfInBounds_toArray, List.set_cons_zero, List.set_cons_succ]
              refine wpAnyH_done (by kernel_rfl) ?_ _
              clear hH2 HSX
              go_wp2_with fail
              go_roundg (t.length - (k + 1))
              case rel => exact ⟨k + 1, _, cap6, by omega, by go_num, rfl, Nat.le_refl _, HO6.out, HB6.out⟩
              case measure => omega
        · obtain rfl : k = t.length := by omega
          rw [← HBL.out, List.take_length] at hown
          have HO9 := Lib.hid hown
          have HBR9 := Lib.hid (HBW.out.trans (hbr.mono hbs2))
          rw [HBL.out] at HO9
          clear hown hbr
          go_wp2_with fail
          refine bodyPost_ret (v := .tuple #[.slice NA t.length nc, .int .i64 0]) (by simp [results, Try.results19, go_sem]) rfl ?_
          have hlw := HBL.out
          rw [← hlw] at HO9 ⊢
          exact ⟨NA, nc, rfl, own_lines2 HO9.out, HBR9.out⟩
end Go.Proofs.Ytkflhcfopejigaa.Mg
