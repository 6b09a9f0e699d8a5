/-
  The contract of merge's side: which text counts in a chunk.
  The contract of merge's alike: have the lines that are matched the same text?
  The contract of merge's Of: the pieces of three texts.
  The reference's cut: some lines, in a row of its own; with append of a row of lines wherever it lies (as ScB and PaV, with less under it).
-/
import Derived.Test.YtkflhcfopejigaaGgl
import Derived.Deep.AppendLies
import Derived.Deep.RegionHeldLaw
import Derived.Test.YtkflhcfopejigaaGga
import Derived.Test.YtkflhcfopejigaaGgc
import Derived.Laws.AppendOwnNone
namespace Go.Proofs.Ytkflhcfopejigaa.Mg
set_option linter.unusedVariables false
set_option linter.unusedSimpArgs false
open Go.RowKit
open T
open V (drawn_below)
open I (alloc1)
open Ck

def EqC (xs ys : List Ln) : Prop := ∀ (w : World) (A B : Option Addr) (c c' : Nat), LinesIn w A xs → LinesIn w B ys → Calls Try.prog 42 #[.slice A xs.length c, .slice B ys.length c'] w fun e w' => e = .returned (.bool (decide (xs = ys))) ∧ Below w.heap.size w w'
theorem EqC.at {xs ys : List Ln} (h : EqC xs ys) {w : World} {A B : Option Addr} (c c' : Nat) (hA : LinesIn w A xs) (hB : LinesIn w B ys) : Calls Try.prog 42 #[.slice A xs.length c, .slice B ys.length c'] w fun e w' => e = .returned (.bool (decide (xs = ys))) ∧ Below w.heap.size w w' := h w A B c c' hA hB
theorem c_equal {xs ys : List Ln} (h1 : xs.length ≤ maxLen) (h2 : ys.length ≤ maxLen) : EqC xs ys := fun w A B c c' hA hB => equal_gen A B c c' xs ys w h1 h2 hA hB
set_option maxRecDepth 100000 in
set_option maxHeartbeats 4000000 in
theorem side_any {O A B : Option Addr} {co ca cb : Nat} {o a b : List Ln} {c : Ck} (w : World) (ho : Tx w O co o) (ha : Tx w A ca a) (hb : Tx w B cb b) (hc : In3 c o a b) :
    Calls Try.prog 26 #[ckV c, .slice O o.length co, .slice A a.length ca, .slice B b.length cb] w fun e w' => e = .returned (.int .i64 (side c o a b)) ∧ Below w.heap.size w w' := by
  obtain ⟨W0, hW0⟩ : ∃ W : World, W = w.alloc (.cells #[.bool c.st, .int .i64 c.o, .int .i64 c.on, .int .i64 c.a, .int .i64 c.an, .int .i64 c.b, .int .i64 c.bn] 41) := ⟨_, rfl⟩
  have hb0 : Below w.heap.size w W0 := by rw [hW0]; exact alloc1 _ _
  have HB0 := Lib.hid hb0
  have hx : W0.heap[w.heap.size]? = some (.cells #[.bool c.st, .int .i64 c.o, .int .i64 c.on, .int .i64 c.a, .int .i64 c.an, .int .i64 c.b, .int .i64 c.bn] 41 (0, 0)) := by rw [hW0]; exact heap_alloc_new w _
  have HST := Lib.hid (stretches_any W0 (ho.below hb0) (ha.below hb0) (hb.below hb0) hc)
  have TX := Lib.hid (cut_tx (ho.below hb0) hc.fo)
  have TY := Lib.hid (cut_tx (ha.below hb0) hc.fa)
  have TZ := Lib.hid (cut_tx (hb.below hb0) hc.fb)
  have HSD : Hid (side c o a b = if c.st = true ∨ cutl a c.a c.an = cutl b c.b c.bn then 1 else if cutl a c.a c.an = cutl o c.o c.on then 3 else if cutl b c.b c.bn = cutl o c.o c.on then 2 else 4) := Lib.hid rfl
  generalize side c o a b = sd at *
  obtain ⟨n1, hn1⟩ : ∃ n, n = o.length := ⟨_, rfl⟩
  obtain ⟨n2, hn2⟩ : ∃ n, n = a.length := ⟨_, rfl⟩
  obtain ⟨n3, hn3⟩ : ∃ n, n = b.length := ⟨_, rfl⟩
  rw [← hn1, ← hn2, ← hn3] at HST ⊢
  clear ho ha hb hb0 hc hn1 hn2 hn3
  obtain ⟨cst, c1, c2, c3, c4, c5, c6⟩ := c
  simp only [ckV] at *
  generalize cutl o c1 c2 = x at *
  generalize cutl a c3 c4 = y at *
  generalize cutl b c5 c6 = z at *
  generalize cutP O c1 c2 = X at *
  generalize cutP A c3 c4 = Y at *
  generalize cutP B c5 c6 = Z at *
  have HYZ := Lib.hid (c_equal TY.out.s TZ.out.s)
  have HYX := Lib.hid (c_equal TY.out.s TX.out.s)
  have HZX := Lib.hid (c_equal TZ.out.s TX.out.s)
  have d0 := L.blk_cell hx 0
  have d1 := L.blk_cell hx 1
  have d2 := L.blk_cell hx 2
  have d3 := L.blk_cell hx 3
  have d4 := L.blk_cell hx 4
  have d5 := L.blk_cell hx 5
  have d6 := L.blk_cell hx 6
  simp only [List.getElem?_toArray, List.getElem?_cons_zero, List.getElem?_cons_succ] at d0 d1 d2 d3 d4 d5 d6
  go_enter Try.func26, Try.ntmps26
  go_wp2_with fail
  rw [← hW0]
  clear hW0
  go_wp2_with fail
  with_reducible refine HST.out.mono ?_
  rintro e w1 ⟨rfl, hb1⟩
  have HB1 := Lib.hid (HB0.out.trans (hb1.mono HB0.out.size))
  replace TX := Lib.hid (TX.out.below hb1)
  replace TY := Lib.hid (TY.out.below hb1)
  replace TZ := Lib.hid (TZ.out.below hb1)
  have hx1 := (hb1.block _ (L.blk_lt hx)).trans hx
  have f0 := L.blk_cell hx1 0
  simp only [List.getElem?_toArray, List.getElem?_cons_zero] at f0
  clear HST hb1 HB0 hx d0 d1 d2 d3 d4 d5 d6
  cases cst with
  | true =>
    go_wp2_with fail
    go_ret
    exact ⟨by rw [HSD.out, if_pos (.inl trivial)]; rfl, HB1.out⟩
  | false =>
    by_cases h1 : y = z
    · have e1 : decide (y = z) = true := decide_eq_true h1
      have HQ := Lib.hid (HYZ.out.at y.length z.length TY.out.i TZ.out.i)
      rw [e1] at HQ
      have HV := Lib.hid (HSD.out.trans (if_pos (.inr h1)))
      clear e1 h1 HSD
      go_wp2_with fail
      with_reducible refine HQ.out.mono ?_
      rintro e w2 ⟨rfl, hb2⟩
      go_wp2_with fail
      go_ret
      exact ⟨by rw [HV.out]; rfl, HB1.out.trans (hb2.mono HB1.out.size)⟩
    · have e1 : decide (y = z) = false := decide_eq_false h1
      have HQ := Lib.hid (HYZ.out.at y.length z.length TY.out.i TZ.out.i)
      rw [e1] at HQ
      have HV := Lib.hid (HSD.out.trans (if_neg (fun h => h.elim (fun g => by cases g) h1)))
      clear e1 h1 HSD
      go_wp2_with fail
      with_reducible refine HQ.out.mono ?_
      rintro e w2 ⟨rfl, hb2⟩
      have HB2 := Lib.hid (HB1.out.trans (hb2.mono HB1.out.size))
      replace TX := Lib.hid (TX.out.below hb2)
      replace TY := Lib.hid (TY.out.below hb2)
      replace TZ := Lib.hid (TZ.out.below hb2)
      clear hb2 HB1 HQ f0 hx1
      have HQ := Lib.hid (HYX.out.at y.length x.length TY.out.i TX.out.i)
      by_cases h2 : y = x
      · have e1 : decide (y = x) = true := decide_eq_true h2
        rw [e1] at HQ
        replace HV := Lib.hid (HV.out.trans (if_pos h2))
        clear e1 h2
        go_wp2_with fail
        with_reducible refine HQ.out.mono ?_
        rintro e w3 ⟨rfl, hb3⟩
        go_wp2_with fail
        go_ret
        exact ⟨by rw [HV.out]; rfl, HB2.out.trans (hb3.mono HB2.out.size)⟩
      · have e1 : decide (y = x) = false := decide_eq_false h2
        rw [e1] at HQ
        replace HV := Lib.hid (HV.out.trans (if_neg h2))
        clear e1 h2
        go_wp2_with fail
        with_reducible refine HQ.out.mono ?_
        rintro e w3 ⟨rfl, hb3⟩
        have HB3 := Lib.hid (HB2.out.trans (hb3.mono HB2.out.size))
        replace TX := Lib.hid (TX.out.below hb3)
        replace TZ := Lib.hid (TZ.out.below hb3)
        clear hb3 HB2 HQ
        have HQ := Lib.hid (HZX.out.at z.length x.length TZ.out.i TX.out.i)
        by_cases h3 : z = x
        · have e1 : decide (z = x) = true := decide_eq_true h3
          rw [e1] at HQ
          replace HV := Lib.hid (HV.out.trans (if_pos h3))
          clear e1 h3
          go_wp2_with fail
          with_reducible refine HQ.out.mono ?_
          rintro e w4 ⟨rfl, hb4⟩
          go_wp2_with fail
          go_ret
          exact ⟨by rw [HV.out]; rfl, HB3.out.trans (hb4.mono HB3.out.size)⟩
        · have e1 : decide (z = x) = false := decide_eq_false h3
          rw [e1] at HQ
          replace HV := Lib.hid (HV.out.trans (if_neg h3))
          clear e1 h3
          go_wp2_with fail
          with_reducible refine HQ.out.mono ?_
          rintro e w4 ⟨rfl, hb4⟩
          go_wp2_with fail
          go_ret
          exact ⟨by rw [HV.out]; rfl, HB3.out.trans (hb4.mono HB3.out.size)⟩
end Go.Proofs.Ytkflhcfopejigaa.Mg

namespace Go.Proofs.Ytkflhcfopejigaa.Mg
set_option linter.unusedVariables false
set_option linter.unusedSimpArgs false
open Go.RowKit
open T
open V (drawn_below)
open I (alloc1)
open Ck
open Mt (Pr fnd Rt right)
open N (PrIn PrIn.below)

theorem like_at {p : List Pr} {k : Nat} (hk : k < p.length) (x y : List Ln) : like (p.drop k) x y = ((x[p[k].1.toNat]?.map (·.1)) == (y[p[k].2.toNat]?.map (·.1)) && like (p.drop (k + 1)) x y) := by
  rw [List.drop_eq_getElem_cons hk]; unfold like; rw [List.all_cons]
set_option maxRecDepth 100000 in
set_option maxHeartbeats 4000000 in
theorem alike_any {P X Y : Option Addr} {c cx cy : Nat} {p : List Pr} {x y : List Ln} (w : World) (hP : PrIn w P p) (hl : p.length ≤ maxLen) (hX : Tx w X cx x) (hY : Tx w Y cy y) (hr : Rt p x.length y.length) :
    Calls Try.prog 25 #[.slice P p.length c, .slice X x.length cx, .slice Y y.length cy] w fun e w' => e = .returned (.bool (like p x y)) ∧ Below w.heap.size w w' := by
  unfold maxLen at hl
  have HP := Lib.hid hP
  have HX := Lib.hid hX
  have HY := Lib.hid hY
  have HR := Lib.hid hr
  have lx := hX.s
  have ly := hY.s
  unfold maxLen at lx ly
  obtain ⟨nx, hnx⟩ : ∃ n, n = x.length := ⟨_, rfl⟩
  obtain ⟨ny, hny⟩ : ∃ n, n = y.length := ⟨_, rfl⟩
  rw [← hnx, ← hny]
  rw [← hnx] at lx
  rw [← hny] at ly
  have HNX := Lib.hid hnx
  have HNY := Lib.hid hny
  clear hP hX hY hr hnx hny
  go_enter Try.func25, Try.ntmps25
  go_wp2_with fail
  go_loopg [11] p.length (fun m i wr => ∃ k : Nat, k ≤ p.length ∧ i = .int .i64 (k : Int) ∧ p.length - k ≤ m ∧ Below w.heap.size w wr ∧ Hid (like p x y = like (p.drop k) x y))
  case atStart => exact ⟨0, Nat.zero_le _, rfl, by omega, Below.refl _ _, Lib.hid rfl⟩
  case round =>
    obtain ⟨k, hk, rfl, hm, hbr, HF⟩ := hrel
    by_cases hlt : k < p.length
    · obtain ⟨bk, off, hAe, hbk, hI⟩ := HP.out (by omega)
      subst hAe
      obtain ⟨q0, q1⟩ := hI k hlt
      have c0 := (hbr.cell (p := ⟨bk, off + k * 2, none⟩) hbk).trans q0
      have c1 := (hbr.cell (p := ⟨bk, off + k * 2 + 1, none⟩) hbk).trans q1
      have hz := HR.out.all _ (List.getElem_mem hlt)
      have HN := Lib.hid (like_at hlt x y)
      have h0k : (0 : Int) ≤ (k : Int) := by omega
      have hki : (k : Int) < (p.length : Int) := by omega
      obtain ⟨z0, z1, hzz⟩ : ∃ z0 z1, p[k]'hlt = (z0, z1) := ⟨_, _, rfl⟩
      rw [hzz] at c0 c1 hz HN
      simp only at c0 c1 hz HN
      obtain ⟨i, rfl⟩ : ∃ i : Nat, z0 = i := ⟨z0.toNat, by omega⟩
      obtain ⟨j, rfl⟩ : ∃ j : Nat, z1 = j := ⟨z1.toNat, by omega⟩
      obtain ⟨bx, ox, hXe, hbx, hXI⟩ := (HX.out.i) (by omega)
      obtain ⟨by', oy, hYe, hby, hYI⟩ := (HY.out.i) (by omega)
      subst hXe hYe
      have hi : i < x.length := by omega
      have hj : j < y.length := by omega
      obtain ⟨W1, hW1⟩ : ∃ W : World, W = wr.alloc (.cells #[.int .i64 (i : Int), .int .i64 (j : Int)] 57) := ⟨_, rfl⟩
      have hb1 : Below wr.heap.size wr W1 := by rw [hW1]; exact alloc1 _ _
      have hB1 := hbr.trans (hb1.mono hbr.size)
      have HW1 := Lib.hid (show W1.heap[wr.heap.size]? = some (.cells #[.int .i64 (i : Int), .int .i64 (j : Int)] 57 (0, 0)) by rw [hW1]; exact heap_alloc_new wr _)
      have e0 := L.blk_cell HW1.out 0
      have e1 := L.blk_cell HW1.out 1
      simp only [List.getElem?_toArray, List.getElem?_cons_zero, List.getElem?_cons_succ] at e0 e1
      have f0 := (hB1.cell (p := ⟨bx, ox + i * 2, none⟩) hbx).trans (hXI i hi).1
      have f1 := (hB1.cell (p := ⟨by', oy + j * 2, none⟩) hby).trans (hYI j hj).1
      have HXI := Lib.hid (show x[i]? = some (x[i]'hi) from List.getElem?_eq_getElem hi)
      have HYI := Lib.hid (show y[j]? = some (y[j]'hj) from List.getElem?_eq_getElem hj)
      have h0i : (0 : Int) ≤ (i : Int) := by omega
      have h0j : (0 : Int) ≤ (j : Int) := by omega
      have hix : (i : Int) < (nx : Int) := by have := HNX.out; omega
      have hjy : (j : Int) < (ny : Int) := by have := HNY.out; omega
      generalize x[i]'hi = u at *
      generalize y[j]'hj = v at *
      obtain ⟨us, ub⟩ := u
      obtain ⟨vs, vb⟩ := v
      simp only at f0 f1
      have HB1 := Lib.hid hB1
      clear hI q0 q1 hXI hYI hzz hb1 hB1 hbr hi hj hz
      rw [Int.toNat_natCast, Int.toNat_natCast, HXI.out, HYI.out] at HN
      by_cases huv : us = vs
      · subst huv
        have HN2 := Lib.hid (show like (p.drop k) x y = like (p.drop (k + 1)) x y by rw [HN.out]; simp)
        clear HN
        go_wp2_with fail
        rw [← hW1]
        clear hW1
        go_quiet (fail)
        go_wp2_with fail
        go_roundg (p.length - (k + 1))
        case rel => exact ⟨k + 1, by omega, by go_num, Nat.le_refl _, HB1.out.trans ((drawn_below _ _).mono HB1.out.size), Lib.hid (HF.out.trans HN2.out)⟩
        case measure => omega
      · have HN2 := Lib.hid (show like p x y = false by rw [HF.out, HN.out]; simp [huv])
        have hd : (us == vs) = false := beq_eq_false_iff_ne.2 huv
        clear HN huv
        go_wp2_with fail
        rw [← hW1]
        clear hW1
        go_quiet (fail)
        go_wp2_with fail
        go_ret
        exact ⟨by rw [HN2.out]; rfl, HB1.out.trans ((drawn_below _ _).mono HB1.out.size)⟩
    · obtain rfl : k = p.length := by omega
      have HV := Lib.hid (show like p x y = true by rw [HF.out, List.drop_length]; rfl)
      clear HF
      go_wp2_with fail
      go_ret
      exact ⟨by rw [HV.out]; rfl, hbr⟩
end Go.Proofs.Ytkflhcfopejigaa.Mg

namespace Go.Proofs.Ytkflhcfopejigaa.Mg
set_option linter.unusedVariables false
set_option linter.unusedSimpArgs false
open Go.RowKit
open T
open V (drawn_below)
open I (alloc1 own_at own_below)
open Ck
open Mt (Pr fnd Rt right right_iff)
open N (PrIn PrIn.below)

def pcCells (l : List Pc) : List Value := l.flatMap fun x => [.int .i64 x.sd, .bool x.ck.st, .int .i64 x.ck.o, .int .i64 x.ck.on, .int .i64 x.ck.a, .int .i64 x.ck.an, .int .i64 x.ck.b, .int .i64 x.ck.bn]
theorem pcCells_snoc (l : List Pc) (x : Pc) : pcCells (l ++ [x]) = pcCells l ++ [.int .i64 x.sd, .bool x.ck.st, .int .i64 x.ck.o, .int .i64 x.ck.on, .int .i64 x.ck.a, .int .i64 x.ck.an, .int .i64 x.ck.b, .int .i64 x.ck.bn] := by simp [pcCells]
theorem infoPiece : (Try.prog.info? 43).map (fun i => (i.zero, i.size, i.bytes)) = some (some (.agg #[.int .i64 0, .bool false, .int .i64 0, .int .i64 0, .int .i64 0, .int .i64 0, .int .i64 0, .int .i64 0]), 8, 64) := by kernel_rfl
/-- What Of comes to. -/
def PoEnd (w : World) (l : List Pc) (z : Int) (e : Ending) (w' : World) : Prop := ∃ C cc, e = .returned (.tuple #[.slice C l.length cc, .int .i64 z]) ∧ w'.ownsRow w.heap.size 43 8 (.slice C l.length cc) l.length (pcCells l) ∧ Below w.heap.size w w'
theorem in3_of {p q : List Pr} {o a b : List Ln} (hc : can p q o.length a.length b.length) {c : Ck} (h : c ∈ chunks p q o.length a.length b.length) : In3 c o a b := by
  have := (ckr_tiles o a b (e := ((o.length : Int), (a.length : Int), (b.length : Int))) ⟨rfl, rfl, rfl⟩ (t := (0, 0, 0)) ⟨Int.le_refl _, Int.le_refl _, Int.le_refl _⟩ ⟨hc.1.1.1, hc.1.2.1.1, hc.1.2.2.1⟩ (chunks_right hc)).1 c h
  exact ⟨this.1, this.2.1, this.2.2.1⟩
/-- What Of's box holds within a round, and what stays. -/
structure Fx (w3 : World) (xb : Nat) (x : Ck) (W : World) : Prop where
  box : W.heap[xb]? = some (.cells #[.bool x.st, .int .i64 x.o, .int .i64 x.on, .int .i64 x.a, .int .i64 x.an, .int .i64 x.b, .int .i64 x.bn] 41 (0, 0))
  b : Below w3.heap.size w3 W
theorem Fx.below {w3 W W' : World} {xb : Nat} {x : Ck} (h : Fx w3 xb x W) (hb : Below W.heap.size W W') : Fx w3 xb x W' := ⟨(hb.block _ (L.blk_lt h.box)).trans h.box, h.b.trans (hb.mono h.b.size)⟩
theorem Fx.grown {w3 W W' : World} {xb : Nat} {x : Ck} {v : Value} {n : Nat} {xs : List Value} (h : Fx w3 xb x W) (ho : W.ownsRow w3.heap.size 43 8 v n xs) (hg : W.grownBy W' v.ownBlock) : Fx w3 xb x W' :=
  ⟨(hg.block _ (L.blk_lt h.box) (V.own_ne' ho (fun cs e => by rw [h.box] at e; injection e with e; injection e with _ e; exact absurd e (by decide)))).trans h.box, h.b.grown hg h.b.size (own_base ho)⟩
set_option maxRecDepth 100000 in
set_option maxHeartbeats 4000000 in
theorem of_bad {P Q O A B : Option Addr} {cp cq co ca cb n1 n2 n3 : Nat} {p q : List Pr} (w : World) (hP : PrIn w P p) (hQ : PrIn w Q q) (HO : Hid (OfC 24 p q n1 n2 n3 [] 2)) :
    Calls Try.prog 10 #[.slice O n1 co, .slice A n2 ca, .slice B n3 cb, .slice P p.length cp, .slice Q q.length cq] w (PoEnd w [] 2) := by
  have HC := Lib.hid (HO.out.at cp cq hP hQ)
  clear hP hQ HO
  go_enter Try.func10, Try.ntmps10
  go_wp2_with fail
  with_reducible refine HC.out.mono ?_
  rintro e w1 ⟨C1, k1, rfl, h1, hb1⟩
  go_wp2_with fail
  refine bodyPost_ret (v := .tuple #[.slice none 0 0, .int .i64 2]) (by simp [results, Try.results10, go_sem]) rfl ⟨none, 0, rfl, World.ownsRow_nil _ _ _ _, hb1⟩
set_option maxRecDepth 100000 in
set_option maxHeartbeats 4000000 in
theorem of_good {P Q O A B : Option Addr} {cp cq co ca cb : Nat} {p q : List Pr} {o a b : List Ln} (w : World) (hO : Tx w O co o) (hA : Tx w A ca a) (hB : Tx w B cb b) (hP : PrIn w P p) (hQ : PrIn w Q q) (hp : p.length ≤ 1000) (hq : q.length ≤ 1000) (hc : can p q o.length a.length b.length) :
    Calls Try.prog 10 #[.slice O o.length co, .slice A a.length ca, .slice B b.length cb, .slice P p.length cp, .slice Q q.length cq] w (PoEnd w (pieces o a b p q) (perr o a b p q)) := by
  obtain ⟨i0, hi0, hz0, hz1, hz2⟩ := info_parts infoPiece
  have HCN := Lib.hid hc
  have HC := Lib.hid ((c_of p q o.length a.length b.length hp hq).at cp cq hP hQ)
  rw [show err p q (o.length : Int) a.length b.length = 0 from if_pos hc] at HC
  have HCL := Lib.hid (chunks_len p q o.length a.length b.length)
  have HO := Lib.hid hO
  have HA := Lib.hid hA
  have HB := Lib.hid hB
  have HP := Lib.hid hP
  have HQ := Lib.hid hQ
  have HPE : Hid (perr o a b p q = if like p o a = true ∧ like q o b = true then 0 else 3) := Lib.hid (if_pos hc)
  have HPC : Hid (pieces o a b p q = if like p o a = true ∧ like q o b = true then (chunks p q o.length a.length b.length).map fun c => ⟨side c o a b, c⟩ else []) := Lib.hid rfl
  obtain ⟨n1, hn1⟩ : ∃ n, n = o.length := ⟨_, rfl⟩
  obtain ⟨n2, hn2⟩ : ∃ n, n = a.length := ⟨_, rfl⟩
  obtain ⟨n3, hn3⟩ : ∃ n, n = b.length := ⟨_, rfl⟩
  have HN := Lib.hid (And.intro hn1 (And.intro hn2 hn3))
  rw [← hn1, ← hn2, ← hn3] at HC HCL HPC ⊢
  generalize pieces o a b p q = ps at *
  generalize perr o a b p q = E at *
  have HIN := Lib.hid (fun (c : Ck) (h : c ∈ chunks p q n1 n2 n3) => in3_of (p := p) (q := q) hc (by rw [← hn1, ← hn2, ← hn3]; exact h))
  generalize chunks p q n1 n2 n3 = ch at *
  clear hO hA hB hP hQ hc hn1 hn2 hn3
  go_enter Try.func10, Try.ntmps10
  go_wp2_with fail
  with_reducible refine HC.out.mono ?_
  rintro e w1 ⟨C1, k1, rfl, h1, hb1⟩
  have HB1 := Lib.hid hb1
  have H1 := Lib.hid h1
  replace HO := Lib.hid (HO.out.below hb1)
  replace HA := Lib.hid (HA.out.below hb1)
  replace HB := Lib.hid (HB.out.below hb1)
  replace HP := Lib.hid (HP.out.below hb1)
  replace HQ := Lib.hid (HQ.out.below hb1)
  have HAP := Lib.hid (alike_any (c := cp) w1 HP.out (by unfold maxLen; omega) HO.out HA.out (right_iff.1 HCN.out.2.1))
  rw [← HN.out.1, ← HN.out.2.1] at HAP
  clear hb1 h1 HC
  go_wp2_with fail
  with_reducible refine HAP.out.mono ?_
  rintro e w2 ⟨rfl, hb2⟩
  have HB2 := Lib.hid (HB1.out.trans (hb2.mono HB1.out.size))
  replace H1 := Lib.hid (H1.out.below hb2)
  replace HO := Lib.hid (HO.out.below hb2)
  replace HA := Lib.hid (HA.out.below hb2)
  replace HB := Lib.hid (HB.out.below hb2)
  replace HQ := Lib.hid (HQ.out.below hb2)
  have HBQ := Lib.hid (alike_any (c := cq) w2 HQ.out (by unfold maxLen; omega) HO.out HB.out (right_iff.1 HCN.out.2.2))
  rw [← HN.out.1, ← HN.out.2.2] at HBQ
  clear hb2 HAP HB1 HP
  cases hla : like p o a with
  | false =>
    have HL := Lib.hid (HPC.out.trans (if_neg (fun h => by rw [hla] at h; exact absurd h.1 (by decide))))
    have HE := Lib.hid (HPE.out.trans (if_neg (fun h => by rw [hla] at h; exact absurd h.1 (by decide))))
    clear hla HPC HPE
    go_wp2_with fail
    refine bodyPost_ret (v := .tuple #[.slice none 0 0, .int .i64 3]) (by simp [results, Try.results10, go_sem]) rfl ?_
    rw [HL.out, HE.out]
    exact ⟨none, 0, rfl, World.ownsRow_nil _ _ _ _, HB2.out⟩
  | true =>
    have HLA := Lib.hid hla
    clear hla
    go_wp2_with fail
    with_reducible refine HBQ.out.mono ?_
    rintro e w3 ⟨rfl, hb3⟩
    have HB3 := Lib.hid (HB2.out.trans (hb3.mono HB2.out.size))
    replace H1 := Lib.hid (H1.out.below hb3)
    replace HO := Lib.hid (HO.out.below hb3)
    replace HA := Lib.hid (HA.out.below hb3)
    replace HB := Lib.hid (HB.out.below hb3)
    clear hb3 HBQ HB2 HQ
    cases hlb : like q o b with
    | false =>
      have HL := Lib.hid (HPC.out.trans (if_neg (fun h => by rw [hlb] at h; exact absurd h.2 (by decide))))
      have HE := Lib.hid (HPE.out.trans (if_neg (fun h => by rw [hlb] at h; exact absurd h.2 (by decide))))
      clear hlb HPC HPE
      go_wp2_with fail
      refine bodyPost_ret (v := .tuple #[.slice none 0 0, .int .i64 3]) (by simp [results, Try.results10, go_sem]) rfl ?_
      rw [HL.out, HE.out]
      exact ⟨none, 0, rfl, World.ownsRow_nil _ _ _ _, HB3.out⟩
    | true =>
      have HL := Lib.hid (HPC.out.trans (if_pos ⟨HLA.out, hlb⟩))
      have HE := Lib.hid (HPE.out.trans (if_pos ⟨HLA.out, hlb⟩))
      have hcl := HCL.out
      clear hlb HPC HPE HLA HCL
      go_wp2_with fail
      go_loopg [14, 46] ch.length (fun m v i wr => ∃ (k : Nat) (V : Option Addr) (vc : Nat), k ≤ ch.length ∧ i = .int .i64 (k : Int) ∧ v = .slice V k vc ∧ ch.length - k ≤ m ∧ wr.ownsRow w3.heap.size 43 8 (.slice V k vc) k (pcCells ((ch.take k).map fun c => ⟨side c o a b, c⟩)) ∧ Below w3.heap.size w3 wr)
      case atStart => exact ⟨0, none, 0, Nat.zero_le _, rfl, rfl, by omega, World.ownsRow_nil _ _ _ _, Below.refl _ _⟩
      case round =>
        obtain ⟨k, V, vc, hk, rfl, rfl, hm, hown, hbr⟩ := hrel
        by_cases hlt : k < ch.length
        · obtain ⟨b1, o1, hAe, hb1, hI1⟩ := H1.out (by omega)
          subst hAe
          obtain ⟨d0, d1, d2, d3, d4, d5, d6⟩ := hI1 k hlt
          have g0 := (hbr.cell (p := ⟨b1, _, none⟩) hb1).trans d0
          have g1 := (hbr.cell (p := ⟨b1, _, none⟩) hb1).trans d1
          have g2 := (hbr.cell (p := ⟨b1, _, none⟩) hb1).trans d2
          have g3 := (hbr.cell (p := ⟨b1, _, none⟩) hb1).trans d3
          have g4 := (hbr.cell (p := ⟨b1, _, none⟩) hb1).trans d4
          have g5 := (hbr.cell (p := ⟨b1, _, none⟩) hb1).trans d5
          have g6 := (hbr.cell (p := ⟨b1, _, none⟩) hb1).trans d6
          have HIC := Lib.hid (HIN.out _ (List.getElem_mem hlt))
          have HTK : Hid ((ch.take (k + 1)).map (fun c => (⟨side c o a b, c⟩ : Pc)) = (ch.take k).map (fun c => ⟨side c o a b, c⟩) ++ [⟨side (ch[k]'hlt) o a b, ch[k]'hlt⟩]) := Lib.hid (by rw [List.take_succ_eq_append_getElem hlt, List.map_append]; rfl)
          obtain ⟨x, hx⟩ : ∃ x : Ck, ch[k]'hlt = x := ⟨_, rfl⟩
          rw [hx] at g0 g1 g2 g3 g4 g5 g6 HIC HTK
          obtain ⟨W1, hW1⟩ : ∃ W : World, W = wr.alloc (.cells #[.bool x.st, .int .i64 x.o, .int .i64 x.on, .int .i64 x.a, .int .i64 x.an, .int .i64 x.b, .int .i64 x.bn] 41) := ⟨_, rfl⟩
          have hb4 : Below wr.heap.size wr W1 := by rw [hW1]; exact alloc1 _ _
          have hB1 := hbr.trans (hb4.mono hbr.size)
          have HW1 := Lib.hid (show W1.heap[wr.heap.size]? = some (.cells #[.bool x.st, .int .i64 x.o, .int .i64 x.on, .int .i64 x.a, .int .i64 x.an, .int .i64 x.b, .int .i64 x.bn] 41 (0, 0)) by rw [hW1]; exact heap_alloc_new wr _)
          have HSI := Lib.hid (side_any W1 (HO.out.below hB1) (HA.out.below hB1) (HB.out.below hB1) HIC.out)
          rw [← HN.out.1, ← HN.out.2.1, ← HN.out.2.2] at HSI
          simp only [ckV] at HSI
          have h0k : (0 : Int) ≤ (k : Int) := by omega
          have hki : (k : Int) < (ch.length : Int) := by omega
          have e0 := L.blk_cell HW1.out 0
          have e1 := L.blk_cell HW1.out 1
          have e2 := L.blk_cell HW1.out 2
          have e3 := L.blk_cell HW1.out 3
          have e4 := L.blk_cell HW1.out 4
          have e5 := L.blk_cell HW1.out 5
          have e6 := L.blk_cell HW1.out 6
          simp only [List.getElem?_toArray, List.getElem?_cons_zero, List.getElem?_cons_succ] at e0 e1 e2 e3 e4 e5 e6
          have HBR := Lib.hid hbr
          have HOW := Lib.hid hown
          clear d0 d1 d2 d3 d4 d5 d6 hI1 hx hbr hown hb1 hB1
          --R10
          go_wp2_with fail
          rw [← hW1]
          obtain ⟨xb, hxb⟩ : ∃ s, s = wr.heap.size := ⟨_, rfl⟩
          rw [← hxb] at HW1 ⊢
          have HFX := Lib.hid (show Fx w3 xb x W1.drew from ⟨HW1.out, (HBR.out.trans (hb4.mono HBR.out.size)).trans ((drawn_below W1 1).mono (HBR.out.trans (hb4.mono HBR.out.size)).size)⟩)
          have HSX : Hid (∀ wz, Fx w3 xb x wz → (wz.cell? ⟨xb, 0, none⟩ = some (.bool x.st) ∧ wz.cell? ⟨xb, 1, none⟩ = some (.int .i64 x.o) ∧ wz.cell? ⟨xb, 2, none⟩ = some (.int .i64 x.on) ∧ wz.cell? ⟨xb, 3, none⟩ = some (.int .i64 x.a) ∧ wz.cell? ⟨xb, 4, none⟩ = some (.int .i64 x.an) ∧ wz.cell? ⟨xb, 5, none⟩ = some (.int .i64 x.b) ∧ wz.cell? ⟨xb, 6, none⟩ = some (.int .i64 x.bn) ∧ Fx w3 xb x wz)) := Lib.hid (fun wz h => ⟨L.blk_cell h.box 0, L.blk_cell h.box 1, L.blk_cell h.box 2, L.blk_cell h.box 3, L.blk_cell h.box 4, L.blk_cell h.box 5, L.blk_cell h.box 6, h⟩)
          replace HOW := Lib.hid (own_below (w' := W1.drew) (own_below HOW.out hb4) (drawn_below W1 1))
          have HSD := Lib.hid (side_any W1.drew ((HO.out.below HBR.out).below (hb4.trans ((drawn_below W1 1).mono hb4.size))) ((HA.out.below HBR.out).below (hb4.trans ((drawn_below W1 1).mono hb4.size))) ((HB.out.below HBR.out).below (hb4.trans ((drawn_below W1 1).mono hb4.size))) HIC.out)
          rw [← HN.out.1, ← HN.out.2.1, ← HN.out.2.2] at HSD
          simp only [ckV] at HSD
          generalize side x o a b = sd at *
          clear hW1 hxb HSI hb4 HBR HW1 HIC e0 e1 e2 e3 e4 e5 e6 g0 g1 g2 g3 g4 g5 g6
          refine wp_region_held_drew (S := fun wz => wz.cell? ⟨xb, 0, none⟩ = some (.bool x.st) ∧ wz.cell? ⟨xb, 1, none⟩ = some (.int .i64 x.o) ∧ wz.cell? ⟨xb, 2, none⟩ = some (.int .i64 x.on) ∧ wz.cell? ⟨xb, 3, none⟩ = some (.int .i64 x.a) ∧ wz.cell? ⟨xb, 4, none⟩ = some (.int .i64 x.an) ∧ wz.cell? ⟨xb, 5, none⟩ = some (.int .i64 x.b) ∧ wz.cell? ⟨xb, 6, none⟩ = some (.int .i64 x.bn) ∧ Fx w3 xb x wz) (by kernel_rfl) (HSX.out _ HFX.out) (fun hH0 => ?_)
          clear HFX
          simp only [List.size_toArray, List.length_cons, List.length_nil, Nat.zero_add, Nat.reduceAdd, Array.replicate_succ, Array.replicate_zero, List.push_toArray, List.nil_append, List.cons_append]
          obtain ⟨wd, hwd⟩ : ∃ z, z = W1.drew := ⟨_, rfl⟩
          rw [← hwd] at hH0 HOW HSD ⊢
          clear hwd
          refine wpAnyH_take (i := 0) (oi := { dst := some 50, op := Go.Op.move (Go.Operand.tmp 14), type := 25, pos := "merge.go:30", after := #[], guard := none }) (v := ?_) rfl (by kernel_rfl) (by kernel_rfl) (by kernel_rfl) (fun _ _ _ h => h) (Or.inl ⟨by rfl, ?_⟩) hH0 ?_
          rotate_left
          · (intro wz hSz; obtain ⟨z0, z1, z2, z3, z4, z5, z6, -⟩ := hSz; go_simp; try with_reducible rfl)
          try simp only [Act.put, List.setIfInBounds_toArray, List.set_cons_zero, List.set_cons_succ]
          refine wpAnyH_take (i := 1) (oi := { dst := some 51, op := Go.Op.load 41 (Go.Operand.tmp 16), type := 41, pos := "merge.go:30", after := #[], guard := none }) (v := ?_) rfl (by kernel_rfl) (by kernel_rfl) (by kernel_rfl) (fun _ _ _ h => h) (Or.inl ⟨by rfl, ?_⟩) hH0 ?_
          rotate_left
          · (intro wz hSz; obtain ⟨z0, z1, z2, z3, z4, z5, z6, -⟩ := hSz; go_simp; try with_reducible rfl)
          try simp only [Act.put, List.setIfInBounds_toArray, List.set_cons_zero, List.set_cons_succ]
          refine wpAnyH_take (i := 2) (oi := { dst := some 52, op := Go.Op.move (Go.Operand.tmp 0), type := 22, pos := "merge.go:30", after := #[], guard := none }) (v := ?_) rfl (by kernel_rfl) (by kernel_rfl) (by kernel_rfl) (fun _ _ _ h => h) (Or.inl ⟨by rfl, ?_⟩) hH0 ?_
          rotate_left
          · (intro wz hSz; obtain ⟨z0, z1, z2, z3, z4, z5, z6, -⟩ := hSz; go_simp; try with_reducible rfl)
          try simp only [Act.put, List.setIfInBounds_toArray, List.set_cons_zero, List.set_cons_succ]
          refine wpAnyH_take (i := 3) (oi := { dst := some 53, op := Go.Op.move (Go.Operand.tmp 1), type := 22, pos := "merge.go:30", after := #[], guard := none }) (v := ?_) rfl (by kernel_rfl) (by kernel_rfl) (by kernel_rfl) (fun _ _ _ h => h) (Or.inl ⟨by rfl, ?_⟩) hH0 ?_
          rotate_left
          · (intro wz hSz; obtain ⟨z0, z1, z2, z3, z4, z5, z6, -⟩ := hSz; go_simp; try with_reducible rfl)
          try simp only [Act.put, List.setIfInBounds_toArray, List.set_cons_zero, List.set_cons_succ]
          refine wpAnyH_take (i := 4) (oi := { dst := some 54, op := Go.Op.move (Go.Operand.tmp 2), type := 22, pos := "merge.go:30", after := #[], guard := none }) (v := ?_) rfl (by kernel_rfl) (by kernel_rfl) (by kernel_rfl) (fun _ _ _ h => h) (Or.inl ⟨by rfl, ?_⟩) hH0 ?_
          rotate_left
          · (intro wz hSz; obtain ⟨z0, z1, z2, z3, z4, z5, z6, -⟩ := hSz; go_simp; try with_reducible rfl)
          try simp only [Act.put, List.setIfInBounds_toArray, List.set_cons_zero, List.set_cons_succ]
          refine wpAnyH_take (i := 6) (oi := { dst := some 56, op := Go.Op.load 41 (Go.Operand.tmp 16), type := 41, pos := "merge.go:30", after := #[], guard := none }) (v := ?_) rfl (by kernel_rfl) (by kernel_rfl) (by kernel_rfl) (fun _ _ _ h => h) (Or.inl ⟨by rfl, ?_⟩) hH0 ?_
          rotate_left
          · (intro wz hSz; obtain ⟨z0, z1, z2, z3, z4, z5, z6, -⟩ := hSz; go_simp; try with_reducible rfl)
          try simp only [Act.put, List.setIfInBounds_toArray, List.set_cons_zero, List.set_cons_succ]
          refine wpAnyH_ready (rs := [5]) (by kernel_rfl) (by simp) ?_
          refine AllReadyH.cons (o := { dst := some 55, op := Go.Op.call { callee := Go.Callee.value (Go.Operand.func 26), args := #[Go.Operand.tmp 51, Go.Operand.tmp 52, Go.Operand.tmp 53, Go.Operand.tmp 54], argTypes := #[41, 22, 22, 22] }, type := 39, pos := "merge.go:30", after := #[{ on := 1, ground := Go.Ground.data }, { on := 2, ground := Go.Ground.data }, { on := 3, ground := Go.Ground.data }, { on := 4, ground := Go.Ground.data }], guard := none }) rfl (fun K hK => ?_) AllReadyH.nil
          go_simp
          with_reducible refine HSD.out.mono ?_
          rintro r w4 ⟨rfl, hbq⟩
          go_wp2_with fail
          have hF4 := hH0.2.2.2.2.2.2.2.below hbq
          refine hK.out _ _ (HSX.out _ hF4) (fun hH1 => ?_)
          replace HOW := Lib.hid (own_below HOW.out hbq)
          clear hK K hbq hH0 HSD hF4
          try simp only [Act.put, List.setIfInBounds_toArray, List.set_cons_zero, List.set_cons_succ]
          refine wpAnyH_take (i := 7) (oi := { dst := some 57, op := Go.Op.build 43 #[(0, Go.Operand.tmp 55), (1, Go.Operand.tmp 56)], type := 43, pos := "merge.go:30", after := #[{ on := 5, ground := Go.Ground.data }, { on := 6, ground := Go.Ground.data }], guard := none }) (v := ?_) rfl (by kernel_rfl) (by kernel_rfl) (by kernel_rfl) (fun _ _ _ h => h) (Or.inl ⟨by rfl, ?_⟩) hH1 ?_
          rotate_left
          · (intro wz hSz; obtain ⟨z0, z1, z2, z3, z4, z5, z6, -⟩ := hSz; go_simp; try with_reducible rfl)
          try simp only [Act.put, List.setIfInBounds_toArray, List.set_cons_zero, List.set_cons_succ]
          refine wpAnyH_ready (rs := [8]) (by kernel_rfl) (by simp) ?_
          refine AllReadyH.cons (o := { dst := some 58, op := Go.Op.buildSlice 25 1 #[(0, Go.Operand.tmp 57)], type := 25, pos := "merge.go:30", after := #[{ on := 7, ground := Go.Ground.data }], guard := none }) rfl (fun K hK => ?_) AllReadyH.nil
          go_simp
          have hF5 := hH1.2.2.2.2.2.2.2.below (alloc1 w4 (.cells #[.int .i64 sd, .bool x.st, .int .i64 x.o, .int .i64 x.on, .int .i64 x.a, .int .i64 x.an, .int .i64 x.b, .int .i64 x.bn] 43))
          refine hK.out _ _ (HSX.out _ hF5) (fun hH2 => ?_)
          have HNW := Lib.hid (World.news_of_block (heap_alloc_new w4 (.cells #[.int .i64 sd, .bool x.st, .int .i64 x.o, .int .i64 x.on, .int .i64 x.a, .int .i64 x.an, .int .i64 x.b, .int .i64 x.bn] 43)))
          replace HOW := Lib.hid (own_below HOW.out (alloc1 w4 (.cells #[.int .i64 sd, .bool x.st, .int .i64 x.o, .int .i64 x.on, .int .i64 x.a, .int .i64 x.an, .int .i64 x.b, .int .i64 x.bn] 43)))
          have H1C : Hid (∀ u ∈ ([.int .i64 sd, .bool x.st, .int .i64 x.o, .int .i64 x.on, .int .i64 x.a, .int .i64 x.an, .int .i64 x.b, .int .i64 x.bn] : List Value), u.oneCell' = true) := Lib.hid (by intro u hu; simp at hu; rcases hu with rfl | rfl | rfl | rfl | rfl | rfl | rfl | rfl <;> rfl)
          clear hK K hH1 hF5
          generalize w4.alloc (.cells #[.int .i64 sd, .bool x.st, .int .i64 x.o, .int .i64 x.on, .int .i64 x.a, .int .i64 x.an, .int .i64 x.b, .int .i64 x.bn] 43) = W5 at *
          generalize w4.heap.size = gb at *
          have hsz := hH2.2.2.2.2.2.2.2.b.size
          try simp only [Act.put, List.setIfInBounds_toArray, List.set_cons_zero, List.set_cons_succ]
          refine wpAnyH_ready (rs := [9]) (by kernel_rfl) (by simp) ?_
          refine AllReadyH.cons (o := { dst := some 59, op := Go.Op.call { callee := Go.Callee.builtin Go.Builtin.append, args := #[Go.Operand.tmp 50, Go.Operand.tmp 58], argTypes := #[25, 25] }, type := 25, pos := "merge.go:30", after := #[{ on := 0, ground := Go.Ground.data }, { on := 8, ground := Go.Ground.data }, { on := 5, ground := Go.Ground.chain }], guard := none }) rfl (fun K hK => ?_) AllReadyH.nil
          refine step_append_lies _ (by rfl) (.tmp 50) (.tmp 58) 25 (by rfl) w3.heap.size 43 i0 _ 8 64 Try.underlying25 hi0 hz0 hz1 hz2 rfl (by decide) (.slice V k vc) k (pcCells ((ch.take k).map fun c => ⟨side c o a b, c⟩)) (by rfl) HOW.out ⟨gb, 0, none⟩ 1 1 [.int .i64 sd, .bool x.st, .int .i64 x.o, .int .i64 x.on, .int .i64 x.a, .int .i64 x.an, .int .i64 x.b, .int .i64 x.bn] (by rfl) rfl HNW.out H1C.out (by omega) (by unfold maxLen; omega) (by omega) (by omega) _ rfl ?_
          intro g5 cap5 w5 hown5 hg5 hat5 hlt5
          have hF6 := hH2.2.2.2.2.2.2.2.grown HOW.out hg5
          refine hK.out _ _ (HSX.out _ hF6) (fun hH3 => ?_)
          clear hK K hH2 HOW HNW H1C hsz
          try simp only [Act.put, List.setIfInBounds_toArray, List.set_cons_zero, List.set_cons_succ]
          refine wpAnyH_take (i := 10) (oi := { dst := some 14, op := Go.Op.assign (Go.Operand.tmp 59), type := 25, pos := "merge.go:30", after := #[{ on := 9, ground := Go.Ground.data }, { on := 9, ground := Go.Ground.chain }, { on := 0, ground := Go.Ground.phase }, { on := 1, ground := Go.Ground.phase }, { on := 2, ground := Go.Ground.phase }, { on := 3, ground := Go.Ground.phase }, { on := 4, ground := Go.Ground.phase }, { on := 5, ground := Go.Ground.phase }, { on := 6, ground := Go.Ground.phase }, { on := 7, ground := Go.Ground.phase }, { on := 8, ground := Go.Ground.phase }, { on := 9, ground := Go.Ground.phase }], guard := none }) (v := ?_) rfl (by kernel_rfl) (by kernel_rfl) (by kernel_rfl) (fun _ _ _ h => h) (Or.inl ⟨by rfl, ?_⟩) hH3 ?_
          rotate_left
          · (intro wz hSz; obtain ⟨z0, z1, z2, z3, z4, z5, z6, -⟩ := hSz; go_simp; try with_reducible rfl)
          try simp only [Act.put, List.setIfInBounds_toArray, List.set_cons_zero, List.set_cons_succ]
          refine wpAnyH_done (by kernel_rfl) ?_ _
          have HOW : Hid (w5.ownsRow w3.heap.size 43 8 (.slice (some ⟨g5, 0, none⟩) (k + 1) cap5) (k + 1) (pcCells ((ch.take (k + 1)).map fun c => ⟨side c o a b, c⟩))) := Lib.hid (by rw [HTK.out, pcCells_snoc]; exact hown5)
          have HB5 := Lib.hid hF6.b
          clear hown5 hg5 hat5 hlt5 hH3 hF6 HSX
          go_wp2_with fail
          go_roundg (ch.length - (k + 1))
          case rel => exact ⟨k + 1, some ⟨g5, 0, none⟩, cap5, by omega, by go_num, rfl, Nat.le_refl _, HOW.out, HB5.out⟩
          case measure => omega
          --R10 end
        · obtain rfl : k = ch.length := by omega
          have HBR := Lib.hid (HB3.out.trans (hbr.mono HB3.out.size))
          rw [List.take_length] at hown
          have HOW := Lib.hid hown
          clear hbr hown
          go_wp2_with fail
          refine bodyPost_ret (v := .tuple #[.slice V ch.length vc, .int .i64 0]) (by simp [results, Try.results10, go_sem]) rfl ?_
          rw [HL.out, HE.out]
          exact ⟨V, vc, by rw [List.length_map], by rw [List.length_map]; exact Go.Proofs.Ytkflhcfopejigaa.V.own_base_le HOW.out HB3.out.size, HBR.out⟩
theorem of_any {P Q O A B : Option Addr} {cp cq co ca cb : Nat} {p q : List Pr} {o a b : List Ln} (w : World) (hO : Tx w O co o) (hA : Tx w A ca a) (hB : Tx w B cb b) (hP : PrIn w P p) (hQ : PrIn w Q q) (hp : p.length ≤ 1000) (hq : q.length ≤ 1000) :
    Calls Try.prog 10 #[.slice O o.length co, .slice A a.length ca, .slice B b.length cb, .slice P p.length cp, .slice Q q.length cq] w (PoEnd w (pieces o a b p q) (perr o a b p q)) := by
  by_cases hc : can p q o.length a.length b.length
  · exact of_good w hO hA hB hP hQ hp hq hc
  · have e1 : chunks p q (o.length : Int) a.length b.length = [] := if_neg hc
    have e2 : pieces o a b p q = [] := by unfold pieces; rw [e1]; split <;> rfl
    have e3 : perr o a b p q = 2 := if_neg hc
    have e4 : err p q (o.length : Int) a.length b.length = 2 := if_neg hc
    have h := c_of p q o.length a.length b.length hp hq
    rw [e1, e4] at h
    rw [e2, e3]
    exact of_bad w hP hQ (Lib.hid h)
end Go.Proofs.Ytkflhcfopejigaa.Mg

namespace Go.Proofs.Ytkflhcfopejigaa.Mg
set_option linter.unusedVariables false
set_option linter.unusedSimpArgs false
open Go.RowKit
open T
open V (grown_of IntsIn numCells numCells_snoc ints_own drawn_below)
open I (alloc1 own_at own_below)

theorem lineCells_app (a b : List Ln) : lineCells (a ++ b) = lineCells a ++ lineCells b := by simp [lineCells]
theorem lineCells_one (a : List Ln) : ∀ u ∈ lineCells a, u.oneCell' = true := by
  intro u hu
  simp only [lineCells, List.mem_flatMap] at hu
  obtain ⟨x, _, hu⟩ := hu
  simp at hu
  rcases hu with rfl | rfl <;> rfl
theorem lines_news {w : World} {bk off : Nat} {xs : List Ln} (h : LinesAt w bk off xs) : ∀ j u, (lineCells xs)[j]? = some u → w.cell? ((⟨bk, off, none⟩ : Addr).add j) = some u := by
  intro j u hu
  have hj : j < xs.length * 2 := by rw [← lineCells_length]; exact (List.getElem?_eq_some_iff.1 hu).1
  have hq : j / 2 < xs.length := by omega
  obtain ⟨h0, h1⟩ := lineCells_at xs (j / 2) hq
  obtain ⟨c0, c1⟩ := h (j / 2) hq
  have hd : j = j / 2 * 2 + j % 2 := by omega
  have hm : j % 2 < 2 := Nat.mod_lt _ (by omega)
  rw [show (⟨bk, off, none⟩ : Addr).add j = ⟨bk, off + j, none⟩ by simp [Addr.add]]
  have key : ∀ r, j % 2 = r → j = j / 2 * 2 + r := fun r hr => by omega
  match hr : j % 2, hm with
  | 0, _ => rw [key 0 hr, Nat.add_zero] at hu ⊢; rw [h0] at hu; rw [c0]; exact hu
  | 1, _ => rw [key 1 hr] at hu ⊢; rw [h1] at hu; rw [← Nat.add_assoc, c1]; exact hu
set_option maxRecDepth 100000 in
/-- append of a row of lines onto a row of lines that the call owns, wherever the lines lie. -/
theorem wpList_append_lines {w : World} {ops : Array Oper} {rest : List Oper} {o : Oper} {a : Act} {Q : Exit → Act → World → Prop} (hgd : o.guard = none) (s x : Operand)
    (ho : o.op = .call { callee := .builtin .append, args := #[s, x], argTypes := #[22, 22] })
    (base : Nat) (v : Value) (xs l : List Ln) (hs : a.eval s = v) (hown : w.ownsRow base 51 2 v xs.length (lineCells xs))
    (LA : Option Addr) (lc : Nat) (hx : a.eval x = .slice LA l.length lc) (hL : LinesIn w LA l) (hn : LA = none → lc = 0) (hsm : xs.length + l.length ≤ 1000000) (hbase : base ≤ w.heap.size)
    (h : ∀ v' w', w'.ownsRow base 51 2 v' (xs ++ l).length (lineCells (xs ++ l)) → w.grownBy w' v.ownBlock → (v'.ownBlock = v.ownBlock ∨ v'.ownBlock = some w.heap.size) → wpList Try.prog ops Q rest (a.put o.dst v') w') :
    wpList Try.prog ops Q (o :: rest) a w := by
  obtain ⟨i0, hi0, hz0, hz1, hz2⟩ := info_parts infoLine
  have hlen : (lineCells l).length = l.length * 2 := lineCells_length l
  cases LA with
  | none =>
    have hl0 : l = [] := by
      rcases Nat.eq_zero_or_pos l.length with h0 | hp
      · exact List.length_eq_zero_iff.1 h0
      · obtain ⟨_, _, h0, _⟩ := hL hp; cases h0
    obtain rfl := hn rfl
    subst hl0
    refine wpList_append_own_none hgd s x _ ho base 51 i0 2 Try.underlying22 hi0 v _ _ hs hown hx (h v w (by simpa using hown) ⟨rfl, rfl, rfl, Nat.le_refl _, fun _ _ _ => rfl⟩ (.inl rfl))
  | some ad =>
    refine wpList_append_own_at w hgd s x _ ho base 51 i0 _ 2 24 Try.underlying22 hi0 hz0 hz1 hz2 rfl (by decide) v _ _ hs hown ad l.length lc (lineCells l) hx hlen (fun j u hu => ?_) (lineCells_one l) (by unfold maxLen; omega) (by omega) hbase (fun v' w' h1 h2 _ h4 => h v' w' (by rw [List.length_append, lineCells_app]; exact h1) h2 h4)
    by_cases hp : 0 < l.length
    · obtain ⟨bk, off, e, _, hI⟩ := hL hp
      injection e with e
      subst e
      exact lines_news hI j u hu
    · have := (List.getElem?_eq_some_iff.1 hu).1
      omega

/-- What a[p:q] is. -/
structure Cu (B : Option Addr) (n c p q : Nat) (a : List Ln) (A2 : Option Addr) (c2 : Nat) : Prop where
  run : ∀ W, Sem.run Try.prog (Instr.sliceAt 22 (.slice B n c) (some (.int .i64 (p : Int))) (some (.int .i64 (q : Int))) none) W = .ok (.slice A2 (q - p) c2) W
  l : ∀ w0, LinesIn w0 B a → LinesIn w0 A2 ((a.drop p).take (q - p))
  z : A2 = none → c2 = 0
  c : q - p ≤ c2
theorem cut2_is {B : Option Addr} {n c p q : Nat} {a : List Ln} (w : World) (hL : LinesIn w B a) (hn : n = a.length) (hpq : p ≤ q) (hqn : q ≤ n) (hnc : n ≤ c) (hz : B = none → c = 0) : ∃ A2 c2, Cu B n c p q a A2 c2 := by
  have HN := Lib.hid hn
  clear hn hL
  have h0p : (0 : Int) ≤ (p : Int) := by omega
  have hpq' : (p : Int) ≤ (q : Int) := by omega
  have hqc : (q : Int) ≤ (c : Int) := by omega
  cases B with
  | none =>
    obtain rfl := hz rfl
    obtain rfl : n = 0 := by omega
    obtain rfl : q = 0 := by omega
    obtain rfl : p = 0 := by omega
    refine ⟨none, 0, fun W => ?_, fun w0 h => ?_, fun _ => rfl, by omega⟩
    · go_simp
    · have : a = [] := List.length_eq_zero_iff.1 HN.out.symm
      subst this
      exact fun hp => by simp at hp
  | some ad =>
    by_cases hpc : p = c
    · subst hpc
      obtain rfl : q = p := by omega
      refine ⟨some ad, 0, fun W => ?_, fun w0 h => ?_, (fun e => by cases e), by omega⟩
      · rw [Nat.sub_self]; go_simp
      · exact fun hp => by rw [List.length_take] at hp; have := HN.out; omega
    · have hcp : ¬ c = p := fun e => hpc e.symm
      refine ⟨some (ad.add (p * 2)), c - p, fun W => ?_, fun w0 h => ?_, (fun e => by cases e), by omega⟩
      · go_simp
      · by_cases hne : 0 < a.length
        · obtain ⟨k, off, he, -, -⟩ := h hne
          obtain rfl := Option.some.inj he
          rw [show (⟨k, off, none⟩ : Addr).add (p * 2) = ⟨k, off + p * 2, none⟩ by simp [Addr.add]]
          exact ln_take (ln_drop h p) (q - p)
        · exact fun hp => by rw [List.length_take, List.length_drop] at hp; have := HN.out; omega
set_option maxRecDepth 100000 in
set_option maxHeartbeats 2000000 in
theorem rcut_any {B : Option Addr} {c : Nat} {l : List Ln} {k n : Int} (w : World) (hB : Tx w B c l) (h0 : 0 ≤ k ∧ 0 ≤ n ∧ k + n ≤ l.length) (hl : l.length ≤ 900000) :
    Calls Try.prog 28 #[.slice B l.length c, .int .i64 k, .int .i64 n] w fun e w' => ∃ RA rc, e = .returned (.slice RA (cutl l k n).length rc) ∧ w'.ownsRow w.heap.size 51 2 (.slice RA (cutl l k n).length rc) (cutl l k n).length (lineCells (cutl l k n)) ∧ Below w.heap.size w w' := by
  obtain ⟨h0, h1, h2⟩ := h0
  obtain ⟨p, rfl⟩ : ∃ p : Nat, k = p := ⟨k.toNat, by omega⟩
  obtain ⟨m, rfl⟩ : ∃ m : Nat, n = m := ⟨n.toNat, by omega⟩
  obtain ⟨q, hq⟩ : ∃ q : Nat, q = p + m := ⟨_, rfl⟩
  obtain ⟨A2, c2, hcu⟩ := cut2_is (B := B) (n := l.length) (c := c) (p := p) (q := q) (a := l) w hB.i rfl (by omega) (by omega) hB.r hB.z
  have hrun := hcu.run
  have hlen := cutl_len (l := l) h1 h0 h2
  have e1 : q - p = m := by omega
  have HL := Lib.hid (fun w0 (h : LinesIn w0 B l) => hcu.l w0 h)
  have HZ := Lib.hid hcu.z
  rw [e1] at hrun HL
  have hle : (cutl l (p : Int) (m : Int)).length = m := by rw [hlen]; omega
  have HLN : Hid (cutl l (p : Int) (m : Int) = (l.drop p).take m) := Lib.hid rfl
  generalize cutl l (p : Int) (m : Int) = x at *
  rw [← HLN.out] at HL
  have HB := Lib.hid hB.i
  have hwr : IntKind.i64.wrap ((p : Int) + (m : Int)) = (q : Int) := by rw [IntKind.wrap_i64]; omega
  have hm9 : x.length ≤ 900000 := by omega
  subst hle
  obtain ⟨nl, hnl⟩ : ∃ n, n = l.length := ⟨_, rfl⟩
  rw [← hnl] at hrun ⊢
  have hs0 : w.heap.size ≤ (w.alloc (.cells #[] 51)).heap.size := by simp
  have HO0 : Hid ((w.alloc (.cells #[] 51)).ownsRow w.heap.size 51 2 (.slice (some ⟨w.heap.size, 0, none⟩) 0 0) ([] : List Ln).length (lineCells [])) := Lib.hid (World.ownsRow_made (size := 2) (e := 51) w #[] 0 (Nat.le_refl _) (by unfold maxLen; omega) rfl)
  have HL0 := Lib.hid (HL.out _ (hB.i.below (alloc1 w (.cells #[] 51))))
  clear hcu hlen hB h0 h1 h2 hl hnl e1 hq HLN
  go_enter Try.func28, Try.ntmps28
  go_wp2_with (at_builtin; refine wpList_append_lines (w := w.alloc (.cells #[] 51)) rfl (.tmp 7) (.tmp 13) rfl w.heap.size (.slice (some ⟨w.heap.size, 0, none⟩) 0 0) [] x rfl HO0.out A2 c2 rfl HL0.out HZ.out (by simp; omega) hs0 ?_; intro v1 w1 ho1 hg1 hat1; rw [List.nil_append] at ho1; obtain ⟨NA, nc, rfl, -, -⟩ := own_form ho1; have HO1 := Lib.hid ho1; have HB1 : Hid (Below w.heap.size w w1) := Lib.hid ((alloc1 w _).grown hg1 hs0 (fun q e => own_base HO0.out q e)); clear ho1 hg1 hat1)
  go_wp2_with fail
  go_ret
  exact ⟨NA, nc, rfl, HO1.out, HB1.out⟩
end Go.Proofs.Ytkflhcfopejigaa.Mg
