/-
  Which chunks are those of three texts: the contract of chunk's Right.
-/
import Derived.Test.YtkflhcfopejigaaGgh
import Derived.BigQuiet
import Derived.Deep.RegionHeld
import Derived.BigRegion
namespace Go.Proofs.Ytkflhcfopejigaa.Ck
set_option linter.unusedVariables false
set_option linter.unusedSimpArgs false
open Go.RowKit Go.Shelf
open T
open Mt (Pr fnd Rt right)
open N (PrIn PrIn.below)
open V (drawn_below grown_of)
open I (alloc1)

def par (t : Tr) (c : Ck) (k : Nat) : Tr := (if 0 < k then t.1 + c.on else t.1, if 1 < k then t.2.1 + c.an else t.2.1, if 2 < k then t.2.2 + c.bn else t.2.2)
/-- What Right's boxes hold within a round. -/
structure Rb (w : World) (s nb : Nat) (o a b n0 n1 n2 x0 x1 x2 : Int) (W : World) : Prop where
  at_ : W.heap[s]? = some (.cells #[.int .i64 x0, .int .i64 x1, .int .i64 x2] 72 (0, 0))
  en : W.heap[s + 1]? = some (.cells #[.int .i64 o, .int .i64 a, .int .i64 b] 72 (0, 0))
  n : W.heap[nb]? = some (.cells #[.int .i64 n0, .int .i64 n1, .int .i64 n2] 72 (0, 0))
  be : Below s w W
theorem Rb.below {w W W' : World} {s nb : Nat} {o a b n0 n1 n2 x0 x1 x2 : Int} (h : Rb w s nb o a b n0 n1 n2 x0 x1 x2 W) (hs : s ≤ W.heap.size) (hb : Below W.heap.size W W') : Rb w s nb o a b n0 n1 n2 x0 x1 x2 W' :=
  ⟨(hb.block _ (L.blk_lt h.at_)).trans h.at_, (hb.block _ (L.blk_lt h.en)).trans h.en, (hb.block _ (L.blk_lt h.n)).trans h.n, h.be.trans (hb.mono hs)⟩
theorem Rb.s0 {w W : World} {s nb : Nat} {o a b n0 n1 n2 x0 x1 x2 : Int} (h : Rb w s nb o a b n0 n1 n2 x0 x1 x2 W) (hn : s + 1 < nb) (y : Int) : Rb w s nb o a b n0 n1 n2 y x1 x2 (W.setCell ⟨s, 0, none⟩ (.int .i64 y)) :=
  ⟨L.blk_set h.at_ 0 _, (L.blk_far (by omega) _).trans h.en, (L.blk_far (by omega) _).trans h.n, h.be.setCell (p := ⟨s, 0, none⟩) (Nat.le_refl _) _⟩
theorem Rb.s1 {w W : World} {s nb : Nat} {o a b n0 n1 n2 x0 x1 x2 : Int} (h : Rb w s nb o a b n0 n1 n2 x0 x1 x2 W) (hn : s + 1 < nb) (y : Int) : Rb w s nb o a b n0 n1 n2 x0 y x2 (W.setCell ⟨s, 1, none⟩ (.int .i64 y)) :=
  ⟨L.blk_set h.at_ 1 _, (L.blk_far (by omega) _).trans h.en, (L.blk_far (by omega) _).trans h.n, h.be.setCell (p := ⟨s, 1, none⟩) (Nat.le_refl _) _⟩
theorem Rb.s2 {w W : World} {s nb : Nat} {o a b n0 n1 n2 x0 x1 x2 : Int} (h : Rb w s nb o a b n0 n1 n2 x0 x1 x2 W) (hn : s + 1 < nb) (y : Int) : Rb w s nb o a b n0 n1 n2 x0 x1 y (W.setCell ⟨s, 2, none⟩ (.int .i64 y)) :=
  ⟨L.blk_set h.at_ 2 _, (L.blk_far (by omega) _).trans h.en, (L.blk_far (by omega) _).trans h.n, h.be.setCell (p := ⟨s, 2, none⟩) (Nat.le_refl _) _⟩
set_option maxRecDepth 100000 in
set_option maxHeartbeats 4000000 in
theorem cright_any (A : Option Addr) (cap : Nat) (l : List Ck) (o a b : Int) (w : World) (hA : CkIn w A l) (hl : l.length ≤ maxLen) (ho : W64 o) (ha : W64 a) (hb : W64 b) :
    Calls Try.prog 47 #[.slice A l.length cap, .int .i64 o, .int .i64 a, .int .i64 b] w fun e w' => e = .returned (.bool (cright l o a b)) ∧ Below w.heap.size w w' := by
  have HA := Lib.hid hA
  unfold maxLen at hl
  obtain ⟨ho1, ho2⟩ := ho
  obtain ⟨ha1, ha2⟩ := ha
  obtain ⟨hb1, hb2⟩ := hb
  clear hA
  obtain ⟨W0, hW0⟩ : ∃ W : World, W = (w.alloc (.cells #[.int .i64 0, .int .i64 0, .int .i64 0] 72)).alloc (.cells #[.int .i64 o, .int .i64 a, .int .i64 b] 72) := ⟨_, rfl⟩
  have HB0 := Lib.hid (show Below w.heap.size w W0 by rw [hW0]; exact (alloc1 _ _).alloc (by simp) _)
  have HX0 := Lib.hid (show W0.heap[w.heap.size]? = some (.cells #[.int .i64 0, .int .i64 0, .int .i64 0] 72 (0, 0)) ∧ W0.heap[w.heap.size + 1]? = some (.cells #[.int .i64 o, .int .i64 a, .int .i64 b] 72 (0, 0)) by rw [hW0]; exact L.two_blocks w _ _)
  have hz0 : W0.heap.size = w.heap.size + 1 + 1 := by rw [hW0]; simp
  go_enter Try.func47, Try.ntmps47
  go_wp2_with fail
  rw [← hW0]
  clear hW0
  obtain ⟨s, hs⟩ : ∃ s, s = w.heap.size := ⟨_, rfl⟩
  rw [← hs] at HX0 hz0 ⊢
  have hs1 : s ≤ w.heap.size := by omega
  have HSE := Lib.hid hs
  clear hs
  go_loopg [8, 21] l.length (fun mm x8 x21 wr => ∃ (k : Nat) (t : Tr), k ≤ l.length ∧ x8 = .bool false ∧ x21 = .int .i64 (k : Int) ∧ l.length - k ≤ mm ∧ s + 1 + 1 ≤ wr.heap.size ∧ Hid (Below s w wr ∧ wr.heap[s]? = some (.cells #[.int .i64 t.1, .int .i64 t.2.1, .int .i64 t.2.2] 72 (0, 0)) ∧ wr.heap[s + 1]? = some (.cells #[.int .i64 o, .int .i64 a, .int .i64 b] 72 (0, 0))) ∧ Hid (Inv t (o, a, b)) ∧ Hid (cright l o a b = ckr t (o, a, b) (l.drop k)))
  case atStart => exact ⟨0, (0, 0, 0), Nat.zero_le _, rfl, rfl, by omega, by omega, Lib.hid ⟨by rw [HSE.out]; exact HB0.out, HX0.out.1, HX0.out.2⟩, Lib.hid ⟨⟨Int.le_refl _, .inl rfl⟩, ⟨Int.le_refl _, .inl rfl⟩, ⟨Int.le_refl _, .inl rfl⟩⟩, Lib.hid rfl⟩
  case round =>
    obtain ⟨k, t, hk, rfl, rfl, hm, hsz, HBX, HIV, HF⟩ := hrel
    obtain ⟨t0, t1, t2⟩ := t
    by_cases hlt : k < l.length
    · obtain ⟨bk, off, hAe, hbk, hI⟩ := HA.out (by omega)
      subst hAe
      obtain ⟨q0, q1, q2, q3, q4, q5, q6⟩ := hI k hlt
      have hbk' : bk < s := by rw [HSE.out]; exact hbk
      have c0 := (HBX.out.1.cell (p := ⟨bk, off + k * 7, none⟩) hbk').trans q0
      have c1 := (HBX.out.1.cell (p := ⟨bk, off + k * 7 + 1, none⟩) hbk').trans q1
      have c2 := (HBX.out.1.cell (p := ⟨bk, off + k * 7 + 2, none⟩) hbk').trans q2
      have c3 := (HBX.out.1.cell (p := ⟨bk, off + k * 7 + 3, none⟩) hbk').trans q3
      have c4 := (HBX.out.1.cell (p := ⟨bk, off + k * 7 + 4, none⟩) hbk').trans q4
      have c5 := (HBX.out.1.cell (p := ⟨bk, off + k * 7 + 5, none⟩) hbk').trans q5
      have c6 := (HBX.out.1.cell (p := ⟨bk, off + k * 7 + 6, none⟩) hbk').trans q6
      have HN := Lib.hid (HF.out.trans (ckr_at hlt (t0, t1, t2) (o, a, b)))
      have h0k : (0 : Int) ≤ (k : Int) := by omega
      have hki : (k : Int) < (l.length : Int) := by omega
      obtain ⟨c, hc⟩ : ∃ c : Ck, l[k]'hlt = c := ⟨_, rfl⟩
      rw [hc] at c0 c1 c2 c3 c4 c5 c6 HN
      clear hI q0 q1 q2 q3 q4 q5 q6 HF hc
      have HBAD := Lib.hid (fun (h : ¬ good (t0, t1, t2) (o, a, b) c) => show cright l o a b = false by rw [HN.out, decide_eq_false h]; rfl)
      have HGOOD := Lib.hid (fun (h : good (t0, t1, t2) (o, a, b) c) => And.intro (show cright l o a b = ckr (next (t0, t1, t2) c) (o, a, b) (l.drop (k + 1)) by rw [HN.out, decide_eq_true h]; rfl) (HIV.out.next h))
      have HBG := Lib.hid (begin_any c)
      obtain ⟨cst, co, con, cca, cax, ccb, cbn⟩ := c
      simp only at c0 c1 c2 c3 c4 c5 c6
      simp only [ckV, trV] at HBG
      obtain ⟨⟨i0, i1⟩, ⟨i2, i3⟩, ⟨i4, i5⟩⟩ := HIV.out
      simp only at i0 i1 i2 i3 i4 i5
      have hw0 : IntKind.i64.wrap (o - t0) = o - t0 := by rw [IntKind.wrap_i64]; omega
      have hw1 : IntKind.i64.wrap (a - t1) = a - t1 := by rw [IntKind.wrap_i64]; omega
      have hw2 : IntKind.i64.wrap (b - t2) = b - t2 := by rw [IntKind.wrap_i64]; omega
      have HI135 := Lib.hid (And.intro i1 (And.intro i3 i5))
      clear HIV HN i1 i3 i5
      simp only [good] at HBAD HGOOD
      obtain ⟨W2, hW2⟩ : ∃ W : World, W = (wr.alloc (.cells #[.bool cst, .int .i64 co, .int .i64 con, .int .i64 cca, .int .i64 cax, .int .i64 ccb, .int .i64 cbn] 41)).alloc (.cells #[.int .i64 con, .int .i64 cax, .int .i64 cbn] 72) := ⟨_, rfl⟩
      obtain ⟨xb, hxb⟩ : ∃ x, x = wr.heap.size := ⟨_, rfl⟩
      have hb2 : Below wr.heap.size wr W2 := by rw [hW2]; exact (alloc1 _ _).alloc (by simp) _
      have hcx : W2.heap[xb]? = some (.cells #[.bool cst, .int .i64 co, .int .i64 con, .int .i64 cca, .int .i64 cax, .int .i64 ccb, .int .i64 cbn] 41 (0, 0)) := by rw [hW2, hxb]; exact (L.two_blocks wr _ _).1
      have hnx : W2.heap[xb + 1]? = some (.cells #[.int .i64 con, .int .i64 cax, .int .i64 cbn] 72 (0, 0)) := by rw [hW2, hxb]; exact (L.two_blocks wr _ _).2
      have hz2 : W2.heap.size = xb + 1 + 1 := by rw [hW2, hxb]; simp
      have HR2 : Hid (Rb w s (xb + 1) o a b con cax cbn t0 t1 t2 W2) := Lib.hid ⟨(hb2.block s (by omega)).trans HBX.out.2.1, (hb2.block (s + 1) (by omega)).trans HBX.out.2.2, hnx, HBX.out.1.trans (hb2.mono (by omega))⟩
      have HCX := Lib.hid hcx
      have hxs : s + 1 + 1 ≤ xb := by omega
      have hxs2 : s ≤ W2.heap.size := by omega
      have HSX := Lib.hid (fun (wz : World) (hz : Below W2.heap.size W2 wz) => And.intro ((hz.block xb (by omega)).trans HCX.out) (HR2.out.below hxs2 hz))
      go_wp2_with fail
      rw [← hW2, ← hxb]
      clear hW2 hb2 hcx hnx hxb c0 c1 c2 c3 c4 c5 c6

      by_cases pe : ((co, cca, ccb) : Tr) = (t0, t1, t2)
      rotate_left
      · have hq1 := fun w => tr_eqIn w co cca ccb t0 t1 t2
        rw [decide_eq_false pe] at hq1
        refine wp_region_held_drew (S := fun wz => Below W2.heap.size W2 wz) (by kernel_rfl) (drawn_below W2 1) (fun hS => ?_)
        generalize W2.drew = wc at *
        refine wpAnyH_take (i := 0) (oi := { dst := some 32, op := Go.Op.load 41 (Go.Operand.tmp 12), type := 41, pos := "chunk.go:115", after := #[], guard := none }) (v := ?_) rfl (by kernel_rfl) (by kernel_rfl) (by kernel_rfl) (fun _ _ _ h => h) (Or.inl ⟨by rfl, ?_⟩) hS ?_
        rotate_left
        · (intro wz hSz; obtain ⟨hcc, hrr⟩ := HSX.out wz hSz; have e0 := L.blk_cell hcc 0; have e1 := L.blk_cell hcc 1; have e2 := L.blk_cell hcc 2; have e3 := L.blk_cell hcc 3; have e4 := L.blk_cell hcc 4; have e5 := L.blk_cell hcc 5; have e6 := L.blk_cell hcc 6; have a0 := L.blk_cell hrr.at_ 0; have a1 := L.blk_cell hrr.at_ 1; have a2 := L.blk_cell hrr.at_ 2; have n0 := L.blk_cell hrr.n 0; have n1 := L.blk_cell hrr.n 1; have n2 := L.blk_cell hrr.n 2; simp only [List.getElem?_toArray, List.getElem?_cons_zero, List.getElem?_cons_succ] at e0 e1 e2 e3 e4 e5 e6 a0 a1 a2 n0 n1 n2; go_simp; try with_reducible rfl)
        try simp only [Act.put, List.setIfInBounds_toArray, List.set_cons_zero, List.set_cons_succ]
        refine wpAnyH_take (i := 2) (oi := { dst := some 34, op := Go.Op.load 72 (Go.Operand.tmp 9), type := 72, pos := "chunk.go:115", after := #[], guard := none }) (v := ?_) rfl (by kernel_rfl) (by kernel_rfl) (by kernel_rfl) (fun _ _ _ h => h) (Or.inl ⟨by rfl, ?_⟩) hS ?_
        rotate_left
        · (intro wz hSz; obtain ⟨hcc, hrr⟩ := HSX.out wz hSz; have e0 := L.blk_cell hcc 0; have e1 := L.blk_cell hcc 1; have e2 := L.blk_cell hcc 2; have e3 := L.blk_cell hcc 3; have e4 := L.blk_cell hcc 4; have e5 := L.blk_cell hcc 5; have e6 := L.blk_cell hcc 6; have a0 := L.blk_cell hrr.at_ 0; have a1 := L.blk_cell hrr.at_ 1; have a2 := L.blk_cell hrr.at_ 2; have n0 := L.blk_cell hrr.n 0; have n1 := L.blk_cell hrr.n 1; have n2 := L.blk_cell hrr.n 2; simp only [List.getElem?_toArray, List.getElem?_cons_zero, List.getElem?_cons_succ] at e0 e1 e2 e3 e4 e5 e6 a0 a1 a2 n0 n1 n2; go_simp; try with_reducible rfl)
        try simp only [Act.put, List.setIfInBounds_toArray, List.set_cons_zero, List.set_cons_succ]
        refine wpAnyH_ready (rs := [1]) (by kernel_rfl) (by simp) ?_
        refine AllReadyH.cons (o := { dst := some 33, op := Go.Op.call { callee := Go.Callee.value (Go.Operand.func 55), args := #[Go.Operand.tmp 32], argTypes := #[41] }, type := 72, pos := "chunk.go:115", after := #[{ on := 0, ground := Go.Ground.data }], guard := none }) rfl (fun K hK => ?_) AllReadyH.nil
        go_simp
        with_reducible refine (HBG.out _).mono ?_
        rintro r wn ⟨rfl, hbq⟩
        go_wp2_with fail
        refine hK.out _ _ (hS.trans (hbq.mono hS.size)) (fun hS1 => ?_)
        clear hK K hbq hS
        have hS := hS1
        clear hS1
        try simp only [Act.put, List.setIfInBounds_toArray, List.set_cons_zero, List.set_cons_succ]
        refine wpAnyH_take (i := 3) (oi := { dst := some 35, op := Go.Op.binOp Go.BinOp.neq 72 (Go.Operand.tmp 33) (Go.Operand.tmp 34) 72, type := 4, pos := "chunk.go:115", after := #[{ on := 1, ground := Go.Ground.data }, { on := 2, ground := Go.Ground.data }], guard := none }) (v := ?_) rfl (by kernel_rfl) (by kernel_rfl) (by kernel_rfl) (fun _ _ _ h => h) (Or.inl ⟨by rfl, ?_⟩) hS ?_
        rotate_left
        · (intro wz hSz; obtain ⟨hcc, hrr⟩ := HSX.out wz hSz; have e0 := L.blk_cell hcc 0; have e1 := L.blk_cell hcc 1; have e2 := L.blk_cell hcc 2; have e3 := L.blk_cell hcc 3; have e4 := L.blk_cell hcc 4; have e5 := L.blk_cell hcc 5; have e6 := L.blk_cell hcc 6; have a0 := L.blk_cell hrr.at_ 0; have a1 := L.blk_cell hrr.at_ 1; have a2 := L.blk_cell hrr.at_ 2; have n0 := L.blk_cell hrr.n 0; have n1 := L.blk_cell hrr.n 1; have n2 := L.blk_cell hrr.n 2; simp only [List.getElem?_toArray, List.getElem?_cons_zero, List.getElem?_cons_succ] at e0 e1 e2 e3 e4 e5 e6 a0 a1 a2 n0 n1 n2; go_simp; try with_reducible rfl)
        try simp only [Act.put, List.setIfInBounds_toArray, List.set_cons_zero, List.set_cons_succ]
        refine wpAnyH_take (i := 4) (oi := { dst := some 36, op := Go.Op.move (Go.Operand.tmp 35), type := 4, pos := "chunk.go:115", after := #[{ on := 3, ground := Go.Ground.data }, { on := 1, ground := Go.Ground.chain }], guard := none }) (v := ?_) rfl (by kernel_rfl) (by kernel_rfl) (by kernel_rfl) (fun _ _ _ h => h) (Or.inl ⟨by rfl, ?_⟩) hS ?_
        rotate_left
        · (intro wz hSz; obtain ⟨hcc, hrr⟩ := HSX.out wz hSz; have e0 := L.blk_cell hcc 0; have e1 := L.blk_cell hcc 1; have e2 := L.blk_cell hcc 2; have e3 := L.blk_cell hcc 3; have e4 := L.blk_cell hcc 4; have e5 := L.blk_cell hcc 5; have e6 := L.blk_cell hcc 6; have a0 := L.blk_cell hrr.at_ 0; have a1 := L.blk_cell hrr.at_ 1; have a2 := L.blk_cell hrr.at_ 2; have n0 := L.blk_cell hrr.n 0; have n1 := L.blk_cell hrr.n 1; have n2 := L.blk_cell hrr.n 2; simp only [List.getElem?_toArray, List.getElem?_cons_zero, List.getElem?_cons_succ] at e0 e1 e2 e3 e4 e5 e6 a0 a1 a2 n0 n1 n2; go_simp; try with_reducible rfl)
        try simp only [Act.put, List.setIfInBounds_toArray, List.set_cons_zero, List.set_cons_succ]
        refine wpAnyH_take (i := 5) (oi := { dst := some 37, op := Go.Op.load 72 (Go.Operand.tmp 13), type := 72, pos := "chunk.go:115", after := #[{ on := 4, ground := Go.Ground.guard }], guard := some (4, false) }) (v := undef) rfl (by kernel_rfl) (by kernel_rfl) (by kernel_rfl) (fun _ _ _ h => h) (Or.inr ⟨by rfl, rfl⟩) hS ?_
        try simp only [Act.put, List.setIfInBounds_toArray, List.set_cons_zero, List.set_cons_succ]
        refine wpAnyH_take (i := 6) (oi := { dst := some 38, op := Go.Op.build 72 #[], type := 72, pos := "chunk.go:115", after := #[{ on := 4, ground := Go.Ground.guard }], guard := some (4, false) }) (v := undef) rfl (by kernel_rfl) (by kernel_rfl) (by kernel_rfl) (fun _ _ _ h => h) (Or.inr ⟨by rfl, rfl⟩) hS ?_
        try simp only [Act.put, List.setIfInBounds_toArray, List.set_cons_zero, List.set_cons_succ]
        refine wpAnyH_take (i := 7) (oi := { dst := some 39, op := Go.Op.binOp Go.BinOp.eql 72 (Go.Operand.tmp 37) (Go.Operand.tmp 38) 72, type := 4, pos := "chunk.go:115", after := #[{ on := 5, ground := Go.Ground.data }, { on := 6, ground := Go.Ground.data }, { on := 4, ground := Go.Ground.guard }], guard := some (4, false) }) (v := undef) rfl (by kernel_rfl) (by kernel_rfl) (by kernel_rfl) (fun _ _ _ h => h) (Or.inr ⟨by rfl, rfl⟩) hS ?_
        try simp only [Act.put, List.setIfInBounds_toArray, List.set_cons_zero, List.set_cons_succ]
        refine wpAnyH_take (i := 8) (oi := { dst := some 40, op := Go.Op.pick (Go.Operand.tmp 36) (Go.Operand.const (Go.Value.bool true)) (Go.Operand.tmp 39), type := 4, pos := "chunk.go:115", after := #[{ on := 4, ground := Go.Ground.data }, { on := 7, ground := Go.Ground.data }], guard := none }) (v := ?_) rfl (by kernel_rfl) (by kernel_rfl) (by kernel_rfl) (fun _ _ _ h => h) (Or.inl ⟨by rfl, ?_⟩) hS ?_
        rotate_left
        · (intro wz hSz; obtain ⟨hcc, hrr⟩ := HSX.out wz hSz; have e0 := L.blk_cell hcc 0; have e1 := L.blk_cell hcc 1; have e2 := L.blk_cell hcc 2; have e3 := L.blk_cell hcc 3; have e4 := L.blk_cell hcc 4; have e5 := L.blk_cell hcc 5; have e6 := L.blk_cell hcc 6; have a0 := L.blk_cell hrr.at_ 0; have a1 := L.blk_cell hrr.at_ 1; have a2 := L.blk_cell hrr.at_ 2; have n0 := L.blk_cell hrr.n 0; have n1 := L.blk_cell hrr.n 1; have n2 := L.blk_cell hrr.n 2; simp only [List.getElem?_toArray, List.getElem?_cons_zero, List.getElem?_cons_succ] at e0 e1 e2 e3 e4 e5 e6 a0 a1 a2 n0 n1 n2; go_simp; try with_reducible rfl)
        try simp only [Act.put, List.setIfInBounds_toArray, List.set_cons_zero, List.set_cons_succ]
        refine wpAnyH_take (i := 9) (oi := { dst := some 41, op := Go.Op.move (Go.Operand.tmp 40), type := 4, pos := "chunk.go:115", after := #[{ on := 8, ground := Go.Ground.data }, { on := 4, ground := Go.Ground.chain }], guard := none }) (v := ?_) rfl (by kernel_rfl) (by kernel_rfl) (by kernel_rfl) (fun _ _ _ h => h) (Or.inl ⟨by rfl, ?_⟩) hS ?_
        rotate_left
        · (intro wz hSz; obtain ⟨hcc, hrr⟩ := HSX.out wz hSz; have e0 := L.blk_cell hcc 0; have e1 := L.blk_cell hcc 1; have e2 := L.blk_cell hcc 2; have e3 := L.blk_cell hcc 3; have e4 := L.blk_cell hcc 4; have e5 := L.blk_cell hcc 5; have e6 := L.blk_cell hcc 6; have a0 := L.blk_cell hrr.at_ 0; have a1 := L.blk_cell hrr.at_ 1; have a2 := L.blk_cell hrr.at_ 2; have n0 := L.blk_cell hrr.n 0; have n1 := L.blk_cell hrr.n 1; have n2 := L.blk_cell hrr.n 2; simp only [List.getElem?_toArray, List.getElem?_cons_zero, List.getElem?_cons_succ] at e0 e1 e2 e3 e4 e5 e6 a0 a1 a2 n0 n1 n2; go_simp; try with_reducible rfl)
        try simp only [Act.put, List.setIfInBounds_toArray, List.set_cons_zero, List.set_cons_succ]
        refine wpAnyH_take (i := 10) (oi := { dst := some 42, op := Go.Op.fieldAddr 41 (Go.Operand.tmp 12) 0, type := 0, pos := "chunk.go:115", after := #[{ on := 9, ground := Go.Ground.guard }], guard := some (9, false) }) (v := undef) rfl (by kernel_rfl) (by kernel_rfl) (by kernel_rfl) (fun _ _ _ h => h) (Or.inr ⟨by rfl, rfl⟩) hS ?_
        try simp only [Act.put, List.setIfInBounds_toArray, List.set_cons_zero, List.set_cons_succ]
        refine wpAnyH_take (i := 11) (oi := { dst := some 43, op := Go.Op.load 4 (Go.Operand.tmp 42), type := 4, pos := "chunk.go:115", after := #[{ on := 10, ground := Go.Ground.data }, { on := 9, ground := Go.Ground.guard }], guard := some (9, false) }) (v := undef) rfl (by kernel_rfl) (by kernel_rfl) (by kernel_rfl) (fun _ _ _ h => h) (Or.inr ⟨by rfl, rfl⟩) hS ?_
        try simp only [Act.put, List.setIfInBounds_toArray, List.set_cons_zero, List.set_cons_succ]
        refine wpAnyH_take (i := 12) (oi := { dst := some 44, op := Go.Op.move (Go.Operand.tmp 43), type := 4, pos := "chunk.go:115", after := #[{ on := 11, ground := Go.Ground.data }, { on := 9, ground := Go.Ground.chain }, { on := 9, ground := Go.Ground.guard }], guard := some (9, false) }) (v := undef) rfl (by kernel_rfl) (by kernel_rfl) (by kernel_rfl) (fun _ _ _ h => h) (Or.inr ⟨by rfl, rfl⟩) hS ?_
        try simp only [Act.put, List.setIfInBounds_toArray, List.set_cons_zero, List.set_cons_succ]
        refine wpAnyH_take (i := 13) (oi := { dst := some 45, op := Go.Op.load 72 (Go.Operand.tmp 13), type := 72, pos := "chunk.go:115", after := #[{ on := 12, ground := Go.Ground.guard }], guard := some (12, true) }) (v := undef) rfl (by kernel_rfl) (by kernel_rfl) (by kernel_rfl) (fun _ _ _ h => h) (Or.inr ⟨by rfl, rfl⟩) hS ?_
        try simp only [Act.put, List.setIfInBounds_toArray, List.set_cons_zero, List.set_cons_succ]
        refine wpAnyH_take (i := 14) (oi := { dst := some 46, op := Go.Op.fieldAddr 41 (Go.Operand.tmp 12) 2, type := 0, pos := "chunk.go:115", after := #[{ on := 12, ground := Go.Ground.guard }], guard := some (12, true) }) (v := undef) rfl (by kernel_rfl) (by kernel_rfl) (by kernel_rfl) (fun _ _ _ h => h) (Or.inr ⟨by rfl, rfl⟩) hS ?_
        try simp only [Act.put, List.setIfInBounds_toArray, List.set_cons_zero, List.set_cons_succ]
        refine wpAnyH_take (i := 15) (oi := { dst := some 47, op := Go.Op.load 3 (Go.Operand.tmp 46), type := 3, pos := "chunk.go:115", after := #[{ on := 14, ground := Go.Ground.data }, { on := 12, ground := Go.Ground.guard }], guard := some (12, true) }) (v := undef) rfl (by kernel_rfl) (by kernel_rfl) (by kernel_rfl) (fun _ _ _ h => h) (Or.inr ⟨by rfl, rfl⟩) hS ?_
        try simp only [Act.put, List.setIfInBounds_toArray, List.set_cons_zero, List.set_cons_succ]
        refine wpAnyH_take (i := 16) (oi := { dst := some 48, op := Go.Op.fieldAddr 41 (Go.Operand.tmp 12) 2, type := 0, pos := "chunk.go:115", after := #[{ on := 12, ground := Go.Ground.guard }], guard := some (12, true) }) (v := undef) rfl (by kernel_rfl) (by kernel_rfl) (by kernel_rfl) (fun _ _ _ h => h) (Or.inr ⟨by rfl, rfl⟩) hS ?_
        try simp only [Act.put, List.setIfInBounds_toArray, List.set_cons_zero, List.set_cons_succ]
        refine wpAnyH_take (i := 17) (oi := { dst := some 49, op := Go.Op.load 3 (Go.Operand.tmp 48), type := 3, pos := "chunk.go:115", after := #[{ on := 16, ground := Go.Ground.data }, { on := 12, ground := Go.Ground.guard }], guard := some (12, true) }) (v := undef) rfl (by kernel_rfl) (by kernel_rfl) (by kernel_rfl) (fun _ _ _ h => h) (Or.inr ⟨by rfl, rfl⟩) hS ?_
        try simp only [Act.put, List.setIfInBounds_toArray, List.set_cons_zero, List.set_cons_succ]
        refine wpAnyH_take (i := 18) (oi := { dst := some 50, op := Go.Op.fieldAddr 41 (Go.Operand.tmp 12) 2, type := 0, pos := "chunk.go:115", after := #[{ on := 12, ground := Go.Ground.guard }], guard := some (12, true) }) (v := undef) rfl (by kernel_rfl) (by kernel_rfl) (by kernel_rfl) (fun _ _ _ h => h) (Or.inr ⟨by rfl, rfl⟩) hS ?_
        try simp only [Act.put, List.setIfInBounds_toArray, List.set_cons_zero, List.set_cons_succ]
        refine wpAnyH_take (i := 19) (oi := { dst := some 51, op := Go.Op.load 3 (Go.Operand.tmp 50), type := 3, pos := "chunk.go:115", after := #[{ on := 18, ground := Go.Ground.data }, { on := 12, ground := Go.Ground.guard }], guard := some (12, true) }) (v := undef) rfl (by kernel_rfl) (by kernel_rfl) (by kernel_rfl) (fun _ _ _ h => h) (Or.inr ⟨by rfl, rfl⟩) hS ?_
        try simp only [Act.put, List.setIfInBounds_toArray, List.set_cons_zero, List.set_cons_succ]
        refine wpAnyH_take (i := 20) (oi := { dst := some 52, op := Go.Op.build 72 #[(0, Go.Operand.tmp 47), (1, Go.Operand.tmp 49), (2, Go.Operand.tmp 51)], type := 72, pos := "chunk.go:115", after := #[{ on := 15, ground := Go.Ground.data }, { on := 17, ground := Go.Ground.data }, { on := 19, ground := Go.Ground.data }, { on := 12, ground := Go.Ground.guard }], guard := some (12, true) }) (v := undef) rfl (by kernel_rfl) (by kernel_rfl) (by kernel_rfl) (fun _ _ _ h => h) (Or.inr ⟨by rfl, rfl⟩) hS ?_
        try simp only [Act.put, List.setIfInBounds_toArray, List.set_cons_zero, List.set_cons_succ]
        refine wpAnyH_take (i := 21) (oi := { dst := some 53, op := Go.Op.binOp Go.BinOp.neq 72 (Go.Operand.tmp 45) (Go.Operand.tmp 52) 72, type := 4, pos := "chunk.go:115", after := #[{ on := 13, ground := Go.Ground.data }, { on := 20, ground := Go.Ground.data }, { on := 12, ground := Go.Ground.guard }], guard := some (12, true) }) (v := undef) rfl (by kernel_rfl) (by kernel_rfl) (by kernel_rfl) (fun _ _ _ h => h) (Or.inr ⟨by rfl, rfl⟩) hS ?_
        try simp only [Act.put, List.setIfInBounds_toArray, List.set_cons_zero, List.set_cons_succ]
        refine wpAnyH_take (i := 22) (oi := { dst := some 54, op := Go.Op.pick (Go.Operand.tmp 44) (Go.Operand.tmp 53) (Go.Operand.const (Go.Value.bool false)), type := 4, pos := "chunk.go:115", after := #[{ on := 12, ground := Go.Ground.data }, { on := 21, ground := Go.Ground.data }, { on := 9, ground := Go.Ground.guard }], guard := some (9, false) }) (v := undef) rfl (by kernel_rfl) (by kernel_rfl) (by kernel_rfl) (fun _ _ _ h => h) (Or.inr ⟨by rfl, rfl⟩) hS ?_
        try simp only [Act.put, List.setIfInBounds_toArray, List.set_cons_zero, List.set_cons_succ]
        refine wpAnyH_take (i := 23) (oi := { dst := some 55, op := Go.Op.pick (Go.Operand.tmp 41) (Go.Operand.const (Go.Value.bool true)) (Go.Operand.tmp 54), type := 4, pos := "chunk.go:115", after := #[{ on := 9, ground := Go.Ground.data }, { on := 22, ground := Go.Ground.data }], guard := none }) (v := ?_) rfl (by kernel_rfl) (by kernel_rfl) (by kernel_rfl) (fun _ _ _ h => h) (Or.inl ⟨by rfl, ?_⟩) hS ?_
        rotate_left
        · (intro wz hSz; obtain ⟨hcc, hrr⟩ := HSX.out wz hSz; have e0 := L.blk_cell hcc 0; have e1 := L.blk_cell hcc 1; have e2 := L.blk_cell hcc 2; have e3 := L.blk_cell hcc 3; have e4 := L.blk_cell hcc 4; have e5 := L.blk_cell hcc 5; have e6 := L.blk_cell hcc 6; have a0 := L.blk_cell hrr.at_ 0; have a1 := L.blk_cell hrr.at_ 1; have a2 := L.blk_cell hrr.at_ 2; have n0 := L.blk_cell hrr.n 0; have n1 := L.blk_cell hrr.n 1; have n2 := L.blk_cell hrr.n 2; simp only [List.getElem?_toArray, List.getElem?_cons_zero, List.getElem?_cons_succ] at e0 e1 e2 e3 e4 e5 e6 a0 a1 a2 n0 n1 n2; go_simp; try with_reducible rfl)
        try simp only [Act.put, List.setIfInBounds_toArray, List.set_cons_zero, List.set_cons_succ]
        refine wpAnyH_done (by kernel_rfl) ?_ _
        have HW := Lib.hid (HSX.out _ hS).2
        have hzn := hS.size
        clear hS
        have HV := Lib.hid (HBAD.out (fun h => pe (by obtain ⟨⟨h1, h2, h3⟩, -⟩ := h; rw [h1, h2, h3])))
        clear HBAD HGOOD
        go_wp2_with fail
        go_ret
        exact ⟨by rw [HV.out]; rfl, by rw [← HSE.out]; exact HW.out.be⟩
      have hq1 := fun w => tr_eqIn w co cca ccb t0 t1 t2
      rw [decide_eq_true pe] at hq1
      have hq2 := fun w => tr_eqIn w con cax cbn 0 0 0
      by_cases pz : ((con, cax, cbn) : Tr) = (0, 0, 0)
      · rw [decide_eq_true pz] at hq2
        refine wp_region_held_drew (S := fun wz => Below W2.heap.size W2 wz) (by kernel_rfl) (drawn_below W2 1) (fun hS => ?_)
        generalize W2.drew = wc at *
        refine wpAnyH_take (i := 0) (oi := { dst := some 32, op := Go.Op.load 41 (Go.Operand.tmp 12), type := 41, pos := "chunk.go:115", after := #[], guard := none }) (v := ?_) rfl (by kernel_rfl) (by kernel_rfl) (by kernel_rfl) (fun _ _ _ h => h) (Or.inl ⟨by rfl, ?_⟩) hS ?_
        rotate_left
        · (intro wz hSz; obtain ⟨hcc, hrr⟩ := HSX.out wz hSz; have e0 := L.blk_cell hcc 0; have e1 := L.blk_cell hcc 1; have e2 := L.blk_cell hcc 2; have e3 := L.blk_cell hcc 3; have e4 := L.blk_cell hcc 4; have e5 := L.blk_cell hcc 5; have e6 := L.blk_cell hcc 6; have a0 := L.blk_cell hrr.at_ 0; have a1 := L.blk_cell hrr.at_ 1; have a2 := L.blk_cell hrr.at_ 2; have n0 := L.blk_cell hrr.n 0; have n1 := L.blk_cell hrr.n 1; have n2 := L.blk_cell hrr.n 2; simp only [List.getElem?_toArray, List.getElem?_cons_zero, List.getElem?_cons_succ] at e0 e1 e2 e3 e4 e5 e6 a0 a1 a2 n0 n1 n2; go_simp; try with_reducible rfl)
        try simp only [Act.put, List.setIfInBounds_toArray, List.set_cons_zero, List.set_cons_succ]
        refine wpAnyH_take (i := 2) (oi := { dst := some 34, op := Go.Op.load 72 (Go.Operand.tmp 9), type := 72, pos := "chunk.go:115", after := #[], guard := none }) (v := ?_) rfl (by kernel_rfl) (by kernel_rfl) (by kernel_rfl) (fun _ _ _ h => h) (Or.inl ⟨by rfl, ?_⟩) hS ?_
        rotate_left
        · (intro wz hSz; obtain ⟨hcc, hrr⟩ := HSX.out wz hSz; have e0 := L.blk_cell hcc 0; have e1 := L.blk_cell hcc 1; have e2 := L.blk_cell hcc 2; have e3 := L.blk_cell hcc 3; have e4 := L.blk_cell hcc 4; have e5 := L.blk_cell hcc 5; have e6 := L.blk_cell hcc 6; have a0 := L.blk_cell hrr.at_ 0; have a1 := L.blk_cell hrr.at_ 1; have a2 := L.blk_cell hrr.at_ 2; have n0 := L.blk_cell hrr.n 0; have n1 := L.blk_cell hrr.n 1; have n2 := L.blk_cell hrr.n 2; simp only [List.getElem?_toArray, List.getElem?_cons_zero, List.getElem?_cons_succ] at e0 e1 e2 e3 e4 e5 e6 a0 a1 a2 n0 n1 n2; go_simp; try with_reducible rfl)
        try simp only [Act.put, List.setIfInBounds_toArray, List.set_cons_zero, List.set_cons_succ]
        refine wpAnyH_ready (rs := [1]) (by kernel_rfl) (by simp) ?_
        refine AllReadyH.cons (o := { dst := some 33, op := Go.Op.call { callee := Go.Callee.value (Go.Operand.func 55), args := #[Go.Operand.tmp 32], argTypes := #[41] }, type := 72, pos := "chunk.go:115", after := #[{ on := 0, ground := Go.Ground.data }], guard := none }) rfl (fun K hK => ?_) AllReadyH.nil
        go_simp
        with_reducible refine (HBG.out _).mono ?_
        rintro r wn ⟨rfl, hbq⟩
        go_wp2_with fail
        refine hK.out _ _ (hS.trans (hbq.mono hS.size)) (fun hS1 => ?_)
        clear hK K hbq hS
        have hS := hS1
        clear hS1
        try simp only [Act.put, List.setIfInBounds_toArray, List.set_cons_zero, List.set_cons_succ]
        refine wpAnyH_take (i := 3) (oi := { dst := some 35, op := Go.Op.binOp Go.BinOp.neq 72 (Go.Operand.tmp 33) (Go.Operand.tmp 34) 72, type := 4, pos := "chunk.go:115", after := #[{ on := 1, ground := Go.Ground.data }, { on := 2, ground := Go.Ground.data }], guard := none }) (v := ?_) rfl (by kernel_rfl) (by kernel_rfl) (by kernel_rfl) (fun _ _ _ h => h) (Or.inl ⟨by rfl, ?_⟩) hS ?_
        rotate_left
        · (intro wz hSz; obtain ⟨hcc, hrr⟩ := HSX.out wz hSz; have e0 := L.blk_cell hcc 0; have e1 := L.blk_cell hcc 1; have e2 := L.blk_cell hcc 2; have e3 := L.blk_cell hcc 3; have e4 := L.blk_cell hcc 4; have e5 := L.blk_cell hcc 5; have e6 := L.blk_cell hcc 6; have a0 := L.blk_cell hrr.at_ 0; have a1 := L.blk_cell hrr.at_ 1; have a2 := L.blk_cell hrr.at_ 2; have n0 := L.blk_cell hrr.n 0; have n1 := L.blk_cell hrr.n 1; have n2 := L.blk_cell hrr.n 2; simp only [List.getElem?_toArray, List.getElem?_cons_zero, List.getElem?_cons_succ] at e0 e1 e2 e3 e4 e5 e6 a0 a1 a2 n0 n1 n2; go_simp; try with_reducible rfl)
        try simp only [Act.put, List.setIfInBounds_toArray, List.set_cons_zero, List.set_cons_succ]
        refine wpAnyH_take (i := 4) (oi := { dst := some 36, op := Go.Op.move (Go.Operand.tmp 35), type := 4, pos := "chunk.go:115", after := #[{ on := 3, ground := Go.Ground.data }, { on := 1, ground := Go.Ground.chain }], guard := none }) (v := ?_) rfl (by kernel_rfl) (by kernel_rfl) (by kernel_rfl) (fun _ _ _ h => h) (Or.inl ⟨by rfl, ?_⟩) hS ?_
        rotate_left
        · (intro wz hSz; obtain ⟨hcc, hrr⟩ := HSX.out wz hSz; have e0 := L.blk_cell hcc 0; have e1 := L.blk_cell hcc 1; have e2 := L.blk_cell hcc 2; have e3 := L.blk_cell hcc 3; have e4 := L.blk_cell hcc 4; have e5 := L.blk_cell hcc 5; have e6 := L.blk_cell hcc 6; have a0 := L.blk_cell hrr.at_ 0; have a1 := L.blk_cell hrr.at_ 1; have a2 := L.blk_cell hrr.at_ 2; have n0 := L.blk_cell hrr.n 0; have n1 := L.blk_cell hrr.n 1; have n2 := L.blk_cell hrr.n 2; simp only [List.getElem?_toArray, List.getElem?_cons_zero, List.getElem?_cons_succ] at e0 e1 e2 e3 e4 e5 e6 a0 a1 a2 n0 n1 n2; go_simp; try with_reducible rfl)
        try simp only [Act.put, List.setIfInBounds_toArray, List.set_cons_zero, List.set_cons_succ]
        refine wpAnyH_take (i := 5) (oi := { dst := some 37, op := Go.Op.load 72 (Go.Operand.tmp 13), type := 72, pos := "chunk.go:115", after := #[{ on := 4, ground := Go.Ground.guard }], guard := some (4, false) }) (v := ?_) rfl (by kernel_rfl) (by kernel_rfl) (by kernel_rfl) (fun _ _ _ h => h) (Or.inl ⟨by rfl, ?_⟩) hS ?_
        rotate_left
        · (intro wz hSz; obtain ⟨hcc, hrr⟩ := HSX.out wz hSz; have e0 := L.blk_cell hcc 0; have e1 := L.blk_cell hcc 1; have e2 := L.blk_cell hcc 2; have e3 := L.blk_cell hcc 3; have e4 := L.blk_cell hcc 4; have e5 := L.blk_cell hcc 5; have e6 := L.blk_cell hcc 6; have a0 := L.blk_cell hrr.at_ 0; have a1 := L.blk_cell hrr.at_ 1; have a2 := L.blk_cell hrr.at_ 2; have n0 := L.blk_cell hrr.n 0; have n1 := L.blk_cell hrr.n 1; have n2 := L.blk_cell hrr.n 2; simp only [List.getElem?_toArray, List.getElem?_cons_zero, List.getElem?_cons_succ] at e0 e1 e2 e3 e4 e5 e6 a0 a1 a2 n0 n1 n2; go_simp; try with_reducible rfl)
        try simp only [Act.put, List.setIfInBounds_toArray, List.set_cons_zero, List.set_cons_succ]
        refine wpAnyH_take (i := 6) (oi := { dst := some 38, op := Go.Op.build 72 #[], type := 72, pos := "chunk.go:115", after := #[{ on := 4, ground := Go.Ground.guard }], guard := some (4, false) }) (v := ?_) rfl (by kernel_rfl) (by kernel_rfl) (by kernel_rfl) (fun _ _ _ h => h) (Or.inl ⟨by rfl, ?_⟩) hS ?_
        rotate_left
        · (intro wz hSz; obtain ⟨hcc, hrr⟩ := HSX.out wz hSz; have e0 := L.blk_cell hcc 0; have e1 := L.blk_cell hcc 1; have e2 := L.blk_cell hcc 2; have e3 := L.blk_cell hcc 3; have e4 := L.blk_cell hcc 4; have e5 := L.blk_cell hcc 5; have e6 := L.blk_cell hcc 6; have a0 := L.blk_cell hrr.at_ 0; have a1 := L.blk_cell hrr.at_ 1; have a2 := L.blk_cell hrr.at_ 2; have n0 := L.blk_cell hrr.n 0; have n1 := L.blk_cell hrr.n 1; have n2 := L.blk_cell hrr.n 2; simp only [List.getElem?_toArray, List.getElem?_cons_zero, List.getElem?_cons_succ] at e0 e1 e2 e3 e4 e5 e6 a0 a1 a2 n0 n1 n2; go_simp; try with_reducible rfl)
        try simp only [Act.put, List.setIfInBounds_toArray, List.set_cons_zero, List.set_cons_succ]
        refine wpAnyH_take (i := 7) (oi := { dst := some 39, op := Go.Op.binOp Go.BinOp.eql 72 (Go.Operand.tmp 37) (Go.Operand.tmp 38) 72, type := 4, pos := "chunk.go:115", after := #[{ on := 5, ground := Go.Ground.data }, { on := 6, ground := Go.Ground.data }, { on := 4, ground := Go.Ground.guard }], guard := some (4, false) }) (v := ?_) rfl (by kernel_rfl) (by kernel_rfl) (by kernel_rfl) (fun _ _ _ h => h) (Or.inl ⟨by rfl, ?_⟩) hS ?_
        rotate_left
        · (intro wz hSz; obtain ⟨hcc, hrr⟩ := HSX.out wz hSz; have e0 := L.blk_cell hcc 0; have e1 := L.blk_cell hcc 1; have e2 := L.blk_cell hcc 2; have e3 := L.blk_cell hcc 3; have e4 := L.blk_cell hcc 4; have e5 := L.blk_cell hcc 5; have e6 := L.blk_cell hcc 6; have a0 := L.blk_cell hrr.at_ 0; have a1 := L.blk_cell hrr.at_ 1; have a2 := L.blk_cell hrr.at_ 2; have n0 := L.blk_cell hrr.n 0; have n1 := L.blk_cell hrr.n 1; have n2 := L.blk_cell hrr.n 2; simp only [List.getElem?_toArray, List.getElem?_cons_zero, List.getElem?_cons_succ] at e0 e1 e2 e3 e4 e5 e6 a0 a1 a2 n0 n1 n2; go_simp; try with_reducible rfl)
        try simp only [Act.put, List.setIfInBounds_toArray, List.set_cons_zero, List.set_cons_succ]
        refine wpAnyH_take (i := 8) (oi := { dst := some 40, op := Go.Op.pick (Go.Operand.tmp 36) (Go.Operand.const (Go.Value.bool true)) (Go.Operand.tmp 39), type := 4, pos := "chunk.go:115", after := #[{ on := 4, ground := Go.Ground.data }, { on := 7, ground := Go.Ground.data }], guard := none }) (v := ?_) rfl (by kernel_rfl) (by kernel_rfl) (by kernel_rfl) (fun _ _ _ h => h) (Or.inl ⟨by rfl, ?_⟩) hS ?_
        rotate_left
        · (intro wz hSz; obtain ⟨hcc, hrr⟩ := HSX.out wz hSz; have e0 := L.blk_cell hcc 0; have e1 := L.blk_cell hcc 1; have e2 := L.blk_cell hcc 2; have e3 := L.blk_cell hcc 3; have e4 := L.blk_cell hcc 4; have e5 := L.blk_cell hcc 5; have e6 := L.blk_cell hcc 6; have a0 := L.blk_cell hrr.at_ 0; have a1 := L.blk_cell hrr.at_ 1; have a2 := L.blk_cell hrr.at_ 2; have n0 := L.blk_cell hrr.n 0; have n1 := L.blk_cell hrr.n 1; have n2 := L.blk_cell hrr.n 2; simp only [List.getElem?_toArray, List.getElem?_cons_zero, List.getElem?_cons_succ] at e0 e1 e2 e3 e4 e5 e6 a0 a1 a2 n0 n1 n2; go_simp; try with_reducible rfl)
        try simp only [Act.put, List.setIfInBounds_toArray, List.set_cons_zero, List.set_cons_succ]
        refine wpAnyH_take (i := 9) (oi := { dst := some 41, op := Go.Op.move (Go.Operand.tmp 40), type := 4, pos := "chunk.go:115", after := #[{ on := 8, ground := Go.Ground.data }, { on := 4, ground := Go.Ground.chain }], guard := none }) (v := ?_) rfl (by kernel_rfl) (by kernel_rfl) (by kernel_rfl) (fun _ _ _ h => h) (Or.inl ⟨by rfl, ?_⟩) hS ?_
        rotate_left
        · (intro wz hSz; obtain ⟨hcc, hrr⟩ := HSX.out wz hSz; have e0 := L.blk_cell hcc 0; have e1 := L.blk_cell hcc 1; have e2 := L.blk_cell hcc 2; have e3 := L.blk_cell hcc 3; have e4 := L.blk_cell hcc 4; have e5 := L.blk_cell hcc 5; have e6 := L.blk_cell hcc 6; have a0 := L.blk_cell hrr.at_ 0; have a1 := L.blk_cell hrr.at_ 1; have a2 := L.blk_cell hrr.at_ 2; have n0 := L.blk_cell hrr.n 0; have n1 := L.blk_cell hrr.n 1; have n2 := L.blk_cell hrr.n 2; simp only [List.getElem?_toArray, List.getElem?_cons_zero, List.getElem?_cons_succ] at e0 e1 e2 e3 e4 e5 e6 a0 a1 a2 n0 n1 n2; go_simp; try with_reducible rfl)
        try simp only [Act.put, List.setIfInBounds_toArray, List.set_cons_zero, List.set_cons_succ]
        refine wpAnyH_take (i := 10) (oi := { dst := some 42, op := Go.Op.fieldAddr 41 (Go.Operand.tmp 12) 0, type := 0, pos := "chunk.go:115", after := #[{ on := 9, ground := Go.Ground.guard }], guard := some (9, false) }) (v := undef) rfl (by kernel_rfl) (by kernel_rfl) (by kernel_rfl) (fun _ _ _ h => h) (Or.inr ⟨by rfl, rfl⟩) hS ?_
        try simp only [Act.put, List.setIfInBounds_toArray, List.set_cons_zero, List.set_cons_succ]
        refine wpAnyH_take (i := 11) (oi := { dst := some 43, op := Go.Op.load 4 (Go.Operand.tmp 42), type := 4, pos := "chunk.go:115", after := #[{ on := 10, ground := Go.Ground.data }, { on := 9, ground := Go.Ground.guard }], guard := some (9, false) }) (v := undef) rfl (by kernel_rfl) (by kernel_rfl) (by kernel_rfl) (fun _ _ _ h => h) (Or.inr ⟨by rfl, rfl⟩) hS ?_
        try simp only [Act.put, List.setIfInBounds_toArray, List.set_cons_zero, List.set_cons_succ]
        refine wpAnyH_take (i := 12) (oi := { dst := some 44, op := Go.Op.move (Go.Operand.tmp 43), type := 4, pos := "chunk.go:115", after := #[{ on := 11, ground := Go.Ground.data }, { on := 9, ground := Go.Ground.chain }, { on := 9, ground := Go.Ground.guard }], guard := some (9, false) }) (v := undef) rfl (by kernel_rfl) (by kernel_rfl) (by kernel_rfl) (fun _ _ _ h => h) (Or.inr ⟨by rfl, rfl⟩) hS ?_
        try simp only [Act.put, List.setIfInBounds_toArray, List.set_cons_zero, List.set_cons_succ]
        refine wpAnyH_take (i := 13) (oi := { dst := some 45, op := Go.Op.load 72 (Go.Operand.tmp 13), type := 72, pos := "chunk.go:115", after := #[{ on := 12, ground := Go.Ground.guard }], guard := some (12, true) }) (v := undef) rfl (by kernel_rfl) (by kernel_rfl) (by kernel_rfl) (fun _ _ _ h => h) (Or.inr ⟨by rfl, rfl⟩) hS ?_
        try simp only [Act.put, List.setIfInBounds_toArray, List.set_cons_zero, List.set_cons_succ]
        refine wpAnyH_take (i := 14) (oi := { dst := some 46, op := Go.Op.fieldAddr 41 (Go.Operand.tmp 12) 2, type := 0, pos := "chunk.go:115", after := #[{ on := 12, ground := Go.Ground.guard }], guard := some (12, true) }) (v := undef) rfl (by kernel_rfl) (by kernel_rfl) (by kernel_rfl) (fun _ _ _ h => h) (Or.inr ⟨by rfl, rfl⟩) hS ?_
        try simp only [Act.put, List.setIfInBounds_toArray, List.set_cons_zero, List.set_cons_succ]
        refine wpAnyH_take (i := 15) (oi := { dst := some 47, op := Go.Op.load 3 (Go.Operand.tmp 46), type := 3, pos := "chunk.go:115", after := #[{ on := 14, ground := Go.Ground.data }, { on := 12, ground := Go.Ground.guard }], guard := some (12, true) }) (v := undef) rfl (by kernel_rfl) (by kernel_rfl) (by kernel_rfl) (fun _ _ _ h => h) (Or.inr ⟨by rfl, rfl⟩) hS ?_
        try simp only [Act.put, List.setIfInBounds_toArray, List.set_cons_zero, List.set_cons_succ]
        refine wpAnyH_take (i := 16) (oi := { dst := some 48, op := Go.Op.fieldAddr 41 (Go.Operand.tmp 12) 2, type := 0, pos := "chunk.go:115", after := #[{ on := 12, ground := Go.Ground.guard }], guard := some (12, true) }) (v := undef) rfl (by kernel_rfl) (by kernel_rfl) (by kernel_rfl) (fun _ _ _ h => h) (Or.inr ⟨by rfl, rfl⟩) hS ?_
        try simp only [Act.put, List.setIfInBounds_toArray, List.set_cons_zero, List.set_cons_succ]
        refine wpAnyH_take (i := 17) (oi := { dst := some 49, op := Go.Op.load 3 (Go.Operand.tmp 48), type := 3, pos := "chunk.go:115", after := #[{ on := 16, ground := Go.Ground.data }, { on := 12, ground := Go.Ground.guard }], guard := some (12, true) }) (v := undef) rfl (by kernel_rfl) (by kernel_rfl) (by kernel_rfl) (fun _ _ _ h => h) (Or.inr ⟨by rfl, rfl⟩) hS ?_
        try simp only [Act.put, List.setIfInBounds_toArray, List.set_cons_zero, List.set_cons_succ]
        refine wpAnyH_take (i := 18) (oi := { dst := some 50, op := Go.Op.fieldAddr 41 (Go.Operand.tmp 12) 2, type := 0, pos := "chunk.go:115", after := #[{ on := 12, ground := Go.Ground.guard }], guard := some (12, true) }) (v := undef) rfl (by kernel_rfl) (by kernel_rfl) (by kernel_rfl) (fun _ _ _ h => h) (Or.inr ⟨by rfl, rfl⟩) hS ?_
        try simp only [Act.put, List.setIfInBounds_toArray, List.set_cons_zero, List.set_cons_succ]
        refine wpAnyH_take (i := 19) (oi := { dst := some 51, op := Go.Op.load 3 (Go.Operand.tmp 50), type := 3, pos := "chunk.go:115", after := #[{ on := 18, ground := Go.Ground.data }, { on := 12, ground := Go.Ground.guard }], guard := some (12, true) }) (v := undef) rfl (by kernel_rfl) (by kernel_rfl) (by kernel_rfl) (fun _ _ _ h => h) (Or.inr ⟨by rfl, rfl⟩) hS ?_
        try simp only [Act.put, List.setIfInBounds_toArray, List.set_cons_zero, List.set_cons_succ]
        refine wpAnyH_take (i := 20) (oi := { dst := some 52, op := Go.Op.build 72 #[(0, Go.Operand.tmp 47), (1, Go.Operand.tmp 49), (2, Go.Operand.tmp 51)], type := 72, pos := "chunk.go:115", after := #[{ on := 15, ground := Go.Ground.data }, { on := 17, ground := Go.Ground.data }, { on := 19, ground := Go.Ground.data }, { on := 12, ground := Go.Ground.guard }], guard := some (12, true) }) (v := undef) rfl (by kernel_rfl) (by kernel_rfl) (by kernel_rfl) (fun _ _ _ h => h) (Or.inr ⟨by rfl, rfl⟩) hS ?_
        try simp only [Act.put, List.setIfInBounds_toArray, List.set_cons_zero, List.set_cons_succ]
        refine wpAnyH_take (i := 21) (oi := { dst := some 53, op := Go.Op.binOp Go.BinOp.neq 72 (Go.Operand.tmp 45) (Go.Operand.tmp 52) 72, type := 4, pos := "chunk.go:115", after := #[{ on := 13, ground := Go.Ground.data }, { on := 20, ground := Go.Ground.data }, { on := 12, ground := Go.Ground.guard }], guard := some (12, true) }) (v := undef) rfl (by kernel_rfl) (by kernel_rfl) (by kernel_rfl) (fun _ _ _ h => h) (Or.inr ⟨by rfl, rfl⟩) hS ?_
        try simp only [Act.put, List.setIfInBounds_toArray, List.set_cons_zero, List.set_cons_succ]
        refine wpAnyH_take (i := 22) (oi := { dst := some 54, op := Go.Op.pick (Go.Operand.tmp 44) (Go.Operand.tmp 53) (Go.Operand.const (Go.Value.bool false)), type := 4, pos := "chunk.go:115", after := #[{ on := 12, ground := Go.Ground.data }, { on := 21, ground := Go.Ground.data }, { on := 9, ground := Go.Ground.guard }], guard := some (9, false) }) (v := undef) rfl (by kernel_rfl) (by kernel_rfl) (by kernel_rfl) (fun _ _ _ h => h) (Or.inr ⟨by rfl, rfl⟩) hS ?_
        try simp only [Act.put, List.setIfInBounds_toArray, List.set_cons_zero, List.set_cons_succ]
        refine wpAnyH_take (i := 23) (oi := { dst := some 55, op := Go.Op.pick (Go.Operand.tmp 41) (Go.Operand.const (Go.Value.bool true)) (Go.Operand.tmp 54), type := 4, pos := "chunk.go:115", after := #[{ on := 9, ground := Go.Ground.data }, { on := 22, ground := Go.Ground.data }], guard := none }) (v := ?_) rfl (by kernel_rfl) (by kernel_rfl) (by kernel_rfl) (fun _ _ _ h => h) (Or.inl ⟨by rfl, ?_⟩) hS ?_
        rotate_left
        · (intro wz hSz; obtain ⟨hcc, hrr⟩ := HSX.out wz hSz; have e0 := L.blk_cell hcc 0; have e1 := L.blk_cell hcc 1; have e2 := L.blk_cell hcc 2; have e3 := L.blk_cell hcc 3; have e4 := L.blk_cell hcc 4; have e5 := L.blk_cell hcc 5; have e6 := L.blk_cell hcc 6; have a0 := L.blk_cell hrr.at_ 0; have a1 := L.blk_cell hrr.at_ 1; have a2 := L.blk_cell hrr.at_ 2; have n0 := L.blk_cell hrr.n 0; have n1 := L.blk_cell hrr.n 1; have n2 := L.blk_cell hrr.n 2; simp only [List.getElem?_toArray, List.getElem?_cons_zero, List.getElem?_cons_succ] at e0 e1 e2 e3 e4 e5 e6 a0 a1 a2 n0 n1 n2; go_simp; try with_reducible rfl)
        try simp only [Act.put, List.setIfInBounds_toArray, List.set_cons_zero, List.set_cons_succ]
        refine wpAnyH_done (by kernel_rfl) ?_ _
        have HW := Lib.hid (HSX.out _ hS).2
        have hzn := hS.size
        clear hS
        have HV := Lib.hid (HBAD.out (fun h => h.2.2.1 (by simp only [Prod.mk.injEq] at pz; exact pz)))
        clear HBAD HGOOD
        go_wp2_with fail
        go_ret
        exact ⟨by rw [HV.out]; rfl, by rw [← HSE.out]; exact HW.out.be⟩
      rw [decide_eq_false pz] at hq2
      cases cst with
      | true =>
        have hq3 := fun w => tr_eqIn w con cax cbn con con con
        by_cases ps : ((con, cax, cbn) : Tr) = (con, con, con)
        rotate_left
        · rw [decide_eq_false ps] at hq3
          refine wp_region_held_drew (S := fun wz => Below W2.heap.size W2 wz) (by kernel_rfl) (drawn_below W2 1) (fun hS => ?_)
          generalize W2.drew = wc at *
          refine wpAnyH_take (i := 0) (oi := { dst := some 32, op := Go.Op.load 41 (Go.Operand.tmp 12), type := 41, pos := "chunk.go:115", after := #[], guard := none }) (v := ?_) rfl (by kernel_rfl) (by kernel_rfl) (by kernel_rfl) (fun _ _ _ h => h) (Or.inl ⟨by rfl, ?_⟩) hS ?_
          rotate_left
          · (intro wz hSz; obtain ⟨hcc, hrr⟩ := HSX.out wz hSz; have e0 := L.blk_cell hcc 0; have e1 := L.blk_cell hcc 1; have e2 := L.blk_cell hcc 2; have e3 := L.blk_cell hcc 3; have e4 := L.blk_cell hcc 4; have e5 := L.blk_cell hcc 5; have e6 := L.blk_cell hcc 6; have a0 := L.blk_cell hrr.at_ 0; have a1 := L.blk_cell hrr.at_ 1; have a2 := L.blk_cell hrr.at_ 2; have n0 := L.blk_cell hrr.n 0; have n1 := L.blk_cell hrr.n 1; have n2 := L.blk_cell hrr.n 2; simp only [List.getElem?_toArray, List.getElem?_cons_zero, List.getElem?_cons_succ] at e0 e1 e2 e3 e4 e5 e6 a0 a1 a2 n0 n1 n2; go_simp; try with_reducible rfl)
          try simp only [Act.put, List.setIfInBounds_toArray, List.set_cons_zero, List.set_cons_succ]
          refine wpAnyH_take (i := 2) (oi := { dst := some 34, op := Go.Op.load 72 (Go.Operand.tmp 9), type := 72, pos := "chunk.go:115", after := #[], guard := none }) (v := ?_) rfl (by kernel_rfl) (by kernel_rfl) (by kernel_rfl) (fun _ _ _ h => h) (Or.inl ⟨by rfl, ?_⟩) hS ?_
          rotate_left
          · (intro wz hSz; obtain ⟨hcc, hrr⟩ := HSX.out wz hSz; have e0 := L.blk_cell hcc 0; have e1 := L.blk_cell hcc 1; have e2 := L.blk_cell hcc 2; have e3 := L.blk_cell hcc 3; have e4 := L.blk_cell hcc 4; have e5 := L.blk_cell hcc 5; have e6 := L.blk_cell hcc 6; have a0 := L.blk_cell hrr.at_ 0; have a1 := L.blk_cell hrr.at_ 1; have a2 := L.blk_cell hrr.at_ 2; have n0 := L.blk_cell hrr.n 0; have n1 := L.blk_cell hrr.n 1; have n2 := L.blk_cell hrr.n 2; simp only [List.getElem?_toArray, List.getElem?_cons_zero, List.getElem?_cons_succ] at e0 e1 e2 e3 e4 e5 e6 a0 a1 a2 n0 n1 n2; go_simp; try with_reducible rfl)
          try simp only [Act.put, List.setIfInBounds_toArray, List.set_cons_zero, List.set_cons_succ]
          refine wpAnyH_ready (rs := [1]) (by kernel_rfl) (by simp) ?_
          refine AllReadyH.cons (o := { dst := some 33, op := Go.Op.call { callee := Go.Callee.value (Go.Operand.func 55), args := #[Go.Operand.tmp 32], argTypes := #[41] }, type := 72, pos := "chunk.go:115", after := #[{ on := 0, ground := Go.Ground.data }], guard := none }) rfl (fun K hK => ?_) AllReadyH.nil
          go_simp
          with_reducible refine (HBG.out _).mono ?_
          rintro r wn ⟨rfl, hbq⟩
          go_wp2_with fail
          refine hK.out _ _ (hS.trans (hbq.mono hS.size)) (fun hS1 => ?_)
          clear hK K hbq hS
          have hS := hS1
          clear hS1
          try simp only [Act.put, List.setIfInBounds_toArray, List.set_cons_zero, List.set_cons_succ]
          refine wpAnyH_take (i := 3) (oi := { dst := some 35, op := Go.Op.binOp Go.BinOp.neq 72 (Go.Operand.tmp 33) (Go.Operand.tmp 34) 72, type := 4, pos := "chunk.go:115", after := #[{ on := 1, ground := Go.Ground.data }, { on := 2, ground := Go.Ground.data }], guard := none }) (v := ?_) rfl (by kernel_rfl) (by kernel_rfl) (by kernel_rfl) (fun _ _ _ h => h) (Or.inl ⟨by rfl, ?_⟩) hS ?_
          rotate_left
          · (intro wz hSz; obtain ⟨hcc, hrr⟩ := HSX.out wz hSz; have e0 := L.blk_cell hcc 0; have e1 := L.blk_cell hcc 1; have e2 := L.blk_cell hcc 2; have e3 := L.blk_cell hcc 3; have e4 := L.blk_cell hcc 4; have e5 := L.blk_cell hcc 5; have e6 := L.blk_cell hcc 6; have a0 := L.blk_cell hrr.at_ 0; have a1 := L.blk_cell hrr.at_ 1; have a2 := L.blk_cell hrr.at_ 2; have n0 := L.blk_cell hrr.n 0; have n1 := L.blk_cell hrr.n 1; have n2 := L.blk_cell hrr.n 2; simp only [List.getElem?_toArray, List.getElem?_cons_zero, List.getElem?_cons_succ] at e0 e1 e2 e3 e4 e5 e6 a0 a1 a2 n0 n1 n2; go_simp; try with_reducible rfl)
          try simp only [Act.put, List.setIfInBounds_toArray, List.set_cons_zero, List.set_cons_succ]
          refine wpAnyH_take (i := 4) (oi := { dst := some 36, op := Go.Op.move (Go.Operand.tmp 35), type := 4, pos := "chunk.go:115", after := #[{ on := 3, ground := Go.Ground.data }, { on := 1, ground := Go.Ground.chain }], guard := none }) (v := ?_) rfl (by kernel_rfl) (by kernel_rfl) (by kernel_rfl) (fun _ _ _ h => h) (Or.inl ⟨by rfl, ?_⟩) hS ?_
          rotate_left
          · (intro wz hSz; obtain ⟨hcc, hrr⟩ := HSX.out wz hSz; have e0 := L.blk_cell hcc 0; have e1 := L.blk_cell hcc 1; have e2 := L.blk_cell hcc 2; have e3 := L.blk_cell hcc 3; have e4 := L.blk_cell hcc 4; have e5 := L.blk_cell hcc 5; have e6 := L.blk_cell hcc 6; have a0 := L.blk_cell hrr.at_ 0; have a1 := L.blk_cell hrr.at_ 1; have a2 := L.blk_cell hrr.at_ 2; have n0 := L.blk_cell hrr.n 0; have n1 := L.blk_cell hrr.n 1; have n2 := L.blk_cell hrr.n 2; simp only [List.getElem?_toArray, List.getElem?_cons_zero, List.getElem?_cons_succ] at e0 e1 e2 e3 e4 e5 e6 a0 a1 a2 n0 n1 n2; go_simp; try with_reducible rfl)
          try simp only [Act.put, List.setIfInBounds_toArray, List.set_cons_zero, List.set_cons_succ]
          refine wpAnyH_take (i := 5) (oi := { dst := some 37, op := Go.Op.load 72 (Go.Operand.tmp 13), type := 72, pos := "chunk.go:115", after := #[{ on := 4, ground := Go.Ground.guard }], guard := some (4, false) }) (v := ?_) rfl (by kernel_rfl) (by kernel_rfl) (by kernel_rfl) (fun _ _ _ h => h) (Or.inl ⟨by rfl, ?_⟩) hS ?_
          rotate_left
          · (intro wz hSz; obtain ⟨hcc, hrr⟩ := HSX.out wz hSz; have e0 := L.blk_cell hcc 0; have e1 := L.blk_cell hcc 1; have e2 := L.blk_cell hcc 2; have e3 := L.blk_cell hcc 3; have e4 := L.blk_cell hcc 4; have e5 := L.blk_cell hcc 5; have e6 := L.blk_cell hcc 6; have a0 := L.blk_cell hrr.at_ 0; have a1 := L.blk_cell hrr.at_ 1; have a2 := L.blk_cell hrr.at_ 2; have n0 := L.blk_cell hrr.n 0; have n1 := L.blk_cell hrr.n 1; have n2 := L.blk_cell hrr.n 2; simp only [List.getElem?_toArray, List.getElem?_cons_zero, List.getElem?_cons_succ] at e0 e1 e2 e3 e4 e5 e6 a0 a1 a2 n0 n1 n2; go_simp; try with_reducible rfl)
          try simp only [Act.put, List.setIfInBounds_toArray, List.set_cons_zero, List.set_cons_succ]
          refine wpAnyH_take (i := 6) (oi := { dst := some 38, op := Go.Op.build 72 #[], type := 72, pos := "chunk.go:115", after := #[{ on := 4, ground := Go.Ground.guard }], guard := some (4, false) }) (v := ?_) rfl (by kernel_rfl) (by kernel_rfl) (by kernel_rfl) (fun _ _ _ h => h) (Or.inl ⟨by rfl, ?_⟩) hS ?_
          rotate_left
          · (intro wz hSz; obtain ⟨hcc, hrr⟩ := HSX.out wz hSz; have e0 := L.blk_cell hcc 0; have e1 := L.blk_cell hcc 1; have e2 := L.blk_cell hcc 2; have e3 := L.blk_cell hcc 3; have e4 := L.blk_cell hcc 4; have e5 := L.blk_cell hcc 5; have e6 := L.blk_cell hcc 6; have a0 := L.blk_cell hrr.at_ 0; have a1 := L.blk_cell hrr.at_ 1; have a2 := L.blk_cell hrr.at_ 2; have n0 := L.blk_cell hrr.n 0; have n1 := L.blk_cell hrr.n 1; have n2 := L.blk_cell hrr.n 2; simp only [List.getElem?_toArray, List.getElem?_cons_zero, List.getElem?_cons_succ] at e0 e1 e2 e3 e4 e5 e6 a0 a1 a2 n0 n1 n2; go_simp; try with_reducible rfl)
          try simp only [Act.put, List.setIfInBounds_toArray, List.set_cons_zero, List.set_cons_succ]
          refine wpAnyH_take (i := 7) (oi := { dst := some 39, op := Go.Op.binOp Go.BinOp.eql 72 (Go.Operand.tmp 37) (Go.Operand.tmp 38) 72, type := 4, pos := "chunk.go:115", after := #[{ on := 5, ground := Go.Ground.data }, { on := 6, ground := Go.Ground.data }, { on := 4, ground := Go.Ground.guard }], guard := some (4, false) }) (v := ?_) rfl (by kernel_rfl) (by kernel_rfl) (by kernel_rfl) (fun _ _ _ h => h) (Or.inl ⟨by rfl, ?_⟩) hS ?_
          rotate_left
          · (intro wz hSz; obtain ⟨hcc, hrr⟩ := HSX.out wz hSz; have e0 := L.blk_cell hcc 0; have e1 := L.blk_cell hcc 1; have e2 := L.blk_cell hcc 2; have e3 := L.blk_cell hcc 3; have e4 := L.blk_cell hcc 4; have e5 := L.blk_cell hcc 5; have e6 := L.blk_cell hcc 6; have a0 := L.blk_cell hrr.at_ 0; have a1 := L.blk_cell hrr.at_ 1; have a2 := L.blk_cell hrr.at_ 2; have n0 := L.blk_cell hrr.n 0; have n1 := L.blk_cell hrr.n 1; have n2 := L.blk_cell hrr.n 2; simp only [List.getElem?_toArray, List.getElem?_cons_zero, List.getElem?_cons_succ] at e0 e1 e2 e3 e4 e5 e6 a0 a1 a2 n0 n1 n2; go_simp; try with_reducible rfl)
          try simp only [Act.put, List.setIfInBounds_toArray, List.set_cons_zero, List.set_cons_succ]
          refine wpAnyH_take (i := 8) (oi := { dst := some 40, op := Go.Op.pick (Go.Operand.tmp 36) (Go.Operand.const (Go.Value.bool true)) (Go.Operand.tmp 39), type := 4, pos := "chunk.go:115", after := #[{ on := 4, ground := Go.Ground.data }, { on := 7, ground := Go.Ground.data }], guard := none }) (v := ?_) rfl (by kernel_rfl) (by kernel_rfl) (by kernel_rfl) (fun _ _ _ h => h) (Or.inl ⟨by rfl, ?_⟩) hS ?_
          rotate_left
          · (intro wz hSz; obtain ⟨hcc, hrr⟩ := HSX.out wz hSz; have e0 := L.blk_cell hcc 0; have e1 := L.blk_cell hcc 1; have e2 := L.blk_cell hcc 2; have e3 := L.blk_cell hcc 3; have e4 := L.blk_cell hcc 4; have e5 := L.blk_cell hcc 5; have e6 := L.blk_cell hcc 6; have a0 := L.blk_cell hrr.at_ 0; have a1 := L.blk_cell hrr.at_ 1; have a2 := L.blk_cell hrr.at_ 2; have n0 := L.blk_cell hrr.n 0; have n1 := L.blk_cell hrr.n 1; have n2 := L.blk_cell hrr.n 2; simp only [List.getElem?_toArray, List.getElem?_cons_zero, List.getElem?_cons_succ] at e0 e1 e2 e3 e4 e5 e6 a0 a1 a2 n0 n1 n2; go_simp; try with_reducible rfl)
          try simp only [Act.put, List.setIfInBounds_toArray, List.set_cons_zero, List.set_cons_succ]
          refine wpAnyH_take (i := 9) (oi := { dst := some 41, op := Go.Op.move (Go.Operand.tmp 40), type := 4, pos := "chunk.go:115", after := #[{ on := 8, ground := Go.Ground.data }, { on := 4, ground := Go.Ground.chain }], guard := none }) (v := ?_) rfl (by kernel_rfl) (by kernel_rfl) (by kernel_rfl) (fun _ _ _ h => h) (Or.inl ⟨by rfl, ?_⟩) hS ?_
          rotate_left
          · (intro wz hSz; obtain ⟨hcc, hrr⟩ := HSX.out wz hSz; have e0 := L.blk_cell hcc 0; have e1 := L.blk_cell hcc 1; have e2 := L.blk_cell hcc 2; have e3 := L.blk_cell hcc 3; have e4 := L.blk_cell hcc 4; have e5 := L.blk_cell hcc 5; have e6 := L.blk_cell hcc 6; have a0 := L.blk_cell hrr.at_ 0; have a1 := L.blk_cell hrr.at_ 1; have a2 := L.blk_cell hrr.at_ 2; have n0 := L.blk_cell hrr.n 0; have n1 := L.blk_cell hrr.n 1; have n2 := L.blk_cell hrr.n 2; simp only [List.getElem?_toArray, List.getElem?_cons_zero, List.getElem?_cons_succ] at e0 e1 e2 e3 e4 e5 e6 a0 a1 a2 n0 n1 n2; go_simp; try with_reducible rfl)
          try simp only [Act.put, List.setIfInBounds_toArray, List.set_cons_zero, List.set_cons_succ]
          refine wpAnyH_take (i := 10) (oi := { dst := some 42, op := Go.Op.fieldAddr 41 (Go.Operand.tmp 12) 0, type := 0, pos := "chunk.go:115", after := #[{ on := 9, ground := Go.Ground.guard }], guard := some (9, false) }) (v := ?_) rfl (by kernel_rfl) (by kernel_rfl) (by kernel_rfl) (fun _ _ _ h => h) (Or.inl ⟨by rfl, ?_⟩) hS ?_
          rotate_left
          · (intro wz hSz; obtain ⟨hcc, hrr⟩ := HSX.out wz hSz; have e0 := L.blk_cell hcc 0; have e1 := L.blk_cell hcc 1; have e2 := L.blk_cell hcc 2; have e3 := L.blk_cell hcc 3; have e4 := L.blk_cell hcc 4; have e5 := L.blk_cell hcc 5; have e6 := L.blk_cell hcc 6; have a0 := L.blk_cell hrr.at_ 0; have a1 := L.blk_cell hrr.at_ 1; have a2 := L.blk_cell hrr.at_ 2; have n0 := L.blk_cell hrr.n 0; have n1 := L.blk_cell hrr.n 1; have n2 := L.blk_cell hrr.n 2; simp only [List.getElem?_toArray, List.getElem?_cons_zero, List.getElem?_cons_succ] at e0 e1 e2 e3 e4 e5 e6 a0 a1 a2 n0 n1 n2; go_simp; try with_reducible rfl)
          try simp only [Act.put, List.setIfInBounds_toArray, List.set_cons_zero, List.set_cons_succ]
          refine wpAnyH_take (i := 11) (oi := { dst := some 43, op := Go.Op.load 4 (Go.Operand.tmp 42), type := 4, pos := "chunk.go:115", after := #[{ on := 10, ground := Go.Ground.data }, { on := 9, ground := Go.Ground.guard }], guard := some (9, false) }) (v := ?_) rfl (by kernel_rfl) (by kernel_rfl) (by kernel_rfl) (fun _ _ _ h => h) (Or.inl ⟨by rfl, ?_⟩) hS ?_
          rotate_left
          · (intro wz hSz; obtain ⟨hcc, hrr⟩ := HSX.out wz hSz; have e0 := L.blk_cell hcc 0; have e1 := L.blk_cell hcc 1; have e2 := L.blk_cell hcc 2; have e3 := L.blk_cell hcc 3; have e4 := L.blk_cell hcc 4; have e5 := L.blk_cell hcc 5; have e6 := L.blk_cell hcc 6; have a0 := L.blk_cell hrr.at_ 0; have a1 := L.blk_cell hrr.at_ 1; have a2 := L.blk_cell hrr.at_ 2; have n0 := L.blk_cell hrr.n 0; have n1 := L.blk_cell hrr.n 1; have n2 := L.blk_cell hrr.n 2; simp only [List.getElem?_toArray, List.getElem?_cons_zero, List.getElem?_cons_succ] at e0 e1 e2 e3 e4 e5 e6 a0 a1 a2 n0 n1 n2; go_simp; try with_reducible rfl)
          try simp only [Act.put, List.setIfInBounds_toArray, List.set_cons_zero, List.set_cons_succ]
          refine wpAnyH_take (i := 12) (oi := { dst := some 44, op := Go.Op.move (Go.Operand.tmp 43), type := 4, pos := "chunk.go:115", after := #[{ on := 11, ground := Go.Ground.data }, { on := 9, ground := Go.Ground.chain }, { on := 9, ground := Go.Ground.guard }], guard := some (9, false) }) (v := ?_) rfl (by kernel_rfl) (by kernel_rfl) (by kernel_rfl) (fun _ _ _ h => h) (Or.inl ⟨by rfl, ?_⟩) hS ?_
          rotate_left
          · (intro wz hSz; obtain ⟨hcc, hrr⟩ := HSX.out wz hSz; have e0 := L.blk_cell hcc 0; have e1 := L.blk_cell hcc 1; have e2 := L.blk_cell hcc 2; have e3 := L.blk_cell hcc 3; have e4 := L.blk_cell hcc 4; have e5 := L.blk_cell hcc 5; have e6 := L.blk_cell hcc 6; have a0 := L.blk_cell hrr.at_ 0; have a1 := L.blk_cell hrr.at_ 1; have a2 := L.blk_cell hrr.at_ 2; have n0 := L.blk_cell hrr.n 0; have n1 := L.blk_cell hrr.n 1; have n2 := L.blk_cell hrr.n 2; simp only [List.getElem?_toArray, List.getElem?_cons_zero, List.getElem?_cons_succ] at e0 e1 e2 e3 e4 e5 e6 a0 a1 a2 n0 n1 n2; go_simp; try with_reducible rfl)
          try simp only [Act.put, List.setIfInBounds_toArray, List.set_cons_zero, List.set_cons_succ]
          refine wpAnyH_take (i := 13) (oi := { dst := some 45, op := Go.Op.load 72 (Go.Operand.tmp 13), type := 72, pos := "chunk.go:115", after := #[{ on := 12, ground := Go.Ground.guard }], guard := some (12, true) }) (v := ?_) rfl (by kernel_rfl) (by kernel_rfl) (by kernel_rfl) (fun _ _ _ h => h) (Or.inl ⟨by rfl, ?_⟩) hS ?_
          rotate_left
          · (intro wz hSz; obtain ⟨hcc, hrr⟩ := HSX.out wz hSz; have e0 := L.blk_cell hcc 0; have e1 := L.blk_cell hcc 1; have e2 := L.blk_cell hcc 2; have e3 := L.blk_cell hcc 3; have e4 := L.blk_cell hcc 4; have e5 := L.blk_cell hcc 5; have e6 := L.blk_cell hcc 6; have a0 := L.blk_cell hrr.at_ 0; have a1 := L.blk_cell hrr.at_ 1; have a2 := L.blk_cell hrr.at_ 2; have n0 := L.blk_cell hrr.n 0; have n1 := L.blk_cell hrr.n 1; have n2 := L.blk_cell hrr.n 2; simp only [List.getElem?_toArray, List.getElem?_cons_zero, List.getElem?_cons_succ] at e0 e1 e2 e3 e4 e5 e6 a0 a1 a2 n0 n1 n2; go_simp; try with_reducible rfl)
          try simp only [Act.put, List.setIfInBounds_toArray, List.set_cons_zero, List.set_cons_succ]
          refine wpAnyH_take (i := 14) (oi := { dst := some 46, op := Go.Op.fieldAddr 41 (Go.Operand.tmp 12) 2, type := 0, pos := "chunk.go:115", after := #[{ on := 12, ground := Go.Ground.guard }], guard := some (12, true) }) (v := ?_) rfl (by kernel_rfl) (by kernel_rfl) (by kernel_rfl) (fun _ _ _ h => h) (Or.inl ⟨by rfl, ?_⟩) hS ?_
          rotate_left
          · (intro wz hSz; obtain ⟨hcc, hrr⟩ := HSX.out wz hSz; have e0 := L.blk_cell hcc 0; have e1 := L.blk_cell hcc 1; have e2 := L.blk_cell hcc 2; have e3 := L.blk_cell hcc 3; have e4 := L.blk_cell hcc 4; have e5 := L.blk_cell hcc 5; have e6 := L.blk_cell hcc 6; have a0 := L.blk_cell hrr.at_ 0; have a1 := L.blk_cell hrr.at_ 1; have a2 := L.blk_cell hrr.at_ 2; have n0 := L.blk_cell hrr.n 0; have n1 := L.blk_cell hrr.n 1; have n2 := L.blk_cell hrr.n 2; simp only [List.getElem?_toArray, List.getElem?_cons_zero, List.getElem?_cons_succ] at e0 e1 e2 e3 e4 e5 e6 a0 a1 a2 n0 n1 n2; go_simp; try with_reducible rfl)
          try simp only [Act.put, List.setIfInBounds_toArray, List.set_cons_zero, List.set_cons_succ]
          refine wpAnyH_take (i := 15) (oi := { dst := some 47, op := Go.Op.load 3 (Go.Operand.tmp 46), type := 3, pos := "chunk.go:115", after := #[{ on := 14, ground := Go.Ground.data }, { on := 12, ground := Go.Ground.guard }], guard := some (12, true) }) (v := ?_) rfl (by kernel_rfl) (by kernel_rfl) (by kernel_rfl) (fun _ _ _ h => h) (Or.inl ⟨by rfl, ?_⟩) hS ?_
          rotate_left
          · (intro wz hSz; obtain ⟨hcc, hrr⟩ := HSX.out wz hSz; have e0 := L.blk_cell hcc 0; have e1 := L.blk_cell hcc 1; have e2 := L.blk_cell hcc 2; have e3 := L.blk_cell hcc 3; have e4 := L.blk_cell hcc 4; have e5 := L.blk_cell hcc 5; have e6 := L.blk_cell hcc 6; have a0 := L.blk_cell hrr.at_ 0; have a1 := L.blk_cell hrr.at_ 1; have a2 := L.blk_cell hrr.at_ 2; have n0 := L.blk_cell hrr.n 0; have n1 := L.blk_cell hrr.n 1; have n2 := L.blk_cell hrr.n 2; simp only [List.getElem?_toArray, List.getElem?_cons_zero, List.getElem?_cons_succ] at e0 e1 e2 e3 e4 e5 e6 a0 a1 a2 n0 n1 n2; go_simp; try with_reducible rfl)
          try simp only [Act.put, List.setIfInBounds_toArray, List.set_cons_zero, List.set_cons_succ]
          refine wpAnyH_take (i := 16) (oi := { dst := some 48, op := Go.Op.fieldAddr 41 (Go.Operand.tmp 12) 2, type := 0, pos := "chunk.go:115", after := #[{ on := 12, ground := Go.Ground.guard }], guard := some (12, true) }) (v := ?_) rfl (by kernel_rfl) (by kernel_rfl) (by kernel_rfl) (fun _ _ _ h => h) (Or.inl ⟨by rfl, ?_⟩) hS ?_
          rotate_left
          · (intro wz hSz; obtain ⟨hcc, hrr⟩ := HSX.out wz hSz; have e0 := L.blk_cell hcc 0; have e1 := L.blk_cell hcc 1; have e2 := L.blk_cell hcc 2; have e3 := L.blk_cell hcc 3; have e4 := L.blk_cell hcc 4; have e5 := L.blk_cell hcc 5; have e6 := L.blk_cell hcc 6; have a0 := L.blk_cell hrr.at_ 0; have a1 := L.blk_cell hrr.at_ 1; have a2 := L.blk_cell hrr.at_ 2; have n0 := L.blk_cell hrr.n 0; have n1 := L.blk_cell hrr.n 1; have n2 := L.blk_cell hrr.n 2; simp only [List.getElem?_toArray, List.getElem?_cons_zero, List.getElem?_cons_succ] at e0 e1 e2 e3 e4 e5 e6 a0 a1 a2 n0 n1 n2; go_simp; try with_reducible rfl)
          try simp only [Act.put, List.setIfInBounds_toArray, List.set_cons_zero, List.set_cons_succ]
          refine wpAnyH_take (i := 17) (oi := { dst := some 49, op := Go.Op.load 3 (Go.Operand.tmp 48), type := 3, pos := "chunk.go:115", after := #[{ on := 16, ground := Go.Ground.data }, { on := 12, ground := Go.Ground.guard }], guard := some (12, true) }) (v := ?_) rfl (by kernel_rfl) (by kernel_rfl) (by kernel_rfl) (fun _ _ _ h => h) (Or.inl ⟨by rfl, ?_⟩) hS ?_
          rotate_left
          · (intro wz hSz; obtain ⟨hcc, hrr⟩ := HSX.out wz hSz; have e0 := L.blk_cell hcc 0; have e1 := L.blk_cell hcc 1; have e2 := L.blk_cell hcc 2; have e3 := L.blk_cell hcc 3; have e4 := L.blk_cell hcc 4; have e5 := L.blk_cell hcc 5; have e6 := L.blk_cell hcc 6; have a0 := L.blk_cell hrr.at_ 0; have a1 := L.blk_cell hrr.at_ 1; have a2 := L.blk_cell hrr.at_ 2; have n0 := L.blk_cell hrr.n 0; have n1 := L.blk_cell hrr.n 1; have n2 := L.blk_cell hrr.n 2; simp only [List.getElem?_toArray, List.getElem?_cons_zero, List.getElem?_cons_succ] at e0 e1 e2 e3 e4 e5 e6 a0 a1 a2 n0 n1 n2; go_simp; try with_reducible rfl)
          try simp only [Act.put, List.setIfInBounds_toArray, List.set_cons_zero, List.set_cons_succ]
          refine wpAnyH_take (i := 18) (oi := { dst := some 50, op := Go.Op.fieldAddr 41 (Go.Operand.tmp 12) 2, type := 0, pos := "chunk.go:115", after := #[{ on := 12, ground := Go.Ground.guard }], guard := some (12, true) }) (v := ?_) rfl (by kernel_rfl) (by kernel_rfl) (by kernel_rfl) (fun _ _ _ h => h) (Or.inl ⟨by rfl, ?_⟩) hS ?_
          rotate_left
          · (intro wz hSz; obtain ⟨hcc, hrr⟩ := HSX.out wz hSz; have e0 := L.blk_cell hcc 0; have e1 := L.blk_cell hcc 1; have e2 := L.blk_cell hcc 2; have e3 := L.blk_cell hcc 3; have e4 := L.blk_cell hcc 4; have e5 := L.blk_cell hcc 5; have e6 := L.blk_cell hcc 6; have a0 := L.blk_cell hrr.at_ 0; have a1 := L.blk_cell hrr.at_ 1; have a2 := L.blk_cell hrr.at_ 2; have n0 := L.blk_cell hrr.n 0; have n1 := L.blk_cell hrr.n 1; have n2 := L.blk_cell hrr.n 2; simp only [List.getElem?_toArray, List.getElem?_cons_zero, List.getElem?_cons_succ] at e0 e1 e2 e3 e4 e5 e6 a0 a1 a2 n0 n1 n2; go_simp; try with_reducible rfl)
          try simp only [Act.put, List.setIfInBounds_toArray, List.set_cons_zero, List.set_cons_succ]
          refine wpAnyH_take (i := 19) (oi := { dst := some 51, op := Go.Op.load 3 (Go.Operand.tmp 50), type := 3, pos := "chunk.go:115", after := #[{ on := 18, ground := Go.Ground.data }, { on := 12, ground := Go.Ground.guard }], guard := some (12, true) }) (v := ?_) rfl (by kernel_rfl) (by kernel_rfl) (by kernel_rfl) (fun _ _ _ h => h) (Or.inl ⟨by rfl, ?_⟩) hS ?_
          rotate_left
          · (intro wz hSz; obtain ⟨hcc, hrr⟩ := HSX.out wz hSz; have e0 := L.blk_cell hcc 0; have e1 := L.blk_cell hcc 1; have e2 := L.blk_cell hcc 2; have e3 := L.blk_cell hcc 3; have e4 := L.blk_cell hcc 4; have e5 := L.blk_cell hcc 5; have e6 := L.blk_cell hcc 6; have a0 := L.blk_cell hrr.at_ 0; have a1 := L.blk_cell hrr.at_ 1; have a2 := L.blk_cell hrr.at_ 2; have n0 := L.blk_cell hrr.n 0; have n1 := L.blk_cell hrr.n 1; have n2 := L.blk_cell hrr.n 2; simp only [List.getElem?_toArray, List.getElem?_cons_zero, List.getElem?_cons_succ] at e0 e1 e2 e3 e4 e5 e6 a0 a1 a2 n0 n1 n2; go_simp; try with_reducible rfl)
          try simp only [Act.put, List.setIfInBounds_toArray, List.set_cons_zero, List.set_cons_succ]
          refine wpAnyH_take (i := 20) (oi := { dst := some 52, op := Go.Op.build 72 #[(0, Go.Operand.tmp 47), (1, Go.Operand.tmp 49), (2, Go.Operand.tmp 51)], type := 72, pos := "chunk.go:115", after := #[{ on := 15, ground := Go.Ground.data }, { on := 17, ground := Go.Ground.data }, { on := 19, ground := Go.Ground.data }, { on := 12, ground := Go.Ground.guard }], guard := some (12, true) }) (v := ?_) rfl (by kernel_rfl) (by kernel_rfl) (by kernel_rfl) (fun _ _ _ h => h) (Or.inl ⟨by rfl, ?_⟩) hS ?_
          rotate_left
          · (intro wz hSz; obtain ⟨hcc, hrr⟩ := HSX.out wz hSz; have e0 := L.blk_cell hcc 0; have e1 := L.blk_cell hcc 1; have e2 := L.blk_cell hcc 2; have e3 := L.blk_cell hcc 3; have e4 := L.blk_cell hcc 4; have e5 := L.blk_cell hcc 5; have e6 := L.blk_cell hcc 6; have a0 := L.blk_cell hrr.at_ 0; have a1 := L.blk_cell hrr.at_ 1; have a2 := L.blk_cell hrr.at_ 2; have n0 := L.blk_cell hrr.n 0; have n1 := L.blk_cell hrr.n 1; have n2 := L.blk_cell hrr.n 2; simp only [List.getElem?_toArray, List.getElem?_cons_zero, List.getElem?_cons_succ] at e0 e1 e2 e3 e4 e5 e6 a0 a1 a2 n0 n1 n2; go_simp; try with_reducible rfl)
          try simp only [Act.put, List.setIfInBounds_toArray, List.set_cons_zero, List.set_cons_succ]
          refine wpAnyH_take (i := 21) (oi := { dst := some 53, op := Go.Op.binOp Go.BinOp.neq 72 (Go.Operand.tmp 45) (Go.Operand.tmp 52) 72, type := 4, pos := "chunk.go:115", after := #[{ on := 13, ground := Go.Ground.data }, { on := 20, ground := Go.Ground.data }, { on := 12, ground := Go.Ground.guard }], guard := some (12, true) }) (v := ?_) rfl (by kernel_rfl) (by kernel_rfl) (by kernel_rfl) (fun _ _ _ h => h) (Or.inl ⟨by rfl, ?_⟩) hS ?_
          rotate_left
          · (intro wz hSz; obtain ⟨hcc, hrr⟩ := HSX.out wz hSz; have e0 := L.blk_cell hcc 0; have e1 := L.blk_cell hcc 1; have e2 := L.blk_cell hcc 2; have e3 := L.blk_cell hcc 3; have e4 := L.blk_cell hcc 4; have e5 := L.blk_cell hcc 5; have e6 := L.blk_cell hcc 6; have a0 := L.blk_cell hrr.at_ 0; have a1 := L.blk_cell hrr.at_ 1; have a2 := L.blk_cell hrr.at_ 2; have n0 := L.blk_cell hrr.n 0; have n1 := L.blk_cell hrr.n 1; have n2 := L.blk_cell hrr.n 2; simp only [List.getElem?_toArray, List.getElem?_cons_zero, List.getElem?_cons_succ] at e0 e1 e2 e3 e4 e5 e6 a0 a1 a2 n0 n1 n2; go_simp; try with_reducible rfl)
          try simp only [Act.put, List.setIfInBounds_toArray, List.set_cons_zero, List.set_cons_succ]
          refine wpAnyH_take (i := 22) (oi := { dst := some 54, op := Go.Op.pick (Go.Operand.tmp 44) (Go.Operand.tmp 53) (Go.Operand.const (Go.Value.bool false)), type := 4, pos := "chunk.go:115", after := #[{ on := 12, ground := Go.Ground.data }, { on := 21, ground := Go.Ground.data }, { on := 9, ground := Go.Ground.guard }], guard := some (9, false) }) (v := ?_) rfl (by kernel_rfl) (by kernel_rfl) (by kernel_rfl) (fun _ _ _ h => h) (Or.inl ⟨by rfl, ?_⟩) hS ?_
          rotate_left
          · (intro wz hSz; obtain ⟨hcc, hrr⟩ := HSX.out wz hSz; have e0 := L.blk_cell hcc 0; have e1 := L.blk_cell hcc 1; have e2 := L.blk_cell hcc 2; have e3 := L.blk_cell hcc 3; have e4 := L.blk_cell hcc 4; have e5 := L.blk_cell hcc 5; have e6 := L.blk_cell hcc 6; have a0 := L.blk_cell hrr.at_ 0; have a1 := L.blk_cell hrr.at_ 1; have a2 := L.blk_cell hrr.at_ 2; have n0 := L.blk_cell hrr.n 0; have n1 := L.blk_cell hrr.n 1; have n2 := L.blk_cell hrr.n 2; simp only [List.getElem?_toArray, List.getElem?_cons_zero, List.getElem?_cons_succ] at e0 e1 e2 e3 e4 e5 e6 a0 a1 a2 n0 n1 n2; go_simp; try with_reducible rfl)
          try simp only [Act.put, List.setIfInBounds_toArray, List.set_cons_zero, List.set_cons_succ]
          refine wpAnyH_take (i := 23) (oi := { dst := some 55, op := Go.Op.pick (Go.Operand.tmp 41) (Go.Operand.const (Go.Value.bool true)) (Go.Operand.tmp 54), type := 4, pos := "chunk.go:115", after := #[{ on := 9, ground := Go.Ground.data }, { on := 22, ground := Go.Ground.data }], guard := none }) (v := ?_) rfl (by kernel_rfl) (by kernel_rfl) (by kernel_rfl) (fun _ _ _ h => h) (Or.inl ⟨by rfl, ?_⟩) hS ?_
          rotate_left
          · (intro wz hSz; obtain ⟨hcc, hrr⟩ := HSX.out wz hSz; have e0 := L.blk_cell hcc 0; have e1 := L.blk_cell hcc 1; have e2 := L.blk_cell hcc 2; have e3 := L.blk_cell hcc 3; have e4 := L.blk_cell hcc 4; have e5 := L.blk_cell hcc 5; have e6 := L.blk_cell hcc 6; have a0 := L.blk_cell hrr.at_ 0; have a1 := L.blk_cell hrr.at_ 1; have a2 := L.blk_cell hrr.at_ 2; have n0 := L.blk_cell hrr.n 0; have n1 := L.blk_cell hrr.n 1; have n2 := L.blk_cell hrr.n 2; simp only [List.getElem?_toArray, List.getElem?_cons_zero, List.getElem?_cons_succ] at e0 e1 e2 e3 e4 e5 e6 a0 a1 a2 n0 n1 n2; go_simp; try with_reducible rfl)
          try simp only [Act.put, List.setIfInBounds_toArray, List.set_cons_zero, List.set_cons_succ]
          refine wpAnyH_done (by kernel_rfl) ?_ _
          have HW := Lib.hid (HSX.out _ hS).2
          have hzn := hS.size
          clear hS
          have HV := Lib.hid (HBAD.out (fun h => ps (by obtain ⟨h1, h2⟩ := h.2.2.2.1 (by first | rfl | trivial); rw [← h2, ← h1])))
          clear HBAD HGOOD
          go_wp2_with fail
          go_ret
          exact ⟨by rw [HV.out]; rfl, by rw [← HSE.out]; exact HW.out.be⟩
        rw [decide_eq_true ps] at hq3
        refine wp_region_held_drew (S := fun wz => Below W2.heap.size W2 wz) (by kernel_rfl) (drawn_below W2 1) (fun hS => ?_)
        generalize W2.drew = wc at *
        refine wpAnyH_take (i := 0) (oi := { dst := some 32, op := Go.Op.load 41 (Go.Operand.tmp 12), type := 41, pos := "chunk.go:115", after := #[], guard := none }) (v := ?_) rfl (by kernel_rfl) (by kernel_rfl) (by kernel_rfl) (fun _ _ _ h => h) (Or.inl ⟨by rfl, ?_⟩) hS ?_
        rotate_left
        · (intro wz hSz; obtain ⟨hcc, hrr⟩ := HSX.out wz hSz; have e0 := L.blk_cell hcc 0; have e1 := L.blk_cell hcc 1; have e2 := L.blk_cell hcc 2; have e3 := L.blk_cell hcc 3; have e4 := L.blk_cell hcc 4; have e5 := L.blk_cell hcc 5; have e6 := L.blk_cell hcc 6; have a0 := L.blk_cell hrr.at_ 0; have a1 := L.blk_cell hrr.at_ 1; have a2 := L.blk_cell hrr.at_ 2; have n0 := L.blk_cell hrr.n 0; have n1 := L.blk_cell hrr.n 1; have n2 := L.blk_cell hrr.n 2; simp only [List.getElem?_toArray, List.getElem?_cons_zero, List.getElem?_cons_succ] at e0 e1 e2 e3 e4 e5 e6 a0 a1 a2 n0 n1 n2; go_simp; try with_reducible rfl)
        try simp only [Act.put, List.setIfInBounds_toArray, List.set_cons_zero, List.set_cons_succ]
        refine wpAnyH_take (i := 2) (oi := { dst := some 34, op := Go.Op.load 72 (Go.Operand.tmp 9), type := 72, pos := "chunk.go:115", after := #[], guard := none }) (v := ?_) rfl (by kernel_rfl) (by kernel_rfl) (by kernel_rfl) (fun _ _ _ h => h) (Or.inl ⟨by rfl, ?_⟩) hS ?_
        rotate_left
        · (intro wz hSz; obtain ⟨hcc, hrr⟩ := HSX.out wz hSz; have e0 := L.blk_cell hcc 0; have e1 := L.blk_cell hcc 1; have e2 := L.blk_cell hcc 2; have e3 := L.blk_cell hcc 3; have e4 := L.blk_cell hcc 4; have e5 := L.blk_cell hcc 5; have e6 := L.blk_cell hcc 6; have a0 := L.blk_cell hrr.at_ 0; have a1 := L.blk_cell hrr.at_ 1; have a2 := L.blk_cell hrr.at_ 2; have n0 := L.blk_cell hrr.n 0; have n1 := L.blk_cell hrr.n 1; have n2 := L.blk_cell hrr.n 2; simp only [List.getElem?_toArray, List.getElem?_cons_zero, List.getElem?_cons_succ] at e0 e1 e2 e3 e4 e5 e6 a0 a1 a2 n0 n1 n2; go_simp; try with_reducible rfl)
        try simp only [Act.put, List.setIfInBounds_toArray, List.set_cons_zero, List.set_cons_succ]
        refine wpAnyH_ready (rs := [1]) (by kernel_rfl) (by simp) ?_
        refine AllReadyH.cons (o := { dst := some 33, op := Go.Op.call { callee := Go.Callee.value (Go.Operand.func 55), args := #[Go.Operand.tmp 32], argTypes := #[41] }, type := 72, pos := "chunk.go:115", after := #[{ on := 0, ground := Go.Ground.data }], guard := none }) rfl (fun K hK => ?_) AllReadyH.nil
        go_simp
        with_reducible refine (HBG.out _).mono ?_
        rintro r wn ⟨rfl, hbq⟩
        go_wp2_with fail
        refine hK.out _ _ (hS.trans (hbq.mono hS.size)) (fun hS1 => ?_)
        clear hK K hbq hS
        have hS := hS1
        clear hS1
        try simp only [Act.put, List.setIfInBounds_toArray, List.set_cons_zero, List.set_cons_succ]
        refine wpAnyH_take (i := 3) (oi := { dst := some 35, op := Go.Op.binOp Go.BinOp.neq 72 (Go.Operand.tmp 33) (Go.Operand.tmp 34) 72, type := 4, pos := "chunk.go:115", after := #[{ on := 1, ground := Go.Ground.data }, { on := 2, ground := Go.Ground.data }], guard := none }) (v := ?_) rfl (by kernel_rfl) (by kernel_rfl) (by kernel_rfl) (fun _ _ _ h => h) (Or.inl ⟨by rfl, ?_⟩) hS ?_
        rotate_left
        · (intro wz hSz; obtain ⟨hcc, hrr⟩ := HSX.out wz hSz; have e0 := L.blk_cell hcc 0; have e1 := L.blk_cell hcc 1; have e2 := L.blk_cell hcc 2; have e3 := L.blk_cell hcc 3; have e4 := L.blk_cell hcc 4; have e5 := L.blk_cell hcc 5; have e6 := L.blk_cell hcc 6; have a0 := L.blk_cell hrr.at_ 0; have a1 := L.blk_cell hrr.at_ 1; have a2 := L.blk_cell hrr.at_ 2; have n0 := L.blk_cell hrr.n 0; have n1 := L.blk_cell hrr.n 1; have n2 := L.blk_cell hrr.n 2; simp only [List.getElem?_toArray, List.getElem?_cons_zero, List.getElem?_cons_succ] at e0 e1 e2 e3 e4 e5 e6 a0 a1 a2 n0 n1 n2; go_simp; try with_reducible rfl)
        try simp only [Act.put, List.setIfInBounds_toArray, List.set_cons_zero, List.set_cons_succ]
        refine wpAnyH_take (i := 4) (oi := { dst := some 36, op := Go.Op.move (Go.Operand.tmp 35), type := 4, pos := "chunk.go:115", after := #[{ on := 3, ground := Go.Ground.data }, { on := 1, ground := Go.Ground.chain }], guard := none }) (v := ?_) rfl (by kernel_rfl) (by kernel_rfl) (by kernel_rfl) (fun _ _ _ h => h) (Or.inl ⟨by rfl, ?_⟩) hS ?_
        rotate_left
        · (intro wz hSz; obtain ⟨hcc, hrr⟩ := HSX.out wz hSz; have e0 := L.blk_cell hcc 0; have e1 := L.blk_cell hcc 1; have e2 := L.blk_cell hcc 2; have e3 := L.blk_cell hcc 3; have e4 := L.blk_cell hcc 4; have e5 := L.blk_cell hcc 5; have e6 := L.blk_cell hcc 6; have a0 := L.blk_cell hrr.at_ 0; have a1 := L.blk_cell hrr.at_ 1; have a2 := L.blk_cell hrr.at_ 2; have n0 := L.blk_cell hrr.n 0; have n1 := L.blk_cell hrr.n 1; have n2 := L.blk_cell hrr.n 2; simp only [List.getElem?_toArray, List.getElem?_cons_zero, List.getElem?_cons_succ] at e0 e1 e2 e3 e4 e5 e6 a0 a1 a2 n0 n1 n2; go_simp; try with_reducible rfl)
        try simp only [Act.put, List.setIfInBounds_toArray, List.set_cons_zero, List.set_cons_succ]
        refine wpAnyH_take (i := 5) (oi := { dst := some 37, op := Go.Op.load 72 (Go.Operand.tmp 13), type := 72, pos := "chunk.go:115", after := #[{ on := 4, ground := Go.Ground.guard }], guard := some (4, false) }) (v := ?_) rfl (by kernel_rfl) (by kernel_rfl) (by kernel_rfl) (fun _ _ _ h => h) (Or.inl ⟨by rfl, ?_⟩) hS ?_
        rotate_left
        · (intro wz hSz; obtain ⟨hcc, hrr⟩ := HSX.out wz hSz; have e0 := L.blk_cell hcc 0; have e1 := L.blk_cell hcc 1; have e2 := L.blk_cell hcc 2; have e3 := L.blk_cell hcc 3; have e4 := L.blk_cell hcc 4; have e5 := L.blk_cell hcc 5; have e6 := L.blk_cell hcc 6; have a0 := L.blk_cell hrr.at_ 0; have a1 := L.blk_cell hrr.at_ 1; have a2 := L.blk_cell hrr.at_ 2; have n0 := L.blk_cell hrr.n 0; have n1 := L.blk_cell hrr.n 1; have n2 := L.blk_cell hrr.n 2; simp only [List.getElem?_toArray, List.getElem?_cons_zero, List.getElem?_cons_succ] at e0 e1 e2 e3 e4 e5 e6 a0 a1 a2 n0 n1 n2; go_simp; try with_reducible rfl)
        try simp only [Act.put, List.setIfInBounds_toArray, List.set_cons_zero, List.set_cons_succ]
        refine wpAnyH_take (i := 6) (oi := { dst := some 38, op := Go.Op.build 72 #[], type := 72, pos := "chunk.go:115", after := #[{ on := 4, ground := Go.Ground.guard }], guard := some (4, false) }) (v := ?_) rfl (by kernel_rfl) (by kernel_rfl) (by kernel_rfl) (fun _ _ _ h => h) (Or.inl ⟨by rfl, ?_⟩) hS ?_
        rotate_left
        · (intro wz hSz; obtain ⟨hcc, hrr⟩ := HSX.out wz hSz; have e0 := L.blk_cell hcc 0; have e1 := L.blk_cell hcc 1; have e2 := L.blk_cell hcc 2; have e3 := L.blk_cell hcc 3; have e4 := L.blk_cell hcc 4; have e5 := L.blk_cell hcc 5; have e6 := L.blk_cell hcc 6; have a0 := L.blk_cell hrr.at_ 0; have a1 := L.blk_cell hrr.at_ 1; have a2 := L.blk_cell hrr.at_ 2; have n0 := L.blk_cell hrr.n 0; have n1 := L.blk_cell hrr.n 1; have n2 := L.blk_cell hrr.n 2; simp only [List.getElem?_toArray, List.getElem?_cons_zero, List.getElem?_cons_succ] at e0 e1 e2 e3 e4 e5 e6 a0 a1 a2 n0 n1 n2; go_simp; try with_reducible rfl)
        try simp only [Act.put, List.setIfInBounds_toArray, List.set_cons_zero, List.set_cons_succ]
        refine wpAnyH_take (i := 7) (oi := { dst := some 39, op := Go.Op.binOp Go.BinOp.eql 72 (Go.Operand.tmp 37) (Go.Operand.tmp 38) 72, type := 4, pos := "chunk.go:115", after := #[{ on := 5, ground := Go.Ground.data }, { on := 6, ground := Go.Ground.data }, { on := 4, ground := Go.Ground.guard }], guard := some (4, false) }) (v := ?_) rfl (by kernel_rfl) (by kernel_rfl) (by kernel_rfl) (fun _ _ _ h => h) (Or.inl ⟨by rfl, ?_⟩) hS ?_
        rotate_left
        · (intro wz hSz; obtain ⟨hcc, hrr⟩ := HSX.out wz hSz; have e0 := L.blk_cell hcc 0; have e1 := L.blk_cell hcc 1; have e2 := L.blk_cell hcc 2; have e3 := L.blk_cell hcc 3; have e4 := L.blk_cell hcc 4; have e5 := L.blk_cell hcc 5; have e6 := L.blk_cell hcc 6; have a0 := L.blk_cell hrr.at_ 0; have a1 := L.blk_cell hrr.at_ 1; have a2 := L.blk_cell hrr.at_ 2; have n0 := L.blk_cell hrr.n 0; have n1 := L.blk_cell hrr.n 1; have n2 := L.blk_cell hrr.n 2; simp only [List.getElem?_toArray, List.getElem?_cons_zero, List.getElem?_cons_succ] at e0 e1 e2 e3 e4 e5 e6 a0 a1 a2 n0 n1 n2; go_simp; try with_reducible rfl)
        try simp only [Act.put, List.setIfInBounds_toArray, List.set_cons_zero, List.set_cons_succ]
        refine wpAnyH_take (i := 8) (oi := { dst := some 40, op := Go.Op.pick (Go.Operand.tmp 36) (Go.Operand.const (Go.Value.bool true)) (Go.Operand.tmp 39), type := 4, pos := "chunk.go:115", after := #[{ on := 4, ground := Go.Ground.data }, { on := 7, ground := Go.Ground.data }], guard := none }) (v := ?_) rfl (by kernel_rfl) (by kernel_rfl) (by kernel_rfl) (fun _ _ _ h => h) (Or.inl ⟨by rfl, ?_⟩) hS ?_
        rotate_left
        · (intro wz hSz; obtain ⟨hcc, hrr⟩ := HSX.out wz hSz; have e0 := L.blk_cell hcc 0; have e1 := L.blk_cell hcc 1; have e2 := L.blk_cell hcc 2; have e3 := L.blk_cell hcc 3; have e4 := L.blk_cell hcc 4; have e5 := L.blk_cell hcc 5; have e6 := L.blk_cell hcc 6; have a0 := L.blk_cell hrr.at_ 0; have a1 := L.blk_cell hrr.at_ 1; have a2 := L.blk_cell hrr.at_ 2; have n0 := L.blk_cell hrr.n 0; have n1 := L.blk_cell hrr.n 1; have n2 := L.blk_cell hrr.n 2; simp only [List.getElem?_toArray, List.getElem?_cons_zero, List.getElem?_cons_succ] at e0 e1 e2 e3 e4 e5 e6 a0 a1 a2 n0 n1 n2; go_simp; try with_reducible rfl)
        try simp only [Act.put, List.setIfInBounds_toArray, List.set_cons_zero, List.set_cons_succ]
        refine wpAnyH_take (i := 9) (oi := { dst := some 41, op := Go.Op.move (Go.Operand.tmp 40), type := 4, pos := "chunk.go:115", after := #[{ on := 8, ground := Go.Ground.data }, { on := 4, ground := Go.Ground.chain }], guard := none }) (v := ?_) rfl (by kernel_rfl) (by kernel_rfl) (by kernel_rfl) (fun _ _ _ h => h) (Or.inl ⟨by rfl, ?_⟩) hS ?_
        rotate_left
        · (intro wz hSz; obtain ⟨hcc, hrr⟩ := HSX.out wz hSz; have e0 := L.blk_cell hcc 0; have e1 := L.blk_cell hcc 1; have e2 := L.blk_cell hcc 2; have e3 := L.blk_cell hcc 3; have e4 := L.blk_cell hcc 4; have e5 := L.blk_cell hcc 5; have e6 := L.blk_cell hcc 6; have a0 := L.blk_cell hrr.at_ 0; have a1 := L.blk_cell hrr.at_ 1; have a2 := L.blk_cell hrr.at_ 2; have n0 := L.blk_cell hrr.n 0; have n1 := L.blk_cell hrr.n 1; have n2 := L.blk_cell hrr.n 2; simp only [List.getElem?_toArray, List.getElem?_cons_zero, List.getElem?_cons_succ] at e0 e1 e2 e3 e4 e5 e6 a0 a1 a2 n0 n1 n2; go_simp; try with_reducible rfl)
        try simp only [Act.put, List.setIfInBounds_toArray, List.set_cons_zero, List.set_cons_succ]
        refine wpAnyH_take (i := 10) (oi := { dst := some 42, op := Go.Op.fieldAddr 41 (Go.Operand.tmp 12) 0, type := 0, pos := "chunk.go:115", after := #[{ on := 9, ground := Go.Ground.guard }], guard := some (9, false) }) (v := ?_) rfl (by kernel_rfl) (by kernel_rfl) (by kernel_rfl) (fun _ _ _ h => h) (Or.inl ⟨by rfl, ?_⟩) hS ?_
        rotate_left
        · (intro wz hSz; obtain ⟨hcc, hrr⟩ := HSX.out wz hSz; have e0 := L.blk_cell hcc 0; have e1 := L.blk_cell hcc 1; have e2 := L.blk_cell hcc 2; have e3 := L.blk_cell hcc 3; have e4 := L.blk_cell hcc 4; have e5 := L.blk_cell hcc 5; have e6 := L.blk_cell hcc 6; have a0 := L.blk_cell hrr.at_ 0; have a1 := L.blk_cell hrr.at_ 1; have a2 := L.blk_cell hrr.at_ 2; have n0 := L.blk_cell hrr.n 0; have n1 := L.blk_cell hrr.n 1; have n2 := L.blk_cell hrr.n 2; simp only [List.getElem?_toArray, List.getElem?_cons_zero, List.getElem?_cons_succ] at e0 e1 e2 e3 e4 e5 e6 a0 a1 a2 n0 n1 n2; go_simp; try with_reducible rfl)
        try simp only [Act.put, List.setIfInBounds_toArray, List.set_cons_zero, List.set_cons_succ]
        refine wpAnyH_take (i := 11) (oi := { dst := some 43, op := Go.Op.load 4 (Go.Operand.tmp 42), type := 4, pos := "chunk.go:115", after := #[{ on := 10, ground := Go.Ground.data }, { on := 9, ground := Go.Ground.guard }], guard := some (9, false) }) (v := ?_) rfl (by kernel_rfl) (by kernel_rfl) (by kernel_rfl) (fun _ _ _ h => h) (Or.inl ⟨by rfl, ?_⟩) hS ?_
        rotate_left
        · (intro wz hSz; obtain ⟨hcc, hrr⟩ := HSX.out wz hSz; have e0 := L.blk_cell hcc 0; have e1 := L.blk_cell hcc 1; have e2 := L.blk_cell hcc 2; have e3 := L.blk_cell hcc 3; have e4 := L.blk_cell hcc 4; have e5 := L.blk_cell hcc 5; have e6 := L.blk_cell hcc 6; have a0 := L.blk_cell hrr.at_ 0; have a1 := L.blk_cell hrr.at_ 1; have a2 := L.blk_cell hrr.at_ 2; have n0 := L.blk_cell hrr.n 0; have n1 := L.blk_cell hrr.n 1; have n2 := L.blk_cell hrr.n 2; simp only [List.getElem?_toArray, List.getElem?_cons_zero, List.getElem?_cons_succ] at e0 e1 e2 e3 e4 e5 e6 a0 a1 a2 n0 n1 n2; go_simp; try with_reducible rfl)
        try simp only [Act.put, List.setIfInBounds_toArray, List.set_cons_zero, List.set_cons_succ]
        refine wpAnyH_take (i := 12) (oi := { dst := some 44, op := Go.Op.move (Go.Operand.tmp 43), type := 4, pos := "chunk.go:115", after := #[{ on := 11, ground := Go.Ground.data }, { on := 9, ground := Go.Ground.chain }, { on := 9, ground := Go.Ground.guard }], guard := some (9, false) }) (v := ?_) rfl (by kernel_rfl) (by kernel_rfl) (by kernel_rfl) (fun _ _ _ h => h) (Or.inl ⟨by rfl, ?_⟩) hS ?_
        rotate_left
        · (intro wz hSz; obtain ⟨hcc, hrr⟩ := HSX.out wz hSz; have e0 := L.blk_cell hcc 0; have e1 := L.blk_cell hcc 1; have e2 := L.blk_cell hcc 2; have e3 := L.blk_cell hcc 3; have e4 := L.blk_cell hcc 4; have e5 := L.blk_cell hcc 5; have e6 := L.blk_cell hcc 6; have a0 := L.blk_cell hrr.at_ 0; have a1 := L.blk_cell hrr.at_ 1; have a2 := L.blk_cell hrr.at_ 2; have n0 := L.blk_cell hrr.n 0; have n1 := L.blk_cell hrr.n 1; have n2 := L.blk_cell hrr.n 2; simp only [List.getElem?_toArray, List.getElem?_cons_zero, List.getElem?_cons_succ] at e0 e1 e2 e3 e4 e5 e6 a0 a1 a2 n0 n1 n2; go_simp; try with_reducible rfl)
        try simp only [Act.put, List.setIfInBounds_toArray, List.set_cons_zero, List.set_cons_succ]
        refine wpAnyH_take (i := 13) (oi := { dst := some 45, op := Go.Op.load 72 (Go.Operand.tmp 13), type := 72, pos := "chunk.go:115", after := #[{ on := 12, ground := Go.Ground.guard }], guard := some (12, true) }) (v := ?_) rfl (by kernel_rfl) (by kernel_rfl) (by kernel_rfl) (fun _ _ _ h => h) (Or.inl ⟨by rfl, ?_⟩) hS ?_
        rotate_left
        · (intro wz hSz; obtain ⟨hcc, hrr⟩ := HSX.out wz hSz; have e0 := L.blk_cell hcc 0; have e1 := L.blk_cell hcc 1; have e2 := L.blk_cell hcc 2; have e3 := L.blk_cell hcc 3; have e4 := L.blk_cell hcc 4; have e5 := L.blk_cell hcc 5; have e6 := L.blk_cell hcc 6; have a0 := L.blk_cell hrr.at_ 0; have a1 := L.blk_cell hrr.at_ 1; have a2 := L.blk_cell hrr.at_ 2; have n0 := L.blk_cell hrr.n 0; have n1 := L.blk_cell hrr.n 1; have n2 := L.blk_cell hrr.n 2; simp only [List.getElem?_toArray, List.getElem?_cons_zero, List.getElem?_cons_succ] at e0 e1 e2 e3 e4 e5 e6 a0 a1 a2 n0 n1 n2; go_simp; try with_reducible rfl)
        try simp only [Act.put, List.setIfInBounds_toArray, List.set_cons_zero, List.set_cons_succ]
        refine wpAnyH_take (i := 14) (oi := { dst := some 46, op := Go.Op.fieldAddr 41 (Go.Operand.tmp 12) 2, type := 0, pos := "chunk.go:115", after := #[{ on := 12, ground := Go.Ground.guard }], guard := some (12, true) }) (v := ?_) rfl (by kernel_rfl) (by kernel_rfl) (by kernel_rfl) (fun _ _ _ h => h) (Or.inl ⟨by rfl, ?_⟩) hS ?_
        rotate_left
        · (intro wz hSz; obtain ⟨hcc, hrr⟩ := HSX.out wz hSz; have e0 := L.blk_cell hcc 0; have e1 := L.blk_cell hcc 1; have e2 := L.blk_cell hcc 2; have e3 := L.blk_cell hcc 3; have e4 := L.blk_cell hcc 4; have e5 := L.blk_cell hcc 5; have e6 := L.blk_cell hcc 6; have a0 := L.blk_cell hrr.at_ 0; have a1 := L.blk_cell hrr.at_ 1; have a2 := L.blk_cell hrr.at_ 2; have n0 := L.blk_cell hrr.n 0; have n1 := L.blk_cell hrr.n 1; have n2 := L.blk_cell hrr.n 2; simp only [List.getElem?_toArray, List.getElem?_cons_zero, List.getElem?_cons_succ] at e0 e1 e2 e3 e4 e5 e6 a0 a1 a2 n0 n1 n2; go_simp; try with_reducible rfl)
        try simp only [Act.put, List.setIfInBounds_toArray, List.set_cons_zero, List.set_cons_succ]
        refine wpAnyH_take (i := 15) (oi := { dst := some 47, op := Go.Op.load 3 (Go.Operand.tmp 46), type := 3, pos := "chunk.go:115", after := #[{ on := 14, ground := Go.Ground.data }, { on := 12, ground := Go.Ground.guard }], guard := some (12, true) }) (v := ?_) rfl (by kernel_rfl) (by kernel_rfl) (by kernel_rfl) (fun _ _ _ h => h) (Or.inl ⟨by rfl, ?_⟩) hS ?_
        rotate_left
        · (intro wz hSz; obtain ⟨hcc, hrr⟩ := HSX.out wz hSz; have e0 := L.blk_cell hcc 0; have e1 := L.blk_cell hcc 1; have e2 := L.blk_cell hcc 2; have e3 := L.blk_cell hcc 3; have e4 := L.blk_cell hcc 4; have e5 := L.blk_cell hcc 5; have e6 := L.blk_cell hcc 6; have a0 := L.blk_cell hrr.at_ 0; have a1 := L.blk_cell hrr.at_ 1; have a2 := L.blk_cell hrr.at_ 2; have n0 := L.blk_cell hrr.n 0; have n1 := L.blk_cell hrr.n 1; have n2 := L.blk_cell hrr.n 2; simp only [List.getElem?_toArray, List.getElem?_cons_zero, List.getElem?_cons_succ] at e0 e1 e2 e3 e4 e5 e6 a0 a1 a2 n0 n1 n2; go_simp; try with_reducible rfl)
        try simp only [Act.put, List.setIfInBounds_toArray, List.set_cons_zero, List.set_cons_succ]
        refine wpAnyH_take (i := 16) (oi := { dst := some 48, op := Go.Op.fieldAddr 41 (Go.Operand.tmp 12) 2, type := 0, pos := "chunk.go:115", after := #[{ on := 12, ground := Go.Ground.guard }], guard := some (12, true) }) (v := ?_) rfl (by kernel_rfl) (by kernel_rfl) (by kernel_rfl) (fun _ _ _ h => h) (Or.inl ⟨by rfl, ?_⟩) hS ?_
        rotate_left
        · (intro wz hSz; obtain ⟨hcc, hrr⟩ := HSX.out wz hSz; have e0 := L.blk_cell hcc 0; have e1 := L.blk_cell hcc 1; have e2 := L.blk_cell hcc 2; have e3 := L.blk_cell hcc 3; have e4 := L.blk_cell hcc 4; have e5 := L.blk_cell hcc 5; have e6 := L.blk_cell hcc 6; have a0 := L.blk_cell hrr.at_ 0; have a1 := L.blk_cell hrr.at_ 1; have a2 := L.blk_cell hrr.at_ 2; have n0 := L.blk_cell hrr.n 0; have n1 := L.blk_cell hrr.n 1; have n2 := L.blk_cell hrr.n 2; simp only [List.getElem?_toArray, List.getElem?_cons_zero, List.getElem?_cons_succ] at e0 e1 e2 e3 e4 e5 e6 a0 a1 a2 n0 n1 n2; go_simp; try with_reducible rfl)
        try simp only [Act.put, List.setIfInBounds_toArray, List.set_cons_zero, List.set_cons_succ]
        refine wpAnyH_take (i := 17) (oi := { dst := some 49, op := Go.Op.load 3 (Go.Operand.tmp 48), type := 3, pos := "chunk.go:115", after := #[{ on := 16, ground := Go.Ground.data }, { on := 12, ground := Go.Ground.guard }], guard := some (12, true) }) (v := ?_) rfl (by kernel_rfl) (by kernel_rfl) (by kernel_rfl) (fun _ _ _ h => h) (Or.inl ⟨by rfl, ?_⟩) hS ?_
        rotate_left
        · (intro wz hSz; obtain ⟨hcc, hrr⟩ := HSX.out wz hSz; have e0 := L.blk_cell hcc 0; have e1 := L.blk_cell hcc 1; have e2 := L.blk_cell hcc 2; have e3 := L.blk_cell hcc 3; have e4 := L.blk_cell hcc 4; have e5 := L.blk_cell hcc 5; have e6 := L.blk_cell hcc 6; have a0 := L.blk_cell hrr.at_ 0; have a1 := L.blk_cell hrr.at_ 1; have a2 := L.blk_cell hrr.at_ 2; have n0 := L.blk_cell hrr.n 0; have n1 := L.blk_cell hrr.n 1; have n2 := L.blk_cell hrr.n 2; simp only [List.getElem?_toArray, List.getElem?_cons_zero, List.getElem?_cons_succ] at e0 e1 e2 e3 e4 e5 e6 a0 a1 a2 n0 n1 n2; go_simp; try with_reducible rfl)
        try simp only [Act.put, List.setIfInBounds_toArray, List.set_cons_zero, List.set_cons_succ]
        refine wpAnyH_take (i := 18) (oi := { dst := some 50, op := Go.Op.fieldAddr 41 (Go.Operand.tmp 12) 2, type := 0, pos := "chunk.go:115", after := #[{ on := 12, ground := Go.Ground.guard }], guard := some (12, true) }) (v := ?_) rfl (by kernel_rfl) (by kernel_rfl) (by kernel_rfl) (fun _ _ _ h => h) (Or.inl ⟨by rfl, ?_⟩) hS ?_
        rotate_left
        · (intro wz hSz; obtain ⟨hcc, hrr⟩ := HSX.out wz hSz; have e0 := L.blk_cell hcc 0; have e1 := L.blk_cell hcc 1; have e2 := L.blk_cell hcc 2; have e3 := L.blk_cell hcc 3; have e4 := L.blk_cell hcc 4; have e5 := L.blk_cell hcc 5; have e6 := L.blk_cell hcc 6; have a0 := L.blk_cell hrr.at_ 0; have a1 := L.blk_cell hrr.at_ 1; have a2 := L.blk_cell hrr.at_ 2; have n0 := L.blk_cell hrr.n 0; have n1 := L.blk_cell hrr.n 1; have n2 := L.blk_cell hrr.n 2; simp only [List.getElem?_toArray, List.getElem?_cons_zero, List.getElem?_cons_succ] at e0 e1 e2 e3 e4 e5 e6 a0 a1 a2 n0 n1 n2; go_simp; try with_reducible rfl)
        try simp only [Act.put, List.setIfInBounds_toArray, List.set_cons_zero, List.set_cons_succ]
        refine wpAnyH_take (i := 19) (oi := { dst := some 51, op := Go.Op.load 3 (Go.Operand.tmp 50), type := 3, pos := "chunk.go:115", after := #[{ on := 18, ground := Go.Ground.data }, { on := 12, ground := Go.Ground.guard }], guard := some (12, true) }) (v := ?_) rfl (by kernel_rfl) (by kernel_rfl) (by kernel_rfl) (fun _ _ _ h => h) (Or.inl ⟨by rfl, ?_⟩) hS ?_
        rotate_left
        · (intro wz hSz; obtain ⟨hcc, hrr⟩ := HSX.out wz hSz; have e0 := L.blk_cell hcc 0; have e1 := L.blk_cell hcc 1; have e2 := L.blk_cell hcc 2; have e3 := L.blk_cell hcc 3; have e4 := L.blk_cell hcc 4; have e5 := L.blk_cell hcc 5; have e6 := L.blk_cell hcc 6; have a0 := L.blk_cell hrr.at_ 0; have a1 := L.blk_cell hrr.at_ 1; have a2 := L.blk_cell hrr.at_ 2; have n0 := L.blk_cell hrr.n 0; have n1 := L.blk_cell hrr.n 1; have n2 := L.blk_cell hrr.n 2; simp only [List.getElem?_toArray, List.getElem?_cons_zero, List.getElem?_cons_succ] at e0 e1 e2 e3 e4 e5 e6 a0 a1 a2 n0 n1 n2; go_simp; try with_reducible rfl)
        try simp only [Act.put, List.setIfInBounds_toArray, List.set_cons_zero, List.set_cons_succ]
        refine wpAnyH_take (i := 20) (oi := { dst := some 52, op := Go.Op.build 72 #[(0, Go.Operand.tmp 47), (1, Go.Operand.tmp 49), (2, Go.Operand.tmp 51)], type := 72, pos := "chunk.go:115", after := #[{ on := 15, ground := Go.Ground.data }, { on := 17, ground := Go.Ground.data }, { on := 19, ground := Go.Ground.data }, { on := 12, ground := Go.Ground.guard }], guard := some (12, true) }) (v := ?_) rfl (by kernel_rfl) (by kernel_rfl) (by kernel_rfl) (fun _ _ _ h => h) (Or.inl ⟨by rfl, ?_⟩) hS ?_
        rotate_left
        · (intro wz hSz; obtain ⟨hcc, hrr⟩ := HSX.out wz hSz; have e0 := L.blk_cell hcc 0; have e1 := L.blk_cell hcc 1; have e2 := L.blk_cell hcc 2; have e3 := L.blk_cell hcc 3; have e4 := L.blk_cell hcc 4; have e5 := L.blk_cell hcc 5; have e6 := L.blk_cell hcc 6; have a0 := L.blk_cell hrr.at_ 0; have a1 := L.blk_cell hrr.at_ 1; have a2 := L.blk_cell hrr.at_ 2; have n0 := L.blk_cell hrr.n 0; have n1 := L.blk_cell hrr.n 1; have n2 := L.blk_cell hrr.n 2; simp only [List.getElem?_toArray, List.getElem?_cons_zero, List.getElem?_cons_succ] at e0 e1 e2 e3 e4 e5 e6 a0 a1 a2 n0 n1 n2; go_simp; try with_reducible rfl)
        try simp only [Act.put, List.setIfInBounds_toArray, List.set_cons_zero, List.set_cons_succ]
        refine wpAnyH_take (i := 21) (oi := { dst := some 53, op := Go.Op.binOp Go.BinOp.neq 72 (Go.Operand.tmp 45) (Go.Operand.tmp 52) 72, type := 4, pos := "chunk.go:115", after := #[{ on := 13, ground := Go.Ground.data }, { on := 20, ground := Go.Ground.data }, { on := 12, ground := Go.Ground.guard }], guard := some (12, true) }) (v := ?_) rfl (by kernel_rfl) (by kernel_rfl) (by kernel_rfl) (fun _ _ _ h => h) (Or.inl ⟨by rfl, ?_⟩) hS ?_
        rotate_left
        · (intro wz hSz; obtain ⟨hcc, hrr⟩ := HSX.out wz hSz; have e0 := L.blk_cell hcc 0; have e1 := L.blk_cell hcc 1; have e2 := L.blk_cell hcc 2; have e3 := L.blk_cell hcc 3; have e4 := L.blk_cell hcc 4; have e5 := L.blk_cell hcc 5; have e6 := L.blk_cell hcc 6; have a0 := L.blk_cell hrr.at_ 0; have a1 := L.blk_cell hrr.at_ 1; have a2 := L.blk_cell hrr.at_ 2; have n0 := L.blk_cell hrr.n 0; have n1 := L.blk_cell hrr.n 1; have n2 := L.blk_cell hrr.n 2; simp only [List.getElem?_toArray, List.getElem?_cons_zero, List.getElem?_cons_succ] at e0 e1 e2 e3 e4 e5 e6 a0 a1 a2 n0 n1 n2; go_simp; try with_reducible rfl)
        try simp only [Act.put, List.setIfInBounds_toArray, List.set_cons_zero, List.set_cons_succ]
        refine wpAnyH_take (i := 22) (oi := { dst := some 54, op := Go.Op.pick (Go.Operand.tmp 44) (Go.Operand.tmp 53) (Go.Operand.const (Go.Value.bool false)), type := 4, pos := "chunk.go:115", after := #[{ on := 12, ground := Go.Ground.data }, { on := 21, ground := Go.Ground.data }, { on := 9, ground := Go.Ground.guard }], guard := some (9, false) }) (v := ?_) rfl (by kernel_rfl) (by kernel_rfl) (by kernel_rfl) (fun _ _ _ h => h) (Or.inl ⟨by rfl, ?_⟩) hS ?_
        rotate_left
        · (intro wz hSz; obtain ⟨hcc, hrr⟩ := HSX.out wz hSz; have e0 := L.blk_cell hcc 0; have e1 := L.blk_cell hcc 1; have e2 := L.blk_cell hcc 2; have e3 := L.blk_cell hcc 3; have e4 := L.blk_cell hcc 4; have e5 := L.blk_cell hcc 5; have e6 := L.blk_cell hcc 6; have a0 := L.blk_cell hrr.at_ 0; have a1 := L.blk_cell hrr.at_ 1; have a2 := L.blk_cell hrr.at_ 2; have n0 := L.blk_cell hrr.n 0; have n1 := L.blk_cell hrr.n 1; have n2 := L.blk_cell hrr.n 2; simp only [List.getElem?_toArray, List.getElem?_cons_zero, List.getElem?_cons_succ] at e0 e1 e2 e3 e4 e5 e6 a0 a1 a2 n0 n1 n2; go_simp; try with_reducible rfl)
        try simp only [Act.put, List.setIfInBounds_toArray, List.set_cons_zero, List.set_cons_succ]
        refine wpAnyH_take (i := 23) (oi := { dst := some 55, op := Go.Op.pick (Go.Operand.tmp 41) (Go.Operand.const (Go.Value.bool true)) (Go.Operand.tmp 54), type := 4, pos := "chunk.go:115", after := #[{ on := 9, ground := Go.Ground.data }, { on := 22, ground := Go.Ground.data }], guard := none }) (v := ?_) rfl (by kernel_rfl) (by kernel_rfl) (by kernel_rfl) (fun _ _ _ h => h) (Or.inl ⟨by rfl, ?_⟩) hS ?_
        rotate_left
        · (intro wz hSz; obtain ⟨hcc, hrr⟩ := HSX.out wz hSz; have e0 := L.blk_cell hcc 0; have e1 := L.blk_cell hcc 1; have e2 := L.blk_cell hcc 2; have e3 := L.blk_cell hcc 3; have e4 := L.blk_cell hcc 4; have e5 := L.blk_cell hcc 5; have e6 := L.blk_cell hcc 6; have a0 := L.blk_cell hrr.at_ 0; have a1 := L.blk_cell hrr.at_ 1; have a2 := L.blk_cell hrr.at_ 2; have n0 := L.blk_cell hrr.n 0; have n1 := L.blk_cell hrr.n 1; have n2 := L.blk_cell hrr.n 2; simp only [List.getElem?_toArray, List.getElem?_cons_zero, List.getElem?_cons_succ] at e0 e1 e2 e3 e4 e5 e6 a0 a1 a2 n0 n1 n2; go_simp; try with_reducible rfl)
        try simp only [Act.put, List.setIfInBounds_toArray, List.set_cons_zero, List.set_cons_succ]
        refine wpAnyH_done (by kernel_rfl) ?_ _
        have HW := Lib.hid (HSX.out _ hS).2
        have hzn := hS.size
        clear hS
        have HGO : Hid ((0 ≤ con ∧ con ≤ o - t0) → (0 ≤ cax ∧ cax ≤ a - t1) → (0 ≤ cbn ∧ cbn ≤ b - t2) → (cright l o a b = ckr (t0 + con, t1 + cax, t2 + cbn) (o, a, b) (l.drop (k + 1)) ∧ Inv (t0 + con, t1 + cax, t2 + cbn) (o, a, b))) := Lib.hid (fun h1 h2 h3 => HGOOD.out ⟨by simp only [Prod.mk.injEq] at pe; exact pe, ⟨h1.1, h2.1, h3.1⟩, fun h => pz (by obtain ⟨u1, u2, u3⟩ := h; rw [u1, u2, u3]), fun _ => by simp only [Prod.mk.injEq] at ps; omega, h1.2, h2.2, h3.2⟩)
        clear hq1 hq2 hq3 HSX HBG
        go_wp2_with fail
        go_loopg [8, 56] 3 (fun mm x8 x56 wi => ∃ j : Nat, j ≤ 3 ∧ x8 = .bool false ∧ x56 = .int .i64 (j : Int) ∧ 3 - j ≤ mm ∧ xb + 1 + 1 ≤ wi.heap.size ∧ Hid (Rb w s (xb + 1) o a b con cax cbn (par (t0, t1, t2) ⟨true, co, con, cca, cax, ccb, cbn⟩ j).1 (par (t0, t1, t2) ⟨true, co, con, cca, cax, ccb, cbn⟩ j).2.1 (par (t0, t1, t2) ⟨true, co, con, cca, cax, ccb, cbn⟩ j).2.2 wi) ∧ Hid ((0 < j → 0 ≤ con ∧ con ≤ o - t0) ∧ (1 < j → 0 ≤ cax ∧ cax ≤ a - t1) ∧ (2 < j → 0 ≤ cbn ∧ cbn ≤ b - t2)))
        case atStart => exact ⟨0, by omega, rfl, rfl, by omega, by omega, HW, Lib.hid ⟨fun h => by omega, fun h => by omega, fun h => by omega⟩⟩
        case round =>
          obtain ⟨j, hj, rfl, rfl, hmj, hzj, HRJ, HJ⟩ := hrel
          rcases (by omega : j = 0 ∨ j = 1 ∨ j = 2 ∨ j = 3) with rfl | rfl | rfl | rfl
          · have HRX := HRJ
            simp only [par, Nat.lt_irrefl, Nat.not_lt_zero, if_false, if_true, Nat.zero_lt_succ, Nat.reduceLT] at HRX
            have a0 := L.blk_cell HRX.out.at_ 0
            have n0 := L.blk_cell HRX.out.n 0
            have e0 := L.blk_cell HRX.out.en 0
            have a1 := L.blk_cell HRX.out.at_ 1
            have n1 := L.blk_cell HRX.out.n 1
            have e1 := L.blk_cell HRX.out.en 1
            have a2 := L.blk_cell HRX.out.at_ 2
            have n2 := L.blk_cell HRX.out.n 2
            have e2 := L.blk_cell HRX.out.en 2
            have af := fun i => L.blk_free HRX.out.at_ i
            simp only [List.getElem?_toArray, List.getElem?_cons_zero, List.getElem?_cons_succ] at a0 a1 a2 n0 n1 n2 e0 e1 e2
            by_cases p0 : con < 0
            · have HV := Lib.hid (HBAD.out (fun h => by have := h.2.1; omega))
              clear HBAD HGOOD
              go_wp2_with fail
              go_quiet (fail)
              go_wp2_with fail
              go_ret
              exact ⟨by rw [HV.out]; rfl, by rw [← HSE.out]; first | exact HRX.out.be | exact HRX.out.be.trans ((drawn_below _ _).mono (by omega))⟩
            by_cases p1 : o - t0 < con
            · have HV := Lib.hid (HBAD.out (fun h => by have := h.2.2.2.2; omega))
              clear HBAD HGOOD
              go_wp2_with fail
              go_quiet (fail)
              go_wp2_with fail
              go_ret
              exact ⟨by rw [HV.out]; rfl, by rw [← HSE.out]; first | exact HRX.out.be | exact HRX.out.be.trans ((drawn_below _ _).mono (by omega))⟩
            have hv : IntKind.i64.wrap (t0 + con) = t0 + con := by have := HI135.out; rw [IntKind.wrap_i64]; omega
            have HJN := Lib.hid (show (0 < 1 → 0 ≤ con ∧ con ≤ o - t0) ∧ (1 < 1 → 0 ≤ cax ∧ cax ≤ a - t1) ∧ (2 < 1 → 0 ≤ cbn ∧ cbn ≤ b - t2) from ⟨fun _ => ⟨by omega, by omega⟩, fun h => by omega, fun h => by omega⟩)
            go_wp2_with fail
            go_quiet (fail)
            go_wp2_with fail
            go_region
            all_goals go_wp2_with fail
            go_roundg (3 - (0 + 1))
            case measure => omega
            case rel => exact ⟨1, by omega, rfl, rfl, Nat.le_refl _, by simpa using hzj, Lib.hid (by simp only [par, Nat.lt_irrefl, Nat.not_lt_zero, if_false, if_true, Nat.zero_lt_succ, Nat.reduceLT]; exact (HRX.out.below (by omega) (drawn_below _ _)).s0 (by omega) _), HJN⟩
          · have HRX := HRJ
            simp only [par, Nat.lt_irrefl, Nat.not_lt_zero, if_false, if_true, Nat.zero_lt_succ, Nat.reduceLT] at HRX
            have a0 := L.blk_cell HRX.out.at_ 0
            have n0 := L.blk_cell HRX.out.n 0
            have e0 := L.blk_cell HRX.out.en 0
            have a1 := L.blk_cell HRX.out.at_ 1
            have n1 := L.blk_cell HRX.out.n 1
            have e1 := L.blk_cell HRX.out.en 1
            have a2 := L.blk_cell HRX.out.at_ 2
            have n2 := L.blk_cell HRX.out.n 2
            have e2 := L.blk_cell HRX.out.en 2
            have af := fun i => L.blk_free HRX.out.at_ i
            simp only [List.getElem?_toArray, List.getElem?_cons_zero, List.getElem?_cons_succ] at a0 a1 a2 n0 n1 n2 e0 e1 e2
            by_cases p0 : cax < 0
            · have HV := Lib.hid (HBAD.out (fun h => by have := h.2.1; omega))
              clear HBAD HGOOD
              go_wp2_with fail
              go_quiet (fail)
              go_wp2_with fail
              go_ret
              exact ⟨by rw [HV.out]; rfl, by rw [← HSE.out]; first | exact HRX.out.be | exact HRX.out.be.trans ((drawn_below _ _).mono (by omega))⟩
            by_cases p1 : a - t1 < cax
            · have HV := Lib.hid (HBAD.out (fun h => by have := h.2.2.2.2; omega))
              clear HBAD HGOOD
              go_wp2_with fail
              go_quiet (fail)
              go_wp2_with fail
              go_ret
              exact ⟨by rw [HV.out]; rfl, by rw [← HSE.out]; first | exact HRX.out.be | exact HRX.out.be.trans ((drawn_below _ _).mono (by omega))⟩
            have hv : IntKind.i64.wrap (t1 + cax) = t1 + cax := by have := HI135.out; rw [IntKind.wrap_i64]; omega
            have HJN := Lib.hid (show (0 < 2 → 0 ≤ con ∧ con ≤ o - t0) ∧ (1 < 2 → 0 ≤ cax ∧ cax ≤ a - t1) ∧ (2 < 2 → 0 ≤ cbn ∧ cbn ≤ b - t2) from ⟨fun _ => HJ.out.1 (by omega), fun _ => ⟨by omega, by omega⟩, fun h => by omega⟩)
            go_wp2_with fail
            go_quiet (fail)
            go_wp2_with fail
            go_region
            all_goals go_wp2_with fail
            go_roundg (3 - (1 + 1))
            case measure => omega
            case rel => exact ⟨2, by omega, rfl, rfl, Nat.le_refl _, by simpa using hzj, Lib.hid (by simp only [par, Nat.lt_irrefl, Nat.not_lt_zero, if_false, if_true, Nat.zero_lt_succ, Nat.reduceLT]; exact (HRX.out.below (by omega) (drawn_below _ _)).s1 (by omega) _), HJN⟩
          · have HRX := HRJ
            simp only [par, Nat.lt_irrefl, Nat.not_lt_zero, if_false, if_true, Nat.zero_lt_succ, Nat.reduceLT] at HRX
            have a0 := L.blk_cell HRX.out.at_ 0
            have n0 := L.blk_cell HRX.out.n 0
            have e0 := L.blk_cell HRX.out.en 0
            have a1 := L.blk_cell HRX.out.at_ 1
            have n1 := L.blk_cell HRX.out.n 1
            have e1 := L.blk_cell HRX.out.en 1
            have a2 := L.blk_cell HRX.out.at_ 2
            have n2 := L.blk_cell HRX.out.n 2
            have e2 := L.blk_cell HRX.out.en 2
            have af := fun i => L.blk_free HRX.out.at_ i
            simp only [List.getElem?_toArray, List.getElem?_cons_zero, List.getElem?_cons_succ] at a0 a1 a2 n0 n1 n2 e0 e1 e2
            by_cases p0 : cbn < 0
            · have HV := Lib.hid (HBAD.out (fun h => by have := h.2.1; omega))
              clear HBAD HGOOD
              go_wp2_with fail
              go_quiet (fail)
              go_wp2_with fail
              go_ret
              exact ⟨by rw [HV.out]; rfl, by rw [← HSE.out]; first | exact HRX.out.be | exact HRX.out.be.trans ((drawn_below _ _).mono (by omega))⟩
            by_cases p1 : b - t2 < cbn
            · have HV := Lib.hid (HBAD.out (fun h => by have := h.2.2.2.2; omega))
              clear HBAD HGOOD
              go_wp2_with fail
              go_quiet (fail)
              go_wp2_with fail
              go_ret
              exact ⟨by rw [HV.out]; rfl, by rw [← HSE.out]; first | exact HRX.out.be | exact HRX.out.be.trans ((drawn_below _ _).mono (by omega))⟩
            have hv : IntKind.i64.wrap (t2 + cbn) = t2 + cbn := by have := HI135.out; rw [IntKind.wrap_i64]; omega
            have HJN := Lib.hid (show (0 < 3 → 0 ≤ con ∧ con ≤ o - t0) ∧ (1 < 3 → 0 ≤ cax ∧ cax ≤ a - t1) ∧ (2 < 3 → 0 ≤ cbn ∧ cbn ≤ b - t2) from ⟨fun _ => HJ.out.1 (by omega), fun _ => HJ.out.2.1 (by omega), fun _ => ⟨by omega, by omega⟩⟩)
            go_wp2_with fail
            go_quiet (fail)
            go_wp2_with fail
            go_region
            all_goals go_wp2_with fail
            go_roundg (3 - (2 + 1))
            case measure => omega
            case rel => exact ⟨3, by omega, rfl, rfl, Nat.le_refl _, by simpa using hzj, Lib.hid (by simp only [par, Nat.lt_irrefl, Nat.not_lt_zero, if_false, if_true, Nat.zero_lt_succ, Nat.reduceLT]; exact (HRX.out.below (by omega) (drawn_below _ _)).s2 (by omega) _), HJN⟩
          · have HRX := HRJ
            simp only [par, Nat.lt_irrefl, Nat.not_lt_zero, if_false, if_true, Nat.zero_lt_succ, Nat.reduceLT] at HRX
            have HG := Lib.hid (HGO.out (HJ.out.1 (by omega)) (HJ.out.2.1 (by omega)) (HJ.out.2.2 (by omega)))
            have HXB := HRX.out
            clear HBAD HGOOD HGO
            go_wp2_with fail
            go_roundg (l.length - (k + 1))
            case measure => omega
            case rel => exact ⟨k + 1, (t0 + con, t1 + cax, t2 + cbn), by omega, rfl, by go_num, Nat.le_refl _, by omega, Lib.hid ⟨HXB.be, HXB.at_, HXB.en⟩, Lib.hid HG.out.2, Lib.hid HG.out.1⟩
      | false =>
        refine wp_region_held_drew (S := fun wz => Below W2.heap.size W2 wz) (by kernel_rfl) (drawn_below W2 1) (fun hS => ?_)
        generalize W2.drew = wc at *
        refine wpAnyH_take (i := 0) (oi := { dst := some 32, op := Go.Op.load 41 (Go.Operand.tmp 12), type := 41, pos := "chunk.go:115", after := #[], guard := none }) (v := ?_) rfl (by kernel_rfl) (by kernel_rfl) (by kernel_rfl) (fun _ _ _ h => h) (Or.inl ⟨by rfl, ?_⟩) hS ?_
        rotate_left
        · (intro wz hSz; obtain ⟨hcc, hrr⟩ := HSX.out wz hSz; have e0 := L.blk_cell hcc 0; have e1 := L.blk_cell hcc 1; have e2 := L.blk_cell hcc 2; have e3 := L.blk_cell hcc 3; have e4 := L.blk_cell hcc 4; have e5 := L.blk_cell hcc 5; have e6 := L.blk_cell hcc 6; have a0 := L.blk_cell hrr.at_ 0; have a1 := L.blk_cell hrr.at_ 1; have a2 := L.blk_cell hrr.at_ 2; have n0 := L.blk_cell hrr.n 0; have n1 := L.blk_cell hrr.n 1; have n2 := L.blk_cell hrr.n 2; simp only [List.getElem?_toArray, List.getElem?_cons_zero, List.getElem?_cons_succ] at e0 e1 e2 e3 e4 e5 e6 a0 a1 a2 n0 n1 n2; go_simp; try with_reducible rfl)
        try simp only [Act.put, List.setIfInBounds_toArray, List.set_cons_zero, List.set_cons_succ]
        refine wpAnyH_take (i := 2) (oi := { dst := some 34, op := Go.Op.load 72 (Go.Operand.tmp 9), type := 72, pos := "chunk.go:115", after := #[], guard := none }) (v := ?_) rfl (by kernel_rfl) (by kernel_rfl) (by kernel_rfl) (fun _ _ _ h => h) (Or.inl ⟨by rfl, ?_⟩) hS ?_
        rotate_left
        · (intro wz hSz; obtain ⟨hcc, hrr⟩ := HSX.out wz hSz; have e0 := L.blk_cell hcc 0; have e1 := L.blk_cell hcc 1; have e2 := L.blk_cell hcc 2; have e3 := L.blk_cell hcc 3; have e4 := L.blk_cell hcc 4; have e5 := L.blk_cell hcc 5; have e6 := L.blk_cell hcc 6; have a0 := L.blk_cell hrr.at_ 0; have a1 := L.blk_cell hrr.at_ 1; have a2 := L.blk_cell hrr.at_ 2; have n0 := L.blk_cell hrr.n 0; have n1 := L.blk_cell hrr.n 1; have n2 := L.blk_cell hrr.n 2; simp only [List.getElem?_toArray, List.getElem?_cons_zero, List.getElem?_cons_succ] at e0 e1 e2 e3 e4 e5 e6 a0 a1 a2 n0 n1 n2; go_simp; try with_reducible rfl)
        try simp only [Act.put, List.setIfInBounds_toArray, List.set_cons_zero, List.set_cons_succ]
        refine wpAnyH_ready (rs := [1]) (by kernel_rfl) (by simp) ?_
        refine AllReadyH.cons (o := { dst := some 33, op := Go.Op.call { callee := Go.Callee.value (Go.Operand.func 55), args := #[Go.Operand.tmp 32], argTypes := #[41] }, type := 72, pos := "chunk.go:115", after := #[{ on := 0, ground := Go.Ground.data }], guard := none }) rfl (fun K hK => ?_) AllReadyH.nil
        go_simp
        with_reducible refine (HBG.out _).mono ?_
        rintro r wn ⟨rfl, hbq⟩
        go_wp2_with fail
        refine hK.out _ _ (hS.trans (hbq.mono hS.size)) (fun hS1 => ?_)
        clear hK K hbq hS
        have hS := hS1
        clear hS1
        try simp only [Act.put, List.setIfInBounds_toArray, List.set_cons_zero, List.set_cons_succ]
        refine wpAnyH_take (i := 3) (oi := { dst := some 35, op := Go.Op.binOp Go.BinOp.neq 72 (Go.Operand.tmp 33) (Go.Operand.tmp 34) 72, type := 4, pos := "chunk.go:115", after := #[{ on := 1, ground := Go.Ground.data }, { on := 2, ground := Go.Ground.data }], guard := none }) (v := ?_) rfl (by kernel_rfl) (by kernel_rfl) (by kernel_rfl) (fun _ _ _ h => h) (Or.inl ⟨by rfl, ?_⟩) hS ?_
        rotate_left
        · (intro wz hSz; obtain ⟨hcc, hrr⟩ := HSX.out wz hSz; have e0 := L.blk_cell hcc 0; have e1 := L.blk_cell hcc 1; have e2 := L.blk_cell hcc 2; have e3 := L.blk_cell hcc 3; have e4 := L.blk_cell hcc 4; have e5 := L.blk_cell hcc 5; have e6 := L.blk_cell hcc 6; have a0 := L.blk_cell hrr.at_ 0; have a1 := L.blk_cell hrr.at_ 1; have a2 := L.blk_cell hrr.at_ 2; have n0 := L.blk_cell hrr.n 0; have n1 := L.blk_cell hrr.n 1; have n2 := L.blk_cell hrr.n 2; simp only [List.getElem?_toArray, List.getElem?_cons_zero, List.getElem?_cons_succ] at e0 e1 e2 e3 e4 e5 e6 a0 a1 a2 n0 n1 n2; go_simp; try with_reducible rfl)
        try simp only [Act.put, List.setIfInBounds_toArray, List.set_cons_zero, List.set_cons_succ]
        refine wpAnyH_take (i := 4) (oi := { dst := some 36, op := Go.Op.move (Go.Operand.tmp 35), type := 4, pos := "chunk.go:115", after := #[{ on := 3, ground := Go.Ground.data }, { on := 1, ground := Go.Ground.chain }], guard := none }) (v := ?_) rfl (by kernel_rfl) (by kernel_rfl) (by kernel_rfl) (fun _ _ _ h => h) (Or.inl ⟨by rfl, ?_⟩) hS ?_
        rotate_left
        · (intro wz hSz; obtain ⟨hcc, hrr⟩ := HSX.out wz hSz; have e0 := L.blk_cell hcc 0; have e1 := L.blk_cell hcc 1; have e2 := L.blk_cell hcc 2; have e3 := L.blk_cell hcc 3; have e4 := L.blk_cell hcc 4; have e5 := L.blk_cell hcc 5; have e6 := L.blk_cell hcc 6; have a0 := L.blk_cell hrr.at_ 0; have a1 := L.blk_cell hrr.at_ 1; have a2 := L.blk_cell hrr.at_ 2; have n0 := L.blk_cell hrr.n 0; have n1 := L.blk_cell hrr.n 1; have n2 := L.blk_cell hrr.n 2; simp only [List.getElem?_toArray, List.getElem?_cons_zero, List.getElem?_cons_succ] at e0 e1 e2 e3 e4 e5 e6 a0 a1 a2 n0 n1 n2; go_simp; try with_reducible rfl)
        try simp only [Act.put, List.setIfInBounds_toArray, List.set_cons_zero, List.set_cons_succ]
        refine wpAnyH_take (i := 5) (oi := { dst := some 37, op := Go.Op.load 72 (Go.Operand.tmp 13), type := 72, pos := "chunk.go:115", after := #[{ on := 4, ground := Go.Ground.guard }], guard := some (4, false) }) (v := ?_) rfl (by kernel_rfl) (by kernel_rfl) (by kernel_rfl) (fun _ _ _ h => h) (Or.inl ⟨by rfl, ?_⟩) hS ?_
        rotate_left
        · (intro wz hSz; obtain ⟨hcc, hrr⟩ := HSX.out wz hSz; have e0 := L.blk_cell hcc 0; have e1 := L.blk_cell hcc 1; have e2 := L.blk_cell hcc 2; have e3 := L.blk_cell hcc 3; have e4 := L.blk_cell hcc 4; have e5 := L.blk_cell hcc 5; have e6 := L.blk_cell hcc 6; have a0 := L.blk_cell hrr.at_ 0; have a1 := L.blk_cell hrr.at_ 1; have a2 := L.blk_cell hrr.at_ 2; have n0 := L.blk_cell hrr.n 0; have n1 := L.blk_cell hrr.n 1; have n2 := L.blk_cell hrr.n 2; simp only [List.getElem?_toArray, List.getElem?_cons_zero, List.getElem?_cons_succ] at e0 e1 e2 e3 e4 e5 e6 a0 a1 a2 n0 n1 n2; go_simp; try with_reducible rfl)
        try simp only [Act.put, List.setIfInBounds_toArray, List.set_cons_zero, List.set_cons_succ]
        refine wpAnyH_take (i := 6) (oi := { dst := some 38, op := Go.Op.build 72 #[], type := 72, pos := "chunk.go:115", after := #[{ on := 4, ground := Go.Ground.guard }], guard := some (4, false) }) (v := ?_) rfl (by kernel_rfl) (by kernel_rfl) (by kernel_rfl) (fun _ _ _ h => h) (Or.inl ⟨by rfl, ?_⟩) hS ?_
        rotate_left
        · (intro wz hSz; obtain ⟨hcc, hrr⟩ := HSX.out wz hSz; have e0 := L.blk_cell hcc 0; have e1 := L.blk_cell hcc 1; have e2 := L.blk_cell hcc 2; have e3 := L.blk_cell hcc 3; have e4 := L.blk_cell hcc 4; have e5 := L.blk_cell hcc 5; have e6 := L.blk_cell hcc 6; have a0 := L.blk_cell hrr.at_ 0; have a1 := L.blk_cell hrr.at_ 1; have a2 := L.blk_cell hrr.at_ 2; have n0 := L.blk_cell hrr.n 0; have n1 := L.blk_cell hrr.n 1; have n2 := L.blk_cell hrr.n 2; simp only [List.getElem?_toArray, List.getElem?_cons_zero, List.getElem?_cons_succ] at e0 e1 e2 e3 e4 e5 e6 a0 a1 a2 n0 n1 n2; go_simp; try with_reducible rfl)
        try simp only [Act.put, List.setIfInBounds_toArray, List.set_cons_zero, List.set_cons_succ]
        refine wpAnyH_take (i := 7) (oi := { dst := some 39, op := Go.Op.binOp Go.BinOp.eql 72 (Go.Operand.tmp 37) (Go.Operand.tmp 38) 72, type := 4, pos := "chunk.go:115", after := #[{ on := 5, ground := Go.Ground.data }, { on := 6, ground := Go.Ground.data }, { on := 4, ground := Go.Ground.guard }], guard := some (4, false) }) (v := ?_) rfl (by kernel_rfl) (by kernel_rfl) (by kernel_rfl) (fun _ _ _ h => h) (Or.inl ⟨by rfl, ?_⟩) hS ?_
        rotate_left
        · (intro wz hSz; obtain ⟨hcc, hrr⟩ := HSX.out wz hSz; have e0 := L.blk_cell hcc 0; have e1 := L.blk_cell hcc 1; have e2 := L.blk_cell hcc 2; have e3 := L.blk_cell hcc 3; have e4 := L.blk_cell hcc 4; have e5 := L.blk_cell hcc 5; have e6 := L.blk_cell hcc 6; have a0 := L.blk_cell hrr.at_ 0; have a1 := L.blk_cell hrr.at_ 1; have a2 := L.blk_cell hrr.at_ 2; have n0 := L.blk_cell hrr.n 0; have n1 := L.blk_cell hrr.n 1; have n2 := L.blk_cell hrr.n 2; simp only [List.getElem?_toArray, List.getElem?_cons_zero, List.getElem?_cons_succ] at e0 e1 e2 e3 e4 e5 e6 a0 a1 a2 n0 n1 n2; go_simp; try with_reducible rfl)
        try simp only [Act.put, List.setIfInBounds_toArray, List.set_cons_zero, List.set_cons_succ]
        refine wpAnyH_take (i := 8) (oi := { dst := some 40, op := Go.Op.pick (Go.Operand.tmp 36) (Go.Operand.const (Go.Value.bool true)) (Go.Operand.tmp 39), type := 4, pos := "chunk.go:115", after := #[{ on := 4, ground := Go.Ground.data }, { on := 7, ground := Go.Ground.data }], guard := none }) (v := ?_) rfl (by kernel_rfl) (by kernel_rfl) (by kernel_rfl) (fun _ _ _ h => h) (Or.inl ⟨by rfl, ?_⟩) hS ?_
        rotate_left
        · (intro wz hSz; obtain ⟨hcc, hrr⟩ := HSX.out wz hSz; have e0 := L.blk_cell hcc 0; have e1 := L.blk_cell hcc 1; have e2 := L.blk_cell hcc 2; have e3 := L.blk_cell hcc 3; have e4 := L.blk_cell hcc 4; have e5 := L.blk_cell hcc 5; have e6 := L.blk_cell hcc 6; have a0 := L.blk_cell hrr.at_ 0; have a1 := L.blk_cell hrr.at_ 1; have a2 := L.blk_cell hrr.at_ 2; have n0 := L.blk_cell hrr.n 0; have n1 := L.blk_cell hrr.n 1; have n2 := L.blk_cell hrr.n 2; simp only [List.getElem?_toArray, List.getElem?_cons_zero, List.getElem?_cons_succ] at e0 e1 e2 e3 e4 e5 e6 a0 a1 a2 n0 n1 n2; go_simp; try with_reducible rfl)
        try simp only [Act.put, List.setIfInBounds_toArray, List.set_cons_zero, List.set_cons_succ]
        refine wpAnyH_take (i := 9) (oi := { dst := some 41, op := Go.Op.move (Go.Operand.tmp 40), type := 4, pos := "chunk.go:115", after := #[{ on := 8, ground := Go.Ground.data }, { on := 4, ground := Go.Ground.chain }], guard := none }) (v := ?_) rfl (by kernel_rfl) (by kernel_rfl) (by kernel_rfl) (fun _ _ _ h => h) (Or.inl ⟨by rfl, ?_⟩) hS ?_
        rotate_left
        · (intro wz hSz; obtain ⟨hcc, hrr⟩ := HSX.out wz hSz; have e0 := L.blk_cell hcc 0; have e1 := L.blk_cell hcc 1; have e2 := L.blk_cell hcc 2; have e3 := L.blk_cell hcc 3; have e4 := L.blk_cell hcc 4; have e5 := L.blk_cell hcc 5; have e6 := L.blk_cell hcc 6; have a0 := L.blk_cell hrr.at_ 0; have a1 := L.blk_cell hrr.at_ 1; have a2 := L.blk_cell hrr.at_ 2; have n0 := L.blk_cell hrr.n 0; have n1 := L.blk_cell hrr.n 1; have n2 := L.blk_cell hrr.n 2; simp only [List.getElem?_toArray, List.getElem?_cons_zero, List.getElem?_cons_succ] at e0 e1 e2 e3 e4 e5 e6 a0 a1 a2 n0 n1 n2; go_simp; try with_reducible rfl)
        try simp only [Act.put, List.setIfInBounds_toArray, List.set_cons_zero, List.set_cons_succ]
        refine wpAnyH_take (i := 10) (oi := { dst := some 42, op := Go.Op.fieldAddr 41 (Go.Operand.tmp 12) 0, type := 0, pos := "chunk.go:115", after := #[{ on := 9, ground := Go.Ground.guard }], guard := some (9, false) }) (v := ?_) rfl (by kernel_rfl) (by kernel_rfl) (by kernel_rfl) (fun _ _ _ h => h) (Or.inl ⟨by rfl, ?_⟩) hS ?_
        rotate_left
        · (intro wz hSz; obtain ⟨hcc, hrr⟩ := HSX.out wz hSz; have e0 := L.blk_cell hcc 0; have e1 := L.blk_cell hcc 1; have e2 := L.blk_cell hcc 2; have e3 := L.blk_cell hcc 3; have e4 := L.blk_cell hcc 4; have e5 := L.blk_cell hcc 5; have e6 := L.blk_cell hcc 6; have a0 := L.blk_cell hrr.at_ 0; have a1 := L.blk_cell hrr.at_ 1; have a2 := L.blk_cell hrr.at_ 2; have n0 := L.blk_cell hrr.n 0; have n1 := L.blk_cell hrr.n 1; have n2 := L.blk_cell hrr.n 2; simp only [List.getElem?_toArray, List.getElem?_cons_zero, List.getElem?_cons_succ] at e0 e1 e2 e3 e4 e5 e6 a0 a1 a2 n0 n1 n2; go_simp; try with_reducible rfl)
        try simp only [Act.put, List.setIfInBounds_toArray, List.set_cons_zero, List.set_cons_succ]
        refine wpAnyH_take (i := 11) (oi := { dst := some 43, op := Go.Op.load 4 (Go.Operand.tmp 42), type := 4, pos := "chunk.go:115", after := #[{ on := 10, ground := Go.Ground.data }, { on := 9, ground := Go.Ground.guard }], guard := some (9, false) }) (v := ?_) rfl (by kernel_rfl) (by kernel_rfl) (by kernel_rfl) (fun _ _ _ h => h) (Or.inl ⟨by rfl, ?_⟩) hS ?_
        rotate_left
        · (intro wz hSz; obtain ⟨hcc, hrr⟩ := HSX.out wz hSz; have e0 := L.blk_cell hcc 0; have e1 := L.blk_cell hcc 1; have e2 := L.blk_cell hcc 2; have e3 := L.blk_cell hcc 3; have e4 := L.blk_cell hcc 4; have e5 := L.blk_cell hcc 5; have e6 := L.blk_cell hcc 6; have a0 := L.blk_cell hrr.at_ 0; have a1 := L.blk_cell hrr.at_ 1; have a2 := L.blk_cell hrr.at_ 2; have n0 := L.blk_cell hrr.n 0; have n1 := L.blk_cell hrr.n 1; have n2 := L.blk_cell hrr.n 2; simp only [List.getElem?_toArray, List.getElem?_cons_zero, List.getElem?_cons_succ] at e0 e1 e2 e3 e4 e5 e6 a0 a1 a2 n0 n1 n2; go_simp; try with_reducible rfl)
        try simp only [Act.put, List.setIfInBounds_toArray, List.set_cons_zero, List.set_cons_succ]
        refine wpAnyH_take (i := 12) (oi := { dst := some 44, op := Go.Op.move (Go.Operand.tmp 43), type := 4, pos := "chunk.go:115", after := #[{ on := 11, ground := Go.Ground.data }, { on := 9, ground := Go.Ground.chain }, { on := 9, ground := Go.Ground.guard }], guard := some (9, false) }) (v := ?_) rfl (by kernel_rfl) (by kernel_rfl) (by kernel_rfl) (fun _ _ _ h => h) (Or.inl ⟨by rfl, ?_⟩) hS ?_
        rotate_left
        · (intro wz hSz; obtain ⟨hcc, hrr⟩ := HSX.out wz hSz; have e0 := L.blk_cell hcc 0; have e1 := L.blk_cell hcc 1; have e2 := L.blk_cell hcc 2; have e3 := L.blk_cell hcc 3; have e4 := L.blk_cell hcc 4; have e5 := L.blk_cell hcc 5; have e6 := L.blk_cell hcc 6; have a0 := L.blk_cell hrr.at_ 0; have a1 := L.blk_cell hrr.at_ 1; have a2 := L.blk_cell hrr.at_ 2; have n0 := L.blk_cell hrr.n 0; have n1 := L.blk_cell hrr.n 1; have n2 := L.blk_cell hrr.n 2; simp only [List.getElem?_toArray, List.getElem?_cons_zero, List.getElem?_cons_succ] at e0 e1 e2 e3 e4 e5 e6 a0 a1 a2 n0 n1 n2; go_simp; try with_reducible rfl)
        try simp only [Act.put, List.setIfInBounds_toArray, List.set_cons_zero, List.set_cons_succ]
        refine wpAnyH_take (i := 13) (oi := { dst := some 45, op := Go.Op.load 72 (Go.Operand.tmp 13), type := 72, pos := "chunk.go:115", after := #[{ on := 12, ground := Go.Ground.guard }], guard := some (12, true) }) (v := undef) rfl (by kernel_rfl) (by kernel_rfl) (by kernel_rfl) (fun _ _ _ h => h) (Or.inr ⟨by rfl, rfl⟩) hS ?_
        try simp only [Act.put, List.setIfInBounds_toArray, List.set_cons_zero, List.set_cons_succ]
        refine wpAnyH_take (i := 14) (oi := { dst := some 46, op := Go.Op.fieldAddr 41 (Go.Operand.tmp 12) 2, type := 0, pos := "chunk.go:115", after := #[{ on := 12, ground := Go.Ground.guard }], guard := some (12, true) }) (v := undef) rfl (by kernel_rfl) (by kernel_rfl) (by kernel_rfl) (fun _ _ _ h => h) (Or.inr ⟨by rfl, rfl⟩) hS ?_
        try simp only [Act.put, List.setIfInBounds_toArray, List.set_cons_zero, List.set_cons_succ]
        refine wpAnyH_take (i := 15) (oi := { dst := some 47, op := Go.Op.load 3 (Go.Operand.tmp 46), type := 3, pos := "chunk.go:115", after := #[{ on := 14, ground := Go.Ground.data }, { on := 12, ground := Go.Ground.guard }], guard := some (12, true) }) (v := undef) rfl (by kernel_rfl) (by kernel_rfl) (by kernel_rfl) (fun _ _ _ h => h) (Or.inr ⟨by rfl, rfl⟩) hS ?_
        try simp only [Act.put, List.setIfInBounds_toArray, List.set_cons_zero, List.set_cons_succ]
        refine wpAnyH_take (i := 16) (oi := { dst := some 48, op := Go.Op.fieldAddr 41 (Go.Operand.tmp 12) 2, type := 0, pos := "chunk.go:115", after := #[{ on := 12, ground := Go.Ground.guard }], guard := some (12, true) }) (v := undef) rfl (by kernel_rfl) (by kernel_rfl) (by kernel_rfl) (fun _ _ _ h => h) (Or.inr ⟨by rfl, rfl⟩) hS ?_
        try simp only [Act.put, List.setIfInBounds_toArray, List.set_cons_zero, List.set_cons_succ]
        refine wpAnyH_take (i := 17) (oi := { dst := some 49, op := Go.Op.load 3 (Go.Operand.tmp 48), type := 3, pos := "chunk.go:115", after := #[{ on := 16, ground := Go.Ground.data }, { on := 12, ground := Go.Ground.guard }], guard := some (12, true) }) (v := undef) rfl (by kernel_rfl) (by kernel_rfl) (by kernel_rfl) (fun _ _ _ h => h) (Or.inr ⟨by rfl, rfl⟩) hS ?_
        try simp only [Act.put, List.setIfInBounds_toArray, List.set_cons_zero, List.set_cons_succ]
        refine wpAnyH_take (i := 18) (oi := { dst := some 50, op := Go.Op.fieldAddr 41 (Go.Operand.tmp 12) 2, type := 0, pos := "chunk.go:115", after := #[{ on := 12, ground := Go.Ground.guard }], guard := some (12, true) }) (v := undef) rfl (by kernel_rfl) (by kernel_rfl) (by kernel_rfl) (fun _ _ _ h => h) (Or.inr ⟨by rfl, rfl⟩) hS ?_
        try simp only [Act.put, List.setIfInBounds_toArray, List.set_cons_zero, List.set_cons_succ]
        refine wpAnyH_take (i := 19) (oi := { dst := some 51, op := Go.Op.load 3 (Go.Operand.tmp 50), type := 3, pos := "chunk.go:115", after := #[{ on := 18, ground := Go.Ground.data }, { on := 12, ground := Go.Ground.guard }], guard := some (12, true) }) (v := undef) rfl (by kernel_rfl) (by kernel_rfl) (by kernel_rfl) (fun _ _ _ h => h) (Or.inr ⟨by rfl, rfl⟩) hS ?_
        try simp only [Act.put, List.setIfInBounds_toArray, List.set_cons_zero, List.set_cons_succ]
        refine wpAnyH_take (i := 20) (oi := { dst := some 52, op := Go.Op.build 72 #[(0, Go.Operand.tmp 47), (1, Go.Operand.tmp 49), (2, Go.Operand.tmp 51)], type := 72, pos := "chunk.go:115", after := #[{ on := 15, ground := Go.Ground.data }, { on := 17, ground := Go.Ground.data }, { on := 19, ground := Go.Ground.data }, { on := 12, ground := Go.Ground.guard }], guard := some (12, true) }) (v := undef) rfl (by kernel_rfl) (by kernel_rfl) (by kernel_rfl) (fun _ _ _ h => h) (Or.inr ⟨by rfl, rfl⟩) hS ?_
        try simp only [Act.put, List.setIfInBounds_toArray, List.set_cons_zero, List.set_cons_succ]
        refine wpAnyH_take (i := 21) (oi := { dst := some 53, op := Go.Op.binOp Go.BinOp.neq 72 (Go.Operand.tmp 45) (Go.Operand.tmp 52) 72, type := 4, pos := "chunk.go:115", after := #[{ on := 13, ground := Go.Ground.data }, { on := 20, ground := Go.Ground.data }, { on := 12, ground := Go.Ground.guard }], guard := some (12, true) }) (v := undef) rfl (by kernel_rfl) (by kernel_rfl) (by kernel_rfl) (fun _ _ _ h => h) (Or.inr ⟨by rfl, rfl⟩) hS ?_
        try simp only [Act.put, List.setIfInBounds_toArray, List.set_cons_zero, List.set_cons_succ]
        refine wpAnyH_take (i := 22) (oi := { dst := some 54, op := Go.Op.pick (Go.Operand.tmp 44) (Go.Operand.tmp 53) (Go.Operand.const (Go.Value.bool false)), type := 4, pos := "chunk.go:115", after := #[{ on := 12, ground := Go.Ground.data }, { on := 21, ground := Go.Ground.data }, { on := 9, ground := Go.Ground.guard }], guard := some (9, false) }) (v := ?_) rfl (by kernel_rfl) (by kernel_rfl) (by kernel_rfl) (fun _ _ _ h => h) (Or.inl ⟨by rfl, ?_⟩) hS ?_
        rotate_left
        · (intro wz hSz; obtain ⟨hcc, hrr⟩ := HSX.out wz hSz; have e0 := L.blk_cell hcc 0; have e1 := L.blk_cell hcc 1; have e2 := L.blk_cell hcc 2; have e3 := L.blk_cell hcc 3; have e4 := L.blk_cell hcc 4; have e5 := L.blk_cell hcc 5; have e6 := L.blk_cell hcc 6; have a0 := L.blk_cell hrr.at_ 0; have a1 := L.blk_cell hrr.at_ 1; have a2 := L.blk_cell hrr.at_ 2; have n0 := L.blk_cell hrr.n 0; have n1 := L.blk_cell hrr.n 1; have n2 := L.blk_cell hrr.n 2; simp only [List.getElem?_toArray, List.getElem?_cons_zero, List.getElem?_cons_succ] at e0 e1 e2 e3 e4 e5 e6 a0 a1 a2 n0 n1 n2; go_simp; try with_reducible rfl)
        try simp only [Act.put, List.setIfInBounds_toArray, List.set_cons_zero, List.set_cons_succ]
        refine wpAnyH_take (i := 23) (oi := { dst := some 55, op := Go.Op.pick (Go.Operand.tmp 41) (Go.Operand.const (Go.Value.bool true)) (Go.Operand.tmp 54), type := 4, pos := "chunk.go:115", after := #[{ on := 9, ground := Go.Ground.data }, { on := 22, ground := Go.Ground.data }], guard := none }) (v := ?_) rfl (by kernel_rfl) (by kernel_rfl) (by kernel_rfl) (fun _ _ _ h => h) (Or.inl ⟨by rfl, ?_⟩) hS ?_
        rotate_left
        · (intro wz hSz; obtain ⟨hcc, hrr⟩ := HSX.out wz hSz; have e0 := L.blk_cell hcc 0; have e1 := L.blk_cell hcc 1; have e2 := L.blk_cell hcc 2; have e3 := L.blk_cell hcc 3; have e4 := L.blk_cell hcc 4; have e5 := L.blk_cell hcc 5; have e6 := L.blk_cell hcc 6; have a0 := L.blk_cell hrr.at_ 0; have a1 := L.blk_cell hrr.at_ 1; have a2 := L.blk_cell hrr.at_ 2; have n0 := L.blk_cell hrr.n 0; have n1 := L.blk_cell hrr.n 1; have n2 := L.blk_cell hrr.n 2; simp only [List.getElem?_toArray, List.getElem?_cons_zero, List.getElem?_cons_succ] at e0 e1 e2 e3 e4 e5 e6 a0 a1 a2 n0 n1 n2; go_simp; try with_reducible rfl)
        try simp only [Act.put, List.setIfInBounds_toArray, List.set_cons_zero, List.set_cons_succ]
        refine wpAnyH_done (by kernel_rfl) ?_ _
        have HW := Lib.hid (HSX.out _ hS).2
        have hzn := hS.size
        clear hS
        have HGO : Hid ((0 ≤ con ∧ con ≤ o - t0) → (0 ≤ cax ∧ cax ≤ a - t1) → (0 ≤ cbn ∧ cbn ≤ b - t2) → (cright l o a b = ckr (t0 + con, t1 + cax, t2 + cbn) (o, a, b) (l.drop (k + 1)) ∧ Inv (t0 + con, t1 + cax, t2 + cbn) (o, a, b))) := Lib.hid (fun h1 h2 h3 => HGOOD.out ⟨by simp only [Prod.mk.injEq] at pe; exact pe, ⟨h1.1, h2.1, h3.1⟩, fun h => pz (by obtain ⟨u1, u2, u3⟩ := h; rw [u1, u2, u3]), fun h => (by cases h), h1.2, h2.2, h3.2⟩)
        clear hq1 hq2 HSX HBG
        go_wp2_with fail
        go_loopg [8, 56] 3 (fun mm x8 x56 wi => ∃ j : Nat, j ≤ 3 ∧ x8 = .bool false ∧ x56 = .int .i64 (j : Int) ∧ 3 - j ≤ mm ∧ xb + 1 + 1 ≤ wi.heap.size ∧ Hid (Rb w s (xb + 1) o a b con cax cbn (par (t0, t1, t2) ⟨false, co, con, cca, cax, ccb, cbn⟩ j).1 (par (t0, t1, t2) ⟨false, co, con, cca, cax, ccb, cbn⟩ j).2.1 (par (t0, t1, t2) ⟨false, co, con, cca, cax, ccb, cbn⟩ j).2.2 wi) ∧ Hid ((0 < j → 0 ≤ con ∧ con ≤ o - t0) ∧ (1 < j → 0 ≤ cax ∧ cax ≤ a - t1) ∧ (2 < j → 0 ≤ cbn ∧ cbn ≤ b - t2)))
        case atStart => exact ⟨0, by omega, rfl, rfl, by omega, by omega, HW, Lib.hid ⟨fun h => by omega, fun h => by omega, fun h => by omega⟩⟩
        case round =>
          obtain ⟨j, hj, rfl, rfl, hmj, hzj, HRJ, HJ⟩ := hrel
          rcases (by omega : j = 0 ∨ j = 1 ∨ j = 2 ∨ j = 3) with rfl | rfl | rfl | rfl
          · have HRX := HRJ
            simp only [par, Nat.lt_irrefl, Nat.not_lt_zero, if_false, if_true, Nat.zero_lt_succ, Nat.reduceLT] at HRX
            have a0 := L.blk_cell HRX.out.at_ 0
            have n0 := L.blk_cell HRX.out.n 0
            have e0 := L.blk_cell HRX.out.en 0
            have a1 := L.blk_cell HRX.out.at_ 1
            have n1 := L.blk_cell HRX.out.n 1
            have e1 := L.blk_cell HRX.out.en 1
            have a2 := L.blk_cell HRX.out.at_ 2
            have n2 := L.blk_cell HRX.out.n 2
            have e2 := L.blk_cell HRX.out.en 2
            have af := fun i => L.blk_free HRX.out.at_ i
            simp only [List.getElem?_toArray, List.getElem?_cons_zero, List.getElem?_cons_succ] at a0 a1 a2 n0 n1 n2 e0 e1 e2
            by_cases p0 : con < 0
            · have HV := Lib.hid (HBAD.out (fun h => by have := h.2.1; omega))
              clear HBAD HGOOD
              go_wp2_with fail
              go_quiet (fail)
              go_wp2_with fail
              go_ret
              exact ⟨by rw [HV.out]; rfl, by rw [← HSE.out]; first | exact HRX.out.be | exact HRX.out.be.trans ((drawn_below _ _).mono (by omega))⟩
            by_cases p1 : o - t0 < con
            · have HV := Lib.hid (HBAD.out (fun h => by have := h.2.2.2.2; omega))
              clear HBAD HGOOD
              go_wp2_with fail
              go_quiet (fail)
              go_wp2_with fail
              go_ret
              exact ⟨by rw [HV.out]; rfl, by rw [← HSE.out]; first | exact HRX.out.be | exact HRX.out.be.trans ((drawn_below _ _).mono (by omega))⟩
            have hv : IntKind.i64.wrap (t0 + con) = t0 + con := by have := HI135.out; rw [IntKind.wrap_i64]; omega
            have HJN := Lib.hid (show (0 < 1 → 0 ≤ con ∧ con ≤ o - t0) ∧ (1 < 1 → 0 ≤ cax ∧ cax ≤ a - t1) ∧ (2 < 1 → 0 ≤ cbn ∧ cbn ≤ b - t2) from ⟨fun _ => ⟨by omega, by omega⟩, fun h => by omega, fun h => by omega⟩)
            go_wp2_with fail
            go_quiet (fail)
            go_wp2_with fail
            go_region
            all_goals go_wp2_with fail
            go_roundg (3 - (0 + 1))
            case measure => omega
            case rel => exact ⟨1, by omega, rfl, rfl, Nat.le_refl _, by simpa using hzj, Lib.hid (by simp only [par, Nat.lt_irrefl, Nat.not_lt_zero, if_false, if_true, Nat.zero_lt_succ, Nat.reduceLT]; exact (HRX.out.below (by omega) (drawn_below _ _)).s0 (by omega) _), HJN⟩
          · have HRX := HRJ
            simp only [par, Nat.lt_irrefl, Nat.not_lt_zero, if_false, if_true, Nat.zero_lt_succ, Nat.reduceLT] at HRX
            have a0 := L.blk_cell HRX.out.at_ 0
            have n0 := L.blk_cell HRX.out.n 0
            have e0 := L.blk_cell HRX.out.en 0
            have a1 := L.blk_cell HRX.out.at_ 1
            have n1 := L.blk_cell HRX.out.n 1
            have e1 := L.blk_cell HRX.out.en 1
            have a2 := L.blk_cell HRX.out.at_ 2
            have n2 := L.blk_cell HRX.out.n 2
            have e2 := L.blk_cell HRX.out.en 2
            have af := fun i => L.blk_free HRX.out.at_ i
            simp only [List.getElem?_toArray, List.getElem?_cons_zero, List.getElem?_cons_succ] at a0 a1 a2 n0 n1 n2 e0 e1 e2
            by_cases p0 : cax < 0
            · have HV := Lib.hid (HBAD.out (fun h => by have := h.2.1; omega))
              clear HBAD HGOOD
              go_wp2_with fail
              go_quiet (fail)
              go_wp2_with fail
              go_ret
              exact ⟨by rw [HV.out]; rfl, by rw [← HSE.out]; first | exact HRX.out.be | exact HRX.out.be.trans ((drawn_below _ _).mono (by omega))⟩
            by_cases p1 : a - t1 < cax
            · have HV := Lib.hid (HBAD.out (fun h => by have := h.2.2.2.2; omega))
              clear HBAD HGOOD
              go_wp2_with fail
              go_quiet (fail)
              go_wp2_with fail
              go_ret
              exact ⟨by rw [HV.out]; rfl, by rw [← HSE.out]; first | exact HRX.out.be | exact HRX.out.be.trans ((drawn_below _ _).mono (by omega))⟩
            have hv : IntKind.i64.wrap (t1 + cax) = t1 + cax := by have := HI135.out; rw [IntKind.wrap_i64]; omega
            have HJN := Lib.hid (show (0 < 2 → 0 ≤ con ∧ con ≤ o - t0) ∧ (1 < 2 → 0 ≤ cax ∧ cax ≤ a - t1) ∧ (2 < 2 → 0 ≤ cbn ∧ cbn ≤ b - t2) from ⟨fun _ => HJ.out.1 (by omega), fun _ => ⟨by omega, by omega⟩, fun h => by omega⟩)
            go_wp2_with fail
            go_quiet (fail)
            go_wp2_with fail
            go_region
            all_goals go_wp2_with fail
            go_roundg (3 - (1 + 1))
            case measure => omega
            case rel => exact ⟨2, by omega, rfl, rfl, Nat.le_refl _, by simpa using hzj, Lib.hid (by simp only [par, Nat.lt_irrefl, Nat.not_lt_zero, if_false, if_true, Nat.zero_lt_succ, Nat.reduceLT]; exact (HRX.out.below (by omega) (drawn_below _ _)).s1 (by omega) _), HJN⟩
          · have HRX := HRJ
            simp only [par, Nat.lt_irrefl, Nat.not_lt_zero, if_false, if_true, Nat.zero_lt_succ, Nat.reduceLT] at HRX
            have a0 := L.blk_cell HRX.out.at_ 0
            have n0 := L.blk_cell HRX.out.n 0
            have e0 := L.blk_cell HRX.out.en 0
            have a1 := L.blk_cell HRX.out.at_ 1
            have n1 := L.blk_cell HRX.out.n 1
            have e1 := L.blk_cell HRX.out.en 1
            have a2 := L.blk_cell HRX.out.at_ 2
            have n2 := L.blk_cell HRX.out.n 2
            have e2 := L.blk_cell HRX.out.en 2
            have af := fun i => L.blk_free HRX.out.at_ i
            simp only [List.getElem?_toArray, List.getElem?_cons_zero, List.getElem?_cons_succ] at a0 a1 a2 n0 n1 n2 e0 e1 e2
            by_cases p0 : cbn < 0
            · have HV := Lib.hid (HBAD.out (fun h => by have := h.2.1; omega))
              clear HBAD HGOOD
              go_wp2_with fail
              go_quiet (fail)
              go_wp2_with fail
              go_ret
              exact ⟨by rw [HV.out]; rfl, by rw [← HSE.out]; first | exact HRX.out.be | exact HRX.out.be.trans ((drawn_below _ _).mono (by omega))⟩
            by_cases p1 : b - t2 < cbn
            · have HV := Lib.hid (HBAD.out (fun h => by have := h.2.2.2.2; omega))
              clear HBAD HGOOD
              go_wp2_with fail
              go_quiet (fail)
              go_wp2_with fail
              go_ret
              exact ⟨by rw [HV.out]; rfl, by rw [← HSE.out]; first | exact HRX.out.be | exact HRX.out.be.trans ((drawn_below _ _).mono (by omega))⟩
            have hv : IntKind.i64.wrap (t2 + cbn) = t2 + cbn := by have := HI135.out; rw [IntKind.wrap_i64]; omega
            have HJN := Lib.hid (show (0 < 3 → 0 ≤ con ∧ con ≤ o - t0) ∧ (1 < 3 → 0 ≤ cax ∧ cax ≤ a - t1) ∧ (2 < 3 → 0 ≤ cbn ∧ cbn ≤ b - t2) from ⟨fun _ => HJ.out.1 (by omega), fun _ => HJ.out.2.1 (by omega), fun _ => ⟨by omega, by omega⟩⟩)
            go_wp2_with fail
            go_quiet (fail)
            go_wp2_with fail
            go_region
            all_goals go_wp2_with fail
            go_roundg (3 - (2 + 1))
            case measure => omega
            case rel => exact ⟨3, by omega, rfl, rfl, Nat.le_refl _, by simpa using hzj, Lib.hid (by simp only [par, Nat.lt_irrefl, Nat.not_lt_zero, if_false, if_true, Nat.zero_lt_succ, Nat.reduceLT]; exact (HRX.out.below (by omega) (drawn_below _ _)).s2 (by omega) _), HJN⟩
          · have HRX := HRJ
            simp only [par, Nat.lt_irrefl, Nat.not_lt_zero, if_false, if_true, Nat.zero_lt_succ, Nat.reduceLT] at HRX
            have HG := Lib.hid (HGO.out (HJ.out.1 (by omega)) (HJ.out.2.1 (by omega)) (HJ.out.2.2 (by omega)))
            have HXB := HRX.out
            clear HBAD HGOOD HGO
            go_wp2_with fail
            go_roundg (l.length - (k + 1))
            case measure => omega
            case rel => exact ⟨k + 1, (t0 + con, t1 + cax, t2 + cbn), by omega, rfl, by go_num, Nat.le_refl _, by omega, Lib.hid ⟨HXB.be, HXB.at_, HXB.en⟩, Lib.hid HG.out.2, Lib.hid HG.out.1⟩
    · obtain rfl : k = l.length := by omega
      have HV := Lib.hid (show cright l o a b = decide (((t0, t1, t2) : Tr) = (o, a, b)) by rw [HF.out, List.drop_length]; rfl)
      have a0 := L.blk_cell HBX.out.2.1 0
      have a1 := L.blk_cell HBX.out.2.1 1
      have a2 := L.blk_cell HBX.out.2.1 2
      have e0 := L.blk_cell HBX.out.2.2 0
      have e1 := L.blk_cell HBX.out.2.2 1
      have e2 := L.blk_cell HBX.out.2.2 2
      simp only [List.getElem?_toArray, List.getElem?_cons_zero, List.getElem?_cons_succ] at a0 a1 a2 e0 e1 e2
      have hq1 := fun w => tr_eqIn w t0 t1 t2 o a b
      have HBE := Lib.hid HBX.out.1
      clear HF HBX
      go_wp2_with fail
      go_ret
      exact ⟨by rw [HV.out]; exact congrArg (fun z => Ending.returned (.bool z)) (by simp [Prod.mk.injEq]), by rw [← HSE.out]; exact HBE.out⟩
end Go.Proofs.Ytkflhcfopejigaa.Ck
