/-
  The contract of chunk's next: one chunk.
-/
import Derived.Test.YtkflhcfopejigaaGgf
namespace Go.Proofs.Ytkflhcfopejigaa.Ck
set_option linter.unusedVariables false
set_option linter.unusedSimpArgs false
open Go.RowKit Go.Shelf
open T
open Mt (Pr fnd Rt right)
open N (PrIn PrIn.below)
open V (drawn_below grown_of)
open I (alloc1)

structure Fine (p q : List Pr) : Prop where
  up : p.Pairwise fun p q => p.1 < q.1
  uq : q.Pairwise fun p q => p.1 < q.1
  lp : p.length ≤ 1000
  lq : q.length ≤ 1000
  kp : okp p
  kq : okp q
theorem run_any (A B : Option Addr) (ca cb : Nat) (p q : List Pr) (c : Ck) (w : World) (h : Fine p q) (hA : PrIn w A p) (hB : PrIn w B q) :
    Calls Try.prog 59 #[.slice A p.length ca, .slice B q.length cb, ckV c] w fun e w' => e = .returned (.int .i64 (run p q (c.o, c.a, c.b) : Nat)) ∧ Below w.heap.size w w' :=
  callsIn_wide.1 (run_in' 6 (Nat.le_refl _) A B ca cb p q c w h.up h.uq h.lp h.lq h.kp h.kq hA hB)
theorem next_any (A B : Option Addr) (ca cb : Nat) (p q : List Pr) (c : Ck) (w : World) (h : Fine p q) (hA : PrIn w A p) (hB : PrIn w B q) :
    Calls Try.prog 60 #[.slice A p.length ca, .slice B q.length cb, ckV c] w fun e w' => e = .returned (nxV (nxt p q (c.o, c.a, c.b))) ∧ Below w.heap.size w w' :=
  callsIn_wide.1 (next_in' 6 (Nat.le_refl _) A B ca cb p q c w h.up h.uq h.lp h.lq h.kp h.kq hA hB)
theorem sh_ok {p q : List Pr} (hp : okp p) (hq : okp q) {t : Tr} (h : t ∈ sh p q) : Okt t := by
  unfold sh at h
  rw [List.mem_filterMap] at h
  obtain ⟨z, hz, h⟩ := h
  simp only [Option.map_eq_some_iff] at h
  obtain ⟨k, hk, rfl⟩ := h
  have h1 := hp _ hz
  have h2 := hq _ (Mt.fnd_mem hk)
  exact ⟨h1.1, h1.2, h2.2⟩

set_option maxRecDepth 100000 in
set_option maxHeartbeats 4000000 in
theorem cnext_any (A B : Option Addr) (ca cb : Nat) (p q : List Pr) (t e : Tr) (w : World) (h : Fine p q) (hA : PrIn w A p) (hB : PrIn w B q) (ht : Okt t) (he : Okt e) :
    Calls Try.prog 52 #[.slice A p.length ca, .slice B q.length cb, trV t, trV e] w fun r w' => r = .returned (ckV (step p q e t)) ∧ Below w.heap.size w w' := by
  have HF := Lib.hid h
  have HST := Lib.hid (show step p q e t = if run p q t = 0 then unst t ((nxt p q t).getD e) else stab t (run p q t) from rfl)
  have HNK := Lib.hid (fun (x : Tr) (hx : nxt p q t = some x) => sh_ok h.kp h.kq (nxt_mem hx).1)
  have hrl : run p q t ≤ 1000 := Nat.le_trans (run_le p q t) h.lp
  have HA := Lib.hid hA
  have HB := Lib.hid hB
  obtain ⟨t0, t1, t2⟩ := t
  obtain ⟨e0, e1, e2⟩ := e
  obtain ⟨⟨ht0, ht0'⟩, ⟨ht1, ht1'⟩, ⟨ht2, ht2'⟩⟩ := ht
  obtain ⟨⟨he0, he0'⟩, ⟨he1, he1'⟩, ⟨he2, he2'⟩⟩ := he
  simp only at ht0 ht0' ht1 ht1' ht2 ht2' he0 he0' he1 he1' he2 he2'
  obtain ⟨W1, hW1⟩ : ∃ W : World, W = (((w.alloc (.cells #[.int .i64 t0, .int .i64 t1, .int .i64 t2] 72)).alloc (.cells #[.int .i64 e0, .int .i64 e1, .int .i64 e2] 72)).alloc (.cells #[.bool false, .int .i64 0, .int .i64 0, .int .i64 0, .int .i64 0, .int .i64 0, .int .i64 0] 41)).alloc (.cells #[.bool false, .int .i64 t0, .int .i64 0, .int .i64 t1, .int .i64 0, .int .i64 t2, .int .i64 0] 41) := ⟨_, rfl⟩
  have HM : Hid (W1.heap.size = w.heap.size + 1 + 1 + 1 + 1 ∧ Below w.heap.size w W1 ∧ W1.heap[w.heap.size + 1]? = some (.cells #[.int .i64 e0, .int .i64 e1, .int .i64 e2] 72 (0, 0)) ∧ W1.heap[w.heap.size + 1 + 1]? = some (.cells #[.bool false, .int .i64 0, .int .i64 0, .int .i64 0, .int .i64 0, .int .i64 0, .int .i64 0] 41 (0, 0)) ∧ W1.heap[w.heap.size + 1 + 1 + 1]? = some (.cells #[.bool false, .int .i64 t0, .int .i64 0, .int .i64 t1, .int .i64 0, .int .i64 t2, .int .i64 0] 41 (0, 0))) := Lib.hid (by
    rw [hW1]
    refine ⟨by simp, (((alloc1 _ _).alloc (by simp) _).alloc (by simp; omega) _).alloc (by simp; omega) _, ?_, ?_, ?_⟩
    · exact V.alloc_old _ (V.alloc_old _ (V.alloc_at _ (by simp)))
    · exact V.alloc_old _ (V.alloc_at _ (by simp))
    · exact V.alloc_at _ (by simp))
  have HRC := Lib.hid (run_any A B ca cb p q ⟨false, t0, 0, t1, 0, t2, 0⟩ W1 h (hA.below HM.out.2.1) (hB.below HM.out.2.1))
  have HNC := Lib.hid (fun (W : World) (hW : Below w.heap.size w W) => next_any A B ca cb p q ⟨false, t0, 0, t1, 0, t2, 0⟩ W h (hA.below hW) (hB.below hW))
  simp only [ckV] at HRC HNC
  simp only [trV]
  clear h hA hB
  obtain ⟨rv, hrv⟩ : ∃ r, r = run p q (t0, t1, t2) := ⟨_, rfl⟩
  obtain ⟨nv, hnv⟩ : ∃ r, r = nxt p q (t0, t1, t2) := ⟨_, rfl⟩
  rw [← hrv, ← hnv] at HST
  rw [← hrv] at HRC hrl
  rw [← hnv] at HNC HNK
  obtain ⟨sv, hsv⟩ : ∃ r, r = step p q (e0, e1, e2) (t0, t1, t2) := ⟨_, rfl⟩
  rw [← hsv] at HST ⊢
  clear hrv hnv hsv
  go_enter Try.func52, Try.ntmps52
  go_wp2_with fail
  rw [← hW1]
  with_reducible refine (HRC.out).mono ?_
  rintro e w2 ⟨rfl, hb2⟩
  obtain ⟨hs1, hb1, g1, g2, g3⟩ := HM.out
  have k1 := (hb2.block _ (L.blk_lt g1)).trans g1
  have k2 := (hb2.block _ (L.blk_lt g2)).trans g2
  have k3 := (hb2.block _ (L.blk_lt g3)).trans g3
  have HB2 := Lib.hid (hb1.trans (hb2.mono (by omega)))
  have hs2 : w.heap.size + 1 + 1 + 1 + 1 ≤ w2.heap.size := by have := hb2.size; omega
  clear hb2 HRC g1 g2 g3 hb1 hs1 hW1 HM
  obtain ⟨b0, hb0⟩ : ∃ b, b = w.heap.size := ⟨_, rfl⟩
  rw [← hb0] at k1 k2 k3 hs2 HB2 ⊢
  rw [← hb0] at HNC
  have HBE := Lib.hid hb0
  clear hb0
  have K1 := Lib.hid k1
  have K2 := Lib.hid k2
  have K3 := Lib.hid k3

  by_cases hr : rv = 0
  · subst hr
    have HV0 := Lib.hid (HST.out.trans (if_pos rfl))
    have c0 := L.blk_cell k3 0
    have c1 := L.blk_cell k3 1
    have c2 := L.blk_cell k3 2
    have c3 := L.blk_cell k3 3
    have c4 := L.blk_cell k3 4
    have c5 := L.blk_cell k3 5
    have c6 := L.blk_cell k3 6
    simp only [List.getElem?_toArray, List.getElem?_cons_zero, List.getElem?_cons_succ] at c0 c1 c2 c3 c4 c5 c6
    clear k1 k2 k3 HST
    go_wp2_with fail
    with_reducible refine (HNC.out w2 HB2.out).mono ?_
    rintro e w3 ⟨rfl, hb3⟩
    have HE := Lib.hid ((hb3.block _ (L.blk_lt K1.out)).trans K1.out)
    have HR := Lib.hid ((hb3.block _ (L.blk_lt K2.out)).trans K2.out)
    have HC := Lib.hid ((hb3.block _ (L.blk_lt K3.out)).trans K3.out)
    have HW := Lib.hid (HB2.out.trans (hb3.mono (by omega)))
    clear c0 c1 c2 c3 c4 c5 c6 hb3 K1 K2 K3 HNC HB2 hs2
    cases nv with
    | none =>
      have HV := HV0
      simp only [Option.getD_none] at HV
      clear HV0 HNK
      simp only [nxV, Option.getD_none, Option.isSome_none]
      go_wp2_with fail
      generalize w3 = wa at *
      refine wp_region_held_drew (S := fun wz => wz.heap[b0 + 1]? = some (.cells #[.int .i64 e0, .int .i64 e1, .int .i64 e2] 72 (0, 0)) ∧ ∃ u2 u4 u6, wz.heap[b0 + 1 + 1 + 1]? = some (.cells #[.bool false, .int .i64 t0, u2, .int .i64 t1, u4, .int .i64 t2, u6] 41 (0, 0))) (by kernel_rfl) ⟨HE.out, _, _, _, HC.out⟩ (fun hS => ?_)
      replace HE : Hid (wa.drew.heap[b0 + 1]? = _) := Lib.hid HE.out
      replace HC : Hid (wa.drew.heap[b0 + 1 + 1 + 1]? = _) := Lib.hid HC.out
      replace HR : Hid (wa.drew.heap[b0 + 1 + 1]? = _) := Lib.hid HR.out
      replace HW := Lib.hid (HW.out.drew)
      generalize wa.drew = wc at *
      have hw0 : IntKind.i64.wrap (e0 - t0) = e0 - t0 := by rw [IntKind.wrap_i64]; omega
      have hw1 : IntKind.i64.wrap (e1 - t1) = e1 - t1 := by rw [IntKind.wrap_i64]; omega
      have hw2 : IntKind.i64.wrap (e2 - t2) = e2 - t2 := by rw [IntKind.wrap_i64]; omega
      refine wpAnyH_take (i := 0) (oi := { dst := some 50, op := Go.Op.indexAddr 72 (Go.Operand.tmp 7) (Go.Operand.const (Go.Value.int Go.IntKind.i64 0)), type := 0, pos := "chunk.go:105", after := #[], guard := none }) (v := ?_) rfl (by kernel_rfl) (by kernel_rfl) (by kernel_rfl) (fun _ _ _ h => h) (Or.inl ⟨by rfl, ?_⟩) hS ?_
      rotate_left
      · (intro wz hSz; obtain ⟨h1, u2, u4, u6, h2⟩ := hSz; have a0 := L.blk_cell h1 0; have a1 := L.blk_cell h1 1; have a2 := L.blk_cell h1 2; have o1 := L.blk_cell h2 1; have o3 := L.blk_cell h2 3; have o5 := L.blk_cell h2 5; simp only [List.getElem?_toArray, List.getElem?_cons_zero, List.getElem?_cons_succ] at a0 a1 a2 o1 o3 o5; go_simp; try with_reducible rfl)
      try simp only [Act.put, List.setIfInBounds_toArray, List.set_cons_zero, List.set_cons_succ]
      refine wpAnyH_take (i := 1) (oi := { dst := some 51, op := Go.Op.load 3 (Go.Operand.tmp 50), type := 3, pos := "chunk.go:105", after := #[{ on := 0, ground := Go.Ground.data }], guard := none }) (v := ?_) rfl (by kernel_rfl) (by kernel_rfl) (by kernel_rfl) (fun _ _ _ h => h) (Or.inl ⟨by rfl, ?_⟩) hS ?_
      rotate_left
      · (intro wz hSz; obtain ⟨h1, u2, u4, u6, h2⟩ := hSz; have a0 := L.blk_cell h1 0; have a1 := L.blk_cell h1 1; have a2 := L.blk_cell h1 2; have o1 := L.blk_cell h2 1; have o3 := L.blk_cell h2 3; have o5 := L.blk_cell h2 5; simp only [List.getElem?_toArray, List.getElem?_cons_zero, List.getElem?_cons_succ] at a0 a1 a2 o1 o3 o5; go_simp; try with_reducible rfl)
      try simp only [Act.put, List.setIfInBounds_toArray, List.set_cons_zero, List.set_cons_succ]
      refine wpAnyH_take (i := 2) (oi := { dst := some 52, op := Go.Op.fieldAddr 41 (Go.Operand.tmp 9) 1, type := 0, pos := "chunk.go:105", after := #[], guard := none }) (v := ?_) rfl (by kernel_rfl) (by kernel_rfl) (by kernel_rfl) (fun _ _ _ h => h) (Or.inl ⟨by rfl, ?_⟩) hS ?_
      rotate_left
      · (intro wz hSz; obtain ⟨h1, u2, u4, u6, h2⟩ := hSz; have a0 := L.blk_cell h1 0; have a1 := L.blk_cell h1 1; have a2 := L.blk_cell h1 2; have o1 := L.blk_cell h2 1; have o3 := L.blk_cell h2 3; have o5 := L.blk_cell h2 5; simp only [List.getElem?_toArray, List.getElem?_cons_zero, List.getElem?_cons_succ] at a0 a1 a2 o1 o3 o5; go_simp; try with_reducible rfl)
      try simp only [Act.put, List.setIfInBounds_toArray, List.set_cons_zero, List.set_cons_succ]
      refine wpAnyH_take (i := 3) (oi := { dst := some 53, op := Go.Op.load 3 (Go.Operand.tmp 52), type := 3, pos := "chunk.go:105", after := #[{ on := 2, ground := Go.Ground.data }], guard := none }) (v := ?_) rfl (by kernel_rfl) (by kernel_rfl) (by kernel_rfl) (fun _ _ _ h => h) (Or.inl ⟨by rfl, ?_⟩) hS ?_
      rotate_left
      · (intro wz hSz; obtain ⟨h1, u2, u4, u6, h2⟩ := hSz; have a0 := L.blk_cell h1 0; have a1 := L.blk_cell h1 1; have a2 := L.blk_cell h1 2; have o1 := L.blk_cell h2 1; have o3 := L.blk_cell h2 3; have o5 := L.blk_cell h2 5; simp only [List.getElem?_toArray, List.getElem?_cons_zero, List.getElem?_cons_succ] at a0 a1 a2 o1 o3 o5; go_simp; try with_reducible rfl)
      try simp only [Act.put, List.setIfInBounds_toArray, List.set_cons_zero, List.set_cons_succ]
      refine wpAnyH_take (i := 4) (oi := { dst := some 54, op := Go.Op.binOp Go.BinOp.sub 3 (Go.Operand.tmp 51) (Go.Operand.tmp 53) 3, type := 3, pos := "chunk.go:105", after := #[{ on := 1, ground := Go.Ground.data }, { on := 3, ground := Go.Ground.data }], guard := none }) (v := ?_) rfl (by kernel_rfl) (by kernel_rfl) (by kernel_rfl) (fun _ _ _ h => h) (Or.inl ⟨by rfl, ?_⟩) hS ?_
      rotate_left
      · (intro wz hSz; obtain ⟨h1, u2, u4, u6, h2⟩ := hSz; have a0 := L.blk_cell h1 0; have a1 := L.blk_cell h1 1; have a2 := L.blk_cell h1 2; have o1 := L.blk_cell h2 1; have o3 := L.blk_cell h2 3; have o5 := L.blk_cell h2 5; simp only [List.getElem?_toArray, List.getElem?_cons_zero, List.getElem?_cons_succ] at a0 a1 a2 o1 o3 o5; go_simp; try with_reducible rfl)
      try simp only [Act.put, List.setIfInBounds_toArray, List.set_cons_zero, List.set_cons_succ]
      refine wpAnyH_take (i := 5) (oi := { dst := some 55, op := Go.Op.indexAddr 72 (Go.Operand.tmp 7) (Go.Operand.const (Go.Value.int Go.IntKind.i64 1)), type := 0, pos := "chunk.go:105", after := #[], guard := none }) (v := ?_) rfl (by kernel_rfl) (by kernel_rfl) (by kernel_rfl) (fun _ _ _ h => h) (Or.inl ⟨by rfl, ?_⟩) hS ?_
      rotate_left
      · (intro wz hSz; obtain ⟨h1, u2, u4, u6, h2⟩ := hSz; have a0 := L.blk_cell h1 0; have a1 := L.blk_cell h1 1; have a2 := L.blk_cell h1 2; have o1 := L.blk_cell h2 1; have o3 := L.blk_cell h2 3; have o5 := L.blk_cell h2 5; simp only [List.getElem?_toArray, List.getElem?_cons_zero, List.getElem?_cons_succ] at a0 a1 a2 o1 o3 o5; go_simp; try with_reducible rfl)
      try simp only [Act.put, List.setIfInBounds_toArray, List.set_cons_zero, List.set_cons_succ]
      refine wpAnyH_take (i := 6) (oi := { dst := some 56, op := Go.Op.load 3 (Go.Operand.tmp 55), type := 3, pos := "chunk.go:105", after := #[{ on := 5, ground := Go.Ground.data }], guard := none }) (v := ?_) rfl (by kernel_rfl) (by kernel_rfl) (by kernel_rfl) (fun _ _ _ h => h) (Or.inl ⟨by rfl, ?_⟩) hS ?_
      rotate_left
      · (intro wz hSz; obtain ⟨h1, u2, u4, u6, h2⟩ := hSz; have a0 := L.blk_cell h1 0; have a1 := L.blk_cell h1 1; have a2 := L.blk_cell h1 2; have o1 := L.blk_cell h2 1; have o3 := L.blk_cell h2 3; have o5 := L.blk_cell h2 5; simp only [List.getElem?_toArray, List.getElem?_cons_zero, List.getElem?_cons_succ] at a0 a1 a2 o1 o3 o5; go_simp; try with_reducible rfl)
      try simp only [Act.put, List.setIfInBounds_toArray, List.set_cons_zero, List.set_cons_succ]
      refine wpAnyH_take (i := 7) (oi := { dst := some 57, op := Go.Op.fieldAddr 41 (Go.Operand.tmp 9) 3, type := 0, pos := "chunk.go:105", after := #[], guard := none }) (v := ?_) rfl (by kernel_rfl) (by kernel_rfl) (by kernel_rfl) (fun _ _ _ h => h) (Or.inl ⟨by rfl, ?_⟩) hS ?_
      rotate_left
      · (intro wz hSz; obtain ⟨h1, u2, u4, u6, h2⟩ := hSz; have a0 := L.blk_cell h1 0; have a1 := L.blk_cell h1 1; have a2 := L.blk_cell h1 2; have o1 := L.blk_cell h2 1; have o3 := L.blk_cell h2 3; have o5 := L.blk_cell h2 5; simp only [List.getElem?_toArray, List.getElem?_cons_zero, List.getElem?_cons_succ] at a0 a1 a2 o1 o3 o5; go_simp; try with_reducible rfl)
      try simp only [Act.put, List.setIfInBounds_toArray, List.set_cons_zero, List.set_cons_succ]
      refine wpAnyH_take (i := 8) (oi := { dst := some 58, op := Go.Op.load 3 (Go.Operand.tmp 57), type := 3, pos := "chunk.go:105", after := #[{ on := 7, ground := Go.Ground.data }], guard := none }) (v := ?_) rfl (by kernel_rfl) (by kernel_rfl) (by kernel_rfl) (fun _ _ _ h => h) (Or.inl ⟨by rfl, ?_⟩) hS ?_
      rotate_left
      · (intro wz hSz; obtain ⟨h1, u2, u4, u6, h2⟩ := hSz; have a0 := L.blk_cell h1 0; have a1 := L.blk_cell h1 1; have a2 := L.blk_cell h1 2; have o1 := L.blk_cell h2 1; have o3 := L.blk_cell h2 3; have o5 := L.blk_cell h2 5; simp only [List.getElem?_toArray, List.getElem?_cons_zero, List.getElem?_cons_succ] at a0 a1 a2 o1 o3 o5; go_simp; try with_reducible rfl)
      try simp only [Act.put, List.setIfInBounds_toArray, List.set_cons_zero, List.set_cons_succ]
      refine wpAnyH_take (i := 9) (oi := { dst := some 59, op := Go.Op.binOp Go.BinOp.sub 3 (Go.Operand.tmp 56) (Go.Operand.tmp 58) 3, type := 3, pos := "chunk.go:105", after := #[{ on := 6, ground := Go.Ground.data }, { on := 8, ground := Go.Ground.data }], guard := none }) (v := ?_) rfl (by kernel_rfl) (by kernel_rfl) (by kernel_rfl) (fun _ _ _ h => h) (Or.inl ⟨by rfl, ?_⟩) hS ?_
      rotate_left
      · (intro wz hSz; obtain ⟨h1, u2, u4, u6, h2⟩ := hSz; have a0 := L.blk_cell h1 0; have a1 := L.blk_cell h1 1; have a2 := L.blk_cell h1 2; have o1 := L.blk_cell h2 1; have o3 := L.blk_cell h2 3; have o5 := L.blk_cell h2 5; simp only [List.getElem?_toArray, List.getElem?_cons_zero, List.getElem?_cons_succ] at a0 a1 a2 o1 o3 o5; go_simp; try with_reducible rfl)
      try simp only [Act.put, List.setIfInBounds_toArray, List.set_cons_zero, List.set_cons_succ]
      refine wpAnyH_take (i := 10) (oi := { dst := some 60, op := Go.Op.indexAddr 72 (Go.Operand.tmp 7) (Go.Operand.const (Go.Value.int Go.IntKind.i64 2)), type := 0, pos := "chunk.go:105", after := #[], guard := none }) (v := ?_) rfl (by kernel_rfl) (by kernel_rfl) (by kernel_rfl) (fun _ _ _ h => h) (Or.inl ⟨by rfl, ?_⟩) hS ?_
      rotate_left
      · (intro wz hSz; obtain ⟨h1, u2, u4, u6, h2⟩ := hSz; have a0 := L.blk_cell h1 0; have a1 := L.blk_cell h1 1; have a2 := L.blk_cell h1 2; have o1 := L.blk_cell h2 1; have o3 := L.blk_cell h2 3; have o5 := L.blk_cell h2 5; simp only [List.getElem?_toArray, List.getElem?_cons_zero, List.getElem?_cons_succ] at a0 a1 a2 o1 o3 o5; go_simp; try with_reducible rfl)
      try simp only [Act.put, List.setIfInBounds_toArray, List.set_cons_zero, List.set_cons_succ]
      refine wpAnyH_take (i := 11) (oi := { dst := some 61, op := Go.Op.load 3 (Go.Operand.tmp 60), type := 3, pos := "chunk.go:105", after := #[{ on := 10, ground := Go.Ground.data }], guard := none }) (v := ?_) rfl (by kernel_rfl) (by kernel_rfl) (by kernel_rfl) (fun _ _ _ h => h) (Or.inl ⟨by rfl, ?_⟩) hS ?_
      rotate_left
      · (intro wz hSz; obtain ⟨h1, u2, u4, u6, h2⟩ := hSz; have a0 := L.blk_cell h1 0; have a1 := L.blk_cell h1 1; have a2 := L.blk_cell h1 2; have o1 := L.blk_cell h2 1; have o3 := L.blk_cell h2 3; have o5 := L.blk_cell h2 5; simp only [List.getElem?_toArray, List.getElem?_cons_zero, List.getElem?_cons_succ] at a0 a1 a2 o1 o3 o5; go_simp; try with_reducible rfl)
      try simp only [Act.put, List.setIfInBounds_toArray, List.set_cons_zero, List.set_cons_succ]
      refine wpAnyH_take (i := 12) (oi := { dst := some 62, op := Go.Op.fieldAddr 41 (Go.Operand.tmp 9) 5, type := 0, pos := "chunk.go:105", after := #[], guard := none }) (v := ?_) rfl (by kernel_rfl) (by kernel_rfl) (by kernel_rfl) (fun _ _ _ h => h) (Or.inl ⟨by rfl, ?_⟩) hS ?_
      rotate_left
      · (intro wz hSz; obtain ⟨h1, u2, u4, u6, h2⟩ := hSz; have a0 := L.blk_cell h1 0; have a1 := L.blk_cell h1 1; have a2 := L.blk_cell h1 2; have o1 := L.blk_cell h2 1; have o3 := L.blk_cell h2 3; have o5 := L.blk_cell h2 5; simp only [List.getElem?_toArray, List.getElem?_cons_zero, List.getElem?_cons_succ] at a0 a1 a2 o1 o3 o5; go_simp; try with_reducible rfl)
      try simp only [Act.put, List.setIfInBounds_toArray, List.set_cons_zero, List.set_cons_succ]
      refine wpAnyH_take (i := 13) (oi := { dst := some 63, op := Go.Op.load 3 (Go.Operand.tmp 62), type := 3, pos := "chunk.go:105", after := #[{ on := 12, ground := Go.Ground.data }], guard := none }) (v := ?_) rfl (by kernel_rfl) (by kernel_rfl) (by kernel_rfl) (fun _ _ _ h => h) (Or.inl ⟨by rfl, ?_⟩) hS ?_
      rotate_left
      · (intro wz hSz; obtain ⟨h1, u2, u4, u6, h2⟩ := hSz; have a0 := L.blk_cell h1 0; have a1 := L.blk_cell h1 1; have a2 := L.blk_cell h1 2; have o1 := L.blk_cell h2 1; have o3 := L.blk_cell h2 3; have o5 := L.blk_cell h2 5; simp only [List.getElem?_toArray, List.getElem?_cons_zero, List.getElem?_cons_succ] at a0 a1 a2 o1 o3 o5; go_simp; try with_reducible rfl)
      try simp only [Act.put, List.setIfInBounds_toArray, List.set_cons_zero, List.set_cons_succ]
      refine wpAnyH_take (i := 14) (oi := { dst := some 64, op := Go.Op.binOp Go.BinOp.sub 3 (Go.Operand.tmp 61) (Go.Operand.tmp 63) 3, type := 3, pos := "chunk.go:105", after := #[{ on := 11, ground := Go.Ground.data }, { on := 13, ground := Go.Ground.data }], guard := none }) (v := ?_) rfl (by kernel_rfl) (by kernel_rfl) (by kernel_rfl) (fun _ _ _ h => h) (Or.inl ⟨by rfl, ?_⟩) hS ?_
      rotate_left
      · (intro wz hSz; obtain ⟨h1, u2, u4, u6, h2⟩ := hSz; have a0 := L.blk_cell h1 0; have a1 := L.blk_cell h1 1; have a2 := L.blk_cell h1 2; have o1 := L.blk_cell h2 1; have o3 := L.blk_cell h2 3; have o5 := L.blk_cell h2 5; simp only [List.getElem?_toArray, List.getElem?_cons_zero, List.getElem?_cons_succ] at a0 a1 a2 o1 o3 o5; go_simp; try with_reducible rfl)
      try simp only [Act.put, List.setIfInBounds_toArray, List.set_cons_zero, List.set_cons_succ]
      clear hw0 hw1 hw2
      refine wpAnyH_take (i := 15) (oi := { dst := some 65, op := Go.Op.fieldAddr 41 (Go.Operand.tmp 9) 2, type := 0, pos := "chunk.go:105", after := #[{ on := 0, ground := Go.Ground.phase }, { on := 1, ground := Go.Ground.phase }, { on := 2, ground := Go.Ground.phase }, { on := 3, ground := Go.Ground.phase }, { on := 4, ground := Go.Ground.phase }, { on := 5, ground := Go.Ground.textOnly Go.Departure.lateStores }, { on := 6, ground := Go.Ground.textOnly Go.Departure.lateStores }, { on := 7, ground := Go.Ground.phase }, { on := 8, ground := Go.Ground.phase }, { on := 9, ground := Go.Ground.textOnly Go.Departure.lateStoresUnsure }, { on := 10, ground := Go.Ground.textOnly Go.Departure.lateStores }, { on := 11, ground := Go.Ground.textOnly Go.Departure.lateStores }, { on := 12, ground := Go.Ground.phase }, { on := 13, ground := Go.Ground.phase }, { on := 14, ground := Go.Ground.textOnly Go.Departure.lateStoresUnsure }], guard := none }) (v := ?_) rfl (by kernel_rfl) (by kernel_rfl) (by kernel_rfl) (fun _ _ _ h => h) (Or.inl ⟨by rfl, ?_⟩) hS ?_
      rotate_left
      · (intro wz hSz; obtain ⟨h1, u2, u4, u6, h2⟩ := hSz; have a0 := L.blk_cell h1 0; have a1 := L.blk_cell h1 1; have a2 := L.blk_cell h1 2; have o1 := L.blk_cell h2 1; have o3 := L.blk_cell h2 3; have o5 := L.blk_cell h2 5; simp only [List.getElem?_toArray, List.getElem?_cons_zero, List.getElem?_cons_succ] at a0 a1 a2 o1 o3 o5; go_simp; try with_reducible rfl)
      try simp only [Act.put, List.setIfInBounds_toArray, List.set_cons_zero, List.set_cons_succ]
      have c0 := L.blk_cell HC.out 2
      have f0 := L.blk_free HC.out 2
      simp only [List.getElem?_toArray, List.getElem?_cons_zero, List.getElem?_cons_succ] at c0
      refine wpAnyH_ready (rs := [16]) (by kernel_rfl) (by simp) ?_
      refine AllReadyH.cons (o := { dst := none, op := Go.Op.store 3 (Go.Operand.tmp 65) (Go.Operand.tmp 54), type := 0, pos := "chunk.go:105", after := #[{ on := 15, ground := Go.Ground.data }, { on := 4, ground := Go.Ground.data }, { on := 0, ground := Go.Ground.phase }, { on := 1, ground := Go.Ground.phase }, { on := 2, ground := Go.Ground.phase }, { on := 3, ground := Go.Ground.phase }, { on := 4, ground := Go.Ground.phase }, { on := 5, ground := Go.Ground.textOnly Go.Departure.lateStores }, { on := 6, ground := Go.Ground.textOnly Go.Departure.lateStores }, { on := 7, ground := Go.Ground.phase }, { on := 8, ground := Go.Ground.phase }, { on := 9, ground := Go.Ground.textOnly Go.Departure.lateStoresUnsure }, { on := 10, ground := Go.Ground.textOnly Go.Departure.lateStores }, { on := 11, ground := Go.Ground.textOnly Go.Departure.lateStores }, { on := 12, ground := Go.Ground.phase }, { on := 13, ground := Go.Ground.phase }, { on := 14, ground := Go.Ground.textOnly Go.Departure.lateStoresUnsure }], guard := none }) rfl (fun K hK => ?_) AllReadyH.nil
      go_simp
      replace HC : Hid ((wc.setCell ⟨b0 + 1 + 1 + 1, 2, none⟩ (.int .i64 (e0 - t0))).heap[b0 + 1 + 1 + 1]? = some (.cells #[.bool false, .int .i64 t0, .int .i64 (e0 - t0), .int .i64 t1, .int .i64 0, .int .i64 t2, .int .i64 0] 41 (0, 0))) := Lib.hid (L.blk_set HC.out 2 (.int .i64 (e0 - t0)))
      replace HE := Lib.hid ((L.blk_far (g' := b0 + 1 + 1 + 1) (i := 2) (by omega) (.int .i64 (e0 - t0))).trans HE.out)
      replace HR := Lib.hid ((L.blk_far (g' := b0 + 1 + 1 + 1) (i := 2) (by omega) (.int .i64 (e0 - t0))).trans HR.out)
      replace HW := Lib.hid (HW.out.setCell (p := ⟨b0 + 1 + 1 + 1, 2, none⟩) (by show b0 ≤ b0 + 1 + 1 + 1; omega) (.int .i64 (e0 - t0)))
      refine hK.out _ _ ⟨HE.out, _, _, _, HC.out⟩ (fun hS1 => ?_)
      clear hK K c0 f0 hS
      have hS := hS1
      clear hS1
      generalize wc.setCell ⟨b0 + 1 + 1 + 1, 2, none⟩ (.int .i64 (e0 - t0)) = wd at *
      clear wc
      generalize hwc : wd = wc at *
      clear hwc wd
      try simp only [Act.put, List.setIfInBounds_toArray, List.set_cons_zero, List.set_cons_succ]
      refine wpAnyH_take (i := 17) (oi := { dst := some 66, op := Go.Op.fieldAddr 41 (Go.Operand.tmp 9) 4, type := 0, pos := "chunk.go:105", after := #[{ on := 0, ground := Go.Ground.phase }, { on := 1, ground := Go.Ground.phase }, { on := 2, ground := Go.Ground.phase }, { on := 3, ground := Go.Ground.phase }, { on := 4, ground := Go.Ground.phase }, { on := 5, ground := Go.Ground.phase }, { on := 6, ground := Go.Ground.phase }, { on := 7, ground := Go.Ground.phase }, { on := 8, ground := Go.Ground.phase }, { on := 9, ground := Go.Ground.phase }, { on := 10, ground := Go.Ground.textOnly Go.Departure.lateStores }, { on := 11, ground := Go.Ground.textOnly Go.Departure.lateStores }, { on := 12, ground := Go.Ground.phase }, { on := 13, ground := Go.Ground.phase }, { on := 14, ground := Go.Ground.textOnly Go.Departure.lateStoresUnsure }, { on := 15, ground := Go.Ground.phase }, { on := 16, ground := Go.Ground.phase }], guard := none }) (v := ?_) rfl (by kernel_rfl) (by kernel_rfl) (by kernel_rfl) (fun _ _ _ h => h) (Or.inl ⟨by rfl, ?_⟩) hS ?_
      rotate_left
      · (intro wz hSz; obtain ⟨h1, u2, u4, u6, h2⟩ := hSz; have a0 := L.blk_cell h1 0; have a1 := L.blk_cell h1 1; have a2 := L.blk_cell h1 2; have o1 := L.blk_cell h2 1; have o3 := L.blk_cell h2 3; have o5 := L.blk_cell h2 5; simp only [List.getElem?_toArray, List.getElem?_cons_zero, List.getElem?_cons_succ] at a0 a1 a2 o1 o3 o5; go_simp; try with_reducible rfl)
      try simp only [Act.put, List.setIfInBounds_toArray, List.set_cons_zero, List.set_cons_succ]
      have c0 := L.blk_cell HC.out 4
      have f0 := L.blk_free HC.out 4
      simp only [List.getElem?_toArray, List.getElem?_cons_zero, List.getElem?_cons_succ] at c0
      refine wpAnyH_ready (rs := [18]) (by kernel_rfl) (by simp) ?_
      refine AllReadyH.cons (o := { dst := none, op := Go.Op.store 3 (Go.Operand.tmp 66) (Go.Operand.tmp 59), type := 0, pos := "chunk.go:105", after := #[{ on := 17, ground := Go.Ground.data }, { on := 9, ground := Go.Ground.data }, { on := 16, ground := Go.Ground.chain }, { on := 0, ground := Go.Ground.phase }, { on := 1, ground := Go.Ground.phase }, { on := 2, ground := Go.Ground.phase }, { on := 3, ground := Go.Ground.phase }, { on := 4, ground := Go.Ground.phase }, { on := 5, ground := Go.Ground.phase }, { on := 6, ground := Go.Ground.phase }, { on := 7, ground := Go.Ground.phase }, { on := 8, ground := Go.Ground.phase }, { on := 9, ground := Go.Ground.phase }, { on := 10, ground := Go.Ground.textOnly Go.Departure.lateStores }, { on := 11, ground := Go.Ground.textOnly Go.Departure.lateStores }, { on := 12, ground := Go.Ground.phase }, { on := 13, ground := Go.Ground.phase }, { on := 14, ground := Go.Ground.textOnly Go.Departure.lateStoresUnsure }, { on := 15, ground := Go.Ground.phase }, { on := 16, ground := Go.Ground.phase }], guard := none }) rfl (fun K hK => ?_) AllReadyH.nil
      go_simp
      replace HC : Hid ((wc.setCell ⟨b0 + 1 + 1 + 1, 4, none⟩ (.int .i64 (e1 - t1))).heap[b0 + 1 + 1 + 1]? = some (.cells #[.bool false, .int .i64 t0, .int .i64 (e0 - t0), .int .i64 t1, .int .i64 (e1 - t1), .int .i64 t2, .int .i64 0] 41 (0, 0))) := Lib.hid (L.blk_set HC.out 4 (.int .i64 (e1 - t1)))
      replace HE := Lib.hid ((L.blk_far (g' := b0 + 1 + 1 + 1) (i := 4) (by omega) (.int .i64 (e1 - t1))).trans HE.out)
      replace HR := Lib.hid ((L.blk_far (g' := b0 + 1 + 1 + 1) (i := 4) (by omega) (.int .i64 (e1 - t1))).trans HR.out)
      replace HW := Lib.hid (HW.out.setCell (p := ⟨b0 + 1 + 1 + 1, 4, none⟩) (by show b0 ≤ b0 + 1 + 1 + 1; omega) (.int .i64 (e1 - t1)))
      refine hK.out _ _ ⟨HE.out, _, _, _, HC.out⟩ (fun hS1 => ?_)
      clear hK K c0 f0 hS
      have hS := hS1
      clear hS1
      generalize wc.setCell ⟨b0 + 1 + 1 + 1, 4, none⟩ (.int .i64 (e1 - t1)) = wd at *
      clear wc
      generalize hwc : wd = wc at *
      clear hwc wd
      try simp only [Act.put, List.setIfInBounds_toArray, List.set_cons_zero, List.set_cons_succ]
      refine wpAnyH_take (i := 19) (oi := { dst := some 67, op := Go.Op.fieldAddr 41 (Go.Operand.tmp 9) 6, type := 0, pos := "chunk.go:105", after := #[{ on := 0, ground := Go.Ground.phase }, { on := 1, ground := Go.Ground.phase }, { on := 2, ground := Go.Ground.phase }, { on := 3, ground := Go.Ground.phase }, { on := 4, ground := Go.Ground.phase }, { on := 5, ground := Go.Ground.phase }, { on := 6, ground := Go.Ground.phase }, { on := 7, ground := Go.Ground.phase }, { on := 8, ground := Go.Ground.phase }, { on := 9, ground := Go.Ground.phase }, { on := 10, ground := Go.Ground.phase }, { on := 11, ground := Go.Ground.phase }, { on := 12, ground := Go.Ground.phase }, { on := 13, ground := Go.Ground.phase }, { on := 14, ground := Go.Ground.phase }, { on := 15, ground := Go.Ground.phase }, { on := 16, ground := Go.Ground.phase }, { on := 17, ground := Go.Ground.phase }, { on := 18, ground := Go.Ground.phase }], guard := none }) (v := ?_) rfl (by kernel_rfl) (by kernel_rfl) (by kernel_rfl) (fun _ _ _ h => h) (Or.inl ⟨by rfl, ?_⟩) hS ?_
      rotate_left
      · (intro wz hSz; obtain ⟨h1, u2, u4, u6, h2⟩ := hSz; have a0 := L.blk_cell h1 0; have a1 := L.blk_cell h1 1; have a2 := L.blk_cell h1 2; have o1 := L.blk_cell h2 1; have o3 := L.blk_cell h2 3; have o5 := L.blk_cell h2 5; simp only [List.getElem?_toArray, List.getElem?_cons_zero, List.getElem?_cons_succ] at a0 a1 a2 o1 o3 o5; go_simp; try with_reducible rfl)
      try simp only [Act.put, List.setIfInBounds_toArray, List.set_cons_zero, List.set_cons_succ]
      have c0 := L.blk_cell HC.out 6
      have f0 := L.blk_free HC.out 6
      simp only [List.getElem?_toArray, List.getElem?_cons_zero, List.getElem?_cons_succ] at c0
      refine wpAnyH_ready (rs := [20]) (by kernel_rfl) (by simp) ?_
      refine AllReadyH.cons (o := { dst := none, op := Go.Op.store 3 (Go.Operand.tmp 67) (Go.Operand.tmp 64), type := 0, pos := "chunk.go:105", after := #[{ on := 19, ground := Go.Ground.data }, { on := 14, ground := Go.Ground.data }, { on := 18, ground := Go.Ground.chain }, { on := 0, ground := Go.Ground.phase }, { on := 1, ground := Go.Ground.phase }, { on := 2, ground := Go.Ground.phase }, { on := 3, ground := Go.Ground.phase }, { on := 4, ground := Go.Ground.phase }, { on := 5, ground := Go.Ground.phase }, { on := 6, ground := Go.Ground.phase }, { on := 7, ground := Go.Ground.phase }, { on := 8, ground := Go.Ground.phase }, { on := 9, ground := Go.Ground.phase }, { on := 10, ground := Go.Ground.phase }, { on := 11, ground := Go.Ground.phase }, { on := 12, ground := Go.Ground.phase }, { on := 13, ground := Go.Ground.phase }, { on := 14, ground := Go.Ground.phase }, { on := 15, ground := Go.Ground.phase }, { on := 16, ground := Go.Ground.phase }, { on := 17, ground := Go.Ground.phase }, { on := 18, ground := Go.Ground.phase }], guard := none }) rfl (fun K hK => ?_) AllReadyH.nil
      go_simp
      replace HC : Hid ((wc.setCell ⟨b0 + 1 + 1 + 1, 6, none⟩ (.int .i64 (e2 - t2))).heap[b0 + 1 + 1 + 1]? = some (.cells #[.bool false, .int .i64 t0, .int .i64 (e0 - t0), .int .i64 t1, .int .i64 (e1 - t1), .int .i64 t2, .int .i64 (e2 - t2)] 41 (0, 0))) := Lib.hid (L.blk_set HC.out 6 (.int .i64 (e2 - t2)))
      replace HE := Lib.hid ((L.blk_far (g' := b0 + 1 + 1 + 1) (i := 6) (by omega) (.int .i64 (e2 - t2))).trans HE.out)
      replace HR := Lib.hid ((L.blk_far (g' := b0 + 1 + 1 + 1) (i := 6) (by omega) (.int .i64 (e2 - t2))).trans HR.out)
      replace HW := Lib.hid (HW.out.setCell (p := ⟨b0 + 1 + 1 + 1, 6, none⟩) (by show b0 ≤ b0 + 1 + 1 + 1; omega) (.int .i64 (e2 - t2)))
      refine hK.out _ _ ⟨HE.out, _, _, _, HC.out⟩ (fun hS1 => ?_)
      clear hK K c0 f0 hS
      have hS := hS1
      clear hS1
      generalize wc.setCell ⟨b0 + 1 + 1 + 1, 6, none⟩ (.int .i64 (e2 - t2)) = wd at *
      clear wc
      generalize hwc : wd = wc at *
      clear hwc wd
      try simp only [Act.put, List.setIfInBounds_toArray, List.set_cons_zero, List.set_cons_succ]
      refine wpAnyH_done (by kernel_rfl) ?_ _
      clear hS
      have k3 := HC.out
      have k2 := HR.out
      have c0 := L.blk_cell k3 0
      have c1 := L.blk_cell k3 1
      have c2 := L.blk_cell k3 2
      have c3 := L.blk_cell k3 3
      have c4 := L.blk_cell k3 4
      have c5 := L.blk_cell k3 5
      have c6 := L.blk_cell k3 6
      have d0 := L.blk_cell k2 0
      have d1 := L.blk_cell k2 1
      have d2 := L.blk_cell k2 2
      have d3 := L.blk_cell k2 3
      have d4 := L.blk_cell k2 4
      have d5 := L.blk_cell k2 5
      have d6 := L.blk_cell k2 6
      have cf := fun i => L.blk_free k3 i
      have df := fun i => L.blk_free k2 i
      simp only [List.getElem?_toArray, List.getElem?_cons_zero, List.getElem?_cons_succ] at c0 c1 c2 c3 c4 c5 c6 d0 d1 d2 d3 d4 d5 d6
      have hne : ¬ (b0 + 1 + 1 + 1 = b0 + 1 + 1) := by omega
      clear k2 k3
      go_wp2_with fail
      refine bodyPost_ret (v := .agg #[.bool false, .int .i64 t0, .int .i64 (e0 - t0), .int .i64 t1, .int .i64 (e1 - t1), .int .i64 t2, .int .i64 (e2 - t2)]) (by simp [results, Try.results52, go_sem, d0, d1, d2, d3, d4, d5, d6]) rfl ⟨?_, ?_⟩
      · rw [HV.out]; rfl
      · rw [← HBE.out]
        exact (((((((HW.out).setCell (p := ⟨b0 + 1 + 1, 0, none⟩) (by show b0 ≤ b0 + 1 + 1; omega) _).setCell (p := ⟨b0 + 1 + 1, 1, none⟩) (by show b0 ≤ b0 + 1 + 1; omega) _).setCell (p := ⟨b0 + 1 + 1, 2, none⟩) (by show b0 ≤ b0 + 1 + 1; omega) _).setCell (p := ⟨b0 + 1 + 1, 3, none⟩) (by show b0 ≤ b0 + 1 + 1; omega) _).setCell (p := ⟨b0 + 1 + 1, 4, none⟩) (by show b0 ≤ b0 + 1 + 1; omega) _).setCell (p := ⟨b0 + 1 + 1, 5, none⟩) (by show b0 ≤ b0 + 1 + 1; omega) _).setCell (p := ⟨b0 + 1 + 1, 6, none⟩) (by show b0 ≤ b0 + 1 + 1; omega) _
    | some x =>
      obtain ⟨x0, x1, x2⟩ := x
      have HV := HV0
      simp only [Option.getD_some] at HV
      obtain ⟨⟨hx0, hx0'⟩, ⟨hx1, hx1'⟩, ⟨hx2, hx2'⟩⟩ := HNK.out _ rfl
      simp only at hx0 hx0' hx1 hx1' hx2 hx2'
      clear HV0 HNK
      simp only [nxV, Option.getD_some, Option.isSome_some]
      have g0 := L.blk_cell HE.out 0
      have g1 := L.blk_cell HE.out 1
      have g2 := L.blk_cell HE.out 2
      have gf := fun i => L.blk_free HE.out i
      simp only [List.getElem?_toArray, List.getElem?_cons_zero, List.getElem?_cons_succ] at g0 g1 g2
      obtain ⟨wa, hwa⟩ : ∃ W : World, W = ((w3.setCell ⟨b0 + 1, 0, none⟩ (.int .i64 x0)).setCell ⟨b0 + 1, 1, none⟩ (.int .i64 x1)).setCell ⟨b0 + 1, 2, none⟩ (.int .i64 x2) := ⟨_, rfl⟩
      have HE1 := Lib.hid (show wa.heap[b0 + 1]? = some (.cells #[.int .i64 x0, .int .i64 x1, .int .i64 x2] 72 (0, 0)) by rw [hwa]; exact L.blk_set (L.blk_set (L.blk_set HE.out 0 _) 1 _) 2 _)
      have HR1 := Lib.hid (show wa.heap[b0 + 1 + 1]? = some (.cells #[.bool false, .int .i64 0, .int .i64 0, .int .i64 0, .int .i64 0, .int .i64 0, .int .i64 0] 41 (0, 0)) by rw [hwa]; exact (L.blk_far (by omega) _).trans ((L.blk_far (by omega) _).trans ((L.blk_far (by omega) _).trans HR.out)))
      have HC1 := Lib.hid (show wa.heap[b0 + 1 + 1 + 1]? = some (.cells #[.bool false, .int .i64 t0, .int .i64 0, .int .i64 t1, .int .i64 0, .int .i64 t2, .int .i64 0] 41 (0, 0)) by rw [hwa]; exact (L.blk_far (by omega) _).trans ((L.blk_far (by omega) _).trans ((L.blk_far (by omega) _).trans HC.out)))
      have HW1 := Lib.hid (show Below b0 w wa by rw [hwa]; exact ((HW.out.setCell (p := ⟨b0 + 1, 0, none⟩) (by show b0 ≤ b0 + 1; omega) _).setCell (p := ⟨b0 + 1, 1, none⟩) (by show b0 ≤ b0 + 1; omega) _).setCell (p := ⟨b0 + 1, 2, none⟩) (by show b0 ≤ b0 + 1; omega) _)
      clear HE HR HC HW
      go_wp2_with fail
      rw [← hwa]
      clear hwa g0 g1 g2 gf
      clear w3
      have HE := HE1
      have HR := HR1
      have HC := HC1
      have HW := HW1
      clear HE1 HR1 HC1 HW1
      refine wp_region_held_drew (S := fun wz => wz.heap[b0 + 1]? = some (.cells #[.int .i64 x0, .int .i64 x1, .int .i64 x2] 72 (0, 0)) ∧ ∃ u2 u4 u6, wz.heap[b0 + 1 + 1 + 1]? = some (.cells #[.bool false, .int .i64 t0, u2, .int .i64 t1, u4, .int .i64 t2, u6] 41 (0, 0))) (by kernel_rfl) ⟨HE.out, _, _, _, HC.out⟩ (fun hS => ?_)
      replace HE : Hid (wa.drew.heap[b0 + 1]? = _) := Lib.hid HE.out
      replace HC : Hid (wa.drew.heap[b0 + 1 + 1 + 1]? = _) := Lib.hid HC.out
      replace HR : Hid (wa.drew.heap[b0 + 1 + 1]? = _) := Lib.hid HR.out
      replace HW := Lib.hid (HW.out.drew)
      generalize wa.drew = wc at *
      have hw0 : IntKind.i64.wrap (x0 - t0) = x0 - t0 := by rw [IntKind.wrap_i64]; omega
      have hw1 : IntKind.i64.wrap (x1 - t1) = x1 - t1 := by rw [IntKind.wrap_i64]; omega
      have hw2 : IntKind.i64.wrap (x2 - t2) = x2 - t2 := by rw [IntKind.wrap_i64]; omega
      refine wpAnyH_take (i := 0) (oi := { dst := some 50, op := Go.Op.indexAddr 72 (Go.Operand.tmp 7) (Go.Operand.const (Go.Value.int Go.IntKind.i64 0)), type := 0, pos := "chunk.go:105", after := #[], guard := none }) (v := ?_) rfl (by kernel_rfl) (by kernel_rfl) (by kernel_rfl) (fun _ _ _ h => h) (Or.inl ⟨by rfl, ?_⟩) hS ?_
      rotate_left
      · (intro wz hSz; obtain ⟨h1, u2, u4, u6, h2⟩ := hSz; have a0 := L.blk_cell h1 0; have a1 := L.blk_cell h1 1; have a2 := L.blk_cell h1 2; have o1 := L.blk_cell h2 1; have o3 := L.blk_cell h2 3; have o5 := L.blk_cell h2 5; simp only [List.getElem?_toArray, List.getElem?_cons_zero, List.getElem?_cons_succ] at a0 a1 a2 o1 o3 o5; go_simp; try with_reducible rfl)
      try simp only [Act.put, List.setIfInBounds_toArray, List.set_cons_zero, List.set_cons_succ]
      refine wpAnyH_take (i := 1) (oi := { dst := some 51, op := Go.Op.load 3 (Go.Operand.tmp 50), type := 3, pos := "chunk.go:105", after := #[{ on := 0, ground := Go.Ground.data }], guard := none }) (v := ?_) rfl (by kernel_rfl) (by kernel_rfl) (by kernel_rfl) (fun _ _ _ h => h) (Or.inl ⟨by rfl, ?_⟩) hS ?_
      rotate_left
      · (intro wz hSz; obtain ⟨h1, u2, u4, u6, h2⟩ := hSz; have a0 := L.blk_cell h1 0; have a1 := L.blk_cell h1 1; have a2 := L.blk_cell h1 2; have o1 := L.blk_cell h2 1; have o3 := L.blk_cell h2 3; have o5 := L.blk_cell h2 5; simp only [List.getElem?_toArray, List.getElem?_cons_zero, List.getElem?_cons_succ] at a0 a1 a2 o1 o3 o5; go_simp; try with_reducible rfl)
      try simp only [Act.put, List.setIfInBounds_toArray, List.set_cons_zero, List.set_cons_succ]
      refine wpAnyH_take (i := 2) (oi := { dst := some 52, op := Go.Op.fieldAddr 41 (Go.Operand.tmp 9) 1, type := 0, pos := "chunk.go:105", after := #[], guard := none }) (v := ?_) rfl (by kernel_rfl) (by kernel_rfl) (by kernel_rfl) (fun _ _ _ h => h) (Or.inl ⟨by rfl, ?_⟩) hS ?_
      rotate_left
      · (intro wz hSz; obtain ⟨h1, u2, u4, u6, h2⟩ := hSz; have a0 := L.blk_cell h1 0; have a1 := L.blk_cell h1 1; have a2 := L.blk_cell h1 2; have o1 := L.blk_cell h2 1; have o3 := L.blk_cell h2 3; have o5 := L.blk_cell h2 5; simp only [List.getElem?_toArray, List.getElem?_cons_zero, List.getElem?_cons_succ] at a0 a1 a2 o1 o3 o5; go_simp; try with_reducible rfl)
      try simp only [Act.put, List.setIfInBounds_toArray, List.set_cons_zero, List.set_cons_succ]
      refine wpAnyH_take (i := 3) (oi := { dst := some 53, op := Go.Op.load 3 (Go.Operand.tmp 52), type := 3, pos := "chunk.go:105", after := #[{ on := 2, ground := Go.Ground.data }], guard := none }) (v := ?_) rfl (by kernel_rfl) (by kernel_rfl) (by kernel_rfl) (fun _ _ _ h => h) (Or.inl ⟨by rfl, ?_⟩) hS ?_
      rotate_left
      · (intro wz hSz; obtain ⟨h1, u2, u4, u6, h2⟩ := hSz; have a0 := L.blk_cell h1 0; have a1 := L.blk_cell h1 1; have a2 := L.blk_cell h1 2; have o1 := L.blk_cell h2 1; have o3 := L.blk_cell h2 3; have o5 := L.blk_cell h2 5; simp only [List.getElem?_toArray, List.getElem?_cons_zero, List.getElem?_cons_succ] at a0 a1 a2 o1 o3 o5; go_simp; try with_reducible rfl)
      try simp only [Act.put, List.setIfInBounds_toArray, List.set_cons_zero, List.set_cons_succ]
      refine wpAnyH_take (i := 4) (oi := { dst := some 54, op := Go.Op.binOp Go.BinOp.sub 3 (Go.Operand.tmp 51) (Go.Operand.tmp 53) 3, type := 3, pos := "chunk.go:105", after := #[{ on := 1, ground := Go.Ground.data }, { on := 3, ground := Go.Ground.data }], guard := none }) (v := ?_) rfl (by kernel_rfl) (by kernel_rfl) (by kernel_rfl) (fun _ _ _ h => h) (Or.inl ⟨by rfl, ?_⟩) hS ?_
      rotate_left
      · (intro wz hSz; obtain ⟨h1, u2, u4, u6, h2⟩ := hSz; have a0 := L.blk_cell h1 0; have a1 := L.blk_cell h1 1; have a2 := L.blk_cell h1 2; have o1 := L.blk_cell h2 1; have o3 := L.blk_cell h2 3; have o5 := L.blk_cell h2 5; simp only [List.getElem?_toArray, List.getElem?_cons_zero, List.getElem?_cons_succ] at a0 a1 a2 o1 o3 o5; go_simp; try with_reducible rfl)
      try simp only [Act.put, List.setIfInBounds_toArray, List.set_cons_zero, List.set_cons_succ]
      refine wpAnyH_take (i := 5) (oi := { dst := some 55, op := Go.Op.indexAddr 72 (Go.Operand.tmp 7) (Go.Operand.const (Go.Value.int Go.IntKind.i64 1)), type := 0, pos := "chunk.go:105", after := #[], guard := none }) (v := ?_) rfl (by kernel_rfl) (by kernel_rfl) (by kernel_rfl) (fun _ _ _ h => h) (Or.inl ⟨by rfl, ?_⟩) hS ?_
      rotate_left
      · (intro wz hSz; obtain ⟨h1, u2, u4, u6, h2⟩ := hSz; have a0 := L.blk_cell h1 0; have a1 := L.blk_cell h1 1; have a2 := L.blk_cell h1 2; have o1 := L.blk_cell h2 1; have o3 := L.blk_cell h2 3; have o5 := L.blk_cell h2 5; simp only [List.getElem?_toArray, List.getElem?_cons_zero, List.getElem?_cons_succ] at a0 a1 a2 o1 o3 o5; go_simp; try with_reducible rfl)
      try simp only [Act.put, List.setIfInBounds_toArray, List.set_cons_zero, List.set_cons_succ]
      refine wpAnyH_take (i := 6) (oi := { dst := some 56, op := Go.Op.load 3 (Go.Operand.tmp 55), type := 3, pos := "chunk.go:105", after := #[{ on := 5, ground := Go.Ground.data }], guard := none }) (v := ?_) rfl (by kernel_rfl) (by kernel_rfl) (by kernel_rfl) (fun _ _ _ h => h) (Or.inl ⟨by rfl, ?_⟩) hS ?_
      rotate_left
      · (intro wz hSz; obtain ⟨h1, u2, u4, u6, h2⟩ := hSz; have a0 := L.blk_cell h1 0; have a1 := L.blk_cell h1 1; have a2 := L.blk_cell h1 2; have o1 := L.blk_cell h2 1; have o3 := L.blk_cell h2 3; have o5 := L.blk_cell h2 5; simp only [List.getElem?_toArray, List.getElem?_cons_zero, List.getElem?_cons_succ] at a0 a1 a2 o1 o3 o5; go_simp; try with_reducible rfl)
      try simp only [Act.put, List.setIfInBounds_toArray, List.set_cons_zero, List.set_cons_succ]
      refine wpAnyH_take (i := 7) (oi := { dst := some 57, op := Go.Op.fieldAddr 41 (Go.Operand.tmp 9) 3, type := 0, pos := "chunk.go:105", after := #[], guard := none }) (v := ?_) rfl (by kernel_rfl) (by kernel_rfl) (by kernel_rfl) (fun _ _ _ h => h) (Or.inl ⟨by rfl, ?_⟩) hS ?_
      rotate_left
      · (intro wz hSz; obtain ⟨h1, u2, u4, u6, h2⟩ := hSz; have a0 := L.blk_cell h1 0; have a1 := L.blk_cell h1 1; have a2 := L.blk_cell h1 2; have o1 := L.blk_cell h2 1; have o3 := L.blk_cell h2 3; have o5 := L.blk_cell h2 5; simp only [List.getElem?_toArray, List.getElem?_cons_zero, List.getElem?_cons_succ] at a0 a1 a2 o1 o3 o5; go_simp; try with_reducible rfl)
      try simp only [Act.put, List.setIfInBounds_toArray, List.set_cons_zero, List.set_cons_succ]
      refine wpAnyH_take (i := 8) (oi := { dst := some 58, op := Go.Op.load 3 (Go.Operand.tmp 57), type := 3, pos := "chunk.go:105", after := #[{ on := 7, ground := Go.Ground.data }], guard := none }) (v := ?_) rfl (by kernel_rfl) (by kernel_rfl) (by kernel_rfl) (fun _ _ _ h => h) (Or.inl ⟨by rfl, ?_⟩) hS ?_
      rotate_left
      · (intro wz hSz; obtain ⟨h1, u2, u4, u6, h2⟩ := hSz; have a0 := L.blk_cell h1 0; have a1 := L.blk_cell h1 1; have a2 := L.blk_cell h1 2; have o1 := L.blk_cell h2 1; have o3 := L.blk_cell h2 3; have o5 := L.blk_cell h2 5; simp only [List.getElem?_toArray, List.getElem?_cons_zero, List.getElem?_cons_succ] at a0 a1 a2 o1 o3 o5; go_simp; try with_reducible rfl)
      try simp only [Act.put, List.setIfInBounds_toArray, List.set_cons_zero, List.set_cons_succ]
      refine wpAnyH_take (i := 9) (oi := { dst := some 59, op := Go.Op.binOp Go.BinOp.sub 3 (Go.Operand.tmp 56) (Go.Operand.tmp 58) 3, type := 3, pos := "chunk.go:105", after := #[{ on := 6, ground := Go.Ground.data }, { on := 8, ground := Go.Ground.data }], guard := none }) (v := ?_) rfl (by kernel_rfl) (by kernel_rfl) (by kernel_rfl) (fun _ _ _ h => h) (Or.inl ⟨by rfl, ?_⟩) hS ?_
      rotate_left
      · (intro wz hSz; obtain ⟨h1, u2, u4, u6, h2⟩ := hSz; have a0 := L.blk_cell h1 0; have a1 := L.blk_cell h1 1; have a2 := L.blk_cell h1 2; have o1 := L.blk_cell h2 1; have o3 := L.blk_cell h2 3; have o5 := L.blk_cell h2 5; simp only [List.getElem?_toArray, List.getElem?_cons_zero, List.getElem?_cons_succ] at a0 a1 a2 o1 o3 o5; go_simp; try with_reducible rfl)
      try simp only [Act.put, List.setIfInBounds_toArray, List.set_cons_zero, List.set_cons_succ]
      refine wpAnyH_take (i := 10) (oi := { dst := some 60, op := Go.Op.indexAddr 72 (Go.Operand.tmp 7) (Go.Operand.const (Go.Value.int Go.IntKind.i64 2)), type := 0, pos := "chunk.go:105", after := #[], guard := none }) (v := ?_) rfl (by kernel_rfl) (by kernel_rfl) (by kernel_rfl) (fun _ _ _ h => h) (Or.inl ⟨by rfl, ?_⟩) hS ?_
      rotate_left
      · (intro wz hSz; obtain ⟨h1, u2, u4, u6, h2⟩ := hSz; have a0 := L.blk_cell h1 0; have a1 := L.blk_cell h1 1; have a2 := L.blk_cell h1 2; have o1 := L.blk_cell h2 1; have o3 := L.blk_cell h2 3; have o5 := L.blk_cell h2 5; simp only [List.getElem?_toArray, List.getElem?_cons_zero, List.getElem?_cons_succ] at a0 a1 a2 o1 o3 o5; go_simp; try with_reducible rfl)
      try simp only [Act.put, List.setIfInBounds_toArray, List.set_cons_zero, List.set_cons_succ]
      refine wpAnyH_take (i := 11) (oi := { dst := some 61, op := Go.Op.load 3 (Go.Operand.tmp 60), type := 3, pos := "chunk.go:105", after := #[{ on := 10, ground := Go.Ground.data }], guard := none }) (v := ?_) rfl (by kernel_rfl) (by kernel_rfl) (by kernel_rfl) (fun _ _ _ h => h) (Or.inl ⟨by rfl, ?_⟩) hS ?_
      rotate_left
      · (intro wz hSz; obtain ⟨h1, u2, u4, u6, h2⟩ := hSz; have a0 := L.blk_cell h1 0; have a1 := L.blk_cell h1 1; have a2 := L.blk_cell h1 2; have o1 := L.blk_cell h2 1; have o3 := L.blk_cell h2 3; have o5 := L.blk_cell h2 5; simp only [List.getElem?_toArray, List.getElem?_cons_zero, List.getElem?_cons_succ] at a0 a1 a2 o1 o3 o5; go_simp; try with_reducible rfl)
      try simp only [Act.put, List.setIfInBounds_toArray, List.set_cons_zero, List.set_cons_succ]
      refine wpAnyH_take (i := 12) (oi := { dst := some 62, op := Go.Op.fieldAddr 41 (Go.Operand.tmp 9) 5, type := 0, pos := "chunk.go:105", after := #[], guard := none }) (v := ?_) rfl (by kernel_rfl) (by kernel_rfl) (by kernel_rfl) (fun _ _ _ h => h) (Or.inl ⟨by rfl, ?_⟩) hS ?_
      rotate_left
      · (intro wz hSz; obtain ⟨h1, u2, u4, u6, h2⟩ := hSz; have a0 := L.blk_cell h1 0; have a1 := L.blk_cell h1 1; have a2 := L.blk_cell h1 2; have o1 := L.blk_cell h2 1; have o3 := L.blk_cell h2 3; have o5 := L.blk_cell h2 5; simp only [List.getElem?_toArray, List.getElem?_cons_zero, List.getElem?_cons_succ] at a0 a1 a2 o1 o3 o5; go_simp; try with_reducible rfl)
      try simp only [Act.put, List.setIfInBounds_toArray, List.set_cons_zero, List.set_cons_succ]
      refine wpAnyH_take (i := 13) (oi := { dst := some 63, op := Go.Op.load 3 (Go.Operand.tmp 62), type := 3, pos := "chunk.go:105", after := #[{ on := 12, ground := Go.Ground.data }], guard := none }) (v := ?_) rfl (by kernel_rfl) (by kernel_rfl) (by kernel_rfl) (fun _ _ _ h => h) (Or.inl ⟨by rfl, ?_⟩) hS ?_
      rotate_left
      · (intro wz hSz; obtain ⟨h1, u2, u4, u6, h2⟩ := hSz; have a0 := L.blk_cell h1 0; have a1 := L.blk_cell h1 1; have a2 := L.blk_cell h1 2; have o1 := L.blk_cell h2 1; have o3 := L.blk_cell h2 3; have o5 := L.blk_cell h2 5; simp only [List.getElem?_toArray, List.getElem?_cons_zero, List.getElem?_cons_succ] at a0 a1 a2 o1 o3 o5; go_simp; try with_reducible rfl)
      try simp only [Act.put, List.setIfInBounds_toArray, List.set_cons_zero, List.set_cons_succ]
      refine wpAnyH_take (i := 14) (oi := { dst := some 64, op := Go.Op.binOp Go.BinOp.sub 3 (Go.Operand.tmp 61) (Go.Operand.tmp 63) 3, type := 3, pos := "chunk.go:105", after := #[{ on := 11, ground := Go.Ground.data }, { on := 13, ground := Go.Ground.data }], guard := none }) (v := ?_) rfl (by kernel_rfl) (by kernel_rfl) (by kernel_rfl) (fun _ _ _ h => h) (Or.inl ⟨by rfl, ?_⟩) hS ?_
      rotate_left
      · (intro wz hSz; obtain ⟨h1, u2, u4, u6, h2⟩ := hSz; have a0 := L.blk_cell h1 0; have a1 := L.blk_cell h1 1; have a2 := L.blk_cell h1 2; have o1 := L.blk_cell h2 1; have o3 := L.blk_cell h2 3; have o5 := L.blk_cell h2 5; simp only [List.getElem?_toArray, List.getElem?_cons_zero, List.getElem?_cons_succ] at a0 a1 a2 o1 o3 o5; go_simp; try with_reducible rfl)
      try simp only [Act.put, List.setIfInBounds_toArray, List.set_cons_zero, List.set_cons_succ]
      clear hw0 hw1 hw2
      refine wpAnyH_take (i := 15) (oi := { dst := some 65, op := Go.Op.fieldAddr 41 (Go.Operand.tmp 9) 2, type := 0, pos := "chunk.go:105", after := #[{ on := 0, ground := Go.Ground.phase }, { on := 1, ground := Go.Ground.phase }, { on := 2, ground := Go.Ground.phase }, { on := 3, ground := Go.Ground.phase }, { on := 4, ground := Go.Ground.phase }, { on := 5, ground := Go.Ground.textOnly Go.Departure.lateStores }, { on := 6, ground := Go.Ground.textOnly Go.Departure.lateStores }, { on := 7, ground := Go.Ground.phase }, { on := 8, ground := Go.Ground.phase }, { on := 9, ground := Go.Ground.textOnly Go.Departure.lateStoresUnsure }, { on := 10, ground := Go.Ground.textOnly Go.Departure.lateStores }, { on := 11, ground := Go.Ground.textOnly Go.Departure.lateStores }, { on := 12, ground := Go.Ground.phase }, { on := 13, ground := Go.Ground.phase }, { on := 14, ground := Go.Ground.textOnly Go.Departure.lateStoresUnsure }], guard := none }) (v := ?_) rfl (by kernel_rfl) (by kernel_rfl) (by kernel_rfl) (fun _ _ _ h => h) (Or.inl ⟨by rfl, ?_⟩) hS ?_
      rotate_left
      · (intro wz hSz; obtain ⟨h1, u2, u4, u6, h2⟩ := hSz; have a0 := L.blk_cell h1 0; have a1 := L.blk_cell h1 1; have a2 := L.blk_cell h1 2; have o1 := L.blk_cell h2 1; have o3 := L.blk_cell h2 3; have o5 := L.blk_cell h2 5; simp only [List.getElem?_toArray, List.getElem?_cons_zero, List.getElem?_cons_succ] at a0 a1 a2 o1 o3 o5; go_simp; try with_reducible rfl)
      try simp only [Act.put, List.setIfInBounds_toArray, List.set_cons_zero, List.set_cons_succ]
      have c0 := L.blk_cell HC.out 2
      have f0 := L.blk_free HC.out 2
      simp only [List.getElem?_toArray, List.getElem?_cons_zero, List.getElem?_cons_succ] at c0
      refine wpAnyH_ready (rs := [16]) (by kernel_rfl) (by simp) ?_
      refine AllReadyH.cons (o := { dst := none, op := Go.Op.store 3 (Go.Operand.tmp 65) (Go.Operand.tmp 54), type := 0, pos := "chunk.go:105", after := #[{ on := 15, ground := Go.Ground.data }, { on := 4, ground := Go.Ground.data }, { on := 0, ground := Go.Ground.phase }, { on := 1, ground := Go.Ground.phase }, { on := 2, ground := Go.Ground.phase }, { on := 3, ground := Go.Ground.phase }, { on := 4, ground := Go.Ground.phase }, { on := 5, ground := Go.Ground.textOnly Go.Departure.lateStores }, { on := 6, ground := Go.Ground.textOnly Go.Departure.lateStores }, { on := 7, ground := Go.Ground.phase }, { on := 8, ground := Go.Ground.phase }, { on := 9, ground := Go.Ground.textOnly Go.Departure.lateStoresUnsure }, { on := 10, ground := Go.Ground.textOnly Go.Departure.lateStores }, { on := 11, ground := Go.Ground.textOnly Go.Departure.lateStores }, { on := 12, ground := Go.Ground.phase }, { on := 13, ground := Go.Ground.phase }, { on := 14, ground := Go.Ground.textOnly Go.Departure.lateStoresUnsure }], guard := none }) rfl (fun K hK => ?_) AllReadyH.nil
      go_simp
      replace HC : Hid ((wc.setCell ⟨b0 + 1 + 1 + 1, 2, none⟩ (.int .i64 (x0 - t0))).heap[b0 + 1 + 1 + 1]? = some (.cells #[.bool false, .int .i64 t0, .int .i64 (x0 - t0), .int .i64 t1, .int .i64 0, .int .i64 t2, .int .i64 0] 41 (0, 0))) := Lib.hid (L.blk_set HC.out 2 (.int .i64 (x0 - t0)))
      replace HE := Lib.hid ((L.blk_far (g' := b0 + 1 + 1 + 1) (i := 2) (by omega) (.int .i64 (x0 - t0))).trans HE.out)
      replace HR := Lib.hid ((L.blk_far (g' := b0 + 1 + 1 + 1) (i := 2) (by omega) (.int .i64 (x0 - t0))).trans HR.out)
      replace HW := Lib.hid (HW.out.setCell (p := ⟨b0 + 1 + 1 + 1, 2, none⟩) (by show b0 ≤ b0 + 1 + 1 + 1; omega) (.int .i64 (x0 - t0)))
      refine hK.out _ _ ⟨HE.out, _, _, _, HC.out⟩ (fun hS1 => ?_)
      clear hK K c0 f0 hS
      have hS := hS1
      clear hS1
      generalize wc.setCell ⟨b0 + 1 + 1 + 1, 2, none⟩ (.int .i64 (x0 - t0)) = wd at *
      clear wc
      generalize hwc : wd = wc at *
      clear hwc wd
      try simp only [Act.put, List.setIfInBounds_toArray, List.set_cons_zero, List.set_cons_succ]
      refine wpAnyH_take (i := 17) (oi := { dst := some 66, op := Go.Op.fieldAddr 41 (Go.Operand.tmp 9) 4, type := 0, pos := "chunk.go:105", after := #[{ on := 0, ground := Go.Ground.phase }, { on := 1, ground := Go.Ground.phase }, { on := 2, ground := Go.Ground.phase }, { on := 3, ground := Go.Ground.phase }, { on := 4, ground := Go.Ground.phase }, { on := 5, ground := Go.Ground.phase }, { on := 6, ground := Go.Ground.phase }, { on := 7, ground := Go.Ground.phase }, { on := 8, ground := Go.Ground.phase }, { on := 9, ground := Go.Ground.phase }, { on := 10, ground := Go.Ground.textOnly Go.Departure.lateStores }, { on := 11, ground := Go.Ground.textOnly Go.Departure.lateStores }, { on := 12, ground := Go.Ground.phase }, { on := 13, ground := Go.Ground.phase }, { on := 14, ground := Go.Ground.textOnly Go.Departure.lateStoresUnsure }, { on := 15, ground := Go.Ground.phase }, { on := 16, ground := Go.Ground.phase }], guard := none }) (v := ?_) rfl (by kernel_rfl) (by kernel_rfl) (by kernel_rfl) (fun _ _ _ h => h) (Or.inl ⟨by rfl, ?_⟩) hS ?_
      rotate_left
      · (intro wz hSz; obtain ⟨h1, u2, u4, u6, h2⟩ := hSz; have a0 := L.blk_cell h1 0; have a1 := L.blk_cell h1 1; have a2 := L.blk_cell h1 2; have o1 := L.blk_cell h2 1; have o3 := L.blk_cell h2 3; have o5 := L.blk_cell h2 5; simp only [List.getElem?_toArray, List.getElem?_cons_zero, List.getElem?_cons_succ] at a0 a1 a2 o1 o3 o5; go_simp; try with_reducible rfl)
      try simp only [Act.put, List.setIfInBounds_toArray, List.set_cons_zero, List.set_cons_succ]
      have c0 := L.blk_cell HC.out 4
      have f0 := L.blk_free HC.out 4
      simp only [List.getElem?_toArray, List.getElem?_cons_zero, List.getElem?_cons_succ] at c0
      refine wpAnyH_ready (rs := [18]) (by kernel_rfl) (by simp) ?_
      refine AllReadyH.cons (o := { dst := none, op := Go.Op.store 3 (Go.Operand.tmp 66) (Go.Operand.tmp 59), type := 0, pos := "chunk.go:105", after := #[{ on := 17, ground := Go.Ground.data }, { on := 9, ground := Go.Ground.data }, { on := 16, ground := Go.Ground.chain }, { on := 0, ground := Go.Ground.phase }, { on := 1, ground := Go.Ground.phase }, { on := 2, ground := Go.Ground.phase }, { on := 3, ground := Go.Ground.phase }, { on := 4, ground := Go.Ground.phase }, { on := 5, ground := Go.Ground.phase }, { on := 6, ground := Go.Ground.phase }, { on := 7, ground := Go.Ground.phase }, { on := 8, ground := Go.Ground.phase }, { on := 9, ground := Go.Ground.phase }, { on := 10, ground := Go.Ground.textOnly Go.Departure.lateStores }, { on := 11, ground := Go.Ground.textOnly Go.Departure.lateStores }, { on := 12, ground := Go.Ground.phase }, { on := 13, ground := Go.Ground.phase }, { on := 14, ground := Go.Ground.textOnly Go.Departure.lateStoresUnsure }, { on := 15, ground := Go.Ground.phase }, { on := 16, ground := Go.Ground.phase }], guard := none }) rfl (fun K hK => ?_) AllReadyH.nil
      go_simp
      replace HC : Hid ((wc.setCell ⟨b0 + 1 + 1 + 1, 4, none⟩ (.int .i64 (x1 - t1))).heap[b0 + 1 + 1 + 1]? = some (.cells #[.bool false, .int .i64 t0, .int .i64 (x0 - t0), .int .i64 t1, .int .i64 (x1 - t1), .int .i64 t2, .int .i64 0] 41 (0, 0))) := Lib.hid (L.blk_set HC.out 4 (.int .i64 (x1 - t1)))
      replace HE := Lib.hid ((L.blk_far (g' := b0 + 1 + 1 + 1) (i := 4) (by omega) (.int .i64 (x1 - t1))).trans HE.out)
      replace HR := Lib.hid ((L.blk_far (g' := b0 + 1 + 1 + 1) (i := 4) (by omega) (.int .i64 (x1 - t1))).trans HR.out)
      replace HW := Lib.hid (HW.out.setCell (p := ⟨b0 + 1 + 1 + 1, 4, none⟩) (by show b0 ≤ b0 + 1 + 1 + 1; omega) (.int .i64 (x1 - t1)))
      refine hK.out _ _ ⟨HE.out, _, _, _, HC.out⟩ (fun hS1 => ?_)
      clear hK K c0 f0 hS
      have hS := hS1
      clear hS1
      generalize wc.setCell ⟨b0 + 1 + 1 + 1, 4, none⟩ (.int .i64 (x1 - t1)) = wd at *
      clear wc
      generalize hwc : wd = wc at *
      clear hwc wd
      try simp only [Act.put, List.setIfInBounds_toArray, List.set_cons_zero, List.set_cons_succ]
      refine wpAnyH_take (i := 19) (oi := { dst := some 67, op := Go.Op.fieldAddr 41 (Go.Operand.tmp 9) 6, type := 0, pos := "chunk.go:105", after := #[{ on := 0, ground := Go.Ground.phase }, { on := 1, ground := Go.Ground.phase }, { on := 2, ground := Go.Ground.phase }, { on := 3, ground := Go.Ground.phase }, { on := 4, ground := Go.Ground.phase }, { on := 5, ground := Go.Ground.phase }, { on := 6, ground := Go.Ground.phase }, { on := 7, ground := Go.Ground.phase }, { on := 8, ground := Go.Ground.phase }, { on := 9, ground := Go.Ground.phase }, { on := 10, ground := Go.Ground.phase }, { on := 11, ground := Go.Ground.phase }, { on := 12, ground := Go.Ground.phase }, { on := 13, ground := Go.Ground.phase }, { on := 14, ground := Go.Ground.phase }, { on := 15, ground := Go.Ground.phase }, { on := 16, ground := Go.Ground.phase }, { on := 17, ground := Go.Ground.phase }, { on := 18, ground := Go.Ground.phase }], guard := none }) (v := ?_) rfl (by kernel_rfl) (by kernel_rfl) (by kernel_rfl) (fun _ _ _ h => h) (Or.inl ⟨by rfl, ?_⟩) hS ?_
      rotate_left
      · (intro wz hSz; obtain ⟨h1, u2, u4, u6, h2⟩ := hSz; have a0 := L.blk_cell h1 0; have a1 := L.blk_cell h1 1; have a2 := L.blk_cell h1 2; have o1 := L.blk_cell h2 1; have o3 := L.blk_cell h2 3; have o5 := L.blk_cell h2 5; simp only [List.getElem?_toArray, List.getElem?_cons_zero, List.getElem?_cons_succ] at a0 a1 a2 o1 o3 o5; go_simp; try with_reducible rfl)
      try simp only [Act.put, List.setIfInBounds_toArray, List.set_cons_zero, List.set_cons_succ]
      have c0 := L.blk_cell HC.out 6
      have f0 := L.blk_free HC.out 6
      simp only [List.getElem?_toArray, List.getElem?_cons_zero, List.getElem?_cons_succ] at c0
      refine wpAnyH_ready (rs := [20]) (by kernel_rfl) (by simp) ?_
      refine AllReadyH.cons (o := { dst := none, op := Go.Op.store 3 (Go.Operand.tmp 67) (Go.Operand.tmp 64), type := 0, pos := "chunk.go:105", after := #[{ on := 19, ground := Go.Ground.data }, { on := 14, ground := Go.Ground.data }, { on := 18, ground := Go.Ground.chain }, { on := 0, ground := Go.Ground.phase }, { on := 1, ground := Go.Ground.phase }, { on := 2, ground := Go.Ground.phase }, { on := 3, ground := Go.Ground.phase }, { on := 4, ground := Go.Ground.phase }, { on := 5, ground := Go.Ground.phase }, { on := 6, ground := Go.Ground.phase }, { on := 7, ground := Go.Ground.phase }, { on := 8, ground := Go.Ground.phase }, { on := 9, ground := Go.Ground.phase }, { on := 10, ground := Go.Ground.phase }, { on := 11, ground := Go.Ground.phase }, { on := 12, ground := Go.Ground.phase }, { on := 13, ground := Go.Ground.phase }, { on := 14, ground := Go.Ground.phase }, { on := 15, ground := Go.Ground.phase }, { on := 16, ground := Go.Ground.phase }, { on := 17, ground := Go.Ground.phase }, { on := 18, ground := Go.Ground.phase }], guard := none }) rfl (fun K hK => ?_) AllReadyH.nil
      go_simp
      replace HC : Hid ((wc.setCell ⟨b0 + 1 + 1 + 1, 6, none⟩ (.int .i64 (x2 - t2))).heap[b0 + 1 + 1 + 1]? = some (.cells #[.bool false, .int .i64 t0, .int .i64 (x0 - t0), .int .i64 t1, .int .i64 (x1 - t1), .int .i64 t2, .int .i64 (x2 - t2)] 41 (0, 0))) := Lib.hid (L.blk_set HC.out 6 (.int .i64 (x2 - t2)))
      replace HE := Lib.hid ((L.blk_far (g' := b0 + 1 + 1 + 1) (i := 6) (by omega) (.int .i64 (x2 - t2))).trans HE.out)
      replace HR := Lib.hid ((L.blk_far (g' := b0 + 1 + 1 + 1) (i := 6) (by omega) (.int .i64 (x2 - t2))).trans HR.out)
      replace HW := Lib.hid (HW.out.setCell (p := ⟨b0 + 1 + 1 + 1, 6, none⟩) (by show b0 ≤ b0 + 1 + 1 + 1; omega) (.int .i64 (x2 - t2)))
      refine hK.out _ _ ⟨HE.out, _, _, _, HC.out⟩ (fun hS1 => ?_)
      clear hK K c0 f0 hS
      have hS := hS1
      clear hS1
      generalize wc.setCell ⟨b0 + 1 + 1 + 1, 6, none⟩ (.int .i64 (x2 - t2)) = wd at *
      clear wc
      generalize hwc : wd = wc at *
      clear hwc wd
      try simp only [Act.put, List.setIfInBounds_toArray, List.set_cons_zero, List.set_cons_succ]
      refine wpAnyH_done (by kernel_rfl) ?_ _
      clear hS
      have k3 := HC.out
      have k2 := HR.out
      have c0 := L.blk_cell k3 0
      have c1 := L.blk_cell k3 1
      have c2 := L.blk_cell k3 2
      have c3 := L.blk_cell k3 3
      have c4 := L.blk_cell k3 4
      have c5 := L.blk_cell k3 5
      have c6 := L.blk_cell k3 6
      have d0 := L.blk_cell k2 0
      have d1 := L.blk_cell k2 1
      have d2 := L.blk_cell k2 2
      have d3 := L.blk_cell k2 3
      have d4 := L.blk_cell k2 4
      have d5 := L.blk_cell k2 5
      have d6 := L.blk_cell k2 6
      have cf := fun i => L.blk_free k3 i
      have df := fun i => L.blk_free k2 i
      simp only [List.getElem?_toArray, List.getElem?_cons_zero, List.getElem?_cons_succ] at c0 c1 c2 c3 c4 c5 c6 d0 d1 d2 d3 d4 d5 d6
      have hne : ¬ (b0 + 1 + 1 + 1 = b0 + 1 + 1) := by omega
      clear k2 k3
      go_wp2_with fail
      refine bodyPost_ret (v := .agg #[.bool false, .int .i64 t0, .int .i64 (x0 - t0), .int .i64 t1, .int .i64 (x1 - t1), .int .i64 t2, .int .i64 (x2 - t2)]) (by simp [results, Try.results52, go_sem, d0, d1, d2, d3, d4, d5, d6]) rfl ⟨?_, ?_⟩
      · rw [HV.out]; rfl
      · rw [← HBE.out]
        exact (((((((HW.out).setCell (p := ⟨b0 + 1 + 1, 0, none⟩) (by show b0 ≤ b0 + 1 + 1; omega) _).setCell (p := ⟨b0 + 1 + 1, 1, none⟩) (by show b0 ≤ b0 + 1 + 1; omega) _).setCell (p := ⟨b0 + 1 + 1, 2, none⟩) (by show b0 ≤ b0 + 1 + 1; omega) _).setCell (p := ⟨b0 + 1 + 1, 3, none⟩) (by show b0 ≤ b0 + 1 + 1; omega) _).setCell (p := ⟨b0 + 1 + 1, 4, none⟩) (by show b0 ≤ b0 + 1 + 1; omega) _).setCell (p := ⟨b0 + 1 + 1, 5, none⟩) (by show b0 ≤ b0 + 1 + 1; omega) _).setCell (p := ⟨b0 + 1 + 1, 6, none⟩) (by show b0 ≤ b0 + 1 + 1; omega) _
  · have hr1 : 0 < rv := by omega
    have HV := Lib.hid (HST.out.trans (if_neg hr))
    have c0 := L.blk_cell k3 0
    have c1 := L.blk_cell k3 1
    have c2 := L.blk_cell k3 2
    have c3 := L.blk_cell k3 3
    have c4 := L.blk_cell k3 4
    have c5 := L.blk_cell k3 5
    have c6 := L.blk_cell k3 6
    have d0 := L.blk_cell k2 0
    have d1 := L.blk_cell k2 1
    have d2 := L.blk_cell k2 2
    have d3 := L.blk_cell k2 3
    have d4 := L.blk_cell k2 4
    have d5 := L.blk_cell k2 5
    have d6 := L.blk_cell k2 6
    have cf := fun i => L.blk_free k3 i
    have df := fun i => L.blk_free k2 i
    simp only [List.getElem?_toArray, List.getElem?_cons_zero, List.getElem?_cons_succ] at c0 c1 c2 c3 c4 c5 c6 d0 d1 d2 d3 d4 d5 d6
    have hne : ¬ (b0 + 1 + 1 + 1 = b0 + 1 + 1) := by omega
    clear k1 k2 k3 hr
    go_wp2_with fail
    refine bodyPost_ret (v := .agg #[.bool true, .int .i64 t0, .int .i64 rv, .int .i64 t1, .int .i64 rv, .int .i64 t2, .int .i64 rv]) (by simp [results, Try.results52, go_sem, d0, d1, d2, d3, d4, d5, d6]) rfl ⟨?_, ?_⟩
    · rw [HV.out]; rfl
    · rw [← HBE.out]
      exact (((((((((((HB2.out).setCell (p := ⟨b0 + 1 + 1 + 1, 0, none⟩) (by show b0 ≤ b0 + 1 + 1 + 1; omega) _).setCell (p := ⟨b0 + 1 + 1 + 1, 2, none⟩) (by show b0 ≤ b0 + 1 + 1 + 1; omega) _).setCell (p := ⟨b0 + 1 + 1 + 1, 4, none⟩) (by show b0 ≤ b0 + 1 + 1 + 1; omega) _).setCell (p := ⟨b0 + 1 + 1 + 1, 6, none⟩) (by show b0 ≤ b0 + 1 + 1 + 1; omega) _).setCell (p := ⟨b0 + 1 + 1, 0, none⟩) (by show b0 ≤ b0 + 1 + 1; omega) _).setCell (p := ⟨b0 + 1 + 1, 1, none⟩) (by show b0 ≤ b0 + 1 + 1; omega) _).setCell (p := ⟨b0 + 1 + 1, 2, none⟩) (by show b0 ≤ b0 + 1 + 1; omega) _).setCell (p := ⟨b0 + 1 + 1, 3, none⟩) (by show b0 ≤ b0 + 1 + 1; omega) _).setCell (p := ⟨b0 + 1 + 1, 4, none⟩) (by show b0 ≤ b0 + 1 + 1; omega) _).setCell (p := ⟨b0 + 1 + 1, 5, none⟩) (by show b0 ≤ b0 + 1 + 1; omega) _).setCell (p := ⟨b0 + 1 + 1, 6, none⟩) (by show b0 ≤ b0 + 1 + 1; omega) _
end Go.Proofs.Ytkflhcfopejigaa.Ck
