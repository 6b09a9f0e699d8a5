/-
  The law AuditGrows.
-/
import Derived.Test.YtbfohfmipfapdaaDoorGug
import Derived.BigQuiet
import Derived.Deep.RegionHeld3
namespace Go.Proofs.YtbfohfmipfapdaaDoor.Au
set_option linter.unusedVariables false
set_option linter.unusedSimpArgs false
open Go.RowKit
open T
open V (drawn_below grown_of RbC RbC.call)
open I (alloc1 own_at own_below)

theorem et_cells {W : World} {b : Nat} {us ve fi oc : ByteArray} {lv : Int} {ct : Int} (h : W.heap[b]? = some (.cells #[.string us, .int .i64 lv, .int .u64 ct, .string ve, .string fi, .string oc] 40 (0, 0))) : W.cell? ⟨b, 0, none⟩ = some (.string us) ∧ W.cell? ⟨b, 1, none⟩ = some (.int .i64 lv) ∧ W.cell? ⟨b, 2, none⟩ = some (.int .u64 ct) ∧ W.cell? ⟨b, 3, none⟩ = some (.string ve) ∧ W.cell? ⟨b, 4, none⟩ = some (.string fi) ∧ W.cell? ⟨b, 5, none⟩ = some (.string oc) := ⟨L.blk_cell h 0, L.blk_cell h 1, L.blk_cell h 2, L.blk_cell h 3, L.blk_cell h 4, L.blk_cell h 5⟩
/-- An entry's cells. -/
def EtC (W : World) (bk p : Nat) (us : ByteArray) (lv : Int) (ct : Nat) (ve fi oc : ByteArray) : Prop := bk < W.heap.size ∧ W.cell? ⟨bk, p, none⟩ = some (.string us) ∧ W.cell? ⟨bk, p + 1, none⟩ = some (.int .i64 lv) ∧ W.cell? ⟨bk, p + 2, none⟩ = some (.int .u64 (ct : Int)) ∧ W.cell? ⟨bk, p + 3, none⟩ = some (.string ve) ∧ W.cell? ⟨bk, p + 4, none⟩ = some (.string fi) ∧ W.cell? ⟨bk, p + 5, none⟩ = some (.string oc)
theorem EtC.below {W W' : World} {bk p : Nat} {us ve fi oc : ByteArray} {lv : Int} {ct : Nat} (h : EtC W bk p us lv ct ve fi oc) (hb : Below W.heap.size W W') : EtC W' bk p us lv ct ve fi oc := by
  obtain ⟨h, h0, h1, h2, h3, h4, h5⟩ := h
  exact ⟨Nat.lt_of_lt_of_le h hb.size, (hb.cell (p := ⟨bk, p, none⟩) h).trans h0, (hb.cell (p := ⟨bk, p + 1, none⟩) h).trans h1, (hb.cell (p := ⟨bk, p + 2, none⟩) h).trans h2, (hb.cell (p := ⟨bk, p + 3, none⟩) h).trans h3, (hb.cell (p := ⟨bk, p + 4, none⟩) h).trans h4, (hb.cell (p := ⟨bk, p + 5, none⟩) h).trans h5⟩
theorem entry_label (w : World) (us ve fi oc : ByteArray) (lv : Int) (ct : Nat) (o0 : Int) (o1 : Nat) : ∃ W : World, W = (w.alloc (.cells #[.string us, .int .i64 lv, .int .u64 (ct : Int), .string ve, .string fi, .string oc] 40)).alloc (.cells #[.int .i64 o0, .int .u64 (o1 : Int)] 25) ∧ Below w.heap.size w W ∧ W.heap[w.heap.size]? = some (.cells #[.string us, .int .i64 lv, .int .u64 (ct : Int), .string ve, .string fi, .string oc] 40 (0, 0)) ∧ W.heap[w.heap.size + 1]? = some (.cells #[.int .i64 o0, .int .u64 (o1 : Int)] 25 (0, 0)) :=
  ⟨_, rfl, (alloc1 _ _).alloc (by simp) _, by rw [Below.heap_alloc _ _ _ (by simp)]; exact heap_alloc_new w _, at_new _ (by simp)⟩
theorem ets_take {w : World} {A : Option Addr} {l : List Et} (h : EtsIn w A l) (n : Nat) : EtsIn w A (l.take n) := fun hp => by
  rw [List.length_take] at hp
  obtain ⟨bk, off, e, hlt, hl⟩ := h (by omega)
  refine ⟨bk, off, e, hlt, fun j hj => ?_⟩
  rw [List.length_take] at hj
  simp only [List.getElem_take]
  exact hl j (by omega)
/-- What Seen and then Add come to: what was seen stays. -/
theorem seen_add {b0 bx yb : Nat} {w1 : World} {ls : List Et} {a0 : Int} {a1 : Nat} {s : List Et} (hP : Pl b0 w1 bx yb ls ls) (hl : ls.length ≤ 60) (hS : SeC 13 52 bx ls a0 a1 s) :
    Calls Tryd.prog 13 #[.pointer (some ⟨bx, 0, none⟩), .agg #[.int .i64 a0, .int .u64 (a1 : Int)]] w1 fun x w2 => ∃ SA sc, x = .returned (.slice SA s.length sc) ∧ Below w1.heap.size w1 w2 ∧ ∀ e : Et, EtOk e → Calls Tryd.prog 18 #[.pointer (some ⟨bx, 0, none⟩), .agg #[.string e.us, .int .i64 e.lv, .int .u64 (e.ct : Int), .string e.ve, .string e.fi, .string e.oc]] w2 fun x w3 => x = .returned (.int .i64 (ckE e)) ∧ LgR w3 52 bx (addE ls e) ∧ EtsIn w3 SA s ∧ Below b0 w2 w3 := by
  refine (hS w1 hP.rx).mono ?_
  rintro x w2 ⟨SA, sc, rfl, ho, hb⟩
  refine ⟨SA, sc, rfl, hb, fun e he => ?_⟩
  obtain ⟨v, r, B, d, hA⟩ := hP
  have hx2 := (hb.block _ (L.blk_lt hA.x)).trans hA.x
  refine (add_any he hx2 (hA.rw.below hb) (by omega) (Nat.le_trans hA.bs hb.size)).mono ?_
  rintro x w3 ⟨rfl, hk, v', r', hx', hr', -⟩
  refine ⟨rfl, ?_, hk.ets (ets_own ho) (fun hp ad hA2 => ?_), hk.below hA.gx (fun g hg => (hA.rw.ge g hg).1) (Nat.le_trans hA.bs hb.size)⟩
  · obtain ⟨A', c', rfl, hc, hz, hI⟩ := hr'.full
    exact ⟨A', c', hx', hc, hz, hI⟩
  · obtain ⟨g, e1, hg1, -⟩ := own_at ho hp
    rw [e1] at hA2
    injection hA2 with hA2
    subst hA2
    have h1 := L.blk_lt hA.x
    refine ⟨fun e => ?_, fun e => ?_⟩
    · have e : g = bx := e
      omega
    · have := (hA.rw.ge g e.symm).2
      omega
set_option maxRecDepth 100000 in
set_option maxHeartbeats 8000000 in
theorem agrows_0 {w : World} {A : Option Addr} {c : Nat} {l ls ms s : List Et} {us ve fi oc : ByteArray} {lv o0 : Int} {ct o1 : Nat} (HT : Hid (Tab w)) (HL : Hid (EtsIn w A l)) (HPL : Hid (∀ W, EtsIn W A l → Calls Tryd.prog 7 #[.slice A l.length c] W fun e w' => ∃ bx yb, e = .returned (.tuple #[.pointer (some ⟨bx, 0, none⟩), .pointer (some ⟨yb, 0, none⟩), .bool true]) ∧ Pl W.heap.size w' bx yb ls ls ∧ Below W.heap.size W w'))
    (hlen : ls.length ≤ 60) (hsl : s.length ≤ 60) (hok : EtOk ⟨us, lv, ct, ve, fi, oc⟩) (HSE : Hid (∀ bx, SeC 13 52 bx ls o0 o1 s)) (HS2 : Hid (∀ bx, ScC 13 52 bx ms o0 o1 s)) (hck : ckE ⟨us, lv, ct, ve, fi, oc⟩ = 2) (hms : addE ls ⟨us, lv, ct, ve, fi, oc⟩ = ms) (HSM : Hid (SmC s)) :
    Calls Tryd.prog 5 #[.slice A l.length c, .agg #[.string us, .int .i64 lv, .int .u64 (ct : Int), .string ve, .string fi, .string oc], .agg #[.int .i64 o0, .int .u64 (o1 : Int)]] w fun e w' => e = .returned (.bool true) ∧ Below w.heap.size w w' := by
  obtain ⟨W0, hW0, hB0, hE0, hO0⟩ := entry_label w us ve fi oc lv ct o0 o1
  have HP0 := Lib.hid (HPL.out W0 (HL.out.below hB0))
  have HB0 := Lib.hid hB0
  have HT0 := Lib.hid (HT.out.later hB0)
  have HE0 := Lib.hid hE0
  have HO0 := Lib.hid hO0
  have HGP := Lib.hid (Tab.size HT.out)
  have HOK := Lib.hid hok
  have HCK := Lib.hid hck
  have HMS := Lib.hid hms
  clear hB0 hE0 hO0 HPL HL HT hok hck hms
  go_enter Tryd.func5, Tryd.ntmps5
  go_upto_region 1 with fail
  try simp only [World.size_alloc]
  rw [← hW0]
  clear hW0
  obtain ⟨be, hbe⟩ : ∃ q, q = w.heap.size := ⟨_, rfl⟩
  obtain ⟨bo, hbo⟩ : ∃ q, q = w.heap.size + 1 := ⟨_, rfl⟩
  rw [← hbe] at HE0
  rw [← hbo] at HO0 ⊢
  rw [← hbe]
  clear hbe hbo
  go_wp2_with fail
  with_reducible refine HP0.out.mono ?_
  rintro e w1 ⟨bx, yb, rfl, hp, hb1⟩
  obtain ⟨b0, hb0⟩ : ∃ q, q = W0.heap.size := ⟨_, rfl⟩
  rw [← hb0] at hp hb1
  have hbe0 : be < b0 := by rw [hb0]; exact L.blk_lt HE0.out
  have hbo0 : bo < b0 := by rw [hb0]; exact L.blk_lt HO0.out
  have HW := Lib.hid (show w.heap.size ≤ b0 by rw [hb0]; exact HB0.out.size)
  have HSA := Lib.hid (seen_add hp hlen (HSE.out bx))
  have HE1 := Lib.hid ((hb1.block be hbe0).trans HE0.out)
  have HO1 := Lib.hid ((hb1.block bo hbo0).trans HO0.out)
  have HB1 := Lib.hid (HB0.out.trans (hb1.mono HW.out))
  have HT1 := Lib.hid (HT0.out.later (by rw [← hb0]; exact hb1))
  obtain ⟨y0, y1⟩ := lab_cells HO1.out
  clear hp hb1 HP0 HB0 HT0 HE0 HO0 HSE hb0
  go_wp2_with fail
  with_reducible refine HSA.out.mono ?_
  rintro e w2 ⟨SA, sc, rfl, hb2, had⟩
  have HAD := Lib.hid (had ⟨us, lv, ct, ve, fi, oc⟩ HOK.out)
  rw [HCK.out, HMS.out] at HAD
  simp only at HAD
  have HE2 := Lib.hid ((hb2.block _ (L.blk_lt HE1.out)).trans HE1.out)
  have HO2 := Lib.hid ((hb2.block _ (L.blk_lt HO1.out)).trans HO1.out)
  have HB2 := Lib.hid (HB1.out.trans (hb2.mono HB1.out.size))
  have HT2 := Lib.hid (HT1.out.later hb2)
  clear y0 y1 hb2 had HSA HE1 HO1 HB1 HT1 HCK HMS HOK
  obtain ⟨d0, d1, d2, d3, d4, d5⟩ := et_cells HE2.out
  go_wp2_with fail
  with_reducible refine HAD.out.mono ?_
  rintro e w3 ⟨rfl, hx3, hi3, hb3⟩
  have HX3 := Lib.hid hx3
  have HI3 := Lib.hid hi3
  have HE3 := Lib.hid ((hb3.block be hbe0).trans HE2.out)
  have HO3 := Lib.hid ((hb3.block bo hbo0).trans HO2.out)
  have HB3 := Lib.hid (HB2.out.trans (hb3.mono HW.out))
  have HT3 := Lib.hid (Tab.below HT2.out hb3 (Nat.lt_of_lt_of_le HGP.out HW.out))
  clear d0 d1 d2 d3 d4 d5 hx3 hi3 hb3 HAD HE2 HO2 HB2 HT2
  obtain ⟨y0, y1⟩ := lab_cells HO3.out
  go_wp2_with fail
  with_reducible refine ((HS2.out bx).at HX3.out).mono ?_
  rintro e w4 ⟨SB, sd, rfl, hsd, hi4, hb4⟩
  have HI4 := Lib.hid (hi4)
  have HJ4 := Lib.hid (HI3.out.below hb4)
  have HE4 := Lib.hid ((hb4.block _ (L.blk_lt HE3.out)).trans HE3.out)
  have HO4 := Lib.hid ((hb4.block _ (L.blk_lt HO3.out)).trans HO3.out)
  have HB4 := Lib.hid (HB3.out.trans (hb4.mono HB3.out.size))
  have HT4 := Lib.hid (HT3.out.later hb4)
  clear y0 y1 hi4 hb4 HI3 HE3 HO3 HB3 HT3 HX3 HS2 hbe0 hbo0
  have h0n : (0 : Int) ≤ (s.length : Int) := by omega
  have hmd : (s.length : Int) ≤ (sd : Int) := by omega
  have hnn : ((s.length : Int) == (s.length : Int)) = true := by simp
  have hnm : ((s.length : Int) != (s.length : Int)) = false := by simp
  have HIT := HI4
  clear HI4
  go_wp2_with fail
  with_reducible refine (HSM.out.at HIT.out HJ4.out).mono ?_
  rintro e w5 ⟨rfl, hb5⟩
  have HB := Lib.hid (HB4.out.trans (hb5.mono HB4.out.size))
  have HT := Lib.hid (HT4.out.later hb5)
  clear hb5 HSM HIT HJ4 HB4 HT4 HE4
  go_upto_region 12 with fail
  refine wp_region_held_drew (S := (Keeps w5)) (by kernel_rfl) (keeps_drew _) (fun hH0 => ?_)
  refine wpAnyH_ready (rs := [0]) (by kernel_rfl) (by simp) ?_
  refine AllReadyH.cons (o := { dst := some 56, op := Go.Op.call { callee := Go.Callee.value (Go.Operand.func 8), args := #[], argTypes := #[] }, type := 4, pos := "law.go:70", after := #[], guard := none }) rfl (fun K hK => ?_) AllReadyH.nil
  go_simp
  with_reducible refine (live20 _ (HT.out.later hH0.b)).mono ?_
  rintro r wq1 ⟨rfl, hbq⟩
  go_wp2_with fail
  refine hK.out _ _ (Keeps.trans hH0 hbq) (fun hJ => ?_)
  refine wpAnyH_more (S' := Keeps wq1) (fun z hz => Keeps.trans hJ hz) _ _ _ _ ?_
  replace HB := Lib.hid (HB.out.trans (Below.mono hJ HB.out.size))
  replace HT := Lib.hid (HT.out.later hJ)
  have hH1 : Keeps wq1 wq1 := Below.refl _ _
  clear hK K hbq hH0 hJ
  refine wpAnyH_take (i := 1) (oi := { dst := some 57, op := Go.Op.move (Go.Operand.tmp 56), type := 4, pos := "law.go:70", after := #[{ on := 0, ground := Go.Ground.data }, { on := 0, ground := Go.Ground.chain }], guard := none }) (v := ?_) rfl (by kernel_rfl) (by kernel_rfl) (by kernel_rfl) (fun _ _ _ h => h) (Or.inl ⟨by rfl, ?_⟩) hH1 ?_
  rotate_left
  · (intro wz hSz; (try dsimp only at hSz); go_simp; try with_reducible rfl)
  simp only [Act.put, List.setIfInBounds_toArray, List.set_cons_zero, List.set_cons_succ]
  refine wpAnyH_take (i := 2) (oi := { dst := some 58, op := Go.Op.move (Go.Operand.tmp 13), type := 3, pos := "law.go:70", after := #[{ on := 1, ground := Go.Ground.guard }], guard := some (1, true) }) (v := ?_) rfl (by kernel_rfl) (by kernel_rfl) (by kernel_rfl) (fun _ _ _ h => h) (Or.inl ⟨by rfl, ?_⟩) hH1 ?_
  rotate_left
  · (intro wz hSz; (try dsimp only at hSz); go_simp; try with_reducible rfl)
  simp only [Act.put, List.setIfInBounds_toArray, List.set_cons_zero, List.set_cons_succ]
  refine wpAnyH_take (i := 3) (oi := { dst := some 59, op := Go.Op.move (Go.Operand.tmp 10), type := 22, pos := "law.go:70", after := #[{ on := 1, ground := Go.Ground.guard }], guard := some (1, true) }) (v := ?_) rfl (by kernel_rfl) (by kernel_rfl) (by kernel_rfl) (fun _ _ _ h => h) (Or.inl ⟨by rfl, ?_⟩) hH1 ?_
  rotate_left
  · (intro wz hSz; (try dsimp only at hSz); go_simp; try with_reducible rfl)
  simp only [Act.put, List.setIfInBounds_toArray, List.set_cons_zero, List.set_cons_succ]
  refine wpAnyH_take (i := 4) (oi := { dst := some 60, op := Go.Op.call { callee := Go.Callee.builtin Go.Builtin.len, args := #[Go.Operand.tmp 59], argTypes := #[22] }, type := 3, pos := "law.go:70", after := #[{ on := 3, ground := Go.Ground.data }, { on := 1, ground := Go.Ground.guard }], guard := some (1, true) }) (v := ?_) rfl (by kernel_rfl) (by kernel_rfl) (by kernel_rfl) (fun _ _ _ h => h) (Or.inl ⟨by rfl, ?_⟩) hH1 ?_
  rotate_left
  · (intro wz hSz; (try dsimp only at hSz); go_simp; try with_reducible rfl)
  simp only [Act.put, List.setIfInBounds_toArray, List.set_cons_zero, List.set_cons_succ]
  refine wpAnyH_take (i := 5) (oi := { dst := some 61, op := Go.Op.binOp Go.BinOp.eql 3 (Go.Operand.tmp 58) (Go.Operand.tmp 60) 3, type := 4, pos := "law.go:70", after := #[{ on := 2, ground := Go.Ground.data }, { on := 4, ground := Go.Ground.data }, { on := 1, ground := Go.Ground.guard }], guard := some (1, true) }) (v := ?_) rfl (by kernel_rfl) (by kernel_rfl) (by kernel_rfl) (fun _ _ _ h => h) (Or.inl ⟨by rfl, ?_⟩) hH1 ?_
  rotate_left
  · (intro wz hSz; (try dsimp only at hSz); go_simp; try with_reducible rfl)
  simp only [Act.put, List.setIfInBounds_toArray, List.set_cons_zero, List.set_cons_succ]
  refine wpAnyH_take (i := 6) (oi := { dst := some 62, op := Go.Op.move (Go.Operand.tmp 61), type := 4, pos := "law.go:70", after := #[{ on := 5, ground := Go.Ground.data }, { on := 1, ground := Go.Ground.chain }, { on := 1, ground := Go.Ground.guard }], guard := some (1, true) }) (v := ?_) rfl (by kernel_rfl) (by kernel_rfl) (by kernel_rfl) (fun _ _ _ h => h) (Or.inl ⟨by rfl, ?_⟩) hH1 ?_
  rotate_left
  · (intro wz hSz; (try dsimp only at hSz); go_simp; try with_reducible rfl)
  simp only [Act.put, List.setIfInBounds_toArray, List.set_cons_zero, List.set_cons_succ]
  refine wpAnyH_take (i := 7) (oi := { dst := some 63, op := Go.Op.move (Go.Operand.tmp 12), type := 22, pos := "law.go:70", after := #[{ on := 6, ground := Go.Ground.guard }], guard := some (6, false) }) (v := undef) rfl (by kernel_rfl) (by kernel_rfl) (by kernel_rfl) (fun _ _ _ h => h) (Or.inr ⟨by rfl, rfl⟩) hH1 ?_
  simp only [Act.put, List.setIfInBounds_toArray, List.set_cons_zero, List.set_cons_succ]
  refine wpAnyH_take (i := 8) (oi := { dst := some 64, op := Go.Op.move (Go.Operand.tmp 13), type := 3, pos := "law.go:70", after := #[{ on := 6, ground := Go.Ground.guard }], guard := some (6, false) }) (v := undef) rfl (by kernel_rfl) (by kernel_rfl) (by kernel_rfl) (fun _ _ _ h => h) (Or.inr ⟨by rfl, rfl⟩) hH1 ?_
  simp only [Act.put, List.setIfInBounds_toArray, List.set_cons_zero, List.set_cons_succ]
  refine wpAnyH_take (i := 9) (oi := { dst := some 65, op := Go.Op.binOp Go.BinOp.sub 3 (Go.Operand.tmp 64) (Go.Operand.const (Go.Value.int Go.IntKind.i64 1)) 3, type := 3, pos := "law.go:70", after := #[{ on := 8, ground := Go.Ground.data }, { on := 6, ground := Go.Ground.guard }], guard := some (6, false) }) (v := undef) rfl (by kernel_rfl) (by kernel_rfl) (by kernel_rfl) (fun _ _ _ h => h) (Or.inr ⟨by rfl, rfl⟩) hH1 ?_
  simp only [Act.put, List.setIfInBounds_toArray, List.set_cons_zero, List.set_cons_succ]
  refine wpAnyH_take (i := 10) (oi := { dst := some 66, op := Go.Op.indexAddr 22 (Go.Operand.tmp 63) (Go.Operand.tmp 65), type := 0, pos := "law.go:70", after := #[{ on := 7, ground := Go.Ground.data }, { on := 9, ground := Go.Ground.data }, { on := 6, ground := Go.Ground.guard }], guard := some (6, false) }) (v := undef) rfl (by kernel_rfl) (by kernel_rfl) (by kernel_rfl) (fun _ _ _ h => h) (Or.inr ⟨by rfl, rfl⟩) hH1 ?_
  simp only [Act.put, List.setIfInBounds_toArray, List.set_cons_zero, List.set_cons_succ]
  refine wpAnyH_take (i := 11) (oi := { dst := some 67, op := Go.Op.load 40 (Go.Operand.tmp 66), type := 40, pos := "law.go:70", after := #[{ on := 10, ground := Go.Ground.data }, { on := 6, ground := Go.Ground.guard }], guard := some (6, false) }) (v := undef) rfl (by kernel_rfl) (by kernel_rfl) (by kernel_rfl) (fun _ _ _ h => h) (Or.inr ⟨by rfl, rfl⟩) hH1 ?_
  simp only [Act.put, List.setIfInBounds_toArray, List.set_cons_zero, List.set_cons_succ]
  refine wpAnyH_take (i := 12) (oi := { dst := some 68, op := Go.Op.load 40 (Go.Operand.tmp 4), type := 40, pos := "law.go:70", after := #[{ on := 6, ground := Go.Ground.guard }], guard := some (6, false) }) (v := undef) rfl (by kernel_rfl) (by kernel_rfl) (by kernel_rfl) (fun _ _ _ h => h) (Or.inr ⟨by rfl, rfl⟩) hH1 ?_
  simp only [Act.put, List.setIfInBounds_toArray, List.set_cons_zero, List.set_cons_succ]
  refine wpAnyH_take (i := 13) (oi := { dst := some 69, op := Go.Op.binOp Go.BinOp.eql 40 (Go.Operand.tmp 67) (Go.Operand.tmp 68) 40, type := 4, pos := "law.go:70", after := #[{ on := 11, ground := Go.Ground.data }, { on := 12, ground := Go.Ground.data }, { on := 6, ground := Go.Ground.guard }], guard := some (6, false) }) (v := undef) rfl (by kernel_rfl) (by kernel_rfl) (by kernel_rfl) (fun _ _ _ h => h) (Or.inr ⟨by rfl, rfl⟩) hH1 ?_
  simp only [Act.put, List.setIfInBounds_toArray, List.set_cons_zero, List.set_cons_succ]
  refine wpAnyH_take (i := 14) (oi := { dst := some 70, op := Go.Op.pick (Go.Operand.tmp 62) (Go.Operand.const (Go.Value.bool true)) (Go.Operand.tmp 69), type := 4, pos := "law.go:70", after := #[{ on := 6, ground := Go.Ground.data }, { on := 13, ground := Go.Ground.data }, { on := 1, ground := Go.Ground.guard }], guard := some (1, true) }) (v := ?_) rfl (by kernel_rfl) (by kernel_rfl) (by kernel_rfl) (fun _ _ _ h => h) (Or.inl ⟨by rfl, ?_⟩) hH1 ?_
  rotate_left
  · (intro wz hSz; (try dsimp only at hSz); go_simp; try with_reducible rfl)
  simp only [Act.put, List.setIfInBounds_toArray, List.set_cons_zero, List.set_cons_succ]
  refine wpAnyH_take (i := 15) (oi := { dst := some 71, op := Go.Op.pick (Go.Operand.tmp 57) (Go.Operand.tmp 70) (Go.Operand.const (Go.Value.bool false)), type := 4, pos := "law.go:70", after := #[{ on := 1, ground := Go.Ground.data }, { on := 14, ground := Go.Ground.data }], guard := none }) (v := ?_) rfl (by kernel_rfl) (by kernel_rfl) (by kernel_rfl) (fun _ _ _ h => h) (Or.inl ⟨by rfl, ?_⟩) hH1 ?_
  rotate_left
  · (intro wz hSz; (try dsimp only at hSz); go_simp; try with_reducible rfl)
  simp only [Act.put, List.setIfInBounds_toArray, List.set_cons_zero, List.set_cons_succ]
  refine wpAnyH_take (i := 16) (oi := { dst := some 6, op := Go.Op.assign (Go.Operand.tmp 71), type := 4, pos := "law.go:70", after := #[{ on := 15, ground := Go.Ground.data }, { on := 6, ground := Go.Ground.chain }, { on := 0, ground := Go.Ground.phase }, { on := 1, ground := Go.Ground.phase }, { on := 2, ground := Go.Ground.phase }, { on := 3, ground := Go.Ground.phase }, { on := 4, ground := Go.Ground.phase }, { on := 5, ground := Go.Ground.phase }, { on := 6, ground := Go.Ground.phase }, { on := 7, ground := Go.Ground.phase }, { on := 8, ground := Go.Ground.phase }, { on := 9, ground := Go.Ground.phase }, { on := 10, ground := Go.Ground.phase }, { on := 11, ground := Go.Ground.phase }, { on := 12, ground := Go.Ground.phase }, { on := 13, ground := Go.Ground.phase }, { on := 14, ground := Go.Ground.phase }, { on := 15, ground := Go.Ground.phase }], guard := none }) (v := ?_) rfl (by kernel_rfl) (by kernel_rfl) (by kernel_rfl) (fun _ _ _ h => h) (Or.inl ⟨by rfl, ?_⟩) hH1 ?_
  rotate_left
  · (intro wz hSz; (try dsimp only at hSz); go_simp; try with_reducible rfl)
  simp only [Act.put, List.setIfInBounds_toArray, List.set_cons_zero, List.set_cons_succ]
  refine wpAnyH_done (by kernel_rfl) ?_ _
  go_wp2_with fail
  go_ret
  exact ⟨rfl, HB.out⟩
set_option maxRecDepth 100000 in
set_option maxHeartbeats 8000000 in
theorem agrows_1 {w : World} {A : Option Addr} {c : Nat} {l ls ms s : List Et} {us ve fi oc : ByteArray} {lv o0 : Int} {ct o1 : Nat} (HT : Hid (Tab w)) (HL : Hid (EtsIn w A l)) (HPL : Hid (∀ W, EtsIn W A l → Calls Tryd.prog 7 #[.slice A l.length c] W fun e w' => ∃ bx yb, e = .returned (.tuple #[.pointer (some ⟨bx, 0, none⟩), .pointer (some ⟨yb, 0, none⟩), .bool true]) ∧ Pl W.heap.size w' bx yb ls ls ∧ Below W.heap.size W w'))
    (hlen : ls.length ≤ 60) (hsl : s.length ≤ 60) (hok : EtOk ⟨us, lv, ct, ve, fi, oc⟩) (HSE : Hid (∀ bx, SeC 13 52 bx ls o0 o1 s)) (HS2 : Hid (∀ bx, ScC 13 52 bx ms o0 o1 s)) (hck : ckE ⟨us, lv, ct, ve, fi, oc⟩ = 0) (hms : addE ls ⟨us, lv, ct, ve, fi, oc⟩ = ms) (HSM : Hid (SmC s)) (HRB : Hid (RbC lv o0 ct o1 false)) :
    Calls Tryd.prog 5 #[.slice A l.length c, .agg #[.string us, .int .i64 lv, .int .u64 (ct : Int), .string ve, .string fi, .string oc], .agg #[.int .i64 o0, .int .u64 (o1 : Int)]] w fun e w' => e = .returned (.bool true) ∧ Below w.heap.size w w' := by
  obtain ⟨W0, hW0, hB0, hE0, hO0⟩ := entry_label w us ve fi oc lv ct o0 o1
  have HP0 := Lib.hid (HPL.out W0 (HL.out.below hB0))
  have HB0 := Lib.hid hB0
  have HT0 := Lib.hid (HT.out.later hB0)
  have HE0 := Lib.hid hE0
  have HO0 := Lib.hid hO0
  have HGP := Lib.hid (Tab.size HT.out)
  have HOK := Lib.hid hok
  have HCK := Lib.hid hck
  have HMS := Lib.hid hms
  clear hB0 hE0 hO0 HPL HL HT hok hck hms
  go_enter Tryd.func5, Tryd.ntmps5
  go_upto_region 1 with fail
  try simp only [World.size_alloc]
  rw [← hW0]
  clear hW0
  obtain ⟨be, hbe⟩ : ∃ q, q = w.heap.size := ⟨_, rfl⟩
  obtain ⟨bo, hbo⟩ : ∃ q, q = w.heap.size + 1 := ⟨_, rfl⟩
  rw [← hbe] at HE0
  rw [← hbo] at HO0 ⊢
  rw [← hbe]
  clear hbe hbo
  go_wp2_with fail
  with_reducible refine HP0.out.mono ?_
  rintro e w1 ⟨bx, yb, rfl, hp, hb1⟩
  obtain ⟨b0, hb0⟩ : ∃ q, q = W0.heap.size := ⟨_, rfl⟩
  rw [← hb0] at hp hb1
  have hbe0 : be < b0 := by rw [hb0]; exact L.blk_lt HE0.out
  have hbo0 : bo < b0 := by rw [hb0]; exact L.blk_lt HO0.out
  have HW := Lib.hid (show w.heap.size ≤ b0 by rw [hb0]; exact HB0.out.size)
  have HSA := Lib.hid (seen_add hp hlen (HSE.out bx))
  have HE1 := Lib.hid ((hb1.block be hbe0).trans HE0.out)
  have HO1 := Lib.hid ((hb1.block bo hbo0).trans HO0.out)
  have HB1 := Lib.hid (HB0.out.trans (hb1.mono HW.out))
  have HT1 := Lib.hid (HT0.out.later (by rw [← hb0]; exact hb1))
  obtain ⟨y0, y1⟩ := lab_cells HO1.out
  clear hp hb1 HP0 HB0 HT0 HE0 HO0 HSE hb0
  go_wp2_with fail
  with_reducible refine HSA.out.mono ?_
  rintro e w2 ⟨SA, sc, rfl, hb2, had⟩
  have HAD := Lib.hid (had ⟨us, lv, ct, ve, fi, oc⟩ HOK.out)
  rw [HCK.out, HMS.out] at HAD
  simp only at HAD
  have HE2 := Lib.hid ((hb2.block _ (L.blk_lt HE1.out)).trans HE1.out)
  have HO2 := Lib.hid ((hb2.block _ (L.blk_lt HO1.out)).trans HO1.out)
  have HB2 := Lib.hid (HB1.out.trans (hb2.mono HB1.out.size))
  have HT2 := Lib.hid (HT1.out.later hb2)
  clear y0 y1 hb2 had HSA HE1 HO1 HB1 HT1 HCK HMS HOK
  obtain ⟨d0, d1, d2, d3, d4, d5⟩ := et_cells HE2.out
  go_wp2_with fail
  with_reducible refine HAD.out.mono ?_
  rintro e w3 ⟨rfl, hx3, hi3, hb3⟩
  have HX3 := Lib.hid hx3
  have HI3 := Lib.hid hi3
  have HE3 := Lib.hid ((hb3.block be hbe0).trans HE2.out)
  have HO3 := Lib.hid ((hb3.block bo hbo0).trans HO2.out)
  have HB3 := Lib.hid (HB2.out.trans (hb3.mono HW.out))
  have HT3 := Lib.hid (Tab.below HT2.out hb3 (Nat.lt_of_lt_of_le HGP.out HW.out))
  clear d0 d1 d2 d3 d4 d5 hx3 hi3 hb3 HAD HE2 HO2 HB2 HT2
  obtain ⟨y0, y1⟩ := lab_cells HO3.out
  go_wp2_with fail
  with_reducible refine ((HS2.out bx).at HX3.out).mono ?_
  rintro e w4 ⟨SB, sd, rfl, hsd, hi4, hb4⟩
  have HI4 := Lib.hid (hi4)
  have HJ4 := Lib.hid (HI3.out.below hb4)
  have HE4 := Lib.hid ((hb4.block _ (L.blk_lt HE3.out)).trans HE3.out)
  have HO4 := Lib.hid ((hb4.block _ (L.blk_lt HO3.out)).trans HO3.out)
  have HB4 := Lib.hid (HB3.out.trans (hb4.mono HB3.out.size))
  have HT4 := Lib.hid (HT3.out.later hb4)
  clear y0 y1 hi4 hb4 HI3 HE3 HO3 HB3 HT3 HX3 HS2 hbe0 hbo0
  have h0n : (0 : Int) ≤ (s.length : Int) := by omega
  have hmd : (s.length : Int) ≤ (sd : Int) := by omega
  have hnn : ((s.length : Int) == (s.length : Int)) = true := by simp
  have hnm : ((s.length : Int) != (s.length : Int)) = false := by simp
  have HIT := HI4
  clear HI4
  obtain ⟨y0, y1⟩ := lab_cells HO4.out
  obtain ⟨d0, d1, d2, d3, d4, d5⟩ := et_cells HE4.out
  go_wp2_with fail
  with_reducible refine (HRB.out.call _).mono ?_
  rintro e w6 ⟨rfl, hb6⟩
  replace HIT := Lib.hid (HIT.out.below hb6)
  replace HJ4 := Lib.hid (HJ4.out.below hb6)
  replace HE4 := Lib.hid ((hb6.block _ (L.blk_lt HE4.out)).trans HE4.out)
  replace HB4 := Lib.hid (HB4.out.trans (hb6.mono HB4.out.size))
  replace HT4 := Lib.hid (HT4.out.later hb6)
  clear y0 y1 d0 d1 d2 d3 d4 d5 hb6 HRB HO4
  go_wp2_with fail
  with_reducible refine (HSM.out.at HIT.out HJ4.out).mono ?_
  rintro e w5 ⟨rfl, hb5⟩
  have HB := Lib.hid (HB4.out.trans (hb5.mono HB4.out.size))
  have HT := Lib.hid (HT4.out.later hb5)
  clear hb5 HSM HIT HJ4 HB4 HT4 HE4
  go_upto_region 12 with fail
  refine wp_region_held_drew (S := (Keeps w5)) (by kernel_rfl) (keeps_drew _) (fun hH0 => ?_)
  refine wpAnyH_ready (rs := [0]) (by kernel_rfl) (by simp) ?_
  refine AllReadyH.cons (o := { dst := some 56, op := Go.Op.call { callee := Go.Callee.value (Go.Operand.func 8), args := #[], argTypes := #[] }, type := 4, pos := "law.go:70", after := #[], guard := none }) rfl (fun K hK => ?_) AllReadyH.nil
  go_simp
  with_reducible refine (live20 _ (HT.out.later hH0.b)).mono ?_
  rintro r wq1 ⟨rfl, hbq⟩
  go_wp2_with fail
  refine hK.out _ _ (Keeps.trans hH0 hbq) (fun hJ => ?_)
  refine wpAnyH_more (S' := Keeps wq1) (fun z hz => Keeps.trans hJ hz) _ _ _ _ ?_
  replace HB := Lib.hid (HB.out.trans (Below.mono hJ HB.out.size))
  replace HT := Lib.hid (HT.out.later hJ)
  have hH1 : Keeps wq1 wq1 := Below.refl _ _
  clear hK K hbq hH0 hJ
  refine wpAnyH_take (i := 1) (oi := { dst := some 57, op := Go.Op.move (Go.Operand.tmp 56), type := 4, pos := "law.go:70", after := #[{ on := 0, ground := Go.Ground.data }, { on := 0, ground := Go.Ground.chain }], guard := none }) (v := ?_) rfl (by kernel_rfl) (by kernel_rfl) (by kernel_rfl) (fun _ _ _ h => h) (Or.inl ⟨by rfl, ?_⟩) hH1 ?_
  rotate_left
  · (intro wz hSz; (try dsimp only at hSz); go_simp; try with_reducible rfl)
  simp only [Act.put, List.setIfInBounds_toArray, List.set_cons_zero, List.set_cons_succ]
  refine wpAnyH_take (i := 2) (oi := { dst := some 58, op := Go.Op.move (Go.Operand.tmp 13), type := 3, pos := "law.go:70", after := #[{ on := 1, ground := Go.Ground.guard }], guard := some (1, true) }) (v := ?_) rfl (by kernel_rfl) (by kernel_rfl) (by kernel_rfl) (fun _ _ _ h => h) (Or.inl ⟨by rfl, ?_⟩) hH1 ?_
  rotate_left
  · (intro wz hSz; (try dsimp only at hSz); go_simp; try with_reducible rfl)
  simp only [Act.put, List.setIfInBounds_toArray, List.set_cons_zero, List.set_cons_succ]
  refine wpAnyH_take (i := 3) (oi := { dst := some 59, op := Go.Op.move (Go.Operand.tmp 10), type := 22, pos := "law.go:70", after := #[{ on := 1, ground := Go.Ground.guard }], guard := some (1, true) }) (v := ?_) rfl (by kernel_rfl) (by kernel_rfl) (by kernel_rfl) (fun _ _ _ h => h) (Or.inl ⟨by rfl, ?_⟩) hH1 ?_
  rotate_left
  · (intro wz hSz; (try dsimp only at hSz); go_simp; try with_reducible rfl)
  simp only [Act.put, List.setIfInBounds_toArray, List.set_cons_zero, List.set_cons_succ]
  refine wpAnyH_take (i := 4) (oi := { dst := some 60, op := Go.Op.call { callee := Go.Callee.builtin Go.Builtin.len, args := #[Go.Operand.tmp 59], argTypes := #[22] }, type := 3, pos := "law.go:70", after := #[{ on := 3, ground := Go.Ground.data }, { on := 1, ground := Go.Ground.guard }], guard := some (1, true) }) (v := ?_) rfl (by kernel_rfl) (by kernel_rfl) (by kernel_rfl) (fun _ _ _ h => h) (Or.inl ⟨by rfl, ?_⟩) hH1 ?_
  rotate_left
  · (intro wz hSz; (try dsimp only at hSz); go_simp; try with_reducible rfl)
  simp only [Act.put, List.setIfInBounds_toArray, List.set_cons_zero, List.set_cons_succ]
  refine wpAnyH_take (i := 5) (oi := { dst := some 61, op := Go.Op.binOp Go.BinOp.eql 3 (Go.Operand.tmp 58) (Go.Operand.tmp 60) 3, type := 4, pos := "law.go:70", after := #[{ on := 2, ground := Go.Ground.data }, { on := 4, ground := Go.Ground.data }, { on := 1, ground := Go.Ground.guard }], guard := some (1, true) }) (v := ?_) rfl (by kernel_rfl) (by kernel_rfl) (by kernel_rfl) (fun _ _ _ h => h) (Or.inl ⟨by rfl, ?_⟩) hH1 ?_
  rotate_left
  · (intro wz hSz; (try dsimp only at hSz); go_simp; try with_reducible rfl)
  simp only [Act.put, List.setIfInBounds_toArray, List.set_cons_zero, List.set_cons_succ]
  refine wpAnyH_take (i := 6) (oi := { dst := some 62, op := Go.Op.move (Go.Operand.tmp 61), type := 4, pos := "law.go:70", after := #[{ on := 5, ground := Go.Ground.data }, { on := 1, ground := Go.Ground.chain }, { on := 1, ground := Go.Ground.guard }], guard := some (1, true) }) (v := ?_) rfl (by kernel_rfl) (by kernel_rfl) (by kernel_rfl) (fun _ _ _ h => h) (Or.inl ⟨by rfl, ?_⟩) hH1 ?_
  rotate_left
  · (intro wz hSz; (try dsimp only at hSz); go_simp; try with_reducible rfl)
  simp only [Act.put, List.setIfInBounds_toArray, List.set_cons_zero, List.set_cons_succ]
  refine wpAnyH_take (i := 7) (oi := { dst := some 63, op := Go.Op.move (Go.Operand.tmp 12), type := 22, pos := "law.go:70", after := #[{ on := 6, ground := Go.Ground.guard }], guard := some (6, false) }) (v := undef) rfl (by kernel_rfl) (by kernel_rfl) (by kernel_rfl) (fun _ _ _ h => h) (Or.inr ⟨by rfl, rfl⟩) hH1 ?_
  simp only [Act.put, List.setIfInBounds_toArray, List.set_cons_zero, List.set_cons_succ]
  refine wpAnyH_take (i := 8) (oi := { dst := some 64, op := Go.Op.move (Go.Operand.tmp 13), type := 3, pos := "law.go:70", after := #[{ on := 6, ground := Go.Ground.guard }], guard := some (6, false) }) (v := undef) rfl (by kernel_rfl) (by kernel_rfl) (by kernel_rfl) (fun _ _ _ h => h) (Or.inr ⟨by rfl, rfl⟩) hH1 ?_
  simp only [Act.put, List.setIfInBounds_toArray, List.set_cons_zero, List.set_cons_succ]
  refine wpAnyH_take (i := 9) (oi := { dst := some 65, op := Go.Op.binOp Go.BinOp.sub 3 (Go.Operand.tmp 64) (Go.Operand.const (Go.Value.int Go.IntKind.i64 1)) 3, type := 3, pos := "law.go:70", after := #[{ on := 8, ground := Go.Ground.data }, { on := 6, ground := Go.Ground.guard }], guard := some (6, false) }) (v := undef) rfl (by kernel_rfl) (by kernel_rfl) (by kernel_rfl) (fun _ _ _ h => h) (Or.inr ⟨by rfl, rfl⟩) hH1 ?_
  simp only [Act.put, List.setIfInBounds_toArray, List.set_cons_zero, List.set_cons_succ]
  refine wpAnyH_take (i := 10) (oi := { dst := some 66, op := Go.Op.indexAddr 22 (Go.Operand.tmp 63) (Go.Operand.tmp 65), type := 0, pos := "law.go:70", after := #[{ on := 7, ground := Go.Ground.data }, { on := 9, ground := Go.Ground.data }, { on := 6, ground := Go.Ground.guard }], guard := some (6, false) }) (v := undef) rfl (by kernel_rfl) (by kernel_rfl) (by kernel_rfl) (fun _ _ _ h => h) (Or.inr ⟨by rfl, rfl⟩) hH1 ?_
  simp only [Act.put, List.setIfInBounds_toArray, List.set_cons_zero, List.set_cons_succ]
  refine wpAnyH_take (i := 11) (oi := { dst := some 67, op := Go.Op.load 40 (Go.Operand.tmp 66), type := 40, pos := "law.go:70", after := #[{ on := 10, ground := Go.Ground.data }, { on := 6, ground := Go.Ground.guard }], guard := some (6, false) }) (v := undef) rfl (by kernel_rfl) (by kernel_rfl) (by kernel_rfl) (fun _ _ _ h => h) (Or.inr ⟨by rfl, rfl⟩) hH1 ?_
  simp only [Act.put, List.setIfInBounds_toArray, List.set_cons_zero, List.set_cons_succ]
  refine wpAnyH_take (i := 12) (oi := { dst := some 68, op := Go.Op.load 40 (Go.Operand.tmp 4), type := 40, pos := "law.go:70", after := #[{ on := 6, ground := Go.Ground.guard }], guard := some (6, false) }) (v := undef) rfl (by kernel_rfl) (by kernel_rfl) (by kernel_rfl) (fun _ _ _ h => h) (Or.inr ⟨by rfl, rfl⟩) hH1 ?_
  simp only [Act.put, List.setIfInBounds_toArray, List.set_cons_zero, List.set_cons_succ]
  refine wpAnyH_take (i := 13) (oi := { dst := some 69, op := Go.Op.binOp Go.BinOp.eql 40 (Go.Operand.tmp 67) (Go.Operand.tmp 68) 40, type := 4, pos := "law.go:70", after := #[{ on := 11, ground := Go.Ground.data }, { on := 12, ground := Go.Ground.data }, { on := 6, ground := Go.Ground.guard }], guard := some (6, false) }) (v := undef) rfl (by kernel_rfl) (by kernel_rfl) (by kernel_rfl) (fun _ _ _ h => h) (Or.inr ⟨by rfl, rfl⟩) hH1 ?_
  simp only [Act.put, List.setIfInBounds_toArray, List.set_cons_zero, List.set_cons_succ]
  refine wpAnyH_take (i := 14) (oi := { dst := some 70, op := Go.Op.pick (Go.Operand.tmp 62) (Go.Operand.const (Go.Value.bool true)) (Go.Operand.tmp 69), type := 4, pos := "law.go:70", after := #[{ on := 6, ground := Go.Ground.data }, { on := 13, ground := Go.Ground.data }, { on := 1, ground := Go.Ground.guard }], guard := some (1, true) }) (v := ?_) rfl (by kernel_rfl) (by kernel_rfl) (by kernel_rfl) (fun _ _ _ h => h) (Or.inl ⟨by rfl, ?_⟩) hH1 ?_
  rotate_left
  · (intro wz hSz; (try dsimp only at hSz); go_simp; try with_reducible rfl)
  simp only [Act.put, List.setIfInBounds_toArray, List.set_cons_zero, List.set_cons_succ]
  refine wpAnyH_take (i := 15) (oi := { dst := some 71, op := Go.Op.pick (Go.Operand.tmp 57) (Go.Operand.tmp 70) (Go.Operand.const (Go.Value.bool false)), type := 4, pos := "law.go:70", after := #[{ on := 1, ground := Go.Ground.data }, { on := 14, ground := Go.Ground.data }], guard := none }) (v := ?_) rfl (by kernel_rfl) (by kernel_rfl) (by kernel_rfl) (fun _ _ _ h => h) (Or.inl ⟨by rfl, ?_⟩) hH1 ?_
  rotate_left
  · (intro wz hSz; (try dsimp only at hSz); go_simp; try with_reducible rfl)
  simp only [Act.put, List.setIfInBounds_toArray, List.set_cons_zero, List.set_cons_succ]
  refine wpAnyH_take (i := 16) (oi := { dst := some 6, op := Go.Op.assign (Go.Operand.tmp 71), type := 4, pos := "law.go:70", after := #[{ on := 15, ground := Go.Ground.data }, { on := 6, ground := Go.Ground.chain }, { on := 0, ground := Go.Ground.phase }, { on := 1, ground := Go.Ground.phase }, { on := 2, ground := Go.Ground.phase }, { on := 3, ground := Go.Ground.phase }, { on := 4, ground := Go.Ground.phase }, { on := 5, ground := Go.Ground.phase }, { on := 6, ground := Go.Ground.phase }, { on := 7, ground := Go.Ground.phase }, { on := 8, ground := Go.Ground.phase }, { on := 9, ground := Go.Ground.phase }, { on := 10, ground := Go.Ground.phase }, { on := 11, ground := Go.Ground.phase }, { on := 12, ground := Go.Ground.phase }, { on := 13, ground := Go.Ground.phase }, { on := 14, ground := Go.Ground.phase }, { on := 15, ground := Go.Ground.phase }], guard := none }) (v := ?_) rfl (by kernel_rfl) (by kernel_rfl) (by kernel_rfl) (fun _ _ _ h => h) (Or.inl ⟨by rfl, ?_⟩) hH1 ?_
  rotate_left
  · (intro wz hSz; (try dsimp only at hSz); go_simp; try with_reducible rfl)
  simp only [Act.put, List.setIfInBounds_toArray, List.set_cons_zero, List.set_cons_succ]
  refine wpAnyH_done (by kernel_rfl) ?_ _
  go_wp2_with fail
  go_ret
  exact ⟨rfl, HB.out⟩
set_option maxRecDepth 100000 in
set_option maxHeartbeats 8000000 in
theorem agrows_2 {w : World} {A : Option Addr} {c : Nat} {l ls ms s s2 : List Et} {us ve fi oc : ByteArray} {lv o0 : Int} {ct o1 : Nat} (HT : Hid (Tab w)) (HL : Hid (EtsIn w A l)) (HPL : Hid (∀ W, EtsIn W A l → Calls Tryd.prog 7 #[.slice A l.length c] W fun e w' => ∃ bx yb, e = .returned (.tuple #[.pointer (some ⟨bx, 0, none⟩), .pointer (some ⟨yb, 0, none⟩), .bool true]) ∧ Pl W.heap.size w' bx yb ls ls ∧ Below W.heap.size W w'))
    (hlen : ls.length ≤ 60) (hsl : s.length ≤ 60) (hok : EtOk ⟨us, lv, ct, ve, fi, oc⟩) (HSE : Hid (∀ bx, SeC 13 52 bx ls o0 o1 s)) (HS2 : Hid (∀ bx, ScC 13 52 bx ms o0 o1 s2)) (hck : ckE ⟨us, lv, ct, ve, fi, oc⟩ = 0) (hms : addE ls ⟨us, lv, ct, ve, fi, oc⟩ = ms) (HSM : Hid (SmC s)) (HRB : Hid (RbC lv o0 ct o1 true)) (hs2 : s2 = s ++ [⟨us, lv, ct, ve, fi, oc⟩]) :
    Calls Tryd.prog 5 #[.slice A l.length c, .agg #[.string us, .int .i64 lv, .int .u64 (ct : Int), .string ve, .string fi, .string oc], .agg #[.int .i64 o0, .int .u64 (o1 : Int)]] w fun e w' => e = .returned (.bool true) ∧ Below w.heap.size w w' := by
  obtain ⟨W0, hW0, hB0, hE0, hO0⟩ := entry_label w us ve fi oc lv ct o0 o1
  have HP0 := Lib.hid (HPL.out W0 (HL.out.below hB0))
  have HB0 := Lib.hid hB0
  have HT0 := Lib.hid (HT.out.later hB0)
  have HE0 := Lib.hid hE0
  have HO0 := Lib.hid hO0
  have HGP := Lib.hid (Tab.size HT.out)
  have HOK := Lib.hid hok
  have HCK := Lib.hid hck
  have HMS := Lib.hid hms
  clear hB0 hE0 hO0 HPL HL HT hok hck hms
  go_enter Tryd.func5, Tryd.ntmps5
  go_upto_region 1 with fail
  try simp only [World.size_alloc]
  rw [← hW0]
  clear hW0
  obtain ⟨be, hbe⟩ : ∃ q, q = w.heap.size := ⟨_, rfl⟩
  obtain ⟨bo, hbo⟩ : ∃ q, q = w.heap.size + 1 := ⟨_, rfl⟩
  rw [← hbe] at HE0
  rw [← hbo] at HO0 ⊢
  rw [← hbe]
  clear hbe hbo
  go_wp2_with fail
  with_reducible refine HP0.out.mono ?_
  rintro e w1 ⟨bx, yb, rfl, hp, hb1⟩
  obtain ⟨b0, hb0⟩ : ∃ q, q = W0.heap.size := ⟨_, rfl⟩
  rw [← hb0] at hp hb1
  have hbe0 : be < b0 := by rw [hb0]; exact L.blk_lt HE0.out
  have hbo0 : bo < b0 := by rw [hb0]; exact L.blk_lt HO0.out
  have HW := Lib.hid (show w.heap.size ≤ b0 by rw [hb0]; exact HB0.out.size)
  have HSA := Lib.hid (seen_add hp hlen (HSE.out bx))
  have HE1 := Lib.hid ((hb1.block be hbe0).trans HE0.out)
  have HO1 := Lib.hid ((hb1.block bo hbo0).trans HO0.out)
  have HB1 := Lib.hid (HB0.out.trans (hb1.mono HW.out))
  have HT1 := Lib.hid (HT0.out.later (by rw [← hb0]; exact hb1))
  obtain ⟨y0, y1⟩ := lab_cells HO1.out
  clear hp hb1 HP0 HB0 HT0 HE0 HO0 HSE hb0
  go_wp2_with fail
  with_reducible refine HSA.out.mono ?_
  rintro e w2 ⟨SA, sc, rfl, hb2, had⟩
  have HAD := Lib.hid (had ⟨us, lv, ct, ve, fi, oc⟩ HOK.out)
  rw [HCK.out, HMS.out] at HAD
  simp only at HAD
  have HE2 := Lib.hid ((hb2.block _ (L.blk_lt HE1.out)).trans HE1.out)
  have HO2 := Lib.hid ((hb2.block _ (L.blk_lt HO1.out)).trans HO1.out)
  have HB2 := Lib.hid (HB1.out.trans (hb2.mono HB1.out.size))
  have HT2 := Lib.hid (HT1.out.later hb2)
  clear y0 y1 hb2 had HSA HE1 HO1 HB1 HT1 HCK HMS HOK
  obtain ⟨d0, d1, d2, d3, d4, d5⟩ := et_cells HE2.out
  go_wp2_with fail
  with_reducible refine HAD.out.mono ?_
  rintro e w3 ⟨rfl, hx3, hi3, hb3⟩
  have HX3 := Lib.hid hx3
  have HI3 := Lib.hid hi3
  have HE3 := Lib.hid ((hb3.block be hbe0).trans HE2.out)
  have HO3 := Lib.hid ((hb3.block bo hbo0).trans HO2.out)
  have HB3 := Lib.hid (HB2.out.trans (hb3.mono HW.out))
  have HT3 := Lib.hid (Tab.below HT2.out hb3 (Nat.lt_of_lt_of_le HGP.out HW.out))
  clear d0 d1 d2 d3 d4 d5 hx3 hi3 hb3 HAD HE2 HO2 HB2 HT2
  obtain ⟨y0, y1⟩ := lab_cells HO3.out
  go_wp2_with fail
  with_reducible refine ((HS2.out bx).at HX3.out).mono ?_
  rintro e w4 ⟨SB, sd, rfl, hsd, hi4, hb4⟩
  have HI4 := Lib.hid (hi4)
  have HJ4 := Lib.hid (HI3.out.below hb4)
  have HE4 := Lib.hid ((hb4.block _ (L.blk_lt HE3.out)).trans HE3.out)
  have HO4 := Lib.hid ((hb4.block _ (L.blk_lt HO3.out)).trans HO3.out)
  have HB4 := Lib.hid (HB3.out.trans (hb4.mono HB3.out.size))
  have HT4 := Lib.hid (HT3.out.later hb4)
  clear y0 y1 hi4 hb4 HI3 HE3 HO3 HB3 HT3 HX3 HS2 hbe0 hbo0
  have h0n : (0 : Int) ≤ (s.length : Int) := by omega
  have hl2 : s2.length = s.length + 1 := by rw [hs2]; simp
  have HIT := Lib.hid (show EtsIn w4 SB s by
    have := ets_take HI4.out s.length
    rw [hs2, List.take_left] at this
    exact this)
  obtain ⟨bk, off, hSe, hbk, c0, c1, c2, c3, c4, c5⟩ := et_at HI4.out (show s.length < s2.length by omega)
  have hse : s2[s.length]'(by omega) = ⟨us, lv, ct, ve, fi, oc⟩ := by simp [hs2]
  rw [hse] at c0 c1 c2 c3 c4 c5
  have HC4 := Lib.hid (show EtC w4 bk (off + s.length * 6) us lv ct ve fi oc from ⟨hbk, c0, c1, c2, c3, c4, c5⟩)
  subst hSe
  obtain ⟨m, hm⟩ : ∃ m, m = s2.length := ⟨_, rfl⟩
  have hmn : (m : Int) = (s.length : Int) + 1 := by omega
  have hwm : IntKind.i64.wrap ((s.length : Int) + 1) = (m : Int) := by rw [IntKind.wrap_i64]; omega
  have hwn : IntKind.i64.wrap ((m : Int) - 1) = (s.length : Int) := by rw [IntKind.wrap_i64]; omega
  have hmd : (s.length : Int) ≤ (sd : Int) := by omega
  have hlm : (s.length : Int) < (m : Int) := by omega
  have hmm : ((m : Int) != (m : Int)) = false := by simp
  have hnm : ((m : Int) == (s.length : Int)) = false := beq_eq_false_iff_ne.2 (by omega)
  have hq := fun W => et_eql W ⟨us, lv, ct, ve, fi, oc⟩ ⟨us, lv, ct, ve, fi, oc⟩
  simp only [etV, decide_true] at hq
  rw [← hm]
  clear hs2 hl2 hse hbk c0 c1 c2 c3 c4 c5 HI4 hm hmn
  obtain ⟨y0, y1⟩ := lab_cells HO4.out
  obtain ⟨d0, d1, d2, d3, d4, d5⟩ := et_cells HE4.out
  go_wp2_with fail
  with_reducible refine (HRB.out.call _).mono ?_
  rintro e w6 ⟨rfl, hb6⟩
  replace HIT := Lib.hid (HIT.out.below hb6)
  replace HJ4 := Lib.hid (HJ4.out.below hb6)
  replace HE4 := Lib.hid ((hb6.block _ (L.blk_lt HE4.out)).trans HE4.out)
  replace HB4 := Lib.hid (HB4.out.trans (hb6.mono HB4.out.size))
  replace HT4 := Lib.hid (HT4.out.later hb6)
  replace HC4 := Lib.hid (HC4.out.below hb6)
  clear y0 y1 d0 d1 d2 d3 d4 d5 hb6 HRB HO4
  go_wp2_with fail
  with_reducible refine (HSM.out.at HIT.out HJ4.out).mono ?_
  rintro e w5 ⟨rfl, hb5⟩
  have HB := Lib.hid (HB4.out.trans (hb5.mono HB4.out.size))
  have HT := Lib.hid (HT4.out.later hb5)
  have HE := Lib.hid ((hb5.block _ (L.blk_lt HE4.out)).trans HE4.out)
  have HC := Lib.hid (HC4.out.below hb5)
  clear HC4
  clear hb5 HSM HIT HJ4 HB4 HT4 HE4
  go_upto_region 12 with fail
  refine wp_region_held_drew (S := (Keeps w5)) (by kernel_rfl) (keeps_drew _) (fun hH0 => ?_)
  refine wpAnyH_ready (rs := [0]) (by kernel_rfl) (by simp) ?_
  refine AllReadyH.cons (o := { dst := some 56, op := Go.Op.call { callee := Go.Callee.value (Go.Operand.func 8), args := #[], argTypes := #[] }, type := 4, pos := "law.go:70", after := #[], guard := none }) rfl (fun K hK => ?_) AllReadyH.nil
  go_simp
  with_reducible refine (live20 _ (HT.out.later hH0.b)).mono ?_
  rintro r wq1 ⟨rfl, hbq⟩
  go_wp2_with fail
  refine hK.out _ _ (Keeps.trans hH0 hbq) (fun hJ => ?_)
  refine wpAnyH_more (S' := Keeps wq1) (fun z hz => Keeps.trans hJ hz) _ _ _ _ ?_
  replace HB := Lib.hid (HB.out.trans (Below.mono hJ HB.out.size))
  replace HT := Lib.hid (HT.out.later hJ)
  replace HE := Lib.hid ((Below.block hJ _ (L.blk_lt HE.out)).trans HE.out)
  replace HC := Lib.hid (HC.out.below hJ)
  have hH1 : Keeps wq1 wq1 := Below.refl _ _
  clear hK K hbq hH0 hJ
  refine wpAnyH_take (i := 1) (oi := { dst := some 57, op := Go.Op.move (Go.Operand.tmp 56), type := 4, pos := "law.go:70", after := #[{ on := 0, ground := Go.Ground.data }, { on := 0, ground := Go.Ground.chain }], guard := none }) (v := ?_) rfl (by kernel_rfl) (by kernel_rfl) (by kernel_rfl) (fun _ _ _ h => h) (Or.inl ⟨by rfl, ?_⟩) hH1 ?_
  rotate_left
  · (intro wz hSz; (try dsimp only at hSz); go_simp; try with_reducible rfl)
  simp only [Act.put, List.setIfInBounds_toArray, List.set_cons_zero, List.set_cons_succ]
  refine wpAnyH_take (i := 2) (oi := { dst := some 58, op := Go.Op.move (Go.Operand.tmp 13), type := 3, pos := "law.go:70", after := #[{ on := 1, ground := Go.Ground.guard }], guard := some (1, true) }) (v := ?_) rfl (by kernel_rfl) (by kernel_rfl) (by kernel_rfl) (fun _ _ _ h => h) (Or.inl ⟨by rfl, ?_⟩) hH1 ?_
  rotate_left
  · (intro wz hSz; (try dsimp only at hSz); go_simp; try with_reducible rfl)
  simp only [Act.put, List.setIfInBounds_toArray, List.set_cons_zero, List.set_cons_succ]
  refine wpAnyH_take (i := 3) (oi := { dst := some 59, op := Go.Op.move (Go.Operand.tmp 10), type := 22, pos := "law.go:70", after := #[{ on := 1, ground := Go.Ground.guard }], guard := some (1, true) }) (v := ?_) rfl (by kernel_rfl) (by kernel_rfl) (by kernel_rfl) (fun _ _ _ h => h) (Or.inl ⟨by rfl, ?_⟩) hH1 ?_
  rotate_left
  · (intro wz hSz; (try dsimp only at hSz); go_simp; try with_reducible rfl)
  simp only [Act.put, List.setIfInBounds_toArray, List.set_cons_zero, List.set_cons_succ]
  refine wpAnyH_take (i := 4) (oi := { dst := some 60, op := Go.Op.call { callee := Go.Callee.builtin Go.Builtin.len, args := #[Go.Operand.tmp 59], argTypes := #[22] }, type := 3, pos := "law.go:70", after := #[{ on := 3, ground := Go.Ground.data }, { on := 1, ground := Go.Ground.guard }], guard := some (1, true) }) (v := ?_) rfl (by kernel_rfl) (by kernel_rfl) (by kernel_rfl) (fun _ _ _ h => h) (Or.inl ⟨by rfl, ?_⟩) hH1 ?_
  rotate_left
  · (intro wz hSz; (try dsimp only at hSz); go_simp; try with_reducible rfl)
  simp only [Act.put, List.setIfInBounds_toArray, List.set_cons_zero, List.set_cons_succ]
  refine wpAnyH_take (i := 5) (oi := { dst := some 61, op := Go.Op.binOp Go.BinOp.eql 3 (Go.Operand.tmp 58) (Go.Operand.tmp 60) 3, type := 4, pos := "law.go:70", after := #[{ on := 2, ground := Go.Ground.data }, { on := 4, ground := Go.Ground.data }, { on := 1, ground := Go.Ground.guard }], guard := some (1, true) }) (v := ?_) rfl (by kernel_rfl) (by kernel_rfl) (by kernel_rfl) (fun _ _ _ h => h) (Or.inl ⟨by rfl, ?_⟩) hH1 ?_
  rotate_left
  · (intro wz hSz; (try dsimp only at hSz); go_simp; try with_reducible rfl)
  simp only [Act.put, List.setIfInBounds_toArray, List.set_cons_zero, List.set_cons_succ]
  refine wpAnyH_take (i := 6) (oi := { dst := some 62, op := Go.Op.move (Go.Operand.tmp 61), type := 4, pos := "law.go:70", after := #[{ on := 5, ground := Go.Ground.data }, { on := 1, ground := Go.Ground.chain }, { on := 1, ground := Go.Ground.guard }], guard := some (1, true) }) (v := ?_) rfl (by kernel_rfl) (by kernel_rfl) (by kernel_rfl) (fun _ _ _ h => h) (Or.inl ⟨by rfl, ?_⟩) hH1 ?_
  rotate_left
  · (intro wz hSz; (try dsimp only at hSz); go_simp; try with_reducible rfl)
  simp only [Act.put, List.setIfInBounds_toArray, List.set_cons_zero, List.set_cons_succ]
  refine wpAnyH_take (i := 7) (oi := { dst := some 63, op := Go.Op.move (Go.Operand.tmp 12), type := 22, pos := "law.go:70", after := #[{ on := 6, ground := Go.Ground.guard }], guard := some (6, false) }) (v := ?_) rfl (by kernel_rfl) (by kernel_rfl) (by kernel_rfl) (fun _ _ _ h => h) (Or.inl ⟨by rfl, ?_⟩) hH1 ?_
  rotate_left
  · (intro wz hSz; (try dsimp only at hSz); go_simp; try with_reducible rfl)
  simp only [Act.put, List.setIfInBounds_toArray, List.set_cons_zero, List.set_cons_succ]
  refine wpAnyH_take (i := 8) (oi := { dst := some 64, op := Go.Op.move (Go.Operand.tmp 13), type := 3, pos := "law.go:70", after := #[{ on := 6, ground := Go.Ground.guard }], guard := some (6, false) }) (v := ?_) rfl (by kernel_rfl) (by kernel_rfl) (by kernel_rfl) (fun _ _ _ h => h) (Or.inl ⟨by rfl, ?_⟩) hH1 ?_
  rotate_left
  · (intro wz hSz; (try dsimp only at hSz); go_simp; try with_reducible rfl)
  simp only [Act.put, List.setIfInBounds_toArray, List.set_cons_zero, List.set_cons_succ]
  refine wpAnyH_take (i := 9) (oi := { dst := some 65, op := Go.Op.binOp Go.BinOp.sub 3 (Go.Operand.tmp 64) (Go.Operand.const (Go.Value.int Go.IntKind.i64 1)) 3, type := 3, pos := "law.go:70", after := #[{ on := 8, ground := Go.Ground.data }, { on := 6, ground := Go.Ground.guard }], guard := some (6, false) }) (v := ?_) rfl (by kernel_rfl) (by kernel_rfl) (by kernel_rfl) (fun _ _ _ h => h) (Or.inl ⟨by rfl, ?_⟩) hH1 ?_
  rotate_left
  · (intro wz hSz; (try dsimp only at hSz); go_simp; try with_reducible rfl)
  simp only [Act.put, List.setIfInBounds_toArray, List.set_cons_zero, List.set_cons_succ]
  refine wpAnyH_take (i := 10) (oi := { dst := some 66, op := Go.Op.indexAddr 22 (Go.Operand.tmp 63) (Go.Operand.tmp 65), type := 0, pos := "law.go:70", after := #[{ on := 7, ground := Go.Ground.data }, { on := 9, ground := Go.Ground.data }, { on := 6, ground := Go.Ground.guard }], guard := some (6, false) }) (v := ?_) rfl (by kernel_rfl) (by kernel_rfl) (by kernel_rfl) (fun _ _ _ h => h) (Or.inl ⟨by rfl, ?_⟩) hH1 ?_
  rotate_left
  · (intro wz hSz; (try dsimp only at hSz); go_simp; try with_reducible rfl)
  simp only [Act.put, List.setIfInBounds_toArray, List.set_cons_zero, List.set_cons_succ]
  refine wpAnyH_take (i := 11) (oi := { dst := some 67, op := Go.Op.load 40 (Go.Operand.tmp 66), type := 40, pos := "law.go:70", after := #[{ on := 10, ground := Go.Ground.data }, { on := 6, ground := Go.Ground.guard }], guard := some (6, false) }) (v := ?_) rfl (by kernel_rfl) (by kernel_rfl) (by kernel_rfl) (fun _ _ _ h => h) (Or.inl ⟨by rfl, ?_⟩) hH1 ?_
  rotate_left
  · (intro wz hSz; have hcz := True.intro; obtain ⟨-, c0, c1, c2, c3, c4, c5⟩ := (HC.out.below hSz); go_simp; try with_reducible rfl)
  simp only [Act.put, List.setIfInBounds_toArray, List.set_cons_zero, List.set_cons_succ]
  refine wpAnyH_take (i := 12) (oi := { dst := some 68, op := Go.Op.load 40 (Go.Operand.tmp 4), type := 40, pos := "law.go:70", after := #[{ on := 6, ground := Go.Ground.guard }], guard := some (6, false) }) (v := ?_) rfl (by kernel_rfl) (by kernel_rfl) (by kernel_rfl) (fun _ _ _ h => h) (Or.inl ⟨by rfl, ?_⟩) hH1 ?_
  rotate_left
  · (intro wz hSz; have hcz := True.intro; obtain ⟨d0, d1, d2, d3, d4, d5⟩ := et_cells ((Below.block hSz _ (L.blk_lt HE.out)).trans HE.out); go_simp; try with_reducible rfl)
  simp only [Act.put, List.setIfInBounds_toArray, List.set_cons_zero, List.set_cons_succ]
  refine wpAnyH_take (i := 13) (oi := { dst := some 69, op := Go.Op.binOp Go.BinOp.eql 40 (Go.Operand.tmp 67) (Go.Operand.tmp 68) 40, type := 4, pos := "law.go:70", after := #[{ on := 11, ground := Go.Ground.data }, { on := 12, ground := Go.Ground.data }, { on := 6, ground := Go.Ground.guard }], guard := some (6, false) }) (v := ?_) rfl (by kernel_rfl) (by kernel_rfl) (by kernel_rfl) (fun _ _ _ h => h) (Or.inl ⟨by rfl, ?_⟩) hH1 ?_
  rotate_left
  · (intro wz hSz; (try dsimp only at hSz); go_simp; try with_reducible rfl)
  simp only [Act.put, List.setIfInBounds_toArray, List.set_cons_zero, List.set_cons_succ]
  refine wpAnyH_take (i := 14) (oi := { dst := some 70, op := Go.Op.pick (Go.Operand.tmp 62) (Go.Operand.const (Go.Value.bool true)) (Go.Operand.tmp 69), type := 4, pos := "law.go:70", after := #[{ on := 6, ground := Go.Ground.data }, { on := 13, ground := Go.Ground.data }, { on := 1, ground := Go.Ground.guard }], guard := some (1, true) }) (v := ?_) rfl (by kernel_rfl) (by kernel_rfl) (by kernel_rfl) (fun _ _ _ h => h) (Or.inl ⟨by rfl, ?_⟩) hH1 ?_
  rotate_left
  · (intro wz hSz; (try dsimp only at hSz); go_simp; try with_reducible rfl)
  simp only [Act.put, List.setIfInBounds_toArray, List.set_cons_zero, List.set_cons_succ]
  refine wpAnyH_take (i := 15) (oi := { dst := some 71, op := Go.Op.pick (Go.Operand.tmp 57) (Go.Operand.tmp 70) (Go.Operand.const (Go.Value.bool false)), type := 4, pos := "law.go:70", after := #[{ on := 1, ground := Go.Ground.data }, { on := 14, ground := Go.Ground.data }], guard := none }) (v := ?_) rfl (by kernel_rfl) (by kernel_rfl) (by kernel_rfl) (fun _ _ _ h => h) (Or.inl ⟨by rfl, ?_⟩) hH1 ?_
  rotate_left
  · (intro wz hSz; (try dsimp only at hSz); go_simp; try with_reducible rfl)
  simp only [Act.put, List.setIfInBounds_toArray, List.set_cons_zero, List.set_cons_succ]
  refine wpAnyH_take (i := 16) (oi := { dst := some 6, op := Go.Op.assign (Go.Operand.tmp 71), type := 4, pos := "law.go:70", after := #[{ on := 15, ground := Go.Ground.data }, { on := 6, ground := Go.Ground.chain }, { on := 0, ground := Go.Ground.phase }, { on := 1, ground := Go.Ground.phase }, { on := 2, ground := Go.Ground.phase }, { on := 3, ground := Go.Ground.phase }, { on := 4, ground := Go.Ground.phase }, { on := 5, ground := Go.Ground.phase }, { on := 6, ground := Go.Ground.phase }, { on := 7, ground := Go.Ground.phase }, { on := 8, ground := Go.Ground.phase }, { on := 9, ground := Go.Ground.phase }, { on := 10, ground := Go.Ground.phase }, { on := 11, ground := Go.Ground.phase }, { on := 12, ground := Go.Ground.phase }, { on := 13, ground := Go.Ground.phase }, { on := 14, ground := Go.Ground.phase }, { on := 15, ground := Go.Ground.phase }], guard := none }) (v := ?_) rfl (by kernel_rfl) (by kernel_rfl) (by kernel_rfl) (fun _ _ _ h => h) (Or.inl ⟨by rfl, ?_⟩) hH1 ?_
  rotate_left
  · (intro wz hSz; (try dsimp only at hSz); go_simp; try with_reducible rfl)
  simp only [Act.put, List.setIfInBounds_toArray, List.set_cons_zero, List.set_cons_succ]
  refine wpAnyH_done (by kernel_rfl) ?_ _
  go_wp2_with fail
  go_ret
  exact ⟨rfl, HB.out⟩
theorem play_pl {A : Option Addr} {c : Nat} {l : List Et} (hok : ∀ e ∈ l, EtOk e) (hl : l.length ≤ maxLen) (W : World) (h : EtsIn W A l) : Calls Tryd.prog 7 #[.slice A l.length c] W fun e w' => ∃ bx yb, e = .returned (.tuple #[.pointer (some ⟨bx, 0, none⟩), .pointer (some ⟨yb, 0, none⟩), .bool true]) ∧ Pl W.heap.size w' bx yb (fine (l.take 60)) (fine (l.take 60)) ∧ Below W.heap.size W w' := play_any h hok hl
theorem agrows_law {w : World} {A : Option Addr} {c : Nat} {l : List Et} {e : Et} {o0 : Int} {o1 : Nat} (hA : EtsIn w A l) (hok : ∀ e ∈ l, EtOk e) (hl : l.length ≤ maxLen) (he : EtOk e) (ho : o1 < 18446744073709551616) (hT : Tab w) :
    Calls Tryd.prog 5 #[.slice A l.length c, .agg #[.string e.us, .int .i64 e.lv, .int .u64 (e.ct : Int), .string e.ve, .string e.fi, .string e.oc], .agg #[.int .i64 o0, .int .u64 (o1 : Int)]] w fun e w' => e = .returned (.bool true) ∧ Below w.heap.size w w' := by
  have h := fine_ls hok
  have hn := fine_len l 60
  have hs := Nat.le_trans (seen_len o0 o1 (fine (l.take 60))) hn
  have hsm := c_same (l := seen o0 o1 (fine (l.take 60))) (by omega)
  have hse : ∀ bx, SeC 13 52 bx (fine (l.take 60)) o0 o1 (seen o0 o1 (fine (l.take 60))) := fun _ => c_seen0 h ho
  obtain ⟨us, lv, ct, ve, fi, oc⟩ := e
  have hrb : RbC lv o0 ct o1 (blE o0 o1 ⟨us, lv, ct, ve, fi, oc⟩) := fun w => L.refBelow_any lv o0 ct o1 w he.ct
  by_cases hk : okE ⟨us, lv, ct, ve, fi, oc⟩ = true
  · have hms : addE (fine (l.take 60)) ⟨us, lv, ct, ve, fi, oc⟩ = fine (l.take 60) ++ [⟨us, lv, ct, ve, fi, oc⟩] := if_pos hk
    have hM : LsOk (fine (l.take 60) ++ [⟨us, lv, ct, ve, fi, oc⟩]) := by rw [← hms]; exact h.add (by omega) he
    have hss := seen_snoc o0 o1 (fine (l.take 60)) ⟨us, lv, ct, ve, fi, oc⟩
    cases hb : blE o0 o1 ⟨us, lv, ct, ve, fi, oc⟩ with
    | false =>
      rw [hb] at hrb hss
      rw [if_neg (by simp)] at hss
      have hs2 : ∀ bx, ScC 13 52 bx (fine (l.take 60) ++ [⟨us, lv, ct, ve, fi, oc⟩]) o0 o1 (seen o0 o1 (fine (l.take 60))) := fun bx => by
        have := c_seen (b := bx) (a0 := o0) hM ho
        rwa [hss] at this
      exact agrows_1 (Lib.hid hT) (Lib.hid hA) (Lib.hid (play_pl hok hl)) hn hs he (Lib.hid hse) (Lib.hid hs2) (ckE_zero hk) hms (Lib.hid hsm) (Lib.hid hrb)
    | true =>
      rw [hb] at hrb hss
      rw [if_pos rfl] at hss
      exact agrows_2 (Lib.hid hT) (Lib.hid hA) (Lib.hid (play_pl hok hl)) hn hs he (Lib.hid hse) (Lib.hid fun _ => c_seen hM ho) (ckE_zero hk) hms (Lib.hid hsm) (Lib.hid hrb) hss
  · exact agrows_0 (Lib.hid hT) (Lib.hid hA) (Lib.hid (play_pl hok hl)) hn hs he (Lib.hid hse) (Lib.hid fun _ => c_seen h ho) (ckE_two hk) (if_neg hk) (Lib.hid hsm)

end Go.Proofs.YtbfohfmipfapdaaDoor.Au
