/-
  The law ViewShows, walked over what the code's functions come to.
  The law ViewFinds, walked over what the code's functions come to.
-/
import Derived.Test.YtaejphdgfkljmaaGvd
import Derived.Deep.DeepCutAuto
import Derived.Deep.RegionHeld3
namespace Go.Proofs.Ytaejphdgfkljmaa.V
set_option linter.unusedVariables false
set_option linter.unusedSimpArgs false
open Go.RowKit
open T
open I (It Lb ItemsIn ItemsAt ItemsOk itCells itCells_snoc itCells_at items_cells items_own own_at own_below infoItem alloc1)

set_option maxRecDepth 100000 in
set_option maxHeartbeats 8000000 in
theorem vshows_law {A : Option Addr} {n cap : Nat} {l c : List It} {f0 : Int} {f1 : Nat} {hx : ByteArray} {ls : List (List UInt8 × Bool)} {ts ds : List Int} {b : List UInt8} {w : World} (HU : Hid (ItemsIn w A l)) (VO : Hid (VoC 14 A n cap f0 f1 hx l ls ts)) (RO : Hid (VoC 15 A n cap f0 f1 hx l ls ts)) (LV : Hid (LvC 16)) (SV : Hid (SvC 17 ls ts))
    (TX : Hid (TxC 18 ls b)) (JN : Hid (JnC 19 ls b)) (ID : Hid (IdC 21 A n cap l ts ds)) (RI : Hid (IdC 22 A n cap l ts ds)) (IN : Hid (InC 20 ds))
    (CU : Hid (CuC 24 A n cap f0 f1 l c)) (RC : Hid (CuC 25 A n cap f0 f1 l c)) (SI : Hid (SiC 23 c)) :
    Calls Try.prog 3 #[.slice A n cap, .agg #[.int .i64 f0, .int .u64 (f1 : Int)], .string hx] w fun e w' => e = .returned (.bool true) ∧ Below w.heap.size w w' := by
  obtain ⟨W0, hW0⟩ : ∃ W0 : World, W0 = w.alloc (.cells #[.int .i64 f0, .int .u64 (f1 : Int)] 25) := ⟨_, rfl⟩
  have HB := Lib.hid (show Below w.heap.size w W0 by rw [hW0]; exact alloc1 _ _)
  have HP := Lib.hid (show W0.heap[w.heap.size]? = some (.cells #[.int .i64 f0, .int .u64 (f1 : Int)] 25 (0, 0)) by rw [hW0]; exact heap_alloc_new w _)
  obtain ⟨x0, x1⟩ := lab_cells HP.out
  rw [hW0] at x0 x1
  go_enter Try.func3, Try.ntmps3
  go_wp2_with fail
  rw [← hW0]
  clear hW0 x0 x1
  replace HU := Lib.hid (HU.out.below HB.out)
  with_reducible refine (VO.out.at W0 HU.out).mono ?_
  rintro e w1 ⟨L1, lc1, T1, tc1, rfl, hl1, ht1, hb1⟩
  obtain ⟨W1, hW1⟩ : ∃ W : World, W = w1.alloc (.cells #[.slice L1 ls.length lc1, .slice T1 ts.length tc1] 29) := ⟨_, rfl⟩
  have ha1 : Below w1.heap.size w1 W1 := by rw [hW1]; exact alloc1 _ _
  have hb1' : Below W0.heap.size W0 W1 := hb1.trans (ha1.mono hb1.size)
  have HP1 := Lib.hid (show W1.heap[w1.heap.size]? = some (.cells #[.slice L1 ls.length lc1, .slice T1 ts.length tc1] 29 (0, 0)) by rw [hW1]; exact heap_alloc_new w1 _)
  have HL1 := Lib.hid ((lines_own hl1).below ha1)
  have HT1 := Lib.hid ((ints_own ht1).below ha1)
  replace HU := Lib.hid (HU.out.below hb1')
  replace HB := Lib.hid (HB.out.trans (Below.mono hb1' HB.out.size))
  replace HP := Lib.hid ((Below.block hb1' _ (L.blk_lt HP.out)).trans HP.out)
  obtain ⟨x0, x1⟩ := lab_cells HP.out
  rw [hW1] at x0 x1
  clear hb1 hb1' ha1 hl1 ht1 VO
  go_wp2_with fail
  rw [← hW1]
  obtain ⟨v1, hv1⟩ : ∃ v, v = w1.heap.size := ⟨_, rfl⟩
  rw [← hv1]
  rw [← hv1] at HP1
  clear hW1 x0 x1 hv1
  with_reducible refine (RO.out.at W1 HU.out).mono ?_
  rintro e w1' ⟨L2, lc2, T2, tc2, rfl, hl2, ht2, hb2⟩
  obtain ⟨W2, hW2⟩ : ∃ W : World, W = w1'.alloc (.cells #[.slice L2 ls.length lc2, .slice T2 ts.length tc2] 29) := ⟨_, rfl⟩
  have ha2 : Below w1'.heap.size w1' W2 := by rw [hW2]; exact alloc1 _ _
  have hb2' : Below W1.heap.size W1 W2 := hb2.trans (ha2.mono hb2.size)
  have HP2 := Lib.hid (show W2.heap[w1'.heap.size]? = some (.cells #[.slice L2 ls.length lc2, .slice T2 ts.length tc2] 29 (0, 0)) by rw [hW2]; exact heap_alloc_new w1' _)
  have HL2 := Lib.hid ((lines_own hl2).below ha2)
  have HT2 := Lib.hid ((ints_own ht2).below ha2)
  replace HL1 := Lib.hid (HL1.out.below hb2')
  replace HT1 := Lib.hid (HT1.out.below hb2')
  replace HP1 := Lib.hid ((Below.block hb2' _ (L.blk_lt HP1.out)).trans HP1.out)
  replace HU := Lib.hid (HU.out.below hb2')
  replace HB := Lib.hid (HB.out.trans (Below.mono hb2' HB.out.size))
  replace HP := Lib.hid ((Below.block hb2' _ (L.blk_lt HP.out)).trans HP.out)
  clear hb2 hb2' ha2 hl2 ht2 RO
  go_upto_region 3 with fail
  rw [← hW2]
  obtain ⟨v2, hv2⟩ : ∃ v, v = w1'.heap.size := ⟨_, rfl⟩
  rw [← hv2]
  rw [← hv2] at HP2
  clear hW2 hv2
  generalize W2 = w2 at *
  refine wp_region_held_drew (S := (Keeps w2)) (by kernel_rfl) (keeps_drew _) (fun hH0 => ?_)
  refine wpAnyH_ready (rs := [0]) (by kernel_rfl) (by simp) ?_
  refine AllReadyH.cons (o := { dst := some 17, op := Go.Op.call { callee := Go.Callee.value (Go.Operand.func 16), args := #[], argTypes := #[] }, type := 4, pos := "law.go:43", after := #[], guard := none }) rfl (fun K hK => ?_) AllReadyH.nil
  go_simp
  with_reducible refine (LV.out.at _).mono ?_
  rintro r wq1 ⟨rfl, hbq⟩
  go_wp2_with fail
  refine hK.out _ _ (Keeps.trans hH0 hbq) (fun hJ => ?_)
  refine wpAnyH_more (S' := Keeps wq1) (fun z hz => Keeps.trans hJ hz) _ _ _ _ ?_
  replace HB := Lib.hid (HB.out.trans (Below.mono hJ HB.out.size))
  replace HU := Lib.hid (HU.out.below hJ)
  replace HP := Lib.hid ((Below.block hJ _ (L.blk_lt HP.out)).trans HP.out)
  replace HP1 := Lib.hid ((Below.block hJ _ (L.blk_lt HP1.out)).trans HP1.out)
  replace HP2 := Lib.hid ((Below.block hJ _ (L.blk_lt HP2.out)).trans HP2.out)
  replace HL1 := Lib.hid (HL1.out.below hJ)
  replace HT1 := Lib.hid (HT1.out.below hJ)
  replace HL2 := Lib.hid (HL2.out.below hJ)
  replace HT2 := Lib.hid (HT2.out.below hJ)
  have hH1 : Keeps wq1 wq1 := Below.refl _ _
  clear hK K hbq hH0 hJ
  refine wpAnyH_take (i := 1) (oi := { dst := some 18, op := Go.Op.move (Go.Operand.tmp 17), type := 4, pos := "law.go:43", after := #[{ on := 0, ground := Go.Ground.data }, { on := 0, ground := Go.Ground.chain }], guard := none }) (v := ?_) rfl (by kernel_rfl) (by kernel_rfl) (by kernel_rfl) (fun _ _ _ h => h) (Or.inl ⟨by rfl, ?_⟩) hH1 ?_
  rotate_left
  · (intro wz hSz; (try dsimp only at hSz); go_simp; try with_reducible rfl)
  simp only [Act.put, List.setIfInBounds_toArray, List.set_cons_zero, List.set_cons_succ]
  refine wpAnyH_take (i := 2) (oi := { dst := some 19, op := Go.Op.load 29 (Go.Operand.tmp 7), type := 29, pos := "law.go:43", after := #[{ on := 1, ground := Go.Ground.guard }], guard := some (1, true) }) (v := ?_) rfl (by kernel_rfl) (by kernel_rfl) (by kernel_rfl) (fun _ _ _ h => h) (Or.inl ⟨by rfl, ?_⟩) hH1 ?_
  rotate_left
  · (intro wz hSz; have hcz := True.intro; obtain ⟨c0, c1⟩ := view_cells ((Below.block hSz _ (L.blk_lt HP1.out)).trans HP1.out); go_simp; try with_reducible rfl)
  simp only [Act.put, List.setIfInBounds_toArray, List.set_cons_zero, List.set_cons_succ]
  refine wpAnyH_take (i := 3) (oi := { dst := some 20, op := Go.Op.load 29 (Go.Operand.tmp 8), type := 29, pos := "law.go:43", after := #[{ on := 1, ground := Go.Ground.guard }], guard := some (1, true) }) (v := ?_) rfl (by kernel_rfl) (by kernel_rfl) (by kernel_rfl) (fun _ _ _ h => h) (Or.inl ⟨by rfl, ?_⟩) hH1 ?_
  rotate_left
  · (intro wz hSz; have hcz := True.intro; obtain ⟨c0, c1⟩ := view_cells ((Below.block hSz _ (L.blk_lt HP2.out)).trans HP2.out); go_simp; try with_reducible rfl)
  simp only [Act.put, List.setIfInBounds_toArray, List.set_cons_zero, List.set_cons_succ]
  refine wpAnyH_ready (rs := [4]) (by kernel_rfl) (by simp) ?_
  refine AllReadyH.cons (o := { dst := some 21, op := Go.Op.call { callee := Go.Callee.value (Go.Operand.func 17), args := #[Go.Operand.tmp 19, Go.Operand.tmp 20], argTypes := #[29, 29] }, type := 4, pos := "law.go:43", after := #[{ on := 2, ground := Go.Ground.data }, { on := 3, ground := Go.Ground.data }, { on := 1, ground := Go.Ground.chain }, { on := 1, ground := Go.Ground.guard }], guard := some (1, true) }) rfl (fun K hK => ?_) AllReadyH.nil
  go_simp
  with_reducible refine (SV.out.at _ (HL1.out.below hH1.b) (HT1.out.below hH1.b) (HL2.out.below hH1.b) (HT2.out.below hH1.b)).mono ?_
  rintro r wq2 ⟨rfl, hbq⟩
  go_wp2_with fail
  refine hK.out _ _ (Keeps.trans hH1 hbq) (fun hJ => ?_)
  refine wpAnyH_more (S' := Keeps wq2) (fun z hz => Keeps.trans hJ hz) _ _ _ _ ?_
  replace HB := Lib.hid (HB.out.trans (Below.mono hJ HB.out.size))
  replace HU := Lib.hid (HU.out.below hJ)
  replace HP := Lib.hid ((Below.block hJ _ (L.blk_lt HP.out)).trans HP.out)
  replace HP1 := Lib.hid ((Below.block hJ _ (L.blk_lt HP1.out)).trans HP1.out)
  replace HP2 := Lib.hid ((Below.block hJ _ (L.blk_lt HP2.out)).trans HP2.out)
  replace HL1 := Lib.hid (HL1.out.below hJ)
  replace HT1 := Lib.hid (HT1.out.below hJ)
  replace HL2 := Lib.hid (HL2.out.below hJ)
  replace HT2 := Lib.hid (HT2.out.below hJ)
  have hH2 : Keeps wq2 wq2 := Below.refl _ _
  clear hK K hbq hH1 hJ
  refine wpAnyH_take (i := 5) (oi := { dst := some 22, op := Go.Op.pick (Go.Operand.tmp 18) (Go.Operand.tmp 21) (Go.Operand.const (Go.Value.bool false)), type := 4, pos := "law.go:43", after := #[{ on := 1, ground := Go.Ground.data }, { on := 4, ground := Go.Ground.data }], guard := none }) (v := ?_) rfl (by kernel_rfl) (by kernel_rfl) (by kernel_rfl) (fun _ _ _ h => h) (Or.inl ⟨by rfl, ?_⟩) hH2 ?_
  rotate_left
  · (intro wz hSz; (try dsimp only at hSz); go_simp; try with_reducible rfl)
  simp only [Act.put, List.setIfInBounds_toArray, List.set_cons_zero, List.set_cons_succ]
  refine wpAnyH_take (i := 6) (oi := { dst := some 23, op := Go.Op.move (Go.Operand.tmp 22), type := 4, pos := "law.go:43", after := #[{ on := 5, ground := Go.Ground.data }, { on := 4, ground := Go.Ground.chain }], guard := none }) (v := ?_) rfl (by kernel_rfl) (by kernel_rfl) (by kernel_rfl) (fun _ _ _ h => h) (Or.inl ⟨by rfl, ?_⟩) hH2 ?_
  rotate_left
  · (intro wz hSz; (try dsimp only at hSz); go_simp; try with_reducible rfl)
  simp only [Act.put, List.setIfInBounds_toArray, List.set_cons_zero, List.set_cons_succ]
  refine wpAnyH_take (i := 7) (oi := { dst := some 24, op := Go.Op.load 29 (Go.Operand.tmp 7), type := 29, pos := "law.go:43", after := #[{ on := 6, ground := Go.Ground.guard }], guard := some (6, true) }) (v := ?_) rfl (by kernel_rfl) (by kernel_rfl) (by kernel_rfl) (fun _ _ _ h => h) (Or.inl ⟨by rfl, ?_⟩) hH2 ?_
  rotate_left
  · (intro wz hSz; have hcz := True.intro; obtain ⟨c0, c1⟩ := view_cells ((Below.block hSz _ (L.blk_lt HP1.out)).trans HP1.out); go_simp; try with_reducible rfl)
  simp only [Act.put, List.setIfInBounds_toArray, List.set_cons_zero, List.set_cons_succ]
  refine wpAnyH_take (i := 10) (oi := { dst := some 27, op := Go.Op.fieldAddr 29 (Go.Operand.tmp 8) 0, type := 0, pos := "law.go:43", after := #[{ on := 6, ground := Go.Ground.guard }], guard := some (6, true) }) (v := ?_) rfl (by kernel_rfl) (by kernel_rfl) (by kernel_rfl) (fun _ _ _ h => h) (Or.inl ⟨by rfl, ?_⟩) hH2 ?_
  rotate_left
  · (intro wz hSz; (try dsimp only at hSz); go_simp; try with_reducible rfl)
  simp only [Act.put, List.setIfInBounds_toArray, List.set_cons_zero, List.set_cons_succ]
  refine wpAnyH_take (i := 11) (oi := { dst := some 28, op := Go.Op.load 26 (Go.Operand.tmp 27), type := 26, pos := "law.go:43", after := #[{ on := 10, ground := Go.Ground.data }, { on := 6, ground := Go.Ground.guard }], guard := some (6, true) }) (v := ?_) rfl (by kernel_rfl) (by kernel_rfl) (by kernel_rfl) (fun _ _ _ h => h) (Or.inl ⟨by rfl, ?_⟩) hH2 ?_
  rotate_left
  · (intro wz hSz; have hcz := True.intro; obtain ⟨c0, c1⟩ := view_cells ((Below.block hSz _ (L.blk_lt HP2.out)).trans HP2.out); go_simp; try with_reducible rfl)
  simp only [Act.put, List.setIfInBounds_toArray, List.set_cons_zero, List.set_cons_succ]
  refine wpAnyH_ready (rs := [8]) (by kernel_rfl) (by simp) ?_
  refine AllReadyH.cons (o := { dst := some 25, op := Go.Op.call { callee := Go.Callee.value (Go.Operand.func 18), args := #[Go.Operand.tmp 24], argTypes := #[29] }, type := 33, pos := "law.go:43", after := #[{ on := 7, ground := Go.Ground.data }, { on := 6, ground := Go.Ground.chain }, { on := 6, ground := Go.Ground.guard }], guard := some (6, true) }) rfl (fun K hK => ?_) AllReadyH.nil
  go_simp
  with_reducible refine (TX.out.at _ (HL1.out.below hH2.b)).mono ?_
  rintro r wq3 ⟨A3, cap3, rfl, H3, hbq⟩
  go_wp2_with fail
  refine hK.out _ _ (Keeps.trans hH2 hbq) (fun hJ => ?_)
  refine wpAnyH_more (S' := Keeps wq3) (fun z hz => Keeps.trans hJ hz) _ _ _ _ ?_
  replace HB := Lib.hid (HB.out.trans (Below.mono hJ HB.out.size))
  replace HU := Lib.hid (HU.out.below hJ)
  replace HP := Lib.hid ((Below.block hJ _ (L.blk_lt HP.out)).trans HP.out)
  replace HP1 := Lib.hid ((Below.block hJ _ (L.blk_lt HP1.out)).trans HP1.out)
  replace HP2 := Lib.hid ((Below.block hJ _ (L.blk_lt HP2.out)).trans HP2.out)
  replace HL1 := Lib.hid (HL1.out.below hJ)
  replace HT1 := Lib.hid (HT1.out.below hJ)
  replace HL2 := Lib.hid (HL2.out.below hJ)
  replace HT2 := Lib.hid (HT2.out.below hJ)
  replace H3 := Lib.hid H3
  have hH3 : Keeps wq3 wq3 := Below.refl _ _
  clear hK K hbq hH2 hJ
  refine wpAnyH_take (i := 9) (oi := { dst := some 26, op := Go.Op.convert 33 9 (Go.Operand.tmp 25), type := 9, pos := "law.go:43", after := #[{ on := 8, ground := Go.Ground.data }, { on := 6, ground := Go.Ground.guard }], guard := some (6, true) }) (v := ?_) rfl (by kernel_rfl) (by kernel_rfl) (by kernel_rfl) (fun _ _ _ h => h) (Or.inl ⟨by rfl, ?_⟩) hH3 ?_
  rotate_left
  · (intro wz hSz; have hcz := conv_in cap3 (H3.out.below hSz); go_simp; try with_reducible rfl)
  simp only [Act.put, List.setIfInBounds_toArray, List.set_cons_zero, List.set_cons_succ]
  refine wpAnyH_ready (rs := [12]) (by kernel_rfl) (by simp) ?_
  refine AllReadyH.cons (o := { dst := some 29, op := Go.Op.call { callee := Go.Callee.value (Go.Operand.func 19), args := #[Go.Operand.tmp 28], argTypes := #[26] }, type := 33, pos := "law.go:43", after := #[{ on := 11, ground := Go.Ground.data }, { on := 8, ground := Go.Ground.chain }, { on := 6, ground := Go.Ground.guard }], guard := some (6, true) }) rfl (fun K hK => ?_) AllReadyH.nil
  go_simp
  with_reducible refine (JN.out.at _ (HL2.out.below hH3.b)).mono ?_
  rintro r wq4 ⟨A4, cap4, rfl, H4, hbq⟩
  go_wp2_with fail
  refine hK.out _ _ (Keeps.trans hH3 hbq) (fun hJ => ?_)
  refine wpAnyH_more (S' := Keeps wq4) (fun z hz => Keeps.trans hJ hz) _ _ _ _ ?_
  replace HB := Lib.hid (HB.out.trans (Below.mono hJ HB.out.size))
  replace HU := Lib.hid (HU.out.below hJ)
  replace HP := Lib.hid ((Below.block hJ _ (L.blk_lt HP.out)).trans HP.out)
  replace HP1 := Lib.hid ((Below.block hJ _ (L.blk_lt HP1.out)).trans HP1.out)
  replace HP2 := Lib.hid ((Below.block hJ _ (L.blk_lt HP2.out)).trans HP2.out)
  replace HL1 := Lib.hid (HL1.out.below hJ)
  replace HT1 := Lib.hid (HT1.out.below hJ)
  replace HL2 := Lib.hid (HL2.out.below hJ)
  replace HT2 := Lib.hid (HT2.out.below hJ)
  replace H3 := Lib.hid (H3.out.below hJ)
  replace H4 := Lib.hid H4
  have hH4 : Keeps wq4 wq4 := Below.refl _ _
  clear hK K hbq hH3 hJ
  refine wpAnyH_take (i := 13) (oi := { dst := some 30, op := Go.Op.convert 33 9 (Go.Operand.tmp 29), type := 9, pos := "law.go:43", after := #[{ on := 12, ground := Go.Ground.data }, { on := 6, ground := Go.Ground.guard }], guard := some (6, true) }) (v := ?_) rfl (by kernel_rfl) (by kernel_rfl) (by kernel_rfl) (fun _ _ _ h => h) (Or.inl ⟨by rfl, ?_⟩) hH4 ?_
  rotate_left
  · (intro wz hSz; have hcz := conv_in cap4 (H4.out.below hSz); go_simp; try with_reducible rfl)
  simp only [Act.put, List.setIfInBounds_toArray, List.set_cons_zero, List.set_cons_succ]
  refine wpAnyH_take (i := 14) (oi := { dst := some 31, op := Go.Op.binOp Go.BinOp.eql 9 (Go.Operand.tmp 26) (Go.Operand.tmp 30) 9, type := 4, pos := "law.go:43", after := #[{ on := 9, ground := Go.Ground.data }, { on := 13, ground := Go.Ground.data }, { on := 6, ground := Go.Ground.guard }], guard := some (6, true) }) (v := ?_) rfl (by kernel_rfl) (by kernel_rfl) (by kernel_rfl) (fun _ _ _ h => h) (Or.inl ⟨by rfl, ?_⟩) hH4 ?_
  rotate_left
  · (intro wz hSz; (try dsimp only at hSz); go_simp; try with_reducible rfl)
  simp only [Act.put, List.setIfInBounds_toArray, List.set_cons_zero, List.set_cons_succ]
  refine wpAnyH_take (i := 15) (oi := { dst := some 32, op := Go.Op.pick (Go.Operand.tmp 23) (Go.Operand.tmp 31) (Go.Operand.const (Go.Value.bool false)), type := 4, pos := "law.go:43", after := #[{ on := 6, ground := Go.Ground.data }, { on := 14, ground := Go.Ground.data }], guard := none }) (v := ?_) rfl (by kernel_rfl) (by kernel_rfl) (by kernel_rfl) (fun _ _ _ h => h) (Or.inl ⟨by rfl, ?_⟩) hH4 ?_
  rotate_left
  · (intro wz hSz; (try dsimp only at hSz); go_simp; try with_reducible rfl)
  simp only [Act.put, List.setIfInBounds_toArray, List.set_cons_zero, List.set_cons_succ]
  refine wpAnyH_take (i := 16) (oi := { dst := some 33, op := Go.Op.move (Go.Operand.tmp 32), type := 4, pos := "law.go:43", after := #[{ on := 15, ground := Go.Ground.data }, { on := 12, ground := Go.Ground.chain }], guard := none }) (v := ?_) rfl (by kernel_rfl) (by kernel_rfl) (by kernel_rfl) (fun _ _ _ h => h) (Or.inl ⟨by rfl, ?_⟩) hH4 ?_
  rotate_left
  · (intro wz hSz; (try dsimp only at hSz); go_simp; try with_reducible rfl)
  simp only [Act.put, List.setIfInBounds_toArray, List.set_cons_zero, List.set_cons_succ]
  refine wpAnyH_take (i := 17) (oi := { dst := some 34, op := Go.Op.move (Go.Operand.tmp 0), type := 22, pos := "law.go:43", after := #[{ on := 16, ground := Go.Ground.guard }], guard := some (16, true) }) (v := ?_) rfl (by kernel_rfl) (by kernel_rfl) (by kernel_rfl) (fun _ _ _ h => h) (Or.inl ⟨by rfl, ?_⟩) hH4 ?_
  rotate_left
  · (intro wz hSz; (try dsimp only at hSz); go_simp; try with_reducible rfl)
  simp only [Act.put, List.setIfInBounds_toArray, List.set_cons_zero, List.set_cons_succ]
  refine wpAnyH_take (i := 18) (oi := { dst := some 35, op := Go.Op.load 29 (Go.Operand.tmp 7), type := 29, pos := "law.go:43", after := #[{ on := 16, ground := Go.Ground.guard }], guard := some (16, true) }) (v := ?_) rfl (by kernel_rfl) (by kernel_rfl) (by kernel_rfl) (fun _ _ _ h => h) (Or.inl ⟨by rfl, ?_⟩) hH4 ?_
  rotate_left
  · (intro wz hSz; have hcz := True.intro; obtain ⟨c0, c1⟩ := view_cells ((Below.block hSz _ (L.blk_lt HP1.out)).trans HP1.out); go_simp; try with_reducible rfl)
  simp only [Act.put, List.setIfInBounds_toArray, List.set_cons_zero, List.set_cons_succ]
  refine wpAnyH_take (i := 20) (oi := { dst := some 37, op := Go.Op.move (Go.Operand.tmp 0), type := 22, pos := "law.go:43", after := #[{ on := 16, ground := Go.Ground.guard }], guard := some (16, true) }) (v := ?_) rfl (by kernel_rfl) (by kernel_rfl) (by kernel_rfl) (fun _ _ _ h => h) (Or.inl ⟨by rfl, ?_⟩) hH4 ?_
  rotate_left
  · (intro wz hSz; (try dsimp only at hSz); go_simp; try with_reducible rfl)
  simp only [Act.put, List.setIfInBounds_toArray, List.set_cons_zero, List.set_cons_succ]
  refine wpAnyH_take (i := 21) (oi := { dst := some 38, op := Go.Op.load 29 (Go.Operand.tmp 8), type := 29, pos := "law.go:43", after := #[{ on := 16, ground := Go.Ground.guard }], guard := some (16, true) }) (v := ?_) rfl (by kernel_rfl) (by kernel_rfl) (by kernel_rfl) (fun _ _ _ h => h) (Or.inl ⟨by rfl, ?_⟩) hH4 ?_
  rotate_left
  · (intro wz hSz; have hcz := True.intro; obtain ⟨c0, c1⟩ := view_cells ((Below.block hSz _ (L.blk_lt HP2.out)).trans HP2.out); go_simp; try with_reducible rfl)
  simp only [Act.put, List.setIfInBounds_toArray, List.set_cons_zero, List.set_cons_succ]
  refine wpAnyH_ready (rs := [19]) (by kernel_rfl) (by simp) ?_
  refine AllReadyH.cons (o := { dst := some 36, op := Go.Op.call { callee := Go.Callee.value (Go.Operand.func 21), args := #[Go.Operand.tmp 34, Go.Operand.tmp 35], argTypes := #[22, 29] }, type := 27, pos := "law.go:43", after := #[{ on := 17, ground := Go.Ground.data }, { on := 18, ground := Go.Ground.data }, { on := 16, ground := Go.Ground.chain }, { on := 16, ground := Go.Ground.guard }], guard := some (16, true) }) rfl (fun K hK => ?_) AllReadyH.nil
  go_simp
  with_reducible refine (ID.out.at _ (HU.out.below hH4.b) (HT1.out.below hH4.b)).mono ?_
  rintro r wq5 ⟨A5, cap5, rfl, H5, hbq⟩
  go_wp2_with fail
  refine hK.out _ _ (Keeps.trans hH4 hbq) (fun hJ => ?_)
  refine wpAnyH_more (S' := Keeps wq5) (fun z hz => Keeps.trans hJ hz) _ _ _ _ ?_
  replace HB := Lib.hid (HB.out.trans (Below.mono hJ HB.out.size))
  replace HU := Lib.hid (HU.out.below hJ)
  replace HP := Lib.hid ((Below.block hJ _ (L.blk_lt HP.out)).trans HP.out)
  replace HP1 := Lib.hid ((Below.block hJ _ (L.blk_lt HP1.out)).trans HP1.out)
  replace HP2 := Lib.hid ((Below.block hJ _ (L.blk_lt HP2.out)).trans HP2.out)
  replace HL1 := Lib.hid (HL1.out.below hJ)
  replace HT1 := Lib.hid (HT1.out.below hJ)
  replace HL2 := Lib.hid (HL2.out.below hJ)
  replace HT2 := Lib.hid (HT2.out.below hJ)
  replace H3 := Lib.hid (H3.out.below hJ)
  replace H4 := Lib.hid (H4.out.below hJ)
  replace H5 := Lib.hid H5
  have hH5 : Keeps wq5 wq5 := Below.refl _ _
  clear hK K hbq hH4 hJ
  refine wpAnyH_ready (rs := [22]) (by kernel_rfl) (by simp) ?_
  refine AllReadyH.cons (o := { dst := some 39, op := Go.Op.call { callee := Go.Callee.value (Go.Operand.func 22), args := #[Go.Operand.tmp 37, Go.Operand.tmp 38], argTypes := #[22, 29] }, type := 27, pos := "law.go:43", after := #[{ on := 20, ground := Go.Ground.data }, { on := 21, ground := Go.Ground.data }, { on := 19, ground := Go.Ground.chain }, { on := 16, ground := Go.Ground.guard }], guard := some (16, true) }) rfl (fun K hK => ?_) AllReadyH.nil
  go_simp
  with_reducible refine (RI.out.at _ (HU.out.below hH5.b) (HT2.out.below hH5.b)).mono ?_
  rintro r wq6 ⟨A6, cap6, rfl, H6, hbq⟩
  go_wp2_with fail
  refine hK.out _ _ (Keeps.trans hH5 hbq) (fun hJ => ?_)
  refine wpAnyH_more (S' := Keeps wq6) (fun z hz => Keeps.trans hJ hz) _ _ _ _ ?_
  replace HB := Lib.hid (HB.out.trans (Below.mono hJ HB.out.size))
  replace HU := Lib.hid (HU.out.below hJ)
  replace HP := Lib.hid ((Below.block hJ _ (L.blk_lt HP.out)).trans HP.out)
  replace HP1 := Lib.hid ((Below.block hJ _ (L.blk_lt HP1.out)).trans HP1.out)
  replace HP2 := Lib.hid ((Below.block hJ _ (L.blk_lt HP2.out)).trans HP2.out)
  replace HL1 := Lib.hid (HL1.out.below hJ)
  replace HT1 := Lib.hid (HT1.out.below hJ)
  replace HL2 := Lib.hid (HL2.out.below hJ)
  replace HT2 := Lib.hid (HT2.out.below hJ)
  replace H3 := Lib.hid (H3.out.below hJ)
  replace H4 := Lib.hid (H4.out.below hJ)
  replace H5 := Lib.hid (H5.out.below hJ)
  replace H6 := Lib.hid H6
  have hH6 : Keeps wq6 wq6 := Below.refl _ _
  clear hK K hbq hH5 hJ
  refine wpAnyH_ready (rs := [23]) (by kernel_rfl) (by simp) ?_
  refine AllReadyH.cons (o := { dst := some 40, op := Go.Op.call { callee := Go.Callee.value (Go.Operand.func 20), args := #[Go.Operand.tmp 36, Go.Operand.tmp 39], argTypes := #[27, 27] }, type := 4, pos := "law.go:43", after := #[{ on := 19, ground := Go.Ground.data }, { on := 22, ground := Go.Ground.data }, { on := 22, ground := Go.Ground.chain }, { on := 16, ground := Go.Ground.guard }], guard := some (16, true) }) rfl (fun K hK => ?_) AllReadyH.nil
  go_simp
  with_reducible refine (IN.out.at _ (H5.out.below hH6.b) (H6.out.below hH6.b)).mono ?_
  rintro r wq7 ⟨rfl, hbq⟩
  go_wp2_with fail
  refine hK.out _ _ (Keeps.trans hH6 hbq) (fun hJ => ?_)
  refine wpAnyH_more (S' := Keeps wq7) (fun z hz => Keeps.trans hJ hz) _ _ _ _ ?_
  replace HB := Lib.hid (HB.out.trans (Below.mono hJ HB.out.size))
  replace HU := Lib.hid (HU.out.below hJ)
  replace HP := Lib.hid ((Below.block hJ _ (L.blk_lt HP.out)).trans HP.out)
  replace HP1 := Lib.hid ((Below.block hJ _ (L.blk_lt HP1.out)).trans HP1.out)
  replace HP2 := Lib.hid ((Below.block hJ _ (L.blk_lt HP2.out)).trans HP2.out)
  replace HL1 := Lib.hid (HL1.out.below hJ)
  replace HT1 := Lib.hid (HT1.out.below hJ)
  replace HL2 := Lib.hid (HL2.out.below hJ)
  replace HT2 := Lib.hid (HT2.out.below hJ)
  replace H3 := Lib.hid (H3.out.below hJ)
  replace H4 := Lib.hid (H4.out.below hJ)
  replace H5 := Lib.hid (H5.out.below hJ)
  replace H6 := Lib.hid (H6.out.below hJ)
  have hH7 : Keeps wq7 wq7 := Below.refl _ _
  clear hK K hbq hH6 hJ
  refine wpAnyH_take (i := 24) (oi := { dst := some 41, op := Go.Op.pick (Go.Operand.tmp 33) (Go.Operand.tmp 40) (Go.Operand.const (Go.Value.bool false)), type := 4, pos := "law.go:43", after := #[{ on := 16, ground := Go.Ground.data }, { on := 23, ground := Go.Ground.data }], guard := none }) (v := ?_) rfl (by kernel_rfl) (by kernel_rfl) (by kernel_rfl) (fun _ _ _ h => h) (Or.inl ⟨by rfl, ?_⟩) hH7 ?_
  rotate_left
  · (intro wz hSz; (try dsimp only at hSz); go_simp; try with_reducible rfl)
  simp only [Act.put, List.setIfInBounds_toArray, List.set_cons_zero, List.set_cons_succ]
  refine wpAnyH_take (i := 25) (oi := { dst := some 42, op := Go.Op.move (Go.Operand.tmp 41), type := 4, pos := "law.go:43", after := #[{ on := 24, ground := Go.Ground.data }, { on := 23, ground := Go.Ground.chain }], guard := none }) (v := ?_) rfl (by kernel_rfl) (by kernel_rfl) (by kernel_rfl) (fun _ _ _ h => h) (Or.inl ⟨by rfl, ?_⟩) hH7 ?_
  rotate_left
  · (intro wz hSz; (try dsimp only at hSz); go_simp; try with_reducible rfl)
  simp only [Act.put, List.setIfInBounds_toArray, List.set_cons_zero, List.set_cons_succ]
  refine wpAnyH_take (i := 26) (oi := { dst := some 43, op := Go.Op.move (Go.Operand.tmp 0), type := 22, pos := "law.go:43", after := #[{ on := 25, ground := Go.Ground.guard }], guard := some (25, true) }) (v := ?_) rfl (by kernel_rfl) (by kernel_rfl) (by kernel_rfl) (fun _ _ _ h => h) (Or.inl ⟨by rfl, ?_⟩) hH7 ?_
  rotate_left
  · (intro wz hSz; (try dsimp only at hSz); go_simp; try with_reducible rfl)
  simp only [Act.put, List.setIfInBounds_toArray, List.set_cons_zero, List.set_cons_succ]
  refine wpAnyH_take (i := 27) (oi := { dst := some 44, op := Go.Op.load 25 (Go.Operand.tmp 4), type := 25, pos := "law.go:43", after := #[{ on := 25, ground := Go.Ground.guard }], guard := some (25, true) }) (v := ?_) rfl (by kernel_rfl) (by kernel_rfl) (by kernel_rfl) (fun _ _ _ h => h) (Or.inl ⟨by rfl, ?_⟩) hH7 ?_
  rotate_left
  · (intro wz hSz; have hcz := True.intro; obtain ⟨c0, c1⟩ := lab_cells ((Below.block hSz _ (L.blk_lt HP.out)).trans HP.out); go_simp; try with_reducible rfl)
  simp only [Act.put, List.setIfInBounds_toArray, List.set_cons_zero, List.set_cons_succ]
  refine wpAnyH_take (i := 29) (oi := { dst := some 46, op := Go.Op.move (Go.Operand.tmp 0), type := 22, pos := "law.go:43", after := #[{ on := 25, ground := Go.Ground.guard }], guard := some (25, true) }) (v := ?_) rfl (by kernel_rfl) (by kernel_rfl) (by kernel_rfl) (fun _ _ _ h => h) (Or.inl ⟨by rfl, ?_⟩) hH7 ?_
  rotate_left
  · (intro wz hSz; (try dsimp only at hSz); go_simp; try with_reducible rfl)
  simp only [Act.put, List.setIfInBounds_toArray, List.set_cons_zero, List.set_cons_succ]
  refine wpAnyH_take (i := 30) (oi := { dst := some 47, op := Go.Op.load 25 (Go.Operand.tmp 4), type := 25, pos := "law.go:43", after := #[{ on := 25, ground := Go.Ground.guard }], guard := some (25, true) }) (v := ?_) rfl (by kernel_rfl) (by kernel_rfl) (by kernel_rfl) (fun _ _ _ h => h) (Or.inl ⟨by rfl, ?_⟩) hH7 ?_
  rotate_left
  · (intro wz hSz; have hcz := True.intro; obtain ⟨c0, c1⟩ := lab_cells ((Below.block hSz _ (L.blk_lt HP.out)).trans HP.out); go_simp; try with_reducible rfl)
  simp only [Act.put, List.setIfInBounds_toArray, List.set_cons_zero, List.set_cons_succ]
  refine wpAnyH_ready (rs := [28]) (by kernel_rfl) (by simp) ?_
  refine AllReadyH.cons (o := { dst := some 45, op := Go.Op.call { callee := Go.Callee.value (Go.Operand.func 24), args := #[Go.Operand.tmp 43, Go.Operand.tmp 44], argTypes := #[22, 25] }, type := 22, pos := "law.go:43", after := #[{ on := 26, ground := Go.Ground.data }, { on := 27, ground := Go.Ground.data }, { on := 25, ground := Go.Ground.chain }, { on := 25, ground := Go.Ground.guard }], guard := some (25, true) }) rfl (fun K hK => ?_) AllReadyH.nil
  go_simp
  with_reducible refine (CU.out.at _ (HU.out.below hH7.b)).mono ?_
  rintro r wq8 ⟨A7, cap7, rfl, H7, hbq⟩
  go_wp2_with fail
  refine hK.out _ _ (Keeps.trans hH7 hbq) (fun hJ => ?_)
  refine wpAnyH_more (S' := Keeps wq8) (fun z hz => Keeps.trans hJ hz) _ _ _ _ ?_
  replace HB := Lib.hid (HB.out.trans (Below.mono hJ HB.out.size))
  replace HU := Lib.hid (HU.out.below hJ)
  replace HP := Lib.hid ((Below.block hJ _ (L.blk_lt HP.out)).trans HP.out)
  replace HP1 := Lib.hid ((Below.block hJ _ (L.blk_lt HP1.out)).trans HP1.out)
  replace HP2 := Lib.hid ((Below.block hJ _ (L.blk_lt HP2.out)).trans HP2.out)
  replace HL1 := Lib.hid (HL1.out.below hJ)
  replace HT1 := Lib.hid (HT1.out.below hJ)
  replace HL2 := Lib.hid (HL2.out.below hJ)
  replace HT2 := Lib.hid (HT2.out.below hJ)
  replace H3 := Lib.hid (H3.out.below hJ)
  replace H4 := Lib.hid (H4.out.below hJ)
  replace H5 := Lib.hid (H5.out.below hJ)
  replace H6 := Lib.hid (H6.out.below hJ)
  replace H7 := Lib.hid H7
  have hH8 : Keeps wq8 wq8 := Below.refl _ _
  clear hK K hbq hH7 hJ
  refine wpAnyH_ready (rs := [31]) (by kernel_rfl) (by simp) ?_
  refine AllReadyH.cons (o := { dst := some 48, op := Go.Op.call { callee := Go.Callee.value (Go.Operand.func 25), args := #[Go.Operand.tmp 46, Go.Operand.tmp 47], argTypes := #[22, 25] }, type := 22, pos := "law.go:43", after := #[{ on := 29, ground := Go.Ground.data }, { on := 30, ground := Go.Ground.data }, { on := 28, ground := Go.Ground.chain }, { on := 25, ground := Go.Ground.guard }], guard := some (25, true) }) rfl (fun K hK => ?_) AllReadyH.nil
  go_simp
  with_reducible refine (RC.out.at _ (HU.out.below hH8.b)).mono ?_
  rintro r wq9 ⟨A8, cap8, rfl, H8, hbq⟩
  go_wp2_with fail
  refine hK.out _ _ (Keeps.trans hH8 hbq) (fun hJ => ?_)
  refine wpAnyH_more (S' := Keeps wq9) (fun z hz => Keeps.trans hJ hz) _ _ _ _ ?_
  replace HB := Lib.hid (HB.out.trans (Below.mono hJ HB.out.size))
  replace HU := Lib.hid (HU.out.below hJ)
  replace HP := Lib.hid ((Below.block hJ _ (L.blk_lt HP.out)).trans HP.out)
  replace HP1 := Lib.hid ((Below.block hJ _ (L.blk_lt HP1.out)).trans HP1.out)
  replace HP2 := Lib.hid ((Below.block hJ _ (L.blk_lt HP2.out)).trans HP2.out)
  replace HL1 := Lib.hid (HL1.out.below hJ)
  replace HT1 := Lib.hid (HT1.out.below hJ)
  replace HL2 := Lib.hid (HL2.out.below hJ)
  replace HT2 := Lib.hid (HT2.out.below hJ)
  replace H3 := Lib.hid (H3.out.below hJ)
  replace H4 := Lib.hid (H4.out.below hJ)
  replace H5 := Lib.hid (H5.out.below hJ)
  replace H6 := Lib.hid (H6.out.below hJ)
  replace H7 := Lib.hid (H7.out.below hJ)
  replace H8 := Lib.hid H8
  have hH9 : Keeps wq9 wq9 := Below.refl _ _
  clear hK K hbq hH8 hJ
  refine wpAnyH_ready (rs := [32]) (by kernel_rfl) (by simp) ?_
  refine AllReadyH.cons (o := { dst := some 49, op := Go.Op.call { callee := Go.Callee.value (Go.Operand.func 23), args := #[Go.Operand.tmp 45, Go.Operand.tmp 48], argTypes := #[22, 22] }, type := 4, pos := "law.go:43", after := #[{ on := 28, ground := Go.Ground.data }, { on := 31, ground := Go.Ground.data }, { on := 31, ground := Go.Ground.chain }, { on := 25, ground := Go.Ground.guard }], guard := some (25, true) }) rfl (fun K hK => ?_) AllReadyH.nil
  go_simp
  with_reducible refine (SI.out.at _ (H7.out.below hH9.b) (H8.out.below hH9.b)).mono ?_
  rintro r wq10 ⟨rfl, hbq⟩
  go_wp2_with fail
  refine hK.out _ _ (Keeps.trans hH9 hbq) (fun hJ => ?_)
  refine wpAnyH_more (S' := Keeps wq10) (fun z hz => Keeps.trans hJ hz) _ _ _ _ ?_
  replace HB := Lib.hid (HB.out.trans (Below.mono hJ HB.out.size))
  replace HU := Lib.hid (HU.out.below hJ)
  replace HP := Lib.hid ((Below.block hJ _ (L.blk_lt HP.out)).trans HP.out)
  replace HP1 := Lib.hid ((Below.block hJ _ (L.blk_lt HP1.out)).trans HP1.out)
  replace HP2 := Lib.hid ((Below.block hJ _ (L.blk_lt HP2.out)).trans HP2.out)
  replace HL1 := Lib.hid (HL1.out.below hJ)
  replace HT1 := Lib.hid (HT1.out.below hJ)
  replace HL2 := Lib.hid (HL2.out.below hJ)
  replace HT2 := Lib.hid (HT2.out.below hJ)
  replace H3 := Lib.hid (H3.out.below hJ)
  replace H4 := Lib.hid (H4.out.below hJ)
  replace H5 := Lib.hid (H5.out.below hJ)
  replace H6 := Lib.hid (H6.out.below hJ)
  replace H7 := Lib.hid (H7.out.below hJ)
  replace H8 := Lib.hid (H8.out.below hJ)
  have hH10 : Keeps wq10 wq10 := Below.refl _ _
  clear hK K hbq hH9 hJ
  refine wpAnyH_take (i := 33) (oi := { dst := some 50, op := Go.Op.pick (Go.Operand.tmp 42) (Go.Operand.tmp 49) (Go.Operand.const (Go.Value.bool false)), type := 4, pos := "law.go:43", after := #[{ on := 25, ground := Go.Ground.data }, { on := 32, ground := Go.Ground.data }], guard := none }) (v := ?_) rfl (by kernel_rfl) (by kernel_rfl) (by kernel_rfl) (fun _ _ _ h => h) (Or.inl ⟨by rfl, ?_⟩) hH10 ?_
  rotate_left
  · (intro wz hSz; (try dsimp only at hSz); go_simp; try with_reducible rfl)
  simp only [Act.put, List.setIfInBounds_toArray, List.set_cons_zero, List.set_cons_succ]
  refine wpAnyH_take (i := 34) (oi := { dst := some 6, op := Go.Op.assign (Go.Operand.tmp 50), type := 4, pos := "law.go:43", after := #[{ on := 33, ground := Go.Ground.data }, { on := 32, ground := Go.Ground.chain }, { on := 0, ground := Go.Ground.phase }, { on := 1, ground := Go.Ground.phase }, { on := 2, ground := Go.Ground.phase }, { on := 3, ground := Go.Ground.phase }, { on := 4, ground := Go.Ground.phase }, { on := 5, ground := Go.Ground.phase }, { on := 6, ground := Go.Ground.phase }, { on := 7, ground := Go.Ground.phase }, { on := 8, ground := Go.Ground.phase }, { on := 9, ground := Go.Ground.phase }, { on := 10, ground := Go.Ground.phase }, { on := 11, ground := Go.Ground.phase }, { on := 12, ground := Go.Ground.phase }, { on := 13, ground := Go.Ground.phase }, { on := 14, ground := Go.Ground.phase }, { on := 15, ground := Go.Ground.phase }, { on := 16, ground := Go.Ground.phase }, { on := 17, ground := Go.Ground.phase }, { on := 18, ground := Go.Ground.phase }, { on := 19, ground := Go.Ground.phase }, { on := 20, ground := Go.Ground.phase }, { on := 21, ground := Go.Ground.phase }, { on := 22, ground := Go.Ground.phase }, { on := 23, ground := Go.Ground.phase }, { on := 24, ground := Go.Ground.phase }, { on := 25, ground := Go.Ground.phase }, { on := 26, ground := Go.Ground.phase }, { on := 27, ground := Go.Ground.phase }, { on := 28, ground := Go.Ground.phase }, { on := 29, ground := Go.Ground.phase }, { on := 30, ground := Go.Ground.phase }, { on := 31, ground := Go.Ground.phase }, { on := 32, ground := Go.Ground.phase }, { on := 33, ground := Go.Ground.phase }], guard := none }) (v := ?_) rfl (by kernel_rfl) (by kernel_rfl) (by kernel_rfl) (fun _ _ _ h => h) (Or.inl ⟨by rfl, ?_⟩) hH10 ?_
  rotate_left
  · (intro wz hSz; (try dsimp only at hSz); go_simp; try with_reducible rfl)
  simp only [Act.put, List.setIfInBounds_toArray, List.set_cons_zero, List.set_cons_succ]
  refine wpAnyH_done (by kernel_rfl) ?_ _
  go_wp2_with fail
  go_ret
  exact ⟨rfl, HB.out⟩
end Go.Proofs.Ytaejphdgfkljmaa.V

namespace Go.Proofs.Ytaejphdgfkljmaa.V
set_option linter.unusedVariables false
set_option linter.unusedSimpArgs false
open Go.RowKit
open T
open I (It Lb ItemsIn ItemsAt ItemsOk itCells itCells_snoc itCells_at items_cells items_own own_at own_below infoItem alloc1)

set_option maxRecDepth 100000 in
set_option maxHeartbeats 8000000 in
theorem vfinds_law {A LA TA : Option Addr} {m cap ln lc tc : Nat} {l : List It} {ts ds : List Int} {n k r : Int} {b : Bool} {w : World} (hn0 : -9223372036854775808 ≤ n) (hn1 : n ≤ 9223372036854775807) (htl : ts.length ≤ maxLen) (HU : Hid (ItemsIn w A l)) (HT : Hid (IntsIn w TA ts))
    (FD : Hid (FdC 26 ts n (fndK (fnd n 0 ts)) (fnd n 0 ts).isSome)) (AF : Hid (AfC 27 ts n (aftK ts n) (aftE ts n))) (LV : Hid (LvC 16)) (ID : Hid (IdC 21 A m cap l ts ds)) (RI : Hid (IdC 22 A m cap l ts ds)) (IN : Hid (InC 20 ds)) :
    Calls Try.prog 4 #[.agg #[.slice LA ln lc, .slice TA ts.length tc], .slice A m cap, .int .i64 n] w fun e w' => e = .returned (.bool true) ∧ Below w.heap.size w w' := by
  unfold maxLen at htl
  obtain ⟨W0, hW0⟩ : ∃ W0 : World, W0 = w.alloc (.cells #[.slice LA ln lc, .slice TA ts.length tc] 29) := ⟨_, rfl⟩
  have HB := Lib.hid (show Below w.heap.size w W0 by rw [hW0]; exact alloc1 _ _)
  have HP := Lib.hid (show W0.heap[w.heap.size]? = some (.cells #[.slice LA ln lc, .slice TA ts.length tc] 29 (0, 0)) by rw [hW0]; exact heap_alloc_new w _)
  obtain ⟨x0, x1⟩ := view_cells HP.out
  rw [hW0] at x0 x1
  go_enter Try.func4, Try.ntmps4
  go_wp2_with fail
  rw [← hW0]
  clear hW0 x0 x1
  replace HU := Lib.hid (HU.out.below HB.out)
  replace HT := Lib.hid (HT.out.below HB.out)
  obtain ⟨fo, hfo⟩ : ∃ fo, fo = fnd n 0 ts := ⟨_, rfl⟩
  rw [← hfo] at FD
  have HFO := Lib.hid hfo
  clear hfo
  obtain ⟨fk, hfk⟩ : ∃ fk, fk = fndK fo := ⟨_, rfl⟩
  obtain ⟨fb, hfb⟩ : ∃ fb, fb = fo.isSome := ⟨_, rfl⟩
  rw [← hfk, ← hfb] at FD
  have HFK := Lib.hid hfk
  have HFB := Lib.hid hfb
  clear hfk hfb
  obtain ⟨ak, hak⟩ : ∃ ak, ak = aftK ts n := ⟨_, rfl⟩
  obtain ⟨ae, hae⟩ : ∃ ae, ae = aftE ts n := ⟨_, rfl⟩
  rw [← hak, ← hae] at AF
  have HAK := Lib.hid hak
  have HAE := Lib.hid hae
  clear hak hae
  with_reducible refine (FD.out.at W0 HT.out).mono ?_
  rintro e w1 ⟨rfl, hb1⟩
  replace HU := Lib.hid (HU.out.below hb1)
  replace HT := Lib.hid (HT.out.below hb1)
  replace HP := Lib.hid ((Below.block hb1 _ (L.blk_lt HP.out)).trans HP.out)
  replace HB := Lib.hid (HB.out.trans (Below.mono hb1 HB.out.size))
  clear hb1 FD
  obtain ⟨x0, x1⟩ := view_cells HP.out
  go_wp2_with fail
  go_loopg [9, 10, 11] ts.length (fun g kv bv iv wr => ∃ (q : Nat) (z : Int) (fo : Option Nat), q ≤ ts.length ∧ z = (q : Int) - 1 ∧ iv = .int .i64 z ∧ q ≤ g ∧ kv = .int .i64 (fndK fo) ∧ bv = .bool fo.isSome ∧ wr = w1 ∧ Hid (fo = fnd n q (ts.drop q)))
  case atStart => exact ⟨ts.length, _, none, Nat.le_refl _, rfl, by go_num, Nat.le_refl _, rfl, rfl, rfl, Lib.hid (by rw [List.drop_length]; rfl)⟩
  case round =>
    obtain ⟨q, z, go, hq, hz, rfl, hm, rfl, rfl, rfl, HG⟩ := hrel
    by_cases hq0 : q = 0
    · subst hq0
      have hz1 : z = -1 := by omega
      subst hz1
      have HGO := Lib.hid (show go = fo by rw [HG.out, HFO.out]; rfl)
      have hfk2 : fndK go = fk := by rw [HGO.out, HFK.out]
      have hfb2 : go.isSome = fb := by rw [HGO.out, HFB.out]
      rw [hfk2, hfb2]
      clear hz HG HGO hfk2 hfb2 HFO HFK HFB hm hq
      go_wp2_with fail
      with_reducible refine (AF.out.at wr HT.out).mono ?_
      rintro e w2 ⟨rfl, hb2⟩
      replace HU := Lib.hid (HU.out.below hb2)
      replace HT := Lib.hid (HT.out.below hb2)
      replace HP := Lib.hid ((Below.block hb2 _ (L.blk_lt HP.out)).trans HP.out)
      replace HB := Lib.hid (HB.out.trans (Below.mono hb2 HB.out.size))
      clear hb2 AF x0 x1
      obtain ⟨x0, x1⟩ := view_cells HP.out
      obtain ⟨nb, hnb⟩ : ∃ nb, nb = aftNo ts n := ⟨_, rfl⟩
      have HNB := Lib.hid hnb
      have HAK2 := Lib.hid (show ak = if nb = true then 0 else if 0 < n then ts.getD (n - 1).toNat 0 + 1 else 0 by rw [HAK.out, hnb]; rfl)
      have HAE2 := Lib.hid (show ae = if nb = true then 2 else 0 by rw [HAE.out, hnb]; rfl)
      clear hnb HAK HAE
      go_upto_region 10 with fail
      go_cut [74] (fun c wx => c = .bool nb ∧ wx = w2)
      case first =>
        by_cases h0 : n < 0
        · have hb : nb = true := by rw [HNB.out]; unfold aftNo; rw [decide_eq_true h0]; rfl
          subst hb
          go_wp2_with fail
          go_meet
          case rel => exact ⟨rfl, rfl⟩
        · by_cases h1 : (ts.length : Int) < n
          · have hb : nb = true := by rw [HNB.out]; unfold aftNo; rw [decide_eq_true h1, Bool.or_true]; rfl
            subst hb
            go_wp2_with fail
            go_meet
            case rel => exact ⟨rfl, rfl⟩
          · by_cases h2 : 0 < n
            · obtain ⟨j, rfl⟩ : ∃ j : Nat, n = (j : Int) + 1 := ⟨(n - 1).toNat, by omega⟩
              have hj : j < ts.length := by omega
              obtain ⟨bt, ot, hTe, hbt, hI⟩ := HT.out (by omega)
              subst hTe
              have ct := hI j hj
              have hg : ts.getD ((j : Int) + 1 - 1).toNat 0 = ts[j] := by
                rw [show ((j : Int) + 1 - 1).toNat = j by omega, List.getD_eq_getElem?_getD, List.getElem?_eq_getElem hj]; rfl
              have h0j : (0 : Int) ≤ (j : Int) := by omega
              have hji : (j : Int) < (ts.length : Int) := by omega
              have HNB2 := Lib.hid (show nb = (decide (ts[j] < 0) || decide (1073741824 ≤ ts[j])) by rw [HNB.out]; unfold aftNo; rw [hg, decide_eq_false h0, decide_eq_false h1, decide_eq_true h2]; rfl)
              clear hI hg HNB
              generalize ts[j] = a at *
              by_cases h3 : a < 0
              · have hb : nb = true := by rw [HNB2.out, decide_eq_true h3]; rfl
                subst hb
                go_wp2_with fail
                go_meet
                case rel => exact ⟨rfl, rfl⟩
              · by_cases h4 : 1073741824 ≤ a
                · have hb : nb = true := by rw [HNB2.out, decide_eq_true h4, Bool.or_true]
                  subst hb
                  go_wp2_with fail
                  go_meet
                  case rel => exact ⟨rfl, rfl⟩
                · have hb : nb = false := by rw [HNB2.out, decide_eq_false h3, decide_eq_false h4]; rfl
                  subst hb
                  go_wp2_with fail
                  go_meet
                  case rel => exact ⟨rfl, rfl⟩
            · have hb : nb = false := by rw [HNB.out]; unfold aftNo; rw [decide_eq_false h0, decide_eq_false h1, decide_eq_false h2]; rfl
              subst hb
              go_wp2_with fail
              go_meet
              case rel => exact ⟨rfl, rfl⟩
      case rest =>
      obtain ⟨rfl, hwe⟩ := hcut
      subst wc
      go_upto_if 74 with fail
      go_cut [14, 15] (fun a r wx => a = .int .i64 ak ∧ r = .int .i64 ae ∧ wx = w2)
      case first =>
        cases nb with
        | true =>
          have hk : ak = 0 := by rw [HAK2.out, if_pos rfl]
          have he : ae = 2 := by rw [HAE2.out, if_pos rfl]
          subst hk he
          go_wp2_with fail
          go_meet
          case rel => exact ⟨rfl, rfl, rfl⟩
        | false =>
          have he : ae = 0 := by rw [HAE2.out, if_neg (by decide)]
          subst he
          have h5 : aftNo ts n = false := HNB.out.symm
          unfold aftNo at h5
          simp only [Bool.or_eq_false_iff, Bool.and_eq_false_iff, decide_eq_false_iff_not] at h5
          by_cases h2 : 0 < n
          · obtain ⟨j, rfl⟩ : ∃ j : Nat, n = (j : Int) + 1 := ⟨(n - 1).toNat, by omega⟩
            have hj : j < ts.length := by omega
            obtain ⟨bt, ot, hTe, hbt, hI⟩ := HT.out (by omega)
            subst hTe
            have ct := hI j hj
            have hg : ts.getD ((j : Int) + 1 - 1).toNat 0 = ts[j] := by
              rw [show ((j : Int) + 1 - 1).toNat = j by omega, List.getD_eq_getElem?_getD, List.getElem?_eq_getElem hj]; rfl
            have h0j : (0 : Int) ≤ (j : Int) := by omega
            have hji : (j : Int) < (ts.length : Int) := by omega
            have hk : ak = ts[j] + 1 := by rw [HAK2.out, if_neg (by decide), if_pos h2, hg]
            rw [hg] at h5
            have h6 : 0 ≤ ts[j] ∧ ts[j] < 1073741824 := by
              rcases h5.2 with h7 | h7
              · exact absurd h2 h7
              · omega
            clear hI hg HNB h5 HAK2 HAE2
            generalize ts[j] = a at *
            subst hk
            obtain ⟨h6a, h6b⟩ := h6
            go_wp2_with fail
            go_meet
            case rel => exact ⟨by go_num, rfl, rfl⟩
          · have hk : ak = 0 := by rw [HAK2.out, if_neg (by decide), if_neg h2]
            subst hk
            clear h5
            go_wp2_with fail
            go_meet
            case rel => exact ⟨rfl, rfl, rfl⟩
      case rest =>
      obtain ⟨rfl, rfl, hwe⟩ := hcut
      subst wc
      clear HNB HAK2 HAE2 x0 x1
      go_upto_region 14 with fail
      refine wp_region_held_drew (S := (Keeps w2)) (by kernel_rfl) (keeps_drew _) (fun hH0 => ?_)
      refine wpAnyH_ready (rs := [0]) (by kernel_rfl) (by simp) ?_
      refine AllReadyH.cons (o := { dst := some 84, op := Go.Op.call { callee := Go.Callee.value (Go.Operand.func 16), args := #[], argTypes := #[] }, type := 4, pos := "law.go:62", after := #[], guard := none }) rfl (fun K hK => ?_) AllReadyH.nil
      go_simp
      with_reducible refine (LV.out.at _).mono ?_
      rintro r wq1 ⟨rfl, hbq⟩
      go_wp2_with fail
      refine hK.out _ _ (Keeps.trans hH0 hbq) (fun hJ => ?_)
      refine wpAnyH_more (S' := Keeps wq1) (fun z hz => Keeps.trans hJ hz) _ _ _ _ ?_
      replace HB := Lib.hid (HB.out.trans (Below.mono hJ HB.out.size))
      replace HU := Lib.hid (HU.out.below hJ)
      replace HP := Lib.hid ((Below.block hJ _ (L.blk_lt HP.out)).trans HP.out)
      replace HT := Lib.hid (HT.out.below hJ)
      have hH1 : Keeps wq1 wq1 := Below.refl _ _
      clear hK K hbq hH0 hJ
      refine wpAnyH_take (i := 1) (oi := { dst := some 85, op := Go.Op.move (Go.Operand.tmp 84), type := 4, pos := "law.go:62", after := #[{ on := 0, ground := Go.Ground.data }, { on := 0, ground := Go.Ground.chain }], guard := none }) (v := ?_) rfl (by kernel_rfl) (by kernel_rfl) (by kernel_rfl) (fun _ _ _ h => h) (Or.inl ⟨by rfl, ?_⟩) hH1 ?_
      rotate_left
      · (intro wz hSz; (try dsimp only at hSz); go_simp; try with_reducible rfl)
      simp only [Act.put, List.setIfInBounds_toArray, List.set_cons_zero, List.set_cons_succ]
      refine wpAnyH_take (i := 2) (oi := { dst := some 86, op := Go.Op.move (Go.Operand.tmp 7), type := 3, pos := "law.go:62", after := #[{ on := 1, ground := Go.Ground.guard }], guard := some (1, true) }) (v := ?_) rfl (by kernel_rfl) (by kernel_rfl) (by kernel_rfl) (fun _ _ _ h => h) (Or.inl ⟨by rfl, ?_⟩) hH1 ?_
      rotate_left
      · (intro wz hSz; (try dsimp only at hSz); go_simp; try with_reducible rfl)
      simp only [Act.put, List.setIfInBounds_toArray, List.set_cons_zero, List.set_cons_succ]
      refine wpAnyH_take (i := 3) (oi := { dst := some 87, op := Go.Op.move (Go.Operand.tmp 9), type := 3, pos := "law.go:62", after := #[{ on := 1, ground := Go.Ground.guard }], guard := some (1, true) }) (v := ?_) rfl (by kernel_rfl) (by kernel_rfl) (by kernel_rfl) (fun _ _ _ h => h) (Or.inl ⟨by rfl, ?_⟩) hH1 ?_
      rotate_left
      · (intro wz hSz; (try dsimp only at hSz); go_simp; try with_reducible rfl)
      simp only [Act.put, List.setIfInBounds_toArray, List.set_cons_zero, List.set_cons_succ]
      refine wpAnyH_take (i := 4) (oi := { dst := some 88, op := Go.Op.binOp Go.BinOp.eql 3 (Go.Operand.tmp 86) (Go.Operand.tmp 87) 3, type := 4, pos := "law.go:62", after := #[{ on := 2, ground := Go.Ground.data }, { on := 3, ground := Go.Ground.data }, { on := 1, ground := Go.Ground.guard }], guard := some (1, true) }) (v := ?_) rfl (by kernel_rfl) (by kernel_rfl) (by kernel_rfl) (fun _ _ _ h => h) (Or.inl ⟨by rfl, ?_⟩) hH1 ?_
      rotate_left
      · (intro wz hSz; (try dsimp only at hSz); go_simp; try with_reducible rfl)
      simp only [Act.put, List.setIfInBounds_toArray, List.set_cons_zero, List.set_cons_succ]
      refine wpAnyH_take (i := 5) (oi := { dst := some 89, op := Go.Op.pick (Go.Operand.tmp 85) (Go.Operand.tmp 88) (Go.Operand.const (Go.Value.bool false)), type := 4, pos := "law.go:62", after := #[{ on := 1, ground := Go.Ground.data }, { on := 4, ground := Go.Ground.data }], guard := none }) (v := ?_) rfl (by kernel_rfl) (by kernel_rfl) (by kernel_rfl) (fun _ _ _ h => h) (Or.inl ⟨by rfl, ?_⟩) hH1 ?_
      rotate_left
      · (intro wz hSz; (try dsimp only at hSz); go_simp; try with_reducible rfl)
      simp only [Act.put, List.setIfInBounds_toArray, List.set_cons_zero, List.set_cons_succ]
      refine wpAnyH_take (i := 6) (oi := { dst := some 90, op := Go.Op.move (Go.Operand.tmp 89), type := 4, pos := "law.go:62", after := #[{ on := 5, ground := Go.Ground.data }, { on := 1, ground := Go.Ground.chain }], guard := none }) (v := ?_) rfl (by kernel_rfl) (by kernel_rfl) (by kernel_rfl) (fun _ _ _ h => h) (Or.inl ⟨by rfl, ?_⟩) hH1 ?_
      rotate_left
      · (intro wz hSz; (try dsimp only at hSz); go_simp; try with_reducible rfl)
      simp only [Act.put, List.setIfInBounds_toArray, List.set_cons_zero, List.set_cons_succ]
      refine wpAnyH_take (i := 7) (oi := { dst := some 91, op := Go.Op.move (Go.Operand.tmp 8), type := 4, pos := "law.go:62", after := #[{ on := 6, ground := Go.Ground.guard }], guard := some (6, true) }) (v := ?_) rfl (by kernel_rfl) (by kernel_rfl) (by kernel_rfl) (fun _ _ _ h => h) (Or.inl ⟨by rfl, ?_⟩) hH1 ?_
      rotate_left
      · (intro wz hSz; (try dsimp only at hSz); go_simp; try with_reducible rfl)
      simp only [Act.put, List.setIfInBounds_toArray, List.set_cons_zero, List.set_cons_succ]
      refine wpAnyH_take (i := 8) (oi := { dst := some 92, op := Go.Op.move (Go.Operand.tmp 10), type := 4, pos := "law.go:62", after := #[{ on := 6, ground := Go.Ground.guard }], guard := some (6, true) }) (v := ?_) rfl (by kernel_rfl) (by kernel_rfl) (by kernel_rfl) (fun _ _ _ h => h) (Or.inl ⟨by rfl, ?_⟩) hH1 ?_
      rotate_left
      · (intro wz hSz; (try dsimp only at hSz); go_simp; try with_reducible rfl)
      simp only [Act.put, List.setIfInBounds_toArray, List.set_cons_zero, List.set_cons_succ]
      refine wpAnyH_take (i := 9) (oi := { dst := some 93, op := Go.Op.binOp Go.BinOp.eql 4 (Go.Operand.tmp 91) (Go.Operand.tmp 92) 4, type := 4, pos := "law.go:62", after := #[{ on := 7, ground := Go.Ground.data }, { on := 8, ground := Go.Ground.data }, { on := 6, ground := Go.Ground.guard }], guard := some (6, true) }) (v := ?_) rfl (by kernel_rfl) (by kernel_rfl) (by kernel_rfl) (fun _ _ _ h => h) (Or.inl ⟨by rfl, ?_⟩) hH1 ?_
      rotate_left
      · (intro wz hSz; (try dsimp only at hSz); go_simp; try with_reducible rfl)
      simp only [Act.put, List.setIfInBounds_toArray, List.set_cons_zero, List.set_cons_succ]
      refine wpAnyH_take (i := 10) (oi := { dst := some 94, op := Go.Op.pick (Go.Operand.tmp 90) (Go.Operand.tmp 93) (Go.Operand.const (Go.Value.bool false)), type := 4, pos := "law.go:62", after := #[{ on := 6, ground := Go.Ground.data }, { on := 9, ground := Go.Ground.data }], guard := none }) (v := ?_) rfl (by kernel_rfl) (by kernel_rfl) (by kernel_rfl) (fun _ _ _ h => h) (Or.inl ⟨by rfl, ?_⟩) hH1 ?_
      rotate_left
      · (intro wz hSz; (try dsimp only at hSz); go_simp; try with_reducible rfl)
      simp only [Act.put, List.setIfInBounds_toArray, List.set_cons_zero, List.set_cons_succ]
      refine wpAnyH_take (i := 11) (oi := { dst := some 95, op := Go.Op.move (Go.Operand.tmp 94), type := 4, pos := "law.go:62", after := #[{ on := 10, ground := Go.Ground.data }, { on := 6, ground := Go.Ground.chain }], guard := none }) (v := ?_) rfl (by kernel_rfl) (by kernel_rfl) (by kernel_rfl) (fun _ _ _ h => h) (Or.inl ⟨by rfl, ?_⟩) hH1 ?_
      rotate_left
      · (intro wz hSz; (try dsimp only at hSz); go_simp; try with_reducible rfl)
      simp only [Act.put, List.setIfInBounds_toArray, List.set_cons_zero, List.set_cons_succ]
      refine wpAnyH_take (i := 12) (oi := { dst := some 96, op := Go.Op.move (Go.Operand.tmp 12), type := 3, pos := "law.go:62", after := #[{ on := 11, ground := Go.Ground.guard }], guard := some (11, true) }) (v := ?_) rfl (by kernel_rfl) (by kernel_rfl) (by kernel_rfl) (fun _ _ _ h => h) (Or.inl ⟨by rfl, ?_⟩) hH1 ?_
      rotate_left
      · (intro wz hSz; (try dsimp only at hSz); go_simp; try with_reducible rfl)
      simp only [Act.put, List.setIfInBounds_toArray, List.set_cons_zero, List.set_cons_succ]
      refine wpAnyH_take (i := 13) (oi := { dst := some 97, op := Go.Op.move (Go.Operand.tmp 14), type := 3, pos := "law.go:62", after := #[{ on := 11, ground := Go.Ground.guard }], guard := some (11, true) }) (v := ?_) rfl (by kernel_rfl) (by kernel_rfl) (by kernel_rfl) (fun _ _ _ h => h) (Or.inl ⟨by rfl, ?_⟩) hH1 ?_
      rotate_left
      · (intro wz hSz; (try dsimp only at hSz); go_simp; try with_reducible rfl)
      simp only [Act.put, List.setIfInBounds_toArray, List.set_cons_zero, List.set_cons_succ]
      refine wpAnyH_take (i := 14) (oi := { dst := some 98, op := Go.Op.binOp Go.BinOp.eql 3 (Go.Operand.tmp 96) (Go.Operand.tmp 97) 3, type := 4, pos := "law.go:62", after := #[{ on := 12, ground := Go.Ground.data }, { on := 13, ground := Go.Ground.data }, { on := 11, ground := Go.Ground.guard }], guard := some (11, true) }) (v := ?_) rfl (by kernel_rfl) (by kernel_rfl) (by kernel_rfl) (fun _ _ _ h => h) (Or.inl ⟨by rfl, ?_⟩) hH1 ?_
      rotate_left
      · (intro wz hSz; (try dsimp only at hSz); go_simp; try with_reducible rfl)
      simp only [Act.put, List.setIfInBounds_toArray, List.set_cons_zero, List.set_cons_succ]
      refine wpAnyH_take (i := 15) (oi := { dst := some 99, op := Go.Op.pick (Go.Operand.tmp 95) (Go.Operand.tmp 98) (Go.Operand.const (Go.Value.bool false)), type := 4, pos := "law.go:62", after := #[{ on := 11, ground := Go.Ground.data }, { on := 14, ground := Go.Ground.data }], guard := none }) (v := ?_) rfl (by kernel_rfl) (by kernel_rfl) (by kernel_rfl) (fun _ _ _ h => h) (Or.inl ⟨by rfl, ?_⟩) hH1 ?_
      rotate_left
      · (intro wz hSz; (try dsimp only at hSz); go_simp; try with_reducible rfl)
      simp only [Act.put, List.setIfInBounds_toArray, List.set_cons_zero, List.set_cons_succ]
      refine wpAnyH_take (i := 16) (oi := { dst := some 100, op := Go.Op.move (Go.Operand.tmp 99), type := 4, pos := "law.go:62", after := #[{ on := 15, ground := Go.Ground.data }, { on := 11, ground := Go.Ground.chain }], guard := none }) (v := ?_) rfl (by kernel_rfl) (by kernel_rfl) (by kernel_rfl) (fun _ _ _ h => h) (Or.inl ⟨by rfl, ?_⟩) hH1 ?_
      rotate_left
      · (intro wz hSz; (try dsimp only at hSz); go_simp; try with_reducible rfl)
      simp only [Act.put, List.setIfInBounds_toArray, List.set_cons_zero, List.set_cons_succ]
      refine wpAnyH_take (i := 17) (oi := { dst := some 101, op := Go.Op.move (Go.Operand.tmp 13), type := 43, pos := "law.go:62", after := #[{ on := 16, ground := Go.Ground.guard }], guard := some (16, true) }) (v := ?_) rfl (by kernel_rfl) (by kernel_rfl) (by kernel_rfl) (fun _ _ _ h => h) (Or.inl ⟨by rfl, ?_⟩) hH1 ?_
      rotate_left
      · (intro wz hSz; (try dsimp only at hSz); go_simp; try with_reducible rfl)
      simp only [Act.put, List.setIfInBounds_toArray, List.set_cons_zero, List.set_cons_succ]
      refine wpAnyH_take (i := 18) (oi := { dst := some 102, op := Go.Op.move (Go.Operand.tmp 15), type := 43, pos := "law.go:62", after := #[{ on := 16, ground := Go.Ground.guard }], guard := some (16, true) }) (v := ?_) rfl (by kernel_rfl) (by kernel_rfl) (by kernel_rfl) (fun _ _ _ h => h) (Or.inl ⟨by rfl, ?_⟩) hH1 ?_
      rotate_left
      · (intro wz hSz; (try dsimp only at hSz); go_simp; try with_reducible rfl)
      simp only [Act.put, List.setIfInBounds_toArray, List.set_cons_zero, List.set_cons_succ]
      refine wpAnyH_take (i := 19) (oi := { dst := some 103, op := Go.Op.binOp Go.BinOp.eql 43 (Go.Operand.tmp 101) (Go.Operand.tmp 102) 43, type := 4, pos := "law.go:62", after := #[{ on := 17, ground := Go.Ground.data }, { on := 18, ground := Go.Ground.data }, { on := 16, ground := Go.Ground.guard }], guard := some (16, true) }) (v := ?_) rfl (by kernel_rfl) (by kernel_rfl) (by kernel_rfl) (fun _ _ _ h => h) (Or.inl ⟨by rfl, ?_⟩) hH1 ?_
      rotate_left
      · (intro wz hSz; (try dsimp only at hSz); go_simp; try with_reducible rfl)
      simp only [Act.put, List.setIfInBounds_toArray, List.set_cons_zero, List.set_cons_succ]
      refine wpAnyH_take (i := 20) (oi := { dst := some 104, op := Go.Op.pick (Go.Operand.tmp 100) (Go.Operand.tmp 103) (Go.Operand.const (Go.Value.bool false)), type := 4, pos := "law.go:62", after := #[{ on := 16, ground := Go.Ground.data }, { on := 19, ground := Go.Ground.data }], guard := none }) (v := ?_) rfl (by kernel_rfl) (by kernel_rfl) (by kernel_rfl) (fun _ _ _ h => h) (Or.inl ⟨by rfl, ?_⟩) hH1 ?_
      rotate_left
      · (intro wz hSz; (try dsimp only at hSz); go_simp; try with_reducible rfl)
      simp only [Act.put, List.setIfInBounds_toArray, List.set_cons_zero, List.set_cons_succ]
      refine wpAnyH_take (i := 21) (oi := { dst := some 105, op := Go.Op.move (Go.Operand.tmp 104), type := 4, pos := "law.go:62", after := #[{ on := 20, ground := Go.Ground.data }, { on := 16, ground := Go.Ground.chain }], guard := none }) (v := ?_) rfl (by kernel_rfl) (by kernel_rfl) (by kernel_rfl) (fun _ _ _ h => h) (Or.inl ⟨by rfl, ?_⟩) hH1 ?_
      rotate_left
      · (intro wz hSz; (try dsimp only at hSz); go_simp; try with_reducible rfl)
      simp only [Act.put, List.setIfInBounds_toArray, List.set_cons_zero, List.set_cons_succ]
      refine wpAnyH_take (i := 22) (oi := { dst := some 106, op := Go.Op.move (Go.Operand.tmp 1), type := 22, pos := "law.go:62", after := #[{ on := 21, ground := Go.Ground.guard }], guard := some (21, true) }) (v := ?_) rfl (by kernel_rfl) (by kernel_rfl) (by kernel_rfl) (fun _ _ _ h => h) (Or.inl ⟨by rfl, ?_⟩) hH1 ?_
      rotate_left
      · (intro wz hSz; (try dsimp only at hSz); go_simp; try with_reducible rfl)
      simp only [Act.put, List.setIfInBounds_toArray, List.set_cons_zero, List.set_cons_succ]
      refine wpAnyH_take (i := 23) (oi := { dst := some 107, op := Go.Op.load 29 (Go.Operand.tmp 3), type := 29, pos := "law.go:62", after := #[{ on := 21, ground := Go.Ground.guard }], guard := some (21, true) }) (v := ?_) rfl (by kernel_rfl) (by kernel_rfl) (by kernel_rfl) (fun _ _ _ h => h) (Or.inl ⟨by rfl, ?_⟩) hH1 ?_
      rotate_left
      · (intro wz hSz; have hcz := True.intro; obtain ⟨c0, c1⟩ := view_cells ((Below.block hSz _ (L.blk_lt HP.out)).trans HP.out); go_simp; try with_reducible rfl)
      simp only [Act.put, List.setIfInBounds_toArray, List.set_cons_zero, List.set_cons_succ]
      refine wpAnyH_take (i := 25) (oi := { dst := some 109, op := Go.Op.move (Go.Operand.tmp 1), type := 22, pos := "law.go:62", after := #[{ on := 21, ground := Go.Ground.guard }], guard := some (21, true) }) (v := ?_) rfl (by kernel_rfl) (by kernel_rfl) (by kernel_rfl) (fun _ _ _ h => h) (Or.inl ⟨by rfl, ?_⟩) hH1 ?_
      rotate_left
      · (intro wz hSz; (try dsimp only at hSz); go_simp; try with_reducible rfl)
      simp only [Act.put, List.setIfInBounds_toArray, List.set_cons_zero, List.set_cons_succ]
      refine wpAnyH_take (i := 26) (oi := { dst := some 110, op := Go.Op.load 29 (Go.Operand.tmp 3), type := 29, pos := "law.go:62", after := #[{ on := 21, ground := Go.Ground.guard }], guard := some (21, true) }) (v := ?_) rfl (by kernel_rfl) (by kernel_rfl) (by kernel_rfl) (fun _ _ _ h => h) (Or.inl ⟨by rfl, ?_⟩) hH1 ?_
      rotate_left
      · (intro wz hSz; have hcz := True.intro; obtain ⟨c0, c1⟩ := view_cells ((Below.block hSz _ (L.blk_lt HP.out)).trans HP.out); go_simp; try with_reducible rfl)
      simp only [Act.put, List.setIfInBounds_toArray, List.set_cons_zero, List.set_cons_succ]
      refine wpAnyH_ready (rs := [24]) (by kernel_rfl) (by simp) ?_
      refine AllReadyH.cons (o := { dst := some 108, op := Go.Op.call { callee := Go.Callee.value (Go.Operand.func 21), args := #[Go.Operand.tmp 106, Go.Operand.tmp 107], argTypes := #[22, 29] }, type := 27, pos := "law.go:62", after := #[{ on := 22, ground := Go.Ground.data }, { on := 23, ground := Go.Ground.data }, { on := 21, ground := Go.Ground.chain }, { on := 21, ground := Go.Ground.guard }], guard := some (21, true) }) rfl (fun K hK => ?_) AllReadyH.nil
      go_simp
      with_reducible refine (ID.out.at _ (HU.out.below hH1.b) (HT.out.below hH1.b)).mono ?_
      rintro r wq2 ⟨A5, cap5, rfl, H5, hbq⟩
      go_wp2_with fail
      refine hK.out _ _ (Keeps.trans hH1 hbq) (fun hJ => ?_)
      refine wpAnyH_more (S' := Keeps wq2) (fun z hz => Keeps.trans hJ hz) _ _ _ _ ?_
      replace HB := Lib.hid (HB.out.trans (Below.mono hJ HB.out.size))
      replace HU := Lib.hid (HU.out.below hJ)
      replace HP := Lib.hid ((Below.block hJ _ (L.blk_lt HP.out)).trans HP.out)
      replace HT := Lib.hid (HT.out.below hJ)
      replace H5 := Lib.hid H5
      have hH2 : Keeps wq2 wq2 := Below.refl _ _
      clear hK K hbq hH1 hJ
      refine wpAnyH_ready (rs := [27]) (by kernel_rfl) (by simp) ?_
      refine AllReadyH.cons (o := { dst := some 111, op := Go.Op.call { callee := Go.Callee.value (Go.Operand.func 22), args := #[Go.Operand.tmp 109, Go.Operand.tmp 110], argTypes := #[22, 29] }, type := 27, pos := "law.go:62", after := #[{ on := 25, ground := Go.Ground.data }, { on := 26, ground := Go.Ground.data }, { on := 24, ground := Go.Ground.chain }, { on := 21, ground := Go.Ground.guard }], guard := some (21, true) }) rfl (fun K hK => ?_) AllReadyH.nil
      go_simp
      with_reducible refine (RI.out.at _ (HU.out.below hH2.b) (HT.out.below hH2.b)).mono ?_
      rintro r wq3 ⟨A6, cap6, rfl, H6, hbq⟩
      go_wp2_with fail
      refine hK.out _ _ (Keeps.trans hH2 hbq) (fun hJ => ?_)
      refine wpAnyH_more (S' := Keeps wq3) (fun z hz => Keeps.trans hJ hz) _ _ _ _ ?_
      replace HB := Lib.hid (HB.out.trans (Below.mono hJ HB.out.size))
      replace HU := Lib.hid (HU.out.below hJ)
      replace HP := Lib.hid ((Below.block hJ _ (L.blk_lt HP.out)).trans HP.out)
      replace HT := Lib.hid (HT.out.below hJ)
      replace H5 := Lib.hid (H5.out.below hJ)
      replace H6 := Lib.hid H6
      have hH3 : Keeps wq3 wq3 := Below.refl _ _
      clear hK K hbq hH2 hJ
      refine wpAnyH_ready (rs := [28]) (by kernel_rfl) (by simp) ?_
      refine AllReadyH.cons (o := { dst := some 112, op := Go.Op.call { callee := Go.Callee.value (Go.Operand.func 20), args := #[Go.Operand.tmp 108, Go.Operand.tmp 111], argTypes := #[27, 27] }, type := 4, pos := "law.go:62", after := #[{ on := 24, ground := Go.Ground.data }, { on := 27, ground := Go.Ground.data }, { on := 27, ground := Go.Ground.chain }, { on := 21, ground := Go.Ground.guard }], guard := some (21, true) }) rfl (fun K hK => ?_) AllReadyH.nil
      go_simp
      with_reducible refine (IN.out.at _ (H5.out.below hH3.b) (H6.out.below hH3.b)).mono ?_
      rintro r wq4 ⟨rfl, hbq⟩
      go_wp2_with fail
      refine hK.out _ _ (Keeps.trans hH3 hbq) (fun hJ => ?_)
      refine wpAnyH_more (S' := Keeps wq4) (fun z hz => Keeps.trans hJ hz) _ _ _ _ ?_
      replace HB := Lib.hid (HB.out.trans (Below.mono hJ HB.out.size))
      replace HU := Lib.hid (HU.out.below hJ)
      replace HP := Lib.hid ((Below.block hJ _ (L.blk_lt HP.out)).trans HP.out)
      replace HT := Lib.hid (HT.out.below hJ)
      replace H5 := Lib.hid (H5.out.below hJ)
      replace H6 := Lib.hid (H6.out.below hJ)
      have hH4 : Keeps wq4 wq4 := Below.refl _ _
      clear hK K hbq hH3 hJ
      refine wpAnyH_take (i := 29) (oi := { dst := some 113, op := Go.Op.pick (Go.Operand.tmp 105) (Go.Operand.tmp 112) (Go.Operand.const (Go.Value.bool false)), type := 4, pos := "law.go:62", after := #[{ on := 21, ground := Go.Ground.data }, { on := 28, ground := Go.Ground.data }], guard := none }) (v := ?_) rfl (by kernel_rfl) (by kernel_rfl) (by kernel_rfl) (fun _ _ _ h => h) (Or.inl ⟨by rfl, ?_⟩) hH4 ?_
      rotate_left
      · (intro wz hSz; (try dsimp only at hSz); go_simp; try with_reducible rfl)
      simp only [Act.put, List.setIfInBounds_toArray, List.set_cons_zero, List.set_cons_succ]
      refine wpAnyH_take (i := 30) (oi := { dst := some 6, op := Go.Op.assign (Go.Operand.tmp 113), type := 4, pos := "law.go:62", after := #[{ on := 29, ground := Go.Ground.data }, { on := 28, ground := Go.Ground.chain }, { on := 0, ground := Go.Ground.phase }, { on := 1, ground := Go.Ground.phase }, { on := 2, ground := Go.Ground.phase }, { on := 3, ground := Go.Ground.phase }, { on := 4, ground := Go.Ground.phase }, { on := 5, ground := Go.Ground.phase }, { on := 6, ground := Go.Ground.phase }, { on := 7, ground := Go.Ground.phase }, { on := 8, ground := Go.Ground.phase }, { on := 9, ground := Go.Ground.phase }, { on := 10, ground := Go.Ground.phase }, { on := 11, ground := Go.Ground.phase }, { on := 12, ground := Go.Ground.phase }, { on := 13, ground := Go.Ground.phase }, { on := 14, ground := Go.Ground.phase }, { on := 15, ground := Go.Ground.phase }, { on := 16, ground := Go.Ground.phase }, { on := 17, ground := Go.Ground.phase }, { on := 18, ground := Go.Ground.phase }, { on := 19, ground := Go.Ground.phase }, { on := 20, ground := Go.Ground.phase }, { on := 21, ground := Go.Ground.phase }, { on := 22, ground := Go.Ground.phase }, { on := 23, ground := Go.Ground.phase }, { on := 24, ground := Go.Ground.phase }, { on := 25, ground := Go.Ground.phase }, { on := 26, ground := Go.Ground.phase }, { on := 27, ground := Go.Ground.phase }, { on := 28, ground := Go.Ground.phase }, { on := 29, ground := Go.Ground.phase }], guard := none }) (v := ?_) rfl (by kernel_rfl) (by kernel_rfl) (by kernel_rfl) (fun _ _ _ h => h) (Or.inl ⟨by rfl, ?_⟩) hH4 ?_
      rotate_left
      · (intro wz hSz; (try dsimp only at hSz); go_simp; try with_reducible rfl)
      simp only [Act.put, List.setIfInBounds_toArray, List.set_cons_zero, List.set_cons_succ]
      refine wpAnyH_done (by kernel_rfl) ?_ _
      go_wp2_with fail
      go_ret
      exact ⟨rfl, HB.out⟩
    · obtain ⟨j, rfl⟩ : ∃ j, q = j + 1 := ⟨q - 1, by omega⟩
      have hz1 : z = (j : Int) := by omega
      subst hz1
      have hj : j < ts.length := by omega
      obtain ⟨bt, ot, hTe, hbt, hI⟩ := HT.out (by omega)
      subst hTe
      have ct := hI j hj
      have h0j : (0 : Int) ≤ (j : Int) := by omega
      have hji : (j : Int) < (ts.length : Int) := by omega
      have HS := Lib.hid (fnd_drop (n := n) hj)
      rw [← HG.out] at HS
      clear hI hz HG hq0
      generalize ts[j] = a at *
      by_cases he : a = n
      · have HS2 := Lib.hid (show some j = fnd n j (ts.drop j) by rw [HS.out, if_pos he])
        have he2 : (a == n) = true := by simpa using he
        clear HS he
        go_wp2_with fail
        go_roundg j
        case rel => exact ⟨j, (j : Int) - 1, some j, by omega, rfl, by go_num, Nat.le_refl _, rfl, rfl, rfl, HS2⟩
        case measure => omega
      · have HS2 := Lib.hid (show go = fnd n j (ts.drop j) by rw [HS.out, if_neg he])
        have he2 : (a == n) = false := by simpa using he
        clear HS he
        go_wp2_with fail
        go_roundg j
        case rel => exact ⟨j, (j : Int) - 1, go, by omega, rfl, by go_num, Nat.le_refl _, rfl, rfl, rfl, HS2⟩
        case measure => omega
end Go.Proofs.Ytaejphdgfkljmaa.V
