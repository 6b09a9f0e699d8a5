/-
  The law AuditPlays.
-/
import Derived.Test.YtbfohfmipfapdaaDoorGug
import Derived.BigQuiet
import Derived.Deep.RegionHeld3
namespace Go.Proofs.YtbfohfmipfapdaaDoor.Au
set_option linter.unusedVariables false
set_option linter.unusedSimpArgs false
open Go.RowKit
open T
open V (drawn_below grown_of)
open I (alloc1 own_at own_below)

theorem two_labels (w : World) (a0 o0 : Int) (a1 o1 : Nat) : ∃ W : World, W = (w.alloc (.cells #[.int .i64 a0, .int .u64 (a1 : Int)] 25)).alloc (.cells #[.int .i64 o0, .int .u64 (o1 : Int)] 25) ∧ Below w.heap.size w W ∧ W.heap[w.heap.size]? = some (.cells #[.int .i64 a0, .int .u64 (a1 : Int)] 25 (0, 0)) ∧ W.heap[w.heap.size + 1]? = some (.cells #[.int .i64 o0, .int .u64 (o1 : Int)] 25 (0, 0)) :=
  ⟨_, rfl, (alloc1 _ _).alloc (by simp) _, by rw [Below.heap_alloc _ _ _ (by simp)]; exact heap_alloc_new w _, at_new _ (by simp)⟩
set_option maxRecDepth 100000 in
set_option maxHeartbeats 8000000 in
theorem aplays_walk {w : World} {A : Option Addr} {c n : Nat} {l ls s : List Et} {a0 o0 q : Int} {a1 o1 k : Nat} {t : List UInt8} (HT : Hid (Tab w)) (HL : Hid (EtsIn w A l)) (hn : n = l.length)
    (HPL : Hid (∀ W, EtsIn W A l → Calls Tryd.prog 7 #[.slice A n c] W fun e w' => ∃ bx yb, e = .returned (.tuple #[.pointer (some ⟨bx, 0, none⟩), .pointer (some ⟨yb, 0, none⟩), .bool true]) ∧ LgR w' 52 bx ls ∧ LgR w' 50 yb ls ∧ Below W.heap.size W w'))
    (HOF : Hid (∀ bx, OfC 9 52 bx ls a0 a1 k)) (HRO : Hid (∀ yb, OfC 10 50 yb ls a0 a1 k)) (HFU : Hid (∀ bx, FuC bx ls a0 a1 q (decide (q ≤ (k : Int)))))
    (HSE : Hid (∀ bx, ScC 13 52 bx ls o0 o1 s)) (HRS : Hid (∀ yb, ScC 14 50 yb ls o0 o1 s)) (HSM : Hid (SmC s))
    (HPR : Hid (∀ bx, PrC 52 15 bx ls o0 o1 t)) (HRP : Hid (∀ yb, PrC 50 16 yb ls o0 o1 t)) :
    Calls Tryd.prog 3 #[.slice A n c, .agg #[.int .i64 a0, .int .u64 (a1 : Int)], .agg #[.int .i64 o0, .int .u64 (o1 : Int)], .int .i64 q] w fun e w' => e = .returned (.bool true) ∧ Below w.heap.size w w' := by
  obtain ⟨W0, hW0, hB0, hA0, hO0⟩ := two_labels w a0 o0 a1 o1
  have HP0 := Lib.hid (HPL.out W0 (HL.out.below hB0))
  have HB0 := Lib.hid hB0
  have HT0 := Lib.hid (HT.out.later hB0)
  have HA0 := Lib.hid hA0
  have HO0 := Lib.hid hO0
  clear hB0 hA0 hO0 HPL HL HT hn
  go_enter Tryd.func3, Tryd.ntmps3
  go_upto_region 1 with fail
  try simp only [World.size_alloc]
  rw [← hW0]
  clear hW0
  obtain ⟨ba, hba⟩ : ∃ q, q = w.heap.size := ⟨_, rfl⟩
  obtain ⟨bo, hbo⟩ : ∃ q, q = w.heap.size + 1 := ⟨_, rfl⟩
  rw [← hba] at HA0
  rw [← hbo] at HO0 ⊢
  rw [← hba]
  clear hba hbo
  go_wp2_with fail
  with_reducible refine HP0.out.mono ?_
  rintro e w1 ⟨bx, yb, rfl, hx, hy, hb1⟩
  replace HOF := Lib.hid (HOF.out bx)
  replace HFU := Lib.hid (HFU.out bx)
  replace HSE := Lib.hid (HSE.out bx)
  replace HPR := Lib.hid (HPR.out bx)
  replace HRO := Lib.hid (HRO.out yb)
  replace HRS := Lib.hid (HRS.out yb)
  replace HRP := Lib.hid (HRP.out yb)
  have HB := Lib.hid (HB0.out.trans (hb1.mono HB0.out.size))
  have HT := Lib.hid (HT0.out.later hb1)
  have HA := Lib.hid ((hb1.block _ (L.blk_lt HA0.out)).trans HA0.out)
  have HO := Lib.hid ((hb1.block _ (L.blk_lt HO0.out)).trans HO0.out)
  have HX := Lib.hid hx
  have HY := Lib.hid hy
  clear hx hy hb1 HP0 HB0 HT0 HA0 HO0
  go_upto_region 2 with fail
  refine wp_region_held_drew (S := (Keeps w1)) (by kernel_rfl) (keeps_drew _) (fun hH0 => ?_)
  refine wpAnyH_take (i := 0) (oi := { dst := some 18, op := Go.Op.move (Go.Operand.tmp 11), type := 4, pos := "law.go:35", after := #[], guard := none }) (v := ?_) rfl (by kernel_rfl) (by kernel_rfl) (by kernel_rfl) (fun _ _ _ h => h) (Or.inl ⟨by rfl, ?_⟩) hH0 ?_
  rotate_left
  · (intro wz hSz; (try dsimp only at hSz); go_simp; try with_reducible rfl)
  simp only [Act.put, List.setIfInBounds_toArray, List.set_cons_zero, List.set_cons_succ]
  refine wpAnyH_take (i := 1) (oi := { dst := some 19, op := Go.Op.move (Go.Operand.tmp 18), type := 4, pos := "law.go:35", after := #[{ on := 0, ground := Go.Ground.data }], guard := none }) (v := ?_) rfl (by kernel_rfl) (by kernel_rfl) (by kernel_rfl) (fun _ _ _ h => h) (Or.inl ⟨by rfl, ?_⟩) hH0 ?_
  rotate_left
  · (intro wz hSz; (try dsimp only at hSz); go_simp; try with_reducible rfl)
  simp only [Act.put, List.setIfInBounds_toArray, List.set_cons_zero, List.set_cons_succ]
  refine wpAnyH_ready (rs := [2]) (by kernel_rfl) (by simp) ?_
  refine AllReadyH.cons (o := { dst := some 20, op := Go.Op.call { callee := Go.Callee.value (Go.Operand.func 8), args := #[], argTypes := #[] }, type := 4, pos := "law.go:35", after := #[{ on := 1, ground := Go.Ground.chain }, { on := 1, ground := Go.Ground.guard }], guard := some (1, true) }) rfl (fun K hK => ?_) AllReadyH.nil
  go_simp
  with_reducible refine (live20 _ (HT.out.later hH0.b)).mono ?_
  rintro r wq1 ⟨rfl, hbq⟩
  go_wp2_with fail
  refine hK.out _ _ (Keeps.trans hH0 hbq) (fun hJ => ?_)
  refine wpAnyH_more (S' := Keeps wq1) (fun z hz => Keeps.trans hJ hz) _ _ _ _ ?_
  replace HB := Lib.hid (HB.out.trans (Below.mono hJ HB.out.size))
  replace HT := Lib.hid (HT.out.later hJ)
  replace HA := Lib.hid ((Below.block hJ _ (L.blk_lt HA.out)).trans HA.out)
  replace HO := Lib.hid ((Below.block hJ _ (L.blk_lt HO.out)).trans HO.out)
  replace HX := Lib.hid (HX.out.below hJ)
  replace HY := Lib.hid (HY.out.below hJ)
  have hH1 : Keeps wq1 wq1 := Below.refl _ _
  clear hK K hbq hH0 hJ
  refine wpAnyH_take (i := 3) (oi := { dst := some 21, op := Go.Op.pick (Go.Operand.tmp 19) (Go.Operand.tmp 20) (Go.Operand.const (Go.Value.bool false)), type := 4, pos := "law.go:35", after := #[{ on := 1, ground := Go.Ground.data }, { on := 2, ground := Go.Ground.data }], guard := none }) (v := ?_) rfl (by kernel_rfl) (by kernel_rfl) (by kernel_rfl) (fun _ _ _ h => h) (Or.inl ⟨by rfl, ?_⟩) hH1 ?_
  rotate_left
  · (intro wz hSz; (try dsimp only at hSz); go_simp; try with_reducible rfl)
  simp only [Act.put, List.setIfInBounds_toArray, List.set_cons_zero, List.set_cons_succ]
  refine wpAnyH_take (i := 4) (oi := { dst := some 22, op := Go.Op.move (Go.Operand.tmp 21), type := 4, pos := "law.go:35", after := #[{ on := 3, ground := Go.Ground.data }, { on := 2, ground := Go.Ground.chain }], guard := none }) (v := ?_) rfl (by kernel_rfl) (by kernel_rfl) (by kernel_rfl) (fun _ _ _ h => h) (Or.inl ⟨by rfl, ?_⟩) hH1 ?_
  rotate_left
  · (intro wz hSz; (try dsimp only at hSz); go_simp; try with_reducible rfl)
  simp only [Act.put, List.setIfInBounds_toArray, List.set_cons_zero, List.set_cons_succ]
  refine wpAnyH_take (i := 5) (oi := { dst := some 23, op := Go.Op.move (Go.Operand.tmp 9), type := 26, pos := "law.go:35", after := #[{ on := 4, ground := Go.Ground.guard }], guard := some (4, true) }) (v := ?_) rfl (by kernel_rfl) (by kernel_rfl) (by kernel_rfl) (fun _ _ _ h => h) (Or.inl ⟨by rfl, ?_⟩) hH1 ?_
  rotate_left
  · (intro wz hSz; (try dsimp only at hSz); go_simp; try with_reducible rfl)
  simp only [Act.put, List.setIfInBounds_toArray, List.set_cons_zero, List.set_cons_succ]
  refine wpAnyH_take (i := 6) (oi := { dst := some 24, op := Go.Op.load 25 (Go.Operand.tmp 5), type := 25, pos := "law.go:35", after := #[{ on := 4, ground := Go.Ground.guard }], guard := some (4, true) }) (v := ?_) rfl (by kernel_rfl) (by kernel_rfl) (by kernel_rfl) (fun _ _ _ h => h) (Or.inl ⟨by rfl, ?_⟩) hH1 ?_
  rotate_left
  · (intro wz hSz; have hcz := True.intro; obtain ⟨c0, c1⟩ := lab_cells ((Below.block hSz _ (L.blk_lt HA.out)).trans HA.out); go_simp; try with_reducible rfl)
  simp only [Act.put, List.setIfInBounds_toArray, List.set_cons_zero, List.set_cons_succ]
  refine wpAnyH_take (i := 8) (oi := { dst := some 26, op := Go.Op.move (Go.Operand.tmp 10), type := 27, pos := "law.go:35", after := #[{ on := 4, ground := Go.Ground.guard }], guard := some (4, true) }) (v := ?_) rfl (by kernel_rfl) (by kernel_rfl) (by kernel_rfl) (fun _ _ _ h => h) (Or.inl ⟨by rfl, ?_⟩) hH1 ?_
  rotate_left
  · (intro wz hSz; (try dsimp only at hSz); go_simp; try with_reducible rfl)
  simp only [Act.put, List.setIfInBounds_toArray, List.set_cons_zero, List.set_cons_succ]
  refine wpAnyH_take (i := 9) (oi := { dst := some 27, op := Go.Op.load 25 (Go.Operand.tmp 5), type := 25, pos := "law.go:35", after := #[{ on := 4, ground := Go.Ground.guard }], guard := some (4, true) }) (v := ?_) rfl (by kernel_rfl) (by kernel_rfl) (by kernel_rfl) (fun _ _ _ h => h) (Or.inl ⟨by rfl, ?_⟩) hH1 ?_
  rotate_left
  · (intro wz hSz; have hcz := True.intro; obtain ⟨c0, c1⟩ := lab_cells ((Below.block hSz _ (L.blk_lt HA.out)).trans HA.out); go_simp; try with_reducible rfl)
  simp only [Act.put, List.setIfInBounds_toArray, List.set_cons_zero, List.set_cons_succ]
  refine wpAnyH_ready (rs := [7]) (by kernel_rfl) (by simp) ?_
  refine AllReadyH.cons (o := { dst := some 25, op := Go.Op.call { callee := Go.Callee.value (Go.Operand.func 9), args := #[Go.Operand.tmp 23, Go.Operand.tmp 24], argTypes := #[26, 25] }, type := 3, pos := "law.go:35", after := #[{ on := 5, ground := Go.Ground.data }, { on := 6, ground := Go.Ground.data }, { on := 4, ground := Go.Ground.chain }, { on := 4, ground := Go.Ground.guard }], guard := some (4, true) }) rfl (fun K hK => ?_) AllReadyH.nil
  go_simp
  with_reducible refine (HOF.out.at (HX.out.below hH1.b)).mono ?_
  rintro r wq2 ⟨rfl, hbq⟩
  go_wp2_with fail
  refine hK.out _ _ (Keeps.trans hH1 hbq) (fun hJ => ?_)
  refine wpAnyH_more (S' := Keeps wq2) (fun z hz => Keeps.trans hJ hz) _ _ _ _ ?_
  replace HB := Lib.hid (HB.out.trans (Below.mono hJ HB.out.size))
  replace HT := Lib.hid (HT.out.later hJ)
  replace HA := Lib.hid ((Below.block hJ _ (L.blk_lt HA.out)).trans HA.out)
  replace HO := Lib.hid ((Below.block hJ _ (L.blk_lt HO.out)).trans HO.out)
  replace HX := Lib.hid (HX.out.below hJ)
  replace HY := Lib.hid (HY.out.below hJ)
  have hH2 : Keeps wq2 wq2 := Below.refl _ _
  clear hK K hbq hH1 hJ
  refine wpAnyH_ready (rs := [10]) (by kernel_rfl) (by simp) ?_
  refine AllReadyH.cons (o := { dst := some 28, op := Go.Op.call { callee := Go.Callee.value (Go.Operand.func 10), args := #[Go.Operand.tmp 26, Go.Operand.tmp 27], argTypes := #[27, 25] }, type := 3, pos := "law.go:35", after := #[{ on := 8, ground := Go.Ground.data }, { on := 9, ground := Go.Ground.data }, { on := 7, ground := Go.Ground.chain }, { on := 4, ground := Go.Ground.guard }], guard := some (4, true) }) rfl (fun K hK => ?_) AllReadyH.nil
  go_simp
  with_reducible refine (HRO.out.at (HY.out.below hH2.b)).mono ?_
  rintro r wq3 ⟨rfl, hbq⟩
  go_wp2_with fail
  refine hK.out _ _ (Keeps.trans hH2 hbq) (fun hJ => ?_)
  refine wpAnyH_more (S' := Keeps wq3) (fun z hz => Keeps.trans hJ hz) _ _ _ _ ?_
  replace HB := Lib.hid (HB.out.trans (Below.mono hJ HB.out.size))
  replace HT := Lib.hid (HT.out.later hJ)
  replace HA := Lib.hid ((Below.block hJ _ (L.blk_lt HA.out)).trans HA.out)
  replace HO := Lib.hid ((Below.block hJ _ (L.blk_lt HO.out)).trans HO.out)
  replace HX := Lib.hid (HX.out.below hJ)
  replace HY := Lib.hid (HY.out.below hJ)
  have hH3 : Keeps wq3 wq3 := Below.refl _ _
  clear hK K hbq hH2 hJ
  refine wpAnyH_take (i := 11) (oi := { dst := some 29, op := Go.Op.binOp Go.BinOp.eql 3 (Go.Operand.tmp 25) (Go.Operand.tmp 28) 3, type := 4, pos := "law.go:35", after := #[{ on := 7, ground := Go.Ground.data }, { on := 10, ground := Go.Ground.data }, { on := 4, ground := Go.Ground.guard }], guard := some (4, true) }) (v := ?_) rfl (by kernel_rfl) (by kernel_rfl) (by kernel_rfl) (fun _ _ _ h => h) (Or.inl ⟨by rfl, ?_⟩) hH3 ?_
  rotate_left
  · (intro wz hSz; (try dsimp only at hSz); go_simp; try with_reducible rfl)
  simp only [Act.put, List.setIfInBounds_toArray, List.set_cons_zero, List.set_cons_succ]
  refine wpAnyH_take (i := 12) (oi := { dst := some 30, op := Go.Op.pick (Go.Operand.tmp 22) (Go.Operand.tmp 29) (Go.Operand.const (Go.Value.bool false)), type := 4, pos := "law.go:35", after := #[{ on := 4, ground := Go.Ground.data }, { on := 11, ground := Go.Ground.data }], guard := none }) (v := ?_) rfl (by kernel_rfl) (by kernel_rfl) (by kernel_rfl) (fun _ _ _ h => h) (Or.inl ⟨by rfl, ?_⟩) hH3 ?_
  rotate_left
  · (intro wz hSz; (try dsimp only at hSz); go_simp; try with_reducible rfl)
  simp only [Act.put, List.setIfInBounds_toArray, List.set_cons_zero, List.set_cons_succ]
  refine wpAnyH_take (i := 13) (oi := { dst := some 31, op := Go.Op.move (Go.Operand.tmp 30), type := 4, pos := "law.go:35", after := #[{ on := 12, ground := Go.Ground.data }, { on := 10, ground := Go.Ground.chain }], guard := none }) (v := ?_) rfl (by kernel_rfl) (by kernel_rfl) (by kernel_rfl) (fun _ _ _ h => h) (Or.inl ⟨by rfl, ?_⟩) hH3 ?_
  rotate_left
  · (intro wz hSz; (try dsimp only at hSz); go_simp; try with_reducible rfl)
  simp only [Act.put, List.setIfInBounds_toArray, List.set_cons_zero, List.set_cons_succ]
  refine wpAnyH_take (i := 14) (oi := { dst := some 32, op := Go.Op.move (Go.Operand.tmp 9), type := 26, pos := "law.go:35", after := #[{ on := 13, ground := Go.Ground.guard }], guard := some (13, true) }) (v := ?_) rfl (by kernel_rfl) (by kernel_rfl) (by kernel_rfl) (fun _ _ _ h => h) (Or.inl ⟨by rfl, ?_⟩) hH3 ?_
  rotate_left
  · (intro wz hSz; (try dsimp only at hSz); go_simp; try with_reducible rfl)
  simp only [Act.put, List.setIfInBounds_toArray, List.set_cons_zero, List.set_cons_succ]
  refine wpAnyH_take (i := 15) (oi := { dst := some 33, op := Go.Op.load 25 (Go.Operand.tmp 5), type := 25, pos := "law.go:35", after := #[{ on := 13, ground := Go.Ground.guard }], guard := some (13, true) }) (v := ?_) rfl (by kernel_rfl) (by kernel_rfl) (by kernel_rfl) (fun _ _ _ h => h) (Or.inl ⟨by rfl, ?_⟩) hH3 ?_
  rotate_left
  · (intro wz hSz; have hcz := True.intro; obtain ⟨c0, c1⟩ := lab_cells ((Below.block hSz _ (L.blk_lt HA.out)).trans HA.out); go_simp; try with_reducible rfl)
  simp only [Act.put, List.setIfInBounds_toArray, List.set_cons_zero, List.set_cons_succ]
  refine wpAnyH_take (i := 16) (oi := { dst := some 34, op := Go.Op.move (Go.Operand.tmp 3), type := 3, pos := "law.go:35", after := #[{ on := 13, ground := Go.Ground.guard }], guard := some (13, true) }) (v := ?_) rfl (by kernel_rfl) (by kernel_rfl) (by kernel_rfl) (fun _ _ _ h => h) (Or.inl ⟨by rfl, ?_⟩) hH3 ?_
  rotate_left
  · (intro wz hSz; (try dsimp only at hSz); go_simp; try with_reducible rfl)
  simp only [Act.put, List.setIfInBounds_toArray, List.set_cons_zero, List.set_cons_succ]
  refine wpAnyH_take (i := 18) (oi := { dst := some 36, op := Go.Op.move (Go.Operand.tmp 10), type := 27, pos := "law.go:35", after := #[{ on := 13, ground := Go.Ground.guard }], guard := some (13, true) }) (v := ?_) rfl (by kernel_rfl) (by kernel_rfl) (by kernel_rfl) (fun _ _ _ h => h) (Or.inl ⟨by rfl, ?_⟩) hH3 ?_
  rotate_left
  · (intro wz hSz; (try dsimp only at hSz); go_simp; try with_reducible rfl)
  simp only [Act.put, List.setIfInBounds_toArray, List.set_cons_zero, List.set_cons_succ]
  refine wpAnyH_take (i := 19) (oi := { dst := some 37, op := Go.Op.load 25 (Go.Operand.tmp 5), type := 25, pos := "law.go:35", after := #[{ on := 13, ground := Go.Ground.guard }], guard := some (13, true) }) (v := ?_) rfl (by kernel_rfl) (by kernel_rfl) (by kernel_rfl) (fun _ _ _ h => h) (Or.inl ⟨by rfl, ?_⟩) hH3 ?_
  rotate_left
  · (intro wz hSz; have hcz := True.intro; obtain ⟨c0, c1⟩ := lab_cells ((Below.block hSz _ (L.blk_lt HA.out)).trans HA.out); go_simp; try with_reducible rfl)
  simp only [Act.put, List.setIfInBounds_toArray, List.set_cons_zero, List.set_cons_succ]
  refine wpAnyH_take (i := 21) (oi := { dst := some 39, op := Go.Op.move (Go.Operand.tmp 3), type := 3, pos := "law.go:35", after := #[{ on := 13, ground := Go.Ground.guard }], guard := some (13, true) }) (v := ?_) rfl (by kernel_rfl) (by kernel_rfl) (by kernel_rfl) (fun _ _ _ h => h) (Or.inl ⟨by rfl, ?_⟩) hH3 ?_
  rotate_left
  · (intro wz hSz; (try dsimp only at hSz); go_simp; try with_reducible rfl)
  simp only [Act.put, List.setIfInBounds_toArray, List.set_cons_zero, List.set_cons_succ]
  refine wpAnyH_ready (rs := [17]) (by kernel_rfl) (by simp) ?_
  refine AllReadyH.cons (o := { dst := some 35, op := Go.Op.call { callee := Go.Callee.value (Go.Operand.func 11), args := #[Go.Operand.tmp 32, Go.Operand.tmp 33, Go.Operand.tmp 34], argTypes := #[26, 25, 3] }, type := 4, pos := "law.go:35", after := #[{ on := 14, ground := Go.Ground.data }, { on := 15, ground := Go.Ground.data }, { on := 16, ground := Go.Ground.data }, { on := 13, ground := Go.Ground.chain }, { on := 13, ground := Go.Ground.guard }], guard := some (13, true) }) rfl (fun K hK => ?_) AllReadyH.nil
  go_simp
  with_reducible refine (HFU.out.at (HX.out.below hH3.b)).mono ?_
  rintro r wq4 ⟨rfl, hbq⟩
  go_wp2_with fail
  refine hK.out _ _ (Keeps.trans hH3 hbq) (fun hJ => ?_)
  refine wpAnyH_more (S' := Keeps wq4) (fun z hz => Keeps.trans hJ hz) _ _ _ _ ?_
  replace HB := Lib.hid (HB.out.trans (Below.mono hJ HB.out.size))
  replace HT := Lib.hid (HT.out.later hJ)
  replace HA := Lib.hid ((Below.block hJ _ (L.blk_lt HA.out)).trans HA.out)
  replace HO := Lib.hid ((Below.block hJ _ (L.blk_lt HO.out)).trans HO.out)
  replace HX := Lib.hid (HX.out.below hJ)
  replace HY := Lib.hid (HY.out.below hJ)
  have hH4 : Keeps wq4 wq4 := Below.refl _ _
  clear hK K hbq hH3 hJ
  refine wpAnyH_ready (rs := [20]) (by kernel_rfl) (by simp) ?_
  refine AllReadyH.cons (o := { dst := some 38, op := Go.Op.call { callee := Go.Callee.value (Go.Operand.func 10), args := #[Go.Operand.tmp 36, Go.Operand.tmp 37], argTypes := #[27, 25] }, type := 3, pos := "law.go:35", after := #[{ on := 18, ground := Go.Ground.data }, { on := 19, ground := Go.Ground.data }, { on := 17, ground := Go.Ground.chain }, { on := 13, ground := Go.Ground.guard }], guard := some (13, true) }) rfl (fun K hK => ?_) AllReadyH.nil
  go_simp
  with_reducible refine (HRO.out.at (HY.out.below hH4.b)).mono ?_
  rintro r wq5 ⟨rfl, hbq⟩
  go_wp2_with fail
  refine hK.out _ _ (Keeps.trans hH4 hbq) (fun hJ => ?_)
  refine wpAnyH_more (S' := Keeps wq5) (fun z hz => Keeps.trans hJ hz) _ _ _ _ ?_
  replace HB := Lib.hid (HB.out.trans (Below.mono hJ HB.out.size))
  replace HT := Lib.hid (HT.out.later hJ)
  replace HA := Lib.hid ((Below.block hJ _ (L.blk_lt HA.out)).trans HA.out)
  replace HO := Lib.hid ((Below.block hJ _ (L.blk_lt HO.out)).trans HO.out)
  replace HX := Lib.hid (HX.out.below hJ)
  replace HY := Lib.hid (HY.out.below hJ)
  have hH5 : Keeps wq5 wq5 := Below.refl _ _
  clear hK K hbq hH4 hJ
  refine wpAnyH_take (i := 22) (oi := { dst := some 40, op := Go.Op.binOp Go.BinOp.geq 3 (Go.Operand.tmp 38) (Go.Operand.tmp 39) 3, type := 4, pos := "law.go:35", after := #[{ on := 20, ground := Go.Ground.data }, { on := 21, ground := Go.Ground.data }, { on := 13, ground := Go.Ground.guard }], guard := some (13, true) }) (v := ?_) rfl (by kernel_rfl) (by kernel_rfl) (by kernel_rfl) (fun _ _ _ h => h) (Or.inl ⟨by rfl, ?_⟩) hH5 ?_
  rotate_left
  · (intro wz hSz; (try dsimp only at hSz); go_simp; try with_reducible rfl)
  simp only [Act.put, List.setIfInBounds_toArray, List.set_cons_zero, List.set_cons_succ]
  refine wpAnyH_take (i := 23) (oi := { dst := some 41, op := Go.Op.binOp Go.BinOp.eql 4 (Go.Operand.tmp 35) (Go.Operand.tmp 40) 4, type := 4, pos := "law.go:35", after := #[{ on := 17, ground := Go.Ground.data }, { on := 22, ground := Go.Ground.data }, { on := 13, ground := Go.Ground.guard }], guard := some (13, true) }) (v := ?_) rfl (by kernel_rfl) (by kernel_rfl) (by kernel_rfl) (fun _ _ _ h => h) (Or.inl ⟨by rfl, ?_⟩) hH5 ?_
  rotate_left
  · (intro wz hSz; (try dsimp only at hSz); go_simp; try with_reducible rfl)
  simp only [Act.put, List.setIfInBounds_toArray, List.set_cons_zero, List.set_cons_succ]
  refine wpAnyH_take (i := 24) (oi := { dst := some 42, op := Go.Op.pick (Go.Operand.tmp 31) (Go.Operand.tmp 41) (Go.Operand.const (Go.Value.bool false)), type := 4, pos := "law.go:35", after := #[{ on := 13, ground := Go.Ground.data }, { on := 23, ground := Go.Ground.data }], guard := none }) (v := ?_) rfl (by kernel_rfl) (by kernel_rfl) (by kernel_rfl) (fun _ _ _ h => h) (Or.inl ⟨by rfl, ?_⟩) hH5 ?_
  rotate_left
  · (intro wz hSz; (try dsimp only at hSz); go_simp; try with_reducible rfl)
  simp only [Act.put, List.setIfInBounds_toArray, List.set_cons_zero, List.set_cons_succ]
  refine wpAnyH_take (i := 25) (oi := { dst := some 43, op := Go.Op.move (Go.Operand.tmp 42), type := 4, pos := "law.go:35", after := #[{ on := 24, ground := Go.Ground.data }, { on := 20, ground := Go.Ground.chain }], guard := none }) (v := ?_) rfl (by kernel_rfl) (by kernel_rfl) (by kernel_rfl) (fun _ _ _ h => h) (Or.inl ⟨by rfl, ?_⟩) hH5 ?_
  rotate_left
  · (intro wz hSz; (try dsimp only at hSz); go_simp; try with_reducible rfl)
  simp only [Act.put, List.setIfInBounds_toArray, List.set_cons_zero, List.set_cons_succ]
  refine wpAnyH_take (i := 26) (oi := { dst := some 44, op := Go.Op.move (Go.Operand.tmp 9), type := 26, pos := "law.go:35", after := #[{ on := 25, ground := Go.Ground.guard }], guard := some (25, true) }) (v := ?_) rfl (by kernel_rfl) (by kernel_rfl) (by kernel_rfl) (fun _ _ _ h => h) (Or.inl ⟨by rfl, ?_⟩) hH5 ?_
  rotate_left
  · (intro wz hSz; (try dsimp only at hSz); go_simp; try with_reducible rfl)
  simp only [Act.put, List.setIfInBounds_toArray, List.set_cons_zero, List.set_cons_succ]
  refine wpAnyH_take (i := 27) (oi := { dst := some 45, op := Go.Op.load 25 (Go.Operand.tmp 6), type := 25, pos := "law.go:35", after := #[{ on := 25, ground := Go.Ground.guard }], guard := some (25, true) }) (v := ?_) rfl (by kernel_rfl) (by kernel_rfl) (by kernel_rfl) (fun _ _ _ h => h) (Or.inl ⟨by rfl, ?_⟩) hH5 ?_
  rotate_left
  · (intro wz hSz; have hcz := True.intro; obtain ⟨c0, c1⟩ := lab_cells ((Below.block hSz _ (L.blk_lt HO.out)).trans HO.out); go_simp; try with_reducible rfl)
  simp only [Act.put, List.setIfInBounds_toArray, List.set_cons_zero, List.set_cons_succ]
  refine wpAnyH_take (i := 29) (oi := { dst := some 47, op := Go.Op.move (Go.Operand.tmp 10), type := 27, pos := "law.go:35", after := #[{ on := 25, ground := Go.Ground.guard }], guard := some (25, true) }) (v := ?_) rfl (by kernel_rfl) (by kernel_rfl) (by kernel_rfl) (fun _ _ _ h => h) (Or.inl ⟨by rfl, ?_⟩) hH5 ?_
  rotate_left
  · (intro wz hSz; (try dsimp only at hSz); go_simp; try with_reducible rfl)
  simp only [Act.put, List.setIfInBounds_toArray, List.set_cons_zero, List.set_cons_succ]
  refine wpAnyH_take (i := 30) (oi := { dst := some 48, op := Go.Op.load 25 (Go.Operand.tmp 6), type := 25, pos := "law.go:35", after := #[{ on := 25, ground := Go.Ground.guard }], guard := some (25, true) }) (v := ?_) rfl (by kernel_rfl) (by kernel_rfl) (by kernel_rfl) (fun _ _ _ h => h) (Or.inl ⟨by rfl, ?_⟩) hH5 ?_
  rotate_left
  · (intro wz hSz; have hcz := True.intro; obtain ⟨c0, c1⟩ := lab_cells ((Below.block hSz _ (L.blk_lt HO.out)).trans HO.out); go_simp; try with_reducible rfl)
  simp only [Act.put, List.setIfInBounds_toArray, List.set_cons_zero, List.set_cons_succ]
  refine wpAnyH_ready (rs := [28]) (by kernel_rfl) (by simp) ?_
  refine AllReadyH.cons (o := { dst := some 46, op := Go.Op.call { callee := Go.Callee.value (Go.Operand.func 13), args := #[Go.Operand.tmp 44, Go.Operand.tmp 45], argTypes := #[26, 25] }, type := 22, pos := "law.go:35", after := #[{ on := 26, ground := Go.Ground.data }, { on := 27, ground := Go.Ground.data }, { on := 25, ground := Go.Ground.chain }, { on := 25, ground := Go.Ground.guard }], guard := some (25, true) }) rfl (fun K hK => ?_) AllReadyH.nil
  go_simp
  with_reducible refine (HSE.out.at (HX.out.below hH5.b)).mono ?_
  rintro r wq6 ⟨SA, sc, rfl, -, HS1, hbq⟩
  go_wp2_with fail
  refine hK.out _ _ (Keeps.trans hH5 hbq) (fun hJ => ?_)
  refine wpAnyH_more (S' := Keeps wq6) (fun z hz => Keeps.trans hJ hz) _ _ _ _ ?_
  replace HB := Lib.hid (HB.out.trans (Below.mono hJ HB.out.size))
  replace HT := Lib.hid (HT.out.later hJ)
  replace HA := Lib.hid ((Below.block hJ _ (L.blk_lt HA.out)).trans HA.out)
  replace HO := Lib.hid ((Below.block hJ _ (L.blk_lt HO.out)).trans HO.out)
  replace HX := Lib.hid (HX.out.below hJ)
  replace HY := Lib.hid (HY.out.below hJ)
  replace HS1 := Lib.hid HS1
  have hH6 : Keeps wq6 wq6 := Below.refl _ _
  clear hK K hbq hH5 hJ
  refine wpAnyH_ready (rs := [31]) (by kernel_rfl) (by simp) ?_
  refine AllReadyH.cons (o := { dst := some 49, op := Go.Op.call { callee := Go.Callee.value (Go.Operand.func 14), args := #[Go.Operand.tmp 47, Go.Operand.tmp 48], argTypes := #[27, 25] }, type := 22, pos := "law.go:35", after := #[{ on := 29, ground := Go.Ground.data }, { on := 30, ground := Go.Ground.data }, { on := 28, ground := Go.Ground.chain }, { on := 25, ground := Go.Ground.guard }], guard := some (25, true) }) rfl (fun K hK => ?_) AllReadyH.nil
  go_simp
  with_reducible refine (HRS.out.at (HY.out.below hH6.b)).mono ?_
  rintro r wq7 ⟨SB, sd, rfl, -, HS2, hbq⟩
  go_wp2_with fail
  refine hK.out _ _ (Keeps.trans hH6 hbq) (fun hJ => ?_)
  refine wpAnyH_more (S' := Keeps wq7) (fun z hz => Keeps.trans hJ hz) _ _ _ _ ?_
  replace HB := Lib.hid (HB.out.trans (Below.mono hJ HB.out.size))
  replace HT := Lib.hid (HT.out.later hJ)
  replace HA := Lib.hid ((Below.block hJ _ (L.blk_lt HA.out)).trans HA.out)
  replace HO := Lib.hid ((Below.block hJ _ (L.blk_lt HO.out)).trans HO.out)
  replace HX := Lib.hid (HX.out.below hJ)
  replace HY := Lib.hid (HY.out.below hJ)
  replace HS1 := Lib.hid (HS1.out.below hJ)
  replace HS2 := Lib.hid HS2
  have hH7 : Keeps wq7 wq7 := Below.refl _ _
  clear hK K hbq hH6 hJ
  refine wpAnyH_ready (rs := [32]) (by kernel_rfl) (by simp) ?_
  refine AllReadyH.cons (o := { dst := some 50, op := Go.Op.call { callee := Go.Callee.value (Go.Operand.func 12), args := #[Go.Operand.tmp 46, Go.Operand.tmp 49], argTypes := #[22, 22] }, type := 4, pos := "law.go:35", after := #[{ on := 28, ground := Go.Ground.data }, { on := 31, ground := Go.Ground.data }, { on := 31, ground := Go.Ground.chain }, { on := 25, ground := Go.Ground.guard }], guard := some (25, true) }) rfl (fun K hK => ?_) AllReadyH.nil
  go_simp
  with_reducible refine (HSM.out.at (HS1.out.below hH7.b) (HS2.out.below hH7.b)).mono ?_
  rintro r wq8 ⟨rfl, hbq⟩
  go_wp2_with fail
  refine hK.out _ _ (Keeps.trans hH7 hbq) (fun hJ => ?_)
  refine wpAnyH_more (S' := Keeps wq8) (fun z hz => Keeps.trans hJ hz) _ _ _ _ ?_
  replace HB := Lib.hid (HB.out.trans (Below.mono hJ HB.out.size))
  replace HT := Lib.hid (HT.out.later hJ)
  replace HA := Lib.hid ((Below.block hJ _ (L.blk_lt HA.out)).trans HA.out)
  replace HO := Lib.hid ((Below.block hJ _ (L.blk_lt HO.out)).trans HO.out)
  replace HX := Lib.hid (HX.out.below hJ)
  replace HY := Lib.hid (HY.out.below hJ)
  replace HS1 := Lib.hid (HS1.out.below hJ)
  replace HS2 := Lib.hid (HS2.out.below hJ)
  have hH8 : Keeps wq8 wq8 := Below.refl _ _
  clear hK K hbq hH7 hJ
  refine wpAnyH_take (i := 33) (oi := { dst := some 51, op := Go.Op.pick (Go.Operand.tmp 43) (Go.Operand.tmp 50) (Go.Operand.const (Go.Value.bool false)), type := 4, pos := "law.go:35", after := #[{ on := 25, ground := Go.Ground.data }, { on := 32, ground := Go.Ground.data }], guard := none }) (v := ?_) rfl (by kernel_rfl) (by kernel_rfl) (by kernel_rfl) (fun _ _ _ h => h) (Or.inl ⟨by rfl, ?_⟩) hH8 ?_
  rotate_left
  · (intro wz hSz; (try dsimp only at hSz); go_simp; try with_reducible rfl)
  simp only [Act.put, List.setIfInBounds_toArray, List.set_cons_zero, List.set_cons_succ]
  refine wpAnyH_take (i := 34) (oi := { dst := some 52, op := Go.Op.move (Go.Operand.tmp 51), type := 4, pos := "law.go:35", after := #[{ on := 33, ground := Go.Ground.data }, { on := 32, ground := Go.Ground.chain }], guard := none }) (v := ?_) rfl (by kernel_rfl) (by kernel_rfl) (by kernel_rfl) (fun _ _ _ h => h) (Or.inl ⟨by rfl, ?_⟩) hH8 ?_
  rotate_left
  · (intro wz hSz; (try dsimp only at hSz); go_simp; try with_reducible rfl)
  simp only [Act.put, List.setIfInBounds_toArray, List.set_cons_zero, List.set_cons_succ]
  refine wpAnyH_take (i := 35) (oi := { dst := some 53, op := Go.Op.move (Go.Operand.tmp 9), type := 26, pos := "law.go:35", after := #[{ on := 34, ground := Go.Ground.guard }], guard := some (34, true) }) (v := ?_) rfl (by kernel_rfl) (by kernel_rfl) (by kernel_rfl) (fun _ _ _ h => h) (Or.inl ⟨by rfl, ?_⟩) hH8 ?_
  rotate_left
  · (intro wz hSz; (try dsimp only at hSz); go_simp; try with_reducible rfl)
  simp only [Act.put, List.setIfInBounds_toArray, List.set_cons_zero, List.set_cons_succ]
  refine wpAnyH_take (i := 36) (oi := { dst := some 54, op := Go.Op.load 25 (Go.Operand.tmp 6), type := 25, pos := "law.go:35", after := #[{ on := 34, ground := Go.Ground.guard }], guard := some (34, true) }) (v := ?_) rfl (by kernel_rfl) (by kernel_rfl) (by kernel_rfl) (fun _ _ _ h => h) (Or.inl ⟨by rfl, ?_⟩) hH8 ?_
  rotate_left
  · (intro wz hSz; have hcz := True.intro; obtain ⟨c0, c1⟩ := lab_cells ((Below.block hSz _ (L.blk_lt HO.out)).trans HO.out); go_simp; try with_reducible rfl)
  simp only [Act.put, List.setIfInBounds_toArray, List.set_cons_zero, List.set_cons_succ]
  refine wpAnyH_take (i := 39) (oi := { dst := some 57, op := Go.Op.move (Go.Operand.tmp 10), type := 27, pos := "law.go:35", after := #[{ on := 34, ground := Go.Ground.guard }], guard := some (34, true) }) (v := ?_) rfl (by kernel_rfl) (by kernel_rfl) (by kernel_rfl) (fun _ _ _ h => h) (Or.inl ⟨by rfl, ?_⟩) hH8 ?_
  rotate_left
  · (intro wz hSz; (try dsimp only at hSz); go_simp; try with_reducible rfl)
  simp only [Act.put, List.setIfInBounds_toArray, List.set_cons_zero, List.set_cons_succ]
  refine wpAnyH_take (i := 40) (oi := { dst := some 58, op := Go.Op.load 25 (Go.Operand.tmp 6), type := 25, pos := "law.go:35", after := #[{ on := 34, ground := Go.Ground.guard }], guard := some (34, true) }) (v := ?_) rfl (by kernel_rfl) (by kernel_rfl) (by kernel_rfl) (fun _ _ _ h => h) (Or.inl ⟨by rfl, ?_⟩) hH8 ?_
  rotate_left
  · (intro wz hSz; have hcz := True.intro; obtain ⟨c0, c1⟩ := lab_cells ((Below.block hSz _ (L.blk_lt HO.out)).trans HO.out); go_simp; try with_reducible rfl)
  simp only [Act.put, List.setIfInBounds_toArray, List.set_cons_zero, List.set_cons_succ]
  refine wpAnyH_ready (rs := [37]) (by kernel_rfl) (by simp) ?_
  refine AllReadyH.cons (o := { dst := some 55, op := Go.Op.call { callee := Go.Callee.value (Go.Operand.func 15), args := #[Go.Operand.tmp 53, Go.Operand.tmp 54], argTypes := #[26, 25] }, type := 35, pos := "law.go:35", after := #[{ on := 35, ground := Go.Ground.data }, { on := 36, ground := Go.Ground.data }, { on := 34, ground := Go.Ground.chain }, { on := 34, ground := Go.Ground.guard }], guard := some (34, true) }) rfl (fun K hK => ?_) AllReadyH.nil
  go_simp
  with_reducible refine (HPR.out.at (HX.out.below hH8.b) (HT.out.later hH8.b)).mono ?_
  rintro r wq9 ⟨PB, pc, rfl, HP1, hbq⟩
  go_wp2_with fail
  refine hK.out _ _ (Keeps.trans hH8 hbq) (fun hJ => ?_)
  refine wpAnyH_more (S' := Keeps wq9) (fun z hz => Keeps.trans hJ hz) _ _ _ _ ?_
  replace HB := Lib.hid (HB.out.trans (Below.mono hJ HB.out.size))
  replace HT := Lib.hid (HT.out.later hJ)
  replace HA := Lib.hid ((Below.block hJ _ (L.blk_lt HA.out)).trans HA.out)
  replace HO := Lib.hid ((Below.block hJ _ (L.blk_lt HO.out)).trans HO.out)
  replace HX := Lib.hid (HX.out.below hJ)
  replace HY := Lib.hid (HY.out.below hJ)
  replace HS1 := Lib.hid (HS1.out.below hJ)
  replace HS2 := Lib.hid (HS2.out.below hJ)
  replace HP1 := Lib.hid HP1
  have hH9 : Keeps wq9 wq9 := Below.refl _ _
  clear hK K hbq hH8 hJ
  refine wpAnyH_take (i := 38) (oi := { dst := some 56, op := Go.Op.convert 35 9 (Go.Operand.tmp 55), type := 9, pos := "law.go:35", after := #[{ on := 37, ground := Go.Ground.data }, { on := 34, ground := Go.Ground.guard }], guard := some (34, true) }) (v := ?_) rfl (by kernel_rfl) (by kernel_rfl) (by kernel_rfl) (fun _ _ _ h => h) (Or.inl ⟨by rfl, ?_⟩) hH9 ?_
  rotate_left
  · (intro wz hSz; have hcz := conv_in pc (HP1.out.below hSz); go_simp; try with_reducible rfl)
  simp only [Act.put, List.setIfInBounds_toArray, List.set_cons_zero, List.set_cons_succ]
  refine wpAnyH_ready (rs := [41]) (by kernel_rfl) (by simp) ?_
  refine AllReadyH.cons (o := { dst := some 59, op := Go.Op.call { callee := Go.Callee.value (Go.Operand.func 16), args := #[Go.Operand.tmp 57, Go.Operand.tmp 58], argTypes := #[27, 25] }, type := 35, pos := "law.go:35", after := #[{ on := 39, ground := Go.Ground.data }, { on := 40, ground := Go.Ground.data }, { on := 37, ground := Go.Ground.chain }, { on := 34, ground := Go.Ground.guard }], guard := some (34, true) }) rfl (fun K hK => ?_) AllReadyH.nil
  go_simp
  with_reducible refine (HRP.out.at (HY.out.below hH9.b) (HT.out.later hH9.b)).mono ?_
  rintro r wq10 ⟨QB, qc, rfl, HP2, hbq⟩
  go_wp2_with fail
  refine hK.out _ _ (Keeps.trans hH9 hbq) (fun hJ => ?_)
  refine wpAnyH_more (S' := Keeps wq10) (fun z hz => Keeps.trans hJ hz) _ _ _ _ ?_
  replace HB := Lib.hid (HB.out.trans (Below.mono hJ HB.out.size))
  replace HT := Lib.hid (HT.out.later hJ)
  replace HA := Lib.hid ((Below.block hJ _ (L.blk_lt HA.out)).trans HA.out)
  replace HO := Lib.hid ((Below.block hJ _ (L.blk_lt HO.out)).trans HO.out)
  replace HX := Lib.hid (HX.out.below hJ)
  replace HY := Lib.hid (HY.out.below hJ)
  replace HS1 := Lib.hid (HS1.out.below hJ)
  replace HS2 := Lib.hid (HS2.out.below hJ)
  replace HP1 := Lib.hid (HP1.out.below hJ)
  replace HP2 := Lib.hid HP2
  have hH10 : Keeps wq10 wq10 := Below.refl _ _
  clear hK K hbq hH9 hJ
  refine wpAnyH_take (i := 42) (oi := { dst := some 60, op := Go.Op.convert 35 9 (Go.Operand.tmp 59), type := 9, pos := "law.go:35", after := #[{ on := 41, ground := Go.Ground.data }, { on := 34, ground := Go.Ground.guard }], guard := some (34, true) }) (v := ?_) rfl (by kernel_rfl) (by kernel_rfl) (by kernel_rfl) (fun _ _ _ h => h) (Or.inl ⟨by rfl, ?_⟩) hH10 ?_
  rotate_left
  · (intro wz hSz; have hcz := conv_in qc (HP2.out.below hSz); go_simp; try with_reducible rfl)
  simp only [Act.put, List.setIfInBounds_toArray, List.set_cons_zero, List.set_cons_succ]
  refine wpAnyH_take (i := 43) (oi := { dst := some 61, op := Go.Op.binOp Go.BinOp.eql 9 (Go.Operand.tmp 56) (Go.Operand.tmp 60) 9, type := 4, pos := "law.go:35", after := #[{ on := 38, ground := Go.Ground.data }, { on := 42, ground := Go.Ground.data }, { on := 34, ground := Go.Ground.guard }], guard := some (34, true) }) (v := ?_) rfl (by kernel_rfl) (by kernel_rfl) (by kernel_rfl) (fun _ _ _ h => h) (Or.inl ⟨by rfl, ?_⟩) hH10 ?_
  rotate_left
  · (intro wz hSz; (try dsimp only at hSz); go_simp; try with_reducible rfl)
  simp only [Act.put, List.setIfInBounds_toArray, List.set_cons_zero, List.set_cons_succ]
  refine wpAnyH_take (i := 44) (oi := { dst := some 62, op := Go.Op.pick (Go.Operand.tmp 52) (Go.Operand.tmp 61) (Go.Operand.const (Go.Value.bool false)), type := 4, pos := "law.go:35", after := #[{ on := 34, ground := Go.Ground.data }, { on := 43, ground := Go.Ground.data }], guard := none }) (v := ?_) rfl (by kernel_rfl) (by kernel_rfl) (by kernel_rfl) (fun _ _ _ h => h) (Or.inl ⟨by rfl, ?_⟩) hH10 ?_
  rotate_left
  · (intro wz hSz; (try dsimp only at hSz); go_simp; try with_reducible rfl)
  simp only [Act.put, List.setIfInBounds_toArray, List.set_cons_zero, List.set_cons_succ]
  refine wpAnyH_take (i := 45) (oi := { dst := some 8, op := Go.Op.assign (Go.Operand.tmp 62), type := 4, pos := "law.go:35", after := #[{ on := 44, ground := Go.Ground.data }, { on := 41, ground := Go.Ground.chain }, { on := 0, ground := Go.Ground.phase }, { on := 1, ground := Go.Ground.phase }, { on := 2, ground := Go.Ground.phase }, { on := 3, ground := Go.Ground.phase }, { on := 4, ground := Go.Ground.phase }, { on := 5, ground := Go.Ground.phase }, { on := 6, ground := Go.Ground.phase }, { on := 7, ground := Go.Ground.phase }, { on := 8, ground := Go.Ground.phase }, { on := 9, ground := Go.Ground.phase }, { on := 10, ground := Go.Ground.phase }, { on := 11, ground := Go.Ground.phase }, { on := 12, ground := Go.Ground.phase }, { on := 13, ground := Go.Ground.phase }, { on := 14, ground := Go.Ground.phase }, { on := 15, ground := Go.Ground.phase }, { on := 16, ground := Go.Ground.phase }, { on := 17, ground := Go.Ground.phase }, { on := 18, ground := Go.Ground.phase }, { on := 19, ground := Go.Ground.phase }, { on := 20, ground := Go.Ground.phase }, { on := 21, ground := Go.Ground.phase }, { on := 22, ground := Go.Ground.phase }, { on := 23, ground := Go.Ground.phase }, { on := 24, ground := Go.Ground.phase }, { on := 25, ground := Go.Ground.phase }, { on := 26, ground := Go.Ground.phase }, { on := 27, ground := Go.Ground.phase }, { on := 28, ground := Go.Ground.phase }, { on := 29, ground := Go.Ground.phase }, { on := 30, ground := Go.Ground.phase }, { on := 31, ground := Go.Ground.phase }, { on := 32, ground := Go.Ground.phase }, { on := 33, ground := Go.Ground.phase }, { on := 34, ground := Go.Ground.phase }, { on := 35, ground := Go.Ground.phase }, { on := 36, ground := Go.Ground.phase }, { on := 37, ground := Go.Ground.phase }, { on := 38, ground := Go.Ground.phase }, { on := 39, ground := Go.Ground.phase }, { on := 40, ground := Go.Ground.phase }, { on := 41, ground := Go.Ground.phase }, { on := 42, ground := Go.Ground.phase }, { on := 43, ground := Go.Ground.phase }, { on := 44, ground := Go.Ground.phase }], guard := none }) (v := ?_) rfl (by kernel_rfl) (by kernel_rfl) (by kernel_rfl) (fun _ _ _ h => h) (Or.inl ⟨by rfl, ?_⟩) hH10 ?_
  rotate_left
  · (intro wz hSz; (try dsimp only at hSz); go_simp; try with_reducible rfl)
  simp only [Act.put, List.setIfInBounds_toArray, List.set_cons_zero, List.set_cons_succ]
  refine wpAnyH_done (by kernel_rfl) ?_ _
  go_wp2_with fail
  go_ret
  exact ⟨rfl, HB.out⟩

theorem play_rd {A : Option Addr} {c : Nat} {l : List Et} (hok : ∀ e ∈ l, EtOk e) (hl : l.length ≤ maxLen) (W : World) (h : EtsIn W A l) : Calls Tryd.prog 7 #[.slice A l.length c] W fun e w' => ∃ bx yb, e = .returned (.tuple #[.pointer (some ⟨bx, 0, none⟩), .pointer (some ⟨yb, 0, none⟩), .bool true]) ∧ LgR w' 52 bx (fine (l.take 60)) ∧ LgR w' 50 yb (fine (l.take 60)) ∧ Below W.heap.size W w' :=
  (play_any h hok hl).mono fun e w' g => by
    obtain ⟨bx, yb, he, hp, hb⟩ := g
    exact ⟨bx, yb, he, hp.rx, hp.ry, hb⟩
theorem aplays_law {w : World} {A : Option Addr} {c : Nat} {l : List Et} {a0 o0 : Int} {a1 o1 : Nat} (q : Int) (hA : EtsIn w A l) (hok : ∀ e ∈ l, EtOk e) (hl : l.length ≤ maxLen) (ho : o1 < 18446744073709551616) (hT : Tab w) :
    Calls Tryd.prog 3 #[.slice A l.length c, .agg #[.int .i64 a0, .int .u64 (a1 : Int)], .agg #[.int .i64 o0, .int .u64 (o1 : Int)], .int .i64 q] w fun e w' => e = .returned (.bool true) ∧ Below w.heap.size w w' := by
  have h := fine_ls hok
  exact aplays_walk (Lib.hid hT) (Lib.hid hA) rfl (Lib.hid (play_rd hok hl)) (Lib.hid fun _ => c_of h) (Lib.hid fun _ => c_rof h) (Lib.hid fun _ => c_full h q) (Lib.hid fun _ => c_seen h ho) (Lib.hid fun _ => c_rseen h) (Lib.hid (c_same (Nat.le_trans (seen_len _ _ _) h.n))) (Lib.hid fun _ => c_print h ho) (Lib.hid fun _ => c_rprint h)

end Go.Proofs.YtbfohfmipfapdaaDoor.Au
