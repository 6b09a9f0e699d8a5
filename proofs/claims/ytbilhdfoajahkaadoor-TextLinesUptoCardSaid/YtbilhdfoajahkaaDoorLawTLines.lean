/-
  The law TextLines, walked: it returns true for every bytes and lines of a bulk of at most 2^20, where the library's table of powers of ten holds what its text lays.
-/
import Derived.Test.YtbilhdfoajahkaaDoorTextI
import Derived.Test.YtbilhdfoajahkaaDoorLiveA
import Derived.Deep.DeepCutAuto
namespace Go.Proofs.YtbilhdfoajahkaaDoor.T
open Go.RowKit

set_option maxHeartbeats 4000000 in
set_option maxRecDepth 100000 in
theorem tlines_law (A0 A1 : Option Addr) (cap0 cap1 : Nat) (l m : List UInt8) (xs ys : List (List UInt8 × Bool)) (rt : Bool) (w : World) (HT : Hid (Tab w)) (H0 : Hid (BytesIn w A0 l)) (hc : l.length ≤ cap0) (H1 : Hid (LinesIn w A1 ys))
    (LL : LinesOf l xs) (RL : RLinesOf l xs) (SX : SameOf xs) (JY : JoinOf ys m) (RJ : RJoinOf ys m) (RY : RightOf ys rt) (RR : RRightOf ys rt) :
    Calls Tryd.prog 3 #[.slice A0 l.length cap0, .slice A1 ys.length cap1] w fun e w' => e = .returned (.bool true) ∧ Below w.heap.size w w' := by
  have HB := Lib.hid (Below.refl w.heap.size w)
  go_enter Tryd.func3, Tryd.ntmps3
  go_upto_region 1 with fail
  refine wp_region_held_drew (S := (Keeps w)) (by kernel_rfl) (keeps_drew _) (fun hH0 => ?_)
  refine wpAnyH_ready (rs := [0]) (by kernel_rfl) (by simp) ?_
  refine AllReadyH.cons (o := { dst := some 5, op := Go.Op.call { callee := Go.Callee.value (Go.Operand.func 15), args := #[], argTypes := #[] }, type := 4, pos := "law.go:19", after := #[], guard := none }) rfl (fun K hK => ?_) AllReadyH.nil
  go_simp
  with_reducible refine (live1 _ (HT.out.later hH0.b)).mono ?_
  rintro r wq1 ⟨rfl, hbq⟩
  go_wp2_with fail
  refine hK.out _ _ (Keeps.trans hH0 hbq) (fun hJ => ?_)
  refine wpAnyH_more (S' := Keeps wq1) (fun z hz => Keeps.trans hJ hz) _ _ _ _ ?_
  replace HB := Lib.hid (HB.out.trans (Below.mono hJ HB.out.size))
  replace HT := Lib.hid (HT.out.later hJ)
  replace H0 := Lib.hid (H0.out.below hJ)
  replace H1 := Lib.hid (H1.out.below hJ)
  have hH1 : Keeps wq1 wq1 := Below.refl _ _
  clear hK K hbq hH0 hJ
  refine wpAnyH_take (i := 1) (oi := { dst := some 6, op := Go.Op.move (Go.Operand.tmp 5), type := 4, pos := "law.go:19", after := #[{ on := 0, ground := Go.Ground.data }, { on := 0, ground := Go.Ground.chain }], guard := none }) (v := ?_) rfl (by kernel_rfl) (by kernel_rfl) (by kernel_rfl) (fun _ _ _ h => h) (Or.inl ⟨by rfl, ?_⟩) hH1 ?_
  rotate_left
  · (intro wz hSz; (try dsimp only at hSz); go_simp; try with_reducible rfl)
  simp only [Act.put, List.setIfInBounds_toArray, List.set_cons_zero, List.set_cons_succ]
  refine wpAnyH_take (i := 2) (oi := { dst := some 7, op := Go.Op.move (Go.Operand.tmp 0), type := 22, pos := "law.go:19", after := #[{ on := 1, ground := Go.Ground.guard }], guard := some (1, true) }) (v := ?_) rfl (by kernel_rfl) (by kernel_rfl) (by kernel_rfl) (fun _ _ _ h => h) (Or.inl ⟨by rfl, ?_⟩) hH1 ?_
  rotate_left
  · (intro wz hSz; (try dsimp only at hSz); go_simp; try with_reducible rfl)
  simp only [Act.put, List.setIfInBounds_toArray, List.set_cons_zero, List.set_cons_succ]
  refine wpAnyH_take (i := 4) (oi := { dst := some 9, op := Go.Op.move (Go.Operand.tmp 0), type := 22, pos := "law.go:19", after := #[{ on := 1, ground := Go.Ground.guard }], guard := some (1, true) }) (v := ?_) rfl (by kernel_rfl) (by kernel_rfl) (by kernel_rfl) (fun _ _ _ h => h) (Or.inl ⟨by rfl, ?_⟩) hH1 ?_
  rotate_left
  · (intro wz hSz; (try dsimp only at hSz); go_simp; try with_reducible rfl)
  simp only [Act.put, List.setIfInBounds_toArray, List.set_cons_zero, List.set_cons_succ]
  refine wpAnyH_ready (rs := [3]) (by kernel_rfl) (by simp) ?_
  refine AllReadyH.cons (o := { dst := some 8, op := Go.Op.call { callee := Go.Callee.value (Go.Operand.func 17), args := #[Go.Operand.tmp 7], argTypes := #[22] }, type := 23, pos := "law.go:19", after := #[{ on := 2, ground := Go.Ground.data }, { on := 1, ground := Go.Ground.chain }, { on := 1, ground := Go.Ground.guard }], guard := some (1, true) }) rfl (fun K hK => ?_) AllReadyH.nil
  go_simp
  with_reducible refine (LL.call _ _ _ (H0.out.below hH1.b) hc).mono ?_
  rintro r wq2 ⟨A2, cap2, rfl, H2, hbq⟩
  go_wp2_with fail
  refine hK.out _ _ (Keeps.trans hH1 hbq) (fun hJ => ?_)
  refine wpAnyH_more (S' := Keeps wq2) (fun z hz => Keeps.trans hJ hz) _ _ _ _ ?_
  replace HB := Lib.hid (HB.out.trans (Below.mono hJ HB.out.size))
  replace HT := Lib.hid (HT.out.later hJ)
  replace H0 := Lib.hid (H0.out.below hJ)
  replace H1 := Lib.hid (H1.out.below hJ)
  replace H2 := Lib.hid H2
  have hH2 : Keeps wq2 wq2 := Below.refl _ _
  clear hK K hbq hH1 hJ
  refine wpAnyH_ready (rs := [5]) (by kernel_rfl) (by simp) ?_
  refine AllReadyH.cons (o := { dst := some 10, op := Go.Op.call { callee := Go.Callee.value (Go.Operand.func 18), args := #[Go.Operand.tmp 9], argTypes := #[22] }, type := 23, pos := "law.go:19", after := #[{ on := 4, ground := Go.Ground.data }, { on := 3, ground := Go.Ground.chain }, { on := 1, ground := Go.Ground.guard }], guard := some (1, true) }) rfl (fun K hK => ?_) AllReadyH.nil
  go_simp
  with_reducible refine (RL.call _ _ _ (H0.out.below hH2.b) hc).mono ?_
  rintro r wq3 ⟨A3, cap3, rfl, H3, hbq⟩
  go_wp2_with fail
  refine hK.out _ _ (Keeps.trans hH2 hbq) (fun hJ => ?_)
  refine wpAnyH_more (S' := Keeps wq3) (fun z hz => Keeps.trans hJ hz) _ _ _ _ ?_
  replace HB := Lib.hid (HB.out.trans (Below.mono hJ HB.out.size))
  replace HT := Lib.hid (HT.out.later hJ)
  replace H0 := Lib.hid (H0.out.below hJ)
  replace H1 := Lib.hid (H1.out.below hJ)
  replace H2 := Lib.hid (H2.out.below hJ)
  replace H3 := Lib.hid H3
  have hH3 : Keeps wq3 wq3 := Below.refl _ _
  clear hK K hbq hH2 hJ
  refine wpAnyH_ready (rs := [6]) (by kernel_rfl) (by simp) ?_
  refine AllReadyH.cons (o := { dst := some 11, op := Go.Op.call { callee := Go.Callee.value (Go.Operand.func 16), args := #[Go.Operand.tmp 8, Go.Operand.tmp 10], argTypes := #[23, 23] }, type := 4, pos := "law.go:19", after := #[{ on := 3, ground := Go.Ground.data }, { on := 5, ground := Go.Ground.data }, { on := 5, ground := Go.Ground.chain }, { on := 1, ground := Go.Ground.guard }], guard := some (1, true) }) rfl (fun K hK => ?_) AllReadyH.nil
  go_simp
  with_reducible refine (SX.call _ _ _ _ _ (H2.out.below hH3.b) (H3.out.below hH3.b)).mono ?_
  rintro r wq4 ⟨rfl, hbq⟩
  go_wp2_with fail
  refine hK.out _ _ (Keeps.trans hH3 hbq) (fun hJ => ?_)
  refine wpAnyH_more (S' := Keeps wq4) (fun z hz => Keeps.trans hJ hz) _ _ _ _ ?_
  replace HB := Lib.hid (HB.out.trans (Below.mono hJ HB.out.size))
  replace HT := Lib.hid (HT.out.later hJ)
  replace H0 := Lib.hid (H0.out.below hJ)
  replace H1 := Lib.hid (H1.out.below hJ)
  replace H2 := Lib.hid (H2.out.below hJ)
  replace H3 := Lib.hid (H3.out.below hJ)
  have hH4 : Keeps wq4 wq4 := Below.refl _ _
  clear hK K hbq hH3 hJ
  refine wpAnyH_take (i := 7) (oi := { dst := some 12, op := Go.Op.pick (Go.Operand.tmp 6) (Go.Operand.tmp 11) (Go.Operand.const (Go.Value.bool false)), type := 4, pos := "law.go:19", after := #[{ on := 1, ground := Go.Ground.data }, { on := 6, ground := Go.Ground.data }], guard := none }) (v := ?_) rfl (by kernel_rfl) (by kernel_rfl) (by kernel_rfl) (fun _ _ _ h => h) (Or.inl ⟨by rfl, ?_⟩) hH4 ?_
  rotate_left
  · (intro wz hSz; (try dsimp only at hSz); go_simp; try with_reducible rfl)
  simp only [Act.put, List.setIfInBounds_toArray, List.set_cons_zero, List.set_cons_succ]
  refine wpAnyH_take (i := 8) (oi := { dst := some 13, op := Go.Op.move (Go.Operand.tmp 12), type := 4, pos := "law.go:19", after := #[{ on := 7, ground := Go.Ground.data }, { on := 6, ground := Go.Ground.chain }], guard := none }) (v := ?_) rfl (by kernel_rfl) (by kernel_rfl) (by kernel_rfl) (fun _ _ _ h => h) (Or.inl ⟨by rfl, ?_⟩) hH4 ?_
  rotate_left
  · (intro wz hSz; (try dsimp only at hSz); go_simp; try with_reducible rfl)
  simp only [Act.put, List.setIfInBounds_toArray, List.set_cons_zero, List.set_cons_succ]
  refine wpAnyH_take (i := 9) (oi := { dst := some 14, op := Go.Op.move (Go.Operand.tmp 1), type := 23, pos := "law.go:19", after := #[{ on := 8, ground := Go.Ground.guard }], guard := some (8, true) }) (v := ?_) rfl (by kernel_rfl) (by kernel_rfl) (by kernel_rfl) (fun _ _ _ h => h) (Or.inl ⟨by rfl, ?_⟩) hH4 ?_
  rotate_left
  · (intro wz hSz; (try dsimp only at hSz); go_simp; try with_reducible rfl)
  simp only [Act.put, List.setIfInBounds_toArray, List.set_cons_zero, List.set_cons_succ]
  refine wpAnyH_take (i := 12) (oi := { dst := some 17, op := Go.Op.move (Go.Operand.tmp 1), type := 23, pos := "law.go:19", after := #[{ on := 8, ground := Go.Ground.guard }], guard := some (8, true) }) (v := ?_) rfl (by kernel_rfl) (by kernel_rfl) (by kernel_rfl) (fun _ _ _ h => h) (Or.inl ⟨by rfl, ?_⟩) hH4 ?_
  rotate_left
  · (intro wz hSz; (try dsimp only at hSz); go_simp; try with_reducible rfl)
  simp only [Act.put, List.setIfInBounds_toArray, List.set_cons_zero, List.set_cons_succ]
  refine wpAnyH_ready (rs := [10]) (by kernel_rfl) (by simp) ?_
  refine AllReadyH.cons (o := { dst := some 15, op := Go.Op.call { callee := Go.Callee.value (Go.Operand.func 19), args := #[Go.Operand.tmp 14], argTypes := #[23] }, type := 22, pos := "law.go:19", after := #[{ on := 9, ground := Go.Ground.data }, { on := 8, ground := Go.Ground.chain }, { on := 8, ground := Go.Ground.guard }], guard := some (8, true) }) rfl (fun K hK => ?_) AllReadyH.nil
  go_simp
  with_reducible refine (JY.call _ _ _ (H1.out.below hH4.b)).mono ?_
  rintro r wq5 ⟨A4, cap4, rfl, hc4, H4, hbq⟩
  go_wp2_with fail
  refine hK.out _ _ (Keeps.trans hH4 hbq) (fun hJ => ?_)
  refine wpAnyH_more (S' := Keeps wq5) (fun z hz => Keeps.trans hJ hz) _ _ _ _ ?_
  replace HB := Lib.hid (HB.out.trans (Below.mono hJ HB.out.size))
  replace HT := Lib.hid (HT.out.later hJ)
  replace H0 := Lib.hid (H0.out.below hJ)
  replace H1 := Lib.hid (H1.out.below hJ)
  replace H2 := Lib.hid (H2.out.below hJ)
  replace H3 := Lib.hid (H3.out.below hJ)
  replace H4 := Lib.hid H4
  have hH5 : Keeps wq5 wq5 := Below.refl _ _
  clear hK K hbq hH4 hJ
  refine wpAnyH_take (i := 11) (oi := { dst := some 16, op := Go.Op.convert 22 9 (Go.Operand.tmp 15), type := 9, pos := "law.go:19", after := #[{ on := 10, ground := Go.Ground.data }, { on := 8, ground := Go.Ground.guard }], guard := some (8, true) }) (v := ?_) rfl (by kernel_rfl) (by kernel_rfl) (by kernel_rfl) (fun _ _ _ h => h) (Or.inl ⟨by rfl, ?_⟩) hH5 ?_
  rotate_left
  · (intro wz hSz; have hcz := conv_in cap4 (H4.out.below hSz); go_simp; try with_reducible rfl)
  simp only [Act.put, List.setIfInBounds_toArray, List.set_cons_zero, List.set_cons_succ]
  refine wpAnyH_ready (rs := [13]) (by kernel_rfl) (by simp) ?_
  refine AllReadyH.cons (o := { dst := some 18, op := Go.Op.call { callee := Go.Callee.value (Go.Operand.func 20), args := #[Go.Operand.tmp 17], argTypes := #[23] }, type := 22, pos := "law.go:19", after := #[{ on := 12, ground := Go.Ground.data }, { on := 10, ground := Go.Ground.chain }, { on := 8, ground := Go.Ground.guard }], guard := some (8, true) }) rfl (fun K hK => ?_) AllReadyH.nil
  go_simp
  with_reducible refine (RJ.call _ _ _ (H1.out.below hH5.b)).mono ?_
  rintro r wq6 ⟨A5, cap5, rfl, hc5, H5, hbq⟩
  go_wp2_with fail
  refine hK.out _ _ (Keeps.trans hH5 hbq) (fun hJ => ?_)
  refine wpAnyH_more (S' := Keeps wq6) (fun z hz => Keeps.trans hJ hz) _ _ _ _ ?_
  replace HB := Lib.hid (HB.out.trans (Below.mono hJ HB.out.size))
  replace HT := Lib.hid (HT.out.later hJ)
  replace H0 := Lib.hid (H0.out.below hJ)
  replace H1 := Lib.hid (H1.out.below hJ)
  replace H2 := Lib.hid (H2.out.below hJ)
  replace H3 := Lib.hid (H3.out.below hJ)
  replace H4 := Lib.hid (H4.out.below hJ)
  replace H5 := Lib.hid H5
  have hH6 : Keeps wq6 wq6 := Below.refl _ _
  clear hK K hbq hH5 hJ
  refine wpAnyH_take (i := 14) (oi := { dst := some 19, op := Go.Op.convert 22 9 (Go.Operand.tmp 18), type := 9, pos := "law.go:19", after := #[{ on := 13, ground := Go.Ground.data }, { on := 8, ground := Go.Ground.guard }], guard := some (8, true) }) (v := ?_) rfl (by kernel_rfl) (by kernel_rfl) (by kernel_rfl) (fun _ _ _ h => h) (Or.inl ⟨by rfl, ?_⟩) hH6 ?_
  rotate_left
  · (intro wz hSz; have hcz := conv_in cap5 (H5.out.below hSz); go_simp; try with_reducible rfl)
  simp only [Act.put, List.setIfInBounds_toArray, List.set_cons_zero, List.set_cons_succ]
  refine wpAnyH_take (i := 15) (oi := { dst := some 20, op := Go.Op.binOp Go.BinOp.eql 9 (Go.Operand.tmp 16) (Go.Operand.tmp 19) 9, type := 4, pos := "law.go:19", after := #[{ on := 11, ground := Go.Ground.data }, { on := 14, ground := Go.Ground.data }, { on := 8, ground := Go.Ground.guard }], guard := some (8, true) }) (v := ?_) rfl (by kernel_rfl) (by kernel_rfl) (by kernel_rfl) (fun _ _ _ h => h) (Or.inl ⟨by rfl, ?_⟩) hH6 ?_
  rotate_left
  · (intro wz hSz; (try dsimp only at hSz); go_simp; try with_reducible rfl)
  simp only [Act.put, List.setIfInBounds_toArray, List.set_cons_zero, List.set_cons_succ]
  refine wpAnyH_take (i := 16) (oi := { dst := some 21, op := Go.Op.pick (Go.Operand.tmp 13) (Go.Operand.tmp 20) (Go.Operand.const (Go.Value.bool false)), type := 4, pos := "law.go:19", after := #[{ on := 8, ground := Go.Ground.data }, { on := 15, ground := Go.Ground.data }], guard := none }) (v := ?_) rfl (by kernel_rfl) (by kernel_rfl) (by kernel_rfl) (fun _ _ _ h => h) (Or.inl ⟨by rfl, ?_⟩) hH6 ?_
  rotate_left
  · (intro wz hSz; (try dsimp only at hSz); go_simp; try with_reducible rfl)
  simp only [Act.put, List.setIfInBounds_toArray, List.set_cons_zero, List.set_cons_succ]
  refine wpAnyH_take (i := 17) (oi := { dst := some 22, op := Go.Op.move (Go.Operand.tmp 21), type := 4, pos := "law.go:19", after := #[{ on := 16, ground := Go.Ground.data }, { on := 13, ground := Go.Ground.chain }], guard := none }) (v := ?_) rfl (by kernel_rfl) (by kernel_rfl) (by kernel_rfl) (fun _ _ _ h => h) (Or.inl ⟨by rfl, ?_⟩) hH6 ?_
  rotate_left
  · (intro wz hSz; (try dsimp only at hSz); go_simp; try with_reducible rfl)
  simp only [Act.put, List.setIfInBounds_toArray, List.set_cons_zero, List.set_cons_succ]
  refine wpAnyH_take (i := 18) (oi := { dst := some 23, op := Go.Op.move (Go.Operand.tmp 1), type := 23, pos := "law.go:19", after := #[{ on := 17, ground := Go.Ground.guard }], guard := some (17, true) }) (v := ?_) rfl (by kernel_rfl) (by kernel_rfl) (by kernel_rfl) (fun _ _ _ h => h) (Or.inl ⟨by rfl, ?_⟩) hH6 ?_
  rotate_left
  · (intro wz hSz; (try dsimp only at hSz); go_simp; try with_reducible rfl)
  simp only [Act.put, List.setIfInBounds_toArray, List.set_cons_zero, List.set_cons_succ]
  refine wpAnyH_take (i := 20) (oi := { dst := some 25, op := Go.Op.move (Go.Operand.tmp 1), type := 23, pos := "law.go:19", after := #[{ on := 17, ground := Go.Ground.guard }], guard := some (17, true) }) (v := ?_) rfl (by kernel_rfl) (by kernel_rfl) (by kernel_rfl) (fun _ _ _ h => h) (Or.inl ⟨by rfl, ?_⟩) hH6 ?_
  rotate_left
  · (intro wz hSz; (try dsimp only at hSz); go_simp; try with_reducible rfl)
  simp only [Act.put, List.setIfInBounds_toArray, List.set_cons_zero, List.set_cons_succ]
  refine wpAnyH_ready (rs := [19]) (by kernel_rfl) (by simp) ?_
  refine AllReadyH.cons (o := { dst := some 24, op := Go.Op.call { callee := Go.Callee.value (Go.Operand.func 21), args := #[Go.Operand.tmp 23], argTypes := #[23] }, type := 4, pos := "law.go:19", after := #[{ on := 18, ground := Go.Ground.data }, { on := 17, ground := Go.Ground.chain }, { on := 17, ground := Go.Ground.guard }], guard := some (17, true) }) rfl (fun K hK => ?_) AllReadyH.nil
  go_simp
  with_reducible refine (RY.call _ _ _ (H1.out.below hH6.b)).mono ?_
  rintro r wq7 ⟨rfl, hbq⟩
  go_wp2_with fail
  refine hK.out _ _ (Keeps.trans hH6 hbq) (fun hJ => ?_)
  refine wpAnyH_more (S' := Keeps wq7) (fun z hz => Keeps.trans hJ hz) _ _ _ _ ?_
  replace HB := Lib.hid (HB.out.trans (Below.mono hJ HB.out.size))
  replace HT := Lib.hid (HT.out.later hJ)
  replace H0 := Lib.hid (H0.out.below hJ)
  replace H1 := Lib.hid (H1.out.below hJ)
  replace H2 := Lib.hid (H2.out.below hJ)
  replace H3 := Lib.hid (H3.out.below hJ)
  replace H4 := Lib.hid (H4.out.below hJ)
  replace H5 := Lib.hid (H5.out.below hJ)
  have hH7 : Keeps wq7 wq7 := Below.refl _ _
  clear hK K hbq hH6 hJ
  refine wpAnyH_ready (rs := [21]) (by kernel_rfl) (by simp) ?_
  refine AllReadyH.cons (o := { dst := some 26, op := Go.Op.call { callee := Go.Callee.value (Go.Operand.func 22), args := #[Go.Operand.tmp 25], argTypes := #[23] }, type := 4, pos := "law.go:19", after := #[{ on := 20, ground := Go.Ground.data }, { on := 19, ground := Go.Ground.chain }, { on := 17, ground := Go.Ground.guard }], guard := some (17, true) }) rfl (fun K hK => ?_) AllReadyH.nil
  go_simp
  with_reducible refine (RR.call _ _ _ (H1.out.below hH7.b)).mono ?_
  rintro r wq8 ⟨rfl, hbq⟩
  go_wp2_with fail
  refine hK.out _ _ (Keeps.trans hH7 hbq) (fun hJ => ?_)
  refine wpAnyH_more (S' := Keeps wq8) (fun z hz => Keeps.trans hJ hz) _ _ _ _ ?_
  replace HB := Lib.hid (HB.out.trans (Below.mono hJ HB.out.size))
  replace HT := Lib.hid (HT.out.later hJ)
  replace H0 := Lib.hid (H0.out.below hJ)
  replace H1 := Lib.hid (H1.out.below hJ)
  replace H2 := Lib.hid (H2.out.below hJ)
  replace H3 := Lib.hid (H3.out.below hJ)
  replace H4 := Lib.hid (H4.out.below hJ)
  replace H5 := Lib.hid (H5.out.below hJ)
  have hH8 : Keeps wq8 wq8 := Below.refl _ _
  clear hK K hbq hH7 hJ
  refine wpAnyH_take (i := 22) (oi := { dst := some 27, op := Go.Op.binOp Go.BinOp.eql 4 (Go.Operand.tmp 24) (Go.Operand.tmp 26) 4, type := 4, pos := "law.go:19", after := #[{ on := 19, ground := Go.Ground.data }, { on := 21, ground := Go.Ground.data }, { on := 17, ground := Go.Ground.guard }], guard := some (17, true) }) (v := ?_) rfl (by kernel_rfl) (by kernel_rfl) (by kernel_rfl) (fun _ _ _ h => h) (Or.inl ⟨by rfl, ?_⟩) hH8 ?_
  rotate_left
  · (intro wz hSz; (try dsimp only at hSz); go_simp; try with_reducible rfl)
  simp only [Act.put, List.setIfInBounds_toArray, List.set_cons_zero, List.set_cons_succ]
  refine wpAnyH_take (i := 23) (oi := { dst := some 28, op := Go.Op.pick (Go.Operand.tmp 22) (Go.Operand.tmp 27) (Go.Operand.const (Go.Value.bool false)), type := 4, pos := "law.go:19", after := #[{ on := 17, ground := Go.Ground.data }, { on := 22, ground := Go.Ground.data }], guard := none }) (v := ?_) rfl (by kernel_rfl) (by kernel_rfl) (by kernel_rfl) (fun _ _ _ h => h) (Or.inl ⟨by rfl, ?_⟩) hH8 ?_
  rotate_left
  · (intro wz hSz; (try dsimp only at hSz); go_simp; try with_reducible rfl)
  simp only [Act.put, List.setIfInBounds_toArray, List.set_cons_zero, List.set_cons_succ]
  refine wpAnyH_take (i := 24) (oi := { dst := some 4, op := Go.Op.assign (Go.Operand.tmp 28), type := 4, pos := "law.go:19", after := #[{ on := 23, ground := Go.Ground.data }, { on := 21, ground := Go.Ground.chain }, { on := 0, ground := Go.Ground.phase }, { on := 1, ground := Go.Ground.phase }, { on := 2, ground := Go.Ground.phase }, { on := 3, ground := Go.Ground.phase }, { on := 4, ground := Go.Ground.phase }, { on := 5, ground := Go.Ground.phase }, { on := 6, ground := Go.Ground.phase }, { on := 7, ground := Go.Ground.phase }, { on := 8, ground := Go.Ground.phase }, { on := 9, ground := Go.Ground.phase }, { on := 10, ground := Go.Ground.phase }, { on := 11, ground := Go.Ground.phase }, { on := 12, ground := Go.Ground.phase }, { on := 13, ground := Go.Ground.phase }, { on := 14, ground := Go.Ground.phase }, { on := 15, ground := Go.Ground.phase }, { on := 16, ground := Go.Ground.phase }, { on := 17, ground := Go.Ground.phase }, { on := 18, ground := Go.Ground.phase }, { on := 19, ground := Go.Ground.phase }, { on := 20, ground := Go.Ground.phase }, { on := 21, ground := Go.Ground.phase }, { on := 22, ground := Go.Ground.phase }, { on := 23, ground := Go.Ground.phase }], guard := none }) (v := ?_) rfl (by kernel_rfl) (by kernel_rfl) (by kernel_rfl) (fun _ _ _ h => h) (Or.inl ⟨by rfl, ?_⟩) hH8 ?_
  rotate_left
  · (intro wz hSz; (try dsimp only at hSz); go_simp; try with_reducible rfl)
  simp only [Act.put, List.setIfInBounds_toArray, List.set_cons_zero, List.set_cons_succ]
  refine wpAnyH_done (by kernel_rfl) ?_ _
  go_wp2_with fail
  go_ret
  exact ⟨rfl, HB.out⟩
theorem tlines_walk (A0 : Option Addr) (cap0 : Nat) (l : List UInt8) (A1 : Option Addr) (cap1 : Nat) (ys : List (List UInt8 × Bool)) (w : World) (hc : l.length ≤ cap0) (h0 : BytesIn w A0 l) (h1 : LinesIn w A1 ys) (hl : l.length ≤ 1048576) (hy : P.bulk ys ≤ 1048576) (ht : Tab w) :
    Calls Tryd.prog 3 #[.slice A0 l.length cap0, .slice A1 ys.length cap1] w fun e w' => e = .returned (.bool true) ∧ Below w.heap.size w w' := by
  have hbx : P.bulk (P.lines [] l) ≤ 4194304 := by have := P.lines_bulk l []; simp at this; omega
  exact tlines_law A0 A1 cap0 cap1 l _ _ ys _ w (Lib.hid ht) (Lib.hid h0) hc (Lib.hid h1) (linesOf l (by omega)) (rlinesOf l (by omega)) (sameOf _ (by have := P.length_bulk (P.lines [] l); omega)) (joinOf ys (by omega)) (rjoinOf ys (by omega)) (rightOf ys (by omega)) (rrightOf ys (by omega))
end Go.Proofs.YtbilhdfoajahkaaDoor.T
