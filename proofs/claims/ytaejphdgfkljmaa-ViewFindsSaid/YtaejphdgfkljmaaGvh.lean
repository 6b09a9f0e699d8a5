/-
  The law ViewBlind, walked over what the code's functions come to.
  The contracts of the reference's pick, Join and Meet for labels.
  The contracts of the reference's Join and Meet for labels.
  The law ViewMore, walked over what the code's functions come to.
-/
import Derived.Test.YtaejphdgfkljmaaGvd
import Derived.Deep.DeepCutAuto
import Derived.Deep.RegionHeld3
import Derived.Test.YtaejphdgfkljmaaGvb
namespace Go.Proofs.Ytaejphdgfkljmaa.V
set_option linter.unusedVariables false
set_option linter.unusedSimpArgs false
open Go.RowKit
open T
open I (It Lb ItemsIn ItemsAt ItemsOk itCells itCells_snoc itCells_at items_cells items_own own_at own_below infoItem alloc1)

set_option maxRecDepth 100000 in
set_option maxHeartbeats 8000000 in
theorem vblind_law {A B : Option Addr} {n cap m cap' : Nat} {l lm c cm : List It} {f0 : Int} {f1 : Nat} {hx : ByteArray} {ls : List (List UInt8 × Bool)} {ts tc : List Int} {same : Bool} {w : World} (hlt : ts.length = ls.length) (HU : Hid (ItemsIn w A l)) (HM : Hid (ItemsIn w B lm))
    (VO : Hid (VoC 14 A n cap f0 f1 hx l ls ts)) (CU : Hid (CuC 24 A n cap f0 f1 l c)) (VC : Hid (∀ (A : Option Addr) (cap : Nat), VoC 14 A c.length cap f0 f1 hx c ls tc)) (SL : Hid (SlC ls))
    (RC : Hid (CuC 25 A n cap f0 f1 l c)) (RD : Hid (CuC 25 B m cap' f0 f1 lm cm)) (SG : Hid (SgC 23 c cm same)) (VM : Hid (same = true → ∃ tm, VoC 14 B m cap' f0 f1 hx lm ls tm)) (LV : Hid (LvC 16)) :
    Calls Try.prog 5 #[.slice A n cap, .slice B m cap', .agg #[.int .i64 f0, .int .u64 (f1 : Int)], .string hx] w fun e w' => e = .returned (.bool true) ∧ Below w.heap.size w w' := by
  have HLT := Lib.hid hlt
  clear hlt
  obtain ⟨W0, hW0⟩ : ∃ W0 : World, W0 = w.alloc (.cells #[.int .i64 f0, .int .u64 (f1 : Int)] 25) := ⟨_, rfl⟩
  have HB := Lib.hid (show Below w.heap.size w W0 by rw [hW0]; exact alloc1 _ _)
  have HP := Lib.hid (show W0.heap[w.heap.size]? = some (.cells #[.int .i64 f0, .int .u64 (f1 : Int)] 25 (0, 0)) by rw [hW0]; exact heap_alloc_new w _)
  obtain ⟨x0, x1⟩ := lab_cells HP.out
  rw [hW0] at x0 x1
  go_enter Try.func5, Try.ntmps5
  go_wp2_with fail
  rw [← hW0]
  clear hW0 x0 x1
  replace HU := Lib.hid (HU.out.below HB.out)
  replace HM := Lib.hid (HM.out.below HB.out)
  with_reducible refine (VO.out.at W0 HU.out).mono ?_
  rintro e w1' ⟨L1, lc1, T1, tc1, rfl, hl1, ht1, hb1⟩
  obtain ⟨W1, hW1⟩ : ∃ W : World, W = w1'.alloc (.cells #[.slice L1 ls.length lc1, .slice T1 ts.length tc1] 29) := ⟨_, rfl⟩
  have ha1 : Below w1'.heap.size w1' W1 := by rw [hW1]; exact alloc1 _ _
  have hb1' : Below W0.heap.size W0 W1 := hb1.trans (ha1.mono hb1.size)
  have HP1 := Lib.hid (show W1.heap[w1'.heap.size]? = some (.cells #[.slice L1 ls.length lc1, .slice T1 ts.length tc1] 29 (0, 0)) by rw [hW1]; exact heap_alloc_new w1' _)
  have HL1 := Lib.hid ((lines_own hl1).below ha1)
  replace HU := Lib.hid (HU.out.below hb1')
  replace HM := Lib.hid (HM.out.below hb1')
  replace HB := Lib.hid (HB.out.trans (Below.mono hb1' HB.out.size))
  replace HP := Lib.hid ((Below.block hb1' _ (L.blk_lt HP.out)).trans HP.out)
  clear hb1 hb1' ha1 hl1 ht1 VO
  go_upto_region 2 with fail
  rw [← hW1]
  obtain ⟨v1, hv1⟩ : ∃ v, v = w1'.heap.size := ⟨_, rfl⟩
  rw [← hv1]
  rw [← hv1] at HP1
  clear hW1 hv1
  generalize W1 = w1 at *
  go_cut [10] (fun p wx => ∃ (g : Nat) (LB : Option Addr) (lcb : Nat) (TB : Option Addr) (tcb : Nat), p = .pointer (some ⟨g, 0, none⟩) ∧ Hid (wx.heap[g]? = some (.cells #[.slice LB ls.length lcb, .slice TB tc.length tcb] 29 (0, 0))) ∧ Hid (LinesIn wx LB ls) ∧ Hid (Below w1.heap.size w1 wx))
  case first =>
    go_wp2_with fail
    refine wp_region_held_drew (S := (Keeps w1)) (by kernel_rfl) (keeps_drew _) (fun hK0 => ?_)
    refine wpAnyH_take (i := 0) (oi := { dst := some 15, op := Go.Op.move (Go.Operand.tmp 0), type := 22, pos := "law.go:68", after := #[], guard := none }) (v := ?_) rfl (by kernel_rfl) (by kernel_rfl) (by kernel_rfl) (fun _ _ _ h => h) (Or.inl ⟨by rfl, ?_⟩) hK0 ?_
    rotate_left
    · (intro wz hSz; (try dsimp only at hSz); go_simp; try with_reducible rfl)
    simp only [Act.put, List.setIfInBounds_toArray, List.set_cons_zero, List.set_cons_succ]
    refine wpAnyH_take (i := 1) (oi := { dst := some 16, op := Go.Op.load 25 (Go.Operand.tmp 6), type := 25, pos := "law.go:68", after := #[], guard := none }) (v := ?_) rfl (by kernel_rfl) (by kernel_rfl) (by kernel_rfl) (fun _ _ _ h => h) (Or.inl ⟨by rfl, ?_⟩) hK0 ?_
    rotate_left
    · (intro wz hSz; have hcz := True.intro; obtain ⟨c0, c1⟩ := lab_cells ((Below.block hSz _ (L.blk_lt HP.out)).trans HP.out); go_simp; try with_reducible rfl)
    simp only [Act.put, List.setIfInBounds_toArray, List.set_cons_zero, List.set_cons_succ]
    refine wpAnyH_take (i := 3) (oi := { dst := some 18, op := Go.Op.load 25 (Go.Operand.tmp 6), type := 25, pos := "law.go:68", after := #[], guard := none }) (v := ?_) rfl (by kernel_rfl) (by kernel_rfl) (by kernel_rfl) (fun _ _ _ h => h) (Or.inl ⟨by rfl, ?_⟩) hK0 ?_
    rotate_left
    · (intro wz hSz; have hcz := True.intro; obtain ⟨c0, c1⟩ := lab_cells ((Below.block hSz _ (L.blk_lt HP.out)).trans HP.out); go_simp; try with_reducible rfl)
    simp only [Act.put, List.setIfInBounds_toArray, List.set_cons_zero, List.set_cons_succ]
    refine wpAnyH_take (i := 4) (oi := { dst := some 19, op := Go.Op.move (Go.Operand.tmp 3), type := 9, pos := "law.go:68", after := #[], guard := none }) (v := ?_) rfl (by kernel_rfl) (by kernel_rfl) (by kernel_rfl) (fun _ _ _ h => h) (Or.inl ⟨by rfl, ?_⟩) hK0 ?_
    rotate_left
    · (intro wz hSz; (try dsimp only at hSz); go_simp; try with_reducible rfl)
    simp only [Act.put, List.setIfInBounds_toArray, List.set_cons_zero, List.set_cons_succ]
    refine wpAnyH_ready (rs := [2, 6]) (by kernel_rfl) (by simp) ?_
    refine AllReadyH.cons (o := { dst := some 17, op := Go.Op.call { callee := Go.Callee.value (Go.Operand.func 24), args := #[Go.Operand.tmp 15, Go.Operand.tmp 16], argTypes := #[22, 25] }, type := 22, pos := "law.go:68", after := #[{ on := 0, ground := Go.Ground.data }, { on := 1, ground := Go.Ground.data }], guard := none }) rfl (fun K hK => ?_) (AllReadyH.cons (o := { dst := some 10, op := Go.Op.alloc 29, type := 0, pos := "law.go:68", after := #[], guard := none }) rfl (fun K hK => ?_) AllReadyH.nil)
    · skip
      go_simp
      with_reducible refine (CU.out.at _ (HU.out.below hK0.b)).mono ?_
      rintro r wq1 ⟨A3, cap3, rfl, H3, hbq⟩
      go_wp2_with fail
      have hS := Keeps.trans hK0 hbq
      replace H3 := Lib.hid H3
      clear hbq
      refine hK.out _ _ hS (fun hK1 => ?_)
      clear hK K hS hK0
      refine wpAnyH_ready (rs := [5, 6]) (by kernel_rfl) (by simp) ?_
      refine AllReadyH.cons (o := { dst := some 20, op := Go.Op.call { callee := Go.Callee.value (Go.Operand.func 14), args := #[Go.Operand.tmp 17, Go.Operand.tmp 18, Go.Operand.tmp 19], argTypes := #[22, 25, 9] }, type := 29, pos := "law.go:68", after := #[{ on := 2, ground := Go.Ground.data }, { on := 3, ground := Go.Ground.data }, { on := 4, ground := Go.Ground.data }, { on := 2, ground := Go.Ground.chain }], guard := none }) rfl (fun K hK => ?_) (AllReadyH.cons (o := { dst := some 10, op := Go.Op.alloc 29, type := 0, pos := "law.go:68", after := #[], guard := none }) rfl (fun K hK => ?_) AllReadyH.nil)
      · skip
        go_simp
        with_reducible refine ((VC.out A3 cap3).at _ H3.out).mono ?_
        rintro r wq2 ⟨LB, lcb, TB, tcb, rfl, HOL, -, hbq⟩
        go_wp2_with fail
        have hS := Keeps.trans hK1 hbq
        replace H3 := Lib.hid (H3.out.below hbq)
        replace HOL := Lib.hid HOL
        clear hbq
        refine hK.out _ _ hS (fun hK2 => ?_)
        clear hK K hS hK1
        refine wpAnyH_ready (rs := [6]) (by kernel_rfl) (by simp) ?_
        refine AllReadyH.cons (o := { dst := some 10, op := Go.Op.alloc 29, type := 0, pos := "law.go:68", after := #[], guard := none }) rfl (fun K hK => ?_) AllReadyH.nil
        go_simp
        obtain ⟨wq3, hwq⟩ : ∃ W : World, W = (wq2.alloc (.cells #[.slice none 0 0, .slice none 0 0] 29)) := ⟨_, rfl⟩
        rw [← hwq]
        have hbq : Below wq2.heap.size wq2 wq3 := by rw [hwq]; exact (alloc1 _ _)
        have hg : wq3.heap[wq2.heap.size]? = some (.cells #[.slice none 0 0, .slice none 0 0] 29 (0, 0)) := by rw [hwq]; exact heap_alloc_new wq2 _
        have hS : Keeps w1 wq3 := Keeps.trans hK2 hbq
        obtain ⟨g, hgn⟩ : ∃ g, g = wq2.heap.size := ⟨_, rfl⟩
        have HGE := Lib.hid (show w1.heap.size ≤ g by rw [hgn]; exact hK2.b.size)
        rw [← hgn] at hg ⊢
        replace H3 := Lib.hid (H3.out.below hbq)
        replace HOL := Lib.hid (own_below HOL.out hbq)
        have HG := Lib.hid hg
        clear hbq hg hgn hwq
        refine hK.out _ _ hS (fun hK3 => ?_)
        clear hK K hS hK2
        refine wpAnyH_ready (rs := [7]) (by kernel_rfl) (by simp) ?_
        refine AllReadyH.cons (o := { dst := none, op := Go.Op.store 29 (Go.Operand.tmp 10) (Go.Operand.tmp 20), type := 0, pos := "law.go:68", after := #[{ on := 6, ground := Go.Ground.data }, { on := 5, ground := Go.Ground.data }, { on := 5, ground := Go.Ground.chain }, { on := 0, ground := Go.Ground.phase }, { on := 1, ground := Go.Ground.phase }, { on := 2, ground := Go.Ground.phase }, { on := 3, ground := Go.Ground.phase }, { on := 4, ground := Go.Ground.phase }, { on := 5, ground := Go.Ground.phase }, { on := 6, ground := Go.Ground.phase }], guard := none }) rfl (fun K hK => ?_) AllReadyH.nil
        have q0 := L.blk_cell HG.out 0
        have q1 := L.blk_cell HG.out 1
        have q2 := L.blk_free HG.out 0
        have q3 := L.blk_free HG.out 1
        go_simp
        obtain ⟨wq4, hwq⟩ : ∃ W : World, W = (wq3.setCell ⟨g, 0, none⟩ (.slice LB ls.length lcb)).setCell ⟨g, 1, none⟩ (.slice TB tc.length tcb) := ⟨_, rfl⟩
        rw [← hwq]
        have hS : Keeps w1 wq4 := by rw [hwq]; exact (Below.setCell hK3 (p := ⟨g, 0, none⟩) HGE.out _).setCell (p := ⟨g, 1, none⟩) HGE.out _
        have HGF := Lib.hid (show wq4.heap[g]? = some (.cells #[.slice LB ls.length lcb, .slice TB tc.length tcb] 29 (0, 0)) by rw [hwq]; exact L.blk_set (L.blk_set HG.out 0 _) 1 _)
        have HLF := Lib.hid (show LinesIn wq4 LB ls by rw [hwq]; exact lines_own (own_stored (own_stored HOL.out HG.out (by decide)) (L.blk_set HG.out 0 _) (by decide)))
        clear q0 q1 q2 q3 HG HOL hwq
        refine hK.out _ _ hS (fun hK4 => ?_)
        clear hK K hS hK3
        refine wpAnyH_done (by kernel_rfl) ?_ _
        go_wp2_with fail
        go_meet
        case rel => exact ⟨g, LB, lcb, TB, tcb, rfl, HGF, HLF, Lib.hid hK4⟩
      · skip
        go_simp
        obtain ⟨wq2, hwq⟩ : ∃ W : World, W = (wq1.alloc (.cells #[.slice none 0 0, .slice none 0 0] 29)) := ⟨_, rfl⟩
        rw [← hwq]
        have hbq : Below wq1.heap.size wq1 wq2 := by rw [hwq]; exact (alloc1 _ _)
        have hg : wq2.heap[wq1.heap.size]? = some (.cells #[.slice none 0 0, .slice none 0 0] 29 (0, 0)) := by rw [hwq]; exact heap_alloc_new wq1 _
        have hS : Keeps w1 wq2 := Keeps.trans hK1 hbq
        obtain ⟨g, hgn⟩ : ∃ g, g = wq1.heap.size := ⟨_, rfl⟩
        have HGE := Lib.hid (show w1.heap.size ≤ g by rw [hgn]; exact hK1.b.size)
        rw [← hgn] at hg ⊢
        replace H3 := Lib.hid (H3.out.below hbq)
        have HG := Lib.hid hg
        clear hbq hg hgn hwq
        refine hK.out _ _ hS (fun hK2 => ?_)
        clear hK K hS hK1
        refine wpAnyH_ready (rs := [5]) (by kernel_rfl) (by simp) ?_
        refine AllReadyH.cons (o := { dst := some 20, op := Go.Op.call { callee := Go.Callee.value (Go.Operand.func 14), args := #[Go.Operand.tmp 17, Go.Operand.tmp 18, Go.Operand.tmp 19], argTypes := #[22, 25, 9] }, type := 29, pos := "law.go:68", after := #[{ on := 2, ground := Go.Ground.data }, { on := 3, ground := Go.Ground.data }, { on := 4, ground := Go.Ground.data }, { on := 2, ground := Go.Ground.chain }], guard := none }) rfl (fun K hK => ?_) AllReadyH.nil
        go_simp
        with_reducible refine ((VC.out A3 cap3).at _ H3.out).mono ?_
        rintro r wq3 ⟨LB, lcb, TB, tcb, rfl, HOL, -, hbq⟩
        go_wp2_with fail
        have hS := Keeps.trans hK2 hbq
        replace H3 := Lib.hid (H3.out.below hbq)
        replace HG := Lib.hid ((Below.block hbq _ (L.blk_lt HG.out)).trans HG.out)
        replace HOL := Lib.hid HOL
        clear hbq
        refine hK.out _ _ hS (fun hK3 => ?_)
        clear hK K hS hK2
        refine wpAnyH_ready (rs := [7]) (by kernel_rfl) (by simp) ?_
        refine AllReadyH.cons (o := { dst := none, op := Go.Op.store 29 (Go.Operand.tmp 10) (Go.Operand.tmp 20), type := 0, pos := "law.go:68", after := #[{ on := 6, ground := Go.Ground.data }, { on := 5, ground := Go.Ground.data }, { on := 5, ground := Go.Ground.chain }, { on := 0, ground := Go.Ground.phase }, { on := 1, ground := Go.Ground.phase }, { on := 2, ground := Go.Ground.phase }, { on := 3, ground := Go.Ground.phase }, { on := 4, ground := Go.Ground.phase }, { on := 5, ground := Go.Ground.phase }, { on := 6, ground := Go.Ground.phase }], guard := none }) rfl (fun K hK => ?_) AllReadyH.nil
        have q0 := L.blk_cell HG.out 0
        have q1 := L.blk_cell HG.out 1
        have q2 := L.blk_free HG.out 0
        have q3 := L.blk_free HG.out 1
        go_simp
        obtain ⟨wq4, hwq⟩ : ∃ W : World, W = (wq3.setCell ⟨g, 0, none⟩ (.slice LB ls.length lcb)).setCell ⟨g, 1, none⟩ (.slice TB tc.length tcb) := ⟨_, rfl⟩
        rw [← hwq]
        have hS : Keeps w1 wq4 := by rw [hwq]; exact (Below.setCell hK3 (p := ⟨g, 0, none⟩) HGE.out _).setCell (p := ⟨g, 1, none⟩) HGE.out _
        have HGF := Lib.hid (show wq4.heap[g]? = some (.cells #[.slice LB ls.length lcb, .slice TB tc.length tcb] 29 (0, 0)) by rw [hwq]; exact L.blk_set (L.blk_set HG.out 0 _) 1 _)
        have HLF := Lib.hid (show LinesIn wq4 LB ls by rw [hwq]; exact lines_own (own_stored (own_stored HOL.out HG.out (by decide)) (L.blk_set HG.out 0 _) (by decide)))
        clear q0 q1 q2 q3 HG HOL hwq
        refine hK.out _ _ hS (fun hK4 => ?_)
        clear hK K hS hK3
        refine wpAnyH_done (by kernel_rfl) ?_ _
        go_wp2_with fail
        go_meet
        case rel => exact ⟨g, LB, lcb, TB, tcb, rfl, HGF, HLF, Lib.hid hK4⟩
    · skip
      go_simp
      obtain ⟨wq1, hwq⟩ : ∃ W : World, W = (w1.alloc (.cells #[.slice none 0 0, .slice none 0 0] 29)).drew := ⟨_, rfl⟩
      rw [← hwq]
      have hbq : Below w1.heap.size w1 wq1 := by rw [hwq]; exact (alloc1 _ _).drew
      have hg : wq1.heap[w1.heap.size]? = some (.cells #[.slice none 0 0, .slice none 0 0] 29 (0, 0)) := by rw [hwq]; exact heap_alloc_new w1 _
      have hS : Keeps w1 wq1 := hbq
      obtain ⟨g, hgn⟩ : ∃ g, g = w1.heap.size := ⟨_, rfl⟩
      have HGE := Lib.hid (show w1.heap.size ≤ g by rw [hgn]; exact Nat.le_refl _)
      rw [← hgn] at hg ⊢
      have HG := Lib.hid hg
      clear hbq hg hgn hwq
      refine hK.out _ _ hS (fun hK1 => ?_)
      clear hK K hS hK0
      refine wpAnyH_ready (rs := [2]) (by kernel_rfl) (by simp) ?_
      refine AllReadyH.cons (o := { dst := some 17, op := Go.Op.call { callee := Go.Callee.value (Go.Operand.func 24), args := #[Go.Operand.tmp 15, Go.Operand.tmp 16], argTypes := #[22, 25] }, type := 22, pos := "law.go:68", after := #[{ on := 0, ground := Go.Ground.data }, { on := 1, ground := Go.Ground.data }], guard := none }) rfl (fun K hK => ?_) AllReadyH.nil
      go_simp
      with_reducible refine (CU.out.at _ (HU.out.below hK1.b)).mono ?_
      rintro r wq2 ⟨A3, cap3, rfl, H3, hbq⟩
      go_wp2_with fail
      have hS := Keeps.trans hK1 hbq
      replace HG := Lib.hid ((Below.block hbq _ (L.blk_lt HG.out)).trans HG.out)
      replace H3 := Lib.hid H3
      clear hbq
      refine hK.out _ _ hS (fun hK2 => ?_)
      clear hK K hS hK1
      refine wpAnyH_ready (rs := [5]) (by kernel_rfl) (by simp) ?_
      refine AllReadyH.cons (o := { dst := some 20, op := Go.Op.call { callee := Go.Callee.value (Go.Operand.func 14), args := #[Go.Operand.tmp 17, Go.Operand.tmp 18, Go.Operand.tmp 19], argTypes := #[22, 25, 9] }, type := 29, pos := "law.go:68", after := #[{ on := 2, ground := Go.Ground.data }, { on := 3, ground := Go.Ground.data }, { on := 4, ground := Go.Ground.data }, { on := 2, ground := Go.Ground.chain }], guard := none }) rfl (fun K hK => ?_) AllReadyH.nil
      go_simp
      with_reducible refine ((VC.out A3 cap3).at _ H3.out).mono ?_
      rintro r wq3 ⟨LB, lcb, TB, tcb, rfl, HOL, -, hbq⟩
      go_wp2_with fail
      have hS := Keeps.trans hK2 hbq
      replace HG := Lib.hid ((Below.block hbq _ (L.blk_lt HG.out)).trans HG.out)
      replace H3 := Lib.hid (H3.out.below hbq)
      replace HOL := Lib.hid HOL
      clear hbq
      refine hK.out _ _ hS (fun hK3 => ?_)
      clear hK K hS hK2
      refine wpAnyH_ready (rs := [7]) (by kernel_rfl) (by simp) ?_
      refine AllReadyH.cons (o := { dst := none, op := Go.Op.store 29 (Go.Operand.tmp 10) (Go.Operand.tmp 20), type := 0, pos := "law.go:68", after := #[{ on := 6, ground := Go.Ground.data }, { on := 5, ground := Go.Ground.data }, { on := 5, ground := Go.Ground.chain }, { on := 0, ground := Go.Ground.phase }, { on := 1, ground := Go.Ground.phase }, { on := 2, ground := Go.Ground.phase }, { on := 3, ground := Go.Ground.phase }, { on := 4, ground := Go.Ground.phase }, { on := 5, ground := Go.Ground.phase }, { on := 6, ground := Go.Ground.phase }], guard := none }) rfl (fun K hK => ?_) AllReadyH.nil
      have q0 := L.blk_cell HG.out 0
      have q1 := L.blk_cell HG.out 1
      have q2 := L.blk_free HG.out 0
      have q3 := L.blk_free HG.out 1
      go_simp
      obtain ⟨wq4, hwq⟩ : ∃ W : World, W = (wq3.setCell ⟨g, 0, none⟩ (.slice LB ls.length lcb)).setCell ⟨g, 1, none⟩ (.slice TB tc.length tcb) := ⟨_, rfl⟩
      rw [← hwq]
      have hS : Keeps w1 wq4 := by rw [hwq]; exact (Below.setCell hK3 (p := ⟨g, 0, none⟩) HGE.out _).setCell (p := ⟨g, 1, none⟩) HGE.out _
      have HGF := Lib.hid (show wq4.heap[g]? = some (.cells #[.slice LB ls.length lcb, .slice TB tc.length tcb] 29 (0, 0)) by rw [hwq]; exact L.blk_set (L.blk_set HG.out 0 _) 1 _)
      have HLF := Lib.hid (show LinesIn wq4 LB ls by rw [hwq]; exact lines_own (own_stored (own_stored HOL.out HG.out (by decide)) (L.blk_set HG.out 0 _) (by decide)))
      clear q0 q1 q2 q3 HG HOL hwq
      refine hK.out _ _ hS (fun hK4 => ?_)
      clear hK K hS hK3
      refine wpAnyH_done (by kernel_rfl) ?_ _
      go_wp2_with fail
      go_meet
      case rel => exact ⟨g, LB, lcb, TB, tcb, rfl, HGF, HLF, Lib.hid hK4⟩
  case rest =>
  obtain ⟨g, LB, lcb, TB, tcb, rfl, HG, HLB, HBX⟩ := hcut
  generalize wc = w2 at *
  have hbx := HBX.out
  replace HU := Lib.hid (HU.out.below hbx)
  replace HM := Lib.hid (HM.out.below hbx)
  replace HB := Lib.hid (HB.out.trans (Below.mono hbx HB.out.size))
  replace HP := Lib.hid ((Below.block hbx _ (L.blk_lt HP.out)).trans HP.out)
  replace HL1 := Lib.hid (HL1.out.below hbx)
  replace HP1 := Lib.hid ((Below.block hbx _ (L.blk_lt HP1.out)).trans HP1.out)
  obtain ⟨x0, x1⟩ := view_cells HP1.out
  obtain ⟨y0, y1⟩ := view_cells HG.out
  clear hbx HBX CU VC
  have hlt' : ((ts.length : Int) != (ls.length : Int)) = false := by rw [HLT.out]; simp
  clear HLT
  go_wp2_with fail
  with_reducible refine (SL.out.at w2 HL1.out HLB.out).mono ?_
  rintro e w3 ⟨rfl, hb3⟩
  replace HU := Lib.hid (HU.out.below hb3)
  replace HM := Lib.hid (HM.out.below hb3)
  replace HB := Lib.hid (HB.out.trans (Below.mono hb3 HB.out.size))
  replace HP := Lib.hid ((Below.block hb3 _ (L.blk_lt HP.out)).trans HP.out)
  replace HL1 := Lib.hid (HL1.out.below hb3)
  replace HP1 := Lib.hid ((Below.block hb3 _ (L.blk_lt HP1.out)).trans HP1.out)
  clear hb3 HG HLB x0 x1 y0 y1
  obtain ⟨x0, x1⟩ := view_cells HP1.out
  go_upto_region 5 with fail
  clear x0 x1
  cases same with
  | false =>
    go_wp2_with fail
    refine wp_region_held_drew (S := (Keeps w3)) (by kernel_rfl) (keeps_drew _) (fun hM0 => ?_)
    refine wpAnyH_take (i := 0) (oi := { dst := some 36, op := Go.Op.move (Go.Operand.tmp 0), type := 22, pos := "law.go:72", after := #[], guard := none }) (v := ?_) rfl (by kernel_rfl) (by kernel_rfl) (by kernel_rfl) (fun _ _ _ h => h) (Or.inl ⟨by rfl, ?_⟩) hM0 ?_
    rotate_left
    · (intro wz hSz; (try dsimp only at hSz); go_simp; try with_reducible rfl)
    simp only [Act.put, List.setIfInBounds_toArray, List.set_cons_zero, List.set_cons_succ]
    refine wpAnyH_take (i := 1) (oi := { dst := some 37, op := Go.Op.load 25 (Go.Operand.tmp 6), type := 25, pos := "law.go:72", after := #[], guard := none }) (v := ?_) rfl (by kernel_rfl) (by kernel_rfl) (by kernel_rfl) (fun _ _ _ h => h) (Or.inl ⟨by rfl, ?_⟩) hM0 ?_
    rotate_left
    · (intro wz hSz; have hcz := True.intro; obtain ⟨c0, c1⟩ := lab_cells ((Below.block hSz _ (L.blk_lt HP.out)).trans HP.out); go_simp; try with_reducible rfl)
    simp only [Act.put, List.setIfInBounds_toArray, List.set_cons_zero, List.set_cons_succ]
    refine wpAnyH_take (i := 3) (oi := { dst := some 39, op := Go.Op.move (Go.Operand.tmp 1), type := 22, pos := "law.go:72", after := #[], guard := none }) (v := ?_) rfl (by kernel_rfl) (by kernel_rfl) (by kernel_rfl) (fun _ _ _ h => h) (Or.inl ⟨by rfl, ?_⟩) hM0 ?_
    rotate_left
    · (intro wz hSz; (try dsimp only at hSz); go_simp; try with_reducible rfl)
    simp only [Act.put, List.setIfInBounds_toArray, List.set_cons_zero, List.set_cons_succ]
    refine wpAnyH_take (i := 4) (oi := { dst := some 40, op := Go.Op.load 25 (Go.Operand.tmp 6), type := 25, pos := "law.go:72", after := #[], guard := none }) (v := ?_) rfl (by kernel_rfl) (by kernel_rfl) (by kernel_rfl) (fun _ _ _ h => h) (Or.inl ⟨by rfl, ?_⟩) hM0 ?_
    rotate_left
    · (intro wz hSz; have hcz := True.intro; obtain ⟨c0, c1⟩ := lab_cells ((Below.block hSz _ (L.blk_lt HP.out)).trans HP.out); go_simp; try with_reducible rfl)
    simp only [Act.put, List.setIfInBounds_toArray, List.set_cons_zero, List.set_cons_succ]
    refine wpAnyH_ready (rs := [2]) (by kernel_rfl) (by simp) ?_
    refine AllReadyH.cons (o := { dst := some 38, op := Go.Op.call { callee := Go.Callee.value (Go.Operand.func 25), args := #[Go.Operand.tmp 36, Go.Operand.tmp 37], argTypes := #[22, 25] }, type := 22, pos := "law.go:72", after := #[{ on := 0, ground := Go.Ground.data }, { on := 1, ground := Go.Ground.data }], guard := none }) rfl (fun K hK => ?_) AllReadyH.nil
    go_simp
    with_reducible refine (RC.out.at _ (HU.out.below hM0.b)).mono ?_
    rintro r wq1 ⟨A5, cap5, rfl, H5, hbq⟩
    go_wp2_with fail
    refine hK.out _ _ (Keeps.trans hM0 hbq) (fun hJ => ?_)
    refine wpAnyH_more (S' := Keeps wq1) (fun z hz => Keeps.trans hJ hz) _ _ _ _ ?_
    replace HB := Lib.hid (HB.out.trans (Below.mono hJ HB.out.size))
    replace HU := Lib.hid (HU.out.below hJ)
    replace HM := Lib.hid (HM.out.below hJ)
    replace HL1 := Lib.hid (HL1.out.below hJ)
    replace HP := Lib.hid ((Below.block hJ _ (L.blk_lt HP.out)).trans HP.out)
    replace HP1 := Lib.hid ((Below.block hJ _ (L.blk_lt HP1.out)).trans HP1.out)
    replace H5 := Lib.hid H5
    have hM1 : Keeps wq1 wq1 := Below.refl _ _
    clear hK K hbq hM0 hJ
    refine wpAnyH_ready (rs := [5]) (by kernel_rfl) (by simp) ?_
    refine AllReadyH.cons (o := { dst := some 41, op := Go.Op.call { callee := Go.Callee.value (Go.Operand.func 25), args := #[Go.Operand.tmp 39, Go.Operand.tmp 40], argTypes := #[22, 25] }, type := 22, pos := "law.go:72", after := #[{ on := 3, ground := Go.Ground.data }, { on := 4, ground := Go.Ground.data }, { on := 2, ground := Go.Ground.chain }], guard := none }) rfl (fun K hK => ?_) AllReadyH.nil
    go_simp
    with_reducible refine (RD.out.at _ (HM.out.below hM1.b)).mono ?_
    rintro r wq2 ⟨A6, cap6, rfl, H6, hbq⟩
    go_wp2_with fail
    refine hK.out _ _ (Keeps.trans hM1 hbq) (fun hJ => ?_)
    refine wpAnyH_more (S' := Keeps wq2) (fun z hz => Keeps.trans hJ hz) _ _ _ _ ?_
    replace HB := Lib.hid (HB.out.trans (Below.mono hJ HB.out.size))
    replace HU := Lib.hid (HU.out.below hJ)
    replace HM := Lib.hid (HM.out.below hJ)
    replace HL1 := Lib.hid (HL1.out.below hJ)
    replace HP := Lib.hid ((Below.block hJ _ (L.blk_lt HP.out)).trans HP.out)
    replace HP1 := Lib.hid ((Below.block hJ _ (L.blk_lt HP1.out)).trans HP1.out)
    replace H5 := Lib.hid (H5.out.below hJ)
    replace H6 := Lib.hid H6
    have hM2 : Keeps wq2 wq2 := Below.refl _ _
    clear hK K hbq hM1 hJ
    refine wpAnyH_ready (rs := [6]) (by kernel_rfl) (by simp) ?_
    refine AllReadyH.cons (o := { dst := some 42, op := Go.Op.call { callee := Go.Callee.value (Go.Operand.func 23), args := #[Go.Operand.tmp 38, Go.Operand.tmp 41], argTypes := #[22, 22] }, type := 4, pos := "law.go:72", after := #[{ on := 2, ground := Go.Ground.data }, { on := 5, ground := Go.Ground.data }, { on := 5, ground := Go.Ground.chain }], guard := none }) rfl (fun K hK => ?_) AllReadyH.nil
    go_simp
    with_reducible refine (SG.out.at _ (H5.out.below hM2.b) (H6.out.below hM2.b)).mono ?_
    rintro r wq3 ⟨rfl, hbq⟩
    go_wp2_with fail
    refine hK.out _ _ (Keeps.trans hM2 hbq) (fun hJ => ?_)
    refine wpAnyH_more (S' := Keeps wq3) (fun z hz => Keeps.trans hJ hz) _ _ _ _ ?_
    replace HB := Lib.hid (HB.out.trans (Below.mono hJ HB.out.size))
    replace HU := Lib.hid (HU.out.below hJ)
    replace HM := Lib.hid (HM.out.below hJ)
    replace HL1 := Lib.hid (HL1.out.below hJ)
    replace HP := Lib.hid ((Below.block hJ _ (L.blk_lt HP.out)).trans HP.out)
    replace HP1 := Lib.hid ((Below.block hJ _ (L.blk_lt HP1.out)).trans HP1.out)
    replace H5 := Lib.hid (H5.out.below hJ)
    replace H6 := Lib.hid (H6.out.below hJ)
    have hM3 : Keeps wq3 wq3 := Below.refl _ _
    clear hK K hbq hM2 hJ
    refine wpAnyH_take (i := 7) (oi := { dst := some 43, op := Go.Op.unOp Go.UnOp.not 4 (Go.Operand.tmp 42), type := 4, pos := "law.go:72", after := #[{ on := 6, ground := Go.Ground.data }], guard := none }) (v := ?_) rfl (by kernel_rfl) (by kernel_rfl) (by kernel_rfl) (fun _ _ _ h => h) (Or.inl ⟨by rfl, ?_⟩) hM3 ?_
    rotate_left
    · (intro wz hSz; (try dsimp only at hSz); go_simp; try with_reducible rfl)
    simp only [Act.put, List.setIfInBounds_toArray, List.set_cons_zero, List.set_cons_succ]
    refine wpAnyH_done (by kernel_rfl) ?_ _
    go_wp2_with fail
    with_reducible refine (LV.out.at wq3).mono ?_
    rintro e w8 ⟨rfl, hb8⟩
    replace HB := Lib.hid (HB.out.trans (Below.mono hb8 HB.out.size))
    clear hb8
    go_wp2_with fail
    go_ret
    exact ⟨rfl, HB.out⟩
  | true =>
    obtain ⟨tm, hvm⟩ := VM.out rfl
    clear VM
    have VM : Hid (True → VoC 14 B m cap' f0 f1 hx lm ls tm) := Lib.hid fun _ => hvm
    clear hvm
    go_wp2_with fail
    refine wp_region_held_drew (S := (Keeps w3)) (by kernel_rfl) (keeps_drew _) (fun hM0 => ?_)
    refine wpAnyH_take (i := 0) (oi := { dst := some 36, op := Go.Op.move (Go.Operand.tmp 0), type := 22, pos := "law.go:72", after := #[], guard := none }) (v := ?_) rfl (by kernel_rfl) (by kernel_rfl) (by kernel_rfl) (fun _ _ _ h => h) (Or.inl ⟨by rfl, ?_⟩) hM0 ?_
    rotate_left
    · (intro wz hSz; (try dsimp only at hSz); go_simp; try with_reducible rfl)
    simp only [Act.put, List.setIfInBounds_toArray, List.set_cons_zero, List.set_cons_succ]
    refine wpAnyH_take (i := 1) (oi := { dst := some 37, op := Go.Op.load 25 (Go.Operand.tmp 6), type := 25, pos := "law.go:72", after := #[], guard := none }) (v := ?_) rfl (by kernel_rfl) (by kernel_rfl) (by kernel_rfl) (fun _ _ _ h => h) (Or.inl ⟨by rfl, ?_⟩) hM0 ?_
    rotate_left
    · (intro wz hSz; have hcz := True.intro; obtain ⟨c0, c1⟩ := lab_cells ((Below.block hSz _ (L.blk_lt HP.out)).trans HP.out); go_simp; try with_reducible rfl)
    simp only [Act.put, List.setIfInBounds_toArray, List.set_cons_zero, List.set_cons_succ]
    refine wpAnyH_take (i := 3) (oi := { dst := some 39, op := Go.Op.move (Go.Operand.tmp 1), type := 22, pos := "law.go:72", after := #[], guard := none }) (v := ?_) rfl (by kernel_rfl) (by kernel_rfl) (by kernel_rfl) (fun _ _ _ h => h) (Or.inl ⟨by rfl, ?_⟩) hM0 ?_
    rotate_left
    · (intro wz hSz; (try dsimp only at hSz); go_simp; try with_reducible rfl)
    simp only [Act.put, List.setIfInBounds_toArray, List.set_cons_zero, List.set_cons_succ]
    refine wpAnyH_take (i := 4) (oi := { dst := some 40, op := Go.Op.load 25 (Go.Operand.tmp 6), type := 25, pos := "law.go:72", after := #[], guard := none }) (v := ?_) rfl (by kernel_rfl) (by kernel_rfl) (by kernel_rfl) (fun _ _ _ h => h) (Or.inl ⟨by rfl, ?_⟩) hM0 ?_
    rotate_left
    · (intro wz hSz; have hcz := True.intro; obtain ⟨c0, c1⟩ := lab_cells ((Below.block hSz _ (L.blk_lt HP.out)).trans HP.out); go_simp; try with_reducible rfl)
    simp only [Act.put, List.setIfInBounds_toArray, List.set_cons_zero, List.set_cons_succ]
    refine wpAnyH_ready (rs := [2]) (by kernel_rfl) (by simp) ?_
    refine AllReadyH.cons (o := { dst := some 38, op := Go.Op.call { callee := Go.Callee.value (Go.Operand.func 25), args := #[Go.Operand.tmp 36, Go.Operand.tmp 37], argTypes := #[22, 25] }, type := 22, pos := "law.go:72", after := #[{ on := 0, ground := Go.Ground.data }, { on := 1, ground := Go.Ground.data }], guard := none }) rfl (fun K hK => ?_) AllReadyH.nil
    go_simp
    with_reducible refine (RC.out.at _ (HU.out.below hM0.b)).mono ?_
    rintro r wq1 ⟨A5, cap5, rfl, H5, hbq⟩
    go_wp2_with fail
    refine hK.out _ _ (Keeps.trans hM0 hbq) (fun hJ => ?_)
    refine wpAnyH_more (S' := Keeps wq1) (fun z hz => Keeps.trans hJ hz) _ _ _ _ ?_
    replace HB := Lib.hid (HB.out.trans (Below.mono hJ HB.out.size))
    replace HU := Lib.hid (HU.out.below hJ)
    replace HM := Lib.hid (HM.out.below hJ)
    replace HL1 := Lib.hid (HL1.out.below hJ)
    replace HP := Lib.hid ((Below.block hJ _ (L.blk_lt HP.out)).trans HP.out)
    replace HP1 := Lib.hid ((Below.block hJ _ (L.blk_lt HP1.out)).trans HP1.out)
    replace H5 := Lib.hid H5
    have hM1 : Keeps wq1 wq1 := Below.refl _ _
    clear hK K hbq hM0 hJ
    refine wpAnyH_ready (rs := [5]) (by kernel_rfl) (by simp) ?_
    refine AllReadyH.cons (o := { dst := some 41, op := Go.Op.call { callee := Go.Callee.value (Go.Operand.func 25), args := #[Go.Operand.tmp 39, Go.Operand.tmp 40], argTypes := #[22, 25] }, type := 22, pos := "law.go:72", after := #[{ on := 3, ground := Go.Ground.data }, { on := 4, ground := Go.Ground.data }, { on := 2, ground := Go.Ground.chain }], guard := none }) rfl (fun K hK => ?_) AllReadyH.nil
    go_simp
    with_reducible refine (RD.out.at _ (HM.out.below hM1.b)).mono ?_
    rintro r wq2 ⟨A6, cap6, rfl, H6, hbq⟩
    go_wp2_with fail
    refine hK.out _ _ (Keeps.trans hM1 hbq) (fun hJ => ?_)
    refine wpAnyH_more (S' := Keeps wq2) (fun z hz => Keeps.trans hJ hz) _ _ _ _ ?_
    replace HB := Lib.hid (HB.out.trans (Below.mono hJ HB.out.size))
    replace HU := Lib.hid (HU.out.below hJ)
    replace HM := Lib.hid (HM.out.below hJ)
    replace HL1 := Lib.hid (HL1.out.below hJ)
    replace HP := Lib.hid ((Below.block hJ _ (L.blk_lt HP.out)).trans HP.out)
    replace HP1 := Lib.hid ((Below.block hJ _ (L.blk_lt HP1.out)).trans HP1.out)
    replace H5 := Lib.hid (H5.out.below hJ)
    replace H6 := Lib.hid H6
    have hM2 : Keeps wq2 wq2 := Below.refl _ _
    clear hK K hbq hM1 hJ
    refine wpAnyH_ready (rs := [6]) (by kernel_rfl) (by simp) ?_
    refine AllReadyH.cons (o := { dst := some 42, op := Go.Op.call { callee := Go.Callee.value (Go.Operand.func 23), args := #[Go.Operand.tmp 38, Go.Operand.tmp 41], argTypes := #[22, 22] }, type := 4, pos := "law.go:72", after := #[{ on := 2, ground := Go.Ground.data }, { on := 5, ground := Go.Ground.data }, { on := 5, ground := Go.Ground.chain }], guard := none }) rfl (fun K hK => ?_) AllReadyH.nil
    go_simp
    with_reducible refine (SG.out.at _ (H5.out.below hM2.b) (H6.out.below hM2.b)).mono ?_
    rintro r wq3 ⟨rfl, hbq⟩
    go_wp2_with fail
    refine hK.out _ _ (Keeps.trans hM2 hbq) (fun hJ => ?_)
    refine wpAnyH_more (S' := Keeps wq3) (fun z hz => Keeps.trans hJ hz) _ _ _ _ ?_
    replace HB := Lib.hid (HB.out.trans (Below.mono hJ HB.out.size))
    replace HU := Lib.hid (HU.out.below hJ)
    replace HM := Lib.hid (HM.out.below hJ)
    replace HL1 := Lib.hid (HL1.out.below hJ)
    replace HP := Lib.hid ((Below.block hJ _ (L.blk_lt HP.out)).trans HP.out)
    replace HP1 := Lib.hid ((Below.block hJ _ (L.blk_lt HP1.out)).trans HP1.out)
    replace H5 := Lib.hid (H5.out.below hJ)
    replace H6 := Lib.hid (H6.out.below hJ)
    have hM3 : Keeps wq3 wq3 := Below.refl _ _
    clear hK K hbq hM2 hJ
    refine wpAnyH_take (i := 7) (oi := { dst := some 43, op := Go.Op.unOp Go.UnOp.not 4 (Go.Operand.tmp 42), type := 4, pos := "law.go:72", after := #[{ on := 6, ground := Go.Ground.data }], guard := none }) (v := ?_) rfl (by kernel_rfl) (by kernel_rfl) (by kernel_rfl) (fun _ _ _ h => h) (Or.inl ⟨by rfl, ?_⟩) hM3 ?_
    rotate_left
    · (intro wz hSz; (try dsimp only at hSz); go_simp; try with_reducible rfl)
    simp only [Act.put, List.setIfInBounds_toArray, List.set_cons_zero, List.set_cons_succ]
    refine wpAnyH_done (by kernel_rfl) ?_ _
    go_wp2_with fail
    go_upto_region 7 with fail
    refine wp_region_held_drew (S := (Keeps wq3)) (by kernel_rfl) (keeps_drew _) (fun hN0 => ?_)
    refine wpAnyH_ready (rs := [0]) (by kernel_rfl) (by simp) ?_
    refine AllReadyH.cons (o := { dst := some 45, op := Go.Op.call { callee := Go.Callee.value (Go.Operand.func 16), args := #[], argTypes := #[] }, type := 4, pos := "law.go:75", after := #[], guard := none }) rfl (fun K hK => ?_) AllReadyH.nil
    go_simp
    with_reducible refine (LV.out.at _).mono ?_
    rintro r wq1 ⟨rfl, hbq⟩
    go_wp2_with fail
    refine hK.out _ _ (Keeps.trans hN0 hbq) (fun hJ => ?_)
    refine wpAnyH_more (S' := Keeps wq1) (fun z hz => Keeps.trans hJ hz) _ _ _ _ ?_
    replace HB := Lib.hid (HB.out.trans (Below.mono hJ HB.out.size))
    replace HM := Lib.hid (HM.out.below hJ)
    replace HL1 := Lib.hid (HL1.out.below hJ)
    replace HP := Lib.hid ((Below.block hJ _ (L.blk_lt HP.out)).trans HP.out)
    replace HP1 := Lib.hid ((Below.block hJ _ (L.blk_lt HP1.out)).trans HP1.out)
    have hN1 : Keeps wq1 wq1 := Below.refl _ _
    clear hK K hbq hN0 hJ
    refine wpAnyH_take (i := 1) (oi := { dst := some 46, op := Go.Op.move (Go.Operand.tmp 45), type := 4, pos := "law.go:75", after := #[{ on := 0, ground := Go.Ground.data }, { on := 0, ground := Go.Ground.chain }], guard := none }) (v := ?_) rfl (by kernel_rfl) (by kernel_rfl) (by kernel_rfl) (fun _ _ _ h => h) (Or.inl ⟨by rfl, ?_⟩) hN1 ?_
    rotate_left
    · (intro wz hSz; (try dsimp only at hSz); go_simp; try with_reducible rfl)
    simp only [Act.put, List.setIfInBounds_toArray, List.set_cons_zero, List.set_cons_succ]
    refine wpAnyH_take (i := 2) (oi := { dst := some 47, op := Go.Op.fieldAddr 29 (Go.Operand.tmp 9) 0, type := 0, pos := "law.go:75", after := #[{ on := 1, ground := Go.Ground.guard }], guard := some (1, true) }) (v := ?_) rfl (by kernel_rfl) (by kernel_rfl) (by kernel_rfl) (fun _ _ _ h => h) (Or.inl ⟨by rfl, ?_⟩) hN1 ?_
    rotate_left
    · (intro wz hSz; (try dsimp only at hSz); go_simp; try with_reducible rfl)
    simp only [Act.put, List.setIfInBounds_toArray, List.set_cons_zero, List.set_cons_succ]
    refine wpAnyH_take (i := 3) (oi := { dst := some 48, op := Go.Op.load 26 (Go.Operand.tmp 47), type := 26, pos := "law.go:75", after := #[{ on := 2, ground := Go.Ground.data }, { on := 1, ground := Go.Ground.guard }], guard := some (1, true) }) (v := ?_) rfl (by kernel_rfl) (by kernel_rfl) (by kernel_rfl) (fun _ _ _ h => h) (Or.inl ⟨by rfl, ?_⟩) hN1 ?_
    rotate_left
    · (intro wz hSz; have hcz := True.intro; obtain ⟨c0, c1⟩ := view_cells ((Below.block hSz _ (L.blk_lt HP1.out)).trans HP1.out); go_simp; try with_reducible rfl)
    simp only [Act.put, List.setIfInBounds_toArray, List.set_cons_zero, List.set_cons_succ]
    refine wpAnyH_take (i := 4) (oi := { dst := some 49, op := Go.Op.move (Go.Operand.tmp 1), type := 22, pos := "law.go:75", after := #[{ on := 1, ground := Go.Ground.guard }], guard := some (1, true) }) (v := ?_) rfl (by kernel_rfl) (by kernel_rfl) (by kernel_rfl) (fun _ _ _ h => h) (Or.inl ⟨by rfl, ?_⟩) hN1 ?_
    rotate_left
    · (intro wz hSz; (try dsimp only at hSz); go_simp; try with_reducible rfl)
    simp only [Act.put, List.setIfInBounds_toArray, List.set_cons_zero, List.set_cons_succ]
    refine wpAnyH_take (i := 5) (oi := { dst := some 50, op := Go.Op.load 25 (Go.Operand.tmp 6), type := 25, pos := "law.go:75", after := #[{ on := 1, ground := Go.Ground.guard }], guard := some (1, true) }) (v := ?_) rfl (by kernel_rfl) (by kernel_rfl) (by kernel_rfl) (fun _ _ _ h => h) (Or.inl ⟨by rfl, ?_⟩) hN1 ?_
    rotate_left
    · (intro wz hSz; have hcz := True.intro; obtain ⟨c0, c1⟩ := lab_cells ((Below.block hSz _ (L.blk_lt HP.out)).trans HP.out); go_simp; try with_reducible rfl)
    simp only [Act.put, List.setIfInBounds_toArray, List.set_cons_zero, List.set_cons_succ]
    refine wpAnyH_take (i := 6) (oi := { dst := some 51, op := Go.Op.move (Go.Operand.tmp 3), type := 9, pos := "law.go:75", after := #[{ on := 1, ground := Go.Ground.guard }], guard := some (1, true) }) (v := ?_) rfl (by kernel_rfl) (by kernel_rfl) (by kernel_rfl) (fun _ _ _ h => h) (Or.inl ⟨by rfl, ?_⟩) hN1 ?_
    rotate_left
    · (intro wz hSz; (try dsimp only at hSz); go_simp; try with_reducible rfl)
    simp only [Act.put, List.setIfInBounds_toArray, List.set_cons_zero, List.set_cons_succ]
    refine wpAnyH_ready (rs := [7]) (by kernel_rfl) (by simp) ?_
    refine AllReadyH.cons (o := { dst := some 52, op := Go.Op.call { callee := Go.Callee.value (Go.Operand.func 14), args := #[Go.Operand.tmp 49, Go.Operand.tmp 50, Go.Operand.tmp 51], argTypes := #[22, 25, 9] }, type := 29, pos := "law.go:75", after := #[{ on := 4, ground := Go.Ground.data }, { on := 5, ground := Go.Ground.data }, { on := 6, ground := Go.Ground.data }, { on := 1, ground := Go.Ground.chain }, { on := 1, ground := Go.Ground.guard }], guard := some (1, true) }) rfl (fun K hK => ?_) AllReadyH.nil
    go_simp
    with_reducible refine ((VM.out trivial).at _ (HM.out.below hN1.b)).mono ?_
    rintro r wq2 ⟨L7, lc7, T7, tc7, rfl, h7, -, hbq⟩; have H7 := lines_own h7; clear h7
    go_wp2_with fail
    refine hK.out _ _ (Keeps.trans hN1 hbq) (fun hJ => ?_)
    refine wpAnyH_more (S' := Keeps wq2) (fun z hz => Keeps.trans hJ hz) _ _ _ _ ?_
    replace HB := Lib.hid (HB.out.trans (Below.mono hJ HB.out.size))
    replace HM := Lib.hid (HM.out.below hJ)
    replace HL1 := Lib.hid (HL1.out.below hJ)
    replace HP := Lib.hid ((Below.block hJ _ (L.blk_lt HP.out)).trans HP.out)
    replace HP1 := Lib.hid ((Below.block hJ _ (L.blk_lt HP1.out)).trans HP1.out)
    replace H7 := Lib.hid H7
    have hN2 : Keeps wq2 wq2 := Below.refl _ _
    clear hK K hbq hN1 hJ
    refine wpAnyH_take (i := 8) (oi := { dst := some 53, op := Go.Op.field 29 (Go.Operand.tmp 52) 0, type := 26, pos := "law.go:75", after := #[{ on := 7, ground := Go.Ground.data }, { on := 1, ground := Go.Ground.guard }], guard := some (1, true) }) (v := ?_) rfl (by kernel_rfl) (by kernel_rfl) (by kernel_rfl) (fun _ _ _ h => h) (Or.inl ⟨by rfl, ?_⟩) hN2 ?_
    rotate_left
    · (intro wz hSz; have hcz := field_view0 L7 ls.length lc7 T7 tm.length tc7 wz; go_simp; try with_reducible rfl)
    simp only [Act.put, List.setIfInBounds_toArray, List.set_cons_zero, List.set_cons_succ]
    refine wpAnyH_ready (rs := [9]) (by kernel_rfl) (by simp) ?_
    refine AllReadyH.cons (o := { dst := some 54, op := Go.Op.call { callee := Go.Callee.value (Go.Operand.func 28), args := #[Go.Operand.tmp 48, Go.Operand.tmp 53], argTypes := #[26, 26] }, type := 4, pos := "law.go:75", after := #[{ on := 3, ground := Go.Ground.data }, { on := 8, ground := Go.Ground.data }, { on := 7, ground := Go.Ground.chain }, { on := 1, ground := Go.Ground.guard }], guard := some (1, true) }) rfl (fun K hK => ?_) AllReadyH.nil
    go_simp
    with_reducible refine (SL.out.at _ (HL1.out.below hN2.b) (H7.out.below hN2.b)).mono ?_
    rintro r wq3 ⟨rfl, hbq⟩
    go_wp2_with fail
    refine hK.out _ _ (Keeps.trans hN2 hbq) (fun hJ => ?_)
    refine wpAnyH_more (S' := Keeps wq3) (fun z hz => Keeps.trans hJ hz) _ _ _ _ ?_
    replace HB := Lib.hid (HB.out.trans (Below.mono hJ HB.out.size))
    replace HM := Lib.hid (HM.out.below hJ)
    replace HL1 := Lib.hid (HL1.out.below hJ)
    replace HP := Lib.hid ((Below.block hJ _ (L.blk_lt HP.out)).trans HP.out)
    replace HP1 := Lib.hid ((Below.block hJ _ (L.blk_lt HP1.out)).trans HP1.out)
    replace H7 := Lib.hid (H7.out.below hJ)
    have hN3 : Keeps wq3 wq3 := Below.refl _ _
    clear hK K hbq hN2 hJ
    refine wpAnyH_take (i := 10) (oi := { dst := some 55, op := Go.Op.pick (Go.Operand.tmp 46) (Go.Operand.tmp 54) (Go.Operand.const (Go.Value.bool false)), type := 4, pos := "law.go:75", after := #[{ on := 1, ground := Go.Ground.data }, { on := 9, ground := Go.Ground.data }], guard := none }) (v := ?_) rfl (by kernel_rfl) (by kernel_rfl) (by kernel_rfl) (fun _ _ _ h => h) (Or.inl ⟨by rfl, ?_⟩) hN3 ?_
    rotate_left
    · (intro wz hSz; (try dsimp only at hSz); go_simp; try with_reducible rfl)
    simp only [Act.put, List.setIfInBounds_toArray, List.set_cons_zero, List.set_cons_succ]
    refine wpAnyH_take (i := 11) (oi := { dst := some 8, op := Go.Op.assign (Go.Operand.tmp 55), type := 4, pos := "law.go:75", after := #[{ on := 10, ground := Go.Ground.data }, { on := 9, ground := Go.Ground.chain }, { on := 0, ground := Go.Ground.phase }, { on := 1, ground := Go.Ground.phase }, { on := 2, ground := Go.Ground.phase }, { on := 3, ground := Go.Ground.phase }, { on := 4, ground := Go.Ground.phase }, { on := 5, ground := Go.Ground.phase }, { on := 6, ground := Go.Ground.phase }, { on := 7, ground := Go.Ground.phase }, { on := 8, ground := Go.Ground.phase }, { on := 9, ground := Go.Ground.phase }, { on := 10, ground := Go.Ground.phase }], guard := none }) (v := ?_) rfl (by kernel_rfl) (by kernel_rfl) (by kernel_rfl) (fun _ _ _ h => h) (Or.inl ⟨by rfl, ?_⟩) hN3 ?_
    rotate_left
    · (intro wz hSz; (try dsimp only at hSz); go_simp; try with_reducible rfl)
    simp only [Act.put, List.setIfInBounds_toArray, List.set_cons_zero, List.set_cons_succ]
    refine wpAnyH_done (by kernel_rfl) ?_ _
    go_wp2_with fail
    go_ret
    exact ⟨rfl, HB.out⟩
end Go.Proofs.Ytaejphdgfkljmaa.V

namespace Go.Proofs.Ytaejphdgfkljmaa.L
open Go.RowKit
open T

def pickOf (c d : Nat) (both : Bool) : Nat := if both then c &&& d else c ||| d
theorem pick_bit (c d p : Nat) (both : Bool) : (pickOf c d both).testBit p = ((c.testBit p && d.testBit p) || (!both && (c.testBit p || d.testBit p))) := by
  unfold pickOf
  cases both
  · rw [if_neg (by simp), Nat.testBit_or]; cases c.testBit p <;> cases d.testBit p <;> rfl
  · rw [if_pos rfl, Nat.testBit_and]; cases c.testBit p <;> cases d.testBit p <;> rfl
theorem pick_small {c d : Nat} (hc : c < 18446744073709551616) (hd : d < 18446744073709551616) (both : Bool) : pickOf c d both < 18446744073709551616 := by
  unfold pickOf
  cases both
  · exact or_small hc hd
  · exact Nat.lt_of_le_of_lt Nat.and_le_left hc
theorem half (x p : Nat) : x / 2 ^ p = 2 * (x / 2 ^ (p + 1)) + (if x.testBit p then 1 else 0) := by
  rw [Nat.testBit_eq_decide_div_mod_eq, Nat.pow_succ, ← Nat.div_div_eq_div_mul]
  generalize x / 2 ^ p = y
  by_cases h : y % 2 = 1
  · rw [decide_eq_true h]; simp; omega
  · rw [decide_eq_false h]; simp; omega
theorem above {x p : Nat} (hx : x < 18446744073709551616) (hp : p < 64) : x / 2 ^ (p + 1) ≤ 9223372036854775807 := by
  have h1 : 2 ^ 1 ≤ 2 ^ (p + 1) := Nat.pow_le_pow_right (by omega) (by omega)
  have h2 : x / 2 ^ (p + 1) ≤ x / 2 ^ 1 := Nat.div_le_div_left h1 (by omega)
  omega

def PickRel (w : World) (l : Int) (c : Nat) (m : Int) (d : Nat) (x : Nat) (n : Nat) (ov iv : Value) (wr : World) : Prop :=
  (∃ p o : Nat, p < 64 ∧ iv = .int .i64 p ∧ ov = .int .u64 (o : Int) ∧ o = x / 2 ^ (p + 1) ∧ p + 1 ≤ n ∧ Held2 w l c m d wr) ∨
  (iv = .int .i64 (-1) ∧ ov = .int .u64 (x : Int) ∧ Held2 w l c m d wr)
theorem rel_next {w wr : World} {l m : Int} {c d x p : Nat} {ov iv : Int} (o : Nat) (hi : iv = (p : Int) - 1) (hov : ov = (o : Int)) (ho : x / 2 ^ p = o) (hp : p < 64) (hH : Held2 w l c m d wr) : PickRel w l c m d x p (.int .u64 ov) (.int .i64 iv) wr := by
  subst hov
  cases p with
  | zero => exact .inr ⟨by rw [hi]; rfl, by rw [← ho]; simp, hH⟩
  | succ q => exact .inl ⟨q, o, by omega, by rw [hi]; congr 1; omega, rfl, ho.symm, Nat.le_refl _, hH⟩

set_option maxHeartbeats 1000000 in
set_option maxRecDepth 100000 in
theorem pick_any (l m : Int) (c d : Nat) (both : Bool) (w : World) (hc : c < 18446744073709551616) (hd : d < 18446744073709551616) :
    Calls Try.prog 47 #[lab l c, lab m d, .bool both] w fun e w' => e = .returned (.int .u64 (pickOf c d both : Nat)) ∧ Below w.heap.size w w' := by
  have hx := pick_small hc hd both
  have HB := Lib.hid (pick_bit c d · both)
  generalize pickOf c d both = x at *
  go_enter Try.func47, Try.ntmps47
  go_wp2_with fail
  go_loopg [7, 8] 64 (fun n ov iv wr => PickRel w l c m d x n ov iv wr)
  case atStart => exact .inl ⟨63, 0, by omega, rfl, rfl, (Nat.div_eq_of_lt (by omega)).symm, Nat.le_refl _, held2_start w l m c d⟩
  case round =>
    rcases hrel with ⟨p, o, hp, rfl, rfl, ho, hn, hH⟩ | ⟨rfl, rfl, hH⟩
    · have hob : o ≤ 9223372036854775807 := by rw [ho]; exact above hx hp
      have HP := Lib.hid (half x p)
      rw [← ho] at HP
      have hbit := HB.out p
      clear ho
      cases hcb : c.testBit p <;> cases hdb : d.testBit p <;> cases both
      all_goals
        rw [hcb, hdb] at hbit
        simp only [Bool.and_self, Bool.and_true, Bool.and_false, Bool.or_self, Bool.or_true, Bool.or_false, Bool.not_true, Bool.not_false] at hbit
        rw [hbit] at HP
        have HC := Lib.hid (hs_is (l := l) hp hcb)
        have HD := Lib.hid (hs_is (l := m) hp hdb)
        clear hcb hdb hbit
        go_wp2_with (first
          | (go_at_call 48; with_reducible refine (HC.out.call _).mono ?_; rintro r w1 ⟨rfl, hb1⟩; replace hH := held2_below hH hb1; clear hb1)
          | (go_at_call 48; with_reducible refine (HD.out.call _).mono ?_; rintro r w1 ⟨rfl, hb1⟩; replace hH := held2_below hH hb1; clear hb1))
      all_goals
        go_roundg p
        case measure => omega
        case rel =>
          first
            | exact rel_next (2 * o) rfl (by omega) (by rw [HP.out]; simp) hp hH
            | exact rel_next (2 * o + 1) rfl (by omega) (by rw [HP.out]; simp) hp hH
    · go_wp2_with fail
      go_ret
      exact ⟨rfl, held2_end hH⟩

end Go.Proofs.Ytaejphdgfkljmaa.L

namespace Go.Proofs.Ytaejphdgfkljmaa.L
open Go.RowKit
open T

/-- Two labels in boxes, and a result's own block behind them. -/
abbrev HeldR (w : World) (l : Int) (c : Nat) (m : Int) (d : Nat) (w' : World) : Prop :=
  w'.cell? ⟨w.heap.size, 0, none⟩ = some (.int .i64 l) ∧ w'.cell? ⟨w.heap.size, 1, none⟩ = some (.int .u64 (c : Int)) ∧ w'.cell? ⟨w.heap.size + 1, 0, none⟩ = some (.int .i64 m) ∧ w'.cell? ⟨w.heap.size + 1, 1, none⟩ = some (.int .u64 (d : Int)) ∧ w.heap.size + 3 ≤ w'.heap.size ∧ Hid (w'.heap[w.heap.size + 1 + 1]? = some (.cells #[.int .i64 0, .int .u64 0] 25 (0, 0))) ∧ Below w.heap.size w w'
section
variable {w W W' : World} {l m : Int} {c d : Nat}
theorem heldR_below (h : HeldR w l c m d W) (hb : Below W.heap.size W W') : HeldR w l c m d W' := by
  obtain ⟨h1, h2, h3, h4, h5, h6, h7⟩ := h
  have hs := hb.size
  exact ⟨(bcell hb _ _ (by omega)).trans h1, (bcell hb _ _ (by omega)).trans h2, (bcell hb _ _ (by omega)).trans h3, (bcell hb _ _ (by omega)).trans h4, by omega, Lib.hid ((hb.block _ (by omega)).trans h6.out), h7.trans (hb.mono h7.size)⟩
theorem heldR_alloc (h : HeldR w l c m d W) (o : Obj) : HeldR w l c m d (W.alloc o) := heldR_below h ((Below.refl _ _).alloc (Nat.le_refl _) o)
theorem heldR_set (h : HeldR w l c m d W) {g i : Nat} (hg : w.heap.size + 3 ≤ g) (u : Value) : HeldR w l c m d (W.setCell ⟨g, i, none⟩ u) := by
  obtain ⟨h1, h2, h3, h4, h5, h6, h7⟩ := h
  have hf := fun (b o : Nat) (hb : b < w.heap.size + 3) => World.cell?_setCell_other W ⟨g, i, none⟩ ⟨b, o, none⟩ u (fun e => by injection e with e1; omega)
  exact ⟨(hf _ _ (by omega)).trans h1, (hf _ _ (by omega)).trans h2, (hf _ _ (by omega)).trans h3, (hf _ _ (by omega)).trans h4, by simpa [World.setCell] using h5, Lib.hid ((blk_far (by omega) u).trans h6.out), h7.setCell (p := ⟨g, i, none⟩) (by show w.heap.size ≤ g; omega) u⟩
end
theorem heldR_re {w W : World} {l m : Int} {c d : Nat} {o1 : Obj} (h : HeldR w l c m d (W.alloc o1)) (hs : w.heap.size + 3 ≤ W.heap.size) (o2 : Obj) : HeldR w l c m d (W.alloc o2) := by
  obtain ⟨h1, h2, h3, h4, h5, h6, h7⟩ := h
  have hf : ∀ (o : Obj) (b i : Nat), b < w.heap.size + 3 → (W.alloc o).cell? ⟨b, i, none⟩ = W.cell? ⟨b, i, none⟩ := fun o b i hb => World.cell?_alloc_lt W o ⟨b, i, none⟩ (by show b < W.heap.size; omega)
  refine ⟨?_, ?_, ?_, ?_, by simp; omega, Lib.hid ?_, ⟨h7.os, h7.tape, h7.output, by have := h7.size; simp at this ⊢; omega, fun k hk => ?_⟩⟩
  · rw [hf _ _ _ (by omega)] at h1 ⊢; exact h1
  · rw [hf _ _ _ (by omega)] at h2 ⊢; exact h2
  · rw [hf _ _ _ (by omega)] at h3 ⊢; exact h3
  · rw [hf _ _ _ (by omega)] at h4 ⊢; exact h4
  · rw [Below.heap_alloc _ _ _ (by omega)] at h6 ⊢; exact h6.out
  · have := h7.block k hk
    rw [Below.heap_alloc _ _ _ (by omega)] at this ⊢; exact this
theorem heldR_size (w : World) (l m : Int) (c d : Nat) (W : World) (h : HeldR w l c m d W) : w.heap.size + 3 ≤ W.heap.size := h.2.2.2.2.1
theorem heldR_start (w : World) (l m : Int) (c d : Nat) : HeldR w l c m d ((((w.alloc (.cells #[.int .i64 l, .int .u64 (c : Int)] 25)).alloc (.cells #[.int .i64 m, .int .u64 (d : Int)] 25)).alloc (.cells #[.int .i64 0, .int .u64 0] 25)).drew) := by
  obtain ⟨b0, b1⟩ := two_blocks w (.cells #[.int .i64 l, .int .u64 (c : Int)] 25) (.cells #[.int .i64 m, .int .u64 (d : Int)] 25)
  have b2 := heap_alloc_new ((w.alloc (.cells #[.int .i64 l, .int .u64 (c : Int)] 25)).alloc (.cells #[.int .i64 m, .int .u64 (d : Int)] 25)) (.cells #[.int .i64 0, .int .u64 0] 25)
  rw [World.size_alloc, World.size_alloc] at b2
  have b0' := (Below.heap_alloc ((w.alloc (.cells #[.int .i64 l, .int .u64 (c : Int)] 25)).alloc (.cells #[.int .i64 m, .int .u64 (d : Int)] 25)) (.cells #[.int .i64 0, .int .u64 0] 25) _ (blk_lt b0)).trans b0
  have b1' := (Below.heap_alloc ((w.alloc (.cells #[.int .i64 l, .int .u64 (c : Int)] 25)).alloc (.cells #[.int .i64 m, .int .u64 (d : Int)] 25)) (.cells #[.int .i64 0, .int .u64 0] 25) _ (blk_lt b1)).trans b1
  have hs : w.heap.size + 3 ≤ (((w.alloc (.cells #[.int .i64 l, .int .u64 (c : Int)] 25)).alloc (.cells #[.int .i64 m, .int .u64 (d : Int)] 25)).alloc (.cells #[.int .i64 0, .int .u64 0] 25)).heap.size := by
    rw [World.size_alloc, World.size_alloc, World.size_alloc]; omega
  exact ⟨blk_cell b0' 0, blk_cell b0' 1, blk_cell b1' 0, blk_cell b1' 1, hs, Lib.hid b2, (three w _ _ _).drew⟩
theorem heldR_drew {w W : World} {l m : Int} {c d : Nat} (h : HeldR w l c m d W) : HeldR w l c m d W.drew := ⟨h.1, h.2.1, h.2.2.1, h.2.2.2.1, h.2.2.2.2.1, h.2.2.2.2.2.1, h.2.2.2.2.2.2.drew⟩
theorem heldR_undrew {w W : World} {l m : Int} {c d : Nat} (h : HeldR w l c m d W.drew) : HeldR w l c m d W :=
  ⟨h.1, h.2.1, h.2.2.1, h.2.2.2.1, h.2.2.2.2.1, h.2.2.2.2.2.1, ⟨h.2.2.2.2.2.2.os, h.2.2.2.2.2.2.tape, h.2.2.2.2.2.2.output, h.2.2.2.2.2.2.size, h.2.2.2.2.2.2.block⟩⟩
theorem heldR_ad {w W : World} {l m : Int} {c d : Nat} (h : HeldR w l c m d W.drew) (o : Obj) : HeldR w l c m d (W.alloc o).drew := heldR_drew (heldR_alloc (heldR_undrew h) o)
theorem four_new (w : World) (a b c o : Obj) : ((((w.alloc a).alloc b).alloc c).alloc o).drew.heap[w.heap.size + 1 + 1 + 1]? = some o := by
  have h := heap_alloc_new (((w.alloc a).alloc b).alloc c) o
  rw [World.size_alloc, World.size_alloc, World.size_alloc] at h
  exact h
theorem bfro {W w1 : World} (hb : Below W.heap.size W w1) (b o : Nat) (h : b < W.heap.size) : w1.frozen? ⟨b, o, none⟩ = W.frozen? ⟨b, o, none⟩ := hb.frozen (p := ⟨b, o, none⟩) h

set_option maxHeartbeats 8000000 in
set_option maxRecDepth 100000 in
theorem refJoin_walk (l m k : Int) (c d x : Nat) (w : World) (hk : k = max l m)
    (HP : Hid (∀ w : World, Calls Try.prog 47 #[lab l c, lab m d, .bool false] w fun e w' => e = .returned (.int .u64 (x : Int)) ∧ Below w.heap.size w w')) :
    Calls Try.prog 29 #[lab l c, lab m d] w fun e w' => e = .returned (lab k x) ∧ Below w.heap.size w w' := by
  go_enter Try.func29, Try.ntmps29
  go_upto_region 1 with fail
  go_cut [5] (fun s wx => ∃ g : Nat, s = .pointer (some ⟨g, 0, none⟩) ∧ w.heap.size + 3 ≤ g ∧ Hid (wx.heap[g]? = some (.cells #[.int .i64 l, .int .u64 (x : Int)] 25 (0, 0))) ∧ HeldR w l c m d wx)
  case first =>
    go_region_held3 (fun w' => w'.cell? ⟨w.heap.size, 0, none⟩ = some (.int .i64 l) ∧ w'.cell? ⟨w.heap.size, 1, none⟩ = some (.int .u64 (c : Int)) ∧ w'.cell? ⟨w.heap.size + 1, 0, none⟩ = some (.int .i64 m) ∧ w'.cell? ⟨w.heap.size + 1, 1, none⟩ = some (.int .u64 (d : Int)) ∧ w.heap.size + 3 ≤ w'.heap.size ∧ Hid (w'.heap[w.heap.size + 1 + 1]? = some (.cells #[.int .i64 0, .int .u64 0] 25 (0, 0))) ∧ Below w.heap.size w w')
      (first | with_reducible exact heldR_start w l m c d | with_reducible exact heldR_ad (by assumption) _ | with_reducible exact heldR_alloc (by assumption) _ | with_reducible exact heldR_below (by assumption) hbq | with_reducible exact heldR_re (by assumption) hzq _ | with_reducible exact heldR_set (heldR_set (by assumption) (Nat.le_refl _) _) (Nat.le_refl _) _)
      (first
        | (go_at_call 47; with_reducible refine (HP.out _).mono ?_; rintro r wq ⟨rfl, hbq⟩; have hzq := Nat.le_trans (heldR_size w l m c d _ (by assumption)) hbq.size; have hbc := bcell hbq; have hbf := bfro hbq; have hbz := hbq.size))
    · go_wp2_with fail
      go_meet
      exact ⟨wq.heap.size, rfl, hzq, Lib.hid (heap_alloc_new wq _), by assumption⟩
    · go_wp2_with fail
      go_meet
      exact ⟨w.heap.size + 1 + 1 + 1, rfl, Nat.le_refl _, Lib.hid (blk_set (blk_set ((hbq.block (w.heap.size + 1 + 1 + 1) (by simp)).trans (four_new w _ _ _ _)) 0 _) 1 _), by assumption⟩
  case rest =>
    obtain ⟨g, rfl, hg, HG, hH⟩ := hcut
    obtain ⟨h1, h2, h3, h4, hsz, HK, hbel⟩ := hH
    have g0 := (res_cells HG.out).1
    have g1 := (res_cells HG.out).2
    have f0 := blk_free HG.out 0
    have d0 := (res_cells HK.out).1
    have d1 := (res_cells HK.out).2
    have e0 := blk_free HK.out 0
    have e1 := blk_free HK.out 1
    by_cases hlm : m ≤ l
    · obtain rfl : k = l := by omega
      clear hk
      go_wp2_with fail
      have hfin := blk_set (blk_set HK.out 0 (.int .i64 k)) 1 (.int .u64 (x : Int))
      have hbf := (hbel.setCell (p := ⟨w.heap.size + 1 + 1, 0, none⟩) (by show w.heap.size ≤ w.heap.size + 1 + 1; omega) (.int .i64 k)).setCell (p := ⟨w.heap.size + 1 + 1, 1, none⟩) (by show w.heap.size ≤ w.heap.size + 1 + 1; omega) (.int .u64 (x : Int))
      clear d0 d1 e0 e1 g0 g1 f0 h1 h2 h3 h4 
      generalize (wc.setCell ⟨w.heap.size + 1 + 1, 0, none⟩ (.int .i64 k)).setCell ⟨w.heap.size + 1 + 1, 1, none⟩ (.int .u64 (x : Int)) = wf at *
      have z0 : wf.cell? ⟨w.heap.size + 1 + 1, 0, none⟩ = some (.int .i64 k) := blk_cell hfin 0
      have z1 : wf.cell? ⟨w.heap.size + 1 + 1, 1, none⟩ = some (.int .u64 (x : Int)) := blk_cell hfin 1
      exact bodyPost_ret (v := lab k x) (by simp [results, Try.results29, go_sem, z0, z1]) rfl ⟨rfl, hbf⟩
    · obtain rfl : k = m := by omega
      clear hk
      have hgn : g ≠ w.heap.size + 1 + 1 := by omega
      have HKg := Lib.hid ((blk_far (w := wc) (i := 0) (fun e => hgn e.symm) (.int .i64 k)).trans HK.out)
      have p0 : (wc.setCell ⟨g, 0, none⟩ (.int .i64 k)).cell? ⟨w.heap.size + 1 + 1, 0, none⟩ = some (.int .i64 0) := (res_cells ((blk_far (fun e => hgn e.symm) _).trans HK.out)).1
      have p1 : (wc.setCell ⟨g, 0, none⟩ (.int .i64 k)).cell? ⟨w.heap.size + 1 + 1, 1, none⟩ = some (.int .u64 0) := (res_cells ((blk_far (fun e => hgn e.symm) _).trans HK.out)).2
      have r0 : (wc.setCell ⟨g, 0, none⟩ (.int .i64 k)).cell? ⟨g, 0, none⟩ = some (.int .i64 k) := blk_cell (blk_set HG.out 0 _) 0
      have r1 : (wc.setCell ⟨g, 0, none⟩ (.int .i64 k)).cell? ⟨g, 1, none⟩ = some (.int .u64 (x : Int)) := blk_cell (blk_set HG.out 0 _) 1
      have q2 : (wc.setCell ⟨g, 0, none⟩ (.int .i64 k)).frozen? ⟨w.heap.size + 1 + 1, 0, none⟩ = false := blk_free ((blk_far (fun e => hgn e.symm) _).trans HK.out) 0
      have q3 : (wc.setCell ⟨g, 0, none⟩ (.int .i64 k)).frozen? ⟨w.heap.size + 1 + 1, 1, none⟩ = false := blk_free ((blk_far (fun e => hgn e.symm) _).trans HK.out) 1
      go_wp2_with fail
      have hfin := blk_set (blk_set HKg.out 0 (.int .i64 k)) 1 (.int .u64 (x : Int))
      have hbf := ((hbel.setCell (p := ⟨g, 0, none⟩) (by show w.heap.size ≤ g; omega) (.int .i64 k)).setCell (p := ⟨w.heap.size + 1 + 1, 0, none⟩) (by show w.heap.size ≤ w.heap.size + 1 + 1; omega) (.int .i64 k)).setCell (p := ⟨w.heap.size + 1 + 1, 1, none⟩) (by show w.heap.size ≤ w.heap.size + 1 + 1; omega) (.int .u64 (x : Int))
      clear d0 d1 e0 e1 g0 g1 f0 h1 h2 h3 h4 p0 p1 r0 r1 q2 q3
      generalize ((wc.setCell ⟨g, 0, none⟩ (.int .i64 k)).setCell ⟨w.heap.size + 1 + 1, 0, none⟩ (.int .i64 k)).setCell ⟨w.heap.size + 1 + 1, 1, none⟩ (.int .u64 (x : Int)) = wf at *
      have z0 : wf.cell? ⟨w.heap.size + 1 + 1, 0, none⟩ = some (.int .i64 k) := blk_cell hfin 0
      have z1 : wf.cell? ⟨w.heap.size + 1 + 1, 1, none⟩ = some (.int .u64 (x : Int)) := blk_cell hfin 1
      exact bodyPost_ret (v := lab k x) (by simp [results, Try.results29, go_sem, z0, z1]) rfl ⟨rfl, hbf⟩

theorem refJoin_any (l m : Int) (c d : Nat) (w : World) (hc : c < 18446744073709551616) (hd : d < 18446744073709551616) :
    Calls Try.prog 29 #[lab l c, lab m d] w fun e w' => e = .returned (lab (max l m) (c ||| d)) ∧ Below w.heap.size w w' :=
  refJoin_walk l m _ c d _ w rfl (Lib.hid fun w => pick_any l m c d false w hc hd)
end Go.Proofs.Ytaejphdgfkljmaa.L

namespace Go.Proofs.Ytaejphdgfkljmaa.V
set_option linter.unusedVariables false
set_option linter.unusedSimpArgs false
open Go.RowKit
open T
open I (It Lb ItemsIn ItemsAt ItemsOk itCells itCells_snoc itCells_at items_cells items_own own_at own_below infoItem alloc1)

/-- The one view's lines are found among the other's, in order. -/
structure Found (ts us : List Int) (ls ms : List (List UInt8 × Bool)) (pos : Nat → Nat) : Prop where
  lt : ∀ i, i < ts.length → pos i < us.length
  is : ∀ i (hi : i < ts.length) (hp : pos i < us.length), us[pos i] = ts[i]
  no : ∀ i (hi : i < ts.length) q (hq : q < us.length), q < pos i → ¬ us[q] = ts[i]
  up : ∀ i, i + 1 < ts.length → pos i ≤ pos (i + 1)
  tx : ∀ i (h1 : i < ls.length) (h2 : pos i < ms.length), ms[pos i].1 = ls[i].1
  l1 : ls.length = ts.length
  l2 : ms.length = us.length
def RjC (f0 g0 j0 : Int) (f1 g1 j1 : Nat) : Prop := ∀ W : World, Calls Try.prog 29 #[.agg #[.int .i64 f0, .int .u64 (f1 : Int)], .agg #[.int .i64 g0, .int .u64 (g1 : Int)]] W fun e w' => e = .returned (.agg #[.int .i64 j0, .int .u64 (j1 : Int)]) ∧ Below W.heap.size W w'
theorem RjC.at {f0 g0 j0 : Int} {f1 g1 j1 : Nat} (h : RjC f0 g0 j0 f1 g1 j1) (W : World) : Calls Try.prog 29 #[.agg #[.int .i64 f0, .int .u64 (f1 : Int)], .agg #[.int .i64 g0, .int .u64 (g1 : Int)]] W fun e w' => e = .returned (.agg #[.int .i64 j0, .int .u64 (j1 : Int)]) ∧ Below W.heap.size W w' := h W

set_option maxRecDepth 100000 in
set_option maxHeartbeats 4000000 in
theorem vmore_law {A : Option Addr} {n cap : Nat} {l : List It} {f0 g0 j0 : Int} {f1 g1 j1 : Nat} {hx : ByteArray} {ls ms : List (List UInt8 × Bool)} {ts us : List Int} {pos : Nat → Nat} {w : World} (hus : us.length ≤ maxLen) (hts : ts.length ≤ maxLen) (HU : Hid (ItemsIn w A l))
    (VO : Hid (VoC 14 A n cap f0 f1 hx l ls ts)) (RJ : Hid (RjC f0 g0 j0 f1 g1 j1)) (VM : Hid (VoC 14 A n cap j0 j1 hx l ms us)) (HF : Hid (Found ts us ls ms pos)) (LV : Hid (LvC 16)) :
    Calls Try.prog 6 #[.slice A n cap, .agg #[.int .i64 f0, .int .u64 (f1 : Int)], .agg #[.int .i64 g0, .int .u64 (g1 : Int)], .string hx] w fun e w' => e = .returned (.bool true) ∧ Below w.heap.size w w' := by
  unfold maxLen at hus hts
  obtain ⟨W0, hW0⟩ : ∃ W0 : World, W0 = (w.alloc (.cells #[.int .i64 f0, .int .u64 (f1 : Int)] 25)).alloc (.cells #[.int .i64 g0, .int .u64 (g1 : Int)] 25) := ⟨_, rfl⟩
  have HB := Lib.hid (show Below w.heap.size w W0 by rw [hW0]; exact (alloc1 _ _).alloc (by simp) _)
  have HP := Lib.hid (show W0.heap[w.heap.size]? = some (.cells #[.int .i64 f0, .int .u64 (f1 : Int)] 25 (0, 0)) by rw [hW0]; exact (L.two_blocks w _ _).1)
  have HQ := Lib.hid (show W0.heap[w.heap.size + 1]? = some (.cells #[.int .i64 g0, .int .u64 (g1 : Int)] 25 (0, 0)) by rw [hW0]; exact (L.two_blocks w _ _).2)
  obtain ⟨x0, x1⟩ := lab_cells HP.out
  rw [hW0] at x0 x1
  go_enter Try.func6, Try.ntmps6
  go_wp2_with fail
  rw [← hW0]
  clear hW0 x0 x1
  replace HU := Lib.hid (HU.out.below HB.out)
  with_reducible refine (VO.out.at W0 HU.out).mono ?_
  rintro e w1 ⟨L1, lc1, T1, tc1, rfl, hl1, ht1, hb1⟩
  obtain ⟨W1, hW1⟩ : ∃ W : World, W = w1.alloc (.cells #[.slice L1 ls.length lc1, .slice T1 ts.length tc1] 29) := ⟨_, rfl⟩
  have ha1 : Below w1.heap.size w1 W1 := by rw [hW1]; exact alloc1 _ _
  have hb1' : Below W0.heap.size W0 W1 := hb1.trans (ha1.mono hb1.size)
  have HP1 := Lib.hid (show W1.heap[w1.heap.size]? = some (.cells #[.slice L1 ls.length lc1, .slice T1 ts.length tc1] 29 (0, 0)) by rw [hW1]; exact heap_alloc_new w1 _)
  have HL1 := Lib.hid ((lines_own hl1).below ha1)
  have HT1 := Lib.hid ((ints_own ht1).below ha1)
  replace HU := Lib.hid (HU.out.below hb1')
  replace HB := Lib.hid (HB.out.trans (Below.mono hb1' HB.out.size))
  replace HP := Lib.hid ((Below.block hb1' _ (L.blk_lt HP.out)).trans HP.out)
  replace HQ := Lib.hid ((Below.block hb1' _ (L.blk_lt HQ.out)).trans HQ.out)
  obtain ⟨x0, x1⟩ := lab_cells HP.out
  obtain ⟨y0, y1⟩ := lab_cells HQ.out
  rw [hW1] at x0 x1 y0 y1
  clear hb1 hb1' ha1 hl1 ht1 VO
  go_wp2_with fail
  rw [← hW1]
  obtain ⟨v1, hv1⟩ : ∃ v, v = w1.heap.size := ⟨_, rfl⟩
  rw [← hv1]
  rw [← hv1] at HP1
  clear hW1 x0 x1 y0 y1 hv1
  with_reducible refine (RJ.out.at W1).mono ?_
  rintro e w2 ⟨rfl, hb2⟩
  replace HU := Lib.hid (HU.out.below hb2)
  replace HB := Lib.hid (HB.out.trans (Below.mono hb2 HB.out.size))
  replace HL1 := Lib.hid (HL1.out.below hb2)
  replace HT1 := Lib.hid (HT1.out.below hb2)
  replace HP1 := Lib.hid ((Below.block hb2 _ (L.blk_lt HP1.out)).trans HP1.out)
  clear hb2 HP HQ RJ
  go_wp2_with fail
  with_reducible refine (VM.out.at w2 HU.out).mono ?_
  rintro e w3 ⟨L2, lc2, T2, tc2, rfl, hl2, ht2, hb2⟩
  obtain ⟨W2, hW2⟩ : ∃ W : World, W = w3.alloc (.cells #[.slice L2 ms.length lc2, .slice T2 us.length tc2] 29) := ⟨_, rfl⟩
  have ha2 : Below w3.heap.size w3 W2 := by rw [hW2]; exact alloc1 _ _
  have hb2' : Below w2.heap.size w2 W2 := hb2.trans (ha2.mono hb2.size)
  have HP2 := Lib.hid (show W2.heap[w3.heap.size]? = some (.cells #[.slice L2 ms.length lc2, .slice T2 us.length tc2] 29 (0, 0)) by rw [hW2]; exact heap_alloc_new w3 _)
  have HL2 := Lib.hid ((lines_own hl2).below ha2)
  have HT2 := Lib.hid ((ints_own ht2).below ha2)
  replace HB := Lib.hid (HB.out.trans (Below.mono hb2' HB.out.size))
  replace HL1 := Lib.hid (HL1.out.below hb2')
  replace HT1 := Lib.hid (HT1.out.below hb2')
  replace HP1 := Lib.hid ((Below.block hb2' _ (L.blk_lt HP1.out)).trans HP1.out)
  obtain ⟨x0, x1⟩ := view_cells HP1.out
  obtain ⟨y0, y1⟩ := view_cells HP2.out
  clear hb2 hb2' ha2 hl2 ht2 VM HU
  go_upto_region 3 with fail
  rw [← hW2]
  obtain ⟨v2, hv2⟩ : ∃ v, v = w3.heap.size := ⟨_, rfl⟩
  rw [← hv2]
  rw [← hv2] at HP2 y0 y1
  clear hW2 hv2
  generalize W2 = w4 at *
  go_wp2_with fail
  go_loopg [11, 12] ts.length (fun m kv iv wr => ∃ (i k : Nat), i ≤ ts.length ∧ iv = .int .i64 i ∧ kv = .int .i64 k ∧ ts.length - i ≤ m ∧ (i < ts.length → k ≤ pos i) ∧ ∃ q, wr = w4.drewN q)
  case atStart => exact ⟨0, 0, Nat.zero_le _, rfl, rfl, by omega, fun _ => Nat.zero_le _, 0, rfl⟩
  case round =>
    obtain ⟨i, k, hi, rfl, rfl, hm, hki, q, rfl⟩ := hrel
    by_cases hlt : i < ts.length
    · obtain ⟨bt, ot, hTe, hbt, hI⟩ := HT1.out (by omega)
      subst hTe
      have ct := hI i hlt
      have h0i : (0 : Int) ≤ (i : Int) := by omega
      have hii : (i : Int) < (ts.length : Int) := by omega
      have hkp := hki hlt
      have hpl := HF.out.lt i hlt
      have HIS := Lib.hid (HF.out.is i hlt hpl)
      have HNO := Lib.hid (HF.out.no i hlt)
      have HTI := Lib.hid (show ts[i] = ts[i] from rfl)
      obtain ⟨a, ha⟩ : ∃ a, a = ts[i] := ⟨_, rfl⟩
      rw [← ha] at ct HIS HNO
      clear hI hki HTI ha
      go_wp2_with fail
      go_loopg [11] us.length (fun m kv wr => ∃ (k : Nat), k ≤ pos i ∧ kv = .int .i64 k ∧ us.length - k ≤ m ∧ ∃ q, wr = w4.drewN q)
      case atStart => exact ⟨k, hkp, rfl, by omega, q, rfl⟩
      case round =>
        obtain ⟨k, hk, rfl, hm2, q, rfl⟩ := hrel
        have hku : k < us.length := by omega
        obtain ⟨bu, ou, hUe, hbu, hJ⟩ := HT2.out (by omega)
        subst hUe
        have cu := hJ k hku
        have h0k : (0 : Int) ≤ (k : Int) := by omega
        have hkk : (k : Int) < (us.length : Int) := by omega
        by_cases he : k = pos i
        · have hau : us[k] = a := by subst he; exact HIS.out
          rw [hau] at cu
          clear hJ hau
          have HLI := HF.out.tx i (by rw [HF.out.l1]; exact hlt) (by rw [HF.out.l2]; exact hpl)
          obtain ⟨b1, o1, hLe, hb1, hN1⟩ := HL1.out (by rw [HF.out.l1]; omega)
          obtain ⟨b2, o2, hMe, hb2, hN2⟩ := HL2.out (by rw [HF.out.l2]; omega)
          subst hLe hMe
          obtain ⟨d0, -⟩ := hN1 i (by rw [HF.out.l1]; exact hlt)
          obtain ⟨d1, -⟩ := hN2 (pos i) (by rw [HF.out.l2]; exact hpl)
          rw [HLI] at d1
          rw [← he] at d1
          obtain ⟨s, hs⟩ : ∃ s : ByteArray, s = ⟨(ls[i]'(by rw [HF.out.l1]; exact hlt)).1.toArray⟩ := ⟨_, rfl⟩
          rw [← hs] at d0 d1
          have hne : ((k : Int) == (us.length : Int)) = false := by simp; omega
          have hg1 : (k : Int) < (ms.length : Int) := by rw [HF.out.l2]; omega
          have hg2 : (i : Int) < (ls.length : Int) := by rw [HF.out.l1]; omega
          have HE := Lib.hid he
          have hg3 : ¬ (ms.length : Int) ≤ (k : Int) := by omega
          have hg4 : ¬ (ls.length : Int) ≤ (i : Int) := by omega
          have hg5 : decide (ms.length ≤ k) = false := decide_eq_false (by omega)
          have hg6 : decide (ls.length ≤ i) = false := decide_eq_false (by omega)
          have hg7 : decide ((ms.length : Int) ≤ (k : Int)) = false := decide_eq_false (by omega)
          have hg8 : decide ((ls.length : Int) ≤ (i : Int)) = false := decide_eq_false (by omega)
          clear hs HLI hN1 hN2 he hk
          go_wp2_with fail
          go_quiet (fail)
          go_wp2_with fail
          go_quiet (fail)
          go_wp2_with fail
          go_roundg (ts.length - (i + 1))
          case rel => exact ⟨i + 1, k, by omega, by go_num, rfl, Nat.le_refl _, fun h => by rw [HE.out]; exact HF.out.up i h, _, rfl⟩
          case measure => omega
        · have hkl : k < pos i := by omega
          have hau := HNO.out k hku hkl
          generalize us[k] = b at *
          have hne : (b != a) = true := by simpa using hau
          clear hJ he hau
          go_wp2_with fail
          go_quiet (fail)
          go_wp2_with fail
          go_roundg (us.length - (k + 1))
          case rel => exact ⟨k + 1, by omega, by go_num, Nat.le_refl _, _, rfl⟩
          case measure => omega
    · obtain rfl : i = ts.length := by omega
      replace HB := Lib.hid (HB.out.trans (Below.mono (drawn_below w4 q) HB.out.size))
      go_wp2_with fail
      with_reducible refine (LV.out.at _).mono ?_
      rintro e w8 ⟨rfl, hb8⟩
      replace HB := Lib.hid (HB.out.trans (Below.mono hb8 HB.out.size))
      clear hb8
      go_wp2_with fail
      go_ret
      exact ⟨rfl, HB.out⟩
end Go.Proofs.Ytaejphdgfkljmaa.V
