/-
  The law ItemPrints, walked: it returns true for all items and every floor, where the library's table of powers of ten holds what its text lays.
-/
import Derived.Test.YtadhhamfikpimaaDoorGil
import Derived.Test.YtadhhamfikpimaaDoorGij
import Derived.Deep.DeepCutAuto
namespace Go.Proofs.YtadhhamfikpimaaDoor.I
set_option linter.unusedVariables false
set_option linter.unusedSimpArgs false
open Go.RowKit
open T

def TxtV (t : List UInt8) (v : Int) (W : World) (e : Ending) (w' : World) : Prop := ∃ A cap, e = .returned (.tuple #[.slice A t.length cap, .int .i64 v]) ∧ BytesIn w' A t ∧ Below W.heap.size W w'
def PriC (A : Option Addr) (n cap : Nat) (l : List It) (f0 : Int) (f1 : Nat) (t : List UInt8) (v : Int) : Prop :=
  ∀ W : World, ItemsIn W A l → Tab W → Calls Tryd.prog 25 #[.slice A n cap, .agg #[.int .i64 f0, .int .u64 (f1 : Int)]] W (TxtV t v W)
theorem PriC.call {A : Option Addr} {n cap : Nat} {l : List It} {f0 : Int} {f1 : Nat} {t : List UInt8} {v : Int} (h : PriC A n cap l f0 f1 t v) (W : World) (h1 : ItemsIn W A l) (h2 : Tab W) :
    Calls Tryd.prog 25 #[.slice A n cap, .agg #[.int .i64 f0, .int .u64 (f1 : Int)]] W (TxtV t v W) := h W h1 h2
def RriC (A : Option Addr) (n cap : Nat) (l : List It) (f0 : Int) (f1 : Nat) (t : List UInt8) (v : Int) : Prop :=
  ∀ W : World, ItemsIn W A l → Calls Tryd.prog 26 #[.slice A n cap, .agg #[.int .i64 f0, .int .u64 (f1 : Int)]] W (TxtV t v W)
theorem RriC.call {A : Option Addr} {n cap : Nat} {l : List It} {f0 : Int} {f1 : Nat} {t : List UInt8} {v : Int} (h : RriC A n cap l f0 f1 t v) (W : World) (h1 : ItemsIn W A l) :
    Calls Tryd.prog 26 #[.slice A n cap, .agg #[.int .i64 f0, .int .u64 (f1 : Int)]] W (TxtV t v W) := h W h1
def CkiC (A : Option Addr) (n cap : Nat) (l : List It) (f0 : Int) (f1 : Nat) (v : Int) : Prop :=
  ∀ W : World, ItemsIn W A l → Calls Tryd.prog 28 #[.slice A n cap, .agg #[.int .i64 f0, .int .u64 (f1 : Int)]] W fun e w' => e = .returned (.int .i64 v) ∧ Below W.heap.size W w'
theorem CkiC.at {A : Option Addr} {n cap : Nat} {l : List It} {f0 : Int} {f1 : Nat} {v : Int} (h : CkiC A n cap l f0 f1 v) (W : World) (h1 : ItemsIn W A l) :
    Calls Tryd.prog 28 #[.slice A n cap, .agg #[.int .i64 f0, .int .u64 (f1 : Int)]] W fun e w' => e = .returned (.int .i64 v) ∧ Below W.heap.size W w' := h W h1
def CriC (A : Option Addr) (n cap : Nat) (l : List It) (f0 : Int) (f1 : Nat) (v : Int) : Prop :=
  ∀ W : World, ItemsIn W A l → Calls Tryd.prog 29 #[.slice A n cap, .agg #[.int .i64 f0, .int .u64 (f1 : Int)]] W fun e w' => e = .returned (.int .i64 v) ∧ Below W.heap.size W w'
theorem CriC.at {A : Option Addr} {n cap : Nat} {l : List It} {f0 : Int} {f1 : Nat} {v : Int} (h : CriC A n cap l f0 f1 v) (W : World) (h1 : ItemsIn W A l) :
    Calls Tryd.prog 29 #[.slice A n cap, .agg #[.int .i64 f0, .int .u64 (f1 : Int)]] W fun e w' => e = .returned (.int .i64 v) ∧ Below W.heap.size W w' := h W h1

set_option maxRecDepth 100000 in
set_option maxHeartbeats 8000000 in
theorem iprints_law {A : Option Addr} {n cap : Nat} {l : List It} {f0 : Int} {f1 : Nat} {t : List UInt8} {v c : Int} {w : World} (HT : Hid (Tab w)) (HU : Hid (ItemsIn w A l)) (PK : Hid (PriC A n cap l f0 f1 t v)) (RQ : Hid (RriC A n cap l f0 f1 t v)) (CC : Hid (CkiC A n cap l f0 f1 c)) (CR : Hid (CriC A n cap l f0 f1 c)) :
    Calls Tryd.prog 7 #[.slice A n cap, .agg #[.int .i64 f0, .int .u64 (f1 : Int)]] w fun e w' => e = .returned (.bool true) ∧ Below w.heap.size w w' := by
  obtain ⟨W0, hW0⟩ : ∃ W0 : World, W0 = w.alloc (.cells #[.int .i64 f0, .int .u64 (f1 : Int)] 40) := ⟨_, rfl⟩
  have HB := Lib.hid (show Below w.heap.size w W0 by rw [hW0]; exact alloc1 _ _)
  have HP := Lib.hid (show W0.heap[w.heap.size]? = some (.cells #[.int .i64 f0, .int .u64 (f1 : Int)] 40 (0, 0)) by rw [hW0]; exact heap_alloc_new w _)
  obtain ⟨x0, x1⟩ := O.lab_cells HP.out
  rw [hW0] at x0 x1
  go_enter Tryd.func7, Tryd.ntmps7
  go_wp2_with fail
  rw [← hW0]
  clear hW0 x0 x1
  replace HT := Lib.hid (HT.out.later HB.out)
  replace HU := Lib.hid (HU.out.below HB.out)
  with_reducible refine (PK.out.call W0 HU.out HT.out).mono ?_
  intro e w1 he
  obtain ⟨A1, cap1, rfl, hin1, hb1⟩ := he
  replace HT := Lib.hid (HT.out.later hb1)
  replace HU := Lib.hid (HU.out.below hb1)
  replace HB := Lib.hid (HB.out.trans (hb1.mono HB.out.size))
  replace HP := Lib.hid ((hb1.block _ (L.blk_lt HP.out)).trans HP.out)
  have H1 := Lib.hid hin1
  clear hin1 hb1 PK
  obtain ⟨a0, a1⟩ := O.lab_cells HP.out
  go_wp2_with fail
  clear a0 a1
  with_reducible refine (RQ.out.call w1 HU.out).mono ?_
  intro e w2 he
  obtain ⟨A2, cap2, rfl, hin2, hb2⟩ := he
  replace HT := Lib.hid (HT.out.later hb2)
  replace HU := Lib.hid (HU.out.below hb2)
  replace HB := Lib.hid (HB.out.trans (hb2.mono HB.out.size))
  replace HP := Lib.hid ((hb2.block _ (L.blk_lt HP.out)).trans HP.out)
  replace H1 := Lib.hid (H1.out.below hb2)
  have H2 := Lib.hid hin2
  clear hin2 hb2 RQ
  go_upto_region 3 with fail
  refine wp_region_held_drew (S := (Keeps w2)) (by kernel_rfl) (keeps_drew _) (fun hH0 => ?_)
  refine wpAnyH_ready (rs := [0]) (by kernel_rfl) (by simp) ?_
  refine AllReadyH.cons (o := { dst := some 21, op := Go.Op.call { callee := Go.Callee.value (Go.Operand.func 27), args := #[], argTypes := #[] }, type := 4, pos := "law.go:38", after := #[], guard := none }) rfl (fun K hK => ?_) AllReadyH.nil
  go_simp
  with_reducible refine (live4 _ (HT.out.later hH0.b)).mono ?_
  rintro r wq1 ⟨rfl, hbq⟩
  go_wp2_with fail
  refine hK.out _ _ (Keeps.trans hH0 hbq) (fun hJ => ?_)
  refine wpAnyH_more (S' := Keeps wq1) (fun z hz => Keeps.trans hJ hz) _ _ _ _ ?_
  replace HB := Lib.hid (HB.out.trans (Below.mono hJ HB.out.size))
  replace HT := Lib.hid (HT.out.later hJ)
  replace HU := Lib.hid (HU.out.below hJ)
  replace HP := Lib.hid ((Below.block hJ _ (L.blk_lt HP.out)).trans HP.out)
  replace H1 := Lib.hid (H1.out.below hJ)
  replace H2 := Lib.hid (H2.out.below hJ)
  have hH1 : Keeps wq1 wq1 := Below.refl _ _
  clear hK K hbq hH0 hJ
  refine wpAnyH_take (i := 1) (oi := { dst := some 22, op := Go.Op.move (Go.Operand.tmp 21), type := 4, pos := "law.go:38", after := #[{ on := 0, ground := Go.Ground.data }, { on := 0, ground := Go.Ground.chain }], guard := none }) (v := ?_) rfl (by kernel_rfl) (by kernel_rfl) (by kernel_rfl) (fun _ _ _ h => h) (Or.inl ⟨by rfl, ?_⟩) hH1 ?_
  rotate_left
  · (intro wz hSz; (try dsimp only at hSz); go_simp; try with_reducible rfl)
  simp only [Act.put, List.setIfInBounds_toArray, List.set_cons_zero, List.set_cons_succ]
  refine wpAnyH_take (i := 2) (oi := { dst := some 23, op := Go.Op.move (Go.Operand.tmp 5), type := 22, pos := "law.go:38", after := #[{ on := 1, ground := Go.Ground.guard }], guard := some (1, true) }) (v := ?_) rfl (by kernel_rfl) (by kernel_rfl) (by kernel_rfl) (fun _ _ _ h => h) (Or.inl ⟨by rfl, ?_⟩) hH1 ?_
  rotate_left
  · (intro wz hSz; (try dsimp only at hSz); go_simp; try with_reducible rfl)
  simp only [Act.put, List.setIfInBounds_toArray, List.set_cons_zero, List.set_cons_succ]
  refine wpAnyH_take (i := 3) (oi := { dst := some 24, op := Go.Op.convert 22 9 (Go.Operand.tmp 23), type := 9, pos := "law.go:38", after := #[{ on := 2, ground := Go.Ground.data }, { on := 1, ground := Go.Ground.guard }], guard := some (1, true) }) (v := ?_) rfl (by kernel_rfl) (by kernel_rfl) (by kernel_rfl) (fun _ _ _ h => h) (Or.inl ⟨by rfl, ?_⟩) hH1 ?_
  rotate_left
  · (intro wz hSz; have hcz := conv_in cap1 (H1.out.below hSz); go_simp; try with_reducible rfl)
  simp only [Act.put, List.setIfInBounds_toArray, List.set_cons_zero, List.set_cons_succ]
  refine wpAnyH_take (i := 4) (oi := { dst := some 25, op := Go.Op.move (Go.Operand.tmp 7), type := 22, pos := "law.go:38", after := #[{ on := 1, ground := Go.Ground.guard }], guard := some (1, true) }) (v := ?_) rfl (by kernel_rfl) (by kernel_rfl) (by kernel_rfl) (fun _ _ _ h => h) (Or.inl ⟨by rfl, ?_⟩) hH1 ?_
  rotate_left
  · (intro wz hSz; (try dsimp only at hSz); go_simp; try with_reducible rfl)
  simp only [Act.put, List.setIfInBounds_toArray, List.set_cons_zero, List.set_cons_succ]
  refine wpAnyH_take (i := 5) (oi := { dst := some 26, op := Go.Op.convert 22 9 (Go.Operand.tmp 25), type := 9, pos := "law.go:38", after := #[{ on := 4, ground := Go.Ground.data }, { on := 1, ground := Go.Ground.guard }], guard := some (1, true) }) (v := ?_) rfl (by kernel_rfl) (by kernel_rfl) (by kernel_rfl) (fun _ _ _ h => h) (Or.inl ⟨by rfl, ?_⟩) hH1 ?_
  rotate_left
  · (intro wz hSz; have hcz := conv_in cap2 (H2.out.below hSz); go_simp; try with_reducible rfl)
  simp only [Act.put, List.setIfInBounds_toArray, List.set_cons_zero, List.set_cons_succ]
  refine wpAnyH_take (i := 6) (oi := { dst := some 27, op := Go.Op.binOp Go.BinOp.eql 9 (Go.Operand.tmp 24) (Go.Operand.tmp 26) 9, type := 4, pos := "law.go:38", after := #[{ on := 3, ground := Go.Ground.data }, { on := 5, ground := Go.Ground.data }, { on := 1, ground := Go.Ground.guard }], guard := some (1, true) }) (v := ?_) rfl (by kernel_rfl) (by kernel_rfl) (by kernel_rfl) (fun _ _ _ h => h) (Or.inl ⟨by rfl, ?_⟩) hH1 ?_
  rotate_left
  · (intro wz hSz; (try dsimp only at hSz); go_simp; try with_reducible rfl)
  simp only [Act.put, List.setIfInBounds_toArray, List.set_cons_zero, List.set_cons_succ]
  refine wpAnyH_take (i := 7) (oi := { dst := some 28, op := Go.Op.pick (Go.Operand.tmp 22) (Go.Operand.tmp 27) (Go.Operand.const (Go.Value.bool false)), type := 4, pos := "law.go:38", after := #[{ on := 1, ground := Go.Ground.data }, { on := 6, ground := Go.Ground.data }], guard := none }) (v := ?_) rfl (by kernel_rfl) (by kernel_rfl) (by kernel_rfl) (fun _ _ _ h => h) (Or.inl ⟨by rfl, ?_⟩) hH1 ?_
  rotate_left
  · (intro wz hSz; (try dsimp only at hSz); go_simp; try with_reducible rfl)
  simp only [Act.put, List.setIfInBounds_toArray, List.set_cons_zero, List.set_cons_succ]
  refine wpAnyH_take (i := 8) (oi := { dst := some 29, op := Go.Op.move (Go.Operand.tmp 28), type := 4, pos := "law.go:38", after := #[{ on := 7, ground := Go.Ground.data }, { on := 1, ground := Go.Ground.chain }], guard := none }) (v := ?_) rfl (by kernel_rfl) (by kernel_rfl) (by kernel_rfl) (fun _ _ _ h => h) (Or.inl ⟨by rfl, ?_⟩) hH1 ?_
  rotate_left
  · (intro wz hSz; (try dsimp only at hSz); go_simp; try with_reducible rfl)
  simp only [Act.put, List.setIfInBounds_toArray, List.set_cons_zero, List.set_cons_succ]
  refine wpAnyH_take (i := 9) (oi := { dst := some 30, op := Go.Op.move (Go.Operand.tmp 6), type := 27, pos := "law.go:38", after := #[{ on := 8, ground := Go.Ground.guard }], guard := some (8, true) }) (v := ?_) rfl (by kernel_rfl) (by kernel_rfl) (by kernel_rfl) (fun _ _ _ h => h) (Or.inl ⟨by rfl, ?_⟩) hH1 ?_
  rotate_left
  · (intro wz hSz; (try dsimp only at hSz); go_simp; try with_reducible rfl)
  simp only [Act.put, List.setIfInBounds_toArray, List.set_cons_zero, List.set_cons_succ]
  refine wpAnyH_take (i := 10) (oi := { dst := some 31, op := Go.Op.move (Go.Operand.tmp 8), type := 27, pos := "law.go:38", after := #[{ on := 8, ground := Go.Ground.guard }], guard := some (8, true) }) (v := ?_) rfl (by kernel_rfl) (by kernel_rfl) (by kernel_rfl) (fun _ _ _ h => h) (Or.inl ⟨by rfl, ?_⟩) hH1 ?_
  rotate_left
  · (intro wz hSz; (try dsimp only at hSz); go_simp; try with_reducible rfl)
  simp only [Act.put, List.setIfInBounds_toArray, List.set_cons_zero, List.set_cons_succ]
  refine wpAnyH_take (i := 11) (oi := { dst := some 32, op := Go.Op.binOp Go.BinOp.eql 27 (Go.Operand.tmp 30) (Go.Operand.tmp 31) 27, type := 4, pos := "law.go:38", after := #[{ on := 9, ground := Go.Ground.data }, { on := 10, ground := Go.Ground.data }, { on := 8, ground := Go.Ground.guard }], guard := some (8, true) }) (v := ?_) rfl (by kernel_rfl) (by kernel_rfl) (by kernel_rfl) (fun _ _ _ h => h) (Or.inl ⟨by rfl, ?_⟩) hH1 ?_
  rotate_left
  · (intro wz hSz; (try dsimp only at hSz); go_simp; try with_reducible rfl)
  simp only [Act.put, List.setIfInBounds_toArray, List.set_cons_zero, List.set_cons_succ]
  refine wpAnyH_take (i := 12) (oi := { dst := some 33, op := Go.Op.pick (Go.Operand.tmp 29) (Go.Operand.tmp 32) (Go.Operand.const (Go.Value.bool false)), type := 4, pos := "law.go:38", after := #[{ on := 8, ground := Go.Ground.data }, { on := 11, ground := Go.Ground.data }], guard := none }) (v := ?_) rfl (by kernel_rfl) (by kernel_rfl) (by kernel_rfl) (fun _ _ _ h => h) (Or.inl ⟨by rfl, ?_⟩) hH1 ?_
  rotate_left
  · (intro wz hSz; (try dsimp only at hSz); go_simp; try with_reducible rfl)
  simp only [Act.put, List.setIfInBounds_toArray, List.set_cons_zero, List.set_cons_succ]
  refine wpAnyH_take (i := 13) (oi := { dst := some 34, op := Go.Op.move (Go.Operand.tmp 33), type := 4, pos := "law.go:38", after := #[{ on := 12, ground := Go.Ground.data }, { on := 8, ground := Go.Ground.chain }], guard := none }) (v := ?_) rfl (by kernel_rfl) (by kernel_rfl) (by kernel_rfl) (fun _ _ _ h => h) (Or.inl ⟨by rfl, ?_⟩) hH1 ?_
  rotate_left
  · (intro wz hSz; (try dsimp only at hSz); go_simp; try with_reducible rfl)
  simp only [Act.put, List.setIfInBounds_toArray, List.set_cons_zero, List.set_cons_succ]
  refine wpAnyH_take (i := 14) (oi := { dst := some 35, op := Go.Op.move (Go.Operand.tmp 0), type := 46, pos := "law.go:38", after := #[{ on := 13, ground := Go.Ground.guard }], guard := some (13, true) }) (v := ?_) rfl (by kernel_rfl) (by kernel_rfl) (by kernel_rfl) (fun _ _ _ h => h) (Or.inl ⟨by rfl, ?_⟩) hH1 ?_
  rotate_left
  · (intro wz hSz; (try dsimp only at hSz); go_simp; try with_reducible rfl)
  simp only [Act.put, List.setIfInBounds_toArray, List.set_cons_zero, List.set_cons_succ]
  refine wpAnyH_take (i := 15) (oi := { dst := some 36, op := Go.Op.load 40 (Go.Operand.tmp 3), type := 40, pos := "law.go:38", after := #[{ on := 13, ground := Go.Ground.guard }], guard := some (13, true) }) (v := ?_) rfl (by kernel_rfl) (by kernel_rfl) (by kernel_rfl) (fun _ _ _ h => h) (Or.inl ⟨by rfl, ?_⟩) hH1 ?_
  rotate_left
  · (intro wz hSz; have hcz := True.intro; obtain ⟨c0, c1⟩ := O.lab_cells ((Below.block hSz _ (L.blk_lt HP.out)).trans HP.out); go_simp; try with_reducible rfl)
  simp only [Act.put, List.setIfInBounds_toArray, List.set_cons_zero, List.set_cons_succ]
  refine wpAnyH_take (i := 17) (oi := { dst := some 38, op := Go.Op.move (Go.Operand.tmp 0), type := 46, pos := "law.go:38", after := #[{ on := 13, ground := Go.Ground.guard }], guard := some (13, true) }) (v := ?_) rfl (by kernel_rfl) (by kernel_rfl) (by kernel_rfl) (fun _ _ _ h => h) (Or.inl ⟨by rfl, ?_⟩) hH1 ?_
  rotate_left
  · (intro wz hSz; (try dsimp only at hSz); go_simp; try with_reducible rfl)
  simp only [Act.put, List.setIfInBounds_toArray, List.set_cons_zero, List.set_cons_succ]
  refine wpAnyH_take (i := 18) (oi := { dst := some 39, op := Go.Op.load 40 (Go.Operand.tmp 3), type := 40, pos := "law.go:38", after := #[{ on := 13, ground := Go.Ground.guard }], guard := some (13, true) }) (v := ?_) rfl (by kernel_rfl) (by kernel_rfl) (by kernel_rfl) (fun _ _ _ h => h) (Or.inl ⟨by rfl, ?_⟩) hH1 ?_
  rotate_left
  · (intro wz hSz; have hcz := True.intro; obtain ⟨c0, c1⟩ := O.lab_cells ((Below.block hSz _ (L.blk_lt HP.out)).trans HP.out); go_simp; try with_reducible rfl)
  simp only [Act.put, List.setIfInBounds_toArray, List.set_cons_zero, List.set_cons_succ]
  refine wpAnyH_ready (rs := [16]) (by kernel_rfl) (by simp) ?_
  refine AllReadyH.cons (o := { dst := some 37, op := Go.Op.call { callee := Go.Callee.value (Go.Operand.func 28), args := #[Go.Operand.tmp 35, Go.Operand.tmp 36], argTypes := #[46, 40] }, type := 27, pos := "law.go:38", after := #[{ on := 14, ground := Go.Ground.data }, { on := 15, ground := Go.Ground.data }, { on := 13, ground := Go.Ground.chain }, { on := 13, ground := Go.Ground.guard }], guard := some (13, true) }) rfl (fun K hK => ?_) AllReadyH.nil
  go_simp
  with_reducible refine (CC.out.at _ (HU.out.below hH1.b)).mono ?_
  rintro r wq2 ⟨rfl, hbq⟩
  go_wp2_with fail
  refine hK.out _ _ (Keeps.trans hH1 hbq) (fun hJ => ?_)
  refine wpAnyH_more (S' := Keeps wq2) (fun z hz => Keeps.trans hJ hz) _ _ _ _ ?_
  replace HB := Lib.hid (HB.out.trans (Below.mono hJ HB.out.size))
  replace HT := Lib.hid (HT.out.later hJ)
  replace HU := Lib.hid (HU.out.below hJ)
  replace HP := Lib.hid ((Below.block hJ _ (L.blk_lt HP.out)).trans HP.out)
  replace H1 := Lib.hid (H1.out.below hJ)
  replace H2 := Lib.hid (H2.out.below hJ)
  have hH2 : Keeps wq2 wq2 := Below.refl _ _
  clear hK K hbq hH1 hJ
  refine wpAnyH_ready (rs := [19]) (by kernel_rfl) (by simp) ?_
  refine AllReadyH.cons (o := { dst := some 40, op := Go.Op.call { callee := Go.Callee.value (Go.Operand.func 29), args := #[Go.Operand.tmp 38, Go.Operand.tmp 39], argTypes := #[46, 40] }, type := 27, pos := "law.go:38", after := #[{ on := 17, ground := Go.Ground.data }, { on := 18, ground := Go.Ground.data }, { on := 16, ground := Go.Ground.chain }, { on := 13, ground := Go.Ground.guard }], guard := some (13, true) }) rfl (fun K hK => ?_) AllReadyH.nil
  go_simp
  with_reducible refine (CR.out.at _ (HU.out.below hH2.b)).mono ?_
  rintro r wq3 ⟨rfl, hbq⟩
  go_wp2_with fail
  refine hK.out _ _ (Keeps.trans hH2 hbq) (fun hJ => ?_)
  refine wpAnyH_more (S' := Keeps wq3) (fun z hz => Keeps.trans hJ hz) _ _ _ _ ?_
  replace HB := Lib.hid (HB.out.trans (Below.mono hJ HB.out.size))
  replace HT := Lib.hid (HT.out.later hJ)
  replace HU := Lib.hid (HU.out.below hJ)
  replace HP := Lib.hid ((Below.block hJ _ (L.blk_lt HP.out)).trans HP.out)
  replace H1 := Lib.hid (H1.out.below hJ)
  replace H2 := Lib.hid (H2.out.below hJ)
  have hH3 : Keeps wq3 wq3 := Below.refl _ _
  clear hK K hbq hH2 hJ
  refine wpAnyH_take (i := 20) (oi := { dst := some 41, op := Go.Op.binOp Go.BinOp.eql 27 (Go.Operand.tmp 37) (Go.Operand.tmp 40) 27, type := 4, pos := "law.go:38", after := #[{ on := 16, ground := Go.Ground.data }, { on := 19, ground := Go.Ground.data }, { on := 13, ground := Go.Ground.guard }], guard := some (13, true) }) (v := ?_) rfl (by kernel_rfl) (by kernel_rfl) (by kernel_rfl) (fun _ _ _ h => h) (Or.inl ⟨by rfl, ?_⟩) hH3 ?_
  rotate_left
  · (intro wz hSz; (try dsimp only at hSz); go_simp; try with_reducible rfl)
  simp only [Act.put, List.setIfInBounds_toArray, List.set_cons_zero, List.set_cons_succ]
  refine wpAnyH_take (i := 21) (oi := { dst := some 42, op := Go.Op.pick (Go.Operand.tmp 34) (Go.Operand.tmp 41) (Go.Operand.const (Go.Value.bool false)), type := 4, pos := "law.go:38", after := #[{ on := 13, ground := Go.Ground.data }, { on := 20, ground := Go.Ground.data }], guard := none }) (v := ?_) rfl (by kernel_rfl) (by kernel_rfl) (by kernel_rfl) (fun _ _ _ h => h) (Or.inl ⟨by rfl, ?_⟩) hH3 ?_
  rotate_left
  · (intro wz hSz; (try dsimp only at hSz); go_simp; try with_reducible rfl)
  simp only [Act.put, List.setIfInBounds_toArray, List.set_cons_zero, List.set_cons_succ]
  refine wpAnyH_take (i := 22) (oi := { dst := some 4, op := Go.Op.assign (Go.Operand.tmp 42), type := 4, pos := "law.go:38", after := #[{ on := 21, ground := Go.Ground.data }, { on := 19, ground := Go.Ground.chain }, { on := 0, ground := Go.Ground.phase }, { on := 1, ground := Go.Ground.phase }, { on := 2, ground := Go.Ground.phase }, { on := 3, ground := Go.Ground.phase }, { on := 4, ground := Go.Ground.phase }, { on := 5, ground := Go.Ground.phase }, { on := 6, ground := Go.Ground.phase }, { on := 7, ground := Go.Ground.phase }, { on := 8, ground := Go.Ground.phase }, { on := 9, ground := Go.Ground.phase }, { on := 10, ground := Go.Ground.phase }, { on := 11, ground := Go.Ground.phase }, { on := 12, ground := Go.Ground.phase }, { on := 13, ground := Go.Ground.phase }, { on := 14, ground := Go.Ground.phase }, { on := 15, ground := Go.Ground.phase }, { on := 16, ground := Go.Ground.phase }, { on := 17, ground := Go.Ground.phase }, { on := 18, ground := Go.Ground.phase }, { on := 19, ground := Go.Ground.phase }, { on := 20, ground := Go.Ground.phase }, { on := 21, ground := Go.Ground.phase }], guard := none }) (v := ?_) rfl (by kernel_rfl) (by kernel_rfl) (by kernel_rfl) (fun _ _ _ h => h) (Or.inl ⟨by rfl, ?_⟩) hH3 ?_
  rotate_left
  · (intro wz hSz; (try dsimp only at hSz); go_simp; try with_reducible rfl)
  simp only [Act.put, List.setIfInBounds_toArray, List.set_cons_zero, List.set_cons_succ]
  refine wpAnyH_done (by kernel_rfl) ?_ _
  go_wp2_with fail
  go_ret
  exact ⟨rfl, HB.out⟩
theorem iprints_walk (A : Option Addr) (cap : Nat) (l : List It) (fl : Lb) (hfl : fl.2 < 18446744073709551616) (w : World) (hA : ItemsIn w A l) (hok : ItemsOk l) (hT : Tab w) :
    Calls Tryd.prog 7 #[.slice A l.length cap, L.lab fl.1 fl.2] w fun e w' => e = .returned (.bool true) ∧ Below w.heap.size w w' :=
  iprints_law (t := prBytes (print fl l)) (v := prErr (print fl l)) (c := check fl l) (Lib.hid hT) (Lib.hid hA)
    (Lib.hid fun W h1 h2 => (pn_is A cap l fl hfl W h1 hok h2).call.mono fun _ _ ⟨A', cap', he, ho, hb⟩ => ⟨A', cap', he, (bytes_own ho).1, hb⟩)
    (Lib.hid fun W h1 => (refPrint4_any A cap l fl W hfl h1 hok).mono fun _ _ ⟨hb, A', cap', he, hi⟩ => ⟨A', cap', he, hi, hb⟩)
    (Lib.hid fun W h1 => check_any A cap l fl W hfl h1 hok)
    (Lib.hid fun W h1 => refCheck_any A cap l fl W hfl h1 hok)
end Go.Proofs.YtadhhamfikpimaaDoor.I
