/-
  The law TallyFits, walked.
-/
import Derived.Test.YtmddikabilnokaaGyg
import Derived.Test.YtmddikabilnokaaGLawTaBlind
import Derived.Test.YtmddikabilnokaaGyc
import Derived.Deep.QuietTactic
import Derived.BigQuiet
namespace Go.Proofs.Ytmddikabilnokaa.Ta
set_option linter.unusedVariables false
set_option linter.unusedSimpArgs false
open Go.RowKit
open T
open I (It Lb ItemsIn ItemsAt ItemsOk itCells alloc1 own_at own_below items_own)
open V (grown_of drawn_below ItAt it_at)

/-- Contracts in one form. -/
def OvC (fn : FuncId) (A : Option Addr) (n cap : Nat) (l : List It) (q : Int) (o : List Lb) : Prop := ∀ w : World, ItemsIn w A l → Calls Try.prog fn #[.slice A n cap, .int .i64 q] w fun e w' => ∃ B c, e = .returned (.slice B o.length c) ∧ LabsIn w' B o ∧ Below w.heap.size w w'
theorem OvC.call {fn : FuncId} {A : Option Addr} {n cap : Nat} {l : List It} {q : Int} {o : List Lb} (h : OvC fn A n cap l q o) (w : World) (hI : ItemsIn w A l) : Calls Try.prog fn #[.slice A n cap, .int .i64 q] w fun e w' => ∃ B c, e = .returned (.slice B o.length c) ∧ LabsIn w' B o ∧ Below w.heap.size w w' := h w hI
def GwC (fn : FuncId) (A B : Option Addr) (n cap m bcap : Nat) (l r : List It) (a0 : Int) (a1 : Nat) (v : Int) : Prop := ∀ w : World, ItemsIn w A l → ItemsIn w B r → Calls Try.prog fn #[.slice A n cap, .slice B m bcap, .agg #[.int .i64 a0, .int .u64 (a1 : Int)]] w fun e w' => e = .returned (.int .i64 v) ∧ Below w.heap.size w w'
theorem GwC.call {fn : FuncId} {A B : Option Addr} {n cap m bcap : Nat} {l r : List It} {a0 : Int} {a1 : Nat} {v : Int} (h : GwC fn A B n cap m bcap l r a0 a1 v) (w : World) (hI : ItemsIn w A l) (hM : ItemsIn w B r) : Calls Try.prog fn #[.slice A n cap, .slice B m bcap, .agg #[.int .i64 a0, .int .u64 (a1 : Int)]] w fun e w' => e = .returned (.int .i64 v) ∧ Below w.heap.size w w' := h w hI hM
def SlC (o : List Lb) : Prop := ∀ (w : World) (A B : Option Addr) {c c' : Nat}, LabsIn w A o → LabsIn w B o → Calls Try.prog 16 #[.slice A o.length c, .slice B o.length c'] w fun e w' => e = .returned (.bool true) ∧ Below w.heap.size w w'
set_option maxRecDepth 100000 in
set_option maxHeartbeats 8000000 in
theorem tfits_walk {A B : Option Addr} {n cap k n2 bcap k2 p z : Nat} {l r : List It} {o : List Lb} {q a0 : Int} {a1 : Nat} {w : World} (hA : ItemsIn w A l) (hM : ItemsIn w B r) (hp : p ≤ 1000) (hz : z ≤ 1000)
    (HFW : Hid (∀ w : World, Calls Try.prog 7 #[.slice A n cap] w fun e w' => e = .returned (.slice A k cap) ∧ w' = w)) (HFW2 : Hid (∀ w : World, Calls Try.prog 7 #[.slice B n2 bcap] w fun e w' => e = .returned (.slice B k2 bcap) ∧ w' = w))
    (HLV : Hid (LvC 10)) (HRO : Hid (OvC 15 A k cap l q o)) (HOV : Hid (OvC 17 A k cap l q o)) (HSL : Hid (SlC o)) (HFT : Hid (FtC 18 A k cap l q (decide (o.length = 0))))
    (HGR : Hid (GwC 19 A B k cap k2 bcap l r a0 a1 ((z : Int) - (p : Int)))) (HLL : Hid (LcC 12 A k cap l a0 a1 p)) (HLM : Hid (LcC 12 B k2 bcap r a0 a1 z)) :
    Calls Try.prog 4 #[.slice A n cap, .slice B n2 bcap, .int .i64 q, .agg #[.int .i64 a0, .int .u64 (a1 : Int)]] w fun e w' => e = .returned (.bool true) ∧ Below w.heap.size w w' := by
  obtain ⟨w1, hw1⟩ : ∃ W : World, W = w.alloc (.cells #[.int .i64 a0, .int .u64 (a1 : Int)] 25) := ⟨_, rfl⟩
  have hb1 : Below w.heap.size w w1 := by rw [hw1]; exact alloc1 _ _
  have HXA := Lib.hid (show w1.heap[w.heap.size]? = some (.cells #[.int .i64 a0, .int .u64 (a1 : Int)] 25 (0, 0)) by rw [hw1]; exact heap_alloc_new w _)
  have HI := Lib.hid (hA.below hb1)
  have HM := Lib.hid (hM.below hb1)
  have HB0 := Lib.hid hb1
  have hwz : IntKind.i64.wrap ((z : Int) - (p : Int)) = (z : Int) - (p : Int) := by rw [IntKind.wrap_i64]; omega
  clear hb1 hA hM
  go_enter Try.func4, Try.ntmps4
  go_upto_region 1 with fail
  rw [← hw1]
  obtain ⟨xa, hxa⟩ : ∃ q, q = w.heap.size := ⟨_, rfl⟩
  rw [← hxa] at HXA
  simp only [← hxa]
  clear hw1 hxa
  go_wp2_with fail
  refine (HFW.out _).mono ?_
  rintro e w' ⟨rfl, rfl⟩
  go_wp2_with fail
  refine (HFW2.out _).mono ?_
  rintro e w'' ⟨rfl, rfl⟩
  go_wp2_with fail
  refine (HRO.out.call _ HI.out).mono ?_
  rintro e wr ⟨O1, oc1, rfl, hi1, hb2⟩
  have HO1 := Lib.hid hi1
  replace HI := Lib.hid (HI.out.below hb2)
  replace HM := Lib.hid (HM.out.below hb2)
  replace HXA := Lib.hid ((hb2.block _ (L.blk_lt HXA.out)).trans HXA.out)
  have HB1 := Lib.hid (HB0.out.trans (hb2.mono HB0.out.size))
  clear hi1 hb2 HB0 HFW HFW2 HRO
  go_upto_region 3 with fail
  obtain ⟨d, hd⟩ : ∃ d, d = o.length := ⟨_, rfl⟩
  have HSD : Hid (∀ (w : World) (A B : Option Addr) (c c' : Nat), LabsIn w A o → LabsIn w B o → Calls Try.prog 16 #[.slice A d c, .slice B d c'] w fun e w' => e = .returned (.bool true) ∧ Below w.heap.size w w') := Lib.hid (by rw [hd]; exact fun w A B c c' => HSL.out w A B)
  have HOD : Hid (∀ w : World, ItemsIn w A l → Calls Try.prog 17 #[.slice A k cap, .int .i64 q] w fun e w' => ∃ B c, e = .returned (.slice B d c) ∧ LabsIn w' B o ∧ Below w.heap.size w w') := Lib.hid (by rw [hd]; exact HOV.out)
  simp only [← hd] at *
  clear hd HOV HSL
  by_cases h0 : d = 0
  · subst h0
    have HFT' := Lib.hid (show FtC 18 A k cap l q true from HFT.out)
    clear HFT
    refine wp_region_held_drew (S := (Keeps wr)) (by kernel_rfl) (keeps_drew _) (fun hK0 => ?_)
    refine wpAnyH_ready (rs := [0]) (by kernel_rfl) (by simp) ?_
    refine AllReadyH.cons (o := { dst := some 17, op := Go.Op.call { callee := Go.Callee.value (Go.Operand.func 10), args := #[], argTypes := #[] }, type := 4, pos := "law.go:44", after := #[], guard := none }) rfl (fun K hK => ?_) AllReadyH.nil
    go_simp
    with_reducible refine (HLV.out.call _).mono ?_
    rintro r wq1 ⟨rfl, hbq⟩
    go_wp2_with fail
    refine hK.out _ _ (Keeps.trans hK0 hbq) (fun hK1 => ?_)
    clear hK K hbq hK0
    refine wpAnyH_take (i := 1) (oi := { dst := some 18, op := Go.Op.move (Go.Operand.tmp 17), type := 4, pos := "law.go:44", after := #[{ on := 0, ground := Go.Ground.data }, { on := 0, ground := Go.Ground.chain }], guard := none }) (v := ?_) rfl (by kernel_rfl) (by kernel_rfl) (by kernel_rfl) (fun _ _ _ h => h) (Or.inl ⟨by rfl, ?_⟩) hK1 ?_
    rotate_left
    · (intro wz hSz; (try dsimp only at hSz); go_simp; try with_reducible rfl)
    simp only [Act.put, List.setIfInBounds_toArray, List.set_cons_zero, List.set_cons_succ]
    refine wpAnyH_take (i := 2) (oi := { dst := some 19, op := Go.Op.move (Go.Operand.tmp 0), type := 22, pos := "law.go:44", after := #[{ on := 1, ground := Go.Ground.guard }], guard := some (1, true) }) (v := ?_) rfl (by kernel_rfl) (by kernel_rfl) (by kernel_rfl) (fun _ _ _ h => h) (Or.inl ⟨by rfl, ?_⟩) hK1 ?_
    rotate_left
    · (intro wz hSz; (try dsimp only at hSz); go_simp; try with_reducible rfl)
    simp only [Act.put, List.setIfInBounds_toArray, List.set_cons_zero, List.set_cons_succ]
    refine wpAnyH_take (i := 3) (oi := { dst := some 20, op := Go.Op.move (Go.Operand.tmp 2), type := 3, pos := "law.go:44", after := #[{ on := 1, ground := Go.Ground.guard }], guard := some (1, true) }) (v := ?_) rfl (by kernel_rfl) (by kernel_rfl) (by kernel_rfl) (fun _ _ _ h => h) (Or.inl ⟨by rfl, ?_⟩) hK1 ?_
    rotate_left
    · (intro wz hSz; (try dsimp only at hSz); go_simp; try with_reducible rfl)
    simp only [Act.put, List.setIfInBounds_toArray, List.set_cons_zero, List.set_cons_succ]
    refine wpAnyH_take (i := 5) (oi := { dst := some 22, op := Go.Op.move (Go.Operand.tmp 9), type := 35, pos := "law.go:44", after := #[{ on := 1, ground := Go.Ground.guard }], guard := some (1, true) }) (v := ?_) rfl (by kernel_rfl) (by kernel_rfl) (by kernel_rfl) (fun _ _ _ h => h) (Or.inl ⟨by rfl, ?_⟩) hK1 ?_
    rotate_left
    · (intro wz hSz; (try dsimp only at hSz); go_simp; try with_reducible rfl)
    simp only [Act.put, List.setIfInBounds_toArray, List.set_cons_zero, List.set_cons_succ]
    refine wpAnyH_ready (rs := [4]) (by kernel_rfl) (by simp) ?_
    refine AllReadyH.cons (o := { dst := some 21, op := Go.Op.call { callee := Go.Callee.value (Go.Operand.func 17), args := #[Go.Operand.tmp 19, Go.Operand.tmp 20], argTypes := #[22, 3] }, type := 35, pos := "law.go:44", after := #[{ on := 2, ground := Go.Ground.data }, { on := 3, ground := Go.Ground.data }, { on := 1, ground := Go.Ground.chain }, { on := 1, ground := Go.Ground.guard }], guard := some (1, true) }) rfl (fun K hK => ?_) AllReadyH.nil
    go_simp
    with_reducible refine (HOD.out _ (HI.out.below (Keeps.b hK1))).mono ?_
    rintro r wq2 ⟨O2, oc2, rfl, hi2, hbq⟩
    go_wp2_with fail
    have HO2 := Lib.hid hi2
    clear hi2
    refine hK.out _ _ (Keeps.trans hK1 hbq) (fun hK2 => ?_)
    clear hK K hbq hK1
    refine wpAnyH_ready (rs := [6]) (by kernel_rfl) (by simp) ?_
    refine AllReadyH.cons (o := { dst := some 23, op := Go.Op.call { callee := Go.Callee.value (Go.Operand.func 16), args := #[Go.Operand.tmp 21, Go.Operand.tmp 22], argTypes := #[35, 35] }, type := 4, pos := "law.go:44", after := #[{ on := 4, ground := Go.Ground.data }, { on := 5, ground := Go.Ground.data }, { on := 4, ground := Go.Ground.chain }, { on := 1, ground := Go.Ground.guard }], guard := some (1, true) }) rfl (fun K hK => ?_) AllReadyH.nil
    go_simp
    with_reducible refine (HSD.out _ _ _ _ _ HO2.out (HO1.out.below (Keeps.b hK2))).mono ?_
    rintro r wq3 ⟨rfl, hbq⟩
    go_wp2_with fail
    refine hK.out _ _ (Keeps.trans hK2 hbq) (fun hK3 => ?_)
    clear hK K hbq hK2
    refine wpAnyH_take (i := 7) (oi := { dst := some 24, op := Go.Op.pick (Go.Operand.tmp 18) (Go.Operand.tmp 23) (Go.Operand.const (Go.Value.bool false)), type := 4, pos := "law.go:44", after := #[{ on := 1, ground := Go.Ground.data }, { on := 6, ground := Go.Ground.data }], guard := none }) (v := ?_) rfl (by kernel_rfl) (by kernel_rfl) (by kernel_rfl) (fun _ _ _ h => h) (Or.inl ⟨by rfl, ?_⟩) hK3 ?_
    rotate_left
    · (intro wz hSz; (try dsimp only at hSz); go_simp; try with_reducible rfl)
    simp only [Act.put, List.setIfInBounds_toArray, List.set_cons_zero, List.set_cons_succ]
    refine wpAnyH_take (i := 8) (oi := { dst := some 25, op := Go.Op.move (Go.Operand.tmp 24), type := 4, pos := "law.go:44", after := #[{ on := 7, ground := Go.Ground.data }, { on := 6, ground := Go.Ground.chain }], guard := none }) (v := ?_) rfl (by kernel_rfl) (by kernel_rfl) (by kernel_rfl) (fun _ _ _ h => h) (Or.inl ⟨by rfl, ?_⟩) hK3 ?_
    rotate_left
    · (intro wz hSz; (try dsimp only at hSz); go_simp; try with_reducible rfl)
    simp only [Act.put, List.setIfInBounds_toArray, List.set_cons_zero, List.set_cons_succ]
    refine wpAnyH_take (i := 9) (oi := { dst := some 26, op := Go.Op.move (Go.Operand.tmp 0), type := 22, pos := "law.go:44", after := #[{ on := 8, ground := Go.Ground.guard }], guard := some (8, true) }) (v := ?_) rfl (by kernel_rfl) (by kernel_rfl) (by kernel_rfl) (fun _ _ _ h => h) (Or.inl ⟨by rfl, ?_⟩) hK3 ?_
    rotate_left
    · (intro wz hSz; (try dsimp only at hSz); go_simp; try with_reducible rfl)
    simp only [Act.put, List.setIfInBounds_toArray, List.set_cons_zero, List.set_cons_succ]
    refine wpAnyH_take (i := 10) (oi := { dst := some 27, op := Go.Op.move (Go.Operand.tmp 2), type := 3, pos := "law.go:44", after := #[{ on := 8, ground := Go.Ground.guard }], guard := some (8, true) }) (v := ?_) rfl (by kernel_rfl) (by kernel_rfl) (by kernel_rfl) (fun _ _ _ h => h) (Or.inl ⟨by rfl, ?_⟩) hK3 ?_
    rotate_left
    · (intro wz hSz; (try dsimp only at hSz); go_simp; try with_reducible rfl)
    simp only [Act.put, List.setIfInBounds_toArray, List.set_cons_zero, List.set_cons_succ]
    refine wpAnyH_take (i := 12) (oi := { dst := some 29, op := Go.Op.move (Go.Operand.tmp 9), type := 35, pos := "law.go:44", after := #[{ on := 8, ground := Go.Ground.guard }], guard := some (8, true) }) (v := ?_) rfl (by kernel_rfl) (by kernel_rfl) (by kernel_rfl) (fun _ _ _ h => h) (Or.inl ⟨by rfl, ?_⟩) hK3 ?_
    rotate_left
    · (intro wz hSz; (try dsimp only at hSz); go_simp; try with_reducible rfl)
    simp only [Act.put, List.setIfInBounds_toArray, List.set_cons_zero, List.set_cons_succ]
    refine wpAnyH_take (i := 13) (oi := { dst := some 30, op := Go.Op.call { callee := Go.Callee.builtin Go.Builtin.len, args := #[Go.Operand.tmp 29], argTypes := #[35] }, type := 3, pos := "law.go:44", after := #[{ on := 12, ground := Go.Ground.data }, { on := 8, ground := Go.Ground.guard }], guard := some (8, true) }) (v := ?_) rfl (by kernel_rfl) (by kernel_rfl) (by kernel_rfl) (fun _ _ _ h => h) (Or.inl ⟨by rfl, ?_⟩) hK3 ?_
    rotate_left
    · (intro wz hSz; (try dsimp only at hSz); go_simp; try with_reducible rfl)
    simp only [Act.put, List.setIfInBounds_toArray, List.set_cons_zero, List.set_cons_succ]
    refine wpAnyH_take (i := 14) (oi := { dst := some 31, op := Go.Op.binOp Go.BinOp.eql 3 (Go.Operand.tmp 30) (Go.Operand.const (Go.Value.int Go.IntKind.i64 0)) 3, type := 4, pos := "law.go:44", after := #[{ on := 13, ground := Go.Ground.data }, { on := 8, ground := Go.Ground.guard }], guard := some (8, true) }) (v := ?_) rfl (by kernel_rfl) (by kernel_rfl) (by kernel_rfl) (fun _ _ _ h => h) (Or.inl ⟨by rfl, ?_⟩) hK3 ?_
    rotate_left
    · (intro wz hSz; (try dsimp only at hSz); go_simp; try with_reducible rfl)
    simp only [Act.put, List.setIfInBounds_toArray, List.set_cons_zero, List.set_cons_succ]
    refine wpAnyH_ready (rs := [11]) (by kernel_rfl) (by simp) ?_
    refine AllReadyH.cons (o := { dst := some 28, op := Go.Op.call { callee := Go.Callee.value (Go.Operand.func 18), args := #[Go.Operand.tmp 26, Go.Operand.tmp 27], argTypes := #[22, 3] }, type := 4, pos := "law.go:44", after := #[{ on := 9, ground := Go.Ground.data }, { on := 10, ground := Go.Ground.data }, { on := 8, ground := Go.Ground.chain }, { on := 8, ground := Go.Ground.guard }], guard := some (8, true) }) rfl (fun K hK => ?_) AllReadyH.nil
    go_simp
    with_reducible refine (HFT'.out.call _ (HI.out.below (Keeps.b hK3))).mono ?_
    rintro r wq4 ⟨rfl, hbq⟩
    go_wp2_with fail
    refine hK.out _ _ (Keeps.trans hK3 hbq) (fun hK4 => ?_)
    clear hK K hbq hK3
    refine wpAnyH_take (i := 15) (oi := { dst := some 32, op := Go.Op.binOp Go.BinOp.eql 4 (Go.Operand.tmp 28) (Go.Operand.tmp 31) 4, type := 4, pos := "law.go:44", after := #[{ on := 11, ground := Go.Ground.data }, { on := 14, ground := Go.Ground.data }, { on := 8, ground := Go.Ground.guard }], guard := some (8, true) }) (v := ?_) rfl (by kernel_rfl) (by kernel_rfl) (by kernel_rfl) (fun _ _ _ h => h) (Or.inl ⟨by rfl, ?_⟩) hK4 ?_
    rotate_left
    · (intro wz hSz; (try dsimp only at hSz); go_simp; try with_reducible rfl)
    simp only [Act.put, List.setIfInBounds_toArray, List.set_cons_zero, List.set_cons_succ]
    refine wpAnyH_take (i := 16) (oi := { dst := some 33, op := Go.Op.pick (Go.Operand.tmp 25) (Go.Operand.tmp 32) (Go.Operand.const (Go.Value.bool false)), type := 4, pos := "law.go:44", after := #[{ on := 8, ground := Go.Ground.data }, { on := 15, ground := Go.Ground.data }], guard := none }) (v := ?_) rfl (by kernel_rfl) (by kernel_rfl) (by kernel_rfl) (fun _ _ _ h => h) (Or.inl ⟨by rfl, ?_⟩) hK4 ?_
    rotate_left
    · (intro wz hSz; (try dsimp only at hSz); go_simp; try with_reducible rfl)
    simp only [Act.put, List.setIfInBounds_toArray, List.set_cons_zero, List.set_cons_succ]
    refine wpAnyH_take (i := 17) (oi := { dst := some 34, op := Go.Op.move (Go.Operand.tmp 33), type := 4, pos := "law.go:44", after := #[{ on := 16, ground := Go.Ground.data }, { on := 11, ground := Go.Ground.chain }], guard := none }) (v := ?_) rfl (by kernel_rfl) (by kernel_rfl) (by kernel_rfl) (fun _ _ _ h => h) (Or.inl ⟨by rfl, ?_⟩) hK4 ?_
    rotate_left
    · (intro wz hSz; (try dsimp only at hSz); go_simp; try with_reducible rfl)
    simp only [Act.put, List.setIfInBounds_toArray, List.set_cons_zero, List.set_cons_succ]
    refine wpAnyH_take (i := 18) (oi := { dst := some 35, op := Go.Op.move (Go.Operand.tmp 0), type := 22, pos := "law.go:44", after := #[{ on := 17, ground := Go.Ground.guard }], guard := some (17, true) }) (v := ?_) rfl (by kernel_rfl) (by kernel_rfl) (by kernel_rfl) (fun _ _ _ h => h) (Or.inl ⟨by rfl, ?_⟩) hK4 ?_
    rotate_left
    · (intro wz hSz; (try dsimp only at hSz); go_simp; try with_reducible rfl)
    simp only [Act.put, List.setIfInBounds_toArray, List.set_cons_zero, List.set_cons_succ]
    refine wpAnyH_take (i := 19) (oi := { dst := some 36, op := Go.Op.move (Go.Operand.tmp 1), type := 22, pos := "law.go:44", after := #[{ on := 17, ground := Go.Ground.guard }], guard := some (17, true) }) (v := ?_) rfl (by kernel_rfl) (by kernel_rfl) (by kernel_rfl) (fun _ _ _ h => h) (Or.inl ⟨by rfl, ?_⟩) hK4 ?_
    rotate_left
    · (intro wz hSz; (try dsimp only at hSz); go_simp; try with_reducible rfl)
    simp only [Act.put, List.setIfInBounds_toArray, List.set_cons_zero, List.set_cons_succ]
    refine wpAnyH_take (i := 20) (oi := { dst := some 37, op := Go.Op.load 25 (Go.Operand.tmp 7), type := 25, pos := "law.go:44", after := #[{ on := 17, ground := Go.Ground.guard }], guard := some (17, true) }) (v := ?_) rfl (by kernel_rfl) (by kernel_rfl) (by kernel_rfl) (fun _ _ _ h => h) (Or.inl ⟨by rfl, ?_⟩) hK4 ?_
    rotate_left
    · (intro wz hSz; have hxz := ((Keeps.b hSz).block _ (L.blk_lt HXA.out)).trans HXA.out; have hcz := L.blk_cell hxz 0; have hcz2 := L.blk_cell hxz 1; simp only [List.getElem?_toArray, List.getElem?_cons_zero, List.getElem?_cons_succ] at hcz hcz2; go_simp; try with_reducible rfl)
    simp only [Act.put, List.setIfInBounds_toArray, List.set_cons_zero, List.set_cons_succ]
    refine wpAnyH_take (i := 22) (oi := { dst := some 39, op := Go.Op.move (Go.Operand.tmp 1), type := 22, pos := "law.go:44", after := #[{ on := 17, ground := Go.Ground.guard }], guard := some (17, true) }) (v := ?_) rfl (by kernel_rfl) (by kernel_rfl) (by kernel_rfl) (fun _ _ _ h => h) (Or.inl ⟨by rfl, ?_⟩) hK4 ?_
    rotate_left
    · (intro wz hSz; (try dsimp only at hSz); go_simp; try with_reducible rfl)
    simp only [Act.put, List.setIfInBounds_toArray, List.set_cons_zero, List.set_cons_succ]
    refine wpAnyH_take (i := 23) (oi := { dst := some 40, op := Go.Op.load 25 (Go.Operand.tmp 7), type := 25, pos := "law.go:44", after := #[{ on := 17, ground := Go.Ground.guard }], guard := some (17, true) }) (v := ?_) rfl (by kernel_rfl) (by kernel_rfl) (by kernel_rfl) (fun _ _ _ h => h) (Or.inl ⟨by rfl, ?_⟩) hK4 ?_
    rotate_left
    · (intro wz hSz; have hxz := ((Keeps.b hSz).block _ (L.blk_lt HXA.out)).trans HXA.out; have hcz := L.blk_cell hxz 0; have hcz2 := L.blk_cell hxz 1; simp only [List.getElem?_toArray, List.getElem?_cons_zero, List.getElem?_cons_succ] at hcz hcz2; go_simp; try with_reducible rfl)
    simp only [Act.put, List.setIfInBounds_toArray, List.set_cons_zero, List.set_cons_succ]
    refine wpAnyH_take (i := 25) (oi := { dst := some 42, op := Go.Op.move (Go.Operand.tmp 0), type := 22, pos := "law.go:44", after := #[{ on := 17, ground := Go.Ground.guard }], guard := some (17, true) }) (v := ?_) rfl (by kernel_rfl) (by kernel_rfl) (by kernel_rfl) (fun _ _ _ h => h) (Or.inl ⟨by rfl, ?_⟩) hK4 ?_
    rotate_left
    · (intro wz hSz; (try dsimp only at hSz); go_simp; try with_reducible rfl)
    simp only [Act.put, List.setIfInBounds_toArray, List.set_cons_zero, List.set_cons_succ]
    refine wpAnyH_take (i := 26) (oi := { dst := some 43, op := Go.Op.load 25 (Go.Operand.tmp 7), type := 25, pos := "law.go:44", after := #[{ on := 17, ground := Go.Ground.guard }], guard := some (17, true) }) (v := ?_) rfl (by kernel_rfl) (by kernel_rfl) (by kernel_rfl) (fun _ _ _ h => h) (Or.inl ⟨by rfl, ?_⟩) hK4 ?_
    rotate_left
    · (intro wz hSz; have hxz := ((Keeps.b hSz).block _ (L.blk_lt HXA.out)).trans HXA.out; have hcz := L.blk_cell hxz 0; have hcz2 := L.blk_cell hxz 1; simp only [List.getElem?_toArray, List.getElem?_cons_zero, List.getElem?_cons_succ] at hcz hcz2; go_simp; try with_reducible rfl)
    simp only [Act.put, List.setIfInBounds_toArray, List.set_cons_zero, List.set_cons_succ]
    refine wpAnyH_ready (rs := [21]) (by kernel_rfl) (by simp) ?_
    refine AllReadyH.cons (o := { dst := some 38, op := Go.Op.call { callee := Go.Callee.value (Go.Operand.func 19), args := #[Go.Operand.tmp 35, Go.Operand.tmp 36, Go.Operand.tmp 37], argTypes := #[22, 22, 25] }, type := 3, pos := "law.go:44", after := #[{ on := 18, ground := Go.Ground.data }, { on := 19, ground := Go.Ground.data }, { on := 20, ground := Go.Ground.data }, { on := 17, ground := Go.Ground.chain }, { on := 17, ground := Go.Ground.guard }], guard := some (17, true) }) rfl (fun K hK => ?_) AllReadyH.nil
    go_simp
    with_reducible refine (HGR.out.call _ (HI.out.below (Keeps.b hK4)) (HM.out.below (Keeps.b hK4))).mono ?_
    rintro r wq5 ⟨rfl, hbq⟩
    go_wp2_with fail
    refine hK.out _ _ (Keeps.trans hK4 hbq) (fun hK5 => ?_)
    clear hK K hbq hK4
    refine wpAnyH_ready (rs := [24]) (by kernel_rfl) (by simp) ?_
    refine AllReadyH.cons (o := { dst := some 41, op := Go.Op.call { callee := Go.Callee.value (Go.Operand.func 12), args := #[Go.Operand.tmp 39, Go.Operand.tmp 40], argTypes := #[22, 25] }, type := 3, pos := "law.go:44", after := #[{ on := 22, ground := Go.Ground.data }, { on := 23, ground := Go.Ground.data }, { on := 21, ground := Go.Ground.chain }, { on := 17, ground := Go.Ground.guard }], guard := some (17, true) }) rfl (fun K hK => ?_) AllReadyH.nil
    go_simp
    with_reducible refine (HLM.out.call _ (HM.out.below (Keeps.b hK5))).mono ?_
    rintro r wq6 ⟨rfl, hbq⟩
    go_wp2_with fail
    refine hK.out _ _ (Keeps.trans hK5 hbq) (fun hK6 => ?_)
    clear hK K hbq hK5
    refine wpAnyH_ready (rs := [27]) (by kernel_rfl) (by simp) ?_
    refine AllReadyH.cons (o := { dst := some 44, op := Go.Op.call { callee := Go.Callee.value (Go.Operand.func 12), args := #[Go.Operand.tmp 42, Go.Operand.tmp 43], argTypes := #[22, 25] }, type := 3, pos := "law.go:44", after := #[{ on := 25, ground := Go.Ground.data }, { on := 26, ground := Go.Ground.data }, { on := 24, ground := Go.Ground.chain }, { on := 17, ground := Go.Ground.guard }], guard := some (17, true) }) rfl (fun K hK => ?_) AllReadyH.nil
    go_simp
    with_reducible refine (HLL.out.call _ (HI.out.below (Keeps.b hK6))).mono ?_
    rintro r wq7 ⟨rfl, hbq⟩
    go_wp2_with fail
    refine hK.out _ _ (Keeps.trans hK6 hbq) (fun hK7 => ?_)
    clear hK K hbq hK6
    refine wpAnyH_take (i := 28) (oi := { dst := some 45, op := Go.Op.binOp Go.BinOp.sub 3 (Go.Operand.tmp 41) (Go.Operand.tmp 44) 3, type := 3, pos := "law.go:44", after := #[{ on := 24, ground := Go.Ground.data }, { on := 27, ground := Go.Ground.data }, { on := 17, ground := Go.Ground.guard }], guard := some (17, true) }) (v := ?_) rfl (by kernel_rfl) (by kernel_rfl) (by kernel_rfl) (fun _ _ _ h => h) (Or.inl ⟨by rfl, ?_⟩) hK7 ?_
    rotate_left
    · (intro wz hSz; (try dsimp only at hSz); go_simp; try with_reducible rfl)
    simp only [Act.put, List.setIfInBounds_toArray, List.set_cons_zero, List.set_cons_succ]
    refine wpAnyH_take (i := 29) (oi := { dst := some 46, op := Go.Op.binOp Go.BinOp.eql 3 (Go.Operand.tmp 38) (Go.Operand.tmp 45) 3, type := 4, pos := "law.go:44", after := #[{ on := 21, ground := Go.Ground.data }, { on := 28, ground := Go.Ground.data }, { on := 17, ground := Go.Ground.guard }], guard := some (17, true) }) (v := ?_) rfl (by kernel_rfl) (by kernel_rfl) (by kernel_rfl) (fun _ _ _ h => h) (Or.inl ⟨by rfl, ?_⟩) hK7 ?_
    rotate_left
    · (intro wz hSz; (try dsimp only at hSz); go_simp; try with_reducible rfl)
    simp only [Act.put, List.setIfInBounds_toArray, List.set_cons_zero, List.set_cons_succ]
    refine wpAnyH_take (i := 30) (oi := { dst := some 47, op := Go.Op.pick (Go.Operand.tmp 34) (Go.Operand.tmp 46) (Go.Operand.const (Go.Value.bool false)), type := 4, pos := "law.go:44", after := #[{ on := 17, ground := Go.Ground.data }, { on := 29, ground := Go.Ground.data }], guard := none }) (v := ?_) rfl (by kernel_rfl) (by kernel_rfl) (by kernel_rfl) (fun _ _ _ h => h) (Or.inl ⟨by rfl, ?_⟩) hK7 ?_
    rotate_left
    · (intro wz hSz; (try dsimp only at hSz); go_simp; try with_reducible rfl)
    simp only [Act.put, List.setIfInBounds_toArray, List.set_cons_zero, List.set_cons_succ]
    refine wpAnyH_take (i := 31) (oi := { dst := some 8, op := Go.Op.assign (Go.Operand.tmp 47), type := 4, pos := "law.go:44", after := #[{ on := 30, ground := Go.Ground.data }, { on := 27, ground := Go.Ground.chain }, { on := 0, ground := Go.Ground.phase }, { on := 1, ground := Go.Ground.phase }, { on := 2, ground := Go.Ground.phase }, { on := 3, ground := Go.Ground.phase }, { on := 4, ground := Go.Ground.phase }, { on := 5, ground := Go.Ground.phase }, { on := 6, ground := Go.Ground.phase }, { on := 7, ground := Go.Ground.phase }, { on := 8, ground := Go.Ground.phase }, { on := 9, ground := Go.Ground.phase }, { on := 10, ground := Go.Ground.phase }, { on := 11, ground := Go.Ground.phase }, { on := 12, ground := Go.Ground.phase }, { on := 13, ground := Go.Ground.phase }, { on := 14, ground := Go.Ground.phase }, { on := 15, ground := Go.Ground.phase }, { on := 16, ground := Go.Ground.phase }, { on := 17, ground := Go.Ground.phase }, { on := 18, ground := Go.Ground.phase }, { on := 19, ground := Go.Ground.phase }, { on := 20, ground := Go.Ground.phase }, { on := 21, ground := Go.Ground.phase }, { on := 22, ground := Go.Ground.phase }, { on := 23, ground := Go.Ground.phase }, { on := 24, ground := Go.Ground.phase }, { on := 25, ground := Go.Ground.phase }, { on := 26, ground := Go.Ground.phase }, { on := 27, ground := Go.Ground.phase }, { on := 28, ground := Go.Ground.phase }, { on := 29, ground := Go.Ground.phase }, { on := 30, ground := Go.Ground.phase }], guard := none }) (v := ?_) rfl (by kernel_rfl) (by kernel_rfl) (by kernel_rfl) (fun _ _ _ h => h) (Or.inl ⟨by rfl, ?_⟩) hK7 ?_
    rotate_left
    · (intro wz hSz; (try dsimp only at hSz); go_simp; try with_reducible rfl)
    simp only [Act.put, List.setIfInBounds_toArray, List.set_cons_zero, List.set_cons_succ]
    refine wpAnyH_done (by kernel_rfl) ?_ _
    go_wp2_with fail
    go_ret
    exact ⟨rfl, HB1.out.trans ((Keeps.b hK7).mono HB1.out.size)⟩
  · have h1 : ¬ (d : Int) = 0 := by omega
    have hd : decide (d = 0) = false := decide_eq_false h0
    have HFT' := Lib.hid (show FtC 18 A k cap l q false by rw [← hd]; exact HFT.out)
    clear HFT
    have hd2 : decide ((d : Int) = 0) = false := decide_eq_false h1
    have hd3 : (d == 0) = false := by simp [h0]
    have hd4 : ((d : Int) == 0) = false := by simp [h0]
    refine wp_region_held_drew (S := (Keeps wr)) (by kernel_rfl) (keeps_drew _) (fun hK0 => ?_)
    refine wpAnyH_ready (rs := [0]) (by kernel_rfl) (by simp) ?_
    refine AllReadyH.cons (o := { dst := some 17, op := Go.Op.call { callee := Go.Callee.value (Go.Operand.func 10), args := #[], argTypes := #[] }, type := 4, pos := "law.go:44", after := #[], guard := none }) rfl (fun K hK => ?_) AllReadyH.nil
    go_simp
    with_reducible refine (HLV.out.call _).mono ?_
    rintro r wq1 ⟨rfl, hbq⟩
    go_wp2_with fail
    refine hK.out _ _ (Keeps.trans hK0 hbq) (fun hK1 => ?_)
    clear hK K hbq hK0
    refine wpAnyH_take (i := 1) (oi := { dst := some 18, op := Go.Op.move (Go.Operand.tmp 17), type := 4, pos := "law.go:44", after := #[{ on := 0, ground := Go.Ground.data }, { on := 0, ground := Go.Ground.chain }], guard := none }) (v := ?_) rfl (by kernel_rfl) (by kernel_rfl) (by kernel_rfl) (fun _ _ _ h => h) (Or.inl ⟨by rfl, ?_⟩) hK1 ?_
    rotate_left
    · (intro wz hSz; (try dsimp only at hSz); go_simp; try with_reducible rfl)
    simp only [Act.put, List.setIfInBounds_toArray, List.set_cons_zero, List.set_cons_succ]
    refine wpAnyH_take (i := 2) (oi := { dst := some 19, op := Go.Op.move (Go.Operand.tmp 0), type := 22, pos := "law.go:44", after := #[{ on := 1, ground := Go.Ground.guard }], guard := some (1, true) }) (v := ?_) rfl (by kernel_rfl) (by kernel_rfl) (by kernel_rfl) (fun _ _ _ h => h) (Or.inl ⟨by rfl, ?_⟩) hK1 ?_
    rotate_left
    · (intro wz hSz; (try dsimp only at hSz); go_simp; try with_reducible rfl)
    simp only [Act.put, List.setIfInBounds_toArray, List.set_cons_zero, List.set_cons_succ]
    refine wpAnyH_take (i := 3) (oi := { dst := some 20, op := Go.Op.move (Go.Operand.tmp 2), type := 3, pos := "law.go:44", after := #[{ on := 1, ground := Go.Ground.guard }], guard := some (1, true) }) (v := ?_) rfl (by kernel_rfl) (by kernel_rfl) (by kernel_rfl) (fun _ _ _ h => h) (Or.inl ⟨by rfl, ?_⟩) hK1 ?_
    rotate_left
    · (intro wz hSz; (try dsimp only at hSz); go_simp; try with_reducible rfl)
    simp only [Act.put, List.setIfInBounds_toArray, List.set_cons_zero, List.set_cons_succ]
    refine wpAnyH_take (i := 5) (oi := { dst := some 22, op := Go.Op.move (Go.Operand.tmp 9), type := 35, pos := "law.go:44", after := #[{ on := 1, ground := Go.Ground.guard }], guard := some (1, true) }) (v := ?_) rfl (by kernel_rfl) (by kernel_rfl) (by kernel_rfl) (fun _ _ _ h => h) (Or.inl ⟨by rfl, ?_⟩) hK1 ?_
    rotate_left
    · (intro wz hSz; (try dsimp only at hSz); go_simp; try with_reducible rfl)
    simp only [Act.put, List.setIfInBounds_toArray, List.set_cons_zero, List.set_cons_succ]
    refine wpAnyH_ready (rs := [4]) (by kernel_rfl) (by simp) ?_
    refine AllReadyH.cons (o := { dst := some 21, op := Go.Op.call { callee := Go.Callee.value (Go.Operand.func 17), args := #[Go.Operand.tmp 19, Go.Operand.tmp 20], argTypes := #[22, 3] }, type := 35, pos := "law.go:44", after := #[{ on := 2, ground := Go.Ground.data }, { on := 3, ground := Go.Ground.data }, { on := 1, ground := Go.Ground.chain }, { on := 1, ground := Go.Ground.guard }], guard := some (1, true) }) rfl (fun K hK => ?_) AllReadyH.nil
    go_simp
    with_reducible refine (HOD.out _ (HI.out.below (Keeps.b hK1))).mono ?_
    rintro r wq2 ⟨O2, oc2, rfl, hi2, hbq⟩
    go_wp2_with fail
    have HO2 := Lib.hid hi2
    clear hi2
    refine hK.out _ _ (Keeps.trans hK1 hbq) (fun hK2 => ?_)
    clear hK K hbq hK1
    refine wpAnyH_ready (rs := [6]) (by kernel_rfl) (by simp) ?_
    refine AllReadyH.cons (o := { dst := some 23, op := Go.Op.call { callee := Go.Callee.value (Go.Operand.func 16), args := #[Go.Operand.tmp 21, Go.Operand.tmp 22], argTypes := #[35, 35] }, type := 4, pos := "law.go:44", after := #[{ on := 4, ground := Go.Ground.data }, { on := 5, ground := Go.Ground.data }, { on := 4, ground := Go.Ground.chain }, { on := 1, ground := Go.Ground.guard }], guard := some (1, true) }) rfl (fun K hK => ?_) AllReadyH.nil
    go_simp
    with_reducible refine (HSD.out _ _ _ _ _ HO2.out (HO1.out.below (Keeps.b hK2))).mono ?_
    rintro r wq3 ⟨rfl, hbq⟩
    go_wp2_with fail
    refine hK.out _ _ (Keeps.trans hK2 hbq) (fun hK3 => ?_)
    clear hK K hbq hK2
    refine wpAnyH_take (i := 7) (oi := { dst := some 24, op := Go.Op.pick (Go.Operand.tmp 18) (Go.Operand.tmp 23) (Go.Operand.const (Go.Value.bool false)), type := 4, pos := "law.go:44", after := #[{ on := 1, ground := Go.Ground.data }, { on := 6, ground := Go.Ground.data }], guard := none }) (v := ?_) rfl (by kernel_rfl) (by kernel_rfl) (by kernel_rfl) (fun _ _ _ h => h) (Or.inl ⟨by rfl, ?_⟩) hK3 ?_
    rotate_left
    · (intro wz hSz; (try dsimp only at hSz); go_simp; try with_reducible rfl)
    simp only [Act.put, List.setIfInBounds_toArray, List.set_cons_zero, List.set_cons_succ]
    refine wpAnyH_take (i := 8) (oi := { dst := some 25, op := Go.Op.move (Go.Operand.tmp 24), type := 4, pos := "law.go:44", after := #[{ on := 7, ground := Go.Ground.data }, { on := 6, ground := Go.Ground.chain }], guard := none }) (v := ?_) rfl (by kernel_rfl) (by kernel_rfl) (by kernel_rfl) (fun _ _ _ h => h) (Or.inl ⟨by rfl, ?_⟩) hK3 ?_
    rotate_left
    · (intro wz hSz; (try dsimp only at hSz); go_simp; try with_reducible rfl)
    simp only [Act.put, List.setIfInBounds_toArray, List.set_cons_zero, List.set_cons_succ]
    refine wpAnyH_take (i := 9) (oi := { dst := some 26, op := Go.Op.move (Go.Operand.tmp 0), type := 22, pos := "law.go:44", after := #[{ on := 8, ground := Go.Ground.guard }], guard := some (8, true) }) (v := ?_) rfl (by kernel_rfl) (by kernel_rfl) (by kernel_rfl) (fun _ _ _ h => h) (Or.inl ⟨by rfl, ?_⟩) hK3 ?_
    rotate_left
    · (intro wz hSz; (try dsimp only at hSz); go_simp; try with_reducible rfl)
    simp only [Act.put, List.setIfInBounds_toArray, List.set_cons_zero, List.set_cons_succ]
    refine wpAnyH_take (i := 10) (oi := { dst := some 27, op := Go.Op.move (Go.Operand.tmp 2), type := 3, pos := "law.go:44", after := #[{ on := 8, ground := Go.Ground.guard }], guard := some (8, true) }) (v := ?_) rfl (by kernel_rfl) (by kernel_rfl) (by kernel_rfl) (fun _ _ _ h => h) (Or.inl ⟨by rfl, ?_⟩) hK3 ?_
    rotate_left
    · (intro wz hSz; (try dsimp only at hSz); go_simp; try with_reducible rfl)
    simp only [Act.put, List.setIfInBounds_toArray, List.set_cons_zero, List.set_cons_succ]
    refine wpAnyH_take (i := 12) (oi := { dst := some 29, op := Go.Op.move (Go.Operand.tmp 9), type := 35, pos := "law.go:44", after := #[{ on := 8, ground := Go.Ground.guard }], guard := some (8, true) }) (v := ?_) rfl (by kernel_rfl) (by kernel_rfl) (by kernel_rfl) (fun _ _ _ h => h) (Or.inl ⟨by rfl, ?_⟩) hK3 ?_
    rotate_left
    · (intro wz hSz; (try dsimp only at hSz); go_simp; try with_reducible rfl)
    simp only [Act.put, List.setIfInBounds_toArray, List.set_cons_zero, List.set_cons_succ]
    refine wpAnyH_take (i := 13) (oi := { dst := some 30, op := Go.Op.call { callee := Go.Callee.builtin Go.Builtin.len, args := #[Go.Operand.tmp 29], argTypes := #[35] }, type := 3, pos := "law.go:44", after := #[{ on := 12, ground := Go.Ground.data }, { on := 8, ground := Go.Ground.guard }], guard := some (8, true) }) (v := ?_) rfl (by kernel_rfl) (by kernel_rfl) (by kernel_rfl) (fun _ _ _ h => h) (Or.inl ⟨by rfl, ?_⟩) hK3 ?_
    rotate_left
    · (intro wz hSz; (try dsimp only at hSz); go_simp; try with_reducible rfl)
    simp only [Act.put, List.setIfInBounds_toArray, List.set_cons_zero, List.set_cons_succ]
    refine wpAnyH_take (i := 14) (oi := { dst := some 31, op := Go.Op.binOp Go.BinOp.eql 3 (Go.Operand.tmp 30) (Go.Operand.const (Go.Value.int Go.IntKind.i64 0)) 3, type := 4, pos := "law.go:44", after := #[{ on := 13, ground := Go.Ground.data }, { on := 8, ground := Go.Ground.guard }], guard := some (8, true) }) (v := ?_) rfl (by kernel_rfl) (by kernel_rfl) (by kernel_rfl) (fun _ _ _ h => h) (Or.inl ⟨by rfl, ?_⟩) hK3 ?_
    rotate_left
    · (intro wz hSz; (try dsimp only at hSz); go_simp; try with_reducible rfl)
    simp only [Act.put, List.setIfInBounds_toArray, List.set_cons_zero, List.set_cons_succ]
    refine wpAnyH_ready (rs := [11]) (by kernel_rfl) (by simp) ?_
    refine AllReadyH.cons (o := { dst := some 28, op := Go.Op.call { callee := Go.Callee.value (Go.Operand.func 18), args := #[Go.Operand.tmp 26, Go.Operand.tmp 27], argTypes := #[22, 3] }, type := 4, pos := "law.go:44", after := #[{ on := 9, ground := Go.Ground.data }, { on := 10, ground := Go.Ground.data }, { on := 8, ground := Go.Ground.chain }, { on := 8, ground := Go.Ground.guard }], guard := some (8, true) }) rfl (fun K hK => ?_) AllReadyH.nil
    go_simp
    with_reducible refine (HFT'.out.call _ (HI.out.below (Keeps.b hK3))).mono ?_
    rintro r wq4 ⟨rfl, hbq⟩
    go_wp2_with fail
    refine hK.out _ _ (Keeps.trans hK3 hbq) (fun hK4 => ?_)
    clear hK K hbq hK3
    refine wpAnyH_take (i := 15) (oi := { dst := some 32, op := Go.Op.binOp Go.BinOp.eql 4 (Go.Operand.tmp 28) (Go.Operand.tmp 31) 4, type := 4, pos := "law.go:44", after := #[{ on := 11, ground := Go.Ground.data }, { on := 14, ground := Go.Ground.data }, { on := 8, ground := Go.Ground.guard }], guard := some (8, true) }) (v := ?_) rfl (by kernel_rfl) (by kernel_rfl) (by kernel_rfl) (fun _ _ _ h => h) (Or.inl ⟨by rfl, ?_⟩) hK4 ?_
    rotate_left
    · (intro wz hSz; (try dsimp only at hSz); go_simp; try with_reducible rfl)
    simp only [Act.put, List.setIfInBounds_toArray, List.set_cons_zero, List.set_cons_succ]
    refine wpAnyH_take (i := 16) (oi := { dst := some 33, op := Go.Op.pick (Go.Operand.tmp 25) (Go.Operand.tmp 32) (Go.Operand.const (Go.Value.bool false)), type := 4, pos := "law.go:44", after := #[{ on := 8, ground := Go.Ground.data }, { on := 15, ground := Go.Ground.data }], guard := none }) (v := ?_) rfl (by kernel_rfl) (by kernel_rfl) (by kernel_rfl) (fun _ _ _ h => h) (Or.inl ⟨by rfl, ?_⟩) hK4 ?_
    rotate_left
    · (intro wz hSz; (try dsimp only at hSz); go_simp; try with_reducible rfl)
    simp only [Act.put, List.setIfInBounds_toArray, List.set_cons_zero, List.set_cons_succ]
    refine wpAnyH_take (i := 17) (oi := { dst := some 34, op := Go.Op.move (Go.Operand.tmp 33), type := 4, pos := "law.go:44", after := #[{ on := 16, ground := Go.Ground.data }, { on := 11, ground := Go.Ground.chain }], guard := none }) (v := ?_) rfl (by kernel_rfl) (by kernel_rfl) (by kernel_rfl) (fun _ _ _ h => h) (Or.inl ⟨by rfl, ?_⟩) hK4 ?_
    rotate_left
    · (intro wz hSz; (try dsimp only at hSz); go_simp; try with_reducible rfl)
    simp only [Act.put, List.setIfInBounds_toArray, List.set_cons_zero, List.set_cons_succ]
    refine wpAnyH_take (i := 18) (oi := { dst := some 35, op := Go.Op.move (Go.Operand.tmp 0), type := 22, pos := "law.go:44", after := #[{ on := 17, ground := Go.Ground.guard }], guard := some (17, true) }) (v := ?_) rfl (by kernel_rfl) (by kernel_rfl) (by kernel_rfl) (fun _ _ _ h => h) (Or.inl ⟨by rfl, ?_⟩) hK4 ?_
    rotate_left
    · (intro wz hSz; (try dsimp only at hSz); go_simp; try with_reducible rfl)
    simp only [Act.put, List.setIfInBounds_toArray, List.set_cons_zero, List.set_cons_succ]
    refine wpAnyH_take (i := 19) (oi := { dst := some 36, op := Go.Op.move (Go.Operand.tmp 1), type := 22, pos := "law.go:44", after := #[{ on := 17, ground := Go.Ground.guard }], guard := some (17, true) }) (v := ?_) rfl (by kernel_rfl) (by kernel_rfl) (by kernel_rfl) (fun _ _ _ h => h) (Or.inl ⟨by rfl, ?_⟩) hK4 ?_
    rotate_left
    · (intro wz hSz; (try dsimp only at hSz); go_simp; try with_reducible rfl)
    simp only [Act.put, List.setIfInBounds_toArray, List.set_cons_zero, List.set_cons_succ]
    refine wpAnyH_take (i := 20) (oi := { dst := some 37, op := Go.Op.load 25 (Go.Operand.tmp 7), type := 25, pos := "law.go:44", after := #[{ on := 17, ground := Go.Ground.guard }], guard := some (17, true) }) (v := ?_) rfl (by kernel_rfl) (by kernel_rfl) (by kernel_rfl) (fun _ _ _ h => h) (Or.inl ⟨by rfl, ?_⟩) hK4 ?_
    rotate_left
    · (intro wz hSz; have hxz := ((Keeps.b hSz).block _ (L.blk_lt HXA.out)).trans HXA.out; have hcz := L.blk_cell hxz 0; have hcz2 := L.blk_cell hxz 1; simp only [List.getElem?_toArray, List.getElem?_cons_zero, List.getElem?_cons_succ] at hcz hcz2; go_simp; try with_reducible rfl)
    simp only [Act.put, List.setIfInBounds_toArray, List.set_cons_zero, List.set_cons_succ]
    refine wpAnyH_take (i := 22) (oi := { dst := some 39, op := Go.Op.move (Go.Operand.tmp 1), type := 22, pos := "law.go:44", after := #[{ on := 17, ground := Go.Ground.guard }], guard := some (17, true) }) (v := ?_) rfl (by kernel_rfl) (by kernel_rfl) (by kernel_rfl) (fun _ _ _ h => h) (Or.inl ⟨by rfl, ?_⟩) hK4 ?_
    rotate_left
    · (intro wz hSz; (try dsimp only at hSz); go_simp; try with_reducible rfl)
    simp only [Act.put, List.setIfInBounds_toArray, List.set_cons_zero, List.set_cons_succ]
    refine wpAnyH_take (i := 23) (oi := { dst := some 40, op := Go.Op.load 25 (Go.Operand.tmp 7), type := 25, pos := "law.go:44", after := #[{ on := 17, ground := Go.Ground.guard }], guard := some (17, true) }) (v := ?_) rfl (by kernel_rfl) (by kernel_rfl) (by kernel_rfl) (fun _ _ _ h => h) (Or.inl ⟨by rfl, ?_⟩) hK4 ?_
    rotate_left
    · (intro wz hSz; have hxz := ((Keeps.b hSz).block _ (L.blk_lt HXA.out)).trans HXA.out; have hcz := L.blk_cell hxz 0; have hcz2 := L.blk_cell hxz 1; simp only [List.getElem?_toArray, List.getElem?_cons_zero, List.getElem?_cons_succ] at hcz hcz2; go_simp; try with_reducible rfl)
    simp only [Act.put, List.setIfInBounds_toArray, List.set_cons_zero, List.set_cons_succ]
    refine wpAnyH_take (i := 25) (oi := { dst := some 42, op := Go.Op.move (Go.Operand.tmp 0), type := 22, pos := "law.go:44", after := #[{ on := 17, ground := Go.Ground.guard }], guard := some (17, true) }) (v := ?_) rfl (by kernel_rfl) (by kernel_rfl) (by kernel_rfl) (fun _ _ _ h => h) (Or.inl ⟨by rfl, ?_⟩) hK4 ?_
    rotate_left
    · (intro wz hSz; (try dsimp only at hSz); go_simp; try with_reducible rfl)
    simp only [Act.put, List.setIfInBounds_toArray, List.set_cons_zero, List.set_cons_succ]
    refine wpAnyH_take (i := 26) (oi := { dst := some 43, op := Go.Op.load 25 (Go.Operand.tmp 7), type := 25, pos := "law.go:44", after := #[{ on := 17, ground := Go.Ground.guard }], guard := some (17, true) }) (v := ?_) rfl (by kernel_rfl) (by kernel_rfl) (by kernel_rfl) (fun _ _ _ h => h) (Or.inl ⟨by rfl, ?_⟩) hK4 ?_
    rotate_left
    · (intro wz hSz; have hxz := ((Keeps.b hSz).block _ (L.blk_lt HXA.out)).trans HXA.out; have hcz := L.blk_cell hxz 0; have hcz2 := L.blk_cell hxz 1; simp only [List.getElem?_toArray, List.getElem?_cons_zero, List.getElem?_cons_succ] at hcz hcz2; go_simp; try with_reducible rfl)
    simp only [Act.put, List.setIfInBounds_toArray, List.set_cons_zero, List.set_cons_succ]
    refine wpAnyH_ready (rs := [21]) (by kernel_rfl) (by simp) ?_
    refine AllReadyH.cons (o := { dst := some 38, op := Go.Op.call { callee := Go.Callee.value (Go.Operand.func 19), args := #[Go.Operand.tmp 35, Go.Operand.tmp 36, Go.Operand.tmp 37], argTypes := #[22, 22, 25] }, type := 3, pos := "law.go:44", after := #[{ on := 18, ground := Go.Ground.data }, { on := 19, ground := Go.Ground.data }, { on := 20, ground := Go.Ground.data }, { on := 17, ground := Go.Ground.chain }, { on := 17, ground := Go.Ground.guard }], guard := some (17, true) }) rfl (fun K hK => ?_) AllReadyH.nil
    go_simp
    with_reducible refine (HGR.out.call _ (HI.out.below (Keeps.b hK4)) (HM.out.below (Keeps.b hK4))).mono ?_
    rintro r wq5 ⟨rfl, hbq⟩
    go_wp2_with fail
    refine hK.out _ _ (Keeps.trans hK4 hbq) (fun hK5 => ?_)
    clear hK K hbq hK4
    refine wpAnyH_ready (rs := [24]) (by kernel_rfl) (by simp) ?_
    refine AllReadyH.cons (o := { dst := some 41, op := Go.Op.call { callee := Go.Callee.value (Go.Operand.func 12), args := #[Go.Operand.tmp 39, Go.Operand.tmp 40], argTypes := #[22, 25] }, type := 3, pos := "law.go:44", after := #[{ on := 22, ground := Go.Ground.data }, { on := 23, ground := Go.Ground.data }, { on := 21, ground := Go.Ground.chain }, { on := 17, ground := Go.Ground.guard }], guard := some (17, true) }) rfl (fun K hK => ?_) AllReadyH.nil
    go_simp
    with_reducible refine (HLM.out.call _ (HM.out.below (Keeps.b hK5))).mono ?_
    rintro r wq6 ⟨rfl, hbq⟩
    go_wp2_with fail
    refine hK.out _ _ (Keeps.trans hK5 hbq) (fun hK6 => ?_)
    clear hK K hbq hK5
    refine wpAnyH_ready (rs := [27]) (by kernel_rfl) (by simp) ?_
    refine AllReadyH.cons (o := { dst := some 44, op := Go.Op.call { callee := Go.Callee.value (Go.Operand.func 12), args := #[Go.Operand.tmp 42, Go.Operand.tmp 43], argTypes := #[22, 25] }, type := 3, pos := "law.go:44", after := #[{ on := 25, ground := Go.Ground.data }, { on := 26, ground := Go.Ground.data }, { on := 24, ground := Go.Ground.chain }, { on := 17, ground := Go.Ground.guard }], guard := some (17, true) }) rfl (fun K hK => ?_) AllReadyH.nil
    go_simp
    with_reducible refine (HLL.out.call _ (HI.out.below (Keeps.b hK6))).mono ?_
    rintro r wq7 ⟨rfl, hbq⟩
    go_wp2_with fail
    refine hK.out _ _ (Keeps.trans hK6 hbq) (fun hK7 => ?_)
    clear hK K hbq hK6
    refine wpAnyH_take (i := 28) (oi := { dst := some 45, op := Go.Op.binOp Go.BinOp.sub 3 (Go.Operand.tmp 41) (Go.Operand.tmp 44) 3, type := 3, pos := "law.go:44", after := #[{ on := 24, ground := Go.Ground.data }, { on := 27, ground := Go.Ground.data }, { on := 17, ground := Go.Ground.guard }], guard := some (17, true) }) (v := ?_) rfl (by kernel_rfl) (by kernel_rfl) (by kernel_rfl) (fun _ _ _ h => h) (Or.inl ⟨by rfl, ?_⟩) hK7 ?_
    rotate_left
    · (intro wz hSz; (try dsimp only at hSz); go_simp; try with_reducible rfl)
    simp only [Act.put, List.setIfInBounds_toArray, List.set_cons_zero, List.set_cons_succ]
    refine wpAnyH_take (i := 29) (oi := { dst := some 46, op := Go.Op.binOp Go.BinOp.eql 3 (Go.Operand.tmp 38) (Go.Operand.tmp 45) 3, type := 4, pos := "law.go:44", after := #[{ on := 21, ground := Go.Ground.data }, { on := 28, ground := Go.Ground.data }, { on := 17, ground := Go.Ground.guard }], guard := some (17, true) }) (v := ?_) rfl (by kernel_rfl) (by kernel_rfl) (by kernel_rfl) (fun _ _ _ h => h) (Or.inl ⟨by rfl, ?_⟩) hK7 ?_
    rotate_left
    · (intro wz hSz; (try dsimp only at hSz); go_simp; try with_reducible rfl)
    simp only [Act.put, List.setIfInBounds_toArray, List.set_cons_zero, List.set_cons_succ]
    refine wpAnyH_take (i := 30) (oi := { dst := some 47, op := Go.Op.pick (Go.Operand.tmp 34) (Go.Operand.tmp 46) (Go.Operand.const (Go.Value.bool false)), type := 4, pos := "law.go:44", after := #[{ on := 17, ground := Go.Ground.data }, { on := 29, ground := Go.Ground.data }], guard := none }) (v := ?_) rfl (by kernel_rfl) (by kernel_rfl) (by kernel_rfl) (fun _ _ _ h => h) (Or.inl ⟨by rfl, ?_⟩) hK7 ?_
    rotate_left
    · (intro wz hSz; (try dsimp only at hSz); go_simp; try with_reducible rfl)
    simp only [Act.put, List.setIfInBounds_toArray, List.set_cons_zero, List.set_cons_succ]
    refine wpAnyH_take (i := 31) (oi := { dst := some 8, op := Go.Op.assign (Go.Operand.tmp 47), type := 4, pos := "law.go:44", after := #[{ on := 30, ground := Go.Ground.data }, { on := 27, ground := Go.Ground.chain }, { on := 0, ground := Go.Ground.phase }, { on := 1, ground := Go.Ground.phase }, { on := 2, ground := Go.Ground.phase }, { on := 3, ground := Go.Ground.phase }, { on := 4, ground := Go.Ground.phase }, { on := 5, ground := Go.Ground.phase }, { on := 6, ground := Go.Ground.phase }, { on := 7, ground := Go.Ground.phase }, { on := 8, ground := Go.Ground.phase }, { on := 9, ground := Go.Ground.phase }, { on := 10, ground := Go.Ground.phase }, { on := 11, ground := Go.Ground.phase }, { on := 12, ground := Go.Ground.phase }, { on := 13, ground := Go.Ground.phase }, { on := 14, ground := Go.Ground.phase }, { on := 15, ground := Go.Ground.phase }, { on := 16, ground := Go.Ground.phase }, { on := 17, ground := Go.Ground.phase }, { on := 18, ground := Go.Ground.phase }, { on := 19, ground := Go.Ground.phase }, { on := 20, ground := Go.Ground.phase }, { on := 21, ground := Go.Ground.phase }, { on := 22, ground := Go.Ground.phase }, { on := 23, ground := Go.Ground.phase }, { on := 24, ground := Go.Ground.phase }, { on := 25, ground := Go.Ground.phase }, { on := 26, ground := Go.Ground.phase }, { on := 27, ground := Go.Ground.phase }, { on := 28, ground := Go.Ground.phase }, { on := 29, ground := Go.Ground.phase }, { on := 30, ground := Go.Ground.phase }], guard := none }) (v := ?_) rfl (by kernel_rfl) (by kernel_rfl) (by kernel_rfl) (fun _ _ _ h => h) (Or.inl ⟨by rfl, ?_⟩) hK7 ?_
    rotate_left
    · (intro wz hSz; (try dsimp only at hSz); go_simp; try with_reducible rfl)
    simp only [Act.put, List.setIfInBounds_toArray, List.set_cons_zero, List.set_cons_succ]
    refine wpAnyH_done (by kernel_rfl) ?_ _
    go_wp2_with fail
    go_ret
    exact ⟨rfl, HB1.out.trans ((Keeps.b hK7).mono HB1.out.size)⟩
theorem tfits_law {A B : Option Addr} {cap bcap : Nat} {l m : List It} {q : Int} {a : Lb} (w : World) (hA : ItemsIn w A l) (hok : Wls l) (hn : l.length ≤ maxLen) (hc : l.length ≤ cap) (hM : ItemsIn w B m) (hn2 : m.length ≤ maxLen) (hc2 : m.length ≤ bcap) :
    Calls Try.prog 4 #[.slice A l.length cap, .slice B m.length bcap, .int .i64 q, .agg #[.int .i64 a.1, .int .u64 (a.2 : Int)]] w fun e w' => e = .returned (.bool true) ∧ Below w.heap.size w w' := by
  obtain ⟨a0, a1⟩ := a
  have hm : min l.length 60 = (l.take 60).length := by rw [List.length_take]; omega
  have hm2 : min m.length 60 = (m.take 60).length := by rw [List.length_take]; omega
  have h60 : (l.take 60).length ≤ 60 := List.length_take_le _ _
  have h602 : (m.take 60).length ≤ 60 := List.length_take_le _ _
  have hok2 : Wls (l.take 60) := fun x hx => hok x (List.mem_of_mem_take hx)
  have hcl : ∀ (l : List It) (x : Lb), (lns l).count x ≤ l.length := fun l x => Nat.le_trans List.count_le_length (lns_le _)
  obtain ⟨ks, hks⟩ : ∃ ks, Ks (lns (l.take 60)) ks := Ks.all _
  have hol : (ov q (cs (lns (l.take 60)) ks)).length ≤ 1000 := Nat.le_trans (ov_le _ _) (by rw [cs_len]; exact Nat.le_trans hks.len (Nat.le_trans (lns_le _) (by omega)))
  refine tfits_walk (l := l.take 60) (r := m.take 60) (o := ov q (cs (lns (l.take 60)) ks)) (it_take hA 60) (it_take hM 60) (Nat.le_trans (hcl _ (a0, a1)) (by omega)) (Nat.le_trans (hcl _ (a0, a1)) (by omega)) (Lib.hid fun w => ?_) (Lib.hid fun w => ?_) (Lib.hid live19) (Lib.hid fun w h => ?_) (Lib.hid fun w h => ?_)
    (Lib.hid fun w A B _ _ h1 h2 => slabels_any A B _ _ _ w h1 h2 (by omega)) (Lib.hid fun w h => ?_) (Lib.hid fun w h h2 => grows_any A B cap bcap _ _ a0 a1 w h h2 (by omega) (by omega)) (Lib.hid (lr_is A cap (l.take 60) a0 a1 (by omega))) (Lib.hid (lr_is B bcap (m.take 60) a0 a1 (by omega)))
  · have := few_any A l.length cap w hn hc
    rw [hm] at this
    exact this
  · have := few_any B m.length bcap w hn2 hc2
    rw [hm2] at this
    exact this
  · refine (rover_any A cap (l.take 60) q w h (by omega)).mono ?_
    rintro e w' ⟨ks2, hk2, C, c, he, hC, hb⟩
    obtain rfl := hk2.uniq hks
    exact ⟨C, c, he, hC, hb⟩
  · refine (over_any A cap (l.take 60) q w h hok2 (by omega)).mono ?_
    rintro e w' ⟨ks2, hk2, C, c, he, hrow, hb⟩
    obtain rfl := hk2.uniq hks
    exact ⟨C, c, he, labs_own hrow, hb⟩
  · refine (fits_any A cap (l.take 60) q w h hok2 (by omega)).mono ?_
    rintro e w' ⟨ks2, hk2, he, hb⟩
    obtain rfl := hk2.uniq hks
    exact ⟨he, hb⟩
end Go.Proofs.Ytmddikabilnokaa.Ta
