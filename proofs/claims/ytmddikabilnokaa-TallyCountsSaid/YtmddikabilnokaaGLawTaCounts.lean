/-
  The law TallyCounts, walked.
-/
import Derived.Test.YtmddikabilnokaaGyg
import Derived.Test.YtmddikabilnokaaGLawTaBlind
import Derived.Test.YtmddikabilnokaaGyc
import Derived.Deep.QuietTactic
import Derived.BigQuiet
namespace Go.Proofs.Ytmddikabilnokaa.Ta
set_option linter.unusedVariables false
set_option linter.unusedSimpArgs false
open Go.RowKit
open T
open I (It Lb ItemsIn ItemsAt ItemsOk itCells alloc1 own_at own_below items_own)
open V (grown_of drawn_below ItAt it_at)

def OrA (fn : FuncId) (a0 : Int) (a1 : Nat) (b0 : Int) (b1 : Nat) (v : Int) : Prop := ∀ w : World, Calls Try.prog fn #[.agg #[.int .i64 a0, .int .u64 (a1 : Int)], .agg #[.int .i64 b0, .int .u64 (b1 : Int)]] w fun e w' => e = .returned (.int .i64 v) ∧ Below w.heap.size w w'
theorem OrA.call {fn : FuncId} {a0 b0 v : Int} {a1 b1 : Nat} (h : OrA fn a0 a1 b0 b1 v) (w : World) : Calls Try.prog fn #[.agg #[.int .i64 a0, .int .u64 (a1 : Int)], .agg #[.int .i64 b0, .int .u64 (b1 : Int)]] w fun e w' => e = .returned (.int .i64 v) ∧ Below w.heap.size w w' := h w
theorem ora_is (a0 : Int) (a1 : Nat) (b0 : Int) (b1 : Nat) : OrA 13 a0 a1 b0 b1 (ord (a0, a1) (b0, b1)) := fun w =>
  (order_gw (a0, a1) (b0, b1) w).mono fun e w' ⟨he, hg⟩ => ⟨he, hg.below⟩
set_option maxRecDepth 100000 in
set_option maxHeartbeats 8000000 in
theorem tcounts_walk {A : Option Addr} {n cap k q : Nat} {l : List It} {a0 b0 v : Int} {a1 b1 : Nat} {w : World} (hA : ItemsIn w A l) (hok : Wls l) (hk : l.length = k) (h60 : k ≤ 60) (HFW : Hid (∀ w : World, Calls Try.prog 7 #[.slice A n cap] w fun e w' => e = .returned (.slice A k cap) ∧ w' = w))
    (HLV : Hid (LvC 10)) (HLA : Hid (LcC 11 A k cap l a0 a1 q)) (HLR : Hid (LcC 12 A k cap l a0 a1 q)) (HOA : Hid (OrA 13 a0 a1 b0 b1 v)) (HOR : Hid (OrR 14 a0 a1 b0 b1 v)) :
    Calls Try.prog 3 #[.slice A n cap, .agg #[.int .i64 a0, .int .u64 (a1 : Int)], .agg #[.int .i64 b0, .int .u64 (b1 : Int)]] w fun e w' => e = .returned (.bool true) ∧ Below w.heap.size w w' := by
  subst hk
  obtain ⟨wA, hwA⟩ : ∃ W : World, W = w.alloc (.cells #[.int .i64 a0, .int .u64 (a1 : Int)] 25) := ⟨_, rfl⟩
  obtain ⟨w1, hw1⟩ : ∃ W : World, W = wA.alloc (.cells #[.int .i64 b0, .int .u64 (b1 : Int)] 25) := ⟨_, rfl⟩
  have hbA : Below w.heap.size w wA := by rw [hwA]; exact alloc1 _ _
  have hbB : Below wA.heap.size wA w1 := by rw [hw1]; exact alloc1 _ _
  have HB1 := Lib.hid (hbA.trans (hbB.mono hbA.size))
  have hsA : wA.heap.size = w.heap.size + 1 := by rw [hwA]; simp
  have HXA := Lib.hid (show w1.heap[w.heap.size]? = some (.cells #[.int .i64 a0, .int .u64 (a1 : Int)] 25 (0, 0)) by
    rw [hbB.block _ (by omega), hwA]
    exact heap_alloc_new w _)
  have HXB := Lib.hid (show w1.heap[w.heap.size + 1]? = some (.cells #[.int .i64 b0, .int .u64 (b1 : Int)] 25 (0, 0)) by
    rw [hw1, ← hsA]
    exact heap_alloc_new wA _)
  have HI := Lib.hid (hA.below HB1.out)
  have HCO := Lib.hid (counts_any A cap l w1 HI.out hok (by omega))
  clear hbA hbB hsA hA
  go_enter Try.func3, Try.ntmps3
  go_upto_region 1 with fail
  rw [← hwA, ← hw1]
  obtain ⟨xa, hxa⟩ : ∃ q, q = w.heap.size := ⟨_, rfl⟩
  rw [← hxa] at HXA HXB
  simp only [← hxa]
  clear hwA hw1 hxa
  obtain ⟨xb, hxb⟩ : ∃ q, q = xa + 1 := ⟨_, rfl⟩
  rw [← hxb] at HXB
  simp only [← hxb]
  clear hxb
  go_wp2_with fail
  refine (HFW.out _).mono ?_
  rintro e w' ⟨rfl, rfl⟩
  go_wp2_with fail
  refine HCO.out.mono ?_
  rintro e W2 ⟨ks, hks, B, bcap, rfl, hrow, hb2⟩
  replace HI := Lib.hid (HI.out.below hb2)
  have HKS := Lib.hid hks
  have HC := Lib.hid (cts_own hrow)
  have HCR := Lib.hid (rcounts_any A cap l W2 HI.out (by omega))
  clear hks hrow HCO
  go_wp2_with fail
  refine HCR.out.mono ?_
  rintro e W3 ⟨ks2, hks2, D, dcap, rfl, HD, hb3⟩
  obtain rfl : ks2 = ks := hks2.uniq HKS.out
  have hb23 := hb2.trans (hb3.mono hb2.size)
  replace HI := Lib.hid (HI.out.below hb3)
  replace HC := Lib.hid (HC.out.below hb3)
  replace HD := Lib.hid HD
  replace HXA := Lib.hid ((hb23.block _ (L.blk_lt HXA.out)).trans HXA.out)
  replace HXB := Lib.hid ((hb23.block _ (L.blk_lt HXB.out)).trans HXB.out)
  replace HB1 := Lib.hid (HB1.out.trans (hb23.mono HB1.out.size))
  have hcl : (cs (lns l) ks2).length ≤ 60 := by rw [cs_len]; exact Nat.le_trans HKS.out.len (Nat.le_trans (lns_le _) h60)
  obtain ⟨c, hc⟩ : ∃ c, c = cs (lns l) ks2 := ⟨_, rfl⟩
  rw [← hc] at HC HD hcl ⊢
  clear hc hks2 hb2 hb3 hb23 HCR HKS hok
  go_wp2_with fail
  go_loopg [9] c.length (fun q i wr => ∃ (k : Nat), k ≤ c.length ∧ i = .int .i64 k ∧ c.length - k ≤ q ∧ Hid (Below W3.heap.size W3 wr))
  case atStart => exact ⟨0, Nat.zero_le _, rfl, by omega, Lib.hid (Below.refl _ _)⟩
  case round =>
    obtain ⟨k, hk, rfl, hm, HBR⟩ := hrel
    by_cases hlt : k < c.length
    · obtain ⟨bk, off, hBe, hbk, hat⟩ := HC.out (by omega)
      subst hBe
      obtain ⟨dk, doff, hDe, hdk, dat⟩ := HD.out (by omega)
      subst hDe
      obtain ⟨e0, e1, e2⟩ := hat k hlt
      obtain ⟨f0, f1, f2⟩ := dat k hlt
      have g0 := (HBR.out.cell (p := ⟨bk, _, none⟩) hbk).trans e0
      have g1 := (HBR.out.cell (p := ⟨bk, _, none⟩) hbk).trans e1
      have g2 := (HBR.out.cell (p := ⟨bk, _, none⟩) hbk).trans e2
      have h0 := (HBR.out.cell (p := ⟨dk, _, none⟩) hdk).trans f0
      have h1 := (HBR.out.cell (p := ⟨dk, _, none⟩) hdk).trans f1
      have h2 := (HBR.out.cell (p := ⟨dk, _, none⟩) hdk).trans f2
      have h0k : (0 : Int) ≤ (k : Int) := by omega
      have hki : (k : Int) < (c.length : Int) := by omega
      obtain ⟨x, hx⟩ : ∃ x, x = c[k]'hlt := ⟨_, rfl⟩
      rw [← hx] at g0 g1 g2 h0 h1 h2
      obtain ⟨⟨x0, x1⟩, m⟩ := x
      simp only at g0 g1 g2 h0 h1 h2
      have HR : Hid (∀ q, Below W3.heap.size W3 (wr.drewN q)) := Lib.hid fun q => HBR.out.trans ((drawn_below wr q).mono HBR.out.size)
      clear hx e0 e1 e2 f0 f1 f2 hat dat HBR
      go_wp2_with fail
      go_quiet (fail)
      go_wp2_with fail
      go_roundg (c.length - (k + 1))
      case rel => exact ⟨k + 1, by omega, by go_num, by omega, Lib.hid (HR.out _)⟩
      case measure => omega
    · obtain rfl : k = c.length := by omega
      replace HI := Lib.hid (HI.out.below HBR.out)
      replace HXA := Lib.hid ((HBR.out.block _ (L.blk_lt HXA.out)).trans HXA.out)
      replace HXB := Lib.hid ((HBR.out.block _ (L.blk_lt HXB.out)).trans HXB.out)
      have HBW := Lib.hid (HB1.out.trans (HBR.out.mono HB1.out.size))
      clear HBR HB1 HC HD
      go_upto_region 11 with fail
      refine wp_region_held_drew (S := (Keeps wr)) (by kernel_rfl) (keeps_drew _) (fun hK0 => ?_)
      refine wpAnyH_ready (rs := [0]) (by kernel_rfl) (by simp) ?_
      refine AllReadyH.cons (o := { dst := some 36, op := Go.Op.call { callee := Go.Callee.value (Go.Operand.func 10), args := #[], argTypes := #[] }, type := 4, pos := "law.go:37", after := #[], guard := none }) rfl (fun K hK => ?_) AllReadyH.nil
      go_simp
      with_reducible refine (HLV.out.call _).mono ?_
      rintro r wq1 ⟨rfl, hbq⟩
      go_wp2_with fail
      refine hK.out _ _ (Keeps.trans hK0 hbq) (fun hK1 => ?_)
      clear hK K hbq hK0
      refine wpAnyH_take (i := 1) (oi := { dst := some 37, op := Go.Op.move (Go.Operand.tmp 36), type := 4, pos := "law.go:37", after := #[{ on := 0, ground := Go.Ground.data }, { on := 0, ground := Go.Ground.chain }], guard := none }) (v := ?_) rfl (by kernel_rfl) (by kernel_rfl) (by kernel_rfl) (fun _ _ _ h => h) (Or.inl ⟨by rfl, ?_⟩) hK1 ?_
      rotate_left
      · (intro wz hSz; (try dsimp only at hSz); go_simp; try with_reducible rfl)
      simp only [Act.put, List.setIfInBounds_toArray, List.set_cons_zero, List.set_cons_succ]
      refine wpAnyH_take (i := 2) (oi := { dst := some 38, op := Go.Op.move (Go.Operand.tmp 0), type := 22, pos := "law.go:37", after := #[{ on := 1, ground := Go.Ground.guard }], guard := some (1, true) }) (v := ?_) rfl (by kernel_rfl) (by kernel_rfl) (by kernel_rfl) (fun _ _ _ h => h) (Or.inl ⟨by rfl, ?_⟩) hK1 ?_
      rotate_left
      · (intro wz hSz; (try dsimp only at hSz); go_simp; try with_reducible rfl)
      simp only [Act.put, List.setIfInBounds_toArray, List.set_cons_zero, List.set_cons_succ]
      refine wpAnyH_take (i := 3) (oi := { dst := some 39, op := Go.Op.load 25 (Go.Operand.tmp 4), type := 25, pos := "law.go:37", after := #[{ on := 1, ground := Go.Ground.guard }], guard := some (1, true) }) (v := ?_) rfl (by kernel_rfl) (by kernel_rfl) (by kernel_rfl) (fun _ _ _ h => h) (Or.inl ⟨by rfl, ?_⟩) hK1 ?_
      rotate_left
      · (intro wz hSz; have hxz := ((Keeps.b hSz).block _ (L.blk_lt HXA.out)).trans HXA.out; have hcz := L.blk_cell hxz 0; have hcz2 := L.blk_cell hxz 1; simp only [List.getElem?_toArray, List.getElem?_cons_zero, List.getElem?_cons_succ] at hcz hcz2; go_simp; try with_reducible rfl)
      simp only [Act.put, List.setIfInBounds_toArray, List.set_cons_zero, List.set_cons_succ]
      refine wpAnyH_take (i := 5) (oi := { dst := some 41, op := Go.Op.move (Go.Operand.tmp 0), type := 22, pos := "law.go:37", after := #[{ on := 1, ground := Go.Ground.guard }], guard := some (1, true) }) (v := ?_) rfl (by kernel_rfl) (by kernel_rfl) (by kernel_rfl) (fun _ _ _ h => h) (Or.inl ⟨by rfl, ?_⟩) hK1 ?_
      rotate_left
      · (intro wz hSz; (try dsimp only at hSz); go_simp; try with_reducible rfl)
      simp only [Act.put, List.setIfInBounds_toArray, List.set_cons_zero, List.set_cons_succ]
      refine wpAnyH_take (i := 6) (oi := { dst := some 42, op := Go.Op.load 25 (Go.Operand.tmp 4), type := 25, pos := "law.go:37", after := #[{ on := 1, ground := Go.Ground.guard }], guard := some (1, true) }) (v := ?_) rfl (by kernel_rfl) (by kernel_rfl) (by kernel_rfl) (fun _ _ _ h => h) (Or.inl ⟨by rfl, ?_⟩) hK1 ?_
      rotate_left
      · (intro wz hSz; have hxz := ((Keeps.b hSz).block _ (L.blk_lt HXA.out)).trans HXA.out; have hcz := L.blk_cell hxz 0; have hcz2 := L.blk_cell hxz 1; simp only [List.getElem?_toArray, List.getElem?_cons_zero, List.getElem?_cons_succ] at hcz hcz2; go_simp; try with_reducible rfl)
      simp only [Act.put, List.setIfInBounds_toArray, List.set_cons_zero, List.set_cons_succ]
      refine wpAnyH_ready (rs := [4]) (by kernel_rfl) (by simp) ?_
      refine AllReadyH.cons (o := { dst := some 40, op := Go.Op.call { callee := Go.Callee.value (Go.Operand.func 11), args := #[Go.Operand.tmp 38, Go.Operand.tmp 39], argTypes := #[22, 25] }, type := 3, pos := "law.go:37", after := #[{ on := 2, ground := Go.Ground.data }, { on := 3, ground := Go.Ground.data }, { on := 1, ground := Go.Ground.chain }, { on := 1, ground := Go.Ground.guard }], guard := some (1, true) }) rfl (fun K hK => ?_) AllReadyH.nil
      go_simp
      with_reducible refine (HLA.out.call _ (HI.out.below (Keeps.b hK1))).mono ?_
      rintro r wq2 ⟨rfl, hbq⟩
      go_wp2_with fail
      refine hK.out _ _ (Keeps.trans hK1 hbq) (fun hK2 => ?_)
      clear hK K hbq hK1
      refine wpAnyH_ready (rs := [7]) (by kernel_rfl) (by simp) ?_
      refine AllReadyH.cons (o := { dst := some 43, op := Go.Op.call { callee := Go.Callee.value (Go.Operand.func 12), args := #[Go.Operand.tmp 41, Go.Operand.tmp 42], argTypes := #[22, 25] }, type := 3, pos := "law.go:37", after := #[{ on := 5, ground := Go.Ground.data }, { on := 6, ground := Go.Ground.data }, { on := 4, ground := Go.Ground.chain }, { on := 1, ground := Go.Ground.guard }], guard := some (1, true) }) rfl (fun K hK => ?_) AllReadyH.nil
      go_simp
      with_reducible refine (HLR.out.call _ (HI.out.below (Keeps.b hK2))).mono ?_
      rintro r wq3 ⟨rfl, hbq⟩
      go_wp2_with fail
      refine hK.out _ _ (Keeps.trans hK2 hbq) (fun hK3 => ?_)
      clear hK K hbq hK2
      refine wpAnyH_take (i := 8) (oi := { dst := some 44, op := Go.Op.binOp Go.BinOp.eql 3 (Go.Operand.tmp 40) (Go.Operand.tmp 43) 3, type := 4, pos := "law.go:37", after := #[{ on := 4, ground := Go.Ground.data }, { on := 7, ground := Go.Ground.data }, { on := 1, ground := Go.Ground.guard }], guard := some (1, true) }) (v := ?_) rfl (by kernel_rfl) (by kernel_rfl) (by kernel_rfl) (fun _ _ _ h => h) (Or.inl ⟨by rfl, ?_⟩) hK3 ?_
      rotate_left
      · (intro wz hSz; (try dsimp only at hSz); go_simp; try with_reducible rfl)
      simp only [Act.put, List.setIfInBounds_toArray, List.set_cons_zero, List.set_cons_succ]
      refine wpAnyH_take (i := 9) (oi := { dst := some 45, op := Go.Op.pick (Go.Operand.tmp 37) (Go.Operand.tmp 44) (Go.Operand.const (Go.Value.bool false)), type := 4, pos := "law.go:37", after := #[{ on := 1, ground := Go.Ground.data }, { on := 8, ground := Go.Ground.data }], guard := none }) (v := ?_) rfl (by kernel_rfl) (by kernel_rfl) (by kernel_rfl) (fun _ _ _ h => h) (Or.inl ⟨by rfl, ?_⟩) hK3 ?_
      rotate_left
      · (intro wz hSz; (try dsimp only at hSz); go_simp; try with_reducible rfl)
      simp only [Act.put, List.setIfInBounds_toArray, List.set_cons_zero, List.set_cons_succ]
      refine wpAnyH_take (i := 10) (oi := { dst := some 46, op := Go.Op.move (Go.Operand.tmp 45), type := 4, pos := "law.go:37", after := #[{ on := 9, ground := Go.Ground.data }, { on := 7, ground := Go.Ground.chain }], guard := none }) (v := ?_) rfl (by kernel_rfl) (by kernel_rfl) (by kernel_rfl) (fun _ _ _ h => h) (Or.inl ⟨by rfl, ?_⟩) hK3 ?_
      rotate_left
      · (intro wz hSz; (try dsimp only at hSz); go_simp; try with_reducible rfl)
      simp only [Act.put, List.setIfInBounds_toArray, List.set_cons_zero, List.set_cons_succ]
      refine wpAnyH_take (i := 11) (oi := { dst := some 47, op := Go.Op.load 25 (Go.Operand.tmp 4), type := 25, pos := "law.go:37", after := #[{ on := 10, ground := Go.Ground.guard }], guard := some (10, true) }) (v := ?_) rfl (by kernel_rfl) (by kernel_rfl) (by kernel_rfl) (fun _ _ _ h => h) (Or.inl ⟨by rfl, ?_⟩) hK3 ?_
      rotate_left
      · (intro wz hSz; have hxz := ((Keeps.b hSz).block _ (L.blk_lt HXA.out)).trans HXA.out; have hcz := L.blk_cell hxz 0; have hcz2 := L.blk_cell hxz 1; simp only [List.getElem?_toArray, List.getElem?_cons_zero, List.getElem?_cons_succ] at hcz hcz2; go_simp; try with_reducible rfl)
      simp only [Act.put, List.setIfInBounds_toArray, List.set_cons_zero, List.set_cons_succ]
      refine wpAnyH_take (i := 12) (oi := { dst := some 48, op := Go.Op.load 25 (Go.Operand.tmp 5), type := 25, pos := "law.go:37", after := #[{ on := 10, ground := Go.Ground.guard }], guard := some (10, true) }) (v := ?_) rfl (by kernel_rfl) (by kernel_rfl) (by kernel_rfl) (fun _ _ _ h => h) (Or.inl ⟨by rfl, ?_⟩) hK3 ?_
      rotate_left
      · (intro wz hSz; have hxz := ((Keeps.b hSz).block _ (L.blk_lt HXB.out)).trans HXB.out; have hcz := L.blk_cell hxz 0; have hcz2 := L.blk_cell hxz 1; simp only [List.getElem?_toArray, List.getElem?_cons_zero, List.getElem?_cons_succ] at hcz hcz2; go_simp; try with_reducible rfl)
      simp only [Act.put, List.setIfInBounds_toArray, List.set_cons_zero, List.set_cons_succ]
      refine wpAnyH_take (i := 14) (oi := { dst := some 50, op := Go.Op.load 25 (Go.Operand.tmp 4), type := 25, pos := "law.go:37", after := #[{ on := 10, ground := Go.Ground.guard }], guard := some (10, true) }) (v := ?_) rfl (by kernel_rfl) (by kernel_rfl) (by kernel_rfl) (fun _ _ _ h => h) (Or.inl ⟨by rfl, ?_⟩) hK3 ?_
      rotate_left
      · (intro wz hSz; have hxz := ((Keeps.b hSz).block _ (L.blk_lt HXA.out)).trans HXA.out; have hcz := L.blk_cell hxz 0; have hcz2 := L.blk_cell hxz 1; simp only [List.getElem?_toArray, List.getElem?_cons_zero, List.getElem?_cons_succ] at hcz hcz2; go_simp; try with_reducible rfl)
      simp only [Act.put, List.setIfInBounds_toArray, List.set_cons_zero, List.set_cons_succ]
      refine wpAnyH_take (i := 15) (oi := { dst := some 51, op := Go.Op.load 25 (Go.Operand.tmp 5), type := 25, pos := "law.go:37", after := #[{ on := 10, ground := Go.Ground.guard }], guard := some (10, true) }) (v := ?_) rfl (by kernel_rfl) (by kernel_rfl) (by kernel_rfl) (fun _ _ _ h => h) (Or.inl ⟨by rfl, ?_⟩) hK3 ?_
      rotate_left
      · (intro wz hSz; have hxz := ((Keeps.b hSz).block _ (L.blk_lt HXB.out)).trans HXB.out; have hcz := L.blk_cell hxz 0; have hcz2 := L.blk_cell hxz 1; simp only [List.getElem?_toArray, List.getElem?_cons_zero, List.getElem?_cons_succ] at hcz hcz2; go_simp; try with_reducible rfl)
      simp only [Act.put, List.setIfInBounds_toArray, List.set_cons_zero, List.set_cons_succ]
      refine wpAnyH_ready (rs := [13]) (by kernel_rfl) (by simp) ?_
      refine AllReadyH.cons (o := { dst := some 49, op := Go.Op.call { callee := Go.Callee.value (Go.Operand.func 13), args := #[Go.Operand.tmp 47, Go.Operand.tmp 48], argTypes := #[25, 25] }, type := 3, pos := "law.go:37", after := #[{ on := 11, ground := Go.Ground.data }, { on := 12, ground := Go.Ground.data }, { on := 10, ground := Go.Ground.chain }, { on := 10, ground := Go.Ground.guard }], guard := some (10, true) }) rfl (fun K hK => ?_) AllReadyH.nil
      go_simp
      with_reducible refine (HOA.out.call _).mono ?_
      rintro r wq4 ⟨rfl, hbq⟩
      go_wp2_with fail
      refine hK.out _ _ (Keeps.trans hK3 hbq) (fun hK4 => ?_)
      clear hK K hbq hK3
      refine wpAnyH_ready (rs := [16]) (by kernel_rfl) (by simp) ?_
      refine AllReadyH.cons (o := { dst := some 52, op := Go.Op.call { callee := Go.Callee.value (Go.Operand.func 14), args := #[Go.Operand.tmp 50, Go.Operand.tmp 51], argTypes := #[25, 25] }, type := 3, pos := "law.go:37", after := #[{ on := 14, ground := Go.Ground.data }, { on := 15, ground := Go.Ground.data }, { on := 13, ground := Go.Ground.chain }, { on := 10, ground := Go.Ground.guard }], guard := some (10, true) }) rfl (fun K hK => ?_) AllReadyH.nil
      go_simp
      with_reducible refine (HOR.out.call _).mono ?_
      rintro r wq5 ⟨rfl, hbq⟩
      go_wp2_with fail
      refine hK.out _ _ (Keeps.trans hK4 hbq) (fun hK5 => ?_)
      clear hK K hbq hK4
      refine wpAnyH_take (i := 17) (oi := { dst := some 53, op := Go.Op.binOp Go.BinOp.eql 3 (Go.Operand.tmp 49) (Go.Operand.tmp 52) 3, type := 4, pos := "law.go:37", after := #[{ on := 13, ground := Go.Ground.data }, { on := 16, ground := Go.Ground.data }, { on := 10, ground := Go.Ground.guard }], guard := some (10, true) }) (v := ?_) rfl (by kernel_rfl) (by kernel_rfl) (by kernel_rfl) (fun _ _ _ h => h) (Or.inl ⟨by rfl, ?_⟩) hK5 ?_
      rotate_left
      · (intro wz hSz; (try dsimp only at hSz); go_simp; try with_reducible rfl)
      simp only [Act.put, List.setIfInBounds_toArray, List.set_cons_zero, List.set_cons_succ]
      refine wpAnyH_take (i := 18) (oi := { dst := some 54, op := Go.Op.pick (Go.Operand.tmp 46) (Go.Operand.tmp 53) (Go.Operand.const (Go.Value.bool false)), type := 4, pos := "law.go:37", after := #[{ on := 10, ground := Go.Ground.data }, { on := 17, ground := Go.Ground.data }], guard := none }) (v := ?_) rfl (by kernel_rfl) (by kernel_rfl) (by kernel_rfl) (fun _ _ _ h => h) (Or.inl ⟨by rfl, ?_⟩) hK5 ?_
      rotate_left
      · (intro wz hSz; (try dsimp only at hSz); go_simp; try with_reducible rfl)
      simp only [Act.put, List.setIfInBounds_toArray, List.set_cons_zero, List.set_cons_succ]
      refine wpAnyH_take (i := 19) (oi := { dst := some 6, op := Go.Op.assign (Go.Operand.tmp 54), type := 4, pos := "law.go:37", after := #[{ on := 18, ground := Go.Ground.data }, { on := 16, ground := Go.Ground.chain }, { on := 0, ground := Go.Ground.phase }, { on := 1, ground := Go.Ground.phase }, { on := 2, ground := Go.Ground.phase }, { on := 3, ground := Go.Ground.phase }, { on := 4, ground := Go.Ground.phase }, { on := 5, ground := Go.Ground.phase }, { on := 6, ground := Go.Ground.phase }, { on := 7, ground := Go.Ground.phase }, { on := 8, ground := Go.Ground.phase }, { on := 9, ground := Go.Ground.phase }, { on := 10, ground := Go.Ground.phase }, { on := 11, ground := Go.Ground.phase }, { on := 12, ground := Go.Ground.phase }, { on := 13, ground := Go.Ground.phase }, { on := 14, ground := Go.Ground.phase }, { on := 15, ground := Go.Ground.phase }, { on := 16, ground := Go.Ground.phase }, { on := 17, ground := Go.Ground.phase }, { on := 18, ground := Go.Ground.phase }], guard := none }) (v := ?_) rfl (by kernel_rfl) (by kernel_rfl) (by kernel_rfl) (fun _ _ _ h => h) (Or.inl ⟨by rfl, ?_⟩) hK5 ?_
      rotate_left
      · (intro wz hSz; (try dsimp only at hSz); go_simp; try with_reducible rfl)
      simp only [Act.put, List.setIfInBounds_toArray, List.set_cons_zero, List.set_cons_succ]
      refine wpAnyH_done (by kernel_rfl) ?_ _
      go_wp2_with fail
      go_ret
      exact ⟨rfl, HBW.out.trans ((Keeps.b hK5).mono HBW.out.size)⟩
theorem tcounts_law {A : Option Addr} {cap : Nat} {l : List It} {a b : Lb} (w : World) (hA : ItemsIn w A l) (hok : Wls l) (hn : l.length ≤ maxLen) (hc : l.length ≤ cap) :
    Calls Try.prog 3 #[.slice A l.length cap, .agg #[.int .i64 a.1, .int .u64 (a.2 : Int)], .agg #[.int .i64 b.1, .int .u64 (b.2 : Int)]] w fun e w' => e = .returned (.bool true) ∧ Below w.heap.size w w' := by
  obtain ⟨a0, a1⟩ := a
  obtain ⟨b0, b1⟩ := b
  have hm : min l.length 60 = (l.take 60).length := by rw [List.length_take]; omega
  have h60 : (l.take 60).length ≤ 60 := List.length_take_le _ _
  refine tcounts_walk (l := l.take 60) (it_take hA 60) (fun x hx => hok x (List.mem_of_mem_take hx)) rfl h60 (Lib.hid fun w => ?_) (Lib.hid live19) (Lib.hid (lc_is A cap (l.take 60) a0 a1 (by omega))) (Lib.hid (lr_is A cap (l.take 60) a0 a1 (by omega))) (Lib.hid (ora_is a0 a1 b0 b1)) (Lib.hid (orr_is (a0, a1) (b0, b1)))
  have := few_any A l.length cap w hn hc
  rw [hm] at this
  exact this
end Go.Proofs.Ytmddikabilnokaa.Ta
