/-
  The law LabelTexts, walked: it returns true for every label and every text of at most 2^22 bytes, where the library's table of powers of ten holds what its text lays.
-/
import Derived.Test.YtbilhdfoajahkaaDoorRefQ
import Derived.Test.YtbilhdfoajahkaaDoorBackHeld
namespace Go.Proofs.YtbilhdfoajahkaaDoor.L
open Go.RowKit
open T

def RPr (l : Int) (c : Nat) (s : ByteArray) : Prop := ∀ w : World, Calls Tryd.prog 48 #[lab l c] w fun e w' => e = .returned (.string s) ∧ Below w.heap.size w w'
theorem RPr.call {l : Int} {c : Nat} {s : ByteArray} (h : RPr l c s) (w : World) : Calls Tryd.prog 48 #[lab l c] w fun e w' => e = .returned (.string s) ∧ Below w.heap.size w w' := h w
def RPs (s : ByteArray) (l : Int) (c : Nat) (is : Bool) : Prop := ∀ w : World, Calls Tryd.prog 46 #[.string s] w fun e w' => e = .returned (.tuple #[lab l c, .bool is]) ∧ Below w.heap.size w w'
theorem RPs.call {s : ByteArray} {l : Int} {c : Nat} {is : Bool} (h : RPs s l c is) (w : World) : Calls Tryd.prog 46 #[.string s] w fun e w' => e = .returned (.tuple #[lab l c, .bool is]) ∧ Below w.heap.size w w' := h w

abbrev HeldT (w : World) (l : Int) (c : Nat) (g h : Nat) (x : Int) (xc : Nat) (w' : World) : Prop :=
  w'.cell? ⟨w.heap.size, 0, none⟩ = some (.int .i64 l) ∧ w'.cell? ⟨w.heap.size, 1, none⟩ = some (.int .u64 (c : Int)) ∧ w'.cell? ⟨g, 0, none⟩ = some (.int .i64 x) ∧ w'.cell? ⟨g, 1, none⟩ = some (.int .u64 (xc : Int)) ∧ w'.cell? ⟨h, 0, none⟩ = some (.int .i64 x) ∧ w'.cell? ⟨h, 1, none⟩ = some (.int .u64 (xc : Int)) ∧ w.heap.size < w'.heap.size ∧ g < w'.heap.size ∧ h < w'.heap.size ∧ Below w.heap.size w w'
section
variable {w W W' : World} {l x : Int} {c xc g h : Nat}
theorem heldT_below (H : HeldT w l c g h x xc W) (hb : Below W.heap.size W W') : HeldT w l c g h x xc W' := by
  obtain ⟨h1, h2, h3, h4, h5, h6, hz, hg, hh, hB⟩ := H
  have hs := hb.size
  exact ⟨(bcell hb _ _ hz).trans h1, (bcell hb _ _ hz).trans h2, (bcell hb _ _ hg).trans h3, (bcell hb _ _ hg).trans h4, (bcell hb _ _ hh).trans h5, (bcell hb _ _ hh).trans h6, by omega, by omega, by omega, hB.trans (hb.mono hB.size)⟩
theorem heldT_end (H : HeldT w l c g h x xc W) : Below w.heap.size w W := H.2.2.2.2.2.2.2.2.2
theorem heldT_drew (H : HeldT w l c g h x xc W) : HeldT w l c g h x xc W.drew := by
  obtain ⟨h1, h2, h3, h4, h5, h6, hz, hg, hh, hB⟩ := H
  exact ⟨h1, h2, h3, h4, h5, h6, hz, hg, hh, hB.drew⟩
end

set_option maxHeartbeats 4000000 in
set_option maxRecDepth 100000 in
theorem texts_law (l x : Int) (c xc : Nat) (is : Bool) (p s : ByteArray) (w : World) (HT : Hid (Tab w)) (HP : Pr l c p) (HQ : RPr l c p) (HX : Ps s x xc is) (HY : RPs s x xc is) :
    Calls Tryd.prog 13 #[lab l c, .string s] w fun e w' => e = .returned (.bool true) ∧ Below w.heap.size w w' := by
  go_enter Tryd.func13, Tryd.ntmps13
  go_wp2_with fail
  with_reducible refine (HX.call _ (HT.out.alloc _)).mono ?_
  rintro r w1 ⟨rfl, hb1⟩
  have HA1 := Lib.hid ((hb1.block w.heap.size (by simp)).trans (heap_alloc_new w _))
  have hbe1 : Below w.heap.size w w1 := ((Below.refl _ _).alloc (Nat.le_refl _) _).trans (hb1.mono (by simp))
  have hl1 := blk_lt HA1.out
  clear hb1
  go_wp2_with fail
  with_reducible refine (HY.call _).mono ?_
  rintro r w2 ⟨rfl, hb2⟩
  have HA2 := Lib.hid ((hb2.block w.heap.size (by simp; omega)).trans ((Below.heap_alloc w1 _ _ hl1).trans HA1.out))
  have HB2 := Lib.hid ((hb2.block w1.heap.size (by simp)).trans (heap_alloc_new w1 _))
  have hbe2 : Below w.heap.size w w2 := (hbe1.alloc hbe1.size _).trans (hb2.mono (by have := hbe1.size; simp; omega))
  have hl2 := blk_lt HB2.out
  have hl0 := blk_lt HA2.out
  have hc0 := blk_cell ((Below.heap_alloc w2 (.cells #[.int .i64 x, .int .u64 (xc : Int)] 40) _ hl0).trans HA2.out)
  have hc1 := blk_cell ((Below.heap_alloc w2 (.cells #[.int .i64 x, .int .u64 (xc : Int)] 40) _ hl2).trans HB2.out)
  have hc2 := blk_cell (heap_alloc_new w2 (.cells #[.int .i64 x, .int .u64 (xc : Int)] 40))
  have hsz := World.size_alloc w2 (.cells #[.int .i64 x, .int .u64 (xc : Int)] 40)
  have hH : HeldT w l c w1.heap.size w2.heap.size x xc (w2.alloc (.cells #[.int .i64 x, .int .u64 (xc : Int)] 40)) :=
    ⟨hc0 0, hc0 1, hc1 0, hc1 1, hc2 0, hc2 1, by omega, by omega, by omega, hbe2.alloc hbe2.size _⟩
  clear hb2 HA1 HA2 HB2 hc0 hc1 hc2 hsz hbe1 hbe2 hl1 hl2 hl0 HX HY
  go_upto_region 3 with fail
  generalize w2.alloc (.cells #[.int .i64 x, .int .u64 (xc : Int)] 40) = w3 at *
  generalize w1.heap.size = g at *
  generalize w2.heap.size = h at *
  refine wp_region_held_drew (S := (fun w' => w'.cell? ⟨w.heap.size, 0, none⟩ = some (.int .i64 l) ∧ w'.cell? ⟨w.heap.size, 1, none⟩ = some (.int .u64 (c : Int)) ∧ w'.cell? ⟨g, 0, none⟩ = some (.int .i64 x) ∧ w'.cell? ⟨g, 1, none⟩ = some (.int .u64 (xc : Int)) ∧ w'.cell? ⟨h, 0, none⟩ = some (.int .i64 x) ∧ w'.cell? ⟨h, 1, none⟩ = some (.int .u64 (xc : Int)) ∧ w.heap.size < w'.heap.size ∧ g < w'.heap.size ∧ h < w'.heap.size ∧ Below w.heap.size w w')) (by kernel_rfl) (heldT_drew hH) (fun hH0 => ?_)
  refine wpAnyH_ready (rs := [0]) (by kernel_rfl) (by simp) ?_
  refine AllReadyH.cons (o := { dst := some 19, op := Go.Op.call { callee := Go.Callee.value (Go.Operand.func 31), args := #[], argTypes := #[] }, type := 4, pos := "law.go:64", after := #[], guard := none }) rfl (fun K hK => ?_) AllReadyH.nil
  go_simp
  with_reducible refine (live2 _ (HT.out.later (heldT_end hH0))).mono ?_
  rintro r wq1 ⟨rfl, hbq⟩
  go_wp2_with fail
  refine hK.out _ _ (heldT_below hH0 hbq) (fun hH1 => ?_)
  clear hK K hbq hH0
  refine wpAnyH_take (i := 1) (oi := { dst := some 20, op := Go.Op.move (Go.Operand.tmp 19), type := 4, pos := "law.go:64", after := #[{ on := 0, ground := Go.Ground.data }, { on := 0, ground := Go.Ground.chain }], guard := none }) (v := ?_) rfl (by kernel_rfl) (by kernel_rfl) (by kernel_rfl) (fun _ _ _ h => h) (Or.inl ⟨by rfl, ?_⟩) hH1 ?_
  rotate_left
  · (intro wz hSz; (try dsimp only at hSz); go_simp; try with_reducible rfl)
  simp only [Act.put, List.setIfInBounds_toArray, List.set_cons_zero, List.set_cons_succ]
  refine wpAnyH_take (i := 2) (oi := { dst := some 21, op := Go.Op.load 40 (Go.Operand.tmp 2), type := 40, pos := "law.go:64", after := #[{ on := 1, ground := Go.Ground.guard }], guard := some (1, true) }) (v := ?_) rfl (by kernel_rfl) (by kernel_rfl) (by kernel_rfl) (fun _ _ _ h => h) (Or.inl ⟨by rfl, ?_⟩) hH1 ?_
  rotate_left
  · (intro wz hSz; (try dsimp only at hSz); go_simp; try with_reducible rfl)
  simp only [Act.put, List.setIfInBounds_toArray, List.set_cons_zero, List.set_cons_succ]
  refine wpAnyH_take (i := 4) (oi := { dst := some 23, op := Go.Op.load 40 (Go.Operand.tmp 2), type := 40, pos := "law.go:64", after := #[{ on := 1, ground := Go.Ground.guard }], guard := some (1, true) }) (v := ?_) rfl (by kernel_rfl) (by kernel_rfl) (by kernel_rfl) (fun _ _ _ h => h) (Or.inl ⟨by rfl, ?_⟩) hH1 ?_
  rotate_left
  · (intro wz hSz; (try dsimp only at hSz); go_simp; try with_reducible rfl)
  simp only [Act.put, List.setIfInBounds_toArray, List.set_cons_zero, List.set_cons_succ]
  refine wpAnyH_ready (rs := [3]) (by kernel_rfl) (by simp) ?_
  refine AllReadyH.cons (o := { dst := some 22, op := Go.Op.call { callee := Go.Callee.value (Go.Operand.func 47), args := #[Go.Operand.tmp 21], argTypes := #[40] }, type := 9, pos := "law.go:64", after := #[{ on := 2, ground := Go.Ground.data }, { on := 1, ground := Go.Ground.chain }, { on := 1, ground := Go.Ground.guard }], guard := some (1, true) }) rfl (fun K hK => ?_) AllReadyH.nil
  go_simp
  with_reducible refine (HP.call _ (HT.out.later (heldT_end hH1))).mono ?_
  rintro r wq2 ⟨rfl, hbq⟩
  go_wp2_with fail
  refine hK.out _ _ (heldT_below hH1 hbq) (fun hH2 => ?_)
  clear hK K hbq hH1
  refine wpAnyH_ready (rs := [5]) (by kernel_rfl) (by simp) ?_
  refine AllReadyH.cons (o := { dst := some 24, op := Go.Op.call { callee := Go.Callee.value (Go.Operand.func 48), args := #[Go.Operand.tmp 23], argTypes := #[40] }, type := 9, pos := "law.go:64", after := #[{ on := 4, ground := Go.Ground.data }, { on := 3, ground := Go.Ground.chain }, { on := 1, ground := Go.Ground.guard }], guard := some (1, true) }) rfl (fun K hK => ?_) AllReadyH.nil
  go_simp
  with_reducible refine (HQ.call _).mono ?_
  rintro r wq3 ⟨rfl, hbq⟩
  go_wp2_with fail
  refine hK.out _ _ (heldT_below hH2 hbq) (fun hH3 => ?_)
  clear hK K hbq hH2
  refine wpAnyH_take (i := 6) (oi := { dst := some 25, op := Go.Op.binOp Go.BinOp.eql 9 (Go.Operand.tmp 22) (Go.Operand.tmp 24) 9, type := 4, pos := "law.go:64", after := #[{ on := 3, ground := Go.Ground.data }, { on := 5, ground := Go.Ground.data }, { on := 1, ground := Go.Ground.guard }], guard := some (1, true) }) (v := ?_) rfl (by kernel_rfl) (by kernel_rfl) (by kernel_rfl) (fun _ _ _ h => h) (Or.inl ⟨by rfl, ?_⟩) hH3 ?_
  rotate_left
  · (intro wz hSz; (try dsimp only at hSz); go_simp; try with_reducible rfl)
  simp only [Act.put, List.setIfInBounds_toArray, List.set_cons_zero, List.set_cons_succ]
  refine wpAnyH_take (i := 7) (oi := { dst := some 26, op := Go.Op.pick (Go.Operand.tmp 20) (Go.Operand.tmp 25) (Go.Operand.const (Go.Value.bool false)), type := 4, pos := "law.go:64", after := #[{ on := 1, ground := Go.Ground.data }, { on := 6, ground := Go.Ground.data }], guard := none }) (v := ?_) rfl (by kernel_rfl) (by kernel_rfl) (by kernel_rfl) (fun _ _ _ h => h) (Or.inl ⟨by rfl, ?_⟩) hH3 ?_
  rotate_left
  · (intro wz hSz; (try dsimp only at hSz); go_simp; try with_reducible rfl)
  simp only [Act.put, List.setIfInBounds_toArray, List.set_cons_zero, List.set_cons_succ]
  refine wpAnyH_take (i := 8) (oi := { dst := some 27, op := Go.Op.move (Go.Operand.tmp 26), type := 4, pos := "law.go:64", after := #[{ on := 7, ground := Go.Ground.data }, { on := 5, ground := Go.Ground.chain }], guard := none }) (v := ?_) rfl (by kernel_rfl) (by kernel_rfl) (by kernel_rfl) (fun _ _ _ h => h) (Or.inl ⟨by rfl, ?_⟩) hH3 ?_
  rotate_left
  · (intro wz hSz; (try dsimp only at hSz); go_simp; try with_reducible rfl)
  simp only [Act.put, List.setIfInBounds_toArray, List.set_cons_zero, List.set_cons_succ]
  refine wpAnyH_take (i := 9) (oi := { dst := some 28, op := Go.Op.load 40 (Go.Operand.tmp 5), type := 40, pos := "law.go:64", after := #[{ on := 8, ground := Go.Ground.guard }], guard := some (8, true) }) (v := ?_) rfl (by kernel_rfl) (by kernel_rfl) (by kernel_rfl) (fun _ _ _ h => h) (Or.inl ⟨by rfl, ?_⟩) hH3 ?_
  rotate_left
  · (intro wz hSz; (try dsimp only at hSz); go_simp; try with_reducible rfl)
  simp only [Act.put, List.setIfInBounds_toArray, List.set_cons_zero, List.set_cons_succ]
  refine wpAnyH_take (i := 10) (oi := { dst := some 29, op := Go.Op.load 40 (Go.Operand.tmp 7), type := 40, pos := "law.go:64", after := #[{ on := 8, ground := Go.Ground.guard }], guard := some (8, true) }) (v := ?_) rfl (by kernel_rfl) (by kernel_rfl) (by kernel_rfl) (fun _ _ _ h => h) (Or.inl ⟨by rfl, ?_⟩) hH3 ?_
  rotate_left
  · (intro wz hSz; (try dsimp only at hSz); go_simp; try with_reducible rfl)
  simp only [Act.put, List.setIfInBounds_toArray, List.set_cons_zero, List.set_cons_succ]
  refine wpAnyH_take (i := 11) (oi := { dst := some 30, op := Go.Op.binOp Go.BinOp.eql 40 (Go.Operand.tmp 28) (Go.Operand.tmp 29) 40, type := 4, pos := "law.go:64", after := #[{ on := 9, ground := Go.Ground.data }, { on := 10, ground := Go.Ground.data }, { on := 8, ground := Go.Ground.guard }], guard := some (8, true) }) (v := ?_) rfl (by kernel_rfl) (by kernel_rfl) (by kernel_rfl) (fun _ _ _ h => h) (Or.inl ⟨by rfl, ?_⟩) hH3 ?_
  rotate_left
  · (intro wz hSz; (try dsimp only at hSz); go_simp; try with_reducible rfl)
  simp only [Act.put, List.setIfInBounds_toArray, List.set_cons_zero, List.set_cons_succ]
  refine wpAnyH_take (i := 12) (oi := { dst := some 31, op := Go.Op.pick (Go.Operand.tmp 27) (Go.Operand.tmp 30) (Go.Operand.const (Go.Value.bool false)), type := 4, pos := "law.go:64", after := #[{ on := 8, ground := Go.Ground.data }, { on := 11, ground := Go.Ground.data }], guard := none }) (v := ?_) rfl (by kernel_rfl) (by kernel_rfl) (by kernel_rfl) (fun _ _ _ h => h) (Or.inl ⟨by rfl, ?_⟩) hH3 ?_
  rotate_left
  · (intro wz hSz; (try dsimp only at hSz); go_simp; try with_reducible rfl)
  simp only [Act.put, List.setIfInBounds_toArray, List.set_cons_zero, List.set_cons_succ]
  refine wpAnyH_take (i := 13) (oi := { dst := some 32, op := Go.Op.move (Go.Operand.tmp 31), type := 4, pos := "law.go:64", after := #[{ on := 12, ground := Go.Ground.data }, { on := 8, ground := Go.Ground.chain }], guard := none }) (v := ?_) rfl (by kernel_rfl) (by kernel_rfl) (by kernel_rfl) (fun _ _ _ h => h) (Or.inl ⟨by rfl, ?_⟩) hH3 ?_
  rotate_left
  · (intro wz hSz; (try dsimp only at hSz); go_simp; try with_reducible rfl)
  simp only [Act.put, List.setIfInBounds_toArray, List.set_cons_zero, List.set_cons_succ]
  refine wpAnyH_take (i := 14) (oi := { dst := some 33, op := Go.Op.move (Go.Operand.tmp 6), type := 4, pos := "law.go:64", after := #[{ on := 13, ground := Go.Ground.guard }], guard := some (13, true) }) (v := ?_) rfl (by kernel_rfl) (by kernel_rfl) (by kernel_rfl) (fun _ _ _ h => h) (Or.inl ⟨by rfl, ?_⟩) hH3 ?_
  rotate_left
  · (intro wz hSz; (try dsimp only at hSz); go_simp; try with_reducible rfl)
  simp only [Act.put, List.setIfInBounds_toArray, List.set_cons_zero, List.set_cons_succ]
  refine wpAnyH_take (i := 15) (oi := { dst := some 34, op := Go.Op.move (Go.Operand.tmp 8), type := 4, pos := "law.go:64", after := #[{ on := 13, ground := Go.Ground.guard }], guard := some (13, true) }) (v := ?_) rfl (by kernel_rfl) (by kernel_rfl) (by kernel_rfl) (fun _ _ _ h => h) (Or.inl ⟨by rfl, ?_⟩) hH3 ?_
  rotate_left
  · (intro wz hSz; (try dsimp only at hSz); go_simp; try with_reducible rfl)
  simp only [Act.put, List.setIfInBounds_toArray, List.set_cons_zero, List.set_cons_succ]
  refine wpAnyH_take (i := 16) (oi := { dst := some 35, op := Go.Op.binOp Go.BinOp.eql 4 (Go.Operand.tmp 33) (Go.Operand.tmp 34) 4, type := 4, pos := "law.go:64", after := #[{ on := 14, ground := Go.Ground.data }, { on := 15, ground := Go.Ground.data }, { on := 13, ground := Go.Ground.guard }], guard := some (13, true) }) (v := ?_) rfl (by kernel_rfl) (by kernel_rfl) (by kernel_rfl) (fun _ _ _ h => h) (Or.inl ⟨by rfl, ?_⟩) hH3 ?_
  rotate_left
  · (intro wz hSz; (try dsimp only at hSz); go_simp; try with_reducible rfl)
  simp only [Act.put, List.setIfInBounds_toArray, List.set_cons_zero, List.set_cons_succ]
  refine wpAnyH_take (i := 17) (oi := { dst := some 36, op := Go.Op.pick (Go.Operand.tmp 32) (Go.Operand.tmp 35) (Go.Operand.const (Go.Value.bool false)), type := 4, pos := "law.go:64", after := #[{ on := 13, ground := Go.Ground.data }, { on := 16, ground := Go.Ground.data }], guard := none }) (v := ?_) rfl (by kernel_rfl) (by kernel_rfl) (by kernel_rfl) (fun _ _ _ h => h) (Or.inl ⟨by rfl, ?_⟩) hH3 ?_
  rotate_left
  · (intro wz hSz; (try dsimp only at hSz); go_simp; try with_reducible rfl)
  simp only [Act.put, List.setIfInBounds_toArray, List.set_cons_zero, List.set_cons_succ]
  refine wpAnyH_take (i := 18) (oi := { dst := some 4, op := Go.Op.assign (Go.Operand.tmp 36), type := 4, pos := "law.go:64", after := #[{ on := 17, ground := Go.Ground.data }, { on := 13, ground := Go.Ground.chain }, { on := 0, ground := Go.Ground.phase }, { on := 1, ground := Go.Ground.phase }, { on := 2, ground := Go.Ground.phase }, { on := 3, ground := Go.Ground.phase }, { on := 4, ground := Go.Ground.phase }, { on := 5, ground := Go.Ground.phase }, { on := 6, ground := Go.Ground.phase }, { on := 7, ground := Go.Ground.phase }, { on := 8, ground := Go.Ground.phase }, { on := 9, ground := Go.Ground.phase }, { on := 10, ground := Go.Ground.phase }, { on := 11, ground := Go.Ground.phase }, { on := 12, ground := Go.Ground.phase }, { on := 13, ground := Go.Ground.phase }, { on := 14, ground := Go.Ground.phase }, { on := 15, ground := Go.Ground.phase }, { on := 16, ground := Go.Ground.phase }, { on := 17, ground := Go.Ground.phase }], guard := none }) (v := ?_) rfl (by kernel_rfl) (by kernel_rfl) (by kernel_rfl) (fun _ _ _ h => h) (Or.inl ⟨by rfl, ?_⟩) hH3 ?_
  rotate_left
  · (intro wz hSz; (try dsimp only at hSz); go_simp; try with_reducible rfl)
  simp only [Act.put, List.setIfInBounds_toArray, List.set_cons_zero, List.set_cons_succ]
  refine wpAnyH_done (by kernel_rfl) ?_ _
  go_wp2_with fail
  go_ret
  exact ⟨rfl, heldT_end hH3⟩
theorem parseForm (o : Option (Nat × Nat)) : ∃ (y : Int) (yc : Nat) (has : Bool), parseVal o = .tuple #[lab y yc, .bool has] := by
  match o with
  | none => exact ⟨0, 0, false, rfl⟩
  | some (n, c) => exact ⟨n, c, true, rfl⟩
theorem texts_walk (l : Int) (c : Nat) (s : ByteArray) (w : World) (h0 : -9223372036854775808 ≤ l) (h1 : l ≤ 9223372036854775807) (hc : c < 18446744073709551616) (hs : s.size ≤ 4194304) (ht : Tab w) :
    Calls Tryd.prog 13 #[lab l c, .string s] w fun e w' => e = .returned (.bool true) ∧ Below w.heap.size w w' := by
  obtain ⟨y, yc, has, hy⟩ := parseForm (parse s.data.toList)
  refine texts_law l y c yc has ⟨(print l c).toArray⟩ s w (Lib.hid ht) (fun W hT => print_any l c W h0 h1 hc hT) (fun W => refPrint_any l c W) (fun W hT => ?_) (fun W => ?_)
  · have := parse_any s W hs hT
    rwa [hy] at this
  · have := refParse_any s W hs
    rwa [hy] at this
end Go.Proofs.YtbilhdfoajahkaaDoor.L
