/-
  The law TallyBlind, walked.
-/
import Derived.Test.YtmddikabilnokaaGyg
import Derived.Test.YtmddikabilnokaaGyb
namespace Go.Proofs.Ytmddikabilnokaa.Ta
set_option linter.unusedVariables false
set_option linter.unusedSimpArgs false
open Go.RowKit
open T
open I (It Lb ItemsIn ItemsAt ItemsOk itCells alloc1 own_at own_below items_own)
open V (grown_of drawn_below RbC RbC.call cut sees)

theorem count_cut {o a : Lb} (h : L.belowB a.1 a.2 o.1 o.2 = true) : ∀ l : List It, (lns (cut o l)).count a = (lns l).count a
  | [] => rfl
  | x :: r => by
    have ih := count_cut h r
    have e1 : lns (x :: r) = (if x.an = true then [] else [x.lb]) ++ lns r := by cases e : x.an <;> simp [lns, e]
    have e2 : cut o (x :: r) = (if sees o x = true then [x] else []) ++ cut o r := by cases e : sees o x <;> simp [cut, e]
    rw [e1, e2, lns_app, List.count_append, List.count_append, ih]
    congr 1
    by_cases hs : sees o x = true
    · rw [if_pos hs]
      cases e : x.an <;> simp [lns, e]
    · rw [if_neg hs]
      cases e : x.an
      · have : ¬ x.lb = a := fun q => hs (by subst q; exact h)
        simp [lns, this]
      · simp [lns]
def CuQ (fn : FuncId) (A : Option Addr) (n cap : Nat) (l : List It) (o0 : Int) (o1 : Nat) (c : List It) (m : Nat) : Prop := ∀ w : World, ItemsIn w A l → Calls Try.prog fn #[.slice A n cap, .agg #[.int .i64 o0, .int .u64 (o1 : Int)]] w fun e w' => ∃ A2 c2, e = .returned (.slice A2 m c2) ∧ ItemsIn w' A2 c ∧ Below w.heap.size w w'
theorem CuQ.call {fn : FuncId} {A : Option Addr} {n cap : Nat} {l c : List It} {o0 : Int} {o1 m : Nat} (h : CuQ fn A n cap l o0 o1 c m) (w : World) (hI : ItemsIn w A l) : Calls Try.prog fn #[.slice A n cap, .agg #[.int .i64 o0, .int .u64 (o1 : Int)]] w fun e w' => ∃ A2 c2, e = .returned (.slice A2 m c2) ∧ ItemsIn w' A2 c ∧ Below w.heap.size w w' := h w hI
theorem cuq_is (A : Option Addr) (cap : Nat) (l : List It) (o0 : Int) (o1 : Nat) (hok : ItemsOk l) (hn : l.length ≤ 60) : CuQ 21 A l.length cap l o0 o1 (cut (o0, o1) l) (cut (o0, o1) l).length := fun w h =>
  (V.rcut_any A cap l (o0, o1) w h hok (by omega)).mono fun e w' ⟨⟨v, he, hrow⟩, hB⟩ => by
    obtain ⟨A2, c2, rfl, -, -⟩ := own_form hrow
    exact ⟨A2, c2, he, items_own hrow, hB⟩
set_option maxRecDepth 100000 in
set_option maxHeartbeats 4000000 in
theorem tblind_walk {A : Option Addr} {n cap k m : Nat} {l c : List It} {lt : List It} {a0 o0 : Int} {a1 o1 q : Nat} {b : Bool} {w : World} (hA : ItemsIn w A lt) (HFW : Hid (∀ w : World, Calls Try.prog 7 #[.slice A n cap] w fun e w' => e = .returned (.slice A k cap) ∧ w' = w))
    (HBL : Hid (RbC a0 o0 a1 o1 b)) (HLV : Hid (LvC 10)) (HL : Hid (LcC 11 A k cap lt a0 a1 q)) (HCU : Hid (CuQ 21 A k cap lt o0 o1 c m)) (HQ2 : Hid (b = true → ∀ A cap, LcC 11 A m cap c a0 a1 q)) :
    Calls Try.prog 6 #[.slice A n cap, .agg #[.int .i64 a0, .int .u64 (a1 : Int)], .agg #[.int .i64 o0, .int .u64 (o1 : Int)]] w fun e w' => e = .returned (.bool true) ∧ Below w.heap.size w w' := by
  obtain ⟨W0, hW0⟩ : ∃ W : World, W = w.alloc (.cells #[.int .i64 a0, .int .u64 (a1 : Int)] 25) := ⟨_, rfl⟩
  obtain ⟨w1, hW1⟩ : ∃ W : World, W = W0.alloc (.cells #[.int .i64 o0, .int .u64 (o1 : Int)] 25) := ⟨_, rfl⟩
  have hb0 : Below w.heap.size w W0 := by rw [hW0]; exact alloc1 _ _
  have hb1 : Below W0.heap.size W0 w1 := by rw [hW1]; exact alloc1 _ _
  have HB1 := Lib.hid (hb0.trans (hb1.mono hb0.size))
  have hx0 : w1.heap[w.heap.size]? = some (.cells #[.int .i64 a0, .int .u64 (a1 : Int)] 25 (0, 0)) := by
    rw [hb1.block _ (by rw [hW0]; simp), hW0]
    exact heap_alloc_new w _
  have hs0 : W0.heap.size = w.heap.size + 1 := by rw [hW0]; simp
  have hx1 : w1.heap[w.heap.size + 1]? = some (.cells #[.int .i64 o0, .int .u64 (o1 : Int)] 25 (0, 0)) := by
    have := heap_alloc_new W0 (.cells #[.int .i64 o0, .int .u64 (o1 : Int)] 25)
    rw [hW1, ← hs0]
    exact this
  have HI := Lib.hid (hA.below HB1.out)
  have HXA := Lib.hid hx0
  have HXO := Lib.hid hx1
  have x0 := L.blk_cell hx0 0
  have x1 := L.blk_cell hx0 1
  have x2 := L.blk_cell hx1 0
  have x3 := L.blk_cell hx1 1
  simp only [List.getElem?_toArray, List.getElem?_cons_zero, List.getElem?_cons_succ] at x0 x1 x2 x3
  clear hb0 hb1 hx0 hx1 hs0 hA
  go_enter Try.func6, Try.ntmps6
  go_upto_region 1 with fail
  rw [← hW0, ← hW1]
  obtain ⟨xa, hxa⟩ : ∃ q, q = w.heap.size := ⟨_, rfl⟩
  rw [← hxa] at HXA HXO x0 x1 x2 x3
  simp only [← hxa]
  clear hW0 hW1 hxa
  obtain ⟨xo, hxo⟩ : ∃ q, q = xa + 1 := ⟨_, rfl⟩
  rw [← hxo] at HXO x2 x3
  simp only [← hxo]
  clear hxo
  go_wp2_with fail
  refine (HFW.out _).mono ?_
  rintro e w' ⟨rfl, rfl⟩
  go_wp2_with fail
  with_reducible refine (HBL.out.call _).mono ?_
  rintro e w2 ⟨rfl, hb2⟩
  replace HI := Lib.hid (HI.out.below hb2)
  replace HXA := Lib.hid ((hb2.block _ (L.blk_lt HXA.out)).trans HXA.out)
  replace HXO := Lib.hid ((hb2.block _ (L.blk_lt HXO.out)).trans HXO.out)
  replace HB1 := Lib.hid (HB1.out.trans (hb2.mono HB1.out.size))
  clear x0 x1 x2 x3 hb2 HBL HFW
  cases b with
  | false =>
    go_wp2_with fail
    with_reducible refine (HLV.out.call _).mono ?_
    rintro e w3 ⟨rfl, hb3⟩
    go_wp2_with fail
    go_ret
    exact ⟨rfl, HB1.out.trans (hb3.mono HB1.out.size)⟩
  | true =>
    have HL2 := Lib.hid (HQ2.out rfl)
    clear HQ2
    go_upto_region 4 with fail
    refine wp_region_held_drew (S := (Keeps w2)) (by kernel_rfl) (keeps_drew _) (fun hK0 => ?_)
    refine wpAnyH_ready (rs := [0]) (by kernel_rfl) (by simp) ?_
    refine AllReadyH.cons (o := { dst := some 14, op := Go.Op.call { callee := Go.Callee.value (Go.Operand.func 10), args := #[], argTypes := #[] }, type := 4, pos := "law.go:75", after := #[], guard := none }) rfl (fun K hK => ?_) AllReadyH.nil
    go_simp
    with_reducible refine (HLV.out.call _).mono ?_
    rintro r wq1 ⟨rfl, hbq⟩
    go_wp2_with fail
    refine hK.out _ _ (Keeps.trans hK0 hbq) (fun hK1 => ?_)
    clear hK K hbq hK0
    refine wpAnyH_take (i := 1) (oi := { dst := some 15, op := Go.Op.move (Go.Operand.tmp 14), type := 4, pos := "law.go:75", after := #[{ on := 0, ground := Go.Ground.data }, { on := 0, ground := Go.Ground.chain }], guard := none }) (v := ?_) rfl (by kernel_rfl) (by kernel_rfl) (by kernel_rfl) (fun _ _ _ h => h) (Or.inl ⟨by rfl, ?_⟩) hK1 ?_
    rotate_left
    · (intro wz hSz; (try dsimp only at hSz); go_simp; try with_reducible rfl)
    simp only [Act.put, List.setIfInBounds_toArray, List.set_cons_zero, List.set_cons_succ]
    refine wpAnyH_take (i := 2) (oi := { dst := some 16, op := Go.Op.move (Go.Operand.tmp 0), type := 22, pos := "law.go:75", after := #[{ on := 1, ground := Go.Ground.guard }], guard := some (1, true) }) (v := ?_) rfl (by kernel_rfl) (by kernel_rfl) (by kernel_rfl) (fun _ _ _ h => h) (Or.inl ⟨by rfl, ?_⟩) hK1 ?_
    rotate_left
    · (intro wz hSz; (try dsimp only at hSz); go_simp; try with_reducible rfl)
    simp only [Act.put, List.setIfInBounds_toArray, List.set_cons_zero, List.set_cons_succ]
    refine wpAnyH_take (i := 3) (oi := { dst := some 17, op := Go.Op.load 25 (Go.Operand.tmp 4), type := 25, pos := "law.go:75", after := #[{ on := 1, ground := Go.Ground.guard }], guard := some (1, true) }) (v := ?_) rfl (by kernel_rfl) (by kernel_rfl) (by kernel_rfl) (fun _ _ _ h => h) (Or.inl ⟨by rfl, ?_⟩) hK1 ?_
    rotate_left
    · (intro wz hSz; have hxz := ((Keeps.b hSz).block _ (L.blk_lt HXA.out)).trans HXA.out; have hcz := L.blk_cell hxz 0; have hcz2 := L.blk_cell hxz 1; simp only [List.getElem?_toArray, List.getElem?_cons_zero, List.getElem?_cons_succ] at hcz hcz2; go_simp; try with_reducible rfl)
    simp only [Act.put, List.setIfInBounds_toArray, List.set_cons_zero, List.set_cons_succ]
    refine wpAnyH_take (i := 5) (oi := { dst := some 19, op := Go.Op.move (Go.Operand.tmp 0), type := 22, pos := "law.go:75", after := #[{ on := 1, ground := Go.Ground.guard }], guard := some (1, true) }) (v := ?_) rfl (by kernel_rfl) (by kernel_rfl) (by kernel_rfl) (fun _ _ _ h => h) (Or.inl ⟨by rfl, ?_⟩) hK1 ?_
    rotate_left
    · (intro wz hSz; (try dsimp only at hSz); go_simp; try with_reducible rfl)
    simp only [Act.put, List.setIfInBounds_toArray, List.set_cons_zero, List.set_cons_succ]
    refine wpAnyH_take (i := 6) (oi := { dst := some 20, op := Go.Op.load 25 (Go.Operand.tmp 5), type := 25, pos := "law.go:75", after := #[{ on := 1, ground := Go.Ground.guard }], guard := some (1, true) }) (v := ?_) rfl (by kernel_rfl) (by kernel_rfl) (by kernel_rfl) (fun _ _ _ h => h) (Or.inl ⟨by rfl, ?_⟩) hK1 ?_
    rotate_left
    · (intro wz hSz; have hxz := ((Keeps.b hSz).block _ (L.blk_lt HXO.out)).trans HXO.out; have hcz := L.blk_cell hxz 0; have hcz2 := L.blk_cell hxz 1; simp only [List.getElem?_toArray, List.getElem?_cons_zero, List.getElem?_cons_succ] at hcz hcz2; go_simp; try with_reducible rfl)
    simp only [Act.put, List.setIfInBounds_toArray, List.set_cons_zero, List.set_cons_succ]
    refine wpAnyH_take (i := 8) (oi := { dst := some 22, op := Go.Op.load 25 (Go.Operand.tmp 4), type := 25, pos := "law.go:75", after := #[{ on := 1, ground := Go.Ground.guard }], guard := some (1, true) }) (v := ?_) rfl (by kernel_rfl) (by kernel_rfl) (by kernel_rfl) (fun _ _ _ h => h) (Or.inl ⟨by rfl, ?_⟩) hK1 ?_
    rotate_left
    · (intro wz hSz; have hxz := ((Keeps.b hSz).block _ (L.blk_lt HXA.out)).trans HXA.out; have hcz := L.blk_cell hxz 0; have hcz2 := L.blk_cell hxz 1; simp only [List.getElem?_toArray, List.getElem?_cons_zero, List.getElem?_cons_succ] at hcz hcz2; go_simp; try with_reducible rfl)
    simp only [Act.put, List.setIfInBounds_toArray, List.set_cons_zero, List.set_cons_succ]
    refine wpAnyH_ready (rs := [4]) (by kernel_rfl) (by simp) ?_
    refine AllReadyH.cons (o := { dst := some 18, op := Go.Op.call { callee := Go.Callee.value (Go.Operand.func 11), args := #[Go.Operand.tmp 16, Go.Operand.tmp 17], argTypes := #[22, 25] }, type := 3, pos := "law.go:75", after := #[{ on := 2, ground := Go.Ground.data }, { on := 3, ground := Go.Ground.data }, { on := 1, ground := Go.Ground.chain }, { on := 1, ground := Go.Ground.guard }], guard := some (1, true) }) rfl (fun K hK => ?_) AllReadyH.nil
    go_simp
    with_reducible refine (HL.out.call _ (HI.out.below (Keeps.b hK1))).mono ?_
    rintro r wq2 ⟨rfl, hbq⟩
    go_wp2_with fail
    refine hK.out _ _ (Keeps.trans hK1 hbq) (fun hK2 => ?_)
    clear hK K hbq hK1
    refine wpAnyH_ready (rs := [7]) (by kernel_rfl) (by simp) ?_
    refine AllReadyH.cons (o := { dst := some 21, op := Go.Op.call { callee := Go.Callee.value (Go.Operand.func 21), args := #[Go.Operand.tmp 19, Go.Operand.tmp 20], argTypes := #[22, 25] }, type := 22, pos := "law.go:75", after := #[{ on := 5, ground := Go.Ground.data }, { on := 6, ground := Go.Ground.data }, { on := 4, ground := Go.Ground.chain }, { on := 1, ground := Go.Ground.guard }], guard := some (1, true) }) rfl (fun K hK => ?_) AllReadyH.nil
    go_simp
    with_reducible refine (HCU.out.call _ (HI.out.below (Keeps.b hK2))).mono ?_
    rintro r wq3 ⟨A2, c2, rfl, hi2, hbq⟩
    go_wp2_with fail
    have HI2 := Lib.hid hi2
    refine hK.out _ _ (Keeps.trans hK2 hbq) (fun hK3 => ?_)
    clear hK K hbq hi2 hK2
    refine wpAnyH_ready (rs := [9]) (by kernel_rfl) (by simp) ?_
    refine AllReadyH.cons (o := { dst := some 23, op := Go.Op.call { callee := Go.Callee.value (Go.Operand.func 11), args := #[Go.Operand.tmp 21, Go.Operand.tmp 22], argTypes := #[22, 25] }, type := 3, pos := "law.go:75", after := #[{ on := 7, ground := Go.Ground.data }, { on := 8, ground := Go.Ground.data }, { on := 7, ground := Go.Ground.chain }, { on := 1, ground := Go.Ground.guard }], guard := some (1, true) }) rfl (fun K hK => ?_) AllReadyH.nil
    go_simp
    with_reducible refine ((HL2.out A2 c2).call _ HI2.out).mono ?_
    rintro r wq4 ⟨rfl, hbq⟩
    go_wp2_with fail
    refine hK.out _ _ (Keeps.trans hK3 hbq) (fun hK4 => ?_)
    clear hK K hbq hK3
    refine wpAnyH_take (i := 10) (oi := { dst := some 24, op := Go.Op.binOp Go.BinOp.eql 3 (Go.Operand.tmp 18) (Go.Operand.tmp 23) 3, type := 4, pos := "law.go:75", after := #[{ on := 4, ground := Go.Ground.data }, { on := 9, ground := Go.Ground.data }, { on := 1, ground := Go.Ground.guard }], guard := some (1, true) }) (v := ?_) rfl (by kernel_rfl) (by kernel_rfl) (by kernel_rfl) (fun _ _ _ h => h) (Or.inl ⟨by rfl, ?_⟩) hK4 ?_
    rotate_left
    · (intro wz hSz; (try dsimp only at hSz); go_simp; try with_reducible rfl)
    simp only [Act.put, List.setIfInBounds_toArray, List.set_cons_zero, List.set_cons_succ]
    refine wpAnyH_take (i := 11) (oi := { dst := some 25, op := Go.Op.pick (Go.Operand.tmp 15) (Go.Operand.tmp 24) (Go.Operand.const (Go.Value.bool false)), type := 4, pos := "law.go:75", after := #[{ on := 1, ground := Go.Ground.data }, { on := 10, ground := Go.Ground.data }], guard := none }) (v := ?_) rfl (by kernel_rfl) (by kernel_rfl) (by kernel_rfl) (fun _ _ _ h => h) (Or.inl ⟨by rfl, ?_⟩) hK4 ?_
    rotate_left
    · (intro wz hSz; (try dsimp only at hSz); go_simp; try with_reducible rfl)
    simp only [Act.put, List.setIfInBounds_toArray, List.set_cons_zero, List.set_cons_succ]
    refine wpAnyH_take (i := 12) (oi := { dst := some 6, op := Go.Op.assign (Go.Operand.tmp 25), type := 4, pos := "law.go:75", after := #[{ on := 11, ground := Go.Ground.data }, { on := 9, ground := Go.Ground.chain }, { on := 0, ground := Go.Ground.phase }, { on := 1, ground := Go.Ground.phase }, { on := 2, ground := Go.Ground.phase }, { on := 3, ground := Go.Ground.phase }, { on := 4, ground := Go.Ground.phase }, { on := 5, ground := Go.Ground.phase }, { on := 6, ground := Go.Ground.phase }, { on := 7, ground := Go.Ground.phase }, { on := 8, ground := Go.Ground.phase }, { on := 9, ground := Go.Ground.phase }, { on := 10, ground := Go.Ground.phase }, { on := 11, ground := Go.Ground.phase }], guard := none }) (v := ?_) rfl (by kernel_rfl) (by kernel_rfl) (by kernel_rfl) (fun _ _ _ h => h) (Or.inl ⟨by rfl, ?_⟩) hK4 ?_
    rotate_left
    · (intro wz hSz; (try dsimp only at hSz); go_simp; try with_reducible rfl)
    simp only [Act.put, List.setIfInBounds_toArray, List.set_cons_zero, List.set_cons_succ]
    refine wpAnyH_done (by kernel_rfl) ?_ _
    go_wp2_with fail
    go_ret
    exact ⟨rfl, HB1.out.trans ((Keeps.b hK4).mono HB1.out.size)⟩
theorem it_take {w : World} {A : Option Addr} {l : List It} (h : ItemsIn w A l) (n : Nat) : ItemsIn w A (l.take n) := fun hp => by
  rw [List.length_take] at hp
  obtain ⟨bk, off, e, hlt, hl⟩ := h (by omega)
  refine ⟨bk, off, e, hlt, fun j hj => ?_⟩
  rw [List.length_take] at hj
  have := hl j (by omega)
  rw [List.getElem_take]
  exact this
theorem tblind_law {A : Option Addr} {cap : Nat} {l : List It} {a o : Lb} (w : World) (hA : ItemsIn w A l) (hok : ItemsOk l) (hc : l.length ≤ cap) (ha : a.2 < 18446744073709551616) :
    Calls Try.prog 6 #[.slice A l.length cap, .agg #[.int .i64 a.1, .int .u64 (a.2 : Int)], .agg #[.int .i64 o.1, .int .u64 (o.2 : Int)]] w fun e w' => e = .returned (.bool true) ∧ Below w.heap.size w w' := by
  obtain ⟨a0, a1⟩ := a
  obtain ⟨o0, o1⟩ := o
  have hn : min l.length 60 = (l.take 60).length := by rw [List.length_take]; omega
  have hok2 : ItemsOk (l.take 60) := ⟨Nat.le_trans (List.length_take_le' _ _) hok.len, fun x hx => hok.tx x (List.mem_of_mem_take hx), fun x hx => hok.ct x (List.mem_of_mem_take hx)⟩
  have h60 : (l.take 60).length ≤ 60 := List.length_take_le _ _
  refine tblind_walk (l := l) (lt := l.take 60) (c := cut (o0, o1) (l.take 60)) (it_take hA 60) (Lib.hid fun w => ?_) (Lib.hid fun w => L.refBelow_any a0 o0 a1 o1 w ha) (Lib.hid live19) (Lib.hid (lc_is A cap (l.take 60) a0 a1 (by omega))) (Lib.hid (cuq_is A cap (l.take 60) o0 o1 hok2 h60)) (Lib.hid fun hb A2 c2 => ?_)
  · have := few_any A l.length cap w hok.len hc
    rw [hn] at this
    exact this
  · have := lc_is A2 c2 (cut (o0, o1) (l.take 60)) a0 a1 (Nat.le_trans (V.cut_le _ _) (by omega))
    rw [count_cut (a := (a0, a1)) hb] at this
    exact this
end Go.Proofs.Ytmddikabilnokaa.Ta
