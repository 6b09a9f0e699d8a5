/-
  The reference's Counts (layer 19).
-/
import Derived.Test.YtmddikabilnokaaGyc
import Derived.Test.YtmddikabilnokaaGye
import Derived.Deep.DeepCutAuto
namespace Go.Proofs.Ytmddikabilnokaa.Ta
set_option linter.unusedVariables false
set_option linter.unusedSimpArgs false
open Go.RowKit
open T
open I (It Lb ItemsIn ItemsAt itCells alloc1 own_at own_below)
open V (grown_of drawn_below ItAt it_at)
attribute [-go_sem] Go.Builtin.append_

theorem below_drew1 (w : World) : Below w.heap.size w w.drew := drawn_below w 1
def OrR (fn : FuncId) (a0 : Int) (a1 : Nat) (b0 : Int) (b1 : Nat) (v : Int) : Prop := ∀ w : World, Calls Try.prog fn #[.agg #[.int .i64 a0, .int .u64 (a1 : Int)], .agg #[.int .i64 b0, .int .u64 (b1 : Int)]] w fun e w' => e = .returned (.int .i64 v) ∧ Below w.heap.size w w'
theorem OrR.call {fn : FuncId} {a0 b0 v : Int} {a1 b1 : Nat} (h : OrR fn a0 a1 b0 b1 v) (w : World) : Calls Try.prog fn #[.agg #[.int .i64 a0, .int .u64 (a1 : Int)], .agg #[.int .i64 b0, .int .u64 (b1 : Int)]] w fun e w' => e = .returned (.int .i64 v) ∧ Below w.heap.size w w' := h w
theorem orr_is (a b : Lb) : OrR 14 a.1 a.2 b.1 b.2 (ord a b) := fun w => rorder_any a.1 a.2 b.1 b.2 w
theorem lr_is (A : Option Addr) (cap : Nat) (l : List It) (a0 : Int) (a1 : Nat) (hl : l.length ≤ 1000000000) : LcC 12 A l.length cap l a0 a1 ((lns l).count (a0, a1)) := fun w h => rlines_any A cap l a0 a1 w h hl
theorem cs_ins (ls ks : List Lb) (a : Lb) (j : Nat) : cs ls (ks.take j ++ a :: ks.drop j) = (cs ls ks).take j ++ [(a, ls.count a)] ++ (cs ls ks).drop j := by
  simp [cs]
theorem ordl_is {a b : Lb} (h : lt a b) : ord a b = -1 := by unfold ord; rw [if_pos h]
theorem ordg_is {a b : Lb} (h : ¬ lt a b) (e : ¬ a = b) : ord a b = 1 := by unfold ord; rw [if_neg h, if_neg e]
theorem cs_get {ls ks : List Lb} {k : Nat} (h : k < ks.length) (h' : k < (cs ls ks).length) : ((cs ls ks)[k]'h').1 = ks[k] := by simp [cs]
/-- An append whose run is known. -/
theorem wpList_app {w w' : World} {ops : Array Oper} {rest : List Oper} {o : Oper} {a : Act} {Q : Exit → Act → World → Prop} {v u v' : Value} (hg : o.guard = none) (s x : Operand) (ho : o.op = .call { callee := .builtin .append, args := #[s, x], argTypes := #[27, 27] })
    (hs : a.eval s = v) (hx : a.eval x = u) (hr : (Builtin.append_ #[27, 27] o.type #[v, u]).run Try.prog w = .ok v' w') (h : wpList Try.prog ops Q rest (a.put o.dst v') w') : wpList Try.prog ops Q (o :: rest) a w := by
  refine wpList_plain hg fun K hK => ?_
  unfold Oper.wp execOp
  simp only [ho, resolve, invoke, builtin, Sem.run_bind, Sem.run_pure, Result.andThen_ok, List.map_toArray, List.map_cons, List.map_nil, hs, hx, hr]
  exact hK _ _ h
/-- What the reference's Counts comes to: a row to be read. -/
def RcEnd (w : World) (c : List (Lb × Nat)) (e : Ending) (w' : World) : Prop := ∃ A cap, e = .returned (.slice A c.length cap) ∧ CtsIn w' A c ∧ Below w.heap.size w w'
set_option maxRecDepth 100000 in
set_option maxHeartbeats 4000000 in
theorem rcounts_any (A : Option Addr) (cap : Nat) (l : List It) (w : World) (hA : ItemsIn w A l) (hl : l.length ≤ 400) :
    Calls Try.prog 9 #[.slice A l.length cap] w fun e w' => ∃ ks, Ks (lns l) ks ∧ RcEnd w (cs (lns l) ks) e w' := by
  obtain ⟨i0, hi0, hz0, hz1, hz2⟩ := info_parts infoCt
  obtain ⟨W0, hW0⟩ : ∃ W : World, W = w.alloc (.cells #[] 30) := ⟨_, rfl⟩
  have hb0 : Below w.heap.size w W0 := by rw [hW0]; exact alloc1 _ _
  have HB0 := Lib.hid hb0
  have HO0 : Hid (Cx W0 (some ⟨w.heap.size, 0, none⟩) 0 (cs (lns l) [])) := Lib.hid ⟨fun h => absurd h (by simp [cs]), by simp [cs], fun e => (by cases e)⟩
  have HA := Lib.hid (hA.below hb0)
  clear hA hb0
  go_enter Try.func9, Try.ntmps9
  go_wp2_with fail
  rw [← hW0]
  obtain ⟨xb, hxb⟩ : ∃ q, q = w.heap.size := ⟨_, rfl⟩
  rw [← hxb] at HO0
  rw [← hxb]
  clear hW0 hxb
  go_loopg [3, 4] l.length (fun q v i wr => ∃ (k : Nat) (ks : List Lb) (B : Option Addr) (c : Nat), k ≤ l.length ∧ i = .int .i64 k ∧ v = .slice B ks.length c ∧ l.length - k ≤ q ∧ Hid (Ks (lns (l.take k)) ks) ∧ Hid (Cx wr B c (cs (lns l) ks)) ∧ Hid (Below W0.heap.size W0 wr))
  case atStart => exact ⟨0, [], _, 0, Nat.zero_le _, rfl, rfl, by omega, Lib.hid (by simpa [lns] using Ks.nil), HO0, Lib.hid (Below.refl _ _)⟩
  case round =>
    obtain ⟨k, ks, B, c, hk, rfl, rfl, hm, HKS, HCX, HBR⟩ := hrel
    by_cases hlt : k < l.length
    · obtain ⟨bk, off, hAe, hbk, hIt⟩ := HA.out (by omega)
      subst hAe
      have HI := Lib.hid ((it_at hIt hbk hlt).below HBR.out)
      have HAI := Lib.hid (HA.out.below HBR.out)
      have HN := Lib.hid (lns_take hlt)
      have h0k : (0 : Int) ≤ (k : Int) := by omega
      have hki : (k : Int) < (l.length : Int) := by omega
      have hkl : ks.length ≤ 400 := Nat.le_trans HKS.out.len (Nat.le_trans (lns_le _) (by rw [List.length_take]; omega))
      generalize l[k] = y at *
      have HBK := Lib.hid HI.out.lt
      have c1 := HI.out.c1
      have c2 := HI.out.c2
      have c3 := HI.out.c3
      obtain ⟨y0, x0, x1, an, tx, ba⟩ := y
      simp only [I.It.lb] at c1 c2 c3 HN
      clear HI hIt
      cases an with
      | true =>
        go_wp2_with fail
        go_roundg (l.length - (k + 1))
        case rel => exact ⟨k + 1, ks, B, c, by omega, by go_num, rfl, by omega, Lib.hid (by rw [HN.out]; simpa using HKS.out), HCX, HBR⟩
        case measure => omega
      | false =>
        go_upto_region 6 with fail
        generalize wr = wo at *
        go_wp2_with fail
        go_loopg [5] ks.length (fun q i wr => ∃ j : Nat, j ≤ ks.length ∧ i = .int .i64 j ∧ ks.length - j ≤ q ∧ Hid (∀ (j' : Nat) (h : j' < ks.length), j' < j → lt (ks[j']'h) (x0, x1)) ∧ Hid (Below wo.heap.size wo wr))
        case atStart => exact ⟨0, Nat.zero_le _, rfl, by omega, Lib.hid (fun _ _ h => absurd h (by omega)), Lib.hid (Below.refl _ _)⟩
        case round =>
          obtain ⟨j, hj, rfl, hmj, HLT, HBW⟩ := hrel
          replace c1 := (HBW.out.cell (p := ⟨bk, _, none⟩) HBK.out).trans c1
          replace c2 := (HBW.out.cell (p := ⟨bk, _, none⟩) HBK.out).trans c2
          replace HBK : Hid (bk < wr.heap.size) := Lib.hid (Nat.lt_of_lt_of_le HBK.out HBW.out.size)
          replace HCX := Lib.hid (HCX.out.below HBW.out)
          replace HAI := Lib.hid (HAI.out.below HBW.out)
          replace HBR := Lib.hid (HBR.out.trans (HBW.out.mono HBR.out.size))
          have h0j : (0 : Int) ≤ (j : Int) := by omega
          have HBO := HBW
          clear c3 HBW
          by_cases hjl : j < ks.length
          · obtain ⟨rb, ro, hBe, hrb, hat⟩ := HCX.out.i (by rw [cs_len]; omega)
            subst hBe
            have HRB := Lib.hid hrb
            obtain ⟨p0, p1, -⟩ := hat j (by rw [cs_len]; exact hjl)
            rw [cs_get hjl] at p0 p1
            have hjn : (j : Int) < (ks.length : Int) := by omega
            obtain ⟨z, hz⟩ : ∃ z, z = ks[j]'hjl := ⟨_, rfl⟩
            rw [← hz] at p0 p1
            have HZ := Lib.hid hz
            clear hz hat hrb
            obtain ⟨z0, z1⟩ := z
            simp only at p0 p1
            have HOR := Lib.hid (orr_is (z0, z1) (x0, x1))
            simp only at HOR
            by_cases hl2 : lt (z0, z1) (x0, x1)
            · rw [ordl_is hl2] at HOR
              go_upto_region 7 with fail
              refine wp_region_held_drew (S := (Keeps wr)) (by kernel_rfl) (keeps_drew _) (fun hK0 => ?_)
              refine wpAnyH_take (i := 0) (oi := { dst := some 19, op := Go.Op.move (Go.Operand.tmp 5), type := 3, pos := "ref.go:36", after := #[], guard := none }) (v := ?_) rfl (by kernel_rfl) (by kernel_rfl) (by kernel_rfl) (fun _ _ _ h => h) (Or.inl ⟨by rfl, ?_⟩) hK0 ?_
              rotate_left
              · (intro wz hSz; (try dsimp only at hSz); go_simp; try with_reducible rfl)
              simp only [Act.put, List.setIfInBounds_toArray, List.set_cons_zero, List.set_cons_succ]
              refine wpAnyH_take (i := 1) (oi := { dst := some 20, op := Go.Op.move (Go.Operand.tmp 3), type := 27, pos := "ref.go:36", after := #[], guard := none }) (v := ?_) rfl (by kernel_rfl) (by kernel_rfl) (by kernel_rfl) (fun _ _ _ h => h) (Or.inl ⟨by rfl, ?_⟩) hK0 ?_
              rotate_left
              · (intro wz hSz; (try dsimp only at hSz); go_simp; try with_reducible rfl)
              simp only [Act.put, List.setIfInBounds_toArray, List.set_cons_zero, List.set_cons_succ]
              refine wpAnyH_take (i := 2) (oi := { dst := some 21, op := Go.Op.call { callee := Go.Callee.builtin Go.Builtin.len, args := #[Go.Operand.tmp 20], argTypes := #[27] }, type := 3, pos := "ref.go:36", after := #[{ on := 1, ground := Go.Ground.data }], guard := none }) (v := ?_) rfl (by kernel_rfl) (by kernel_rfl) (by kernel_rfl) (fun _ _ _ h => h) (Or.inl ⟨by rfl, ?_⟩) hK0 ?_
              rotate_left
              · (intro wz hSz; (try dsimp only at hSz); go_simp; try with_reducible rfl)
              simp only [Act.put, List.setIfInBounds_toArray, List.set_cons_zero, List.set_cons_succ]
              refine wpAnyH_take (i := 3) (oi := { dst := some 22, op := Go.Op.binOp Go.BinOp.lss 3 (Go.Operand.tmp 19) (Go.Operand.tmp 21) 3, type := 4, pos := "ref.go:36", after := #[{ on := 0, ground := Go.Ground.data }, { on := 2, ground := Go.Ground.data }], guard := none }) (v := ?_) rfl (by kernel_rfl) (by kernel_rfl) (by kernel_rfl) (fun _ _ _ h => h) (Or.inl ⟨by rfl, ?_⟩) hK0 ?_
              rotate_left
              · (intro wz hSz; (try dsimp only at hSz); go_simp; try with_reducible rfl)
              simp only [Act.put, List.setIfInBounds_toArray, List.set_cons_zero, List.set_cons_succ]
              refine wpAnyH_take (i := 4) (oi := { dst := some 23, op := Go.Op.move (Go.Operand.tmp 22), type := 4, pos := "ref.go:36", after := #[{ on := 3, ground := Go.Ground.data }], guard := none }) (v := ?_) rfl (by kernel_rfl) (by kernel_rfl) (by kernel_rfl) (fun _ _ _ h => h) (Or.inl ⟨by rfl, ?_⟩) hK0 ?_
              rotate_left
              · (intro wz hSz; (try dsimp only at hSz); go_simp; try with_reducible rfl)
              simp only [Act.put, List.setIfInBounds_toArray, List.set_cons_zero, List.set_cons_succ]
              refine wpAnyH_take (i := 5) (oi := { dst := some 24, op := Go.Op.move (Go.Operand.tmp 3), type := 27, pos := "ref.go:36", after := #[{ on := 4, ground := Go.Ground.guard }], guard := some (4, true) }) (v := ?_) rfl (by kernel_rfl) (by kernel_rfl) (by kernel_rfl) (fun _ _ _ h => h) (Or.inl ⟨by rfl, ?_⟩) hK0 ?_
              rotate_left
              · (intro wz hSz; (try dsimp only at hSz); go_simp; try with_reducible rfl)
              simp only [Act.put, List.setIfInBounds_toArray, List.set_cons_zero, List.set_cons_succ]
              refine wpAnyH_take (i := 6) (oi := { dst := some 25, op := Go.Op.move (Go.Operand.tmp 5), type := 3, pos := "ref.go:36", after := #[{ on := 4, ground := Go.Ground.guard }], guard := some (4, true) }) (v := ?_) rfl (by kernel_rfl) (by kernel_rfl) (by kernel_rfl) (fun _ _ _ h => h) (Or.inl ⟨by rfl, ?_⟩) hK0 ?_
              rotate_left
              · (intro wz hSz; (try dsimp only at hSz); go_simp; try with_reducible rfl)
              simp only [Act.put, List.setIfInBounds_toArray, List.set_cons_zero, List.set_cons_succ]
              refine wpAnyH_take (i := 7) (oi := { dst := some 26, op := Go.Op.indexAddr 27 (Go.Operand.tmp 24) (Go.Operand.tmp 25), type := 0, pos := "ref.go:36", after := #[{ on := 5, ground := Go.Ground.data }, { on := 6, ground := Go.Ground.data }, { on := 4, ground := Go.Ground.guard }], guard := some (4, true) }) (v := ?_) rfl (by kernel_rfl) (by kernel_rfl) (by kernel_rfl) (fun _ _ _ h => h) (Or.inl ⟨by rfl, ?_⟩) hK0 ?_
              rotate_left
              · (intro wz hSz; (try dsimp only at hSz); go_simp; try with_reducible rfl)
              simp only [Act.put, List.setIfInBounds_toArray, List.set_cons_zero, List.set_cons_succ]
              refine wpAnyH_take (i := 8) (oi := { dst := some 27, op := Go.Op.fieldAddr 30 (Go.Operand.tmp 26) 0, type := 0, pos := "ref.go:36", after := #[{ on := 7, ground := Go.Ground.data }, { on := 4, ground := Go.Ground.guard }], guard := some (4, true) }) (v := ?_) rfl (by kernel_rfl) (by kernel_rfl) (by kernel_rfl) (fun _ _ _ h => h) (Or.inl ⟨by rfl, ?_⟩) hK0 ?_
              rotate_left
              · (intro wz hSz; (try dsimp only at hSz); go_simp; try with_reducible rfl)
              simp only [Act.put, List.setIfInBounds_toArray, List.set_cons_zero, List.set_cons_succ]
              refine wpAnyH_take (i := 9) (oi := { dst := some 28, op := Go.Op.load 25 (Go.Operand.tmp 27), type := 25, pos := "ref.go:36", after := #[{ on := 8, ground := Go.Ground.data }, { on := 4, ground := Go.Ground.guard }], guard := some (4, true) }) (v := ?_) rfl (by kernel_rfl) (by kernel_rfl) (by kernel_rfl) (fun _ _ _ h => h) (Or.inl ⟨by rfl, ?_⟩) hK0 ?_
              rotate_left
              · (intro wz hSz; have hcz := (Keeps.b hSz).cell (p := ⟨rb, _, none⟩) HRB.out |>.trans p0; have hcz2 := (Keeps.b hSz).cell (p := ⟨rb, _, none⟩) HRB.out |>.trans p1; go_simp; try with_reducible rfl)
              simp only [Act.put, List.setIfInBounds_toArray, List.set_cons_zero, List.set_cons_succ]
              refine wpAnyH_take (i := 10) (oi := { dst := some 29, op := Go.Op.move (Go.Operand.tmp 0), type := 22, pos := "ref.go:36", after := #[{ on := 4, ground := Go.Ground.guard }], guard := some (4, true) }) (v := ?_) rfl (by kernel_rfl) (by kernel_rfl) (by kernel_rfl) (fun _ _ _ h => h) (Or.inl ⟨by rfl, ?_⟩) hK0 ?_
              rotate_left
              · (intro wz hSz; (try dsimp only at hSz); go_simp; try with_reducible rfl)
              simp only [Act.put, List.setIfInBounds_toArray, List.set_cons_zero, List.set_cons_succ]
              refine wpAnyH_take (i := 11) (oi := { dst := some 30, op := Go.Op.move (Go.Operand.tmp 4), type := 3, pos := "ref.go:36", after := #[{ on := 4, ground := Go.Ground.guard }], guard := some (4, true) }) (v := ?_) rfl (by kernel_rfl) (by kernel_rfl) (by kernel_rfl) (fun _ _ _ h => h) (Or.inl ⟨by rfl, ?_⟩) hK0 ?_
              rotate_left
              · (intro wz hSz; (try dsimp only at hSz); go_simp; try with_reducible rfl)
              simp only [Act.put, List.setIfInBounds_toArray, List.set_cons_zero, List.set_cons_succ]
              refine wpAnyH_take (i := 12) (oi := { dst := some 31, op := Go.Op.indexAddr 22 (Go.Operand.tmp 29) (Go.Operand.tmp 30), type := 0, pos := "ref.go:36", after := #[{ on := 10, ground := Go.Ground.data }, { on := 11, ground := Go.Ground.data }, { on := 4, ground := Go.Ground.guard }], guard := some (4, true) }) (v := ?_) rfl (by kernel_rfl) (by kernel_rfl) (by kernel_rfl) (fun _ _ _ h => h) (Or.inl ⟨by rfl, ?_⟩) hK0 ?_
              rotate_left
              · (intro wz hSz; (try dsimp only at hSz); go_simp; try with_reducible rfl)
              simp only [Act.put, List.setIfInBounds_toArray, List.set_cons_zero, List.set_cons_succ]
              refine wpAnyH_take (i := 13) (oi := { dst := some 32, op := Go.Op.fieldAddr 44 (Go.Operand.tmp 31) 1, type := 0, pos := "ref.go:36", after := #[{ on := 12, ground := Go.Ground.data }, { on := 4, ground := Go.Ground.guard }], guard := some (4, true) }) (v := ?_) rfl (by kernel_rfl) (by kernel_rfl) (by kernel_rfl) (fun _ _ _ h => h) (Or.inl ⟨by rfl, ?_⟩) hK0 ?_
              rotate_left
              · (intro wz hSz; (try dsimp only at hSz); go_simp; try with_reducible rfl)
              simp only [Act.put, List.setIfInBounds_toArray, List.set_cons_zero, List.set_cons_succ]
              refine wpAnyH_take (i := 14) (oi := { dst := some 33, op := Go.Op.load 25 (Go.Operand.tmp 32), type := 25, pos := "ref.go:36", after := #[{ on := 13, ground := Go.Ground.data }, { on := 4, ground := Go.Ground.guard }], guard := some (4, true) }) (v := ?_) rfl (by kernel_rfl) (by kernel_rfl) (by kernel_rfl) (fun _ _ _ h => h) (Or.inl ⟨by rfl, ?_⟩) hK0 ?_
              rotate_left
              · (intro wz hSz; have hcz := (Keeps.b hSz).cell (p := ⟨bk, _, none⟩) HBK.out |>.trans c1; have hcz2 := (Keeps.b hSz).cell (p := ⟨bk, _, none⟩) HBK.out |>.trans c2; go_simp; try with_reducible rfl)
              simp only [Act.put, List.setIfInBounds_toArray, List.set_cons_zero, List.set_cons_succ]
              refine wpAnyH_ready (rs := [15]) (by kernel_rfl) (by simp) ?_
              refine AllReadyH.cons (o := { dst := some 34, op := Go.Op.call { callee := Go.Callee.value (Go.Operand.func 14), args := #[Go.Operand.tmp 28, Go.Operand.tmp 33], argTypes := #[25, 25] }, type := 3, pos := "ref.go:36", after := #[{ on := 9, ground := Go.Ground.data }, { on := 14, ground := Go.Ground.data }, { on := 4, ground := Go.Ground.chain }, { on := 4, ground := Go.Ground.guard }], guard := some (4, true) }) rfl (fun K hK => ?_) AllReadyH.nil
              go_simp
              with_reducible refine (HOR.out.call _).mono ?_
              rintro r wq1 ⟨rfl, hbq⟩
              go_wp2_with fail
              refine hK.out _ _ (Keeps.trans hK0 hbq) (fun hK1 => ?_)
              clear hK K hbq hK0
              refine wpAnyH_take (i := 16) (oi := { dst := some 35, op := Go.Op.binOp Go.BinOp.lss 3 (Go.Operand.tmp 34) (Go.Operand.const (Go.Value.int Go.IntKind.i64 0)) 3, type := 4, pos := "ref.go:36", after := #[{ on := 15, ground := Go.Ground.data }, { on := 4, ground := Go.Ground.guard }], guard := some (4, true) }) (v := ?_) rfl (by kernel_rfl) (by kernel_rfl) (by kernel_rfl) (fun _ _ _ h => h) (Or.inl ⟨by rfl, ?_⟩) hK1 ?_
              rotate_left
              · (intro wz hSz; (try dsimp only at hSz); go_simp; try with_reducible rfl)
              simp only [Act.put, List.setIfInBounds_toArray, List.set_cons_zero, List.set_cons_succ]
              refine wpAnyH_take (i := 17) (oi := { dst := some 36, op := Go.Op.pick (Go.Operand.tmp 23) (Go.Operand.tmp 35) (Go.Operand.const (Go.Value.bool false)), type := 4, pos := "ref.go:36", after := #[{ on := 4, ground := Go.Ground.data }, { on := 16, ground := Go.Ground.data }], guard := none }) (v := ?_) rfl (by kernel_rfl) (by kernel_rfl) (by kernel_rfl) (fun _ _ _ h => h) (Or.inl ⟨by rfl, ?_⟩) hK1 ?_
              rotate_left
              · (intro wz hSz; (try dsimp only at hSz); go_simp; try with_reducible rfl)
              simp only [Act.put, List.setIfInBounds_toArray, List.set_cons_zero, List.set_cons_succ]
              refine wpAnyH_done (by kernel_rfl) ?_ _
              go_wp2_with fail
              go_roundg (ks.length - (j + 1))
              case rel => exact ⟨j + 1, by omega, by go_num, by omega, Lib.hid (fun j' h hjj => by
                by_cases e : j' = j
                · subst e
                  rw [← HZ.out]
                  exact hl2
                · exact HLT.out j' h (by omega)), Lib.hid (HBO.out.trans ((Keeps.b hK1).mono HBO.out.size))⟩
              case measure => omega
            · by_cases e : (z0, z1) = (x0, x1)
              · rw [ord_zero.2 e] at HOR
                go_upto_region 7 with fail
                refine wp_region_held_drew (S := (Keeps wr)) (by kernel_rfl) (keeps_drew _) (fun hK0 => ?_)
                refine wpAnyH_take (i := 0) (oi := { dst := some 19, op := Go.Op.move (Go.Operand.tmp 5), type := 3, pos := "ref.go:36", after := #[], guard := none }) (v := ?_) rfl (by kernel_rfl) (by kernel_rfl) (by kernel_rfl) (fun _ _ _ h => h) (Or.inl ⟨by rfl, ?_⟩) hK0 ?_
                rotate_left
                · (intro wz hSz; (try dsimp only at hSz); go_simp; try with_reducible rfl)
                simp only [Act.put, List.setIfInBounds_toArray, List.set_cons_zero, List.set_cons_succ]
                refine wpAnyH_take (i := 1) (oi := { dst := some 20, op := Go.Op.move (Go.Operand.tmp 3), type := 27, pos := "ref.go:36", after := #[], guard := none }) (v := ?_) rfl (by kernel_rfl) (by kernel_rfl) (by kernel_rfl) (fun _ _ _ h => h) (Or.inl ⟨by rfl, ?_⟩) hK0 ?_
                rotate_left
                · (intro wz hSz; (try dsimp only at hSz); go_simp; try with_reducible rfl)
                simp only [Act.put, List.setIfInBounds_toArray, List.set_cons_zero, List.set_cons_succ]
                refine wpAnyH_take (i := 2) (oi := { dst := some 21, op := Go.Op.call { callee := Go.Callee.builtin Go.Builtin.len, args := #[Go.Operand.tmp 20], argTypes := #[27] }, type := 3, pos := "ref.go:36", after := #[{ on := 1, ground := Go.Ground.data }], guard := none }) (v := ?_) rfl (by kernel_rfl) (by kernel_rfl) (by kernel_rfl) (fun _ _ _ h => h) (Or.inl ⟨by rfl, ?_⟩) hK0 ?_
                rotate_left
                · (intro wz hSz; (try dsimp only at hSz); go_simp; try with_reducible rfl)
                simp only [Act.put, List.setIfInBounds_toArray, List.set_cons_zero, List.set_cons_succ]
                refine wpAnyH_take (i := 3) (oi := { dst := some 22, op := Go.Op.binOp Go.BinOp.lss 3 (Go.Operand.tmp 19) (Go.Operand.tmp 21) 3, type := 4, pos := "ref.go:36", after := #[{ on := 0, ground := Go.Ground.data }, { on := 2, ground := Go.Ground.data }], guard := none }) (v := ?_) rfl (by kernel_rfl) (by kernel_rfl) (by kernel_rfl) (fun _ _ _ h => h) (Or.inl ⟨by rfl, ?_⟩) hK0 ?_
                rotate_left
                · (intro wz hSz; (try dsimp only at hSz); go_simp; try with_reducible rfl)
                simp only [Act.put, List.setIfInBounds_toArray, List.set_cons_zero, List.set_cons_succ]
                refine wpAnyH_take (i := 4) (oi := { dst := some 23, op := Go.Op.move (Go.Operand.tmp 22), type := 4, pos := "ref.go:36", after := #[{ on := 3, ground := Go.Ground.data }], guard := none }) (v := ?_) rfl (by kernel_rfl) (by kernel_rfl) (by kernel_rfl) (fun _ _ _ h => h) (Or.inl ⟨by rfl, ?_⟩) hK0 ?_
                rotate_left
                · (intro wz hSz; (try dsimp only at hSz); go_simp; try with_reducible rfl)
                simp only [Act.put, List.setIfInBounds_toArray, List.set_cons_zero, List.set_cons_succ]
                refine wpAnyH_take (i := 5) (oi := { dst := some 24, op := Go.Op.move (Go.Operand.tmp 3), type := 27, pos := "ref.go:36", after := #[{ on := 4, ground := Go.Ground.guard }], guard := some (4, true) }) (v := ?_) rfl (by kernel_rfl) (by kernel_rfl) (by kernel_rfl) (fun _ _ _ h => h) (Or.inl ⟨by rfl, ?_⟩) hK0 ?_
                rotate_left
                · (intro wz hSz; (try dsimp only at hSz); go_simp; try with_reducible rfl)
                simp only [Act.put, List.setIfInBounds_toArray, List.set_cons_zero, List.set_cons_succ]
                refine wpAnyH_take (i := 6) (oi := { dst := some 25, op := Go.Op.move (Go.Operand.tmp 5), type := 3, pos := "ref.go:36", after := #[{ on := 4, ground := Go.Ground.guard }], guard := some (4, true) }) (v := ?_) rfl (by kernel_rfl) (by kernel_rfl) (by kernel_rfl) (fun _ _ _ h => h) (Or.inl ⟨by rfl, ?_⟩) hK0 ?_
                rotate_left
                · (intro wz hSz; (try dsimp only at hSz); go_simp; try with_reducible rfl)
                simp only [Act.put, List.setIfInBounds_toArray, List.set_cons_zero, List.set_cons_succ]
                refine wpAnyH_take (i := 7) (oi := { dst := some 26, op := Go.Op.indexAddr 27 (Go.Operand.tmp 24) (Go.Operand.tmp 25), type := 0, pos := "ref.go:36", after := #[{ on := 5, ground := Go.Ground.data }, { on := 6, ground := Go.Ground.data }, { on := 4, ground := Go.Ground.guard }], guard := some (4, true) }) (v := ?_) rfl (by kernel_rfl) (by kernel_rfl) (by kernel_rfl) (fun _ _ _ h => h) (Or.inl ⟨by rfl, ?_⟩) hK0 ?_
                rotate_left
                · (intro wz hSz; (try dsimp only at hSz); go_simp; try with_reducible rfl)
                simp only [Act.put, List.setIfInBounds_toArray, List.set_cons_zero, List.set_cons_succ]
                refine wpAnyH_take (i := 8) (oi := { dst := some 27, op := Go.Op.fieldAddr 30 (Go.Operand.tmp 26) 0, type := 0, pos := "ref.go:36", after := #[{ on := 7, ground := Go.Ground.data }, { on := 4, ground := Go.Ground.guard }], guard := some (4, true) }) (v := ?_) rfl (by kernel_rfl) (by kernel_rfl) (by kernel_rfl) (fun _ _ _ h => h) (Or.inl ⟨by rfl, ?_⟩) hK0 ?_
                rotate_left
                · (intro wz hSz; (try dsimp only at hSz); go_simp; try with_reducible rfl)
                simp only [Act.put, List.setIfInBounds_toArray, List.set_cons_zero, List.set_cons_succ]
                refine wpAnyH_take (i := 9) (oi := { dst := some 28, op := Go.Op.load 25 (Go.Operand.tmp 27), type := 25, pos := "ref.go:36", after := #[{ on := 8, ground := Go.Ground.data }, { on := 4, ground := Go.Ground.guard }], guard := some (4, true) }) (v := ?_) rfl (by kernel_rfl) (by kernel_rfl) (by kernel_rfl) (fun _ _ _ h => h) (Or.inl ⟨by rfl, ?_⟩) hK0 ?_
                rotate_left
                · (intro wz hSz; have hcz := (Keeps.b hSz).cell (p := ⟨rb, _, none⟩) HRB.out |>.trans p0; have hcz2 := (Keeps.b hSz).cell (p := ⟨rb, _, none⟩) HRB.out |>.trans p1; go_simp; try with_reducible rfl)
                simp only [Act.put, List.setIfInBounds_toArray, List.set_cons_zero, List.set_cons_succ]
                refine wpAnyH_take (i := 10) (oi := { dst := some 29, op := Go.Op.move (Go.Operand.tmp 0), type := 22, pos := "ref.go:36", after := #[{ on := 4, ground := Go.Ground.guard }], guard := some (4, true) }) (v := ?_) rfl (by kernel_rfl) (by kernel_rfl) (by kernel_rfl) (fun _ _ _ h => h) (Or.inl ⟨by rfl, ?_⟩) hK0 ?_
                rotate_left
                · (intro wz hSz; (try dsimp only at hSz); go_simp; try with_reducible rfl)
                simp only [Act.put, List.setIfInBounds_toArray, List.set_cons_zero, List.set_cons_succ]
                refine wpAnyH_take (i := 11) (oi := { dst := some 30, op := Go.Op.move (Go.Operand.tmp 4), type := 3, pos := "ref.go:36", after := #[{ on := 4, ground := Go.Ground.guard }], guard := some (4, true) }) (v := ?_) rfl (by kernel_rfl) (by kernel_rfl) (by kernel_rfl) (fun _ _ _ h => h) (Or.inl ⟨by rfl, ?_⟩) hK0 ?_
                rotate_left
                · (intro wz hSz; (try dsimp only at hSz); go_simp; try with_reducible rfl)
                simp only [Act.put, List.setIfInBounds_toArray, List.set_cons_zero, List.set_cons_succ]
                refine wpAnyH_take (i := 12) (oi := { dst := some 31, op := Go.Op.indexAddr 22 (Go.Operand.tmp 29) (Go.Operand.tmp 30), type := 0, pos := "ref.go:36", after := #[{ on := 10, ground := Go.Ground.data }, { on := 11, ground := Go.Ground.data }, { on := 4, ground := Go.Ground.guard }], guard := some (4, true) }) (v := ?_) rfl (by kernel_rfl) (by kernel_rfl) (by kernel_rfl) (fun _ _ _ h => h) (Or.inl ⟨by rfl, ?_⟩) hK0 ?_
                rotate_left
                · (intro wz hSz; (try dsimp only at hSz); go_simp; try with_reducible rfl)
                simp only [Act.put, List.setIfInBounds_toArray, List.set_cons_zero, List.set_cons_succ]
                refine wpAnyH_take (i := 13) (oi := { dst := some 32, op := Go.Op.fieldAddr 44 (Go.Operand.tmp 31) 1, type := 0, pos := "ref.go:36", after := #[{ on := 12, ground := Go.Ground.data }, { on := 4, ground := Go.Ground.guard }], guard := some (4, true) }) (v := ?_) rfl (by kernel_rfl) (by kernel_rfl) (by kernel_rfl) (fun _ _ _ h => h) (Or.inl ⟨by rfl, ?_⟩) hK0 ?_
                rotate_left
                · (intro wz hSz; (try dsimp only at hSz); go_simp; try with_reducible rfl)
                simp only [Act.put, List.setIfInBounds_toArray, List.set_cons_zero, List.set_cons_succ]
                refine wpAnyH_take (i := 14) (oi := { dst := some 33, op := Go.Op.load 25 (Go.Operand.tmp 32), type := 25, pos := "ref.go:36", after := #[{ on := 13, ground := Go.Ground.data }, { on := 4, ground := Go.Ground.guard }], guard := some (4, true) }) (v := ?_) rfl (by kernel_rfl) (by kernel_rfl) (by kernel_rfl) (fun _ _ _ h => h) (Or.inl ⟨by rfl, ?_⟩) hK0 ?_
                rotate_left
                · (intro wz hSz; have hcz := (Keeps.b hSz).cell (p := ⟨bk, _, none⟩) HBK.out |>.trans c1; have hcz2 := (Keeps.b hSz).cell (p := ⟨bk, _, none⟩) HBK.out |>.trans c2; go_simp; try with_reducible rfl)
                simp only [Act.put, List.setIfInBounds_toArray, List.set_cons_zero, List.set_cons_succ]
                refine wpAnyH_ready (rs := [15]) (by kernel_rfl) (by simp) ?_
                refine AllReadyH.cons (o := { dst := some 34, op := Go.Op.call { callee := Go.Callee.value (Go.Operand.func 14), args := #[Go.Operand.tmp 28, Go.Operand.tmp 33], argTypes := #[25, 25] }, type := 3, pos := "ref.go:36", after := #[{ on := 9, ground := Go.Ground.data }, { on := 14, ground := Go.Ground.data }, { on := 4, ground := Go.Ground.chain }, { on := 4, ground := Go.Ground.guard }], guard := some (4, true) }) rfl (fun K hK => ?_) AllReadyH.nil
                go_simp
                with_reducible refine (HOR.out.call _).mono ?_
                rintro r wq1 ⟨rfl, hbq⟩
                go_wp2_with fail
                refine hK.out _ _ (Keeps.trans hK0 hbq) (fun hK1 => ?_)
                clear hK K hbq hK0
                refine wpAnyH_take (i := 16) (oi := { dst := some 35, op := Go.Op.binOp Go.BinOp.lss 3 (Go.Operand.tmp 34) (Go.Operand.const (Go.Value.int Go.IntKind.i64 0)) 3, type := 4, pos := "ref.go:36", after := #[{ on := 15, ground := Go.Ground.data }, { on := 4, ground := Go.Ground.guard }], guard := some (4, true) }) (v := ?_) rfl (by kernel_rfl) (by kernel_rfl) (by kernel_rfl) (fun _ _ _ h => h) (Or.inl ⟨by rfl, ?_⟩) hK1 ?_
                rotate_left
                · (intro wz hSz; (try dsimp only at hSz); go_simp; try with_reducible rfl)
                simp only [Act.put, List.setIfInBounds_toArray, List.set_cons_zero, List.set_cons_succ]
                refine wpAnyH_take (i := 17) (oi := { dst := some 36, op := Go.Op.pick (Go.Operand.tmp 23) (Go.Operand.tmp 35) (Go.Operand.const (Go.Value.bool false)), type := 4, pos := "ref.go:36", after := #[{ on := 4, ground := Go.Ground.data }, { on := 16, ground := Go.Ground.data }], guard := none }) (v := ?_) rfl (by kernel_rfl) (by kernel_rfl) (by kernel_rfl) (fun _ _ _ h => h) (Or.inl ⟨by rfl, ?_⟩) hK1 ?_
                rotate_left
                · (intro wz hSz; (try dsimp only at hSz); go_simp; try with_reducible rfl)
                simp only [Act.put, List.setIfInBounds_toArray, List.set_cons_zero, List.set_cons_succ]
                refine wpAnyH_done (by kernel_rfl) ?_ _
                go_wp2_with fail
                have hb7 := Keeps.b hK1
                replace p0 := (hb7.cell (p := ⟨rb, _, none⟩) HRB.out).trans p0
                replace p1 := (hb7.cell (p := ⟨rb, _, none⟩) HRB.out).trans p1
                replace c1 := (hb7.cell (p := ⟨bk, _, none⟩) HBK.out).trans c1
                replace c2 := (hb7.cell (p := ⟨bk, _, none⟩) HBK.out).trans c2
                replace HRB : Hid (rb < wq1.heap.size) := Lib.hid (Nat.lt_of_lt_of_le HRB.out hb7.size)
                replace HBK : Hid (bk < wq1.heap.size) := Lib.hid (Nat.lt_of_lt_of_le HBK.out hb7.size)
                replace HCX := Lib.hid (HCX.out.below hb7)
                replace HAI := Lib.hid (HAI.out.below hb7)
                replace HBR := Lib.hid (HBR.out.trans (hb7.mono HBR.out.size))
                clear hb7
                obtain ⟨rfl, rfl⟩ := Prod.mk.inj e
                go_upto_region 9 with fail
                refine wp_region_held_drew (S := (Keeps wq1)) (by kernel_rfl) (keeps_drew _) (fun hQ0 => ?_)
                refine wpAnyH_take (i := 0) (oi := { dst := some 39, op := Go.Op.move (Go.Operand.tmp 5), type := 3, pos := "ref.go:39", after := #[], guard := none }) (v := ?_) rfl (by kernel_rfl) (by kernel_rfl) (by kernel_rfl) (fun _ _ _ h => h) (Or.inl ⟨by rfl, ?_⟩) hQ0 ?_
                rotate_left
                · (intro wz hSz; (try dsimp only at hSz); go_simp; try with_reducible rfl)
                simp only [Act.put, List.setIfInBounds_toArray, List.set_cons_zero, List.set_cons_succ]
                refine wpAnyH_take (i := 1) (oi := { dst := some 40, op := Go.Op.move (Go.Operand.tmp 3), type := 27, pos := "ref.go:39", after := #[], guard := none }) (v := ?_) rfl (by kernel_rfl) (by kernel_rfl) (by kernel_rfl) (fun _ _ _ h => h) (Or.inl ⟨by rfl, ?_⟩) hQ0 ?_
                rotate_left
                · (intro wz hSz; (try dsimp only at hSz); go_simp; try with_reducible rfl)
                simp only [Act.put, List.setIfInBounds_toArray, List.set_cons_zero, List.set_cons_succ]
                refine wpAnyH_take (i := 2) (oi := { dst := some 41, op := Go.Op.call { callee := Go.Callee.builtin Go.Builtin.len, args := #[Go.Operand.tmp 40], argTypes := #[27] }, type := 3, pos := "ref.go:39", after := #[{ on := 1, ground := Go.Ground.data }], guard := none }) (v := ?_) rfl (by kernel_rfl) (by kernel_rfl) (by kernel_rfl) (fun _ _ _ h => h) (Or.inl ⟨by rfl, ?_⟩) hQ0 ?_
                rotate_left
                · (intro wz hSz; (try dsimp only at hSz); go_simp; try with_reducible rfl)
                simp only [Act.put, List.setIfInBounds_toArray, List.set_cons_zero, List.set_cons_succ]
                refine wpAnyH_take (i := 3) (oi := { dst := some 42, op := Go.Op.binOp Go.BinOp.lss 3 (Go.Operand.tmp 39) (Go.Operand.tmp 41) 3, type := 4, pos := "ref.go:39", after := #[{ on := 0, ground := Go.Ground.data }, { on := 2, ground := Go.Ground.data }], guard := none }) (v := ?_) rfl (by kernel_rfl) (by kernel_rfl) (by kernel_rfl) (fun _ _ _ h => h) (Or.inl ⟨by rfl, ?_⟩) hQ0 ?_
                rotate_left
                · (intro wz hSz; (try dsimp only at hSz); go_simp; try with_reducible rfl)
                simp only [Act.put, List.setIfInBounds_toArray, List.set_cons_zero, List.set_cons_succ]
                refine wpAnyH_take (i := 4) (oi := { dst := some 43, op := Go.Op.move (Go.Operand.tmp 42), type := 4, pos := "ref.go:39", after := #[{ on := 3, ground := Go.Ground.data }], guard := none }) (v := ?_) rfl (by kernel_rfl) (by kernel_rfl) (by kernel_rfl) (fun _ _ _ h => h) (Or.inl ⟨by rfl, ?_⟩) hQ0 ?_
                rotate_left
                · (intro wz hSz; (try dsimp only at hSz); go_simp; try with_reducible rfl)
                simp only [Act.put, List.setIfInBounds_toArray, List.set_cons_zero, List.set_cons_succ]
                refine wpAnyH_take (i := 5) (oi := { dst := some 44, op := Go.Op.move (Go.Operand.tmp 3), type := 27, pos := "ref.go:39", after := #[{ on := 4, ground := Go.Ground.guard }], guard := some (4, true) }) (v := ?_) rfl (by kernel_rfl) (by kernel_rfl) (by kernel_rfl) (fun _ _ _ h => h) (Or.inl ⟨by rfl, ?_⟩) hQ0 ?_
                rotate_left
                · (intro wz hSz; (try dsimp only at hSz); go_simp; try with_reducible rfl)
                simp only [Act.put, List.setIfInBounds_toArray, List.set_cons_zero, List.set_cons_succ]
                refine wpAnyH_take (i := 6) (oi := { dst := some 45, op := Go.Op.move (Go.Operand.tmp 5), type := 3, pos := "ref.go:39", after := #[{ on := 4, ground := Go.Ground.guard }], guard := some (4, true) }) (v := ?_) rfl (by kernel_rfl) (by kernel_rfl) (by kernel_rfl) (fun _ _ _ h => h) (Or.inl ⟨by rfl, ?_⟩) hQ0 ?_
                rotate_left
                · (intro wz hSz; (try dsimp only at hSz); go_simp; try with_reducible rfl)
                simp only [Act.put, List.setIfInBounds_toArray, List.set_cons_zero, List.set_cons_succ]
                refine wpAnyH_take (i := 7) (oi := { dst := some 46, op := Go.Op.indexAddr 27 (Go.Operand.tmp 44) (Go.Operand.tmp 45), type := 0, pos := "ref.go:39", after := #[{ on := 5, ground := Go.Ground.data }, { on := 6, ground := Go.Ground.data }, { on := 4, ground := Go.Ground.guard }], guard := some (4, true) }) (v := ?_) rfl (by kernel_rfl) (by kernel_rfl) (by kernel_rfl) (fun _ _ _ h => h) (Or.inl ⟨by rfl, ?_⟩) hQ0 ?_
                rotate_left
                · (intro wz hSz; (try dsimp only at hSz); go_simp; try with_reducible rfl)
                simp only [Act.put, List.setIfInBounds_toArray, List.set_cons_zero, List.set_cons_succ]
                refine wpAnyH_take (i := 8) (oi := { dst := some 47, op := Go.Op.fieldAddr 30 (Go.Operand.tmp 46) 0, type := 0, pos := "ref.go:39", after := #[{ on := 7, ground := Go.Ground.data }, { on := 4, ground := Go.Ground.guard }], guard := some (4, true) }) (v := ?_) rfl (by kernel_rfl) (by kernel_rfl) (by kernel_rfl) (fun _ _ _ h => h) (Or.inl ⟨by rfl, ?_⟩) hQ0 ?_
                rotate_left
                · (intro wz hSz; (try dsimp only at hSz); go_simp; try with_reducible rfl)
                simp only [Act.put, List.setIfInBounds_toArray, List.set_cons_zero, List.set_cons_succ]
                refine wpAnyH_take (i := 9) (oi := { dst := some 48, op := Go.Op.load 25 (Go.Operand.tmp 47), type := 25, pos := "ref.go:39", after := #[{ on := 8, ground := Go.Ground.data }, { on := 4, ground := Go.Ground.guard }], guard := some (4, true) }) (v := ?_) rfl (by kernel_rfl) (by kernel_rfl) (by kernel_rfl) (fun _ _ _ h => h) (Or.inl ⟨by rfl, ?_⟩) hQ0 ?_
                rotate_left
                · (intro wz hSz; have hcz := (Keeps.b hSz).cell (p := ⟨rb, _, none⟩) HRB.out |>.trans p0; have hcz2 := (Keeps.b hSz).cell (p := ⟨rb, _, none⟩) HRB.out |>.trans p1; go_simp; try with_reducible rfl)
                simp only [Act.put, List.setIfInBounds_toArray, List.set_cons_zero, List.set_cons_succ]
                refine wpAnyH_take (i := 10) (oi := { dst := some 49, op := Go.Op.move (Go.Operand.tmp 0), type := 22, pos := "ref.go:39", after := #[{ on := 4, ground := Go.Ground.guard }], guard := some (4, true) }) (v := ?_) rfl (by kernel_rfl) (by kernel_rfl) (by kernel_rfl) (fun _ _ _ h => h) (Or.inl ⟨by rfl, ?_⟩) hQ0 ?_
                rotate_left
                · (intro wz hSz; (try dsimp only at hSz); go_simp; try with_reducible rfl)
                simp only [Act.put, List.setIfInBounds_toArray, List.set_cons_zero, List.set_cons_succ]
                refine wpAnyH_take (i := 11) (oi := { dst := some 50, op := Go.Op.move (Go.Operand.tmp 4), type := 3, pos := "ref.go:39", after := #[{ on := 4, ground := Go.Ground.guard }], guard := some (4, true) }) (v := ?_) rfl (by kernel_rfl) (by kernel_rfl) (by kernel_rfl) (fun _ _ _ h => h) (Or.inl ⟨by rfl, ?_⟩) hQ0 ?_
                rotate_left
                · (intro wz hSz; (try dsimp only at hSz); go_simp; try with_reducible rfl)
                simp only [Act.put, List.setIfInBounds_toArray, List.set_cons_zero, List.set_cons_succ]
                refine wpAnyH_take (i := 12) (oi := { dst := some 51, op := Go.Op.indexAddr 22 (Go.Operand.tmp 49) (Go.Operand.tmp 50), type := 0, pos := "ref.go:39", after := #[{ on := 10, ground := Go.Ground.data }, { on := 11, ground := Go.Ground.data }, { on := 4, ground := Go.Ground.guard }], guard := some (4, true) }) (v := ?_) rfl (by kernel_rfl) (by kernel_rfl) (by kernel_rfl) (fun _ _ _ h => h) (Or.inl ⟨by rfl, ?_⟩) hQ0 ?_
                rotate_left
                · (intro wz hSz; (try dsimp only at hSz); go_simp; try with_reducible rfl)
                simp only [Act.put, List.setIfInBounds_toArray, List.set_cons_zero, List.set_cons_succ]
                refine wpAnyH_take (i := 13) (oi := { dst := some 52, op := Go.Op.fieldAddr 44 (Go.Operand.tmp 51) 1, type := 0, pos := "ref.go:39", after := #[{ on := 12, ground := Go.Ground.data }, { on := 4, ground := Go.Ground.guard }], guard := some (4, true) }) (v := ?_) rfl (by kernel_rfl) (by kernel_rfl) (by kernel_rfl) (fun _ _ _ h => h) (Or.inl ⟨by rfl, ?_⟩) hQ0 ?_
                rotate_left
                · (intro wz hSz; (try dsimp only at hSz); go_simp; try with_reducible rfl)
                simp only [Act.put, List.setIfInBounds_toArray, List.set_cons_zero, List.set_cons_succ]
                refine wpAnyH_take (i := 14) (oi := { dst := some 53, op := Go.Op.load 25 (Go.Operand.tmp 52), type := 25, pos := "ref.go:39", after := #[{ on := 13, ground := Go.Ground.data }, { on := 4, ground := Go.Ground.guard }], guard := some (4, true) }) (v := ?_) rfl (by kernel_rfl) (by kernel_rfl) (by kernel_rfl) (fun _ _ _ h => h) (Or.inl ⟨by rfl, ?_⟩) hQ0 ?_
                rotate_left
                · (intro wz hSz; have hcz := (Keeps.b hSz).cell (p := ⟨bk, _, none⟩) HBK.out |>.trans c1; have hcz2 := (Keeps.b hSz).cell (p := ⟨bk, _, none⟩) HBK.out |>.trans c2; go_simp; try with_reducible rfl)
                simp only [Act.put, List.setIfInBounds_toArray, List.set_cons_zero, List.set_cons_succ]
                refine wpAnyH_take (i := 15) (oi := { dst := some 54, op := Go.Op.binOp Go.BinOp.eql 25 (Go.Operand.tmp 48) (Go.Operand.tmp 53) 25, type := 4, pos := "ref.go:39", after := #[{ on := 9, ground := Go.Ground.data }, { on := 14, ground := Go.Ground.data }, { on := 4, ground := Go.Ground.guard }], guard := some (4, true) }) (v := ?_) rfl (by kernel_rfl) (by kernel_rfl) (by kernel_rfl) (fun _ _ _ h => h) (Or.inl ⟨by rfl, ?_⟩) hQ0 ?_
                rotate_left
                · (intro wz hSz; (try dsimp only at hSz); go_simp; try with_reducible rfl)
                simp only [Act.put, List.setIfInBounds_toArray, List.set_cons_zero, List.set_cons_succ]
                refine wpAnyH_take (i := 16) (oi := { dst := some 55, op := Go.Op.pick (Go.Operand.tmp 43) (Go.Operand.tmp 54) (Go.Operand.const (Go.Value.bool false)), type := 4, pos := "ref.go:39", after := #[{ on := 4, ground := Go.Ground.data }, { on := 15, ground := Go.Ground.data }], guard := none }) (v := ?_) rfl (by kernel_rfl) (by kernel_rfl) (by kernel_rfl) (fun _ _ _ h => h) (Or.inl ⟨by rfl, ?_⟩) hQ0 ?_
                rotate_left
                · (intro wz hSz; (try dsimp only at hSz); go_simp; try with_reducible rfl)
                simp only [Act.put, List.setIfInBounds_toArray, List.set_cons_zero, List.set_cons_succ]
                refine wpAnyH_done (by kernel_rfl) ?_ _
                go_wp2_with fail
                go_roundg (l.length - (k + 1))
                case rel => exact ⟨k + 1, ks, _, c, by omega, by go_num, rfl, by omega, Lib.hid (by rw [HN.out]; simpa using HKS.out.has (by rw [HZ.out]; exact List.getElem_mem hjl)), Lib.hid (HCX.out.below (below_drew1 _)), Lib.hid HBR.out.drew⟩
                case measure => omega
              · rw [ordg_is hl2 e] at HOR
                go_upto_region 7 with fail
                refine wp_region_held_drew (S := (Keeps wr)) (by kernel_rfl) (keeps_drew _) (fun hK0 => ?_)
                refine wpAnyH_take (i := 0) (oi := { dst := some 19, op := Go.Op.move (Go.Operand.tmp 5), type := 3, pos := "ref.go:36", after := #[], guard := none }) (v := ?_) rfl (by kernel_rfl) (by kernel_rfl) (by kernel_rfl) (fun _ _ _ h => h) (Or.inl ⟨by rfl, ?_⟩) hK0 ?_
                rotate_left
                · (intro wz hSz; (try dsimp only at hSz); go_simp; try with_reducible rfl)
                simp only [Act.put, List.setIfInBounds_toArray, List.set_cons_zero, List.set_cons_succ]
                refine wpAnyH_take (i := 1) (oi := { dst := some 20, op := Go.Op.move (Go.Operand.tmp 3), type := 27, pos := "ref.go:36", after := #[], guard := none }) (v := ?_) rfl (by kernel_rfl) (by kernel_rfl) (by kernel_rfl) (fun _ _ _ h => h) (Or.inl ⟨by rfl, ?_⟩) hK0 ?_
                rotate_left
                · (intro wz hSz; (try dsimp only at hSz); go_simp; try with_reducible rfl)
                simp only [Act.put, List.setIfInBounds_toArray, List.set_cons_zero, List.set_cons_succ]
                refine wpAnyH_take (i := 2) (oi := { dst := some 21, op := Go.Op.call { callee := Go.Callee.builtin Go.Builtin.len, args := #[Go.Operand.tmp 20], argTypes := #[27] }, type := 3, pos := "ref.go:36", after := #[{ on := 1, ground := Go.Ground.data }], guard := none }) (v := ?_) rfl (by kernel_rfl) (by kernel_rfl) (by kernel_rfl) (fun _ _ _ h => h) (Or.inl ⟨by rfl, ?_⟩) hK0 ?_
                rotate_left
                · (intro wz hSz; (try dsimp only at hSz); go_simp; try with_reducible rfl)
                simp only [Act.put, List.setIfInBounds_toArray, List.set_cons_zero, List.set_cons_succ]
                refine wpAnyH_take (i := 3) (oi := { dst := some 22, op := Go.Op.binOp Go.BinOp.lss 3 (Go.Operand.tmp 19) (Go.Operand.tmp 21) 3, type := 4, pos := "ref.go:36", after := #[{ on := 0, ground := Go.Ground.data }, { on := 2, ground := Go.Ground.data }], guard := none }) (v := ?_) rfl (by kernel_rfl) (by kernel_rfl) (by kernel_rfl) (fun _ _ _ h => h) (Or.inl ⟨by rfl, ?_⟩) hK0 ?_
                rotate_left
                · (intro wz hSz; (try dsimp only at hSz); go_simp; try with_reducible rfl)
                simp only [Act.put, List.setIfInBounds_toArray, List.set_cons_zero, List.set_cons_succ]
                refine wpAnyH_take (i := 4) (oi := { dst := some 23, op := Go.Op.move (Go.Operand.tmp 22), type := 4, pos := "ref.go:36", after := #[{ on := 3, ground := Go.Ground.data }], guard := none }) (v := ?_) rfl (by kernel_rfl) (by kernel_rfl) (by kernel_rfl) (fun _ _ _ h => h) (Or.inl ⟨by rfl, ?_⟩) hK0 ?_
                rotate_left
                · (intro wz hSz; (try dsimp only at hSz); go_simp; try with_reducible rfl)
                simp only [Act.put, List.setIfInBounds_toArray, List.set_cons_zero, List.set_cons_succ]
                refine wpAnyH_take (i := 5) (oi := { dst := some 24, op := Go.Op.move (Go.Operand.tmp 3), type := 27, pos := "ref.go:36", after := #[{ on := 4, ground := Go.Ground.guard }], guard := some (4, true) }) (v := ?_) rfl (by kernel_rfl) (by kernel_rfl) (by kernel_rfl) (fun _ _ _ h => h) (Or.inl ⟨by rfl, ?_⟩) hK0 ?_
                rotate_left
                · (intro wz hSz; (try dsimp only at hSz); go_simp; try with_reducible rfl)
                simp only [Act.put, List.setIfInBounds_toArray, List.set_cons_zero, List.set_cons_succ]
                refine wpAnyH_take (i := 6) (oi := { dst := some 25, op := Go.Op.move (Go.Operand.tmp 5), type := 3, pos := "ref.go:36", after := #[{ on := 4, ground := Go.Ground.guard }], guard := some (4, true) }) (v := ?_) rfl (by kernel_rfl) (by kernel_rfl) (by kernel_rfl) (fun _ _ _ h => h) (Or.inl ⟨by rfl, ?_⟩) hK0 ?_
                rotate_left
                · (intro wz hSz; (try dsimp only at hSz); go_simp; try with_reducible rfl)
                simp only [Act.put, List.setIfInBounds_toArray, List.set_cons_zero, List.set_cons_succ]
                refine wpAnyH_take (i := 7) (oi := { dst := some 26, op := Go.Op.indexAddr 27 (Go.Operand.tmp 24) (Go.Operand.tmp 25), type := 0, pos := "ref.go:36", after := #[{ on := 5, ground := Go.Ground.data }, { on := 6, ground := Go.Ground.data }, { on := 4, ground := Go.Ground.guard }], guard := some (4, true) }) (v := ?_) rfl (by kernel_rfl) (by kernel_rfl) (by kernel_rfl) (fun _ _ _ h => h) (Or.inl ⟨by rfl, ?_⟩) hK0 ?_
                rotate_left
                · (intro wz hSz; (try dsimp only at hSz); go_simp; try with_reducible rfl)
                simp only [Act.put, List.setIfInBounds_toArray, List.set_cons_zero, List.set_cons_succ]
                refine wpAnyH_take (i := 8) (oi := { dst := some 27, op := Go.Op.fieldAddr 30 (Go.Operand.tmp 26) 0, type := 0, pos := "ref.go:36", after := #[{ on := 7, ground := Go.Ground.data }, { on := 4, ground := Go.Ground.guard }], guard := some (4, true) }) (v := ?_) rfl (by kernel_rfl) (by kernel_rfl) (by kernel_rfl) (fun _ _ _ h => h) (Or.inl ⟨by rfl, ?_⟩) hK0 ?_
                rotate_left
                · (intro wz hSz; (try dsimp only at hSz); go_simp; try with_reducible rfl)
                simp only [Act.put, List.setIfInBounds_toArray, List.set_cons_zero, List.set_cons_succ]
                refine wpAnyH_take (i := 9) (oi := { dst := some 28, op := Go.Op.load 25 (Go.Operand.tmp 27), type := 25, pos := "ref.go:36", after := #[{ on := 8, ground := Go.Ground.data }, { on := 4, ground := Go.Ground.guard }], guard := some (4, true) }) (v := ?_) rfl (by kernel_rfl) (by kernel_rfl) (by kernel_rfl) (fun _ _ _ h => h) (Or.inl ⟨by rfl, ?_⟩) hK0 ?_
                rotate_left
                · (intro wz hSz; have hcz := (Keeps.b hSz).cell (p := ⟨rb, _, none⟩) HRB.out |>.trans p0; have hcz2 := (Keeps.b hSz).cell (p := ⟨rb, _, none⟩) HRB.out |>.trans p1; go_simp; try with_reducible rfl)
                simp only [Act.put, List.setIfInBounds_toArray, List.set_cons_zero, List.set_cons_succ]
                refine wpAnyH_take (i := 10) (oi := { dst := some 29, op := Go.Op.move (Go.Operand.tmp 0), type := 22, pos := "ref.go:36", after := #[{ on := 4, ground := Go.Ground.guard }], guard := some (4, true) }) (v := ?_) rfl (by kernel_rfl) (by kernel_rfl) (by kernel_rfl) (fun _ _ _ h => h) (Or.inl ⟨by rfl, ?_⟩) hK0 ?_
                rotate_left
                · (intro wz hSz; (try dsimp only at hSz); go_simp; try with_reducible rfl)
                simp only [Act.put, List.setIfInBounds_toArray, List.set_cons_zero, List.set_cons_succ]
                refine wpAnyH_take (i := 11) (oi := { dst := some 30, op := Go.Op.move (Go.Operand.tmp 4), type := 3, pos := "ref.go:36", after := #[{ on := 4, ground := Go.Ground.guard }], guard := some (4, true) }) (v := ?_) rfl (by kernel_rfl) (by kernel_rfl) (by kernel_rfl) (fun _ _ _ h => h) (Or.inl ⟨by rfl, ?_⟩) hK0 ?_
                rotate_left
                · (intro wz hSz; (try dsimp only at hSz); go_simp; try with_reducible rfl)
                simp only [Act.put, List.setIfInBounds_toArray, List.set_cons_zero, List.set_cons_succ]
                refine wpAnyH_take (i := 12) (oi := { dst := some 31, op := Go.Op.indexAddr 22 (Go.Operand.tmp 29) (Go.Operand.tmp 30), type := 0, pos := "ref.go:36", after := #[{ on := 10, ground := Go.Ground.data }, { on := 11, ground := Go.Ground.data }, { on := 4, ground := Go.Ground.guard }], guard := some (4, true) }) (v := ?_) rfl (by kernel_rfl) (by kernel_rfl) (by kernel_rfl) (fun _ _ _ h => h) (Or.inl ⟨by rfl, ?_⟩) hK0 ?_
                rotate_left
                · (intro wz hSz; (try dsimp only at hSz); go_simp; try with_reducible rfl)
                simp only [Act.put, List.setIfInBounds_toArray, List.set_cons_zero, List.set_cons_succ]
                refine wpAnyH_take (i := 13) (oi := { dst := some 32, op := Go.Op.fieldAddr 44 (Go.Operand.tmp 31) 1, type := 0, pos := "ref.go:36", after := #[{ on := 12, ground := Go.Ground.data }, { on := 4, ground := Go.Ground.guard }], guard := some (4, true) }) (v := ?_) rfl (by kernel_rfl) (by kernel_rfl) (by kernel_rfl) (fun _ _ _ h => h) (Or.inl ⟨by rfl, ?_⟩) hK0 ?_
                rotate_left
                · (intro wz hSz; (try dsimp only at hSz); go_simp; try with_reducible rfl)
                simp only [Act.put, List.setIfInBounds_toArray, List.set_cons_zero, List.set_cons_succ]
                refine wpAnyH_take (i := 14) (oi := { dst := some 33, op := Go.Op.load 25 (Go.Operand.tmp 32), type := 25, pos := "ref.go:36", after := #[{ on := 13, ground := Go.Ground.data }, { on := 4, ground := Go.Ground.guard }], guard := some (4, true) }) (v := ?_) rfl (by kernel_rfl) (by kernel_rfl) (by kernel_rfl) (fun _ _ _ h => h) (Or.inl ⟨by rfl, ?_⟩) hK0 ?_
                rotate_left
                · (intro wz hSz; have hcz := (Keeps.b hSz).cell (p := ⟨bk, _, none⟩) HBK.out |>.trans c1; have hcz2 := (Keeps.b hSz).cell (p := ⟨bk, _, none⟩) HBK.out |>.trans c2; go_simp; try with_reducible rfl)
                simp only [Act.put, List.setIfInBounds_toArray, List.set_cons_zero, List.set_cons_succ]
                refine wpAnyH_ready (rs := [15]) (by kernel_rfl) (by simp) ?_
                refine AllReadyH.cons (o := { dst := some 34, op := Go.Op.call { callee := Go.Callee.value (Go.Operand.func 14), args := #[Go.Operand.tmp 28, Go.Operand.tmp 33], argTypes := #[25, 25] }, type := 3, pos := "ref.go:36", after := #[{ on := 9, ground := Go.Ground.data }, { on := 14, ground := Go.Ground.data }, { on := 4, ground := Go.Ground.chain }, { on := 4, ground := Go.Ground.guard }], guard := some (4, true) }) rfl (fun K hK => ?_) AllReadyH.nil
                go_simp
                with_reducible refine (HOR.out.call _).mono ?_
                rintro r wq1 ⟨rfl, hbq⟩
                go_wp2_with fail
                refine hK.out _ _ (Keeps.trans hK0 hbq) (fun hK1 => ?_)
                clear hK K hbq hK0
                refine wpAnyH_take (i := 16) (oi := { dst := some 35, op := Go.Op.binOp Go.BinOp.lss 3 (Go.Operand.tmp 34) (Go.Operand.const (Go.Value.int Go.IntKind.i64 0)) 3, type := 4, pos := "ref.go:36", after := #[{ on := 15, ground := Go.Ground.data }, { on := 4, ground := Go.Ground.guard }], guard := some (4, true) }) (v := ?_) rfl (by kernel_rfl) (by kernel_rfl) (by kernel_rfl) (fun _ _ _ h => h) (Or.inl ⟨by rfl, ?_⟩) hK1 ?_
                rotate_left
                · (intro wz hSz; (try dsimp only at hSz); go_simp; try with_reducible rfl)
                simp only [Act.put, List.setIfInBounds_toArray, List.set_cons_zero, List.set_cons_succ]
                refine wpAnyH_take (i := 17) (oi := { dst := some 36, op := Go.Op.pick (Go.Operand.tmp 23) (Go.Operand.tmp 35) (Go.Operand.const (Go.Value.bool false)), type := 4, pos := "ref.go:36", after := #[{ on := 4, ground := Go.Ground.data }, { on := 16, ground := Go.Ground.data }], guard := none }) (v := ?_) rfl (by kernel_rfl) (by kernel_rfl) (by kernel_rfl) (fun _ _ _ h => h) (Or.inl ⟨by rfl, ?_⟩) hK1 ?_
                rotate_left
                · (intro wz hSz; (try dsimp only at hSz); go_simp; try with_reducible rfl)
                simp only [Act.put, List.setIfInBounds_toArray, List.set_cons_zero, List.set_cons_succ]
                refine wpAnyH_done (by kernel_rfl) ?_ _
                go_wp2_with fail
                have hb7 := Keeps.b hK1
                replace p0 := (hb7.cell (p := ⟨rb, _, none⟩) HRB.out).trans p0
                replace p1 := (hb7.cell (p := ⟨rb, _, none⟩) HRB.out).trans p1
                replace c1 := (hb7.cell (p := ⟨bk, _, none⟩) HBK.out).trans c1
                replace c2 := (hb7.cell (p := ⟨bk, _, none⟩) HBK.out).trans c2
                replace HRB : Hid (rb < wq1.heap.size) := Lib.hid (Nat.lt_of_lt_of_le HRB.out hb7.size)
                replace HBK : Hid (bk < wq1.heap.size) := Lib.hid (Nat.lt_of_lt_of_le HBK.out hb7.size)
                replace HCX := Lib.hid (HCX.out.below hb7)
                replace HAI := Lib.hid (HAI.out.below hb7)
                replace HBR := Lib.hid (HBR.out.trans (hb7.mono HBR.out.size))
                clear hb7
                have HLE := Lib.hid (fun (h : j < ks.length) => show lt (x0, x1) ks[j] by rw [← HZ.out]; exact lt_tri hl2 e)
                by_cases e0 : z0 = x0
                · replace e0 := e0.symm
                  subst e0
                  have e1 : ¬ (z1 : Int) = (x1 : Int) := fun q => e (by rw [Int.ofNat.inj q])
                  go_upto_region 9 with fail
                  refine wp_region_held_drew (S := (Keeps wq1)) (by kernel_rfl) (keeps_drew _) (fun hQ0 => ?_)
                  refine wpAnyH_take (i := 0) (oi := { dst := some 39, op := Go.Op.move (Go.Operand.tmp 5), type := 3, pos := "ref.go:39", after := #[], guard := none }) (v := ?_) rfl (by kernel_rfl) (by kernel_rfl) (by kernel_rfl) (fun _ _ _ h => h) (Or.inl ⟨by rfl, ?_⟩) hQ0 ?_
                  rotate_left
                  · (intro wz hSz; (try dsimp only at hSz); go_simp; try with_reducible rfl)
                  simp only [Act.put, List.setIfInBounds_toArray, List.set_cons_zero, List.set_cons_succ]
                  refine wpAnyH_take (i := 1) (oi := { dst := some 40, op := Go.Op.move (Go.Operand.tmp 3), type := 27, pos := "ref.go:39", after := #[], guard := none }) (v := ?_) rfl (by kernel_rfl) (by kernel_rfl) (by kernel_rfl) (fun _ _ _ h => h) (Or.inl ⟨by rfl, ?_⟩) hQ0 ?_
                  rotate_left
                  · (intro wz hSz; (try dsimp only at hSz); go_simp; try with_reducible rfl)
                  simp only [Act.put, List.setIfInBounds_toArray, List.set_cons_zero, List.set_cons_succ]
                  refine wpAnyH_take (i := 2) (oi := { dst := some 41, op := Go.Op.call { callee := Go.Callee.builtin Go.Builtin.len, args := #[Go.Operand.tmp 40], argTypes := #[27] }, type := 3, pos := "ref.go:39", after := #[{ on := 1, ground := Go.Ground.data }], guard := none }) (v := ?_) rfl (by kernel_rfl) (by kernel_rfl) (by kernel_rfl) (fun _ _ _ h => h) (Or.inl ⟨by rfl, ?_⟩) hQ0 ?_
                  rotate_left
                  · (intro wz hSz; (try dsimp only at hSz); go_simp; try with_reducible rfl)
                  simp only [Act.put, List.setIfInBounds_toArray, List.set_cons_zero, List.set_cons_succ]
                  refine wpAnyH_take (i := 3) (oi := { dst := some 42, op := Go.Op.binOp Go.BinOp.lss 3 (Go.Operand.tmp 39) (Go.Operand.tmp 41) 3, type := 4, pos := "ref.go:39", after := #[{ on := 0, ground := Go.Ground.data }, { on := 2, ground := Go.Ground.data }], guard := none }) (v := ?_) rfl (by kernel_rfl) (by kernel_rfl) (by kernel_rfl) (fun _ _ _ h => h) (Or.inl ⟨by rfl, ?_⟩) hQ0 ?_
                  rotate_left
                  · (intro wz hSz; (try dsimp only at hSz); go_simp; try with_reducible rfl)
                  simp only [Act.put, List.setIfInBounds_toArray, List.set_cons_zero, List.set_cons_succ]
                  refine wpAnyH_take (i := 4) (oi := { dst := some 43, op := Go.Op.move (Go.Operand.tmp 42), type := 4, pos := "ref.go:39", after := #[{ on := 3, ground := Go.Ground.data }], guard := none }) (v := ?_) rfl (by kernel_rfl) (by kernel_rfl) (by kernel_rfl) (fun _ _ _ h => h) (Or.inl ⟨by rfl, ?_⟩) hQ0 ?_
                  rotate_left
                  · (intro wz hSz; (try dsimp only at hSz); go_simp; try with_reducible rfl)
                  simp only [Act.put, List.setIfInBounds_toArray, List.set_cons_zero, List.set_cons_succ]
                  refine wpAnyH_take (i := 5) (oi := { dst := some 44, op := Go.Op.move (Go.Operand.tmp 3), type := 27, pos := "ref.go:39", after := #[{ on := 4, ground := Go.Ground.guard }], guard := some (4, true) }) (v := ?_) rfl (by kernel_rfl) (by kernel_rfl) (by kernel_rfl) (fun _ _ _ h => h) (Or.inl ⟨by rfl, ?_⟩) hQ0 ?_
                  rotate_left
                  · (intro wz hSz; (try dsimp only at hSz); go_simp; try with_reducible rfl)
                  simp only [Act.put, List.setIfInBounds_toArray, List.set_cons_zero, List.set_cons_succ]
                  refine wpAnyH_take (i := 6) (oi := { dst := some 45, op := Go.Op.move (Go.Operand.tmp 5), type := 3, pos := "ref.go:39", after := #[{ on := 4, ground := Go.Ground.guard }], guard := some (4, true) }) (v := ?_) rfl (by kernel_rfl) (by kernel_rfl) (by kernel_rfl) (fun _ _ _ h => h) (Or.inl ⟨by rfl, ?_⟩) hQ0 ?_
                  rotate_left
                  · (intro wz hSz; (try dsimp only at hSz); go_simp; try with_reducible rfl)
                  simp only [Act.put, List.setIfInBounds_toArray, List.set_cons_zero, List.set_cons_succ]
                  refine wpAnyH_take (i := 7) (oi := { dst := some 46, op := Go.Op.indexAddr 27 (Go.Operand.tmp 44) (Go.Operand.tmp 45), type := 0, pos := "ref.go:39", after := #[{ on := 5, ground := Go.Ground.data }, { on := 6, ground := Go.Ground.data }, { on := 4, ground := Go.Ground.guard }], guard := some (4, true) }) (v := ?_) rfl (by kernel_rfl) (by kernel_rfl) (by kernel_rfl) (fun _ _ _ h => h) (Or.inl ⟨by rfl, ?_⟩) hQ0 ?_
                  rotate_left
                  · (intro wz hSz; (try dsimp only at hSz); go_simp; try with_reducible rfl)
                  simp only [Act.put, List.setIfInBounds_toArray, List.set_cons_zero, List.set_cons_succ]
                  refine wpAnyH_take (i := 8) (oi := { dst := some 47, op := Go.Op.fieldAddr 30 (Go.Operand.tmp 46) 0, type := 0, pos := "ref.go:39", after := #[{ on := 7, ground := Go.Ground.data }, { on := 4, ground := Go.Ground.guard }], guard := some (4, true) }) (v := ?_) rfl (by kernel_rfl) (by kernel_rfl) (by kernel_rfl) (fun _ _ _ h => h) (Or.inl ⟨by rfl, ?_⟩) hQ0 ?_
                  rotate_left
                  · (intro wz hSz; (try dsimp only at hSz); go_simp; try with_reducible rfl)
                  simp only [Act.put, List.setIfInBounds_toArray, List.set_cons_zero, List.set_cons_succ]
                  refine wpAnyH_take (i := 9) (oi := { dst := some 48, op := Go.Op.load 25 (Go.Operand.tmp 47), type := 25, pos := "ref.go:39", after := #[{ on := 8, ground := Go.Ground.data }, { on := 4, ground := Go.Ground.guard }], guard := some (4, true) }) (v := ?_) rfl (by kernel_rfl) (by kernel_rfl) (by kernel_rfl) (fun _ _ _ h => h) (Or.inl ⟨by rfl, ?_⟩) hQ0 ?_
                  rotate_left
                  · (intro wz hSz; have hcz := (Keeps.b hSz).cell (p := ⟨rb, _, none⟩) HRB.out |>.trans p0; have hcz2 := (Keeps.b hSz).cell (p := ⟨rb, _, none⟩) HRB.out |>.trans p1; go_simp; try with_reducible rfl)
                  simp only [Act.put, List.setIfInBounds_toArray, List.set_cons_zero, List.set_cons_succ]
                  refine wpAnyH_take (i := 10) (oi := { dst := some 49, op := Go.Op.move (Go.Operand.tmp 0), type := 22, pos := "ref.go:39", after := #[{ on := 4, ground := Go.Ground.guard }], guard := some (4, true) }) (v := ?_) rfl (by kernel_rfl) (by kernel_rfl) (by kernel_rfl) (fun _ _ _ h => h) (Or.inl ⟨by rfl, ?_⟩) hQ0 ?_
                  rotate_left
                  · (intro wz hSz; (try dsimp only at hSz); go_simp; try with_reducible rfl)
                  simp only [Act.put, List.setIfInBounds_toArray, List.set_cons_zero, List.set_cons_succ]
                  refine wpAnyH_take (i := 11) (oi := { dst := some 50, op := Go.Op.move (Go.Operand.tmp 4), type := 3, pos := "ref.go:39", after := #[{ on := 4, ground := Go.Ground.guard }], guard := some (4, true) }) (v := ?_) rfl (by kernel_rfl) (by kernel_rfl) (by kernel_rfl) (fun _ _ _ h => h) (Or.inl ⟨by rfl, ?_⟩) hQ0 ?_
                  rotate_left
                  · (intro wz hSz; (try dsimp only at hSz); go_simp; try with_reducible rfl)
                  simp only [Act.put, List.setIfInBounds_toArray, List.set_cons_zero, List.set_cons_succ]
                  refine wpAnyH_take (i := 12) (oi := { dst := some 51, op := Go.Op.indexAddr 22 (Go.Operand.tmp 49) (Go.Operand.tmp 50), type := 0, pos := "ref.go:39", after := #[{ on := 10, ground := Go.Ground.data }, { on := 11, ground := Go.Ground.data }, { on := 4, ground := Go.Ground.guard }], guard := some (4, true) }) (v := ?_) rfl (by kernel_rfl) (by kernel_rfl) (by kernel_rfl) (fun _ _ _ h => h) (Or.inl ⟨by rfl, ?_⟩) hQ0 ?_
                  rotate_left
                  · (intro wz hSz; (try dsimp only at hSz); go_simp; try with_reducible rfl)
                  simp only [Act.put, List.setIfInBounds_toArray, List.set_cons_zero, List.set_cons_succ]
                  refine wpAnyH_take (i := 13) (oi := { dst := some 52, op := Go.Op.fieldAddr 44 (Go.Operand.tmp 51) 1, type := 0, pos := "ref.go:39", after := #[{ on := 12, ground := Go.Ground.data }, { on := 4, ground := Go.Ground.guard }], guard := some (4, true) }) (v := ?_) rfl (by kernel_rfl) (by kernel_rfl) (by kernel_rfl) (fun _ _ _ h => h) (Or.inl ⟨by rfl, ?_⟩) hQ0 ?_
                  rotate_left
                  · (intro wz hSz; (try dsimp only at hSz); go_simp; try with_reducible rfl)
                  simp only [Act.put, List.setIfInBounds_toArray, List.set_cons_zero, List.set_cons_succ]
                  refine wpAnyH_take (i := 14) (oi := { dst := some 53, op := Go.Op.load 25 (Go.Operand.tmp 52), type := 25, pos := "ref.go:39", after := #[{ on := 13, ground := Go.Ground.data }, { on := 4, ground := Go.Ground.guard }], guard := some (4, true) }) (v := ?_) rfl (by kernel_rfl) (by kernel_rfl) (by kernel_rfl) (fun _ _ _ h => h) (Or.inl ⟨by rfl, ?_⟩) hQ0 ?_
                  rotate_left
                  · (intro wz hSz; have hcz := (Keeps.b hSz).cell (p := ⟨bk, _, none⟩) HBK.out |>.trans c1; have hcz2 := (Keeps.b hSz).cell (p := ⟨bk, _, none⟩) HBK.out |>.trans c2; go_simp; try with_reducible rfl)
                  simp only [Act.put, List.setIfInBounds_toArray, List.set_cons_zero, List.set_cons_succ]
                  refine wpAnyH_take (i := 15) (oi := { dst := some 54, op := Go.Op.binOp Go.BinOp.eql 25 (Go.Operand.tmp 48) (Go.Operand.tmp 53) 25, type := 4, pos := "ref.go:39", after := #[{ on := 9, ground := Go.Ground.data }, { on := 14, ground := Go.Ground.data }, { on := 4, ground := Go.Ground.guard }], guard := some (4, true) }) (v := ?_) rfl (by kernel_rfl) (by kernel_rfl) (by kernel_rfl) (fun _ _ _ h => h) (Or.inl ⟨by rfl, ?_⟩) hQ0 ?_
                  rotate_left
                  · (intro wz hSz; (try dsimp only at hSz); go_simp; try with_reducible rfl)
                  simp only [Act.put, List.setIfInBounds_toArray, List.set_cons_zero, List.set_cons_succ]
                  refine wpAnyH_take (i := 16) (oi := { dst := some 55, op := Go.Op.pick (Go.Operand.tmp 43) (Go.Operand.tmp 54) (Go.Operand.const (Go.Value.bool false)), type := 4, pos := "ref.go:39", after := #[{ on := 4, ground := Go.Ground.data }, { on := 15, ground := Go.Ground.data }], guard := none }) (v := ?_) rfl (by kernel_rfl) (by kernel_rfl) (by kernel_rfl) (fun _ _ _ h => h) (Or.inl ⟨by rfl, ?_⟩) hQ0 ?_
                  rotate_left
                  · (intro wz hSz; (try dsimp only at hSz); go_simp; try with_reducible rfl)
                  simp only [Act.put, List.setIfInBounds_toArray, List.set_cons_zero, List.set_cons_succ]
                  refine wpAnyH_done (by kernel_rfl) ?_ _
                  obtain ⟨wz, hwz⟩ : ∃ W : World, W = wq1.drew := ⟨_, rfl⟩
                  have hbz : Below wq1.heap.size wq1 wz := by rw [hwz]; exact below_drew1 _
                  have c1 : wz.cell? ⟨bk, off + k * 6 + 1, none⟩ = some (.int .i64 x0) := (hbz.cell (p := ⟨bk, _, none⟩) HBK.out).trans c1
                  have c2 : wz.cell? ⟨bk, off + k * 6 + 2, none⟩ = some (.int .u64 (x1 : Int)) := (hbz.cell (p := ⟨bk, _, none⟩) HBK.out).trans c2
                  have HBK : Hid (bk < wz.heap.size) := Lib.hid (Nat.lt_of_lt_of_le HBK.out hbz.size)
                  have HCX := Lib.hid (HCX.out.below hbz)
                  have HAI := Lib.hid (HAI.out.below hbz)
                  have HBR := Lib.hid (HBR.out.trans (hbz.mono HBR.out.size))
                  go_upto_region 10 with fail
                  rw [← hwz]
                  clear hwz hbz
                  have hcl := cs_len (lns l) ks
                  have htk := take_isC (A := (some ⟨rb, ro, none⟩)) (n := ks.length) (c := c) (k := j) hj (by have := HCX.out.r; omega) HCX.out.z
                  have hzl : ((cs (lns l) ks).take j).length = j := by rw [List.length_take]; omega
                  obtain ⟨zs, hzs⟩ : ∃ z, z = (cs (lns l) ks).take j := ⟨_, rfl⟩
                  obtain ⟨v1, w1, hap, ho1, hg1⟩ := run_app (ys := []) (zs := zs) (A2 := (some ⟨rb, ro, none⟩)) (c2 := c) (World.ownsRow_made wz #[] 0 (Nat.le_refl _) (Nat.zero_le _) rfl) (by rw [hzs]; exact cts_take (HCX.out.below (alloc1 wz _)).i j) 27 (by rw [hzs, hzl]; simp; omega) (by simp)
                  rw [← hzs] at hzl
                  rw [hzl] at hap
                  rw [List.nil_append, hzl] at ho1
                  have hb1 : Below wz.heap.size wz w1 := (alloc1 wz _).grown hg1 (by simp) (fun q eq => by have := (World.ownsRow_made wz (e := 30) #[] 0 (Nat.le_refl wz.heap.size) (Nat.zero_le _) (size := 3) rfl); exact own_base this q eq)
                  have HO := Lib.hid ho1
                  have HBZ := Lib.hid hb1
                  have c1 : w1.cell? ⟨bk, off + k * 6 + 1, none⟩ = some (.int .i64 x0) := (hb1.cell (p := ⟨bk, _, none⟩) HBK.out).trans c1
                  have c2 : w1.cell? ⟨bk, off + k * 6 + 2, none⟩ = some (.int .u64 (x1 : Int)) := (hb1.cell (p := ⟨bk, _, none⟩) HBK.out).trans c2
                  have HBK1 : Hid (bk < w1.heap.size) := Lib.hid (Nat.lt_of_lt_of_le HBK.out hb1.size)
                  replace HAI := Lib.hid (HAI.out.below hb1)
                  have HZS := Lib.hid hzs
                  have HZL := Lib.hid hzl
                  obtain ⟨n, hn⟩ : ∃ n, n = (lns l).count (x0, x1) := ⟨_, rfl⟩
                  have HLN := Lib.hid (lr_is (some ⟨bk, off, none⟩) cap l x0 x1 (by omega))
                  rw [← hn] at HLN
                  have HNC := Lib.hid hn
                  clear ho1 hg1 hb1 hzs hzl hn
                  go_upto_region 11 with fail
                  clear htk hap
                  obtain ⟨j, hjj⟩ : ∃ q, q = j := ⟨_, rfl⟩
                  rw [← hjj] at HO HZL ⊢
                  have Hj := Lib.hid hjj
                  have hj4 : j ≤ 400 := by omega
                  clear hjj
                  refine wp_region_held_drew (S := (fun W : World => W.cell? ⟨bk, off + k * 6 + 1, none⟩ = some (.int .i64 x0) ∧ W.cell? ⟨bk, off + k * 6 + 2, none⟩ = some (.int .u64 (x1 : Int)))) (by kernel_rfl) (⟨c1, c2⟩) (fun hK0 => ?_)
                  refine wpAnyH_take (i := 0) (oi := { dst := some 61, op := Go.Op.move (Go.Operand.tmp 6), type := 27, pos := "ref.go:43", after := #[], guard := none }) (v := ?_) rfl (by kernel_rfl) (by kernel_rfl) (by kernel_rfl) (fun _ _ _ h => h) (Or.inl ⟨by rfl, ?_⟩) hK0 ?_
                  rotate_left
                  · (intro wz hSz; (try dsimp only at hSz); go_simp; try with_reducible rfl)
                  simp only [Act.put, List.setIfInBounds_toArray, List.set_cons_zero, List.set_cons_succ]
                  refine wpAnyH_take (i := 1) (oi := { dst := some 62, op := Go.Op.move (Go.Operand.tmp 0), type := 22, pos := "ref.go:43", after := #[], guard := none }) (v := ?_) rfl (by kernel_rfl) (by kernel_rfl) (by kernel_rfl) (fun _ _ _ h => h) (Or.inl ⟨by rfl, ?_⟩) hK0 ?_
                  rotate_left
                  · (intro wz hSz; (try dsimp only at hSz); go_simp; try with_reducible rfl)
                  simp only [Act.put, List.setIfInBounds_toArray, List.set_cons_zero, List.set_cons_succ]
                  refine wpAnyH_take (i := 2) (oi := { dst := some 63, op := Go.Op.move (Go.Operand.tmp 4), type := 3, pos := "ref.go:43", after := #[], guard := none }) (v := ?_) rfl (by kernel_rfl) (by kernel_rfl) (by kernel_rfl) (fun _ _ _ h => h) (Or.inl ⟨by rfl, ?_⟩) hK0 ?_
                  rotate_left
                  · (intro wz hSz; (try dsimp only at hSz); go_simp; try with_reducible rfl)
                  simp only [Act.put, List.setIfInBounds_toArray, List.set_cons_zero, List.set_cons_succ]
                  refine wpAnyH_take (i := 3) (oi := { dst := some 64, op := Go.Op.indexAddr 22 (Go.Operand.tmp 62) (Go.Operand.tmp 63), type := 0, pos := "ref.go:43", after := #[{ on := 1, ground := Go.Ground.data }, { on := 2, ground := Go.Ground.data }], guard := none }) (v := ?_) rfl (by kernel_rfl) (by kernel_rfl) (by kernel_rfl) (fun _ _ _ h => h) (Or.inl ⟨by rfl, ?_⟩) hK0 ?_
                  rotate_left
                  · (intro wz hSz; (try dsimp only at hSz); go_simp; try with_reducible rfl)
                  simp only [Act.put, List.setIfInBounds_toArray, List.set_cons_zero, List.set_cons_succ]
                  refine wpAnyH_take (i := 4) (oi := { dst := some 65, op := Go.Op.fieldAddr 44 (Go.Operand.tmp 64) 1, type := 0, pos := "ref.go:43", after := #[{ on := 3, ground := Go.Ground.data }], guard := none }) (v := ?_) rfl (by kernel_rfl) (by kernel_rfl) (by kernel_rfl) (fun _ _ _ h => h) (Or.inl ⟨by rfl, ?_⟩) hK0 ?_
                  rotate_left
                  · (intro wz hSz; (try dsimp only at hSz); go_simp; try with_reducible rfl)
                  simp only [Act.put, List.setIfInBounds_toArray, List.set_cons_zero, List.set_cons_succ]
                  refine wpAnyH_take (i := 5) (oi := { dst := some 66, op := Go.Op.load 25 (Go.Operand.tmp 65), type := 25, pos := "ref.go:43", after := #[{ on := 4, ground := Go.Ground.data }], guard := none }) (v := ?_) rfl (by kernel_rfl) (by kernel_rfl) (by kernel_rfl) (fun _ _ _ h => h) (Or.inl ⟨by rfl, ?_⟩) hK0 ?_
                  rotate_left
                  · (intro wz hSz; obtain ⟨hcz, hcz2⟩ := hSz; go_simp; try with_reducible rfl)
                  simp only [Act.put, List.setIfInBounds_toArray, List.set_cons_zero, List.set_cons_succ]
                  refine wpAnyH_take (i := 6) (oi := { dst := some 67, op := Go.Op.move (Go.Operand.tmp 0), type := 22, pos := "ref.go:43", after := #[], guard := none }) (v := ?_) rfl (by kernel_rfl) (by kernel_rfl) (by kernel_rfl) (fun _ _ _ h => h) (Or.inl ⟨by rfl, ?_⟩) hK0 ?_
                  rotate_left
                  · (intro wz hSz; (try dsimp only at hSz); go_simp; try with_reducible rfl)
                  simp only [Act.put, List.setIfInBounds_toArray, List.set_cons_zero, List.set_cons_succ]
                  refine wpAnyH_take (i := 7) (oi := { dst := some 68, op := Go.Op.move (Go.Operand.tmp 0), type := 22, pos := "ref.go:43", after := #[], guard := none }) (v := ?_) rfl (by kernel_rfl) (by kernel_rfl) (by kernel_rfl) (fun _ _ _ h => h) (Or.inl ⟨by rfl, ?_⟩) hK0 ?_
                  rotate_left
                  · (intro wz hSz; (try dsimp only at hSz); go_simp; try with_reducible rfl)
                  simp only [Act.put, List.setIfInBounds_toArray, List.set_cons_zero, List.set_cons_succ]
                  refine wpAnyH_take (i := 8) (oi := { dst := some 69, op := Go.Op.move (Go.Operand.tmp 4), type := 3, pos := "ref.go:43", after := #[], guard := none }) (v := ?_) rfl (by kernel_rfl) (by kernel_rfl) (by kernel_rfl) (fun _ _ _ h => h) (Or.inl ⟨by rfl, ?_⟩) hK0 ?_
                  rotate_left
                  · (intro wz hSz; (try dsimp only at hSz); go_simp; try with_reducible rfl)
                  simp only [Act.put, List.setIfInBounds_toArray, List.set_cons_zero, List.set_cons_succ]
                  refine wpAnyH_take (i := 9) (oi := { dst := some 70, op := Go.Op.indexAddr 22 (Go.Operand.tmp 68) (Go.Operand.tmp 69), type := 0, pos := "ref.go:43", after := #[{ on := 7, ground := Go.Ground.data }, { on := 8, ground := Go.Ground.data }], guard := none }) (v := ?_) rfl (by kernel_rfl) (by kernel_rfl) (by kernel_rfl) (fun _ _ _ h => h) (Or.inl ⟨by rfl, ?_⟩) hK0 ?_
                  rotate_left
                  · (intro wz hSz; (try dsimp only at hSz); go_simp; try with_reducible rfl)
                  simp only [Act.put, List.setIfInBounds_toArray, List.set_cons_zero, List.set_cons_succ]
                  refine wpAnyH_take (i := 10) (oi := { dst := some 71, op := Go.Op.fieldAddr 44 (Go.Operand.tmp 70) 1, type := 0, pos := "ref.go:43", after := #[{ on := 9, ground := Go.Ground.data }], guard := none }) (v := ?_) rfl (by kernel_rfl) (by kernel_rfl) (by kernel_rfl) (fun _ _ _ h => h) (Or.inl ⟨by rfl, ?_⟩) hK0 ?_
                  rotate_left
                  · (intro wz hSz; (try dsimp only at hSz); go_simp; try with_reducible rfl)
                  simp only [Act.put, List.setIfInBounds_toArray, List.set_cons_zero, List.set_cons_succ]
                  refine wpAnyH_take (i := 11) (oi := { dst := some 72, op := Go.Op.load 25 (Go.Operand.tmp 71), type := 25, pos := "ref.go:43", after := #[{ on := 10, ground := Go.Ground.data }], guard := none }) (v := ?_) rfl (by kernel_rfl) (by kernel_rfl) (by kernel_rfl) (fun _ _ _ h => h) (Or.inl ⟨by rfl, ?_⟩) hK0 ?_
                  rotate_left
                  · (intro wz hSz; obtain ⟨hcz, hcz2⟩ := hSz; go_simp; try with_reducible rfl)
                  simp only [Act.put, List.setIfInBounds_toArray, List.set_cons_zero, List.set_cons_succ]
                  refine wpAnyH_ready (rs := [12]) (by kernel_rfl) (by simp) ?_
                  refine AllReadyH.cons (o := { dst := some 73, op := Go.Op.call { callee := Go.Callee.value (Go.Operand.func 12), args := #[Go.Operand.tmp 67, Go.Operand.tmp 72], argTypes := #[22, 25] }, type := 3, pos := "ref.go:43", after := #[{ on := 6, ground := Go.Ground.data }, { on := 11, ground := Go.Ground.data }], guard := none }) rfl (fun K hK => ?_) AllReadyH.nil
                  go_simp
                  with_reducible refine (HLN.out.call _ (HAI.out.below (below_drew1 w1))).mono ?_
                  rintro r wq1 ⟨rfl, hbq'⟩
                  go_wp2_with fail
                  have hbq : Below w1.heap.size w1 wq1 := (below_drew1 w1).trans hbq'
                  have hS : (fun W : World => W.cell? ⟨bk, off + k * 6 + 1, none⟩ = some (.int .i64 x0) ∧ W.cell? ⟨bk, off + k * 6 + 2, none⟩ = some (.int .u64 (x1 : Int))) wq1 := by obtain ⟨q0, q1⟩ := hK0; exact ⟨(hbq'.cell (p := ⟨bk, _, none⟩) HBK1.out).trans q0, (hbq'.cell (p := ⟨bk, _, none⟩) HBK1.out).trans q1⟩
                  replace HO := Lib.hid (own_below HO.out hbq)
                  replace HBZ := Lib.hid (HBZ.out.trans (hbq.mono HBZ.out.size))
                  clear hbq hbq'
                  refine hK.out _ _ hS (fun hK1 => ?_)
                  clear hK K hS hK0
                  refine wpAnyH_take (i := 13) (oi := { dst := some 74, op := Go.Op.build 30 #[(0, Go.Operand.tmp 66), (1, Go.Operand.tmp 73)], type := 30, pos := "ref.go:43", after := #[{ on := 5, ground := Go.Ground.data }, { on := 12, ground := Go.Ground.data }], guard := none }) (v := ?_) rfl (by kernel_rfl) (by kernel_rfl) (by kernel_rfl) (fun _ _ _ h => h) (Or.inl ⟨by rfl, ?_⟩) hK1 ?_
                  rotate_left
                  · (intro wz hSz; (try dsimp only at hSz); go_simp; try with_reducible rfl)
                  simp only [Act.put, List.setIfInBounds_toArray, List.set_cons_zero, List.set_cons_succ]
                  refine wpAnyH_ready (rs := [14]) (by kernel_rfl) (by simp) ?_
                  refine AllReadyH.cons (o := { dst := some 75, op := Go.Op.buildSlice 27 1 #[(0, Go.Operand.tmp 74)], type := 27, pos := "ref.go:43", after := #[{ on := 13, ground := Go.Ground.data }], guard := none }) rfl (fun K hK => ?_) AllReadyH.nil
                  go_simp
                  obtain ⟨wq2, hwq⟩ : ∃ W : World, W = wq1.alloc (.cells #[.int .i64 x0, .int .u64 (x1 : Int), .int .i64 (n : Int)] 30) := ⟨_, rfl⟩
                  rw [← hwq]
                  have hbq : Below wq1.heap.size wq1 wq2 := by rw [hwq]; exact alloc1 _ _
                  have hbk1 : bk < wq1.heap.size := Nat.lt_of_lt_of_le HBK.out HBZ.out.size
                  have hS : (fun W : World => W.cell? ⟨bk, off + k * 6 + 1, none⟩ = some (.int .i64 x0) ∧ W.cell? ⟨bk, off + k * 6 + 2, none⟩ = some (.int .u64 (x1 : Int))) wq2 := by obtain ⟨q0, q1⟩ := hK1; exact ⟨(hbq.cell (p := ⟨bk, _, none⟩) hbk1).trans q0, (hbq.cell (p := ⟨bk, _, none⟩) hbk1).trans q1⟩
                  have hg : wq2.heap[wq1.heap.size]? = some (.cells #[.int .i64 x0, .int .u64 (x1 : Int), .int .i64 (n : Int)] 30 (0, 0)) := by rw [hwq]; exact heap_alloc_new wq1 _
                  obtain ⟨ga, hgn⟩ : ∃ g, g = wq1.heap.size := ⟨_, rfl⟩
                  rw [← hgn] at hg ⊢
                  have HGC := Lib.hid hg
                  replace HO := Lib.hid (own_below HO.out hbq)
                  replace HBZ := Lib.hid (HBZ.out.trans (hbq.mono HBZ.out.size))
                  clear hbq hg hgn hwq hbk1
                  refine hK.out _ _ hS (fun hK2 => ?_)
                  clear hK K hS hK1
                  refine wpAnyH_ready (rs := [15]) (by kernel_rfl) (by simp) ?_
                  refine AllReadyH.cons (o := { dst := some 76, op := Go.Op.call { callee := Go.Callee.builtin Go.Builtin.append, args := #[Go.Operand.tmp 61, Go.Operand.tmp 75], argTypes := #[27, 27] }, type := 27, pos := "ref.go:43", after := #[{ on := 0, ground := Go.Ground.data }, { on := 14, ground := Go.Ground.data }, { on := 12, ground := Go.Ground.chain }], guard := none }) rfl (fun K hK => ?_) AllReadyH.nil
                  have HNW := Lib.hid (World.news_of_block HGC.out)
                  have H1C : Hid (∀ u ∈ ([.int .i64 x0, .int .u64 (x1 : Int), .int .i64 (n : Int)] : List Value), u.oneCell' = true) := Lib.hid (by intro u hu; simp at hu; rcases hu with rfl | rfl | rfl <;> rfl)
                  have hsz : wz.heap.size ≤ wq2.heap.size := HBZ.out.size
                  refine step_append_lies _ (by rfl) (.tmp 61) (.tmp 75) 27 (by rfl) wz.heap.size 30 i0 _ 3 24 Try.underlying27 hi0 hz0 hz1 hz2 rfl (by decide) v1 j (ctCells zs) (by rfl) HO.out ⟨ga, 0, none⟩ 1 1 [.int .i64 x0, .int .u64 (x1 : Int), .int .i64 (n : Int)] (by rfl) rfl HNW.out H1C.out (by omega) (by unfold maxLen; omega) (by omega) hsz _ rfl ?_
                  intro gd cap3 wq3 hown3 hg3 hat3 hlt3
                  have hbg : Below wz.heap.size wz wq3 := HBZ.out.grown hg3 hsz (own_base HO.out)
                  have hS : (fun W : World => W.cell? ⟨bk, off + k * 6 + 1, none⟩ = some (.int .i64 x0) ∧ W.cell? ⟨bk, off + k * 6 + 2, none⟩ = some (.int .u64 (x1 : Int))) wq3 := by obtain ⟨q0, q1⟩ := hK2; exact ⟨(World.cell?_of_block (a := ⟨bk, _, none⟩) (hg3.block bk (Nat.lt_of_lt_of_le HBK.out hsz) (fun e => Nat.lt_irrefl _ (Nat.lt_of_lt_of_le HBK.out (own_base HO.out bk e.symm))))).trans q0, (World.cell?_of_block (a := ⟨bk, _, none⟩) (hg3.block bk (Nat.lt_of_lt_of_le HBK.out hsz) (fun e => Nat.lt_irrefl _ (Nat.lt_of_lt_of_le HBK.out (own_base HO.out bk e.symm))))).trans q1⟩
                  have HO3 := Lib.hid hown3
                  have HB3 := Lib.hid hbg
                  clear hown3 hg3 hat3 hlt3 hbg HNW H1C hsz HGC
                  refine hK.out _ _ hS (fun hK3 => ?_)
                  clear hK K hS hK2
                  refine wpAnyH_take (i := 16) (oi := { dst := some 6, op := Go.Op.assign (Go.Operand.tmp 76), type := 27, pos := "ref.go:43", after := #[{ on := 15, ground := Go.Ground.data }, { on := 15, ground := Go.Ground.chain }, { on := 0, ground := Go.Ground.phase }, { on := 1, ground := Go.Ground.phase }, { on := 2, ground := Go.Ground.phase }, { on := 3, ground := Go.Ground.phase }, { on := 4, ground := Go.Ground.phase }, { on := 5, ground := Go.Ground.phase }, { on := 6, ground := Go.Ground.phase }, { on := 7, ground := Go.Ground.phase }, { on := 8, ground := Go.Ground.phase }, { on := 9, ground := Go.Ground.phase }, { on := 10, ground := Go.Ground.phase }, { on := 11, ground := Go.Ground.phase }, { on := 12, ground := Go.Ground.phase }, { on := 13, ground := Go.Ground.phase }, { on := 14, ground := Go.Ground.phase }, { on := 15, ground := Go.Ground.phase }], guard := none }) (v := ?_) rfl (by kernel_rfl) (by kernel_rfl) (by kernel_rfl) (fun _ _ _ h => h) (Or.inl ⟨by rfl, ?_⟩) hK3 ?_
                  rotate_left
                  · (intro wz hSz; (try dsimp only at hSz); go_simp; try with_reducible rfl)
                  simp only [Act.put, List.setIfInBounds_toArray, List.set_cons_zero, List.set_cons_succ]
                  refine wpAnyH_done (by kernel_rfl) ?_ _
                  have HB4 := HB3
                  have e1 : (zs ++ [((x0, x1), n)]).length = j + 1 := by rw [List.length_append, HZL.out]; rfl
                  have ho4 : wq3.ownsRow wz.heap.size 30 3 (.slice (some ⟨gd, 0, none⟩) (j + 1) cap3) (zs ++ [((x0, x1), n)]).length (ctCells (zs ++ [((x0, x1), n)])) := by
                    rw [e1, ctCells_app]
                    exact HO3.out
                  have hdl : ((cs (lns l) ks).drop j).length = ks.length - j := by rw [List.length_drop, hcl]
                  have hjk : j ≤ ks.length := by have := Hj.out; omega
                  have hdr := drop_isC (B := (some ⟨rb, ro, none⟩)) (n := ks.length) (c := c) (k := j) hjk (by have := HCX.out.r; omega) HCX.out.z
                  obtain ⟨v2, w6, hap2, ho2, hg2⟩ := run_app (ys := zs ++ [((x0, x1), n)]) (zs := (cs (lns l) ks).drop j) (A2 := dropC (some ⟨rb, ro, none⟩) c j) (c2 := c - j) ho4 (cts_drop (HCX.out.below HB3.out) j) 27 (by rw [e1, hdl]; omega) HB3.out.size
                  rw [hdl] at hap2
                  have hb6 : Below wz.heap.size wz w6 := HB3.out.grown hg2 HB3.out.size (own_base ho4)
                  go_wp2_with fail
                  clear hdr hap2
                  obtain ⟨B2, c2', rfl, hcx⟩ := cx_own ho2
                  have e5 : zs ++ [((x0, x1), n)] ++ (cs (lns l) ks).drop j = cs (lns l) (ks.take j ++ (x0, x1) :: ks.drop j) := by rw [cs_ins, HZS.out, HNC.out, Hj.out]
                  rw [e5] at hcx
                  have e6 : (zs ++ [((x0, x1), n)] ++ (cs (lns l) ks).drop j).length = (ks.take j ++ (x0, x1) :: ks.drop j).length := by rw [e5, cs_len]
                  go_roundg (l.length - (k + 1))
                  case rel => exact ⟨k + 1, ks.take j ++ (x0, x1) :: ks.drop j, B2, c2', by omega, by go_num, by rw [e6], by omega, Lib.hid (by
                    rw [HN.out]
                    have hj' := Hj.out
                    subst hj'
                    exact HKS.out.ins HLT.out HLE.out), Lib.hid hcx, Lib.hid (HBR.out.trans (hb6.mono HBR.out.size))⟩
                  case measure => omega
                · skip
                  go_upto_region 9 with fail
                  refine wp_region_held_drew (S := (Keeps wq1)) (by kernel_rfl) (keeps_drew _) (fun hQ0 => ?_)
                  refine wpAnyH_take (i := 0) (oi := { dst := some 39, op := Go.Op.move (Go.Operand.tmp 5), type := 3, pos := "ref.go:39", after := #[], guard := none }) (v := ?_) rfl (by kernel_rfl) (by kernel_rfl) (by kernel_rfl) (fun _ _ _ h => h) (Or.inl ⟨by rfl, ?_⟩) hQ0 ?_
                  rotate_left
                  · (intro wz hSz; (try dsimp only at hSz); go_simp; try with_reducible rfl)
                  simp only [Act.put, List.setIfInBounds_toArray, List.set_cons_zero, List.set_cons_succ]
                  refine wpAnyH_take (i := 1) (oi := { dst := some 40, op := Go.Op.move (Go.Operand.tmp 3), type := 27, pos := "ref.go:39", after := #[], guard := none }) (v := ?_) rfl (by kernel_rfl) (by kernel_rfl) (by kernel_rfl) (fun _ _ _ h => h) (Or.inl ⟨by rfl, ?_⟩) hQ0 ?_
                  rotate_left
                  · (intro wz hSz; (try dsimp only at hSz); go_simp; try with_reducible rfl)
                  simp only [Act.put, List.setIfInBounds_toArray, List.set_cons_zero, List.set_cons_succ]
                  refine wpAnyH_take (i := 2) (oi := { dst := some 41, op := Go.Op.call { callee := Go.Callee.builtin Go.Builtin.len, args := #[Go.Operand.tmp 40], argTypes := #[27] }, type := 3, pos := "ref.go:39", after := #[{ on := 1, ground := Go.Ground.data }], guard := none }) (v := ?_) rfl (by kernel_rfl) (by kernel_rfl) (by kernel_rfl) (fun _ _ _ h => h) (Or.inl ⟨by rfl, ?_⟩) hQ0 ?_
                  rotate_left
                  · (intro wz hSz; (try dsimp only at hSz); go_simp; try with_reducible rfl)
                  simp only [Act.put, List.setIfInBounds_toArray, List.set_cons_zero, List.set_cons_succ]
                  refine wpAnyH_take (i := 3) (oi := { dst := some 42, op := Go.Op.binOp Go.BinOp.lss 3 (Go.Operand.tmp 39) (Go.Operand.tmp 41) 3, type := 4, pos := "ref.go:39", after := #[{ on := 0, ground := Go.Ground.data }, { on := 2, ground := Go.Ground.data }], guard := none }) (v := ?_) rfl (by kernel_rfl) (by kernel_rfl) (by kernel_rfl) (fun _ _ _ h => h) (Or.inl ⟨by rfl, ?_⟩) hQ0 ?_
                  rotate_left
                  · (intro wz hSz; (try dsimp only at hSz); go_simp; try with_reducible rfl)
                  simp only [Act.put, List.setIfInBounds_toArray, List.set_cons_zero, List.set_cons_succ]
                  refine wpAnyH_take (i := 4) (oi := { dst := some 43, op := Go.Op.move (Go.Operand.tmp 42), type := 4, pos := "ref.go:39", after := #[{ on := 3, ground := Go.Ground.data }], guard := none }) (v := ?_) rfl (by kernel_rfl) (by kernel_rfl) (by kernel_rfl) (fun _ _ _ h => h) (Or.inl ⟨by rfl, ?_⟩) hQ0 ?_
                  rotate_left
                  · (intro wz hSz; (try dsimp only at hSz); go_simp; try with_reducible rfl)
                  simp only [Act.put, List.setIfInBounds_toArray, List.set_cons_zero, List.set_cons_succ]
                  refine wpAnyH_take (i := 5) (oi := { dst := some 44, op := Go.Op.move (Go.Operand.tmp 3), type := 27, pos := "ref.go:39", after := #[{ on := 4, ground := Go.Ground.guard }], guard := some (4, true) }) (v := ?_) rfl (by kernel_rfl) (by kernel_rfl) (by kernel_rfl) (fun _ _ _ h => h) (Or.inl ⟨by rfl, ?_⟩) hQ0 ?_
                  rotate_left
                  · (intro wz hSz; (try dsimp only at hSz); go_simp; try with_reducible rfl)
                  simp only [Act.put, List.setIfInBounds_toArray, List.set_cons_zero, List.set_cons_succ]
                  refine wpAnyH_take (i := 6) (oi := { dst := some 45, op := Go.Op.move (Go.Operand.tmp 5), type := 3, pos := "ref.go:39", after := #[{ on := 4, ground := Go.Ground.guard }], guard := some (4, true) }) (v := ?_) rfl (by kernel_rfl) (by kernel_rfl) (by kernel_rfl) (fun _ _ _ h => h) (Or.inl ⟨by rfl, ?_⟩) hQ0 ?_
                  rotate_left
                  · (intro wz hSz; (try dsimp only at hSz); go_simp; try with_reducible rfl)
                  simp only [Act.put, List.setIfInBounds_toArray, List.set_cons_zero, List.set_cons_succ]
                  refine wpAnyH_take (i := 7) (oi := { dst := some 46, op := Go.Op.indexAddr 27 (Go.Operand.tmp 44) (Go.Operand.tmp 45), type := 0, pos := "ref.go:39", after := #[{ on := 5, ground := Go.Ground.data }, { on := 6, ground := Go.Ground.data }, { on := 4, ground := Go.Ground.guard }], guard := some (4, true) }) (v := ?_) rfl (by kernel_rfl) (by kernel_rfl) (by kernel_rfl) (fun _ _ _ h => h) (Or.inl ⟨by rfl, ?_⟩) hQ0 ?_
                  rotate_left
                  · (intro wz hSz; (try dsimp only at hSz); go_simp; try with_reducible rfl)
                  simp only [Act.put, List.setIfInBounds_toArray, List.set_cons_zero, List.set_cons_succ]
                  refine wpAnyH_take (i := 8) (oi := { dst := some 47, op := Go.Op.fieldAddr 30 (Go.Operand.tmp 46) 0, type := 0, pos := "ref.go:39", after := #[{ on := 7, ground := Go.Ground.data }, { on := 4, ground := Go.Ground.guard }], guard := some (4, true) }) (v := ?_) rfl (by kernel_rfl) (by kernel_rfl) (by kernel_rfl) (fun _ _ _ h => h) (Or.inl ⟨by rfl, ?_⟩) hQ0 ?_
                  rotate_left
                  · (intro wz hSz; (try dsimp only at hSz); go_simp; try with_reducible rfl)
                  simp only [Act.put, List.setIfInBounds_toArray, List.set_cons_zero, List.set_cons_succ]
                  refine wpAnyH_take (i := 9) (oi := { dst := some 48, op := Go.Op.load 25 (Go.Operand.tmp 47), type := 25, pos := "ref.go:39", after := #[{ on := 8, ground := Go.Ground.data }, { on := 4, ground := Go.Ground.guard }], guard := some (4, true) }) (v := ?_) rfl (by kernel_rfl) (by kernel_rfl) (by kernel_rfl) (fun _ _ _ h => h) (Or.inl ⟨by rfl, ?_⟩) hQ0 ?_
                  rotate_left
                  · (intro wz hSz; have hcz := (Keeps.b hSz).cell (p := ⟨rb, _, none⟩) HRB.out |>.trans p0; have hcz2 := (Keeps.b hSz).cell (p := ⟨rb, _, none⟩) HRB.out |>.trans p1; go_simp; try with_reducible rfl)
                  simp only [Act.put, List.setIfInBounds_toArray, List.set_cons_zero, List.set_cons_succ]
                  refine wpAnyH_take (i := 10) (oi := { dst := some 49, op := Go.Op.move (Go.Operand.tmp 0), type := 22, pos := "ref.go:39", after := #[{ on := 4, ground := Go.Ground.guard }], guard := some (4, true) }) (v := ?_) rfl (by kernel_rfl) (by kernel_rfl) (by kernel_rfl) (fun _ _ _ h => h) (Or.inl ⟨by rfl, ?_⟩) hQ0 ?_
                  rotate_left
                  · (intro wz hSz; (try dsimp only at hSz); go_simp; try with_reducible rfl)
                  simp only [Act.put, List.setIfInBounds_toArray, List.set_cons_zero, List.set_cons_succ]
                  refine wpAnyH_take (i := 11) (oi := { dst := some 50, op := Go.Op.move (Go.Operand.tmp 4), type := 3, pos := "ref.go:39", after := #[{ on := 4, ground := Go.Ground.guard }], guard := some (4, true) }) (v := ?_) rfl (by kernel_rfl) (by kernel_rfl) (by kernel_rfl) (fun _ _ _ h => h) (Or.inl ⟨by rfl, ?_⟩) hQ0 ?_
                  rotate_left
                  · (intro wz hSz; (try dsimp only at hSz); go_simp; try with_reducible rfl)
                  simp only [Act.put, List.setIfInBounds_toArray, List.set_cons_zero, List.set_cons_succ]
                  refine wpAnyH_take (i := 12) (oi := { dst := some 51, op := Go.Op.indexAddr 22 (Go.Operand.tmp 49) (Go.Operand.tmp 50), type := 0, pos := "ref.go:39", after := #[{ on := 10, ground := Go.Ground.data }, { on := 11, ground := Go.Ground.data }, { on := 4, ground := Go.Ground.guard }], guard := some (4, true) }) (v := ?_) rfl (by kernel_rfl) (by kernel_rfl) (by kernel_rfl) (fun _ _ _ h => h) (Or.inl ⟨by rfl, ?_⟩) hQ0 ?_
                  rotate_left
                  · (intro wz hSz; (try dsimp only at hSz); go_simp; try with_reducible rfl)
                  simp only [Act.put, List.setIfInBounds_toArray, List.set_cons_zero, List.set_cons_succ]
                  refine wpAnyH_take (i := 13) (oi := { dst := some 52, op := Go.Op.fieldAddr 44 (Go.Operand.tmp 51) 1, type := 0, pos := "ref.go:39", after := #[{ on := 12, ground := Go.Ground.data }, { on := 4, ground := Go.Ground.guard }], guard := some (4, true) }) (v := ?_) rfl (by kernel_rfl) (by kernel_rfl) (by kernel_rfl) (fun _ _ _ h => h) (Or.inl ⟨by rfl, ?_⟩) hQ0 ?_
                  rotate_left
                  · (intro wz hSz; (try dsimp only at hSz); go_simp; try with_reducible rfl)
                  simp only [Act.put, List.setIfInBounds_toArray, List.set_cons_zero, List.set_cons_succ]
                  refine wpAnyH_take (i := 14) (oi := { dst := some 53, op := Go.Op.load 25 (Go.Operand.tmp 52), type := 25, pos := "ref.go:39", after := #[{ on := 13, ground := Go.Ground.data }, { on := 4, ground := Go.Ground.guard }], guard := some (4, true) }) (v := ?_) rfl (by kernel_rfl) (by kernel_rfl) (by kernel_rfl) (fun _ _ _ h => h) (Or.inl ⟨by rfl, ?_⟩) hQ0 ?_
                  rotate_left
                  · (intro wz hSz; have hcz := (Keeps.b hSz).cell (p := ⟨bk, _, none⟩) HBK.out |>.trans c1; have hcz2 := (Keeps.b hSz).cell (p := ⟨bk, _, none⟩) HBK.out |>.trans c2; go_simp; try with_reducible rfl)
                  simp only [Act.put, List.setIfInBounds_toArray, List.set_cons_zero, List.set_cons_succ]
                  refine wpAnyH_take (i := 15) (oi := { dst := some 54, op := Go.Op.binOp Go.BinOp.eql 25 (Go.Operand.tmp 48) (Go.Operand.tmp 53) 25, type := 4, pos := "ref.go:39", after := #[{ on := 9, ground := Go.Ground.data }, { on := 14, ground := Go.Ground.data }, { on := 4, ground := Go.Ground.guard }], guard := some (4, true) }) (v := ?_) rfl (by kernel_rfl) (by kernel_rfl) (by kernel_rfl) (fun _ _ _ h => h) (Or.inl ⟨by rfl, ?_⟩) hQ0 ?_
                  rotate_left
                  · (intro wz hSz; (try dsimp only at hSz); go_simp; try with_reducible rfl)
                  simp only [Act.put, List.setIfInBounds_toArray, List.set_cons_zero, List.set_cons_succ]
                  refine wpAnyH_take (i := 16) (oi := { dst := some 55, op := Go.Op.pick (Go.Operand.tmp 43) (Go.Operand.tmp 54) (Go.Operand.const (Go.Value.bool false)), type := 4, pos := "ref.go:39", after := #[{ on := 4, ground := Go.Ground.data }, { on := 15, ground := Go.Ground.data }], guard := none }) (v := ?_) rfl (by kernel_rfl) (by kernel_rfl) (by kernel_rfl) (fun _ _ _ h => h) (Or.inl ⟨by rfl, ?_⟩) hQ0 ?_
                  rotate_left
                  · (intro wz hSz; (try dsimp only at hSz); go_simp; try with_reducible rfl)
                  simp only [Act.put, List.setIfInBounds_toArray, List.set_cons_zero, List.set_cons_succ]
                  refine wpAnyH_done (by kernel_rfl) ?_ _
                  obtain ⟨wz, hwz⟩ : ∃ W : World, W = wq1.drew := ⟨_, rfl⟩
                  have hbz : Below wq1.heap.size wq1 wz := by rw [hwz]; exact below_drew1 _
                  have c1 : wz.cell? ⟨bk, off + k * 6 + 1, none⟩ = some (.int .i64 x0) := (hbz.cell (p := ⟨bk, _, none⟩) HBK.out).trans c1
                  have c2 : wz.cell? ⟨bk, off + k * 6 + 2, none⟩ = some (.int .u64 (x1 : Int)) := (hbz.cell (p := ⟨bk, _, none⟩) HBK.out).trans c2
                  have HBK : Hid (bk < wz.heap.size) := Lib.hid (Nat.lt_of_lt_of_le HBK.out hbz.size)
                  have HCX := Lib.hid (HCX.out.below hbz)
                  have HAI := Lib.hid (HAI.out.below hbz)
                  have HBR := Lib.hid (HBR.out.trans (hbz.mono HBR.out.size))
                  go_upto_region 10 with fail
                  rw [← hwz]
                  clear hwz hbz
                  have hcl := cs_len (lns l) ks
                  have htk := take_isC (A := (some ⟨rb, ro, none⟩)) (n := ks.length) (c := c) (k := j) hj (by have := HCX.out.r; omega) HCX.out.z
                  have hzl : ((cs (lns l) ks).take j).length = j := by rw [List.length_take]; omega
                  obtain ⟨zs, hzs⟩ : ∃ z, z = (cs (lns l) ks).take j := ⟨_, rfl⟩
                  obtain ⟨v1, w1, hap, ho1, hg1⟩ := run_app (ys := []) (zs := zs) (A2 := (some ⟨rb, ro, none⟩)) (c2 := c) (World.ownsRow_made wz #[] 0 (Nat.le_refl _) (Nat.zero_le _) rfl) (by rw [hzs]; exact cts_take (HCX.out.below (alloc1 wz _)).i j) 27 (by rw [hzs, hzl]; simp; omega) (by simp)
                  rw [← hzs] at hzl
                  rw [hzl] at hap
                  rw [List.nil_append, hzl] at ho1
                  have hb1 : Below wz.heap.size wz w1 := (alloc1 wz _).grown hg1 (by simp) (fun q eq => by have := (World.ownsRow_made wz (e := 30) #[] 0 (Nat.le_refl wz.heap.size) (Nat.zero_le _) (size := 3) rfl); exact own_base this q eq)
                  have HO := Lib.hid ho1
                  have HBZ := Lib.hid hb1
                  have c1 : w1.cell? ⟨bk, off + k * 6 + 1, none⟩ = some (.int .i64 x0) := (hb1.cell (p := ⟨bk, _, none⟩) HBK.out).trans c1
                  have c2 : w1.cell? ⟨bk, off + k * 6 + 2, none⟩ = some (.int .u64 (x1 : Int)) := (hb1.cell (p := ⟨bk, _, none⟩) HBK.out).trans c2
                  have HBK1 : Hid (bk < w1.heap.size) := Lib.hid (Nat.lt_of_lt_of_le HBK.out hb1.size)
                  replace HAI := Lib.hid (HAI.out.below hb1)
                  have HZS := Lib.hid hzs
                  have HZL := Lib.hid hzl
                  obtain ⟨n, hn⟩ : ∃ n, n = (lns l).count (x0, x1) := ⟨_, rfl⟩
                  have HLN := Lib.hid (lr_is (some ⟨bk, off, none⟩) cap l x0 x1 (by omega))
                  rw [← hn] at HLN
                  have HNC := Lib.hid hn
                  clear ho1 hg1 hb1 hzs hzl hn
                  go_upto_region 11 with fail
                  clear htk hap
                  obtain ⟨j, hjj⟩ : ∃ q, q = j := ⟨_, rfl⟩
                  rw [← hjj] at HO HZL ⊢
                  have Hj := Lib.hid hjj
                  have hj4 : j ≤ 400 := by omega
                  clear hjj
                  refine wp_region_held_drew (S := (fun W : World => W.cell? ⟨bk, off + k * 6 + 1, none⟩ = some (.int .i64 x0) ∧ W.cell? ⟨bk, off + k * 6 + 2, none⟩ = some (.int .u64 (x1 : Int)))) (by kernel_rfl) (⟨c1, c2⟩) (fun hK0 => ?_)
                  refine wpAnyH_take (i := 0) (oi := { dst := some 61, op := Go.Op.move (Go.Operand.tmp 6), type := 27, pos := "ref.go:43", after := #[], guard := none }) (v := ?_) rfl (by kernel_rfl) (by kernel_rfl) (by kernel_rfl) (fun _ _ _ h => h) (Or.inl ⟨by rfl, ?_⟩) hK0 ?_
                  rotate_left
                  · (intro wz hSz; (try dsimp only at hSz); go_simp; try with_reducible rfl)
                  simp only [Act.put, List.setIfInBounds_toArray, List.set_cons_zero, List.set_cons_succ]
                  refine wpAnyH_take (i := 1) (oi := { dst := some 62, op := Go.Op.move (Go.Operand.tmp 0), type := 22, pos := "ref.go:43", after := #[], guard := none }) (v := ?_) rfl (by kernel_rfl) (by kernel_rfl) (by kernel_rfl) (fun _ _ _ h => h) (Or.inl ⟨by rfl, ?_⟩) hK0 ?_
                  rotate_left
                  · (intro wz hSz; (try dsimp only at hSz); go_simp; try with_reducible rfl)
                  simp only [Act.put, List.setIfInBounds_toArray, List.set_cons_zero, List.set_cons_succ]
                  refine wpAnyH_take (i := 2) (oi := { dst := some 63, op := Go.Op.move (Go.Operand.tmp 4), type := 3, pos := "ref.go:43", after := #[], guard := none }) (v := ?_) rfl (by kernel_rfl) (by kernel_rfl) (by kernel_rfl) (fun _ _ _ h => h) (Or.inl ⟨by rfl, ?_⟩) hK0 ?_
                  rotate_left
                  · (intro wz hSz; (try dsimp only at hSz); go_simp; try with_reducible rfl)
                  simp only [Act.put, List.setIfInBounds_toArray, List.set_cons_zero, List.set_cons_succ]
                  refine wpAnyH_take (i := 3) (oi := { dst := some 64, op := Go.Op.indexAddr 22 (Go.Operand.tmp 62) (Go.Operand.tmp 63), type := 0, pos := "ref.go:43", after := #[{ on := 1, ground := Go.Ground.data }, { on := 2, ground := Go.Ground.data }], guard := none }) (v := ?_) rfl (by kernel_rfl) (by kernel_rfl) (by kernel_rfl) (fun _ _ _ h => h) (Or.inl ⟨by rfl, ?_⟩) hK0 ?_
                  rotate_left
                  · (intro wz hSz; (try dsimp only at hSz); go_simp; try with_reducible rfl)
                  simp only [Act.put, List.setIfInBounds_toArray, List.set_cons_zero, List.set_cons_succ]
                  refine wpAnyH_take (i := 4) (oi := { dst := some 65, op := Go.Op.fieldAddr 44 (Go.Operand.tmp 64) 1, type := 0, pos := "ref.go:43", after := #[{ on := 3, ground := Go.Ground.data }], guard := none }) (v := ?_) rfl (by kernel_rfl) (by kernel_rfl) (by kernel_rfl) (fun _ _ _ h => h) (Or.inl ⟨by rfl, ?_⟩) hK0 ?_
                  rotate_left
                  · (intro wz hSz; (try dsimp only at hSz); go_simp; try with_reducible rfl)
                  simp only [Act.put, List.setIfInBounds_toArray, List.set_cons_zero, List.set_cons_succ]
                  refine wpAnyH_take (i := 5) (oi := { dst := some 66, op := Go.Op.load 25 (Go.Operand.tmp 65), type := 25, pos := "ref.go:43", after := #[{ on := 4, ground := Go.Ground.data }], guard := none }) (v := ?_) rfl (by kernel_rfl) (by kernel_rfl) (by kernel_rfl) (fun _ _ _ h => h) (Or.inl ⟨by rfl, ?_⟩) hK0 ?_
                  rotate_left
                  · (intro wz hSz; obtain ⟨hcz, hcz2⟩ := hSz; go_simp; try with_reducible rfl)
                  simp only [Act.put, List.setIfInBounds_toArray, List.set_cons_zero, List.set_cons_succ]
                  refine wpAnyH_take (i := 6) (oi := { dst := some 67, op := Go.Op.move (Go.Operand.tmp 0), type := 22, pos := "ref.go:43", after := #[], guard := none }) (v := ?_) rfl (by kernel_rfl) (by kernel_rfl) (by kernel_rfl) (fun _ _ _ h => h) (Or.inl ⟨by rfl, ?_⟩) hK0 ?_
                  rotate_left
                  · (intro wz hSz; (try dsimp only at hSz); go_simp; try with_reducible rfl)
                  simp only [Act.put, List.setIfInBounds_toArray, List.set_cons_zero, List.set_cons_succ]
                  refine wpAnyH_take (i := 7) (oi := { dst := some 68, op := Go.Op.move (Go.Operand.tmp 0), type := 22, pos := "ref.go:43", after := #[], guard := none }) (v := ?_) rfl (by kernel_rfl) (by kernel_rfl) (by kernel_rfl) (fun _ _ _ h => h) (Or.inl ⟨by rfl, ?_⟩) hK0 ?_
                  rotate_left
                  · (intro wz hSz; (try dsimp only at hSz); go_simp; try with_reducible rfl)
                  simp only [Act.put, List.setIfInBounds_toArray, List.set_cons_zero, List.set_cons_succ]
                  refine wpAnyH_take (i := 8) (oi := { dst := some 69, op := Go.Op.move (Go.Operand.tmp 4), type := 3, pos := "ref.go:43", after := #[], guard := none }) (v := ?_) rfl (by kernel_rfl) (by kernel_rfl) (by kernel_rfl) (fun _ _ _ h => h) (Or.inl ⟨by rfl, ?_⟩) hK0 ?_
                  rotate_left
                  · (intro wz hSz; (try dsimp only at hSz); go_simp; try with_reducible rfl)
                  simp only [Act.put, List.setIfInBounds_toArray, List.set_cons_zero, List.set_cons_succ]
                  refine wpAnyH_take (i := 9) (oi := { dst := some 70, op := Go.Op.indexAddr 22 (Go.Operand.tmp 68) (Go.Operand.tmp 69), type := 0, pos := "ref.go:43", after := #[{ on := 7, ground := Go.Ground.data }, { on := 8, ground := Go.Ground.data }], guard := none }) (v := ?_) rfl (by kernel_rfl) (by kernel_rfl) (by kernel_rfl) (fun _ _ _ h => h) (Or.inl ⟨by rfl, ?_⟩) hK0 ?_
                  rotate_left
                  · (intro wz hSz; (try dsimp only at hSz); go_simp; try with_reducible rfl)
                  simp only [Act.put, List.setIfInBounds_toArray, List.set_cons_zero, List.set_cons_succ]
                  refine wpAnyH_take (i := 10) (oi := { dst := some 71, op := Go.Op.fieldAddr 44 (Go.Operand.tmp 70) 1, type := 0, pos := "ref.go:43", after := #[{ on := 9, ground := Go.Ground.data }], guard := none }) (v := ?_) rfl (by kernel_rfl) (by kernel_rfl) (by kernel_rfl) (fun _ _ _ h => h) (Or.inl ⟨by rfl, ?_⟩) hK0 ?_
                  rotate_left
                  · (intro wz hSz; (try dsimp only at hSz); go_simp; try with_reducible rfl)
                  simp only [Act.put, List.setIfInBounds_toArray, List.set_cons_zero, List.set_cons_succ]
                  refine wpAnyH_take (i := 11) (oi := { dst := some 72, op := Go.Op.load 25 (Go.Operand.tmp 71), type := 25, pos := "ref.go:43", after := #[{ on := 10, ground := Go.Ground.data }], guard := none }) (v := ?_) rfl (by kernel_rfl) (by kernel_rfl) (by kernel_rfl) (fun _ _ _ h => h) (Or.inl ⟨by rfl, ?_⟩) hK0 ?_
                  rotate_left
                  · (intro wz hSz; obtain ⟨hcz, hcz2⟩ := hSz; go_simp; try with_reducible rfl)
                  simp only [Act.put, List.setIfInBounds_toArray, List.set_cons_zero, List.set_cons_succ]
                  refine wpAnyH_ready (rs := [12]) (by kernel_rfl) (by simp) ?_
                  refine AllReadyH.cons (o := { dst := some 73, op := Go.Op.call { callee := Go.Callee.value (Go.Operand.func 12), args := #[Go.Operand.tmp 67, Go.Operand.tmp 72], argTypes := #[22, 25] }, type := 3, pos := "ref.go:43", after := #[{ on := 6, ground := Go.Ground.data }, { on := 11, ground := Go.Ground.data }], guard := none }) rfl (fun K hK => ?_) AllReadyH.nil
                  go_simp
                  with_reducible refine (HLN.out.call _ (HAI.out.below (below_drew1 w1))).mono ?_
                  rintro r wq1 ⟨rfl, hbq'⟩
                  go_wp2_with fail
                  have hbq : Below w1.heap.size w1 wq1 := (below_drew1 w1).trans hbq'
                  have hS : (fun W : World => W.cell? ⟨bk, off + k * 6 + 1, none⟩ = some (.int .i64 x0) ∧ W.cell? ⟨bk, off + k * 6 + 2, none⟩ = some (.int .u64 (x1 : Int))) wq1 := by obtain ⟨q0, q1⟩ := hK0; exact ⟨(hbq'.cell (p := ⟨bk, _, none⟩) HBK1.out).trans q0, (hbq'.cell (p := ⟨bk, _, none⟩) HBK1.out).trans q1⟩
                  replace HO := Lib.hid (own_below HO.out hbq)
                  replace HBZ := Lib.hid (HBZ.out.trans (hbq.mono HBZ.out.size))
                  clear hbq hbq'
                  refine hK.out _ _ hS (fun hK1 => ?_)
                  clear hK K hS hK0
                  refine wpAnyH_take (i := 13) (oi := { dst := some 74, op := Go.Op.build 30 #[(0, Go.Operand.tmp 66), (1, Go.Operand.tmp 73)], type := 30, pos := "ref.go:43", after := #[{ on := 5, ground := Go.Ground.data }, { on := 12, ground := Go.Ground.data }], guard := none }) (v := ?_) rfl (by kernel_rfl) (by kernel_rfl) (by kernel_rfl) (fun _ _ _ h => h) (Or.inl ⟨by rfl, ?_⟩) hK1 ?_
                  rotate_left
                  · (intro wz hSz; (try dsimp only at hSz); go_simp; try with_reducible rfl)
                  simp only [Act.put, List.setIfInBounds_toArray, List.set_cons_zero, List.set_cons_succ]
                  refine wpAnyH_ready (rs := [14]) (by kernel_rfl) (by simp) ?_
                  refine AllReadyH.cons (o := { dst := some 75, op := Go.Op.buildSlice 27 1 #[(0, Go.Operand.tmp 74)], type := 27, pos := "ref.go:43", after := #[{ on := 13, ground := Go.Ground.data }], guard := none }) rfl (fun K hK => ?_) AllReadyH.nil
                  go_simp
                  obtain ⟨wq2, hwq⟩ : ∃ W : World, W = wq1.alloc (.cells #[.int .i64 x0, .int .u64 (x1 : Int), .int .i64 (n : Int)] 30) := ⟨_, rfl⟩
                  rw [← hwq]
                  have hbq : Below wq1.heap.size wq1 wq2 := by rw [hwq]; exact alloc1 _ _
                  have hbk1 : bk < wq1.heap.size := Nat.lt_of_lt_of_le HBK.out HBZ.out.size
                  have hS : (fun W : World => W.cell? ⟨bk, off + k * 6 + 1, none⟩ = some (.int .i64 x0) ∧ W.cell? ⟨bk, off + k * 6 + 2, none⟩ = some (.int .u64 (x1 : Int))) wq2 := by obtain ⟨q0, q1⟩ := hK1; exact ⟨(hbq.cell (p := ⟨bk, _, none⟩) hbk1).trans q0, (hbq.cell (p := ⟨bk, _, none⟩) hbk1).trans q1⟩
                  have hg : wq2.heap[wq1.heap.size]? = some (.cells #[.int .i64 x0, .int .u64 (x1 : Int), .int .i64 (n : Int)] 30 (0, 0)) := by rw [hwq]; exact heap_alloc_new wq1 _
                  obtain ⟨ga, hgn⟩ : ∃ g, g = wq1.heap.size := ⟨_, rfl⟩
                  rw [← hgn] at hg ⊢
                  have HGC := Lib.hid hg
                  replace HO := Lib.hid (own_below HO.out hbq)
                  replace HBZ := Lib.hid (HBZ.out.trans (hbq.mono HBZ.out.size))
                  clear hbq hg hgn hwq hbk1
                  refine hK.out _ _ hS (fun hK2 => ?_)
                  clear hK K hS hK1
                  refine wpAnyH_ready (rs := [15]) (by kernel_rfl) (by simp) ?_
                  refine AllReadyH.cons (o := { dst := some 76, op := Go.Op.call { callee := Go.Callee.builtin Go.Builtin.append, args := #[Go.Operand.tmp 61, Go.Operand.tmp 75], argTypes := #[27, 27] }, type := 27, pos := "ref.go:43", after := #[{ on := 0, ground := Go.Ground.data }, { on := 14, ground := Go.Ground.data }, { on := 12, ground := Go.Ground.chain }], guard := none }) rfl (fun K hK => ?_) AllReadyH.nil
                  have HNW := Lib.hid (World.news_of_block HGC.out)
                  have H1C : Hid (∀ u ∈ ([.int .i64 x0, .int .u64 (x1 : Int), .int .i64 (n : Int)] : List Value), u.oneCell' = true) := Lib.hid (by intro u hu; simp at hu; rcases hu with rfl | rfl | rfl <;> rfl)
                  have hsz : wz.heap.size ≤ wq2.heap.size := HBZ.out.size
                  refine step_append_lies _ (by rfl) (.tmp 61) (.tmp 75) 27 (by rfl) wz.heap.size 30 i0 _ 3 24 Try.underlying27 hi0 hz0 hz1 hz2 rfl (by decide) v1 j (ctCells zs) (by rfl) HO.out ⟨ga, 0, none⟩ 1 1 [.int .i64 x0, .int .u64 (x1 : Int), .int .i64 (n : Int)] (by rfl) rfl HNW.out H1C.out (by omega) (by unfold maxLen; omega) (by omega) hsz _ rfl ?_
                  intro gd cap3 wq3 hown3 hg3 hat3 hlt3
                  have hbg : Below wz.heap.size wz wq3 := HBZ.out.grown hg3 hsz (own_base HO.out)
                  have hS : (fun W : World => W.cell? ⟨bk, off + k * 6 + 1, none⟩ = some (.int .i64 x0) ∧ W.cell? ⟨bk, off + k * 6 + 2, none⟩ = some (.int .u64 (x1 : Int))) wq3 := by obtain ⟨q0, q1⟩ := hK2; exact ⟨(World.cell?_of_block (a := ⟨bk, _, none⟩) (hg3.block bk (Nat.lt_of_lt_of_le HBK.out hsz) (fun e => Nat.lt_irrefl _ (Nat.lt_of_lt_of_le HBK.out (own_base HO.out bk e.symm))))).trans q0, (World.cell?_of_block (a := ⟨bk, _, none⟩) (hg3.block bk (Nat.lt_of_lt_of_le HBK.out hsz) (fun e => Nat.lt_irrefl _ (Nat.lt_of_lt_of_le HBK.out (own_base HO.out bk e.symm))))).trans q1⟩
                  have HO3 := Lib.hid hown3
                  have HB3 := Lib.hid hbg
                  clear hown3 hg3 hat3 hlt3 hbg HNW H1C hsz HGC
                  refine hK.out _ _ hS (fun hK3 => ?_)
                  clear hK K hS hK2
                  refine wpAnyH_take (i := 16) (oi := { dst := some 6, op := Go.Op.assign (Go.Operand.tmp 76), type := 27, pos := "ref.go:43", after := #[{ on := 15, ground := Go.Ground.data }, { on := 15, ground := Go.Ground.chain }, { on := 0, ground := Go.Ground.phase }, { on := 1, ground := Go.Ground.phase }, { on := 2, ground := Go.Ground.phase }, { on := 3, ground := Go.Ground.phase }, { on := 4, ground := Go.Ground.phase }, { on := 5, ground := Go.Ground.phase }, { on := 6, ground := Go.Ground.phase }, { on := 7, ground := Go.Ground.phase }, { on := 8, ground := Go.Ground.phase }, { on := 9, ground := Go.Ground.phase }, { on := 10, ground := Go.Ground.phase }, { on := 11, ground := Go.Ground.phase }, { on := 12, ground := Go.Ground.phase }, { on := 13, ground := Go.Ground.phase }, { on := 14, ground := Go.Ground.phase }, { on := 15, ground := Go.Ground.phase }], guard := none }) (v := ?_) rfl (by kernel_rfl) (by kernel_rfl) (by kernel_rfl) (fun _ _ _ h => h) (Or.inl ⟨by rfl, ?_⟩) hK3 ?_
                  rotate_left
                  · (intro wz hSz; (try dsimp only at hSz); go_simp; try with_reducible rfl)
                  simp only [Act.put, List.setIfInBounds_toArray, List.set_cons_zero, List.set_cons_succ]
                  refine wpAnyH_done (by kernel_rfl) ?_ _
                  have HB4 := HB3
                  have e1 : (zs ++ [((x0, x1), n)]).length = j + 1 := by rw [List.length_append, HZL.out]; rfl
                  have ho4 : wq3.ownsRow wz.heap.size 30 3 (.slice (some ⟨gd, 0, none⟩) (j + 1) cap3) (zs ++ [((x0, x1), n)]).length (ctCells (zs ++ [((x0, x1), n)])) := by
                    rw [e1, ctCells_app]
                    exact HO3.out
                  have hdl : ((cs (lns l) ks).drop j).length = ks.length - j := by rw [List.length_drop, hcl]
                  have hjk : j ≤ ks.length := by have := Hj.out; omega
                  have hdr := drop_isC (B := (some ⟨rb, ro, none⟩)) (n := ks.length) (c := c) (k := j) hjk (by have := HCX.out.r; omega) HCX.out.z
                  obtain ⟨v2, w6, hap2, ho2, hg2⟩ := run_app (ys := zs ++ [((x0, x1), n)]) (zs := (cs (lns l) ks).drop j) (A2 := dropC (some ⟨rb, ro, none⟩) c j) (c2 := c - j) ho4 (cts_drop (HCX.out.below HB3.out) j) 27 (by rw [e1, hdl]; omega) HB3.out.size
                  rw [hdl] at hap2
                  have hb6 : Below wz.heap.size wz w6 := HB3.out.grown hg2 HB3.out.size (own_base ho4)
                  go_wp2_with fail
                  clear hdr hap2
                  obtain ⟨B2, c2', rfl, hcx⟩ := cx_own ho2
                  have e5 : zs ++ [((x0, x1), n)] ++ (cs (lns l) ks).drop j = cs (lns l) (ks.take j ++ (x0, x1) :: ks.drop j) := by rw [cs_ins, HZS.out, HNC.out, Hj.out]
                  rw [e5] at hcx
                  have e6 : (zs ++ [((x0, x1), n)] ++ (cs (lns l) ks).drop j).length = (ks.take j ++ (x0, x1) :: ks.drop j).length := by rw [e5, cs_len]
                  go_roundg (l.length - (k + 1))
                  case rel => exact ⟨k + 1, ks.take j ++ (x0, x1) :: ks.drop j, B2, c2', by omega, by go_num, by rw [e6], by omega, Lib.hid (by
                    rw [HN.out]
                    have hj' := Hj.out
                    subst hj'
                    exact HKS.out.ins HLT.out HLE.out), Lib.hid hcx, Lib.hid (HBR.out.trans (hb6.mono HBR.out.size))⟩
                  case measure => omega
          · obtain rfl : j = ks.length := by omega
            go_upto_region 7 with fail
            refine wp_region_held_drew (S := (Keeps wr)) (by kernel_rfl) (keeps_drew _) (fun hK0 => ?_)
            refine wpAnyH_take (i := 0) (oi := { dst := some 19, op := Go.Op.move (Go.Operand.tmp 5), type := 3, pos := "ref.go:36", after := #[], guard := none }) (v := ?_) rfl (by kernel_rfl) (by kernel_rfl) (by kernel_rfl) (fun _ _ _ h => h) (Or.inl ⟨by rfl, ?_⟩) hK0 ?_
            rotate_left
            · (intro wz hSz; (try dsimp only at hSz); go_simp; try with_reducible rfl)
            simp only [Act.put, List.setIfInBounds_toArray, List.set_cons_zero, List.set_cons_succ]
            refine wpAnyH_take (i := 1) (oi := { dst := some 20, op := Go.Op.move (Go.Operand.tmp 3), type := 27, pos := "ref.go:36", after := #[], guard := none }) (v := ?_) rfl (by kernel_rfl) (by kernel_rfl) (by kernel_rfl) (fun _ _ _ h => h) (Or.inl ⟨by rfl, ?_⟩) hK0 ?_
            rotate_left
            · (intro wz hSz; (try dsimp only at hSz); go_simp; try with_reducible rfl)
            simp only [Act.put, List.setIfInBounds_toArray, List.set_cons_zero, List.set_cons_succ]
            refine wpAnyH_take (i := 2) (oi := { dst := some 21, op := Go.Op.call { callee := Go.Callee.builtin Go.Builtin.len, args := #[Go.Operand.tmp 20], argTypes := #[27] }, type := 3, pos := "ref.go:36", after := #[{ on := 1, ground := Go.Ground.data }], guard := none }) (v := ?_) rfl (by kernel_rfl) (by kernel_rfl) (by kernel_rfl) (fun _ _ _ h => h) (Or.inl ⟨by rfl, ?_⟩) hK0 ?_
            rotate_left
            · (intro wz hSz; (try dsimp only at hSz); go_simp; try with_reducible rfl)
            simp only [Act.put, List.setIfInBounds_toArray, List.set_cons_zero, List.set_cons_succ]
            refine wpAnyH_take (i := 3) (oi := { dst := some 22, op := Go.Op.binOp Go.BinOp.lss 3 (Go.Operand.tmp 19) (Go.Operand.tmp 21) 3, type := 4, pos := "ref.go:36", after := #[{ on := 0, ground := Go.Ground.data }, { on := 2, ground := Go.Ground.data }], guard := none }) (v := ?_) rfl (by kernel_rfl) (by kernel_rfl) (by kernel_rfl) (fun _ _ _ h => h) (Or.inl ⟨by rfl, ?_⟩) hK0 ?_
            rotate_left
            · (intro wz hSz; (try dsimp only at hSz); go_simp; try with_reducible rfl)
            simp only [Act.put, List.setIfInBounds_toArray, List.set_cons_zero, List.set_cons_succ]
            refine wpAnyH_take (i := 4) (oi := { dst := some 23, op := Go.Op.move (Go.Operand.tmp 22), type := 4, pos := "ref.go:36", after := #[{ on := 3, ground := Go.Ground.data }], guard := none }) (v := ?_) rfl (by kernel_rfl) (by kernel_rfl) (by kernel_rfl) (fun _ _ _ h => h) (Or.inl ⟨by rfl, ?_⟩) hK0 ?_
            rotate_left
            · (intro wz hSz; (try dsimp only at hSz); go_simp; try with_reducible rfl)
            simp only [Act.put, List.setIfInBounds_toArray, List.set_cons_zero, List.set_cons_succ]
            refine wpAnyH_take (i := 5) (oi := { dst := some 24, op := Go.Op.move (Go.Operand.tmp 3), type := 27, pos := "ref.go:36", after := #[{ on := 4, ground := Go.Ground.guard }], guard := some (4, true) }) (v := undef) rfl (by kernel_rfl) (by kernel_rfl) (by kernel_rfl) (fun _ _ _ h => h) (Or.inr ⟨by rfl, rfl⟩) hK0 ?_
            simp only [Act.put, List.setIfInBounds_toArray, List.set_cons_zero, List.set_cons_succ]
            refine wpAnyH_take (i := 6) (oi := { dst := some 25, op := Go.Op.move (Go.Operand.tmp 5), type := 3, pos := "ref.go:36", after := #[{ on := 4, ground := Go.Ground.guard }], guard := some (4, true) }) (v := undef) rfl (by kernel_rfl) (by kernel_rfl) (by kernel_rfl) (fun _ _ _ h => h) (Or.inr ⟨by rfl, rfl⟩) hK0 ?_
            simp only [Act.put, List.setIfInBounds_toArray, List.set_cons_zero, List.set_cons_succ]
            refine wpAnyH_take (i := 7) (oi := { dst := some 26, op := Go.Op.indexAddr 27 (Go.Operand.tmp 24) (Go.Operand.tmp 25), type := 0, pos := "ref.go:36", after := #[{ on := 5, ground := Go.Ground.data }, { on := 6, ground := Go.Ground.data }, { on := 4, ground := Go.Ground.guard }], guard := some (4, true) }) (v := undef) rfl (by kernel_rfl) (by kernel_rfl) (by kernel_rfl) (fun _ _ _ h => h) (Or.inr ⟨by rfl, rfl⟩) hK0 ?_
            simp only [Act.put, List.setIfInBounds_toArray, List.set_cons_zero, List.set_cons_succ]
            refine wpAnyH_take (i := 8) (oi := { dst := some 27, op := Go.Op.fieldAddr 30 (Go.Operand.tmp 26) 0, type := 0, pos := "ref.go:36", after := #[{ on := 7, ground := Go.Ground.data }, { on := 4, ground := Go.Ground.guard }], guard := some (4, true) }) (v := undef) rfl (by kernel_rfl) (by kernel_rfl) (by kernel_rfl) (fun _ _ _ h => h) (Or.inr ⟨by rfl, rfl⟩) hK0 ?_
            simp only [Act.put, List.setIfInBounds_toArray, List.set_cons_zero, List.set_cons_succ]
            refine wpAnyH_take (i := 9) (oi := { dst := some 28, op := Go.Op.load 25 (Go.Operand.tmp 27), type := 25, pos := "ref.go:36", after := #[{ on := 8, ground := Go.Ground.data }, { on := 4, ground := Go.Ground.guard }], guard := some (4, true) }) (v := undef) rfl (by kernel_rfl) (by kernel_rfl) (by kernel_rfl) (fun _ _ _ h => h) (Or.inr ⟨by rfl, rfl⟩) hK0 ?_
            simp only [Act.put, List.setIfInBounds_toArray, List.set_cons_zero, List.set_cons_succ]
            refine wpAnyH_take (i := 10) (oi := { dst := some 29, op := Go.Op.move (Go.Operand.tmp 0), type := 22, pos := "ref.go:36", after := #[{ on := 4, ground := Go.Ground.guard }], guard := some (4, true) }) (v := undef) rfl (by kernel_rfl) (by kernel_rfl) (by kernel_rfl) (fun _ _ _ h => h) (Or.inr ⟨by rfl, rfl⟩) hK0 ?_
            simp only [Act.put, List.setIfInBounds_toArray, List.set_cons_zero, List.set_cons_succ]
            refine wpAnyH_take (i := 11) (oi := { dst := some 30, op := Go.Op.move (Go.Operand.tmp 4), type := 3, pos := "ref.go:36", after := #[{ on := 4, ground := Go.Ground.guard }], guard := some (4, true) }) (v := undef) rfl (by kernel_rfl) (by kernel_rfl) (by kernel_rfl) (fun _ _ _ h => h) (Or.inr ⟨by rfl, rfl⟩) hK0 ?_
            simp only [Act.put, List.setIfInBounds_toArray, List.set_cons_zero, List.set_cons_succ]
            refine wpAnyH_take (i := 12) (oi := { dst := some 31, op := Go.Op.indexAddr 22 (Go.Operand.tmp 29) (Go.Operand.tmp 30), type := 0, pos := "ref.go:36", after := #[{ on := 10, ground := Go.Ground.data }, { on := 11, ground := Go.Ground.data }, { on := 4, ground := Go.Ground.guard }], guard := some (4, true) }) (v := undef) rfl (by kernel_rfl) (by kernel_rfl) (by kernel_rfl) (fun _ _ _ h => h) (Or.inr ⟨by rfl, rfl⟩) hK0 ?_
            simp only [Act.put, List.setIfInBounds_toArray, List.set_cons_zero, List.set_cons_succ]
            refine wpAnyH_take (i := 13) (oi := { dst := some 32, op := Go.Op.fieldAddr 44 (Go.Operand.tmp 31) 1, type := 0, pos := "ref.go:36", after := #[{ on := 12, ground := Go.Ground.data }, { on := 4, ground := Go.Ground.guard }], guard := some (4, true) }) (v := undef) rfl (by kernel_rfl) (by kernel_rfl) (by kernel_rfl) (fun _ _ _ h => h) (Or.inr ⟨by rfl, rfl⟩) hK0 ?_
            simp only [Act.put, List.setIfInBounds_toArray, List.set_cons_zero, List.set_cons_succ]
            refine wpAnyH_take (i := 14) (oi := { dst := some 33, op := Go.Op.load 25 (Go.Operand.tmp 32), type := 25, pos := "ref.go:36", after := #[{ on := 13, ground := Go.Ground.data }, { on := 4, ground := Go.Ground.guard }], guard := some (4, true) }) (v := undef) rfl (by kernel_rfl) (by kernel_rfl) (by kernel_rfl) (fun _ _ _ h => h) (Or.inr ⟨by rfl, rfl⟩) hK0 ?_
            simp only [Act.put, List.setIfInBounds_toArray, List.set_cons_zero, List.set_cons_succ]
            refine wpAnyH_take (i := 15) (oi := { dst := some 34, op := Go.Op.call { callee := Go.Callee.value (Go.Operand.func 14), args := #[Go.Operand.tmp 28, Go.Operand.tmp 33], argTypes := #[25, 25] }, type := 3, pos := "ref.go:36", after := #[{ on := 9, ground := Go.Ground.data }, { on := 14, ground := Go.Ground.data }, { on := 4, ground := Go.Ground.chain }, { on := 4, ground := Go.Ground.guard }], guard := some (4, true) }) (v := undef) rfl (by kernel_rfl) (by kernel_rfl) (by kernel_rfl) (fun _ _ _ h => h) (Or.inr ⟨by rfl, rfl⟩) hK0 ?_
            simp only [Act.put, List.setIfInBounds_toArray, List.set_cons_zero, List.set_cons_succ]
            refine wpAnyH_take (i := 16) (oi := { dst := some 35, op := Go.Op.binOp Go.BinOp.lss 3 (Go.Operand.tmp 34) (Go.Operand.const (Go.Value.int Go.IntKind.i64 0)) 3, type := 4, pos := "ref.go:36", after := #[{ on := 15, ground := Go.Ground.data }, { on := 4, ground := Go.Ground.guard }], guard := some (4, true) }) (v := undef) rfl (by kernel_rfl) (by kernel_rfl) (by kernel_rfl) (fun _ _ _ h => h) (Or.inr ⟨by rfl, rfl⟩) hK0 ?_
            simp only [Act.put, List.setIfInBounds_toArray, List.set_cons_zero, List.set_cons_succ]
            refine wpAnyH_take (i := 17) (oi := { dst := some 36, op := Go.Op.pick (Go.Operand.tmp 23) (Go.Operand.tmp 35) (Go.Operand.const (Go.Value.bool false)), type := 4, pos := "ref.go:36", after := #[{ on := 4, ground := Go.Ground.data }, { on := 16, ground := Go.Ground.data }], guard := none }) (v := ?_) rfl (by kernel_rfl) (by kernel_rfl) (by kernel_rfl) (fun _ _ _ h => h) (Or.inl ⟨by rfl, ?_⟩) hK0 ?_
            rotate_left
            · (intro wz hSz; (try dsimp only at hSz); go_simp; try with_reducible rfl)
            simp only [Act.put, List.setIfInBounds_toArray, List.set_cons_zero, List.set_cons_succ]
            refine wpAnyH_done (by kernel_rfl) ?_ _
            go_wp2_with fail
            have HLE := Lib.hid (fun (h : ks.length < ks.length) => absurd h (Nat.lt_irrefl _) : ∀ (h : ks.length < ks.length), lt (x0, x1) ks[ks.length])
            go_upto_region 9 with fail
            refine wp_region_held_drew (S := (Keeps (wr.drew))) (by kernel_rfl) (keeps_drew _) (fun hQ0 => ?_)
            refine wpAnyH_take (i := 0) (oi := { dst := some 39, op := Go.Op.move (Go.Operand.tmp 5), type := 3, pos := "ref.go:39", after := #[], guard := none }) (v := ?_) rfl (by kernel_rfl) (by kernel_rfl) (by kernel_rfl) (fun _ _ _ h => h) (Or.inl ⟨by rfl, ?_⟩) hQ0 ?_
            rotate_left
            · (intro wz hSz; (try dsimp only at hSz); go_simp; try with_reducible rfl)
            simp only [Act.put, List.setIfInBounds_toArray, List.set_cons_zero, List.set_cons_succ]
            refine wpAnyH_take (i := 1) (oi := { dst := some 40, op := Go.Op.move (Go.Operand.tmp 3), type := 27, pos := "ref.go:39", after := #[], guard := none }) (v := ?_) rfl (by kernel_rfl) (by kernel_rfl) (by kernel_rfl) (fun _ _ _ h => h) (Or.inl ⟨by rfl, ?_⟩) hQ0 ?_
            rotate_left
            · (intro wz hSz; (try dsimp only at hSz); go_simp; try with_reducible rfl)
            simp only [Act.put, List.setIfInBounds_toArray, List.set_cons_zero, List.set_cons_succ]
            refine wpAnyH_take (i := 2) (oi := { dst := some 41, op := Go.Op.call { callee := Go.Callee.builtin Go.Builtin.len, args := #[Go.Operand.tmp 40], argTypes := #[27] }, type := 3, pos := "ref.go:39", after := #[{ on := 1, ground := Go.Ground.data }], guard := none }) (v := ?_) rfl (by kernel_rfl) (by kernel_rfl) (by kernel_rfl) (fun _ _ _ h => h) (Or.inl ⟨by rfl, ?_⟩) hQ0 ?_
            rotate_left
            · (intro wz hSz; (try dsimp only at hSz); go_simp; try with_reducible rfl)
            simp only [Act.put, List.setIfInBounds_toArray, List.set_cons_zero, List.set_cons_succ]
            refine wpAnyH_take (i := 3) (oi := { dst := some 42, op := Go.Op.binOp Go.BinOp.lss 3 (Go.Operand.tmp 39) (Go.Operand.tmp 41) 3, type := 4, pos := "ref.go:39", after := #[{ on := 0, ground := Go.Ground.data }, { on := 2, ground := Go.Ground.data }], guard := none }) (v := ?_) rfl (by kernel_rfl) (by kernel_rfl) (by kernel_rfl) (fun _ _ _ h => h) (Or.inl ⟨by rfl, ?_⟩) hQ0 ?_
            rotate_left
            · (intro wz hSz; (try dsimp only at hSz); go_simp; try with_reducible rfl)
            simp only [Act.put, List.setIfInBounds_toArray, List.set_cons_zero, List.set_cons_succ]
            refine wpAnyH_take (i := 4) (oi := { dst := some 43, op := Go.Op.move (Go.Operand.tmp 42), type := 4, pos := "ref.go:39", after := #[{ on := 3, ground := Go.Ground.data }], guard := none }) (v := ?_) rfl (by kernel_rfl) (by kernel_rfl) (by kernel_rfl) (fun _ _ _ h => h) (Or.inl ⟨by rfl, ?_⟩) hQ0 ?_
            rotate_left
            · (intro wz hSz; (try dsimp only at hSz); go_simp; try with_reducible rfl)
            simp only [Act.put, List.setIfInBounds_toArray, List.set_cons_zero, List.set_cons_succ]
            refine wpAnyH_take (i := 5) (oi := { dst := some 44, op := Go.Op.move (Go.Operand.tmp 3), type := 27, pos := "ref.go:39", after := #[{ on := 4, ground := Go.Ground.guard }], guard := some (4, true) }) (v := undef) rfl (by kernel_rfl) (by kernel_rfl) (by kernel_rfl) (fun _ _ _ h => h) (Or.inr ⟨by rfl, rfl⟩) hQ0 ?_
            simp only [Act.put, List.setIfInBounds_toArray, List.set_cons_zero, List.set_cons_succ]
            refine wpAnyH_take (i := 6) (oi := { dst := some 45, op := Go.Op.move (Go.Operand.tmp 5), type := 3, pos := "ref.go:39", after := #[{ on := 4, ground := Go.Ground.guard }], guard := some (4, true) }) (v := undef) rfl (by kernel_rfl) (by kernel_rfl) (by kernel_rfl) (fun _ _ _ h => h) (Or.inr ⟨by rfl, rfl⟩) hQ0 ?_
            simp only [Act.put, List.setIfInBounds_toArray, List.set_cons_zero, List.set_cons_succ]
            refine wpAnyH_take (i := 7) (oi := { dst := some 46, op := Go.Op.indexAddr 27 (Go.Operand.tmp 44) (Go.Operand.tmp 45), type := 0, pos := "ref.go:39", after := #[{ on := 5, ground := Go.Ground.data }, { on := 6, ground := Go.Ground.data }, { on := 4, ground := Go.Ground.guard }], guard := some (4, true) }) (v := undef) rfl (by kernel_rfl) (by kernel_rfl) (by kernel_rfl) (fun _ _ _ h => h) (Or.inr ⟨by rfl, rfl⟩) hQ0 ?_
            simp only [Act.put, List.setIfInBounds_toArray, List.set_cons_zero, List.set_cons_succ]
            refine wpAnyH_take (i := 8) (oi := { dst := some 47, op := Go.Op.fieldAddr 30 (Go.Operand.tmp 46) 0, type := 0, pos := "ref.go:39", after := #[{ on := 7, ground := Go.Ground.data }, { on := 4, ground := Go.Ground.guard }], guard := some (4, true) }) (v := undef) rfl (by kernel_rfl) (by kernel_rfl) (by kernel_rfl) (fun _ _ _ h => h) (Or.inr ⟨by rfl, rfl⟩) hQ0 ?_
            simp only [Act.put, List.setIfInBounds_toArray, List.set_cons_zero, List.set_cons_succ]
            refine wpAnyH_take (i := 9) (oi := { dst := some 48, op := Go.Op.load 25 (Go.Operand.tmp 47), type := 25, pos := "ref.go:39", after := #[{ on := 8, ground := Go.Ground.data }, { on := 4, ground := Go.Ground.guard }], guard := some (4, true) }) (v := undef) rfl (by kernel_rfl) (by kernel_rfl) (by kernel_rfl) (fun _ _ _ h => h) (Or.inr ⟨by rfl, rfl⟩) hQ0 ?_
            simp only [Act.put, List.setIfInBounds_toArray, List.set_cons_zero, List.set_cons_succ]
            refine wpAnyH_take (i := 10) (oi := { dst := some 49, op := Go.Op.move (Go.Operand.tmp 0), type := 22, pos := "ref.go:39", after := #[{ on := 4, ground := Go.Ground.guard }], guard := some (4, true) }) (v := undef) rfl (by kernel_rfl) (by kernel_rfl) (by kernel_rfl) (fun _ _ _ h => h) (Or.inr ⟨by rfl, rfl⟩) hQ0 ?_
            simp only [Act.put, List.setIfInBounds_toArray, List.set_cons_zero, List.set_cons_succ]
            refine wpAnyH_take (i := 11) (oi := { dst := some 50, op := Go.Op.move (Go.Operand.tmp 4), type := 3, pos := "ref.go:39", after := #[{ on := 4, ground := Go.Ground.guard }], guard := some (4, true) }) (v := undef) rfl (by kernel_rfl) (by kernel_rfl) (by kernel_rfl) (fun _ _ _ h => h) (Or.inr ⟨by rfl, rfl⟩) hQ0 ?_
            simp only [Act.put, List.setIfInBounds_toArray, List.set_cons_zero, List.set_cons_succ]
            refine wpAnyH_take (i := 12) (oi := { dst := some 51, op := Go.Op.indexAddr 22 (Go.Operand.tmp 49) (Go.Operand.tmp 50), type := 0, pos := "ref.go:39", after := #[{ on := 10, ground := Go.Ground.data }, { on := 11, ground := Go.Ground.data }, { on := 4, ground := Go.Ground.guard }], guard := some (4, true) }) (v := undef) rfl (by kernel_rfl) (by kernel_rfl) (by kernel_rfl) (fun _ _ _ h => h) (Or.inr ⟨by rfl, rfl⟩) hQ0 ?_
            simp only [Act.put, List.setIfInBounds_toArray, List.set_cons_zero, List.set_cons_succ]
            refine wpAnyH_take (i := 13) (oi := { dst := some 52, op := Go.Op.fieldAddr 44 (Go.Operand.tmp 51) 1, type := 0, pos := "ref.go:39", after := #[{ on := 12, ground := Go.Ground.data }, { on := 4, ground := Go.Ground.guard }], guard := some (4, true) }) (v := undef) rfl (by kernel_rfl) (by kernel_rfl) (by kernel_rfl) (fun _ _ _ h => h) (Or.inr ⟨by rfl, rfl⟩) hQ0 ?_
            simp only [Act.put, List.setIfInBounds_toArray, List.set_cons_zero, List.set_cons_succ]
            refine wpAnyH_take (i := 14) (oi := { dst := some 53, op := Go.Op.load 25 (Go.Operand.tmp 52), type := 25, pos := "ref.go:39", after := #[{ on := 13, ground := Go.Ground.data }, { on := 4, ground := Go.Ground.guard }], guard := some (4, true) }) (v := undef) rfl (by kernel_rfl) (by kernel_rfl) (by kernel_rfl) (fun _ _ _ h => h) (Or.inr ⟨by rfl, rfl⟩) hQ0 ?_
            simp only [Act.put, List.setIfInBounds_toArray, List.set_cons_zero, List.set_cons_succ]
            refine wpAnyH_take (i := 15) (oi := { dst := some 54, op := Go.Op.binOp Go.BinOp.eql 25 (Go.Operand.tmp 48) (Go.Operand.tmp 53) 25, type := 4, pos := "ref.go:39", after := #[{ on := 9, ground := Go.Ground.data }, { on := 14, ground := Go.Ground.data }, { on := 4, ground := Go.Ground.guard }], guard := some (4, true) }) (v := undef) rfl (by kernel_rfl) (by kernel_rfl) (by kernel_rfl) (fun _ _ _ h => h) (Or.inr ⟨by rfl, rfl⟩) hQ0 ?_
            simp only [Act.put, List.setIfInBounds_toArray, List.set_cons_zero, List.set_cons_succ]
            refine wpAnyH_take (i := 16) (oi := { dst := some 55, op := Go.Op.pick (Go.Operand.tmp 43) (Go.Operand.tmp 54) (Go.Operand.const (Go.Value.bool false)), type := 4, pos := "ref.go:39", after := #[{ on := 4, ground := Go.Ground.data }, { on := 15, ground := Go.Ground.data }], guard := none }) (v := ?_) rfl (by kernel_rfl) (by kernel_rfl) (by kernel_rfl) (fun _ _ _ h => h) (Or.inl ⟨by rfl, ?_⟩) hQ0 ?_
            rotate_left
            · (intro wz hSz; (try dsimp only at hSz); go_simp; try with_reducible rfl)
            simp only [Act.put, List.setIfInBounds_toArray, List.set_cons_zero, List.set_cons_succ]
            refine wpAnyH_done (by kernel_rfl) ?_ _
            obtain ⟨wz, hwz⟩ : ∃ W : World, W = wr.drew.drew := ⟨_, rfl⟩
            have hbz : Below wr.heap.size wr wz := by rw [hwz]; exact (below_drew1 _).drew
            have c1 : wz.cell? ⟨bk, off + k * 6 + 1, none⟩ = some (.int .i64 x0) := (hbz.cell (p := ⟨bk, _, none⟩) HBK.out).trans c1
            have c2 : wz.cell? ⟨bk, off + k * 6 + 2, none⟩ = some (.int .u64 (x1 : Int)) := (hbz.cell (p := ⟨bk, _, none⟩) HBK.out).trans c2
            have HBK : Hid (bk < wz.heap.size) := Lib.hid (Nat.lt_of_lt_of_le HBK.out hbz.size)
            have HCX := Lib.hid (HCX.out.below hbz)
            have HAI := Lib.hid (HAI.out.below hbz)
            have HBR := Lib.hid (HBR.out.trans (hbz.mono HBR.out.size))
            go_upto_region 10 with fail
            rw [← hwz]
            clear hwz hbz
            have hcl := cs_len (lns l) ks
            have htk := take_isC (A := B) (n := ks.length) (c := c) (k := ks.length) hj (by have := HCX.out.r; omega) HCX.out.z
            have hzl : ((cs (lns l) ks).take ks.length).length = ks.length := by rw [List.length_take]; omega
            obtain ⟨zs, hzs⟩ : ∃ z, z = (cs (lns l) ks).take ks.length := ⟨_, rfl⟩
            obtain ⟨v1, w1, hap, ho1, hg1⟩ := run_app (ys := []) (zs := zs) (A2 := B) (c2 := c) (World.ownsRow_made wz #[] 0 (Nat.le_refl _) (Nat.zero_le _) rfl) (by rw [hzs]; exact cts_take (HCX.out.below (alloc1 wz _)).i ks.length) 27 (by rw [hzs, hzl]; simp; omega) (by simp)
            rw [← hzs] at hzl
            rw [hzl] at hap
            rw [List.nil_append, hzl] at ho1
            have hb1 : Below wz.heap.size wz w1 := (alloc1 wz _).grown hg1 (by simp) (fun q eq => by have := (World.ownsRow_made wz (e := 30) #[] 0 (Nat.le_refl wz.heap.size) (Nat.zero_le _) (size := 3) rfl); exact own_base this q eq)
            have HO := Lib.hid ho1
            have HBZ := Lib.hid hb1
            have c1 : w1.cell? ⟨bk, off + k * 6 + 1, none⟩ = some (.int .i64 x0) := (hb1.cell (p := ⟨bk, _, none⟩) HBK.out).trans c1
            have c2 : w1.cell? ⟨bk, off + k * 6 + 2, none⟩ = some (.int .u64 (x1 : Int)) := (hb1.cell (p := ⟨bk, _, none⟩) HBK.out).trans c2
            have HBK1 : Hid (bk < w1.heap.size) := Lib.hid (Nat.lt_of_lt_of_le HBK.out hb1.size)
            replace HAI := Lib.hid (HAI.out.below hb1)
            have HZS := Lib.hid hzs
            have HZL := Lib.hid hzl
            obtain ⟨n, hn⟩ : ∃ n, n = (lns l).count (x0, x1) := ⟨_, rfl⟩
            have HLN := Lib.hid (lr_is (some ⟨bk, off, none⟩) cap l x0 x1 (by omega))
            rw [← hn] at HLN
            have HNC := Lib.hid hn
            clear ho1 hg1 hb1 hzs hzl hn
            go_upto_region 11 with fail
            clear htk hap
            obtain ⟨j, hjj⟩ : ∃ q, q = ks.length := ⟨_, rfl⟩
            rw [← hjj] at HO HZL ⊢
            have Hks.length := Lib.hid hjj
            have hj4 : j ≤ 400 := by omega
            clear hjj
            refine wp_region_held_drew (S := (fun W : World => W.cell? ⟨bk, off + k * 6 + 1, none⟩ = some (.int .i64 x0) ∧ W.cell? ⟨bk, off + k * 6 + 2, none⟩ = some (.int .u64 (x1 : Int)))) (by kernel_rfl) (⟨c1, c2⟩) (fun hK0 => ?_)
            refine wpAnyH_take (i := 0) (oi := { dst := some 61, op := Go.Op.move (Go.Operand.tmp 6), type := 27, pos := "ref.go:43", after := #[], guard := none }) (v := ?_) rfl (by kernel_rfl) (by kernel_rfl) (by kernel_rfl) (fun _ _ _ h => h) (Or.inl ⟨by rfl, ?_⟩) hK0 ?_
            rotate_left
            · (intro wz hSz; (try dsimp only at hSz); go_simp; try with_reducible rfl)
            simp only [Act.put, List.setIfInBounds_toArray, List.set_cons_zero, List.set_cons_succ]
            refine wpAnyH_take (i := 1) (oi := { dst := some 62, op := Go.Op.move (Go.Operand.tmp 0), type := 22, pos := "ref.go:43", after := #[], guard := none }) (v := ?_) rfl (by kernel_rfl) (by kernel_rfl) (by kernel_rfl) (fun _ _ _ h => h) (Or.inl ⟨by rfl, ?_⟩) hK0 ?_
            rotate_left
            · (intro wz hSz; (try dsimp only at hSz); go_simp; try with_reducible rfl)
            simp only [Act.put, List.setIfInBounds_toArray, List.set_cons_zero, List.set_cons_succ]
            refine wpAnyH_take (i := 2) (oi := { dst := some 63, op := Go.Op.move (Go.Operand.tmp 4), type := 3, pos := "ref.go:43", after := #[], guard := none }) (v := ?_) rfl (by kernel_rfl) (by kernel_rfl) (by kernel_rfl) (fun _ _ _ h => h) (Or.inl ⟨by rfl, ?_⟩) hK0 ?_
            rotate_left
            · (intro wz hSz; (try dsimp only at hSz); go_simp; try with_reducible rfl)
            simp only [Act.put, List.setIfInBounds_toArray, List.set_cons_zero, List.set_cons_succ]
            refine wpAnyH_take (i := 3) (oi := { dst := some 64, op := Go.Op.indexAddr 22 (Go.Operand.tmp 62) (Go.Operand.tmp 63), type := 0, pos := "ref.go:43", after := #[{ on := 1, ground := Go.Ground.data }, { on := 2, ground := Go.Ground.data }], guard := none }) (v := ?_) rfl (by kernel_rfl) (by kernel_rfl) (by kernel_rfl) (fun _ _ _ h => h) (Or.inl ⟨by rfl, ?_⟩) hK0 ?_
            rotate_left
            · (intro wz hSz; (try dsimp only at hSz); go_simp; try with_reducible rfl)
            simp only [Act.put, List.setIfInBounds_toArray, List.set_cons_zero, List.set_cons_succ]
            refine wpAnyH_take (i := 4) (oi := { dst := some 65, op := Go.Op.fieldAddr 44 (Go.Operand.tmp 64) 1, type := 0, pos := "ref.go:43", after := #[{ on := 3, ground := Go.Ground.data }], guard := none }) (v := ?_) rfl (by kernel_rfl) (by kernel_rfl) (by kernel_rfl) (fun _ _ _ h => h) (Or.inl ⟨by rfl, ?_⟩) hK0 ?_
            rotate_left
            · (intro wz hSz; (try dsimp only at hSz); go_simp; try with_reducible rfl)
            simp only [Act.put, List.setIfInBounds_toArray, List.set_cons_zero, List.set_cons_succ]
            refine wpAnyH_take (i := 5) (oi := { dst := some 66, op := Go.Op.load 25 (Go.Operand.tmp 65), type := 25, pos := "ref.go:43", after := #[{ on := 4, ground := Go.Ground.data }], guard := none }) (v := ?_) rfl (by kernel_rfl) (by kernel_rfl) (by kernel_rfl) (fun _ _ _ h => h) (Or.inl ⟨by rfl, ?_⟩) hK0 ?_
            rotate_left
            · (intro wz hSz; obtain ⟨hcz, hcz2⟩ := hSz; go_simp; try with_reducible rfl)
            simp only [Act.put, List.setIfInBounds_toArray, List.set_cons_zero, List.set_cons_succ]
            refine wpAnyH_take (i := 6) (oi := { dst := some 67, op := Go.Op.move (Go.Operand.tmp 0), type := 22, pos := "ref.go:43", after := #[], guard := none }) (v := ?_) rfl (by kernel_rfl) (by kernel_rfl) (by kernel_rfl) (fun _ _ _ h => h) (Or.inl ⟨by rfl, ?_⟩) hK0 ?_
            rotate_left
            · (intro wz hSz; (try dsimp only at hSz); go_simp; try with_reducible rfl)
            simp only [Act.put, List.setIfInBounds_toArray, List.set_cons_zero, List.set_cons_succ]
            refine wpAnyH_take (i := 7) (oi := { dst := some 68, op := Go.Op.move (Go.Operand.tmp 0), type := 22, pos := "ref.go:43", after := #[], guard := none }) (v := ?_) rfl (by kernel_rfl) (by kernel_rfl) (by kernel_rfl) (fun _ _ _ h => h) (Or.inl ⟨by rfl, ?_⟩) hK0 ?_
            rotate_left
            · (intro wz hSz; (try dsimp only at hSz); go_simp; try with_reducible rfl)
            simp only [Act.put, List.setIfInBounds_toArray, List.set_cons_zero, List.set_cons_succ]
            refine wpAnyH_take (i := 8) (oi := { dst := some 69, op := Go.Op.move (Go.Operand.tmp 4), type := 3, pos := "ref.go:43", after := #[], guard := none }) (v := ?_) rfl (by kernel_rfl) (by kernel_rfl) (by kernel_rfl) (fun _ _ _ h => h) (Or.inl ⟨by rfl, ?_⟩) hK0 ?_
            rotate_left
            · (intro wz hSz; (try dsimp only at hSz); go_simp; try with_reducible rfl)
            simp only [Act.put, List.setIfInBounds_toArray, List.set_cons_zero, List.set_cons_succ]
            refine wpAnyH_take (i := 9) (oi := { dst := some 70, op := Go.Op.indexAddr 22 (Go.Operand.tmp 68) (Go.Operand.tmp 69), type := 0, pos := "ref.go:43", after := #[{ on := 7, ground := Go.Ground.data }, { on := 8, ground := Go.Ground.data }], guard := none }) (v := ?_) rfl (by kernel_rfl) (by kernel_rfl) (by kernel_rfl) (fun _ _ _ h => h) (Or.inl ⟨by rfl, ?_⟩) hK0 ?_
            rotate_left
            · (intro wz hSz; (try dsimp only at hSz); go_simp; try with_reducible rfl)
            simp only [Act.put, List.setIfInBounds_toArray, List.set_cons_zero, List.set_cons_succ]
            refine wpAnyH_take (i := 10) (oi := { dst := some 71, op := Go.Op.fieldAddr 44 (Go.Operand.tmp 70) 1, type := 0, pos := "ref.go:43", after := #[{ on := 9, ground := Go.Ground.data }], guard := none }) (v := ?_) rfl (by kernel_rfl) (by kernel_rfl) (by kernel_rfl) (fun _ _ _ h => h) (Or.inl ⟨by rfl, ?_⟩) hK0 ?_
            rotate_left
            · (intro wz hSz; (try dsimp only at hSz); go_simp; try with_reducible rfl)
            simp only [Act.put, List.setIfInBounds_toArray, List.set_cons_zero, List.set_cons_succ]
            refine wpAnyH_take (i := 11) (oi := { dst := some 72, op := Go.Op.load 25 (Go.Operand.tmp 71), type := 25, pos := "ref.go:43", after := #[{ on := 10, ground := Go.Ground.data }], guard := none }) (v := ?_) rfl (by kernel_rfl) (by kernel_rfl) (by kernel_rfl) (fun _ _ _ h => h) (Or.inl ⟨by rfl, ?_⟩) hK0 ?_
            rotate_left
            · (intro wz hSz; obtain ⟨hcz, hcz2⟩ := hSz; go_simp; try with_reducible rfl)
            simp only [Act.put, List.setIfInBounds_toArray, List.set_cons_zero, List.set_cons_succ]
            refine wpAnyH_ready (rs := [12]) (by kernel_rfl) (by simp) ?_
            refine AllReadyH.cons (o := { dst := some 73, op := Go.Op.call { callee := Go.Callee.value (Go.Operand.func 12), args := #[Go.Operand.tmp 67, Go.Operand.tmp 72], argTypes := #[22, 25] }, type := 3, pos := "ref.go:43", after := #[{ on := 6, ground := Go.Ground.data }, { on := 11, ground := Go.Ground.data }], guard := none }) rfl (fun K hK => ?_) AllReadyH.nil
            go_simp
            with_reducible refine (HLN.out.call _ (HAI.out.below (below_drew1 w1))).mono ?_
            rintro r wq1 ⟨rfl, hbq'⟩
            go_wp2_with fail
            have hbq : Below w1.heap.size w1 wq1 := (below_drew1 w1).trans hbq'
            have hS : (fun W : World => W.cell? ⟨bk, off + k * 6 + 1, none⟩ = some (.int .i64 x0) ∧ W.cell? ⟨bk, off + k * 6 + 2, none⟩ = some (.int .u64 (x1 : Int))) wq1 := by obtain ⟨q0, q1⟩ := hK0; exact ⟨(hbq'.cell (p := ⟨bk, _, none⟩) HBK1.out).trans q0, (hbq'.cell (p := ⟨bk, _, none⟩) HBK1.out).trans q1⟩
            replace HO := Lib.hid (own_below HO.out hbq)
            replace HBZ := Lib.hid (HBZ.out.trans (hbq.mono HBZ.out.size))
            clear hbq hbq'
            refine hK.out _ _ hS (fun hK1 => ?_)
            clear hK K hS hK0
            refine wpAnyH_take (i := 13) (oi := { dst := some 74, op := Go.Op.build 30 #[(0, Go.Operand.tmp 66), (1, Go.Operand.tmp 73)], type := 30, pos := "ref.go:43", after := #[{ on := 5, ground := Go.Ground.data }, { on := 12, ground := Go.Ground.data }], guard := none }) (v := ?_) rfl (by kernel_rfl) (by kernel_rfl) (by kernel_rfl) (fun _ _ _ h => h) (Or.inl ⟨by rfl, ?_⟩) hK1 ?_
            rotate_left
            · (intro wz hSz; (try dsimp only at hSz); go_simp; try with_reducible rfl)
            simp only [Act.put, List.setIfInBounds_toArray, List.set_cons_zero, List.set_cons_succ]
            refine wpAnyH_ready (rs := [14]) (by kernel_rfl) (by simp) ?_
            refine AllReadyH.cons (o := { dst := some 75, op := Go.Op.buildSlice 27 1 #[(0, Go.Operand.tmp 74)], type := 27, pos := "ref.go:43", after := #[{ on := 13, ground := Go.Ground.data }], guard := none }) rfl (fun K hK => ?_) AllReadyH.nil
            go_simp
            obtain ⟨wq2, hwq⟩ : ∃ W : World, W = wq1.alloc (.cells #[.int .i64 x0, .int .u64 (x1 : Int), .int .i64 (n : Int)] 30) := ⟨_, rfl⟩
            rw [← hwq]
            have hbq : Below wq1.heap.size wq1 wq2 := by rw [hwq]; exact alloc1 _ _
            have hbk1 : bk < wq1.heap.size := Nat.lt_of_lt_of_le HBK.out HBZ.out.size
            have hS : (fun W : World => W.cell? ⟨bk, off + k * 6 + 1, none⟩ = some (.int .i64 x0) ∧ W.cell? ⟨bk, off + k * 6 + 2, none⟩ = some (.int .u64 (x1 : Int))) wq2 := by obtain ⟨q0, q1⟩ := hK1; exact ⟨(hbq.cell (p := ⟨bk, _, none⟩) hbk1).trans q0, (hbq.cell (p := ⟨bk, _, none⟩) hbk1).trans q1⟩
            have hg : wq2.heap[wq1.heap.size]? = some (.cells #[.int .i64 x0, .int .u64 (x1 : Int), .int .i64 (n : Int)] 30 (0, 0)) := by rw [hwq]; exact heap_alloc_new wq1 _
            obtain ⟨ga, hgn⟩ : ∃ g, g = wq1.heap.size := ⟨_, rfl⟩
            rw [← hgn] at hg ⊢
            have HGC := Lib.hid hg
            replace HO := Lib.hid (own_below HO.out hbq)
            replace HBZ := Lib.hid (HBZ.out.trans (hbq.mono HBZ.out.size))
            clear hbq hg hgn hwq hbk1
            refine hK.out _ _ hS (fun hK2 => ?_)
            clear hK K hS hK1
            refine wpAnyH_ready (rs := [15]) (by kernel_rfl) (by simp) ?_
            refine AllReadyH.cons (o := { dst := some 76, op := Go.Op.call { callee := Go.Callee.builtin Go.Builtin.append, args := #[Go.Operand.tmp 61, Go.Operand.tmp 75], argTypes := #[27, 27] }, type := 27, pos := "ref.go:43", after := #[{ on := 0, ground := Go.Ground.data }, { on := 14, ground := Go.Ground.data }, { on := 12, ground := Go.Ground.chain }], guard := none }) rfl (fun K hK => ?_) AllReadyH.nil
            have HNW := Lib.hid (World.news_of_block HGC.out)
            have H1C : Hid (∀ u ∈ ([.int .i64 x0, .int .u64 (x1 : Int), .int .i64 (n : Int)] : List Value), u.oneCell' = true) := Lib.hid (by intro u hu; simp at hu; rcases hu with rfl | rfl | rfl <;> rfl)
            have hsz : wz.heap.size ≤ wq2.heap.size := HBZ.out.size
            refine step_append_lies _ (by rfl) (.tmp 61) (.tmp 75) 27 (by rfl) wz.heap.size 30 i0 _ 3 24 Try.underlying27 hi0 hz0 hz1 hz2 rfl (by decide) v1 j (ctCells zs) (by rfl) HO.out ⟨ga, 0, none⟩ 1 1 [.int .i64 x0, .int .u64 (x1 : Int), .int .i64 (n : Int)] (by rfl) rfl HNW.out H1C.out (by omega) (by unfold maxLen; omega) (by omega) hsz _ rfl ?_
            intro gd cap3 wq3 hown3 hg3 hat3 hlt3
            have hbg : Below wz.heap.size wz wq3 := HBZ.out.grown hg3 hsz (own_base HO.out)
            have hS : (fun W : World => W.cell? ⟨bk, off + k * 6 + 1, none⟩ = some (.int .i64 x0) ∧ W.cell? ⟨bk, off + k * 6 + 2, none⟩ = some (.int .u64 (x1 : Int))) wq3 := by obtain ⟨q0, q1⟩ := hK2; exact ⟨(World.cell?_of_block (a := ⟨bk, _, none⟩) (hg3.block bk (Nat.lt_of_lt_of_le HBK.out hsz) (fun e => Nat.lt_irrefl _ (Nat.lt_of_lt_of_le HBK.out (own_base HO.out bk e.symm))))).trans q0, (World.cell?_of_block (a := ⟨bk, _, none⟩) (hg3.block bk (Nat.lt_of_lt_of_le HBK.out hsz) (fun e => Nat.lt_irrefl _ (Nat.lt_of_lt_of_le HBK.out (own_base HO.out bk e.symm))))).trans q1⟩
            have HO3 := Lib.hid hown3
            have HB3 := Lib.hid hbg
            clear hown3 hg3 hat3 hlt3 hbg HNW H1C hsz HGC
            refine hK.out _ _ hS (fun hK3 => ?_)
            clear hK K hS hK2
            refine wpAnyH_take (i := 16) (oi := { dst := some 6, op := Go.Op.assign (Go.Operand.tmp 76), type := 27, pos := "ref.go:43", after := #[{ on := 15, ground := Go.Ground.data }, { on := 15, ground := Go.Ground.chain }, { on := 0, ground := Go.Ground.phase }, { on := 1, ground := Go.Ground.phase }, { on := 2, ground := Go.Ground.phase }, { on := 3, ground := Go.Ground.phase }, { on := 4, ground := Go.Ground.phase }, { on := 5, ground := Go.Ground.phase }, { on := 6, ground := Go.Ground.phase }, { on := 7, ground := Go.Ground.phase }, { on := 8, ground := Go.Ground.phase }, { on := 9, ground := Go.Ground.phase }, { on := 10, ground := Go.Ground.phase }, { on := 11, ground := Go.Ground.phase }, { on := 12, ground := Go.Ground.phase }, { on := 13, ground := Go.Ground.phase }, { on := 14, ground := Go.Ground.phase }, { on := 15, ground := Go.Ground.phase }], guard := none }) (v := ?_) rfl (by kernel_rfl) (by kernel_rfl) (by kernel_rfl) (fun _ _ _ h => h) (Or.inl ⟨by rfl, ?_⟩) hK3 ?_
            rotate_left
            · (intro wz hSz; (try dsimp only at hSz); go_simp; try with_reducible rfl)
            simp only [Act.put, List.setIfInBounds_toArray, List.set_cons_zero, List.set_cons_succ]
            refine wpAnyH_done (by kernel_rfl) ?_ _
            have HB4 := HB3
            have e1 : (zs ++ [((x0, x1), n)]).length = j + 1 := by rw [List.length_append, HZL.out]; rfl
            have ho4 : wq3.ownsRow wz.heap.size 30 3 (.slice (some ⟨gd, 0, none⟩) (j + 1) cap3) (zs ++ [((x0, x1), n)]).length (ctCells (zs ++ [((x0, x1), n)])) := by
              rw [e1, ctCells_app]
              exact HO3.out
            have hdl : ((cs (lns l) ks).drop j).length = ks.length - j := by rw [List.length_drop, hcl]
            have hjk : j ≤ ks.length := by have := Hks.length.out; omega
            have hdr := drop_isC (B := B) (n := j) (c := c) (k := j) (Nat.le_refl _) (by have := HCX.out.r; omega) HCX.out.z
            obtain ⟨v2, w6, hap2, ho2, hg2⟩ := run_app (ys := zs ++ [((x0, x1), n)]) (zs := (cs (lns l) ks).drop j) (A2 := dropC B c j) (c2 := c - j) ho4 (cts_drop (HCX.out.below HB3.out) j) 27 (by rw [e1, hdl]; omega) HB3.out.size
            rw [hdl] at hap2
            have hd00 : ks.length - j = 0 := by have := (‹Hid (j = ks.length)›).out; omega
            rw [hd00] at hap2
            rw [Nat.sub_self] at hdr
            clear hd00
            have hb6 : Below wz.heap.size wz w6 := HB3.out.grown hg2 HB3.out.size (own_base ho4)
            go_wp2_with fail
            clear hdr hap2
            obtain ⟨B2, c2', rfl, hcx⟩ := cx_own ho2
            have e5 : zs ++ [((x0, x1), n)] ++ (cs (lns l) ks).drop j = cs (lns l) (ks.take j ++ (x0, x1) :: ks.drop j) := by rw [cs_ins, HZS.out, HNC.out, Hks.length.out]
            rw [e5] at hcx
            have e6 : (zs ++ [((x0, x1), n)] ++ (cs (lns l) ks).drop j).length = (ks.take j ++ (x0, x1) :: ks.drop j).length := by rw [e5, cs_len]
            go_roundg (l.length - (k + 1))
            case rel => exact ⟨k + 1, ks.take j ++ (x0, x1) :: ks.drop j, B2, c2', by omega, by go_num, by rw [e6], by omega, Lib.hid (by
              rw [HN.out]
              have hj' := Hks.length.out
              subst hj'
              exact HKS.out.ins HLT.out HLE.out), Lib.hid hcx, Lib.hid (HBR.out.trans (hb6.mono HBR.out.size))⟩
            case measure => omega
    · obtain rfl : k = l.length := by omega
      rw [List.take_length] at HKS
      go_wp2_with fail
      go_ret
      exact ⟨ks, HKS.out, B, c, by rw [cs_len]; rfl, HCX.out.i, HB0.out.trans (HBR.out.mono HB0.out.size)⟩
end Go.Proofs.Ytmddikabilnokaa.Ta
