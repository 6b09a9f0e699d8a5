/-
  The contract of the reference's Of (layer 5).
  What the laws of layer 5 ask of the functions that they call, in one form each.
-/
import Derived.Test.YtaejphdgfkljmaaGvc
import Derived.Test.YtaejphdgfkljmaaGvb
namespace Go.Proofs.Ytaejphdgfkljmaa.V
set_option linter.unusedVariables false
set_option linter.unusedSimpArgs false
open Go.RowKit
open T
open I (It Lb ItemsIn ItemsAt ItemsOk itCells itCells_snoc itCells_at items_cells items_own own_at own_below infoItem alloc1)

def OfEnd (w : World) (o : Lb) (h : List UInt8) (l : List It) (e : Ending) (w' : World) : Prop :=
  (∃ vl va, e = .returned (.agg #[vl, va]) ∧ w'.ownsRow w.heap.size 51 2 vl (lns h (cut o l)).length (lineCells (lns h (cut o l))) ∧ w'.ownsRow w.heap.size 3 1 va (atI o l).length (numCells (atI o l))) ∧ Below w.heap.size w w'
set_option maxRecDepth 100000 in
set_option maxHeartbeats 4000000 in
theorem rof_any (A : Option Addr) (cap : Nat) (l : List It) (o : Lb) (h : List UInt8) (w : World) (hA : ItemsIn w A l) (hok : ItemsOk l) (hn : l.length * 56 ≤ 140737488355328) :
    Calls Try.prog 15 #[.slice A l.length cap, L.lab o.1 o.2, .string ⟨h.toArray⟩] w (OfEnd w o h l) := by
  obtain ⟨i0, hi0, hz0, hz1, hz2⟩ := info_parts L.infoInt
  obtain ⟨i1, gi0, gz0, gz1, gz2⟩ := info_parts infoLine
  have HOK := Lib.hid hok
  obtain ⟨W0, hW0⟩ : ∃ W : World, W = w.alloc (.cells #[.int .i64 o.1, .int .u64 (o.2 : Int)] 25) := ⟨_, rfl⟩
  obtain ⟨W3, hW3⟩ : ∃ W : World, W = (W0.alloc (.cells #[.slice none 0 0, .slice none 0 0] 29)).alloc (.cells #[.slice none 0 0, .slice none 0 0] 29) := ⟨_, rfl⟩
  obtain ⟨b0, hb0⟩ : ∃ b, b = w.heap.size := ⟨_, rfl⟩
  have hs0 : W0.heap.size = b0 + 1 := by rw [hW0, hb0]; simp
  have HS3 := Lib.hid (show W3.heap.size = b0 + 3 by rw [hW3]; simp [hs0])
  have HB3 := Lib.hid (show Below w.heap.size w W3 by rw [hW3, hW0]; exact ((alloc1 _ _).trans ((alloc1 _ _).mono (by simp))).trans ((alloc1 _ _).mono (by simp; omega)))
  have HX0 := Lib.hid (show W3.heap[b0]? = some (.cells #[.int .i64 o.1, .int .u64 (o.2 : Int)] 25 (0, 0)) by rw [hW3, (alloc1 _ _).block b0 (by simp [hs0]; omega), (alloc1 _ _).block b0 (by simp [hs0]), hW0, hb0]; exact heap_alloc_new w _)
  have HX1 := Lib.hid (show W3.heap[b0 + 1]? = some (.cells #[.slice none 0 0, .slice none 0 0] 29 (0, 0)) by rw [hW3, (alloc1 _ _).block (b0 + 1) (by simp [hs0]), ← hs0]; exact heap_alloc_new W0 _)
  have HX2 := Lib.hid (show W3.heap[b0 + 2]? = some (.cells #[.slice none 0 0, .slice none 0 0] 29 (0, 0)) by rw [hW3]; have := heap_alloc_new (W0.alloc (.cells #[.slice none 0 0, .slice none 0 0] 29)) (.cells #[.slice none 0 0, .slice none 0 0] 29); rw [World.size_alloc, hs0] at this; exact this)
  have HA0 := Lib.hid hA
  have HA := Lib.hid (hA.below HB3.out)
  have HB0 := Lib.hid hb0
  clear hA hok hs0
  obtain ⟨f0, f1⟩ := o
  obtain ⟨hx, hhx⟩ : ∃ x : ByteArray, x = ⟨h.toArray⟩ := ⟨_, rfl⟩
  rw [← hhx]
  have HHX := Lib.hid hhx
  clear hhx
  simp only at hW0 HX0 ⊢
  go_enter Try.func15, Try.ntmps15
  go_wp2_with fail
  rw [← hb0, ← hW0, ← hW3]
  obtain ⟨vb, hvb⟩ : ∃ v, v = b0 + 1 + 1 := ⟨_, rfl⟩
  rw [← hvb]
  have HVB := Lib.hid (show vb = b0 + 2 from hvb)
  rw [← HVB.out] at HX2
  clear hW0 hW3 hb0 hvb
  go_loopg [8, 9] l.length (fun m z i wr => ∃ (k : Nat) (y : Int), k ≤ l.length ∧ i = .int .i64 k ∧ z = .int .i64 y ∧ l.length - k ≤ m ∧ Below W3.heap.size W3 wr ∧ Hid (y = lst (f0, f1) 0 (-1) (l.take k)))
  case atStart => exact ⟨0, -1, Nat.zero_le _, rfl, rfl, by omega, Below.refl _ _, Lib.hid rfl⟩
  case round =>
    obtain ⟨k, y, hk, rfl, rfl, hm, hbr, HY⟩ := hrel
    by_cases hlt : k < l.length
    · obtain ⟨bk, off, hAe, hbk, hI⟩ := HA.out (by omega)
      subst hAe
      have HI := Lib.hid ((it_at hI hbk hlt).below hbr)
      have HC := Lib.hid (rb_is (f0, f1) l[k] (HOK.out.ct _ (List.getElem_mem hlt)))
      have HN := Lib.hid (lst_take (o := (f0, f1)) hlt)
      rw [← HY.out] at HN
      obtain ⟨x0, x1⟩ := lab_cells ((hbr.block _ (L.blk_lt HX0.out)).trans HX0.out)
      have h0k : (0 : Int) ≤ (k : Int) := by omega
      have hki : (k : Int) < (l.length : Int) := by omega
      have HBR := Lib.hid hbr
      clear hI hbr HY
      generalize l[k] = u at *
      obtain ⟨b, hb⟩ : ∃ b, b = sees (f0, f1) u := ⟨_, rfl⟩
      rw [← hb] at HC HN
      clear hb
      have c1 := HI.out.c1
      have c2 := HI.out.c2
      go_wp2_with fail
      go_still_tail 6, (by kernel_rfl)
      change wpList _ _ _ _ _ (World.drew _)
      clear x0 x1 c1 c2
      go_wp2_with fail
      with_reducible refine (HC.out.call _).mono ?_
      rintro e w3 ⟨rfl, hb3'⟩
      have hb3 : Below wr.heap.size wr w3 := (Below.refl _ _).drew.trans hb3'
      replace HBR := Lib.hid (HBR.out.trans (hb3.mono HBR.out.size))
      clear hb3 hb3' HC HI
      cases b with
      | false =>
        go_wp2_with fail
        go_roundg (l.length - (k + 1))
        case rel => exact ⟨k + 1, y, by omega, by go_num, rfl, Nat.le_refl _, HBR.out, Lib.hid (by rw [HN.out]; simp)⟩
        case measure => omega
      | true =>
        go_wp2_with fail
        go_roundg (l.length - (k + 1))
        case rel => exact ⟨k + 1, (k : Int), by omega, by go_num, rfl, Nat.le_refl _, HBR.out, Lib.hid (by rw [HN.out]; simp)⟩
        case measure => omega
    · obtain rfl : k = l.length := by omega
      have HZ := Lib.hid (show y = lst (f0, f1) 0 (-1) l by rw [HY.out, List.take_length])
      have HV0 := Lib.hid (show Vw wr (vb + 1) (vb) (.slice none 0 0) (.slice none 0 0) [] [] from ⟨(hbr.block _ (L.blk_lt HX2.out)).trans HX2.out, World.ownsRow_nil _ _ _ _, World.ownsRow_nil _ _ _ _⟩)
      have HBV := Lib.hid (hbr.mono (B' := vb) (by rw [HS3.out, HVB.out]; omega))
      clear hbr HY hm hk hlt
      go_wp2_with fail
      go_loopg [10] l.length (fun m i wx => ∃ (k : Nat) (vl va : Value) (ls : List (List UInt8 × Bool)) (ts : List Int), k ≤ l.length ∧ i = .int .i64 k ∧ l.length - k ≤ m ∧ Vw wx (vb + 1) (vb) vl va ls ts ∧ Below (vb) W3 wx ∧ ls.length ≤ k ∧ ts.length ≤ k ∧ Hid (ls = rln (f0, f1) h y 0 (l.take k)) ∧ Hid (ts = atI (f0, f1) (l.take k)))
      case atStart => exact ⟨0, _, _, [], [], Nat.zero_le _, rfl, by omega, HV0.out, HBV.out, Nat.zero_le _, Nat.zero_le _, Lib.hid rfl, Lib.hid rfl⟩
      case round =>
        clear HV0 HBV
        obtain ⟨k, vl, va, ls, ts, hk, rfl, hm, hV, hbr, hll, htl, HLS, HTS⟩ := hrel
        obtain ⟨lA, lcap, rfl, -, -⟩ := own_form hV.ls
        obtain ⟨tA, tcap, rfl, -, -⟩ := own_form hV.ts
        by_cases hlt : k < l.length
        · obtain ⟨bk, off, hAe, hbk, hI⟩ := HA0.out (by omega)
          subst hAe
          have hbw : Below w.heap.size w wr := HB3.out.trans (hbr.mono (by rw [← HB0.out, HVB.out]; omega))
          have HI := Lib.hid ((it_at hI hbk hlt).below hbw)
          have HC := Lib.hid (rb_is (f0, f1) l[k] (HOK.out.ct _ (List.getElem_mem hlt)))
          have HN := Lib.hid (rln_take (o := (f0, f1)) (h := h) (z := y) hlt)
          have HM := Lib.hid (atI_take (o := (f0, f1)) hlt)
          rw [← HLS.out] at HN
          rw [← HTS.out] at HM
          obtain ⟨x0, x1⟩ := lab_cells ((hbr.block b0 (by rw [HVB.out]; omega)).trans HX0.out)
          have h0k : (0 : Int) ≤ (k : Int) := by omega
          have hki : (k : Int) < (l.length : Int) := by omega
          have HV := Lib.hid hV
          have HBR := Lib.hid hbr
          clear hI hbr HLS HTS hV hbw
          generalize l[k] = u at *
          obtain ⟨b, hb⟩ : ∃ b, b = sees (f0, f1) u := ⟨_, rfl⟩
          rw [← hb] at HC HN HM
          clear hb
          have c1 := HI.out.c1
          have c2 := HI.out.c2
          go_wp2_with fail
          go_still_tail 6, (by kernel_rfl)
          change wpList _ _ _ _ _ (World.drew _)
          clear x0 x1 c1 c2
          go_wp2_with fail
          with_reducible refine (HC.out.call _).mono ?_
          rintro e w3 ⟨rfl, hb3'⟩
          have hb3 : Below wr.heap.size wr w3 := (Below.refl _ _).drew.trans hb3'
          have hvs : vb < wr.heap.size := L.blk_lt HV.out.blk
          replace HBR := Lib.hid (HBR.out.trans (hb3.mono (by omega)))
          replace HV := Lib.hid (HV.out.below hb3)
          replace HI := Lib.hid (HI.out.below hb3)
          clear hb3 hb3' HC hvs
          cases b with
          | false =>
            go_wp2_with fail
            go_roundg (l.length - (k + 1))
            case rel => exact ⟨k + 1, _, _, ls, ts, by omega, by go_num, Nat.le_refl _, HV.out, HBR.out, by omega, by omega, Lib.hid (by rw [HN.out]; simp), Lib.hid (by rw [HM.out]; simp)⟩
            case measure => omega
          | true =>
            obtain ⟨s, hs⟩ : ∃ s : ByteArray, s = ⟨u.tx.toArray⟩ := ⟨_, rfl⟩
            have c3 := HI.out.c3
            have c4 := HI.out.c4
            have c5 := HI.out.c5
            rw [← hs] at c4
            have HS := Lib.hid hs
            clear hs
            obtain ⟨b2, hb2⟩ : ∃ b2, b2 = (decide ((k : Int) = y) && u.ba) := ⟨_, rfl⟩
            rw [← hb2] at HN
            have HB2 := Lib.hid hb2
            clear hb2
            go_upto_region 12 with fail
            go_cut [11] (fun p wx => ∃ g, p = .pointer (some ⟨g, 0, none⟩) ∧ Hid (wx.heap[g]? = some (.cells #[.string s, .bool b2] 51 (0, 0))) ∧ Hid (Below w3.heap.size w3 wx) ∧ Hid (w3.heap.size ≤ g))
            case first =>
              by_cases he : (k : Int) = y
              · have he2 : ((k : Int) == y) = true := by simpa using he
                have hb2 : b2 = u.ba := by rw [HB2.out, decide_eq_true he, Bool.true_and]
                subst hb2
                clear he
                go_wp2_with fail
                refine wp_region_held_drew (S := (Keeps w3)) (by kernel_rfl) (keeps_drew _) (fun hK0 => ?_)
                refine wpAnyH_take (i := 0) (oi := { dst := some 41, op := Go.Op.move (Go.Operand.tmp 0), type := 22, pos := "ref.go:22", after := #[], guard := none }) (v := ?_) rfl (by kernel_rfl) (by kernel_rfl) (by kernel_rfl) (fun _ _ _ h => h) (Or.inl ⟨by rfl, ?_⟩) hK0 ?_
                rotate_left
                · (intro wz hSz; (try dsimp only at hSz); go_simp; try with_reducible rfl)
                simp only [Act.put, List.setIfInBounds_toArray, List.set_cons_zero, List.set_cons_succ]
                refine wpAnyH_take (i := 1) (oi := { dst := some 42, op := Go.Op.move (Go.Operand.tmp 10), type := 3, pos := "ref.go:22", after := #[], guard := none }) (v := ?_) rfl (by kernel_rfl) (by kernel_rfl) (by kernel_rfl) (fun _ _ _ h => h) (Or.inl ⟨by rfl, ?_⟩) hK0 ?_
                rotate_left
                · (intro wz hSz; (try dsimp only at hSz); go_simp; try with_reducible rfl)
                simp only [Act.put, List.setIfInBounds_toArray, List.set_cons_zero, List.set_cons_succ]
                refine wpAnyH_take (i := 2) (oi := { dst := some 43, op := Go.Op.indexAddr 22 (Go.Operand.tmp 41) (Go.Operand.tmp 42), type := 0, pos := "ref.go:22", after := #[{ on := 0, ground := Go.Ground.data }, { on := 1, ground := Go.Ground.data }], guard := none }) (v := ?_) rfl (by kernel_rfl) (by kernel_rfl) (by kernel_rfl) (fun _ _ _ h => h) (Or.inl ⟨by rfl, ?_⟩) hK0 ?_
                rotate_left
                · (intro wz hSz; (try dsimp only at hSz); go_simp; try with_reducible rfl)
                simp only [Act.put, List.setIfInBounds_toArray, List.set_cons_zero, List.set_cons_succ]
                refine wpAnyH_take (i := 3) (oi := { dst := some 44, op := Go.Op.fieldAddr 54 (Go.Operand.tmp 43) 3, type := 0, pos := "ref.go:22", after := #[{ on := 2, ground := Go.Ground.data }], guard := none }) (v := ?_) rfl (by kernel_rfl) (by kernel_rfl) (by kernel_rfl) (fun _ _ _ h => h) (Or.inl ⟨by rfl, ?_⟩) hK0 ?_
                rotate_left
                · (intro wz hSz; (try dsimp only at hSz); go_simp; try with_reducible rfl)
                simp only [Act.put, List.setIfInBounds_toArray, List.set_cons_zero, List.set_cons_succ]
                refine wpAnyH_take (i := 4) (oi := { dst := some 45, op := Go.Op.fieldAddr 51 (Go.Operand.tmp 44) 0, type := 0, pos := "ref.go:22", after := #[{ on := 3, ground := Go.Ground.data }], guard := none }) (v := ?_) rfl (by kernel_rfl) (by kernel_rfl) (by kernel_rfl) (fun _ _ _ h => h) (Or.inl ⟨by rfl, ?_⟩) hK0 ?_
                rotate_left
                · (intro wz hSz; (try dsimp only at hSz); go_simp; try with_reducible rfl)
                simp only [Act.put, List.setIfInBounds_toArray, List.set_cons_zero, List.set_cons_succ]
                refine wpAnyH_take (i := 5) (oi := { dst := some 46, op := Go.Op.load 9 (Go.Operand.tmp 45), type := 9, pos := "ref.go:22", after := #[{ on := 4, ground := Go.Ground.data }], guard := none }) (v := ?_) rfl (by kernel_rfl) (by kernel_rfl) (by kernel_rfl) (fun _ _ _ h => h) (Or.inl ⟨by rfl, ?_⟩) hK0 ?_
                rotate_left
                · (intro wz hSz; have hcz := True.intro; have c4 := (HI.out.below hSz).c4; rw [← HS.out] at c4; go_simp; try with_reducible rfl)
                simp only [Act.put, List.setIfInBounds_toArray, List.set_cons_zero, List.set_cons_succ]
                refine wpAnyH_take (i := 6) (oi := { dst := some 47, op := Go.Op.move (Go.Operand.tmp 10), type := 3, pos := "ref.go:22", after := #[], guard := none }) (v := ?_) rfl (by kernel_rfl) (by kernel_rfl) (by kernel_rfl) (fun _ _ _ h => h) (Or.inl ⟨by rfl, ?_⟩) hK0 ?_
                rotate_left
                · (intro wz hSz; (try dsimp only at hSz); go_simp; try with_reducible rfl)
                simp only [Act.put, List.setIfInBounds_toArray, List.set_cons_zero, List.set_cons_succ]
                refine wpAnyH_take (i := 7) (oi := { dst := some 48, op := Go.Op.move (Go.Operand.tmp 8), type := 3, pos := "ref.go:22", after := #[], guard := none }) (v := ?_) rfl (by kernel_rfl) (by kernel_rfl) (by kernel_rfl) (fun _ _ _ h => h) (Or.inl ⟨by rfl, ?_⟩) hK0 ?_
                rotate_left
                · (intro wz hSz; (try dsimp only at hSz); go_simp; try with_reducible rfl)
                simp only [Act.put, List.setIfInBounds_toArray, List.set_cons_zero, List.set_cons_succ]
                refine wpAnyH_take (i := 8) (oi := { dst := some 49, op := Go.Op.binOp Go.BinOp.eql 3 (Go.Operand.tmp 47) (Go.Operand.tmp 48) 3, type := 4, pos := "ref.go:22", after := #[{ on := 6, ground := Go.Ground.data }, { on := 7, ground := Go.Ground.data }], guard := none }) (v := ?_) rfl (by kernel_rfl) (by kernel_rfl) (by kernel_rfl) (fun _ _ _ h => h) (Or.inl ⟨by rfl, ?_⟩) hK0 ?_
                rotate_left
                · (intro wz hSz; (try dsimp only at hSz); go_simp; try with_reducible rfl)
                simp only [Act.put, List.setIfInBounds_toArray, List.set_cons_zero, List.set_cons_succ]
                refine wpAnyH_take (i := 9) (oi := { dst := some 50, op := Go.Op.move (Go.Operand.tmp 49), type := 4, pos := "ref.go:22", after := #[{ on := 8, ground := Go.Ground.data }], guard := none }) (v := ?_) rfl (by kernel_rfl) (by kernel_rfl) (by kernel_rfl) (fun _ _ _ h => h) (Or.inl ⟨by rfl, ?_⟩) hK0 ?_
                rotate_left
                · (intro wz hSz; (try dsimp only at hSz); go_simp; try with_reducible rfl)
                simp only [Act.put, List.setIfInBounds_toArray, List.set_cons_zero, List.set_cons_succ]
                refine wpAnyH_take (i := 10) (oi := { dst := some 51, op := Go.Op.move (Go.Operand.tmp 0), type := 22, pos := "ref.go:22", after := #[{ on := 9, ground := Go.Ground.guard }], guard := some (9, true) }) (v := ?_) rfl (by kernel_rfl) (by kernel_rfl) (by kernel_rfl) (fun _ _ _ h => h) (Or.inl ⟨by rfl, ?_⟩) hK0 ?_
                rotate_left
                · (intro wz hSz; (try dsimp only at hSz); go_simp; try with_reducible rfl)
                simp only [Act.put, List.setIfInBounds_toArray, List.set_cons_zero, List.set_cons_succ]
                refine wpAnyH_take (i := 11) (oi := { dst := some 52, op := Go.Op.move (Go.Operand.tmp 10), type := 3, pos := "ref.go:22", after := #[{ on := 9, ground := Go.Ground.guard }], guard := some (9, true) }) (v := ?_) rfl (by kernel_rfl) (by kernel_rfl) (by kernel_rfl) (fun _ _ _ h => h) (Or.inl ⟨by rfl, ?_⟩) hK0 ?_
                rotate_left
                · (intro wz hSz; (try dsimp only at hSz); go_simp; try with_reducible rfl)
                simp only [Act.put, List.setIfInBounds_toArray, List.set_cons_zero, List.set_cons_succ]
                refine wpAnyH_take (i := 12) (oi := { dst := some 53, op := Go.Op.indexAddr 22 (Go.Operand.tmp 51) (Go.Operand.tmp 52), type := 0, pos := "ref.go:22", after := #[{ on := 10, ground := Go.Ground.data }, { on := 11, ground := Go.Ground.data }, { on := 9, ground := Go.Ground.guard }], guard := some (9, true) }) (v := ?_) rfl (by kernel_rfl) (by kernel_rfl) (by kernel_rfl) (fun _ _ _ h => h) (Or.inl ⟨by rfl, ?_⟩) hK0 ?_
                rotate_left
                · (intro wz hSz; (try dsimp only at hSz); go_simp; try with_reducible rfl)
                simp only [Act.put, List.setIfInBounds_toArray, List.set_cons_zero, List.set_cons_succ]
                refine wpAnyH_take (i := 13) (oi := { dst := some 54, op := Go.Op.fieldAddr 54 (Go.Operand.tmp 53) 3, type := 0, pos := "ref.go:22", after := #[{ on := 12, ground := Go.Ground.data }, { on := 9, ground := Go.Ground.guard }], guard := some (9, true) }) (v := ?_) rfl (by kernel_rfl) (by kernel_rfl) (by kernel_rfl) (fun _ _ _ h => h) (Or.inl ⟨by rfl, ?_⟩) hK0 ?_
                rotate_left
                · (intro wz hSz; (try dsimp only at hSz); go_simp; try with_reducible rfl)
                simp only [Act.put, List.setIfInBounds_toArray, List.set_cons_zero, List.set_cons_succ]
                refine wpAnyH_take (i := 14) (oi := { dst := some 55, op := Go.Op.fieldAddr 51 (Go.Operand.tmp 54) 1, type := 0, pos := "ref.go:22", after := #[{ on := 13, ground := Go.Ground.data }, { on := 9, ground := Go.Ground.guard }], guard := some (9, true) }) (v := ?_) rfl (by kernel_rfl) (by kernel_rfl) (by kernel_rfl) (fun _ _ _ h => h) (Or.inl ⟨by rfl, ?_⟩) hK0 ?_
                rotate_left
                · (intro wz hSz; (try dsimp only at hSz); go_simp; try with_reducible rfl)
                simp only [Act.put, List.setIfInBounds_toArray, List.set_cons_zero, List.set_cons_succ]
                refine wpAnyH_take (i := 15) (oi := { dst := some 56, op := Go.Op.load 4 (Go.Operand.tmp 55), type := 4, pos := "ref.go:22", after := #[{ on := 14, ground := Go.Ground.data }, { on := 9, ground := Go.Ground.guard }], guard := some (9, true) }) (v := ?_) rfl (by kernel_rfl) (by kernel_rfl) (by kernel_rfl) (fun _ _ _ h => h) (Or.inl ⟨by rfl, ?_⟩) hK0 ?_
                rotate_left
                · (intro wz hSz; have hcz := True.intro; have c5 := (HI.out.below hSz).c5; go_simp; try with_reducible rfl)
                simp only [Act.put, List.setIfInBounds_toArray, List.set_cons_zero, List.set_cons_succ]
                refine wpAnyH_take (i := 16) (oi := { dst := some 57, op := Go.Op.pick (Go.Operand.tmp 50) (Go.Operand.tmp 56) (Go.Operand.const (Go.Value.bool false)), type := 4, pos := "ref.go:22", after := #[{ on := 9, ground := Go.Ground.data }, { on := 15, ground := Go.Ground.data }], guard := none }) (v := ?_) rfl (by kernel_rfl) (by kernel_rfl) (by kernel_rfl) (fun _ _ _ h => h) (Or.inl ⟨by rfl, ?_⟩) hK0 ?_
                rotate_left
                · (intro wz hSz; (try dsimp only at hSz); go_simp; try with_reducible rfl)
                simp only [Act.put, List.setIfInBounds_toArray, List.set_cons_zero, List.set_cons_succ]
                refine wpAnyH_take (i := 17) (oi := { dst := some 58, op := Go.Op.build 51 #[(0, Go.Operand.tmp 46), (1, Go.Operand.tmp 57)], type := 51, pos := "ref.go:22", after := #[{ on := 5, ground := Go.Ground.data }, { on := 16, ground := Go.Ground.data }], guard := none }) (v := ?_) rfl (by kernel_rfl) (by kernel_rfl) (by kernel_rfl) (fun _ _ _ h => h) (Or.inl ⟨by rfl, ?_⟩) hK0 ?_
                rotate_left
                · (intro wz hSz; (try dsimp only at hSz); go_simp; try with_reducible rfl)
                simp only [Act.put, List.setIfInBounds_toArray, List.set_cons_zero, List.set_cons_succ]
                refine wpAnyH_ready (rs := [18]) (by kernel_rfl) (by simp) ?_
                refine AllReadyH.cons (o := { dst := some 11, op := Go.Op.alloc 51, type := 0, pos := "ref.go:22", after := #[], guard := none }) rfl (fun K hK => ?_) AllReadyH.nil
                go_simp
                obtain ⟨wq1, hwq⟩ : ∃ W : World, W = (w3.alloc (.cells #[.string ⟨#[]⟩, .bool false] 51)).drew := ⟨_, rfl⟩
                rw [← hwq]
                have HG := Lib.hid (show wq1.heap[w3.heap.size]? = some (.cells #[.string ⟨#[]⟩, .bool false] 51 (0, 0)) by rw [hwq]; exact heap_alloc_new w3 _)
                have HBQ := Lib.hid (show Below w3.heap.size w3 wq1 by rw [hwq]; exact (alloc1 _ _).drew)
                refine hK.out _ _ HBQ.out (fun hK1 => ?_)
                clear hK K hK0 hwq
                refine wpAnyH_ready (rs := [19]) (by kernel_rfl) (by simp) ?_
                refine AllReadyH.cons (o := { dst := none, op := Go.Op.store 51 (Go.Operand.tmp 11) (Go.Operand.tmp 58), type := 0, pos := "ref.go:22", after := #[{ on := 18, ground := Go.Ground.data }, { on := 17, ground := Go.Ground.data }, { on := 9, ground := Go.Ground.chain }, { on := 0, ground := Go.Ground.phase }, { on := 1, ground := Go.Ground.phase }, { on := 2, ground := Go.Ground.phase }, { on := 3, ground := Go.Ground.phase }, { on := 4, ground := Go.Ground.phase }, { on := 5, ground := Go.Ground.phase }, { on := 6, ground := Go.Ground.phase }, { on := 7, ground := Go.Ground.phase }, { on := 8, ground := Go.Ground.phase }, { on := 9, ground := Go.Ground.phase }, { on := 10, ground := Go.Ground.phase }, { on := 11, ground := Go.Ground.phase }, { on := 12, ground := Go.Ground.phase }, { on := 13, ground := Go.Ground.phase }, { on := 14, ground := Go.Ground.phase }, { on := 15, ground := Go.Ground.phase }, { on := 16, ground := Go.Ground.phase }, { on := 17, ground := Go.Ground.phase }, { on := 18, ground := Go.Ground.phase }], guard := none }) rfl (fun K hK => ?_) AllReadyH.nil
                have g0 := L.blk_cell HG.out 0
                have g1 := L.blk_cell HG.out 1
                have g2 := L.blk_free HG.out 0
                have g3 := L.blk_free HG.out 1
                go_simp
                obtain ⟨wq2, hwq⟩ : ∃ W : World, W = (wq1.setCell ⟨w3.heap.size, 0, none⟩ (.string s)).setCell ⟨w3.heap.size, 1, none⟩ (.bool u.ba) := ⟨_, rfl⟩
                rw [← hwq]
                have HGE := Lib.hid (show wq2.heap[w3.heap.size]? = some (.cells #[.string s, .bool u.ba] 51 (0, 0)) by rw [hwq]; exact L.blk_set (L.blk_set HG.out 0 _) 1 _)
                have HBE := Lib.hid (show Below w3.heap.size w3 wq2 by rw [hwq]; exact (HBQ.out.setCell (p := ⟨w3.heap.size, 0, none⟩) (Nat.le_refl _) _).setCell (p := ⟨w3.heap.size, 1, none⟩) (Nat.le_refl _) _)
                refine hK.out _ _ HBE.out (fun hK2 => ?_)
                clear hK K hK1 hwq g0 g1 g2 g3 HBQ HG
                refine wpAnyH_done (by kernel_rfl) ?_ _
                go_wp2_with fail
                go_meet
                case rel => exact ⟨w3.heap.size, rfl, HGE, HBE, Lib.hid (Nat.le_refl _)⟩
              · have he2 : ((k : Int) == y) = false := by simpa using he
                have hb2 : b2 = false := by rw [HB2.out, decide_eq_false he, Bool.false_and]
                subst hb2
                clear he
                go_wp2_with fail
                refine wp_region_held_drew (S := (Keeps w3)) (by kernel_rfl) (keeps_drew _) (fun hK0 => ?_)
                refine wpAnyH_take (i := 0) (oi := { dst := some 41, op := Go.Op.move (Go.Operand.tmp 0), type := 22, pos := "ref.go:22", after := #[], guard := none }) (v := ?_) rfl (by kernel_rfl) (by kernel_rfl) (by kernel_rfl) (fun _ _ _ h => h) (Or.inl ⟨by rfl, ?_⟩) hK0 ?_
                rotate_left
                · (intro wz hSz; (try dsimp only at hSz); go_simp; try with_reducible rfl)
                simp only [Act.put, List.setIfInBounds_toArray, List.set_cons_zero, List.set_cons_succ]
                refine wpAnyH_take (i := 1) (oi := { dst := some 42, op := Go.Op.move (Go.Operand.tmp 10), type := 3, pos := "ref.go:22", after := #[], guard := none }) (v := ?_) rfl (by kernel_rfl) (by kernel_rfl) (by kernel_rfl) (fun _ _ _ h => h) (Or.inl ⟨by rfl, ?_⟩) hK0 ?_
                rotate_left
                · (intro wz hSz; (try dsimp only at hSz); go_simp; try with_reducible rfl)
                simp only [Act.put, List.setIfInBounds_toArray, List.set_cons_zero, List.set_cons_succ]
                refine wpAnyH_take (i := 2) (oi := { dst := some 43, op := Go.Op.indexAddr 22 (Go.Operand.tmp 41) (Go.Operand.tmp 42), type := 0, pos := "ref.go:22", after := #[{ on := 0, ground := Go.Ground.data }, { on := 1, ground := Go.Ground.data }], guard := none }) (v := ?_) rfl (by kernel_rfl) (by kernel_rfl) (by kernel_rfl) (fun _ _ _ h => h) (Or.inl ⟨by rfl, ?_⟩) hK0 ?_
                rotate_left
                · (intro wz hSz; (try dsimp only at hSz); go_simp; try with_reducible rfl)
                simp only [Act.put, List.setIfInBounds_toArray, List.set_cons_zero, List.set_cons_succ]
                refine wpAnyH_take (i := 3) (oi := { dst := some 44, op := Go.Op.fieldAddr 54 (Go.Operand.tmp 43) 3, type := 0, pos := "ref.go:22", after := #[{ on := 2, ground := Go.Ground.data }], guard := none }) (v := ?_) rfl (by kernel_rfl) (by kernel_rfl) (by kernel_rfl) (fun _ _ _ h => h) (Or.inl ⟨by rfl, ?_⟩) hK0 ?_
                rotate_left
                · (intro wz hSz; (try dsimp only at hSz); go_simp; try with_reducible rfl)
                simp only [Act.put, List.setIfInBounds_toArray, List.set_cons_zero, List.set_cons_succ]
                refine wpAnyH_take (i := 4) (oi := { dst := some 45, op := Go.Op.fieldAddr 51 (Go.Operand.tmp 44) 0, type := 0, pos := "ref.go:22", after := #[{ on := 3, ground := Go.Ground.data }], guard := none }) (v := ?_) rfl (by kernel_rfl) (by kernel_rfl) (by kernel_rfl) (fun _ _ _ h => h) (Or.inl ⟨by rfl, ?_⟩) hK0 ?_
                rotate_left
                · (intro wz hSz; (try dsimp only at hSz); go_simp; try with_reducible rfl)
                simp only [Act.put, List.setIfInBounds_toArray, List.set_cons_zero, List.set_cons_succ]
                refine wpAnyH_take (i := 5) (oi := { dst := some 46, op := Go.Op.load 9 (Go.Operand.tmp 45), type := 9, pos := "ref.go:22", after := #[{ on := 4, ground := Go.Ground.data }], guard := none }) (v := ?_) rfl (by kernel_rfl) (by kernel_rfl) (by kernel_rfl) (fun _ _ _ h => h) (Or.inl ⟨by rfl, ?_⟩) hK0 ?_
                rotate_left
                · (intro wz hSz; have hcz := True.intro; have c4 := (HI.out.below hSz).c4; rw [← HS.out] at c4; go_simp; try with_reducible rfl)
                simp only [Act.put, List.setIfInBounds_toArray, List.set_cons_zero, List.set_cons_succ]
                refine wpAnyH_take (i := 6) (oi := { dst := some 47, op := Go.Op.move (Go.Operand.tmp 10), type := 3, pos := "ref.go:22", after := #[], guard := none }) (v := ?_) rfl (by kernel_rfl) (by kernel_rfl) (by kernel_rfl) (fun _ _ _ h => h) (Or.inl ⟨by rfl, ?_⟩) hK0 ?_
                rotate_left
                · (intro wz hSz; (try dsimp only at hSz); go_simp; try with_reducible rfl)
                simp only [Act.put, List.setIfInBounds_toArray, List.set_cons_zero, List.set_cons_succ]
                refine wpAnyH_take (i := 7) (oi := { dst := some 48, op := Go.Op.move (Go.Operand.tmp 8), type := 3, pos := "ref.go:22", after := #[], guard := none }) (v := ?_) rfl (by kernel_rfl) (by kernel_rfl) (by kernel_rfl) (fun _ _ _ h => h) (Or.inl ⟨by rfl, ?_⟩) hK0 ?_
                rotate_left
                · (intro wz hSz; (try dsimp only at hSz); go_simp; try with_reducible rfl)
                simp only [Act.put, List.setIfInBounds_toArray, List.set_cons_zero, List.set_cons_succ]
                refine wpAnyH_take (i := 8) (oi := { dst := some 49, op := Go.Op.binOp Go.BinOp.eql 3 (Go.Operand.tmp 47) (Go.Operand.tmp 48) 3, type := 4, pos := "ref.go:22", after := #[{ on := 6, ground := Go.Ground.data }, { on := 7, ground := Go.Ground.data }], guard := none }) (v := ?_) rfl (by kernel_rfl) (by kernel_rfl) (by kernel_rfl) (fun _ _ _ h => h) (Or.inl ⟨by rfl, ?_⟩) hK0 ?_
                rotate_left
                · (intro wz hSz; (try dsimp only at hSz); go_simp; try with_reducible rfl)
                simp only [Act.put, List.setIfInBounds_toArray, List.set_cons_zero, List.set_cons_succ]
                refine wpAnyH_take (i := 9) (oi := { dst := some 50, op := Go.Op.move (Go.Operand.tmp 49), type := 4, pos := "ref.go:22", after := #[{ on := 8, ground := Go.Ground.data }], guard := none }) (v := ?_) rfl (by kernel_rfl) (by kernel_rfl) (by kernel_rfl) (fun _ _ _ h => h) (Or.inl ⟨by rfl, ?_⟩) hK0 ?_
                rotate_left
                · (intro wz hSz; (try dsimp only at hSz); go_simp; try with_reducible rfl)
                simp only [Act.put, List.setIfInBounds_toArray, List.set_cons_zero, List.set_cons_succ]
                refine wpAnyH_take (i := 10) (oi := { dst := some 51, op := Go.Op.move (Go.Operand.tmp 0), type := 22, pos := "ref.go:22", after := #[{ on := 9, ground := Go.Ground.guard }], guard := some (9, true) }) (v := undef) rfl (by kernel_rfl) (by kernel_rfl) (by kernel_rfl) (fun _ _ _ h => h) (Or.inr ⟨by rfl, rfl⟩) hK0 ?_
                simp only [Act.put, List.setIfInBounds_toArray, List.set_cons_zero, List.set_cons_succ]
                refine wpAnyH_take (i := 11) (oi := { dst := some 52, op := Go.Op.move (Go.Operand.tmp 10), type := 3, pos := "ref.go:22", after := #[{ on := 9, ground := Go.Ground.guard }], guard := some (9, true) }) (v := undef) rfl (by kernel_rfl) (by kernel_rfl) (by kernel_rfl) (fun _ _ _ h => h) (Or.inr ⟨by rfl, rfl⟩) hK0 ?_
                simp only [Act.put, List.setIfInBounds_toArray, List.set_cons_zero, List.set_cons_succ]
                refine wpAnyH_take (i := 12) (oi := { dst := some 53, op := Go.Op.indexAddr 22 (Go.Operand.tmp 51) (Go.Operand.tmp 52), type := 0, pos := "ref.go:22", after := #[{ on := 10, ground := Go.Ground.data }, { on := 11, ground := Go.Ground.data }, { on := 9, ground := Go.Ground.guard }], guard := some (9, true) }) (v := undef) rfl (by kernel_rfl) (by kernel_rfl) (by kernel_rfl) (fun _ _ _ h => h) (Or.inr ⟨by rfl, rfl⟩) hK0 ?_
                simp only [Act.put, List.setIfInBounds_toArray, List.set_cons_zero, List.set_cons_succ]
                refine wpAnyH_take (i := 13) (oi := { dst := some 54, op := Go.Op.fieldAddr 54 (Go.Operand.tmp 53) 3, type := 0, pos := "ref.go:22", after := #[{ on := 12, ground := Go.Ground.data }, { on := 9, ground := Go.Ground.guard }], guard := some (9, true) }) (v := undef) rfl (by kernel_rfl) (by kernel_rfl) (by kernel_rfl) (fun _ _ _ h => h) (Or.inr ⟨by rfl, rfl⟩) hK0 ?_
                simp only [Act.put, List.setIfInBounds_toArray, List.set_cons_zero, List.set_cons_succ]
                refine wpAnyH_take (i := 14) (oi := { dst := some 55, op := Go.Op.fieldAddr 51 (Go.Operand.tmp 54) 1, type := 0, pos := "ref.go:22", after := #[{ on := 13, ground := Go.Ground.data }, { on := 9, ground := Go.Ground.guard }], guard := some (9, true) }) (v := undef) rfl (by kernel_rfl) (by kernel_rfl) (by kernel_rfl) (fun _ _ _ h => h) (Or.inr ⟨by rfl, rfl⟩) hK0 ?_
                simp only [Act.put, List.setIfInBounds_toArray, List.set_cons_zero, List.set_cons_succ]
                refine wpAnyH_take (i := 15) (oi := { dst := some 56, op := Go.Op.load 4 (Go.Operand.tmp 55), type := 4, pos := "ref.go:22", after := #[{ on := 14, ground := Go.Ground.data }, { on := 9, ground := Go.Ground.guard }], guard := some (9, true) }) (v := undef) rfl (by kernel_rfl) (by kernel_rfl) (by kernel_rfl) (fun _ _ _ h => h) (Or.inr ⟨by rfl, rfl⟩) hK0 ?_
                simp only [Act.put, List.setIfInBounds_toArray, List.set_cons_zero, List.set_cons_succ]
                refine wpAnyH_take (i := 16) (oi := { dst := some 57, op := Go.Op.pick (Go.Operand.tmp 50) (Go.Operand.tmp 56) (Go.Operand.const (Go.Value.bool false)), type := 4, pos := "ref.go:22", after := #[{ on := 9, ground := Go.Ground.data }, { on := 15, ground := Go.Ground.data }], guard := none }) (v := ?_) rfl (by kernel_rfl) (by kernel_rfl) (by kernel_rfl) (fun _ _ _ h => h) (Or.inl ⟨by rfl, ?_⟩) hK0 ?_
                rotate_left
                · (intro wz hSz; (try dsimp only at hSz); go_simp; try with_reducible rfl)
                simp only [Act.put, List.setIfInBounds_toArray, List.set_cons_zero, List.set_cons_succ]
                refine wpAnyH_take (i := 17) (oi := { dst := some 58, op := Go.Op.build 51 #[(0, Go.Operand.tmp 46), (1, Go.Operand.tmp 57)], type := 51, pos := "ref.go:22", after := #[{ on := 5, ground := Go.Ground.data }, { on := 16, ground := Go.Ground.data }], guard := none }) (v := ?_) rfl (by kernel_rfl) (by kernel_rfl) (by kernel_rfl) (fun _ _ _ h => h) (Or.inl ⟨by rfl, ?_⟩) hK0 ?_
                rotate_left
                · (intro wz hSz; (try dsimp only at hSz); go_simp; try with_reducible rfl)
                simp only [Act.put, List.setIfInBounds_toArray, List.set_cons_zero, List.set_cons_succ]
                refine wpAnyH_ready (rs := [18]) (by kernel_rfl) (by simp) ?_
                refine AllReadyH.cons (o := { dst := some 11, op := Go.Op.alloc 51, type := 0, pos := "ref.go:22", after := #[], guard := none }) rfl (fun K hK => ?_) AllReadyH.nil
                go_simp
                obtain ⟨wq1, hwq⟩ : ∃ W : World, W = (w3.alloc (.cells #[.string ⟨#[]⟩, .bool false] 51)).drew := ⟨_, rfl⟩
                rw [← hwq]
                have HG := Lib.hid (show wq1.heap[w3.heap.size]? = some (.cells #[.string ⟨#[]⟩, .bool false] 51 (0, 0)) by rw [hwq]; exact heap_alloc_new w3 _)
                have HBQ := Lib.hid (show Below w3.heap.size w3 wq1 by rw [hwq]; exact (alloc1 _ _).drew)
                refine hK.out _ _ HBQ.out (fun hK1 => ?_)
                clear hK K hK0 hwq
                refine wpAnyH_ready (rs := [19]) (by kernel_rfl) (by simp) ?_
                refine AllReadyH.cons (o := { dst := none, op := Go.Op.store 51 (Go.Operand.tmp 11) (Go.Operand.tmp 58), type := 0, pos := "ref.go:22", after := #[{ on := 18, ground := Go.Ground.data }, { on := 17, ground := Go.Ground.data }, { on := 9, ground := Go.Ground.chain }, { on := 0, ground := Go.Ground.phase }, { on := 1, ground := Go.Ground.phase }, { on := 2, ground := Go.Ground.phase }, { on := 3, ground := Go.Ground.phase }, { on := 4, ground := Go.Ground.phase }, { on := 5, ground := Go.Ground.phase }, { on := 6, ground := Go.Ground.phase }, { on := 7, ground := Go.Ground.phase }, { on := 8, ground := Go.Ground.phase }, { on := 9, ground := Go.Ground.phase }, { on := 10, ground := Go.Ground.phase }, { on := 11, ground := Go.Ground.phase }, { on := 12, ground := Go.Ground.phase }, { on := 13, ground := Go.Ground.phase }, { on := 14, ground := Go.Ground.phase }, { on := 15, ground := Go.Ground.phase }, { on := 16, ground := Go.Ground.phase }, { on := 17, ground := Go.Ground.phase }, { on := 18, ground := Go.Ground.phase }], guard := none }) rfl (fun K hK => ?_) AllReadyH.nil
                have g0 := L.blk_cell HG.out 0
                have g1 := L.blk_cell HG.out 1
                have g2 := L.blk_free HG.out 0
                have g3 := L.blk_free HG.out 1
                go_simp
                obtain ⟨wq2, hwq⟩ : ∃ W : World, W = (wq1.setCell ⟨w3.heap.size, 0, none⟩ (.string s)).setCell ⟨w3.heap.size, 1, none⟩ (.bool false) := ⟨_, rfl⟩
                rw [← hwq]
                have HGE := Lib.hid (show wq2.heap[w3.heap.size]? = some (.cells #[.string s, .bool false] 51 (0, 0)) by rw [hwq]; exact L.blk_set (L.blk_set HG.out 0 _) 1 _)
                have HBE := Lib.hid (show Below w3.heap.size w3 wq2 by rw [hwq]; exact (HBQ.out.setCell (p := ⟨w3.heap.size, 0, none⟩) (Nat.le_refl _) _).setCell (p := ⟨w3.heap.size, 1, none⟩) (Nat.le_refl _) _)
                refine hK.out _ _ HBE.out (fun hK2 => ?_)
                clear hK K hK1 hwq g0 g1 g2 g3 HBQ HG
                refine wpAnyH_done (by kernel_rfl) ?_ _
                go_wp2_with fail
                go_meet
                case rel => exact ⟨w3.heap.size, rfl, HGE, HBE, Lib.hid (Nat.le_refl _)⟩
            case rest =>
            obtain ⟨g, rfl, HG, HBG, HGE⟩ := hcut
            obtain ⟨an, han⟩ : ∃ an, an = u.an := ⟨_, rfl⟩
            have HAN := Lib.hid han
            have c3 := (HI.out.below HBG.out).c3
            rw [← han] at c3
            clear han c4 c5 HI
            obtain ⟨x2, hx2⟩ : ∃ x2 : ByteArray, x2 = ⟨(txt h u).toArray⟩ := ⟨_, rfl⟩
            have HX2' := Lib.hid hx2
            clear hx2
            go_upto_if 63 with fail
            go_cut [] (fun wx => Hid (wx.heap[g]? = some (.cells #[.string x2, .bool b2] 51 (0, 0))) ∧ Hid (Below w3.heap.size w3 wx))
            case first =>
              cases an with
              | true =>
                have hx2 : x2 = hx := by rw [HX2'.out, HHX.out]; unfold txt; rw [if_pos HAN.out.symm]
                subst hx2
                have g0 := L.blk_cell HG.out 0
                have g2 := L.blk_free HG.out 0
                go_wp2_with fail
                go_meet
                case rel => exact ⟨Lib.hid (L.blk_set HG.out 0 _), Lib.hid (HBG.out.setCell (p := ⟨g, 0, none⟩) HGE.out _)⟩
              | false =>
                have hx2 : x2 = s := by rw [HX2'.out, HS.out]; unfold txt; rw [if_neg (by rw [← HAN.out]; decide)]
                subst hx2
                go_wp2_with fail
                go_meet
                case rel => exact ⟨HG, HBG⟩
            case rest =>
            clear HG HBG HAN c3
            obtain ⟨HG, HBG⟩ := hcut
            have hvs3 : vb < w3.heap.size := L.blk_lt HV.out.blk
            replace HV := Lib.hid (HV.out.below HBG.out)
            replace HBR := Lib.hid (HBR.out.trans (HBG.out.mono (by omega)))
            clear HBG hvs3
            generalize wc = w5 at *
            have hvs5 : vb < w5.heap.size := L.blk_lt HV.out.blk
            have HNW := Lib.hid (World.news_of_block (w := w5.alloc (.cells #[.string x2, .bool b2] 51)) (B := w5.heap.size) (heap_alloc_new w5 (.cells #[.string x2, .bool b2] 51)))
            have HVA := Lib.hid (HV.out.below (alloc1 w5 (.cells #[.string x2, .bool b2] 51)))
            have HBA := Lib.hid (HBR.out.trans ((alloc1 w5 (.cells #[.string x2, .bool b2] 51)).mono (B' := vb) (by omega)))
            have g0 := L.blk_cell HG.out 0
            have g1 := L.blk_cell HG.out 1
            have q0 := L.blk_cell HV.out.blk 0
            go_wp2_with (at_builtin; refine wpList_append_own _ rfl (.tmp 67) (.tmp 69) 26 rfl (vb + 1) 51 i1 _ 2 24 Try.underlying26 gi0 gz0 gz1 gz2 rfl (by decide) _ ls.length (lineCells ls) rfl HVA.out.ls ⟨w5.heap.size, 0, none⟩ 1 1 [.string x2, .bool b2] rfl rfl HNW.out ?c2 ?c3 ?c4 ?c5 ?_)
            case c2 => first | exact ⟨rfl, rfl⟩ | (intro u hu; simp at hu; rcases hu with rfl | rfl <;> rfl)
            case c3 => simp only [maxLen]; omega
            case c4 => omega
            case c5 => first | omega | (simp; omega)
            intro v' w6 hown6 hg6 _
            have e1 : lineCells ls ++ [.string x2, .bool b2] = lineCells (ls ++ [(txt h u, b2)]) := by rw [lnCells_snoc, HX2'.out]
            rw [e1] at hown6
            obtain ⟨ls', hls'⟩ : ∃ q, q = ls ++ [(txt h u, b2)] := ⟨_, rfl⟩
            have hl6 : ls'.length = ls.length + 1 := by rw [hls']; simp
            rw [← hls', ← hl6] at hown6
            have HLS' := Lib.hid hls'
            have HL6 := Lib.hid hl6
            clear hls' hl6
            obtain ⟨lA', lcap', rfl, -, -⟩ := own_form hown6
            have hb6 := (hg6.block vb (L.blk_lt HVA.out.blk) (own_ne' HVA.out.ls HVA.out.noLine)).trans HVA.out.blk
            have HV6 := Lib.hid (HVA.out.lined hg6 hown6)
            have HBB6 := Lib.hid ((HBA.out.grown hg6 (by simp; omega) (fun k hk => by have := own_base HVA.out.ls k hk; omega)).setCell (p := ⟨vb, 0, none⟩) (Nat.le_refl _) (.slice lA' ls'.length lcap'))
            clear g0 g1 q0 e1
            have q0 := L.blk_cell hb6 0
            have q2 := L.blk_free hb6 0
            clear hb6 hg6 hown6 HVA HBA HNW HV HBR HG
            go_upto_region 16 with fail
            obtain ⟨w7, hw7⟩ : ∃ W : World, W = w6.setCell ⟨vb, 0, none⟩ (.slice lA' ls'.length lcap') := ⟨_, rfl⟩
            rw [← hw7]
            rw [← hw7] at HV6 HBB6
            clear hw7 q0 q2
            have hvs7 : vb < w7.heap.size := L.blk_lt HV6.out.blk
            have HVA := Lib.hid (HV6.out.below (alloc1 w7 (.cells #[.int .i64 (k : Int)] 3)))
            have HBA := Lib.hid (HBB6.out.trans ((alloc1 w7 (.cells #[.int .i64 (k : Int)] 3)).mono (B' := vb) (by omega)))
            have q1 := L.blk_cell HV6.out.blk 1
            go_wp2_with (at_builtin; refine wpList_append_own _ rfl (.tmp 73) (.tmp 75) 27 rfl (vb + 1) 3 i0 _ 1 8 Try.underlying27 hi0 hz0 hz1 hz2 rfl (by decide) _ ts.length (numCells ts) rfl HVA.out.ts ⟨w7.heap.size, 0, none⟩ 1 1 [.int .i64 (k : Int)] rfl rfl ?d1 ?d2 ?d3 ?d4 ?d5 ?_)
            case d1 => exact cell_one_new _ _ _
            case d2 => intro u hu; simp at hu; rcases hu with rfl; rfl
            case d3 => simp only [maxLen]; omega
            case d4 => omega
            case d5 => first | omega | (simp; omega)
            intro v' w8 hown8 hg8 _
            rw [← numCells_snoc] at hown8
            obtain ⟨ts', hts'⟩ : ∃ q, q = ts ++ [(k : Int)] := ⟨_, rfl⟩
            have hl8 : ts'.length = ts.length + 1 := by rw [hts']; simp
            rw [← hts', ← hl8] at hown8
            have HTS' := Lib.hid hts'
            have HL8 := Lib.hid hl8
            clear hts' hl8
            obtain ⟨tA', tcap', rfl, -, -⟩ := own_form hown8
            have hb8 := (hg8.block vb (L.blk_lt HVA.out.blk) (own_ne' HVA.out.ts HVA.out.noInt)).trans HVA.out.blk
            have HV8 := Lib.hid (HVA.out.placed hg8 hown8)
            have HBB8 := Lib.hid ((HBA.out.grown hg8 (by simp; omega) (fun k hk => by have := own_base HVA.out.ts k hk; omega)).setCell (p := ⟨vb, 1, none⟩) (Nat.le_refl _) (.slice tA' ts'.length tcap'))
            clear q1
            have q1 := L.blk_cell hb8 1
            have q3 := L.blk_free hb8 1
            clear hb8 hg8 hown8 HVA HBA HV6 HBB6
            go_wp2_with fail
            go_roundg (l.length - (k + 1))
            case rel => exact ⟨k + 1, _, _, _, _, by omega, by go_num, Nat.le_refl _, HV8.out, HBB8.out, by rw [HL6.out]; omega, by rw [HL8.out]; omega, Lib.hid (by rw [HLS'.out, HN.out]; simp), Lib.hid (by rw [HTS'.out, HM.out]; simp)⟩
            case measure => omega
        · obtain rfl : k = l.length := by omega
          have hls : ls = lns h (cut (f0, f1) l) := by rw [HLS.out, List.take_length, HZ.out]; exact rln_is (f0, f1) h l 0 (-1) (by omega)
          have hts : ts = atI (f0, f1) l := by rw [HTS.out, List.take_length]
          have hbk := (hbr.block (b0 + 1) (by rw [HVB.out]; omega)).trans HX1.out
          have r0 := L.blk_cell hbk 0
          have r1 := L.blk_cell hbk 1
          have r2 := L.blk_free hbk 0
          have r3 := L.blk_free hbk 1
          have q0 := L.blk_cell hV.blk 0
          have q1 := L.blk_cell hV.blk 1
          subst hls hts
          have HV := Lib.hid hV
          have HBR := Lib.hid hbr
          have HBK := Lib.hid hbk
          clear hV hbr hbk HLS HTS HZ hll htl
          go_wp2_with fail
          obtain ⟨wf, hwf⟩ : ∃ W : World, W = (wr.setCell ⟨b0 + 1, 0, none⟩ (.slice lA (lns h (cut (f0, f1) l)).length lcap)).setCell ⟨b0 + 1, 1, none⟩ (.slice tA (atI (f0, f1) l).length tcap) := ⟨_, rfl⟩
          rw [← hwf]
          have hfin : wf.heap[b0 + 1]? = some (.cells #[.slice lA (lns h (cut (f0, f1) l)).length lcap, .slice tA (atI (f0, f1) l).length tcap] 29 (0, 0)) := by rw [hwf]; exact L.blk_set (L.blk_set HBK.out 0 _) 1 _
          have hg1 : wr.grownBy wf (some (b0 + 1)) := by
            rw [hwf]
            exact (grown_set wr ⟨b0 + 1, 0, none⟩ _).trans (grown_set _ ⟨b0 + 1, 1, none⟩ _)
          have hbf : Below w.heap.size w wf := by
            rw [hwf]
            exact ((HB3.out.trans (HBR.out.mono (by rw [HVB.out, ← HB0.out]; omega))).setCell (p := ⟨b0 + 1, 0, none⟩) (by show w.heap.size ≤ b0 + 1; rw [← HB0.out]; omega) _).setCell (p := ⟨b0 + 1, 1, none⟩) (by show w.heap.size ≤ b0 + 1; rw [← HB0.out]; omega) _
          have hno : ∀ (e : TypeId) cs, e ≠ 29 → wr.heap[b0 + 1]? ≠ some (.cells cs e (0, 0)) := fun e cs hne hc => by
            rw [HBK.out] at hc; injection hc with hc; injection hc with _ hc; exact hne hc.symm
          have hol := HV.out.ls.kept hg1 (own_ne HV.out.ls fun cs => hno _ cs (by decide))
          have hot := HV.out.ts.kept hg1 (own_ne HV.out.ts fun cs => hno _ cs (by decide))
          have HOL := Lib.hid (own_more hol (by rw [HVB.out, ← HB0.out]; omega : w.heap.size ≤ vb + 1))
          have HOT := Lib.hid (own_more hot (by rw [HVB.out, ← HB0.out]; omega : w.heap.size ≤ vb + 1))
          have HBF := Lib.hid hbf
          obtain ⟨s0, s1⟩ := view_cells hfin
          clear r0 r1 r2 r3 q0 q1 HV HBR HBK hg1 hno hol hot hbf hfin hwf
          exact bodyPost_ret (v := .agg #[.slice lA (lns h (cut (f0, f1) l)).length lcap, .slice tA (atI (f0, f1) l).length tcap]) (by simp [results, Try.results15, go_sem, s0, s1]) rfl ⟨⟨_, _, rfl, HOL.out, HOT.out⟩, HBF.out⟩
end Go.Proofs.Ytaejphdgfkljmaa.V

namespace Go.Proofs.Ytaejphdgfkljmaa.V
set_option linter.unusedVariables false
set_option linter.unusedSimpArgs false
open Go.RowKit
open T
open I (It Lb ItemsIn ItemsAt ItemsOk itCells itCells_snoc itCells_at items_cells items_own own_at own_below infoItem alloc1)

def VoEnd (W : World) (ls : List (List UInt8 × Bool)) (ts : List Int) (e : Ending) (w' : World) : Prop :=
  ∃ LA lcap TA tcap, e = .returned (.agg #[.slice LA ls.length lcap, .slice TA ts.length tcap]) ∧ w'.ownsRow W.heap.size 51 2 (.slice LA ls.length lcap) ls.length (lineCells ls) ∧ w'.ownsRow W.heap.size 3 1 (.slice TA ts.length tcap) ts.length (numCells ts) ∧ Below W.heap.size W w'
theorem lines_own {w : World} {base : Nat} {A : Option Addr} {cap : Nat} {xs : List (List UInt8 × Bool)} (h : w.ownsRow base 51 2 (.slice A xs.length cap) xs.length (lineCells xs)) : LinesIn w A xs := by
  obtain ⟨A', cap', hv, _, hI⟩ := lines_of_own h
  injection hv with e1
  subst e1
  exact hI
/-- A row of a call's own stays when a cell of a block of another type is stored. -/
theorem own_stored {w : World} {base g i : Nat} {u : Value} {e e' : TypeId} {size n : Nat} {v : Value} {xs : List Value} {cs : Array Value} (h : w.ownsRow base e size v n xs) (hg : w.heap[g]? = some (.cells cs e' (0, 0))) (hne : e' ≠ e) : (w.setCell ⟨g, i, none⟩ u).ownsRow base e size v n xs :=
  h.kept (grown_set w ⟨g, i, none⟩ u) (own_ne h fun cs' he => by rw [hg] at he; injection he with he; injection he with _ he; exact hne he)
/-- Of: a view of these lines and places. -/
def VoC (fn : FuncId) (A : Option Addr) (n cap : Nat) (f0 : Int) (f1 : Nat) (hx : ByteArray) (l : List It) (ls : List (List UInt8 × Bool)) (ts : List Int) : Prop :=
  ∀ W : World, ItemsIn W A l → Calls Try.prog fn #[.slice A n cap, .agg #[.int .i64 f0, .int .u64 (f1 : Int)], .string hx] W (VoEnd W ls ts)
theorem VoC.at {fn : FuncId} {A : Option Addr} {n cap : Nat} {f0 : Int} {f1 : Nat} {hx : ByteArray} {l : List It} {ls : List (List UInt8 × Bool)} {ts : List Int} (h : VoC fn A n cap f0 f1 hx l ls ts) (W : World) (h1 : ItemsIn W A l) :
    Calls Try.prog fn #[.slice A n cap, .agg #[.int .i64 f0, .int .u64 (f1 : Int)], .string hx] W (VoEnd W ls ts) := h W h1
def LvC (fn : FuncId) : Prop := ∀ W : World, Calls Try.prog fn #[] W fun e w' => e = .returned (.bool true) ∧ Below W.heap.size W w'
theorem LvC.at {fn : FuncId} (h : LvC fn) (W : World) : Calls Try.prog fn #[] W fun e w' => e = .returned (.bool true) ∧ Below W.heap.size W w' := h W
/-- same, of two views of the same lines and places. -/
def SvC (fn : FuncId) (ls : List (List UInt8 × Bool)) (ts : List Int) : Prop := ∀ (W : World) (LA TA LB TB : Option Addr) (lc tc lc' tc' : Nat), LinesIn W LA ls → IntsIn W TA ts → LinesIn W LB ls → IntsIn W TB ts →
  Calls Try.prog fn #[.agg #[.slice LA ls.length lc, .slice TA ts.length tc], .agg #[.slice LB ls.length lc', .slice TB ts.length tc']] W fun e w' => e = .returned (.bool true) ∧ Below W.heap.size W w'
theorem SvC.at {fn : FuncId} {ls : List (List UInt8 × Bool)} {ts : List Int} (h : SvC fn ls ts) (W : World) {LA TA LB TB : Option Addr} {lc tc lc' tc' : Nat} (h1 : LinesIn W LA ls) (h2 : IntsIn W TA ts) (h3 : LinesIn W LB ls) (h4 : IntsIn W TB ts) :
  Calls Try.prog fn #[.agg #[.slice LA ls.length lc, .slice TA ts.length tc], .agg #[.slice LB ls.length lc', .slice TB ts.length tc']] W fun e w' => e = .returned (.bool true) ∧ Below W.heap.size W w' := h W LA TA LB TB lc tc lc' tc' h1 h2 h3 h4
def BsEnd (W : World) (b : List UInt8) (e : Ending) (w' : World) : Prop := ∃ A cap, e = .returned (.slice A b.length cap) ∧ BytesIn w' A b ∧ Below W.heap.size W w'
/-- Text, of a view. -/
def TxC (fn : FuncId) (ls : List (List UInt8 × Bool)) (b : List UInt8) : Prop := ∀ (W : World) (LA TA : Option Addr) (lc tn tc : Nat), LinesIn W LA ls → Calls Try.prog fn #[.agg #[.slice LA ls.length lc, .slice TA tn tc]] W (BsEnd W b)
theorem TxC.at {fn : FuncId} {ls : List (List UInt8 × Bool)} {b : List UInt8} (h : TxC fn ls b) (W : World) {LA TA : Option Addr} {lc tn tc : Nat} (h1 : LinesIn W LA ls) : Calls Try.prog fn #[.agg #[.slice LA ls.length lc, .slice TA tn tc]] W (BsEnd W b) := h W LA TA lc tn tc h1
/-- Join, of lines. -/
def JnC (fn : FuncId) (ls : List (List UInt8 × Bool)) (b : List UInt8) : Prop := ∀ (W : World) (LA : Option Addr) (lc : Nat), LinesIn W LA ls → Calls Try.prog fn #[.slice LA ls.length lc] W (BsEnd W b)
theorem JnC.at {fn : FuncId} {ls : List (List UInt8 × Bool)} {b : List UInt8} (h : JnC fn ls b) (W : World) {LA : Option Addr} {lc : Nat} (h1 : LinesIn W LA ls) : Calls Try.prog fn #[.slice LA ls.length lc] W (BsEnd W b) := h W LA lc h1
def NsEnd (W : World) (ds : List Int) (e : Ending) (w' : World) : Prop := ∃ A cap, e = .returned (.slice A ds.length cap) ∧ IntsIn w' A ds ∧ Below W.heap.size W w'
/-- IDs, of a view. -/
def IdC (fn : FuncId) (A : Option Addr) (n cap : Nat) (l : List It) (ts ds : List Int) : Prop := ∀ (W : World) (LA TA : Option Addr) (ln lc tc : Nat), ItemsIn W A l → IntsIn W TA ts → Calls Try.prog fn #[.slice A n cap, .agg #[.slice LA ln lc, .slice TA ts.length tc]] W (NsEnd W ds)
theorem IdC.at {fn : FuncId} {A : Option Addr} {n cap : Nat} {l : List It} {ts ds : List Int} (h : IdC fn A n cap l ts ds) (W : World) {LA TA : Option Addr} {ln lc tc : Nat} (h1 : ItemsIn W A l) (h2 : IntsIn W TA ts) :
    Calls Try.prog fn #[.slice A n cap, .agg #[.slice LA ln lc, .slice TA ts.length tc]] W (NsEnd W ds) := h W LA TA ln lc tc h1 h2
/-- Ints, of the same numbers. -/
def InC (fn : FuncId) (ds : List Int) : Prop := ∀ (W : World) (A B : Option Addr) (c c' : Nat), IntsIn W A ds → IntsIn W B ds → Calls Try.prog fn #[.slice A ds.length c, .slice B ds.length c'] W fun e w' => e = .returned (.bool true) ∧ Below W.heap.size W w'
theorem InC.at {fn : FuncId} {ds : List Int} (h : InC fn ds) (W : World) {A B : Option Addr} {c c' : Nat} (h1 : IntsIn W A ds) (h2 : IntsIn W B ds) : Calls Try.prog fn #[.slice A ds.length c, .slice B ds.length c'] W fun e w' => e = .returned (.bool true) ∧ Below W.heap.size W w' := h W A B c c' h1 h2
def IsEnd (W : World) (c : List It) (e : Ending) (w' : World) : Prop := ∃ A cap, e = .returned (.slice A c.length cap) ∧ ItemsIn w' A c ∧ Below W.heap.size W w'
/-- Cut. -/
def CuC (fn : FuncId) (A : Option Addr) (n cap : Nat) (f0 : Int) (f1 : Nat) (l c : List It) : Prop := ∀ W : World, ItemsIn W A l → Calls Try.prog fn #[.slice A n cap, .agg #[.int .i64 f0, .int .u64 (f1 : Int)]] W (IsEnd W c)
theorem CuC.at {fn : FuncId} {A : Option Addr} {n cap : Nat} {f0 : Int} {f1 : Nat} {l c : List It} (h : CuC fn A n cap f0 f1 l c) (W : World) (h1 : ItemsIn W A l) : Calls Try.prog fn #[.slice A n cap, .agg #[.int .i64 f0, .int .u64 (f1 : Int)]] W (IsEnd W c) := h W h1
/-- sameItems, of the same items. -/
def SiC (fn : FuncId) (ds : List It) : Prop := ∀ (W : World) (A B : Option Addr) (c c' : Nat), ItemsIn W A ds → ItemsIn W B ds → Calls Try.prog fn #[.slice A ds.length c, .slice B ds.length c'] W fun e w' => e = .returned (.bool true) ∧ Below W.heap.size W w'
theorem SiC.at {fn : FuncId} {ds : List It} (h : SiC fn ds) (W : World) {A B : Option Addr} {c c' : Nat} (h1 : ItemsIn W A ds) (h2 : ItemsIn W B ds) : Calls Try.prog fn #[.slice A ds.length c, .slice B ds.length c'] W fun e w' => e = .returned (.bool true) ∧ Below W.heap.size W w' := h W A B c c' h1 h2

theorem field_view0 (A : Option Addr) (n c : Nat) (B : Option Addr) (m d : Nat) (wz : World) : (Instr.field 29 (.agg #[.slice A n c, .slice B m d]) 0).run Try.prog wz = .ok (.slice A n c) wz := by kernel_rfl
/-- sameItems, of any items. -/
def SgC (fn : FuncId) (xs ys : List It) (b : Bool) : Prop := ∀ (W : World) (A B : Option Addr) (c c' : Nat), ItemsIn W A xs → ItemsIn W B ys → Calls Try.prog fn #[.slice A xs.length c, .slice B ys.length c'] W fun e w' => e = .returned (.bool b) ∧ Below W.heap.size W w'
theorem SgC.at {fn : FuncId} {xs ys : List It} {b : Bool} (h : SgC fn xs ys b) (W : World) {A B : Option Addr} {c c' : Nat} (h1 : ItemsIn W A xs) (h2 : ItemsIn W B ys) : Calls Try.prog fn #[.slice A xs.length c, .slice B ys.length c'] W fun e w' => e = .returned (.bool b) ∧ Below W.heap.size W w' := h W A B c c' h1 h2
theorem sg_is (xs ys : List It) (hx : xs.length ≤ maxLen) : SgC 23 xs ys (decide (xs = ys)) := fun W A B c c' h1 h2 => sameItems_any A B c c' xs ys W hx h1 h2
/-- The first place that is n, counted from a number on. -/
def fnd (n : Int) : Nat → List Int → Option Nat
  | _, [] => none
  | k, x :: r => if x = n then some k else fnd n (k + 1) r
def fndK (o : Option Nat) : Int := match o with | some i => (i : Int) | none => 0
theorem fnd_drop {n : Int} {ts : List Int} {j : Nat} (hj : j < ts.length) : fnd n j (ts.drop j) = if ts[j] = n then some j else fnd n (j + 1) (ts.drop (j + 1)) := by
  rw [List.drop_eq_getElem_cons hj, fnd]
/-- Is i no place where an item can be put in? -/
def aftNo (ts : List Int) (n : Int) : Bool := decide (n < 0) || decide ((ts.length : Int) < n) || (decide (0 < n) && (decide (ts.getD (n - 1).toNat 0 < 0) || decide (1073741824 ≤ ts.getD (n - 1).toNat 0)))
/-- Where an item is put in ahead of line n, and an error. -/
def aftK (ts : List Int) (n : Int) : Int := if aftNo ts n = true then 0 else if 0 < n then ts.getD (n - 1).toNat 0 + 1 else 0
def aftE (ts : List Int) (n : Int) : Int := if aftNo ts n = true then 2 else 0
def FdC (fn : FuncId) (ts : List Int) (n k : Int) (b : Bool) : Prop := ∀ (W : World) (LA TA : Option Addr) (ln lc tc : Nat), IntsIn W TA ts → Calls Try.prog fn #[.agg #[.slice LA ln lc, .slice TA ts.length tc], .int .i64 n] W fun e w' => e = .returned (.tuple #[.int .i64 k, .bool b]) ∧ Below W.heap.size W w'
theorem FdC.at {fn : FuncId} {ts : List Int} {n k : Int} {b : Bool} (h : FdC fn ts n k b) (W : World) {LA TA : Option Addr} {ln lc tc : Nat} (h1 : IntsIn W TA ts) : Calls Try.prog fn #[.agg #[.slice LA ln lc, .slice TA ts.length tc], .int .i64 n] W fun e w' => e = .returned (.tuple #[.int .i64 k, .bool b]) ∧ Below W.heap.size W w' := h W LA TA ln lc tc h1
def AfC (fn : FuncId) (ts : List Int) (n k r : Int) : Prop := ∀ (W : World) (LA TA : Option Addr) (ln lc tc : Nat), IntsIn W TA ts → Calls Try.prog fn #[.agg #[.slice LA ln lc, .slice TA ts.length tc], .int .i64 n] W fun e w' => e = .returned (.tuple #[.int .i64 k, .int .i64 r]) ∧ Below W.heap.size W w'
theorem AfC.at {fn : FuncId} {ts : List Int} {n k r : Int} (h : AfC fn ts n k r) (W : World) {LA TA : Option Addr} {ln lc tc : Nat} (h1 : IntsIn W TA ts) : Calls Try.prog fn #[.agg #[.slice LA ln lc, .slice TA ts.length tc], .int .i64 n] W fun e w' => e = .returned (.tuple #[.int .i64 k, .int .i64 r]) ∧ Below W.heap.size W w' := h W LA TA ln lc tc h1
/-- What the reference does, in these forms. -/
theorem rvo_is (A : Option Addr) (cap : Nat) (l : List It) (o : Lb) (h : List UInt8) (hok : ItemsOk l) (hn : l.length * 56 ≤ 140737488355328) : VoC 15 A l.length cap o.1 o.2 ⟨h.toArray⟩ l (lns h (cut o l)) (atI o l) := fun W h1 =>
  (rof_any A cap l o h W h1 hok hn).mono fun e w' ⟨⟨vl, va, he, hol, hot⟩, hb⟩ => by
    obtain ⟨LA, lcap, rfl, -, -⟩ := own_form hol
    obtain ⟨TA, tcap, rfl, -, -⟩ := own_form hot
    exact ⟨LA, lcap, TA, tcap, he, hol, hot, hb⟩
theorem rid_is (A : Option Addr) (cap : Nat) (l : List It) (ts : List Int) (hl : l.length ≤ maxLen) (hn : ts.length * 8 ≤ 140737488355328) : IdC 22 A l.length cap l ts (ids l ts) := fun W LA TA ln lc tc h1 h2 =>
  (rids_any A cap l LA ln lc TA tc ts W h1 hl h2 hn).mono fun e w' ⟨⟨v, he, ho⟩, hb⟩ => by
    obtain ⟨A', cap', rfl, -, -⟩ := own_form ho
    exact ⟨A', cap', he, ints_own ho, hb⟩
theorem rcu_is (A : Option Addr) (cap : Nat) (l : List It) (o : Lb) (hok : ItemsOk l) (hn : l.length * 56 ≤ 140737488355328) : CuC 25 A l.length cap o.1 o.2 l (cut o l) := fun W h1 =>
  (rcut_any A cap l o W h1 hok hn).mono fun e w' ⟨⟨v, he, ho⟩, hb⟩ => by
    obtain ⟨A', cap', rfl, -, -⟩ := own_form ho
    exact ⟨A', cap', he, items_own ho, hb⟩
theorem rin_is (ds : List Int) (hd : ds.length ≤ maxLen) : InC 20 ds := fun W A B c c' h1 h2 =>
  (rints_any A B c c' ds ds W hd h1 h2).mono fun e w' h => ⟨by rw [h.1, decide_eq_true rfl], h.2⟩
theorem si_is (ds : List It) (hd : ds.length ≤ maxLen) : SiC 23 ds := fun W A B c c' h1 h2 =>
  (sameItems_any A B c c' ds ds W hd h1 h2).mono fun e w' h => ⟨by rw [h.1, decide_eq_true rfl], h.2⟩
theorem rjn_is (ls : List (List UInt8 × Bool)) (hb : P.bulk ls ≤ 70368744177664) : JnC 19 ls (P.join ls) := fun W LA lc h1 =>
  (refJoin_any LA lc ls W hb h1).mono fun e w' he => by
    obtain ⟨v, he, ho, hb'⟩ := he
    obtain ⟨A', cap', rfl, -, hI⟩ := bytes_of_own ho
    exact ⟨A', cap', he, hI, hb'⟩
def SlC (ls : List (List UInt8 × Bool)) : Prop := ∀ (W : World) (A B : Option Addr) (c c' : Nat), LinesIn W A ls → LinesIn W B ls → Calls Try.prog 28 #[.slice A ls.length c, .slice B ls.length c'] W fun e w' => e = .returned (.bool true) ∧ Below W.heap.size W w'
theorem SlC.at {ls : List (List UInt8 × Bool)} (h : SlC ls) (W : World) {A B : Option Addr} {c c' : Nat} (h1 : LinesIn W A ls) (h2 : LinesIn W B ls) : Calls Try.prog 28 #[.slice A ls.length c, .slice B ls.length c'] W fun e w' => e = .returned (.bool true) ∧ Below W.heap.size W w' := h W A B c c' h1 h2

set_option maxRecDepth 100000 in
set_option maxHeartbeats 2000000 in
theorem same_walk {ls : List (List UInt8 × Bool)} {ts : List Int} (HS : Hid (SlC ls)) (HN : Hid (InC 20 ts)) : SvC 17 ls ts := fun W LA TA LB TB lc tc lc' tc' h1 h2 h3 h4 => by
  obtain ⟨W0, hW0⟩ : ∃ W0 : World, W0 = (W.alloc (.cells #[.slice LA ls.length lc, .slice TA ts.length tc] 29)).alloc (.cells #[.slice LB ls.length lc', .slice TB ts.length tc'] 29) := ⟨_, rfl⟩
  have HB := Lib.hid (show Below W.heap.size W W0 by rw [hW0]; exact (alloc1 _ _).alloc (by simp) _)
  have HP := Lib.hid (show W0.heap[W.heap.size]? = some (.cells #[.slice LA ls.length lc, .slice TA ts.length tc] 29 (0, 0)) by rw [hW0]; exact (L.two_blocks W _ _).1)
  have HQ := Lib.hid (show W0.heap[W.heap.size + 1]? = some (.cells #[.slice LB ls.length lc', .slice TB ts.length tc'] 29 (0, 0)) by rw [hW0]; exact (L.two_blocks W _ _).2)
  have H1 := Lib.hid (h1.below HB.out)
  have H2 := Lib.hid (h2.below HB.out)
  have H3 := Lib.hid (h3.below HB.out)
  have H4 := Lib.hid (h4.below HB.out)
  clear h1 h2 h3 h4
  obtain ⟨x0, x1⟩ := view_cells HP.out
  obtain ⟨y0, y1⟩ := view_cells HQ.out
  rw [hW0] at x0 x1 y0 y1
  go_enter Try.func17, Try.ntmps17
  go_wp2_with fail
  rw [← hW0]
  clear hW0 x0 x1 y0 y1
  with_reducible refine (HS.out.at W0 H1.out H3.out).mono ?_
  rintro e w1 ⟨rfl, hb1⟩
  obtain ⟨x0, x1⟩ := view_cells ((hb1.block _ (L.blk_lt HP.out)).trans HP.out)
  obtain ⟨y0, y1⟩ := view_cells ((hb1.block _ (L.blk_lt HQ.out)).trans HQ.out)
  replace H2 := Lib.hid (H2.out.below hb1)
  replace H4 := Lib.hid (H4.out.below hb1)
  replace HB := Lib.hid (HB.out.trans (hb1.mono HB.out.size))
  clear hb1 HS H1 H3 HP HQ
  go_wp2_with fail
  with_reducible refine (HN.out.at w1 H2.out H4.out).mono ?_
  rintro e w2 ⟨rfl, hb2⟩
  replace HB := Lib.hid (HB.out.trans (hb2.mono HB.out.size))
  clear hb2 HN H2 H4 x0 x1 y0 y1
  go_wp2_with fail
  go_ret
  exact ⟨rfl, HB.out⟩
theorem sv_is (ls : List (List UInt8 × Bool)) (ts : List Int) (hl : ls.length ≤ maxLen) (ht : ts.length ≤ maxLen) : SvC 17 ls ts :=
  same_walk (Lib.hid fun W A B c c' h1 h2 => T.same_any A B c c' ls W hl h1 h2) (Lib.hid (rin_is ts ht))
end Go.Proofs.Ytaejphdgfkljmaa.V
