/-
  The law AuditBlind.
-/
import Derived.Test.YtbfohfmipfapdaaDoorGLawAuPlays
import Derived.StillTailTactics
import Derived.BigQuiet
import Derived.Deep.RegionHeld3
namespace Go.Proofs.YtbfohfmipfapdaaDoor.Au
set_option linter.unusedVariables false
set_option linter.unusedSimpArgs false
open Go.RowKit
open T
open V (drawn_below grown_of RbC RbC.call)
open I (alloc1 own_at own_below)

set_option maxRecDepth 100000 in
set_option maxHeartbeats 8000000 in
theorem ablind_yes {w : World} {A : Option Addr} {c : Nat} {l ls lz : List Et} {a0 o0 : Int} {a1 o1 k : Nat} {t : List UInt8} (HT : Hid (Tab w)) (HL : Hid (EtsIn w A l)) (hl : l.length ≤ 9223372036854775807) (HCT : Hid (∀ (k : Nat) (h : k < l.length), RbC l[k].lv o0 l[k].ct o1 (blE o0 o1 l[k])))
    (HPL : Hid (∀ W, EtsIn W A l → Calls Tryd.prog 7 #[.slice A l.length c] W fun e w' => ∃ bx yb, e = .returned (.tuple #[.pointer (some ⟨bx, 0, none⟩), .pointer (some ⟨yb, 0, none⟩), .bool true]) ∧ LgR w' 52 bx ls ∧ LgR w' 50 yb ls ∧ Below W.heap.size W w'))
    (HPF : Hid (∀ W B d ys, ys = seen o0 o1 (l.take 60) → EtsIn W B ys → Calls Tryd.prog 7 #[.slice B ys.length d] W fun e w' => ∃ bx yb, e = .returned (.tuple #[.pointer (some ⟨bx, 0, none⟩), .pointer (some ⟨yb, 0, none⟩), .bool true]) ∧ LgR w' 52 bx lz ∧ LgR w' 50 yb lz ∧ Below W.heap.size W w'))
    (HPR : Hid (∀ bx, PrC 52 15 bx ls o0 o1 t)) (HPZ : Hid (∀ bx, PrC 52 15 bx lz o0 o1 t)) (HRB : Hid (RbC a0 o0 a1 o1 true)) (HOF : Hid (∀ bx, OfC 9 52 bx ls a0 a1 k)) (HOZ : Hid (∀ bx, OfC 9 52 bx lz a0 a1 k)) :
    Calls Tryd.prog 4 #[.slice A l.length c, .agg #[.int .i64 o0, .int .u64 (o1 : Int)], .agg #[.int .i64 a0, .int .u64 (a1 : Int)]] w fun e w' => e = .returned (.bool true) ∧ Below w.heap.size w w' := by
  obtain ⟨i0, hi0, hz0, hz1, hz2⟩ := info_parts infoEt
  obtain ⟨W0, hW0, hB0, hO0, hA0⟩ := two_labels w o0 a0 o1 a1
  have HP0 := Lib.hid (HPL.out W0 (HL.out.below hB0))
  have HL0 := Lib.hid (HL.out.below hB0)
  have HB0 := Lib.hid hB0
  have HT0 := Lib.hid (HT.out.later hB0)
  have HA0 := Lib.hid hA0
  have HO0 := Lib.hid hO0
  have HN := Lib.hid (fun (k : Nat) (h : k < l.length) => seen_take o0 o1 h)
  have HNL := Lib.hid (fun (k : Nat) => show (seen o0 o1 (l.take k)).length ≤ k from Nat.le_trans (seen_len _ _ _) (by rw [List.length_take]; omega))
  clear hB0 hA0 hO0 HPL HL HT
  go_enter Tryd.func4, Tryd.ntmps4
  go_upto_region 1 with fail
  try simp only [World.size_alloc]
  rw [← hW0]
  clear hW0
  obtain ⟨bo, hbo⟩ : ∃ q, q = w.heap.size := ⟨_, rfl⟩
  obtain ⟨ba, hba⟩ : ∃ q, q = w.heap.size + 1 := ⟨_, rfl⟩
  rw [← hbo] at HO0
  rw [← hba] at HA0 ⊢
  rw [← hbo]
  clear hba hbo
  go_wp2_with fail
  with_reducible refine HP0.out.mono ?_
  rintro e w1 ⟨bx, yb, rfl, hx, hy, hb1⟩
  have HL1 := Lib.hid (HL0.out.below hb1)
  have HB1 := Lib.hid (HB0.out.trans (hb1.mono HB0.out.size))
  have HT1 := Lib.hid (HT0.out.later hb1)
  have HA1 := Lib.hid ((hb1.block _ (L.blk_lt HA0.out)).trans HA0.out)
  have HO1 := Lib.hid ((hb1.block _ (L.blk_lt HO0.out)).trans HO0.out)
  have HX1 := Lib.hid hx
  clear hx hy hb1 HP0 HB0 HT0 HA0 HO0 HL0
  go_wp2_with fail
  go_loopg [10, 11] l.length (fun q v i wr => ∃ (k : Nat) (ys : List Et), k ≤ l.length ∧ k ≤ 60 ∧ i = .int .i64 k ∧ l.length - k ≤ q ∧ Hid (wr.ownsRow w1.heap.size 40 6 v ys.length (etCells ys)) ∧ Hid (ys = seen o0 o1 (l.take k)) ∧ Hid (Below w1.heap.size w1 wr))
  case atStart => exact ⟨0, [], Nat.zero_le _, by omega, rfl, by omega, Lib.hid (World.ownsRow_nil _ _ _ _), Lib.hid (by simp [seen]), Lib.hid (Below.refl _ _)⟩
  case round =>
    obtain ⟨k, ys, hk, hk6, rfl, hm, HO, HY, HBR⟩ := hrel
    by_cases hlt : k < l.length ∧ k < 60
    · obtain ⟨hlt, hk60⟩ := hlt
      obtain ⟨bk, off, hAe, hbk, c0, c1, c2, c3, c4, c5⟩ := et_at (HL1.out.below HBR.out) hlt
      subst hAe
      have h0k : (0 : Int) ≤ (k : Int) := by omega
      have hki : (k : Int) < (l.length : Int) := by omega
      have hk6i : (k : Int) < 60 := by omega
      have HNK := Lib.hid (HN.out k hlt)
      rw [← HY.out] at HNK
      have hyl : ys.length ≤ 60 := by rw [HY.out]; exact Nat.le_trans (HNL.out k) hk6
      have HBK := Lib.hid (HCT.out k hlt)
      obtain ⟨e, he⟩ : ∃ e, e = l[k]'hlt := ⟨_, rfl⟩
      rw [← he] at c0 c1 c2 c3 c4 c5 HNK HBK
      clear he HY
      obtain ⟨us, x0, x1, ve, fi, oc⟩ := e
      simp only at c0 c1 c2 c3 c4 c5 HBK
      obtain ⟨bv, hbv⟩ : ∃ q, q = blE o0 o1 ⟨us, x0, x1, ve, fi, oc⟩ := ⟨_, rfl⟩
      rw [← hbv] at HNK HBK
      clear hbv
      obtain ⟨y0, y1⟩ := lab_cells ((HBR.out.block _ (L.blk_lt HO1.out)).trans HO1.out)
      have HC : Hid (wr.cell? ⟨bk, off + k * 6, none⟩ = some (.string us) ∧ wr.cell? ⟨bk, off + k * 6 + 1, none⟩ = some (.int .i64 x0) ∧ wr.cell? ⟨bk, off + k * 6 + 2, none⟩ = some (.int .u64 (x1 : Int)) ∧ wr.cell? ⟨bk, off + k * 6 + 3, none⟩ = some (.string ve) ∧ wr.cell? ⟨bk, off + k * 6 + 4, none⟩ = some (.string fi) ∧ wr.cell? ⟨bk, off + k * 6 + 5, none⟩ = some (.string oc)) := Lib.hid ⟨c0, c1, c2, c3, c4, c5⟩
      clear c0 c3 c4 c5
      go_upto_region 6 with fail
      go_still_tail 6, (by kernel_rfl)
      change wpList _ _ _ _ _ (World.drew _)
      clear y0 y1 c1 c2
      go_wp2_with fail
      with_reducible refine (HBK.out.call _).mono ?_
      rintro z w2 ⟨rfl, hb2'⟩
      have hb2 : Below wr.heap.size wr w2 := (Below.refl _ _).drew.trans hb2'
      have HB2 := Lib.hid (HBR.out.trans (hb2.mono HBR.out.size))
      have HO2 := Lib.hid (own_below HO.out hb2)
      obtain ⟨c0', c1', c2', c3', c4', c5'⟩ := HC.out
      have c0 := (hb2.cell (p := ⟨bk, off + k * 6, none⟩) hbk).trans c0'
      have c1 := (hb2.cell (p := ⟨bk, off + k * 6 + 1, none⟩) hbk).trans c1'
      have c2 := (hb2.cell (p := ⟨bk, off + k * 6 + 2, none⟩) hbk).trans c2'
      have c3 := (hb2.cell (p := ⟨bk, off + k * 6 + 3, none⟩) hbk).trans c3'
      have c4 := (hb2.cell (p := ⟨bk, off + k * 6 + 4, none⟩) hbk).trans c4'
      have c5 := (hb2.cell (p := ⟨bk, off + k * 6 + 5, none⟩) hbk).trans c5'
      clear HO HBR HBK hb2 hb2' HC c0' c1' c2' c3' c4' c5'
      cases bv with
      | false =>
        go_wp2_with fail
        go_roundg (l.length - (k + 1))
        case rel => exact ⟨k + 1, ys, by omega, by omega, by go_num, Nat.le_refl _, HO2, Lib.hid (by rw [HNK.out]; simp), HB2⟩
        case measure => omega
      | true =>
        have HOA := Lib.hid (World.ownsRow.alloc HO2.out (.cells #[.string us, .int .i64 x0, .int .u64 (x1 : Int), .string ve, .string fi, .string oc] 40))
        have HNW := Lib.hid (World.news_of_block (w := w2.alloc (.cells #[.string us, .int .i64 x0, .int .u64 (x1 : Int), .string ve, .string fi, .string oc] 40)) (heap_alloc_new w2 _))
        have hbs := HB2.out.size
        go_wp2_with (at_builtin; refine wpList_append_own _ rfl (.tmp 38) (.tmp 43) 22 rfl w1.heap.size 40 i0 _ 6 80 Tryd.underlying22 hi0 hz0 hz1 hz2 rfl (by decide) _ ys.length (etCells ys) rfl HOA.out ⟨w2.heap.size, 0, none⟩ 1 1 (etCells [⟨us, x0, x1, ve, fi, oc⟩]) rfl rfl HNW.out (etCells_one _) ?c3 ?c4 ?c5 ?_)
        case c3 => unfold maxLen; omega
        case c4 => omega
        case c5 => simp; omega
        intro v' w4 hown4 hg4 _
        have HG4 := Lib.hid ((grown_of (alloc1 w2 (.cells #[.string us, .int .i64 x0, .int .u64 (x1 : Int), .string ve, .string fi, .string oc] 40)) _).trans hg4)
        have HB4 : Hid (Below w1.heap.size w1 w4) := Lib.hid (HB2.out.grown HG4.out hbs (own_base HO2.out))
        rw [show ys.length + 1 = (ys ++ [(⟨us, x0, x1, ve, fi, oc⟩ : Et)]).length by simp, show etCells ys ++ etCells [(⟨us, x0, x1, ve, fi, oc⟩ : Et)] = etCells (ys ++ [⟨us, x0, x1, ve, fi, oc⟩]) by simp [etCells]] at hown4
        have HO4 := Lib.hid hown4
        clear hown4 hg4
        go_wp2_with fail
        go_roundg (l.length - (k + 1))
        case rel => exact ⟨k + 1, ys ++ [⟨us, x0, x1, ve, fi, oc⟩], by omega, by omega, by go_num, Nat.le_refl _, HO4, Lib.hid (by rw [HNK.out]; simp), HB4⟩
        case measure => omega
    · have he : l.take k = l.take 60 := by
        rcases Nat.lt_or_ge k l.length with h | h
        · rw [show k = 60 by omega]
        · rw [List.take_of_length_le h, List.take_of_length_le (show l.length ≤ 60 by omega)]
      obtain ⟨B, d, rfl, -, -⟩ := own_form HO.out
      have HPZ2 := Lib.hid (HPF.out wr B d ys (by rw [HY.out, he]) (ets_own HO.out))
      have HB := Lib.hid (HB1.out.trans (HBR.out.mono HB1.out.size))
      have HT := Lib.hid (HT1.out.later HBR.out)
      have HA := Lib.hid ((HBR.out.block _ (L.blk_lt HA1.out)).trans HA1.out)
      have HOB := Lib.hid ((HBR.out.block _ (L.blk_lt HO1.out)).trans HO1.out)
      have HX := Lib.hid (HX1.out.below HBR.out)
      clear he HPF HO HY HBR HB1 HT1 HA1 HO1 HX1 HL1 HN HNL HCT
      have hk2 : (¬ (k : Int) < (l.length : Int)) ∨ ((k : Int) < (l.length : Int) ∧ ¬ (k : Int) < 60) := by omega
      rcases hk2 with hk3 | ⟨hk3, hk4⟩
      · skip
        go_upto_region 8 with fail
        go_wp2_with fail
        with_reducible refine HPZ2.out.mono ?_
        rintro e w3 ⟨bz, yz, rfl, hz, hy, hb3⟩
        replace HPR := Lib.hid (HPR.out bx)
        replace HPZ := Lib.hid (HPZ.out bz)
        replace HOF := Lib.hid (HOF.out bx)
        replace HOZ := Lib.hid (HOZ.out bz)
        replace HB := Lib.hid (HB.out.trans (hb3.mono HB.out.size))
        replace HT := Lib.hid (HT.out.later hb3)
        replace HA := Lib.hid ((hb3.block _ (L.blk_lt HA.out)).trans HA.out)
        have HO := Lib.hid ((hb3.block _ (L.blk_lt HOB.out)).trans HOB.out)
        replace HX := Lib.hid (HX.out.below hb3)
        have HZ := Lib.hid hz
        clear hz hy hb3 HPZ2 HOB
        go_upto_region 11 with fail
        refine wp_region_held_drew (S := (Keeps w3)) (by kernel_rfl) (keeps_drew _) (fun hH0 => ?_)
        refine wpAnyH_ready (rs := [0]) (by kernel_rfl) (by simp) ?_
        refine AllReadyH.cons (o := { dst := some 57, op := Go.Op.call { callee := Go.Callee.value (Go.Operand.func 8), args := #[], argTypes := #[] }, type := 4, pos := "law.go:51", after := #[], guard := none }) rfl (fun K hK => ?_) AllReadyH.nil
        go_simp
        with_reducible refine (live20 _ (HT.out.later hH0.b)).mono ?_
        rintro r wq1 ⟨rfl, hbq⟩
        go_wp2_with fail
        refine hK.out _ _ (Keeps.trans hH0 hbq) (fun hJ => ?_)
        refine wpAnyH_more (S' := Keeps wq1) (fun z hz => Keeps.trans hJ hz) _ _ _ _ ?_
        replace HB := Lib.hid (HB.out.trans (Below.mono hJ HB.out.size))
        replace HT := Lib.hid (HT.out.later hJ)
        replace HA := Lib.hid ((Below.block hJ _ (L.blk_lt HA.out)).trans HA.out)
        replace HO := Lib.hid ((Below.block hJ _ (L.blk_lt HO.out)).trans HO.out)
        replace HX := Lib.hid (HX.out.below hJ)
        replace HZ := Lib.hid (HZ.out.below hJ)
        have hH1 : Keeps wq1 wq1 := Below.refl _ _
        clear hK K hbq hH0 hJ
        refine wpAnyH_take (i := 1) (oi := { dst := some 58, op := Go.Op.move (Go.Operand.tmp 57), type := 4, pos := "law.go:51", after := #[{ on := 0, ground := Go.Ground.data }, { on := 0, ground := Go.Ground.chain }], guard := none }) (v := ?_) rfl (by kernel_rfl) (by kernel_rfl) (by kernel_rfl) (fun _ _ _ h => h) (Or.inl ⟨by rfl, ?_⟩) hH1 ?_
        rotate_left
        · (intro wz hSz; (try dsimp only at hSz); go_simp; try with_reducible rfl)
        simp only [Act.put, List.setIfInBounds_toArray, List.set_cons_zero, List.set_cons_succ]
        refine wpAnyH_take (i := 2) (oi := { dst := some 59, op := Go.Op.move (Go.Operand.tmp 7), type := 26, pos := "law.go:51", after := #[{ on := 1, ground := Go.Ground.guard }], guard := some (1, true) }) (v := ?_) rfl (by kernel_rfl) (by kernel_rfl) (by kernel_rfl) (fun _ _ _ h => h) (Or.inl ⟨by rfl, ?_⟩) hH1 ?_
        rotate_left
        · (intro wz hSz; (try dsimp only at hSz); go_simp; try with_reducible rfl)
        simp only [Act.put, List.setIfInBounds_toArray, List.set_cons_zero, List.set_cons_succ]
        refine wpAnyH_take (i := 3) (oi := { dst := some 60, op := Go.Op.load 25 (Go.Operand.tmp 4), type := 25, pos := "law.go:51", after := #[{ on := 1, ground := Go.Ground.guard }], guard := some (1, true) }) (v := ?_) rfl (by kernel_rfl) (by kernel_rfl) (by kernel_rfl) (fun _ _ _ h => h) (Or.inl ⟨by rfl, ?_⟩) hH1 ?_
        rotate_left
        · (intro wz hSz; have hcz := True.intro; obtain ⟨c0, c1⟩ := lab_cells ((Below.block hSz _ (L.blk_lt HO.out)).trans HO.out); go_simp; try with_reducible rfl)
        simp only [Act.put, List.setIfInBounds_toArray, List.set_cons_zero, List.set_cons_succ]
        refine wpAnyH_take (i := 6) (oi := { dst := some 63, op := Go.Op.move (Go.Operand.tmp 12), type := 26, pos := "law.go:51", after := #[{ on := 1, ground := Go.Ground.guard }], guard := some (1, true) }) (v := ?_) rfl (by kernel_rfl) (by kernel_rfl) (by kernel_rfl) (fun _ _ _ h => h) (Or.inl ⟨by rfl, ?_⟩) hH1 ?_
        rotate_left
        · (intro wz hSz; (try dsimp only at hSz); go_simp; try with_reducible rfl)
        simp only [Act.put, List.setIfInBounds_toArray, List.set_cons_zero, List.set_cons_succ]
        refine wpAnyH_take (i := 7) (oi := { dst := some 64, op := Go.Op.load 25 (Go.Operand.tmp 4), type := 25, pos := "law.go:51", after := #[{ on := 1, ground := Go.Ground.guard }], guard := some (1, true) }) (v := ?_) rfl (by kernel_rfl) (by kernel_rfl) (by kernel_rfl) (fun _ _ _ h => h) (Or.inl ⟨by rfl, ?_⟩) hH1 ?_
        rotate_left
        · (intro wz hSz; have hcz := True.intro; obtain ⟨c0, c1⟩ := lab_cells ((Below.block hSz _ (L.blk_lt HO.out)).trans HO.out); go_simp; try with_reducible rfl)
        simp only [Act.put, List.setIfInBounds_toArray, List.set_cons_zero, List.set_cons_succ]
        refine wpAnyH_ready (rs := [4]) (by kernel_rfl) (by simp) ?_
        refine AllReadyH.cons (o := { dst := some 61, op := Go.Op.call { callee := Go.Callee.value (Go.Operand.func 15), args := #[Go.Operand.tmp 59, Go.Operand.tmp 60], argTypes := #[26, 25] }, type := 35, pos := "law.go:51", after := #[{ on := 2, ground := Go.Ground.data }, { on := 3, ground := Go.Ground.data }, { on := 1, ground := Go.Ground.chain }, { on := 1, ground := Go.Ground.guard }], guard := some (1, true) }) rfl (fun K hK => ?_) AllReadyH.nil
        go_simp
        with_reducible refine (HPR.out.at (HX.out.below hH1.b) (HT.out.later hH1.b)).mono ?_
        rintro r wq2 ⟨PB, pc, rfl, HP1, hbq⟩
        go_wp2_with fail
        refine hK.out _ _ (Keeps.trans hH1 hbq) (fun hJ => ?_)
        refine wpAnyH_more (S' := Keeps wq2) (fun z hz => Keeps.trans hJ hz) _ _ _ _ ?_
        replace HB := Lib.hid (HB.out.trans (Below.mono hJ HB.out.size))
        replace HT := Lib.hid (HT.out.later hJ)
        replace HA := Lib.hid ((Below.block hJ _ (L.blk_lt HA.out)).trans HA.out)
        replace HO := Lib.hid ((Below.block hJ _ (L.blk_lt HO.out)).trans HO.out)
        replace HX := Lib.hid (HX.out.below hJ)
        replace HZ := Lib.hid (HZ.out.below hJ)
        replace HP1 := Lib.hid HP1
        have hH2 : Keeps wq2 wq2 := Below.refl _ _
        clear hK K hbq hH1 hJ
        refine wpAnyH_take (i := 5) (oi := { dst := some 62, op := Go.Op.convert 35 9 (Go.Operand.tmp 61), type := 9, pos := "law.go:51", after := #[{ on := 4, ground := Go.Ground.data }, { on := 1, ground := Go.Ground.guard }], guard := some (1, true) }) (v := ?_) rfl (by kernel_rfl) (by kernel_rfl) (by kernel_rfl) (fun _ _ _ h => h) (Or.inl ⟨by rfl, ?_⟩) hH2 ?_
        rotate_left
        · (intro wz hSz; have hcz := conv_in pc (HP1.out.below hSz); go_simp; try with_reducible rfl)
        simp only [Act.put, List.setIfInBounds_toArray, List.set_cons_zero, List.set_cons_succ]
        refine wpAnyH_ready (rs := [8]) (by kernel_rfl) (by simp) ?_
        refine AllReadyH.cons (o := { dst := some 65, op := Go.Op.call { callee := Go.Callee.value (Go.Operand.func 15), args := #[Go.Operand.tmp 63, Go.Operand.tmp 64], argTypes := #[26, 25] }, type := 35, pos := "law.go:51", after := #[{ on := 6, ground := Go.Ground.data }, { on := 7, ground := Go.Ground.data }, { on := 4, ground := Go.Ground.chain }, { on := 1, ground := Go.Ground.guard }], guard := some (1, true) }) rfl (fun K hK => ?_) AllReadyH.nil
        go_simp
        with_reducible refine (HPZ.out.at (HZ.out.below hH2.b) (HT.out.later hH2.b)).mono ?_
        rintro r wq3 ⟨QB, qc, rfl, HP2, hbq⟩
        go_wp2_with fail
        refine hK.out _ _ (Keeps.trans hH2 hbq) (fun hJ => ?_)
        refine wpAnyH_more (S' := Keeps wq3) (fun z hz => Keeps.trans hJ hz) _ _ _ _ ?_
        replace HB := Lib.hid (HB.out.trans (Below.mono hJ HB.out.size))
        replace HT := Lib.hid (HT.out.later hJ)
        replace HA := Lib.hid ((Below.block hJ _ (L.blk_lt HA.out)).trans HA.out)
        replace HO := Lib.hid ((Below.block hJ _ (L.blk_lt HO.out)).trans HO.out)
        replace HX := Lib.hid (HX.out.below hJ)
        replace HZ := Lib.hid (HZ.out.below hJ)
        replace HP1 := Lib.hid (HP1.out.below hJ)
        replace HP2 := Lib.hid HP2
        have hH3 : Keeps wq3 wq3 := Below.refl _ _
        clear hK K hbq hH2 hJ
        refine wpAnyH_take (i := 9) (oi := { dst := some 66, op := Go.Op.convert 35 9 (Go.Operand.tmp 65), type := 9, pos := "law.go:51", after := #[{ on := 8, ground := Go.Ground.data }, { on := 1, ground := Go.Ground.guard }], guard := some (1, true) }) (v := ?_) rfl (by kernel_rfl) (by kernel_rfl) (by kernel_rfl) (fun _ _ _ h => h) (Or.inl ⟨by rfl, ?_⟩) hH3 ?_
        rotate_left
        · (intro wz hSz; have hcz := conv_in qc (HP2.out.below hSz); go_simp; try with_reducible rfl)
        simp only [Act.put, List.setIfInBounds_toArray, List.set_cons_zero, List.set_cons_succ]
        refine wpAnyH_take (i := 10) (oi := { dst := some 67, op := Go.Op.binOp Go.BinOp.eql 9 (Go.Operand.tmp 62) (Go.Operand.tmp 66) 9, type := 4, pos := "law.go:51", after := #[{ on := 5, ground := Go.Ground.data }, { on := 9, ground := Go.Ground.data }, { on := 1, ground := Go.Ground.guard }], guard := some (1, true) }) (v := ?_) rfl (by kernel_rfl) (by kernel_rfl) (by kernel_rfl) (fun _ _ _ h => h) (Or.inl ⟨by rfl, ?_⟩) hH3 ?_
        rotate_left
        · (intro wz hSz; (try dsimp only at hSz); go_simp; try with_reducible rfl)
        simp only [Act.put, List.setIfInBounds_toArray, List.set_cons_zero, List.set_cons_succ]
        refine wpAnyH_take (i := 11) (oi := { dst := some 68, op := Go.Op.pick (Go.Operand.tmp 58) (Go.Operand.tmp 67) (Go.Operand.const (Go.Value.bool false)), type := 4, pos := "law.go:51", after := #[{ on := 1, ground := Go.Ground.data }, { on := 10, ground := Go.Ground.data }], guard := none }) (v := ?_) rfl (by kernel_rfl) (by kernel_rfl) (by kernel_rfl) (fun _ _ _ h => h) (Or.inl ⟨by rfl, ?_⟩) hH3 ?_
        rotate_left
        · (intro wz hSz; (try dsimp only at hSz); go_simp; try with_reducible rfl)
        simp only [Act.put, List.setIfInBounds_toArray, List.set_cons_zero, List.set_cons_succ]
        refine wpAnyH_take (i := 12) (oi := { dst := some 69, op := Go.Op.move (Go.Operand.tmp 68), type := 4, pos := "law.go:51", after := #[{ on := 11, ground := Go.Ground.data }, { on := 8, ground := Go.Ground.chain }], guard := none }) (v := ?_) rfl (by kernel_rfl) (by kernel_rfl) (by kernel_rfl) (fun _ _ _ h => h) (Or.inl ⟨by rfl, ?_⟩) hH3 ?_
        rotate_left
        · (intro wz hSz; (try dsimp only at hSz); go_simp; try with_reducible rfl)
        simp only [Act.put, List.setIfInBounds_toArray, List.set_cons_zero, List.set_cons_succ]
        refine wpAnyH_take (i := 13) (oi := { dst := some 70, op := Go.Op.load 25 (Go.Operand.tmp 5), type := 25, pos := "law.go:51", after := #[{ on := 12, ground := Go.Ground.guard }], guard := some (12, true) }) (v := ?_) rfl (by kernel_rfl) (by kernel_rfl) (by kernel_rfl) (fun _ _ _ h => h) (Or.inl ⟨by rfl, ?_⟩) hH3 ?_
        rotate_left
        · (intro wz hSz; have hcz := True.intro; obtain ⟨c0, c1⟩ := lab_cells ((Below.block hSz _ (L.blk_lt HA.out)).trans HA.out); go_simp; try with_reducible rfl)
        simp only [Act.put, List.setIfInBounds_toArray, List.set_cons_zero, List.set_cons_succ]
        refine wpAnyH_take (i := 14) (oi := { dst := some 71, op := Go.Op.load 25 (Go.Operand.tmp 4), type := 25, pos := "law.go:51", after := #[{ on := 12, ground := Go.Ground.guard }], guard := some (12, true) }) (v := ?_) rfl (by kernel_rfl) (by kernel_rfl) (by kernel_rfl) (fun _ _ _ h => h) (Or.inl ⟨by rfl, ?_⟩) hH3 ?_
        rotate_left
        · (intro wz hSz; have hcz := True.intro; obtain ⟨c0, c1⟩ := lab_cells ((Below.block hSz _ (L.blk_lt HO.out)).trans HO.out); go_simp; try with_reducible rfl)
        simp only [Act.put, List.setIfInBounds_toArray, List.set_cons_zero, List.set_cons_succ]
        refine wpAnyH_ready (rs := [15]) (by kernel_rfl) (by simp) ?_
        refine AllReadyH.cons (o := { dst := some 72, op := Go.Op.call { callee := Go.Callee.value (Go.Operand.func 17), args := #[Go.Operand.tmp 70, Go.Operand.tmp 71], argTypes := #[25, 25] }, type := 4, pos := "law.go:51", after := #[{ on := 13, ground := Go.Ground.data }, { on := 14, ground := Go.Ground.data }, { on := 12, ground := Go.Ground.chain }, { on := 12, ground := Go.Ground.guard }], guard := some (12, true) }) rfl (fun K hK => ?_) AllReadyH.nil
        go_simp
        with_reducible refine (HRB.out.call _).mono ?_
        rintro r wq4 ⟨rfl, hbq⟩
        go_wp2_with fail
        refine hK.out _ _ (Keeps.trans hH3 hbq) (fun hJ => ?_)
        refine wpAnyH_more (S' := Keeps wq4) (fun z hz => Keeps.trans hJ hz) _ _ _ _ ?_
        replace HB := Lib.hid (HB.out.trans (Below.mono hJ HB.out.size))
        replace HT := Lib.hid (HT.out.later hJ)
        replace HA := Lib.hid ((Below.block hJ _ (L.blk_lt HA.out)).trans HA.out)
        replace HO := Lib.hid ((Below.block hJ _ (L.blk_lt HO.out)).trans HO.out)
        replace HX := Lib.hid (HX.out.below hJ)
        replace HZ := Lib.hid (HZ.out.below hJ)
        replace HP1 := Lib.hid (HP1.out.below hJ)
        replace HP2 := Lib.hid (HP2.out.below hJ)
        have hH4 : Keeps wq4 wq4 := Below.refl _ _
        clear hK K hbq hH3 hJ
        refine wpAnyH_take (i := 16) (oi := { dst := some 73, op := Go.Op.unOp Go.UnOp.not 4 (Go.Operand.tmp 72), type := 4, pos := "law.go:51", after := #[{ on := 15, ground := Go.Ground.data }, { on := 12, ground := Go.Ground.guard }], guard := some (12, true) }) (v := ?_) rfl (by kernel_rfl) (by kernel_rfl) (by kernel_rfl) (fun _ _ _ h => h) (Or.inl ⟨by rfl, ?_⟩) hH4 ?_
        rotate_left
        · (intro wz hSz; (try dsimp only at hSz); go_simp; try with_reducible rfl)
        simp only [Act.put, List.setIfInBounds_toArray, List.set_cons_zero, List.set_cons_succ]
        refine wpAnyH_take (i := 17) (oi := { dst := some 74, op := Go.Op.move (Go.Operand.tmp 73), type := 4, pos := "law.go:51", after := #[{ on := 16, ground := Go.Ground.data }, { on := 15, ground := Go.Ground.chain }, { on := 12, ground := Go.Ground.guard }], guard := some (12, true) }) (v := ?_) rfl (by kernel_rfl) (by kernel_rfl) (by kernel_rfl) (fun _ _ _ h => h) (Or.inl ⟨by rfl, ?_⟩) hH4 ?_
        rotate_left
        · (intro wz hSz; (try dsimp only at hSz); go_simp; try with_reducible rfl)
        simp only [Act.put, List.setIfInBounds_toArray, List.set_cons_zero, List.set_cons_succ]
        refine wpAnyH_take (i := 18) (oi := { dst := some 75, op := Go.Op.move (Go.Operand.tmp 7), type := 26, pos := "law.go:51", after := #[{ on := 17, ground := Go.Ground.guard }], guard := some (17, false) }) (v := ?_) rfl (by kernel_rfl) (by kernel_rfl) (by kernel_rfl) (fun _ _ _ h => h) (Or.inl ⟨by rfl, ?_⟩) hH4 ?_
        rotate_left
        · (intro wz hSz; (try dsimp only at hSz); go_simp; try with_reducible rfl)
        simp only [Act.put, List.setIfInBounds_toArray, List.set_cons_zero, List.set_cons_succ]
        refine wpAnyH_take (i := 19) (oi := { dst := some 76, op := Go.Op.load 25 (Go.Operand.tmp 5), type := 25, pos := "law.go:51", after := #[{ on := 17, ground := Go.Ground.guard }], guard := some (17, false) }) (v := ?_) rfl (by kernel_rfl) (by kernel_rfl) (by kernel_rfl) (fun _ _ _ h => h) (Or.inl ⟨by rfl, ?_⟩) hH4 ?_
        rotate_left
        · (intro wz hSz; have hcz := True.intro; obtain ⟨c0, c1⟩ := lab_cells ((Below.block hSz _ (L.blk_lt HA.out)).trans HA.out); go_simp; try with_reducible rfl)
        simp only [Act.put, List.setIfInBounds_toArray, List.set_cons_zero, List.set_cons_succ]
        refine wpAnyH_take (i := 21) (oi := { dst := some 78, op := Go.Op.move (Go.Operand.tmp 12), type := 26, pos := "law.go:51", after := #[{ on := 17, ground := Go.Ground.guard }], guard := some (17, false) }) (v := ?_) rfl (by kernel_rfl) (by kernel_rfl) (by kernel_rfl) (fun _ _ _ h => h) (Or.inl ⟨by rfl, ?_⟩) hH4 ?_
        rotate_left
        · (intro wz hSz; (try dsimp only at hSz); go_simp; try with_reducible rfl)
        simp only [Act.put, List.setIfInBounds_toArray, List.set_cons_zero, List.set_cons_succ]
        refine wpAnyH_take (i := 22) (oi := { dst := some 79, op := Go.Op.load 25 (Go.Operand.tmp 5), type := 25, pos := "law.go:51", after := #[{ on := 17, ground := Go.Ground.guard }], guard := some (17, false) }) (v := ?_) rfl (by kernel_rfl) (by kernel_rfl) (by kernel_rfl) (fun _ _ _ h => h) (Or.inl ⟨by rfl, ?_⟩) hH4 ?_
        rotate_left
        · (intro wz hSz; have hcz := True.intro; obtain ⟨c0, c1⟩ := lab_cells ((Below.block hSz _ (L.blk_lt HA.out)).trans HA.out); go_simp; try with_reducible rfl)
        simp only [Act.put, List.setIfInBounds_toArray, List.set_cons_zero, List.set_cons_succ]
        refine wpAnyH_ready (rs := [20]) (by kernel_rfl) (by simp) ?_
        refine AllReadyH.cons (o := { dst := some 77, op := Go.Op.call { callee := Go.Callee.value (Go.Operand.func 9), args := #[Go.Operand.tmp 75, Go.Operand.tmp 76], argTypes := #[26, 25] }, type := 3, pos := "law.go:51", after := #[{ on := 18, ground := Go.Ground.data }, { on := 19, ground := Go.Ground.data }, { on := 17, ground := Go.Ground.chain }, { on := 17, ground := Go.Ground.guard }], guard := some (17, false) }) rfl (fun K hK => ?_) AllReadyH.nil
        go_simp
        with_reducible refine (HOF.out.at (HX.out.below hH4.b)).mono ?_
        rintro r wq5 ⟨rfl, hbq⟩
        go_wp2_with fail
        refine hK.out _ _ (Keeps.trans hH4 hbq) (fun hJ => ?_)
        refine wpAnyH_more (S' := Keeps wq5) (fun z hz => Keeps.trans hJ hz) _ _ _ _ ?_
        replace HB := Lib.hid (HB.out.trans (Below.mono hJ HB.out.size))
        replace HT := Lib.hid (HT.out.later hJ)
        replace HA := Lib.hid ((Below.block hJ _ (L.blk_lt HA.out)).trans HA.out)
        replace HO := Lib.hid ((Below.block hJ _ (L.blk_lt HO.out)).trans HO.out)
        replace HX := Lib.hid (HX.out.below hJ)
        replace HZ := Lib.hid (HZ.out.below hJ)
        replace HP1 := Lib.hid (HP1.out.below hJ)
        replace HP2 := Lib.hid (HP2.out.below hJ)
        have hH5 : Keeps wq5 wq5 := Below.refl _ _
        clear hK K hbq hH4 hJ
        refine wpAnyH_ready (rs := [23]) (by kernel_rfl) (by simp) ?_
        refine AllReadyH.cons (o := { dst := some 80, op := Go.Op.call { callee := Go.Callee.value (Go.Operand.func 9), args := #[Go.Operand.tmp 78, Go.Operand.tmp 79], argTypes := #[26, 25] }, type := 3, pos := "law.go:51", after := #[{ on := 21, ground := Go.Ground.data }, { on := 22, ground := Go.Ground.data }, { on := 20, ground := Go.Ground.chain }, { on := 17, ground := Go.Ground.guard }], guard := some (17, false) }) rfl (fun K hK => ?_) AllReadyH.nil
        go_simp
        with_reducible refine (HOZ.out.at (HZ.out.below hH5.b)).mono ?_
        rintro r wq6 ⟨rfl, hbq⟩
        go_wp2_with fail
        refine hK.out _ _ (Keeps.trans hH5 hbq) (fun hJ => ?_)
        refine wpAnyH_more (S' := Keeps wq6) (fun z hz => Keeps.trans hJ hz) _ _ _ _ ?_
        replace HB := Lib.hid (HB.out.trans (Below.mono hJ HB.out.size))
        replace HT := Lib.hid (HT.out.later hJ)
        replace HA := Lib.hid ((Below.block hJ _ (L.blk_lt HA.out)).trans HA.out)
        replace HO := Lib.hid ((Below.block hJ _ (L.blk_lt HO.out)).trans HO.out)
        replace HX := Lib.hid (HX.out.below hJ)
        replace HZ := Lib.hid (HZ.out.below hJ)
        replace HP1 := Lib.hid (HP1.out.below hJ)
        replace HP2 := Lib.hid (HP2.out.below hJ)
        have hH6 : Keeps wq6 wq6 := Below.refl _ _
        clear hK K hbq hH5 hJ
        refine wpAnyH_take (i := 24) (oi := { dst := some 81, op := Go.Op.binOp Go.BinOp.eql 3 (Go.Operand.tmp 77) (Go.Operand.tmp 80) 3, type := 4, pos := "law.go:51", after := #[{ on := 20, ground := Go.Ground.data }, { on := 23, ground := Go.Ground.data }, { on := 17, ground := Go.Ground.guard }], guard := some (17, false) }) (v := ?_) rfl (by kernel_rfl) (by kernel_rfl) (by kernel_rfl) (fun _ _ _ h => h) (Or.inl ⟨by rfl, ?_⟩) hH6 ?_
        rotate_left
        · (intro wz hSz; (try dsimp only at hSz); go_simp; try with_reducible rfl)
        simp only [Act.put, List.setIfInBounds_toArray, List.set_cons_zero, List.set_cons_succ]
        refine wpAnyH_take (i := 25) (oi := { dst := some 82, op := Go.Op.pick (Go.Operand.tmp 74) (Go.Operand.const (Go.Value.bool true)) (Go.Operand.tmp 81), type := 4, pos := "law.go:51", after := #[{ on := 17, ground := Go.Ground.data }, { on := 24, ground := Go.Ground.data }, { on := 12, ground := Go.Ground.guard }], guard := some (12, true) }) (v := ?_) rfl (by kernel_rfl) (by kernel_rfl) (by kernel_rfl) (fun _ _ _ h => h) (Or.inl ⟨by rfl, ?_⟩) hH6 ?_
        rotate_left
        · (intro wz hSz; (try dsimp only at hSz); go_simp; try with_reducible rfl)
        simp only [Act.put, List.setIfInBounds_toArray, List.set_cons_zero, List.set_cons_succ]
        refine wpAnyH_take (i := 26) (oi := { dst := some 83, op := Go.Op.pick (Go.Operand.tmp 69) (Go.Operand.tmp 82) (Go.Operand.const (Go.Value.bool false)), type := 4, pos := "law.go:51", after := #[{ on := 12, ground := Go.Ground.data }, { on := 25, ground := Go.Ground.data }], guard := none }) (v := ?_) rfl (by kernel_rfl) (by kernel_rfl) (by kernel_rfl) (fun _ _ _ h => h) (Or.inl ⟨by rfl, ?_⟩) hH6 ?_
        rotate_left
        · (intro wz hSz; (try dsimp only at hSz); go_simp; try with_reducible rfl)
        simp only [Act.put, List.setIfInBounds_toArray, List.set_cons_zero, List.set_cons_succ]
        refine wpAnyH_take (i := 27) (oi := { dst := some 6, op := Go.Op.assign (Go.Operand.tmp 83), type := 4, pos := "law.go:51", after := #[{ on := 26, ground := Go.Ground.data }, { on := 23, ground := Go.Ground.chain }, { on := 0, ground := Go.Ground.phase }, { on := 1, ground := Go.Ground.phase }, { on := 2, ground := Go.Ground.phase }, { on := 3, ground := Go.Ground.phase }, { on := 4, ground := Go.Ground.phase }, { on := 5, ground := Go.Ground.phase }, { on := 6, ground := Go.Ground.phase }, { on := 7, ground := Go.Ground.phase }, { on := 8, ground := Go.Ground.phase }, { on := 9, ground := Go.Ground.phase }, { on := 10, ground := Go.Ground.phase }, { on := 11, ground := Go.Ground.phase }, { on := 12, ground := Go.Ground.phase }, { on := 13, ground := Go.Ground.phase }, { on := 14, ground := Go.Ground.phase }, { on := 15, ground := Go.Ground.phase }, { on := 16, ground := Go.Ground.phase }, { on := 17, ground := Go.Ground.phase }, { on := 18, ground := Go.Ground.phase }, { on := 19, ground := Go.Ground.phase }, { on := 20, ground := Go.Ground.phase }, { on := 21, ground := Go.Ground.phase }, { on := 22, ground := Go.Ground.phase }, { on := 23, ground := Go.Ground.phase }, { on := 24, ground := Go.Ground.phase }, { on := 25, ground := Go.Ground.phase }, { on := 26, ground := Go.Ground.phase }], guard := none }) (v := ?_) rfl (by kernel_rfl) (by kernel_rfl) (by kernel_rfl) (fun _ _ _ h => h) (Or.inl ⟨by rfl, ?_⟩) hH6 ?_
        rotate_left
        · (intro wz hSz; (try dsimp only at hSz); go_simp; try with_reducible rfl)
        simp only [Act.put, List.setIfInBounds_toArray, List.set_cons_zero, List.set_cons_succ]
        refine wpAnyH_done (by kernel_rfl) ?_ _
        go_wp2_with fail
        go_ret
        exact ⟨rfl, HB.out⟩
      · skip
        go_upto_region 8 with fail
        go_wp2_with fail
        with_reducible refine HPZ2.out.mono ?_
        rintro e w3 ⟨bz, yz, rfl, hz, hy, hb3⟩
        replace HPR := Lib.hid (HPR.out bx)
        replace HPZ := Lib.hid (HPZ.out bz)
        replace HOF := Lib.hid (HOF.out bx)
        replace HOZ := Lib.hid (HOZ.out bz)
        replace HB := Lib.hid (HB.out.trans (hb3.mono HB.out.size))
        replace HT := Lib.hid (HT.out.later hb3)
        replace HA := Lib.hid ((hb3.block _ (L.blk_lt HA.out)).trans HA.out)
        have HO := Lib.hid ((hb3.block _ (L.blk_lt HOB.out)).trans HOB.out)
        replace HX := Lib.hid (HX.out.below hb3)
        have HZ := Lib.hid hz
        clear hz hy hb3 HPZ2 HOB
        go_upto_region 11 with fail
        refine wp_region_held_drew (S := (Keeps w3)) (by kernel_rfl) (keeps_drew _) (fun hH0 => ?_)
        refine wpAnyH_ready (rs := [0]) (by kernel_rfl) (by simp) ?_
        refine AllReadyH.cons (o := { dst := some 57, op := Go.Op.call { callee := Go.Callee.value (Go.Operand.func 8), args := #[], argTypes := #[] }, type := 4, pos := "law.go:51", after := #[], guard := none }) rfl (fun K hK => ?_) AllReadyH.nil
        go_simp
        with_reducible refine (live20 _ (HT.out.later hH0.b)).mono ?_
        rintro r wq1 ⟨rfl, hbq⟩
        go_wp2_with fail
        refine hK.out _ _ (Keeps.trans hH0 hbq) (fun hJ => ?_)
        refine wpAnyH_more (S' := Keeps wq1) (fun z hz => Keeps.trans hJ hz) _ _ _ _ ?_
        replace HB := Lib.hid (HB.out.trans (Below.mono hJ HB.out.size))
        replace HT := Lib.hid (HT.out.later hJ)
        replace HA := Lib.hid ((Below.block hJ _ (L.blk_lt HA.out)).trans HA.out)
        replace HO := Lib.hid ((Below.block hJ _ (L.blk_lt HO.out)).trans HO.out)
        replace HX := Lib.hid (HX.out.below hJ)
        replace HZ := Lib.hid (HZ.out.below hJ)
        have hH1 : Keeps wq1 wq1 := Below.refl _ _
        clear hK K hbq hH0 hJ
        refine wpAnyH_take (i := 1) (oi := { dst := some 58, op := Go.Op.move (Go.Operand.tmp 57), type := 4, pos := "law.go:51", after := #[{ on := 0, ground := Go.Ground.data }, { on := 0, ground := Go.Ground.chain }], guard := none }) (v := ?_) rfl (by kernel_rfl) (by kernel_rfl) (by kernel_rfl) (fun _ _ _ h => h) (Or.inl ⟨by rfl, ?_⟩) hH1 ?_
        rotate_left
        · (intro wz hSz; (try dsimp only at hSz); go_simp; try with_reducible rfl)
        simp only [Act.put, List.setIfInBounds_toArray, List.set_cons_zero, List.set_cons_succ]
        refine wpAnyH_take (i := 2) (oi := { dst := some 59, op := Go.Op.move (Go.Operand.tmp 7), type := 26, pos := "law.go:51", after := #[{ on := 1, ground := Go.Ground.guard }], guard := some (1, true) }) (v := ?_) rfl (by kernel_rfl) (by kernel_rfl) (by kernel_rfl) (fun _ _ _ h => h) (Or.inl ⟨by rfl, ?_⟩) hH1 ?_
        rotate_left
        · (intro wz hSz; (try dsimp only at hSz); go_simp; try with_reducible rfl)
        simp only [Act.put, List.setIfInBounds_toArray, List.set_cons_zero, List.set_cons_succ]
        refine wpAnyH_take (i := 3) (oi := { dst := some 60, op := Go.Op.load 25 (Go.Operand.tmp 4), type := 25, pos := "law.go:51", after := #[{ on := 1, ground := Go.Ground.guard }], guard := some (1, true) }) (v := ?_) rfl (by kernel_rfl) (by kernel_rfl) (by kernel_rfl) (fun _ _ _ h => h) (Or.inl ⟨by rfl, ?_⟩) hH1 ?_
        rotate_left
        · (intro wz hSz; have hcz := True.intro; obtain ⟨c0, c1⟩ := lab_cells ((Below.block hSz _ (L.blk_lt HO.out)).trans HO.out); go_simp; try with_reducible rfl)
        simp only [Act.put, List.setIfInBounds_toArray, List.set_cons_zero, List.set_cons_succ]
        refine wpAnyH_take (i := 6) (oi := { dst := some 63, op := Go.Op.move (Go.Operand.tmp 12), type := 26, pos := "law.go:51", after := #[{ on := 1, ground := Go.Ground.guard }], guard := some (1, true) }) (v := ?_) rfl (by kernel_rfl) (by kernel_rfl) (by kernel_rfl) (fun _ _ _ h => h) (Or.inl ⟨by rfl, ?_⟩) hH1 ?_
        rotate_left
        · (intro wz hSz; (try dsimp only at hSz); go_simp; try with_reducible rfl)
        simp only [Act.put, List.setIfInBounds_toArray, List.set_cons_zero, List.set_cons_succ]
        refine wpAnyH_take (i := 7) (oi := { dst := some 64, op := Go.Op.load 25 (Go.Operand.tmp 4), type := 25, pos := "law.go:51", after := #[{ on := 1, ground := Go.Ground.guard }], guard := some (1, true) }) (v := ?_) rfl (by kernel_rfl) (by kernel_rfl) (by kernel_rfl) (fun _ _ _ h => h) (Or.inl ⟨by rfl, ?_⟩) hH1 ?_
        rotate_left
        · (intro wz hSz; have hcz := True.intro; obtain ⟨c0, c1⟩ := lab_cells ((Below.block hSz _ (L.blk_lt HO.out)).trans HO.out); go_simp; try with_reducible rfl)
        simp only [Act.put, List.setIfInBounds_toArray, List.set_cons_zero, List.set_cons_succ]
        refine wpAnyH_ready (rs := [4]) (by kernel_rfl) (by simp) ?_
        refine AllReadyH.cons (o := { dst := some 61, op := Go.Op.call { callee := Go.Callee.value (Go.Operand.func 15), args := #[Go.Operand.tmp 59, Go.Operand.tmp 60], argTypes := #[26, 25] }, type := 35, pos := "law.go:51", after := #[{ on := 2, ground := Go.Ground.data }, { on := 3, ground := Go.Ground.data }, { on := 1, ground := Go.Ground.chain }, { on := 1, ground := Go.Ground.guard }], guard := some (1, true) }) rfl (fun K hK => ?_) AllReadyH.nil
        go_simp
        with_reducible refine (HPR.out.at (HX.out.below hH1.b) (HT.out.later hH1.b)).mono ?_
        rintro r wq2 ⟨PB, pc, rfl, HP1, hbq⟩
        go_wp2_with fail
        refine hK.out _ _ (Keeps.trans hH1 hbq) (fun hJ => ?_)
        refine wpAnyH_more (S' := Keeps wq2) (fun z hz => Keeps.trans hJ hz) _ _ _ _ ?_
        replace HB := Lib.hid (HB.out.trans (Below.mono hJ HB.out.size))
        replace HT := Lib.hid (HT.out.later hJ)
        replace HA := Lib.hid ((Below.block hJ _ (L.blk_lt HA.out)).trans HA.out)
        replace HO := Lib.hid ((Below.block hJ _ (L.blk_lt HO.out)).trans HO.out)
        replace HX := Lib.hid (HX.out.below hJ)
        replace HZ := Lib.hid (HZ.out.below hJ)
        replace HP1 := Lib.hid HP1
        have hH2 : Keeps wq2 wq2 := Below.refl _ _
        clear hK K hbq hH1 hJ
        refine wpAnyH_take (i := 5) (oi := { dst := some 62, op := Go.Op.convert 35 9 (Go.Operand.tmp 61), type := 9, pos := "law.go:51", after := #[{ on := 4, ground := Go.Ground.data }, { on := 1, ground := Go.Ground.guard }], guard := some (1, true) }) (v := ?_) rfl (by kernel_rfl) (by kernel_rfl) (by kernel_rfl) (fun _ _ _ h => h) (Or.inl ⟨by rfl, ?_⟩) hH2 ?_
        rotate_left
        · (intro wz hSz; have hcz := conv_in pc (HP1.out.below hSz); go_simp; try with_reducible rfl)
        simp only [Act.put, List.setIfInBounds_toArray, List.set_cons_zero, List.set_cons_succ]
        refine wpAnyH_ready (rs := [8]) (by kernel_rfl) (by simp) ?_
        refine AllReadyH.cons (o := { dst := some 65, op := Go.Op.call { callee := Go.Callee.value (Go.Operand.func 15), args := #[Go.Operand.tmp 63, Go.Operand.tmp 64], argTypes := #[26, 25] }, type := 35, pos := "law.go:51", after := #[{ on := 6, ground := Go.Ground.data }, { on := 7, ground := Go.Ground.data }, { on := 4, ground := Go.Ground.chain }, { on := 1, ground := Go.Ground.guard }], guard := some (1, true) }) rfl (fun K hK => ?_) AllReadyH.nil
        go_simp
        with_reducible refine (HPZ.out.at (HZ.out.below hH2.b) (HT.out.later hH2.b)).mono ?_
        rintro r wq3 ⟨QB, qc, rfl, HP2, hbq⟩
        go_wp2_with fail
        refine hK.out _ _ (Keeps.trans hH2 hbq) (fun hJ => ?_)
        refine wpAnyH_more (S' := Keeps wq3) (fun z hz => Keeps.trans hJ hz) _ _ _ _ ?_
        replace HB := Lib.hid (HB.out.trans (Below.mono hJ HB.out.size))
        replace HT := Lib.hid (HT.out.later hJ)
        replace HA := Lib.hid ((Below.block hJ _ (L.blk_lt HA.out)).trans HA.out)
        replace HO := Lib.hid ((Below.block hJ _ (L.blk_lt HO.out)).trans HO.out)
        replace HX := Lib.hid (HX.out.below hJ)
        replace HZ := Lib.hid (HZ.out.below hJ)
        replace HP1 := Lib.hid (HP1.out.below hJ)
        replace HP2 := Lib.hid HP2
        have hH3 : Keeps wq3 wq3 := Below.refl _ _
        clear hK K hbq hH2 hJ
        refine wpAnyH_take (i := 9) (oi := { dst := some 66, op := Go.Op.convert 35 9 (Go.Operand.tmp 65), type := 9, pos := "law.go:51", after := #[{ on := 8, ground := Go.Ground.data }, { on := 1, ground := Go.Ground.guard }], guard := some (1, true) }) (v := ?_) rfl (by kernel_rfl) (by kernel_rfl) (by kernel_rfl) (fun _ _ _ h => h) (Or.inl ⟨by rfl, ?_⟩) hH3 ?_
        rotate_left
        · (intro wz hSz; have hcz := conv_in qc (HP2.out.below hSz); go_simp; try with_reducible rfl)
        simp only [Act.put, List.setIfInBounds_toArray, List.set_cons_zero, List.set_cons_succ]
        refine wpAnyH_take (i := 10) (oi := { dst := some 67, op := Go.Op.binOp Go.BinOp.eql 9 (Go.Operand.tmp 62) (Go.Operand.tmp 66) 9, type := 4, pos := "law.go:51", after := #[{ on := 5, ground := Go.Ground.data }, { on := 9, ground := Go.Ground.data }, { on := 1, ground := Go.Ground.guard }], guard := some (1, true) }) (v := ?_) rfl (by kernel_rfl) (by kernel_rfl) (by kernel_rfl) (fun _ _ _ h => h) (Or.inl ⟨by rfl, ?_⟩) hH3 ?_
        rotate_left
        · (intro wz hSz; (try dsimp only at hSz); go_simp; try with_reducible rfl)
        simp only [Act.put, List.setIfInBounds_toArray, List.set_cons_zero, List.set_cons_succ]
        refine wpAnyH_take (i := 11) (oi := { dst := some 68, op := Go.Op.pick (Go.Operand.tmp 58) (Go.Operand.tmp 67) (Go.Operand.const (Go.Value.bool false)), type := 4, pos := "law.go:51", after := #[{ on := 1, ground := Go.Ground.data }, { on := 10, ground := Go.Ground.data }], guard := none }) (v := ?_) rfl (by kernel_rfl) (by kernel_rfl) (by kernel_rfl) (fun _ _ _ h => h) (Or.inl ⟨by rfl, ?_⟩) hH3 ?_
        rotate_left
        · (intro wz hSz; (try dsimp only at hSz); go_simp; try with_reducible rfl)
        simp only [Act.put, List.setIfInBounds_toArray, List.set_cons_zero, List.set_cons_succ]
        refine wpAnyH_take (i := 12) (oi := { dst := some 69, op := Go.Op.move (Go.Operand.tmp 68), type := 4, pos := "law.go:51", after := #[{ on := 11, ground := Go.Ground.data }, { on := 8, ground := Go.Ground.chain }], guard := none }) (v := ?_) rfl (by kernel_rfl) (by kernel_rfl) (by kernel_rfl) (fun _ _ _ h => h) (Or.inl ⟨by rfl, ?_⟩) hH3 ?_
        rotate_left
        · (intro wz hSz; (try dsimp only at hSz); go_simp; try with_reducible rfl)
        simp only [Act.put, List.setIfInBounds_toArray, List.set_cons_zero, List.set_cons_succ]
        refine wpAnyH_take (i := 13) (oi := { dst := some 70, op := Go.Op.load 25 (Go.Operand.tmp 5), type := 25, pos := "law.go:51", after := #[{ on := 12, ground := Go.Ground.guard }], guard := some (12, true) }) (v := ?_) rfl (by kernel_rfl) (by kernel_rfl) (by kernel_rfl) (fun _ _ _ h => h) (Or.inl ⟨by rfl, ?_⟩) hH3 ?_
        rotate_left
        · (intro wz hSz; have hcz := True.intro; obtain ⟨c0, c1⟩ := lab_cells ((Below.block hSz _ (L.blk_lt HA.out)).trans HA.out); go_simp; try with_reducible rfl)
        simp only [Act.put, List.setIfInBounds_toArray, List.set_cons_zero, List.set_cons_succ]
        refine wpAnyH_take (i := 14) (oi := { dst := some 71, op := Go.Op.load 25 (Go.Operand.tmp 4), type := 25, pos := "law.go:51", after := #[{ on := 12, ground := Go.Ground.guard }], guard := some (12, true) }) (v := ?_) rfl (by kernel_rfl) (by kernel_rfl) (by kernel_rfl) (fun _ _ _ h => h) (Or.inl ⟨by rfl, ?_⟩) hH3 ?_
        rotate_left
        · (intro wz hSz; have hcz := True.intro; obtain ⟨c0, c1⟩ := lab_cells ((Below.block hSz _ (L.blk_lt HO.out)).trans HO.out); go_simp; try with_reducible rfl)
        simp only [Act.put, List.setIfInBounds_toArray, List.set_cons_zero, List.set_cons_succ]
        refine wpAnyH_ready (rs := [15]) (by kernel_rfl) (by simp) ?_
        refine AllReadyH.cons (o := { dst := some 72, op := Go.Op.call { callee := Go.Callee.value (Go.Operand.func 17), args := #[Go.Operand.tmp 70, Go.Operand.tmp 71], argTypes := #[25, 25] }, type := 4, pos := "law.go:51", after := #[{ on := 13, ground := Go.Ground.data }, { on := 14, ground := Go.Ground.data }, { on := 12, ground := Go.Ground.chain }, { on := 12, ground := Go.Ground.guard }], guard := some (12, true) }) rfl (fun K hK => ?_) AllReadyH.nil
        go_simp
        with_reducible refine (HRB.out.call _).mono ?_
        rintro r wq4 ⟨rfl, hbq⟩
        go_wp2_with fail
        refine hK.out _ _ (Keeps.trans hH3 hbq) (fun hJ => ?_)
        refine wpAnyH_more (S' := Keeps wq4) (fun z hz => Keeps.trans hJ hz) _ _ _ _ ?_
        replace HB := Lib.hid (HB.out.trans (Below.mono hJ HB.out.size))
        replace HT := Lib.hid (HT.out.later hJ)
        replace HA := Lib.hid ((Below.block hJ _ (L.blk_lt HA.out)).trans HA.out)
        replace HO := Lib.hid ((Below.block hJ _ (L.blk_lt HO.out)).trans HO.out)
        replace HX := Lib.hid (HX.out.below hJ)
        replace HZ := Lib.hid (HZ.out.below hJ)
        replace HP1 := Lib.hid (HP1.out.below hJ)
        replace HP2 := Lib.hid (HP2.out.below hJ)
        have hH4 : Keeps wq4 wq4 := Below.refl _ _
        clear hK K hbq hH3 hJ
        refine wpAnyH_take (i := 16) (oi := { dst := some 73, op := Go.Op.unOp Go.UnOp.not 4 (Go.Operand.tmp 72), type := 4, pos := "law.go:51", after := #[{ on := 15, ground := Go.Ground.data }, { on := 12, ground := Go.Ground.guard }], guard := some (12, true) }) (v := ?_) rfl (by kernel_rfl) (by kernel_rfl) (by kernel_rfl) (fun _ _ _ h => h) (Or.inl ⟨by rfl, ?_⟩) hH4 ?_
        rotate_left
        · (intro wz hSz; (try dsimp only at hSz); go_simp; try with_reducible rfl)
        simp only [Act.put, List.setIfInBounds_toArray, List.set_cons_zero, List.set_cons_succ]
        refine wpAnyH_take (i := 17) (oi := { dst := some 74, op := Go.Op.move (Go.Operand.tmp 73), type := 4, pos := "law.go:51", after := #[{ on := 16, ground := Go.Ground.data }, { on := 15, ground := Go.Ground.chain }, { on := 12, ground := Go.Ground.guard }], guard := some (12, true) }) (v := ?_) rfl (by kernel_rfl) (by kernel_rfl) (by kernel_rfl) (fun _ _ _ h => h) (Or.inl ⟨by rfl, ?_⟩) hH4 ?_
        rotate_left
        · (intro wz hSz; (try dsimp only at hSz); go_simp; try with_reducible rfl)
        simp only [Act.put, List.setIfInBounds_toArray, List.set_cons_zero, List.set_cons_succ]
        refine wpAnyH_take (i := 18) (oi := { dst := some 75, op := Go.Op.move (Go.Operand.tmp 7), type := 26, pos := "law.go:51", after := #[{ on := 17, ground := Go.Ground.guard }], guard := some (17, false) }) (v := ?_) rfl (by kernel_rfl) (by kernel_rfl) (by kernel_rfl) (fun _ _ _ h => h) (Or.inl ⟨by rfl, ?_⟩) hH4 ?_
        rotate_left
        · (intro wz hSz; (try dsimp only at hSz); go_simp; try with_reducible rfl)
        simp only [Act.put, List.setIfInBounds_toArray, List.set_cons_zero, List.set_cons_succ]
        refine wpAnyH_take (i := 19) (oi := { dst := some 76, op := Go.Op.load 25 (Go.Operand.tmp 5), type := 25, pos := "law.go:51", after := #[{ on := 17, ground := Go.Ground.guard }], guard := some (17, false) }) (v := ?_) rfl (by kernel_rfl) (by kernel_rfl) (by kernel_rfl) (fun _ _ _ h => h) (Or.inl ⟨by rfl, ?_⟩) hH4 ?_
        rotate_left
        · (intro wz hSz; have hcz := True.intro; obtain ⟨c0, c1⟩ := lab_cells ((Below.block hSz _ (L.blk_lt HA.out)).trans HA.out); go_simp; try with_reducible rfl)
        simp only [Act.put, List.setIfInBounds_toArray, List.set_cons_zero, List.set_cons_succ]
        refine wpAnyH_take (i := 21) (oi := { dst := some 78, op := Go.Op.move (Go.Operand.tmp 12), type := 26, pos := "law.go:51", after := #[{ on := 17, ground := Go.Ground.guard }], guard := some (17, false) }) (v := ?_) rfl (by kernel_rfl) (by kernel_rfl) (by kernel_rfl) (fun _ _ _ h => h) (Or.inl ⟨by rfl, ?_⟩) hH4 ?_
        rotate_left
        · (intro wz hSz; (try dsimp only at hSz); go_simp; try with_reducible rfl)
        simp only [Act.put, List.setIfInBounds_toArray, List.set_cons_zero, List.set_cons_succ]
        refine wpAnyH_take (i := 22) (oi := { dst := some 79, op := Go.Op.load 25 (Go.Operand.tmp 5), type := 25, pos := "law.go:51", after := #[{ on := 17, ground := Go.Ground.guard }], guard := some (17, false) }) (v := ?_) rfl (by kernel_rfl) (by kernel_rfl) (by kernel_rfl) (fun _ _ _ h => h) (Or.inl ⟨by rfl, ?_⟩) hH4 ?_
        rotate_left
        · (intro wz hSz; have hcz := True.intro; obtain ⟨c0, c1⟩ := lab_cells ((Below.block hSz _ (L.blk_lt HA.out)).trans HA.out); go_simp; try with_reducible rfl)
        simp only [Act.put, List.setIfInBounds_toArray, List.set_cons_zero, List.set_cons_succ]
        refine wpAnyH_ready (rs := [20]) (by kernel_rfl) (by simp) ?_
        refine AllReadyH.cons (o := { dst := some 77, op := Go.Op.call { callee := Go.Callee.value (Go.Operand.func 9), args := #[Go.Operand.tmp 75, Go.Operand.tmp 76], argTypes := #[26, 25] }, type := 3, pos := "law.go:51", after := #[{ on := 18, ground := Go.Ground.data }, { on := 19, ground := Go.Ground.data }, { on := 17, ground := Go.Ground.chain }, { on := 17, ground := Go.Ground.guard }], guard := some (17, false) }) rfl (fun K hK => ?_) AllReadyH.nil
        go_simp
        with_reducible refine (HOF.out.at (HX.out.below hH4.b)).mono ?_
        rintro r wq5 ⟨rfl, hbq⟩
        go_wp2_with fail
        refine hK.out _ _ (Keeps.trans hH4 hbq) (fun hJ => ?_)
        refine wpAnyH_more (S' := Keeps wq5) (fun z hz => Keeps.trans hJ hz) _ _ _ _ ?_
        replace HB := Lib.hid (HB.out.trans (Below.mono hJ HB.out.size))
        replace HT := Lib.hid (HT.out.later hJ)
        replace HA := Lib.hid ((Below.block hJ _ (L.blk_lt HA.out)).trans HA.out)
        replace HO := Lib.hid ((Below.block hJ _ (L.blk_lt HO.out)).trans HO.out)
        replace HX := Lib.hid (HX.out.below hJ)
        replace HZ := Lib.hid (HZ.out.below hJ)
        replace HP1 := Lib.hid (HP1.out.below hJ)
        replace HP2 := Lib.hid (HP2.out.below hJ)
        have hH5 : Keeps wq5 wq5 := Below.refl _ _
        clear hK K hbq hH4 hJ
        refine wpAnyH_ready (rs := [23]) (by kernel_rfl) (by simp) ?_
        refine AllReadyH.cons (o := { dst := some 80, op := Go.Op.call { callee := Go.Callee.value (Go.Operand.func 9), args := #[Go.Operand.tmp 78, Go.Operand.tmp 79], argTypes := #[26, 25] }, type := 3, pos := "law.go:51", after := #[{ on := 21, ground := Go.Ground.data }, { on := 22, ground := Go.Ground.data }, { on := 20, ground := Go.Ground.chain }, { on := 17, ground := Go.Ground.guard }], guard := some (17, false) }) rfl (fun K hK => ?_) AllReadyH.nil
        go_simp
        with_reducible refine (HOZ.out.at (HZ.out.below hH5.b)).mono ?_
        rintro r wq6 ⟨rfl, hbq⟩
        go_wp2_with fail
        refine hK.out _ _ (Keeps.trans hH5 hbq) (fun hJ => ?_)
        refine wpAnyH_more (S' := Keeps wq6) (fun z hz => Keeps.trans hJ hz) _ _ _ _ ?_
        replace HB := Lib.hid (HB.out.trans (Below.mono hJ HB.out.size))
        replace HT := Lib.hid (HT.out.later hJ)
        replace HA := Lib.hid ((Below.block hJ _ (L.blk_lt HA.out)).trans HA.out)
        replace HO := Lib.hid ((Below.block hJ _ (L.blk_lt HO.out)).trans HO.out)
        replace HX := Lib.hid (HX.out.below hJ)
        replace HZ := Lib.hid (HZ.out.below hJ)
        replace HP1 := Lib.hid (HP1.out.below hJ)
        replace HP2 := Lib.hid (HP2.out.below hJ)
        have hH6 : Keeps wq6 wq6 := Below.refl _ _
        clear hK K hbq hH5 hJ
        refine wpAnyH_take (i := 24) (oi := { dst := some 81, op := Go.Op.binOp Go.BinOp.eql 3 (Go.Operand.tmp 77) (Go.Operand.tmp 80) 3, type := 4, pos := "law.go:51", after := #[{ on := 20, ground := Go.Ground.data }, { on := 23, ground := Go.Ground.data }, { on := 17, ground := Go.Ground.guard }], guard := some (17, false) }) (v := ?_) rfl (by kernel_rfl) (by kernel_rfl) (by kernel_rfl) (fun _ _ _ h => h) (Or.inl ⟨by rfl, ?_⟩) hH6 ?_
        rotate_left
        · (intro wz hSz; (try dsimp only at hSz); go_simp; try with_reducible rfl)
        simp only [Act.put, List.setIfInBounds_toArray, List.set_cons_zero, List.set_cons_succ]
        refine wpAnyH_take (i := 25) (oi := { dst := some 82, op := Go.Op.pick (Go.Operand.tmp 74) (Go.Operand.const (Go.Value.bool true)) (Go.Operand.tmp 81), type := 4, pos := "law.go:51", after := #[{ on := 17, ground := Go.Ground.data }, { on := 24, ground := Go.Ground.data }, { on := 12, ground := Go.Ground.guard }], guard := some (12, true) }) (v := ?_) rfl (by kernel_rfl) (by kernel_rfl) (by kernel_rfl) (fun _ _ _ h => h) (Or.inl ⟨by rfl, ?_⟩) hH6 ?_
        rotate_left
        · (intro wz hSz; (try dsimp only at hSz); go_simp; try with_reducible rfl)
        simp only [Act.put, List.setIfInBounds_toArray, List.set_cons_zero, List.set_cons_succ]
        refine wpAnyH_take (i := 26) (oi := { dst := some 83, op := Go.Op.pick (Go.Operand.tmp 69) (Go.Operand.tmp 82) (Go.Operand.const (Go.Value.bool false)), type := 4, pos := "law.go:51", after := #[{ on := 12, ground := Go.Ground.data }, { on := 25, ground := Go.Ground.data }], guard := none }) (v := ?_) rfl (by kernel_rfl) (by kernel_rfl) (by kernel_rfl) (fun _ _ _ h => h) (Or.inl ⟨by rfl, ?_⟩) hH6 ?_
        rotate_left
        · (intro wz hSz; (try dsimp only at hSz); go_simp; try with_reducible rfl)
        simp only [Act.put, List.setIfInBounds_toArray, List.set_cons_zero, List.set_cons_succ]
        refine wpAnyH_take (i := 27) (oi := { dst := some 6, op := Go.Op.assign (Go.Operand.tmp 83), type := 4, pos := "law.go:51", after := #[{ on := 26, ground := Go.Ground.data }, { on := 23, ground := Go.Ground.chain }, { on := 0, ground := Go.Ground.phase }, { on := 1, ground := Go.Ground.phase }, { on := 2, ground := Go.Ground.phase }, { on := 3, ground := Go.Ground.phase }, { on := 4, ground := Go.Ground.phase }, { on := 5, ground := Go.Ground.phase }, { on := 6, ground := Go.Ground.phase }, { on := 7, ground := Go.Ground.phase }, { on := 8, ground := Go.Ground.phase }, { on := 9, ground := Go.Ground.phase }, { on := 10, ground := Go.Ground.phase }, { on := 11, ground := Go.Ground.phase }, { on := 12, ground := Go.Ground.phase }, { on := 13, ground := Go.Ground.phase }, { on := 14, ground := Go.Ground.phase }, { on := 15, ground := Go.Ground.phase }, { on := 16, ground := Go.Ground.phase }, { on := 17, ground := Go.Ground.phase }, { on := 18, ground := Go.Ground.phase }, { on := 19, ground := Go.Ground.phase }, { on := 20, ground := Go.Ground.phase }, { on := 21, ground := Go.Ground.phase }, { on := 22, ground := Go.Ground.phase }, { on := 23, ground := Go.Ground.phase }, { on := 24, ground := Go.Ground.phase }, { on := 25, ground := Go.Ground.phase }, { on := 26, ground := Go.Ground.phase }], guard := none }) (v := ?_) rfl (by kernel_rfl) (by kernel_rfl) (by kernel_rfl) (fun _ _ _ h => h) (Or.inl ⟨by rfl, ?_⟩) hH6 ?_
        rotate_left
        · (intro wz hSz; (try dsimp only at hSz); go_simp; try with_reducible rfl)
        simp only [Act.put, List.setIfInBounds_toArray, List.set_cons_zero, List.set_cons_succ]
        refine wpAnyH_done (by kernel_rfl) ?_ _
        go_wp2_with fail
        go_ret
        exact ⟨rfl, HB.out⟩
set_option maxRecDepth 100000 in
set_option maxHeartbeats 8000000 in
theorem ablind_no {w : World} {A : Option Addr} {c : Nat} {l ls lz : List Et} {a0 o0 : Int} {a1 o1 : Nat} {t : List UInt8} (HT : Hid (Tab w)) (HL : Hid (EtsIn w A l)) (hl : l.length ≤ 9223372036854775807) (HCT : Hid (∀ (k : Nat) (h : k < l.length), RbC l[k].lv o0 l[k].ct o1 (blE o0 o1 l[k])))
    (HPL : Hid (∀ W, EtsIn W A l → Calls Tryd.prog 7 #[.slice A l.length c] W fun e w' => ∃ bx yb, e = .returned (.tuple #[.pointer (some ⟨bx, 0, none⟩), .pointer (some ⟨yb, 0, none⟩), .bool true]) ∧ LgR w' 52 bx ls ∧ LgR w' 50 yb ls ∧ Below W.heap.size W w'))
    (HPF : Hid (∀ W B d ys, ys = seen o0 o1 (l.take 60) → EtsIn W B ys → Calls Tryd.prog 7 #[.slice B ys.length d] W fun e w' => ∃ bx yb, e = .returned (.tuple #[.pointer (some ⟨bx, 0, none⟩), .pointer (some ⟨yb, 0, none⟩), .bool true]) ∧ LgR w' 52 bx lz ∧ LgR w' 50 yb lz ∧ Below W.heap.size W w'))
    (HPR : Hid (∀ bx, PrC 52 15 bx ls o0 o1 t)) (HPZ : Hid (∀ bx, PrC 52 15 bx lz o0 o1 t)) (HRB : Hid (RbC a0 o0 a1 o1 false)) :
    Calls Tryd.prog 4 #[.slice A l.length c, .agg #[.int .i64 o0, .int .u64 (o1 : Int)], .agg #[.int .i64 a0, .int .u64 (a1 : Int)]] w fun e w' => e = .returned (.bool true) ∧ Below w.heap.size w w' := by
  obtain ⟨i0, hi0, hz0, hz1, hz2⟩ := info_parts infoEt
  obtain ⟨W0, hW0, hB0, hO0, hA0⟩ := two_labels w o0 a0 o1 a1
  have HP0 := Lib.hid (HPL.out W0 (HL.out.below hB0))
  have HL0 := Lib.hid (HL.out.below hB0)
  have HB0 := Lib.hid hB0
  have HT0 := Lib.hid (HT.out.later hB0)
  have HA0 := Lib.hid hA0
  have HO0 := Lib.hid hO0
  have HN := Lib.hid (fun (k : Nat) (h : k < l.length) => seen_take o0 o1 h)
  have HNL := Lib.hid (fun (k : Nat) => show (seen o0 o1 (l.take k)).length ≤ k from Nat.le_trans (seen_len _ _ _) (by rw [List.length_take]; omega))
  clear hB0 hA0 hO0 HPL HL HT
  go_enter Tryd.func4, Tryd.ntmps4
  go_upto_region 1 with fail
  try simp only [World.size_alloc]
  rw [← hW0]
  clear hW0
  obtain ⟨bo, hbo⟩ : ∃ q, q = w.heap.size := ⟨_, rfl⟩
  obtain ⟨ba, hba⟩ : ∃ q, q = w.heap.size + 1 := ⟨_, rfl⟩
  rw [← hbo] at HO0
  rw [← hba] at HA0 ⊢
  rw [← hbo]
  clear hba hbo
  go_wp2_with fail
  with_reducible refine HP0.out.mono ?_
  rintro e w1 ⟨bx, yb, rfl, hx, hy, hb1⟩
  have HL1 := Lib.hid (HL0.out.below hb1)
  have HB1 := Lib.hid (HB0.out.trans (hb1.mono HB0.out.size))
  have HT1 := Lib.hid (HT0.out.later hb1)
  have HA1 := Lib.hid ((hb1.block _ (L.blk_lt HA0.out)).trans HA0.out)
  have HO1 := Lib.hid ((hb1.block _ (L.blk_lt HO0.out)).trans HO0.out)
  have HX1 := Lib.hid hx
  clear hx hy hb1 HP0 HB0 HT0 HA0 HO0 HL0
  go_wp2_with fail
  go_loopg [10, 11] l.length (fun q v i wr => ∃ (k : Nat) (ys : List Et), k ≤ l.length ∧ k ≤ 60 ∧ i = .int .i64 k ∧ l.length - k ≤ q ∧ Hid (wr.ownsRow w1.heap.size 40 6 v ys.length (etCells ys)) ∧ Hid (ys = seen o0 o1 (l.take k)) ∧ Hid (Below w1.heap.size w1 wr))
  case atStart => exact ⟨0, [], Nat.zero_le _, by omega, rfl, by omega, Lib.hid (World.ownsRow_nil _ _ _ _), Lib.hid (by simp [seen]), Lib.hid (Below.refl _ _)⟩
  case round =>
    obtain ⟨k, ys, hk, hk6, rfl, hm, HO, HY, HBR⟩ := hrel
    by_cases hlt : k < l.length ∧ k < 60
    · obtain ⟨hlt, hk60⟩ := hlt
      obtain ⟨bk, off, hAe, hbk, c0, c1, c2, c3, c4, c5⟩ := et_at (HL1.out.below HBR.out) hlt
      subst hAe
      have h0k : (0 : Int) ≤ (k : Int) := by omega
      have hki : (k : Int) < (l.length : Int) := by omega
      have hk6i : (k : Int) < 60 := by omega
      have HNK := Lib.hid (HN.out k hlt)
      rw [← HY.out] at HNK
      have hyl : ys.length ≤ 60 := by rw [HY.out]; exact Nat.le_trans (HNL.out k) hk6
      have HBK := Lib.hid (HCT.out k hlt)
      obtain ⟨e, he⟩ : ∃ e, e = l[k]'hlt := ⟨_, rfl⟩
      rw [← he] at c0 c1 c2 c3 c4 c5 HNK HBK
      clear he HY
      obtain ⟨us, x0, x1, ve, fi, oc⟩ := e
      simp only at c0 c1 c2 c3 c4 c5 HBK
      obtain ⟨bv, hbv⟩ : ∃ q, q = blE o0 o1 ⟨us, x0, x1, ve, fi, oc⟩ := ⟨_, rfl⟩
      rw [← hbv] at HNK HBK
      clear hbv
      obtain ⟨y0, y1⟩ := lab_cells ((HBR.out.block _ (L.blk_lt HO1.out)).trans HO1.out)
      have HC : Hid (wr.cell? ⟨bk, off + k * 6, none⟩ = some (.string us) ∧ wr.cell? ⟨bk, off + k * 6 + 1, none⟩ = some (.int .i64 x0) ∧ wr.cell? ⟨bk, off + k * 6 + 2, none⟩ = some (.int .u64 (x1 : Int)) ∧ wr.cell? ⟨bk, off + k * 6 + 3, none⟩ = some (.string ve) ∧ wr.cell? ⟨bk, off + k * 6 + 4, none⟩ = some (.string fi) ∧ wr.cell? ⟨bk, off + k * 6 + 5, none⟩ = some (.string oc)) := Lib.hid ⟨c0, c1, c2, c3, c4, c5⟩
      clear c0 c3 c4 c5
      go_upto_region 6 with fail
      go_still_tail 6, (by kernel_rfl)
      change wpList _ _ _ _ _ (World.drew _)
      clear y0 y1 c1 c2
      go_wp2_with fail
      with_reducible refine (HBK.out.call _).mono ?_
      rintro z w2 ⟨rfl, hb2'⟩
      have hb2 : Below wr.heap.size wr w2 := (Below.refl _ _).drew.trans hb2'
      have HB2 := Lib.hid (HBR.out.trans (hb2.mono HBR.out.size))
      have HO2 := Lib.hid (own_below HO.out hb2)
      obtain ⟨c0', c1', c2', c3', c4', c5'⟩ := HC.out
      have c0 := (hb2.cell (p := ⟨bk, off + k * 6, none⟩) hbk).trans c0'
      have c1 := (hb2.cell (p := ⟨bk, off + k * 6 + 1, none⟩) hbk).trans c1'
      have c2 := (hb2.cell (p := ⟨bk, off + k * 6 + 2, none⟩) hbk).trans c2'
      have c3 := (hb2.cell (p := ⟨bk, off + k * 6 + 3, none⟩) hbk).trans c3'
      have c4 := (hb2.cell (p := ⟨bk, off + k * 6 + 4, none⟩) hbk).trans c4'
      have c5 := (hb2.cell (p := ⟨bk, off + k * 6 + 5, none⟩) hbk).trans c5'
      clear HO HBR HBK hb2 hb2' HC c0' c1' c2' c3' c4' c5'
      cases bv with
      | false =>
        go_wp2_with fail
        go_roundg (l.length - (k + 1))
        case rel => exact ⟨k + 1, ys, by omega, by omega, by go_num, Nat.le_refl _, HO2, Lib.hid (by rw [HNK.out]; simp), HB2⟩
        case measure => omega
      | true =>
        have HOA := Lib.hid (World.ownsRow.alloc HO2.out (.cells #[.string us, .int .i64 x0, .int .u64 (x1 : Int), .string ve, .string fi, .string oc] 40))
        have HNW := Lib.hid (World.news_of_block (w := w2.alloc (.cells #[.string us, .int .i64 x0, .int .u64 (x1 : Int), .string ve, .string fi, .string oc] 40)) (heap_alloc_new w2 _))
        have hbs := HB2.out.size
        go_wp2_with (at_builtin; refine wpList_append_own _ rfl (.tmp 38) (.tmp 43) 22 rfl w1.heap.size 40 i0 _ 6 80 Tryd.underlying22 hi0 hz0 hz1 hz2 rfl (by decide) _ ys.length (etCells ys) rfl HOA.out ⟨w2.heap.size, 0, none⟩ 1 1 (etCells [⟨us, x0, x1, ve, fi, oc⟩]) rfl rfl HNW.out (etCells_one _) ?c3 ?c4 ?c5 ?_)
        case c3 => unfold maxLen; omega
        case c4 => omega
        case c5 => simp; omega
        intro v' w4 hown4 hg4 _
        have HG4 := Lib.hid ((grown_of (alloc1 w2 (.cells #[.string us, .int .i64 x0, .int .u64 (x1 : Int), .string ve, .string fi, .string oc] 40)) _).trans hg4)
        have HB4 : Hid (Below w1.heap.size w1 w4) := Lib.hid (HB2.out.grown HG4.out hbs (own_base HO2.out))
        rw [show ys.length + 1 = (ys ++ [(⟨us, x0, x1, ve, fi, oc⟩ : Et)]).length by simp, show etCells ys ++ etCells [(⟨us, x0, x1, ve, fi, oc⟩ : Et)] = etCells (ys ++ [⟨us, x0, x1, ve, fi, oc⟩]) by simp [etCells]] at hown4
        have HO4 := Lib.hid hown4
        clear hown4 hg4
        go_wp2_with fail
        go_roundg (l.length - (k + 1))
        case rel => exact ⟨k + 1, ys ++ [⟨us, x0, x1, ve, fi, oc⟩], by omega, by omega, by go_num, Nat.le_refl _, HO4, Lib.hid (by rw [HNK.out]; simp), HB4⟩
        case measure => omega
    · have he : l.take k = l.take 60 := by
        rcases Nat.lt_or_ge k l.length with h | h
        · rw [show k = 60 by omega]
        · rw [List.take_of_length_le h, List.take_of_length_le (show l.length ≤ 60 by omega)]
      obtain ⟨B, d, rfl, -, -⟩ := own_form HO.out
      have HPZ2 := Lib.hid (HPF.out wr B d ys (by rw [HY.out, he]) (ets_own HO.out))
      have HB := Lib.hid (HB1.out.trans (HBR.out.mono HB1.out.size))
      have HT := Lib.hid (HT1.out.later HBR.out)
      have HA := Lib.hid ((HBR.out.block _ (L.blk_lt HA1.out)).trans HA1.out)
      have HOB := Lib.hid ((HBR.out.block _ (L.blk_lt HO1.out)).trans HO1.out)
      have HX := Lib.hid (HX1.out.below HBR.out)
      clear he HPF HO HY HBR HB1 HT1 HA1 HO1 HX1 HL1 HN HNL HCT
      have hk2 : (¬ (k : Int) < (l.length : Int)) ∨ ((k : Int) < (l.length : Int) ∧ ¬ (k : Int) < 60) := by omega
      rcases hk2 with hk3 | ⟨hk3, hk4⟩
      · skip
        go_upto_region 8 with fail
        go_wp2_with fail
        with_reducible refine HPZ2.out.mono ?_
        rintro e w3 ⟨bz, yz, rfl, hz, hy, hb3⟩
        replace HPR := Lib.hid (HPR.out bx)
        replace HPZ := Lib.hid (HPZ.out bz)
        replace HB := Lib.hid (HB.out.trans (hb3.mono HB.out.size))
        replace HT := Lib.hid (HT.out.later hb3)
        replace HA := Lib.hid ((hb3.block _ (L.blk_lt HA.out)).trans HA.out)
        have HO := Lib.hid ((hb3.block _ (L.blk_lt HOB.out)).trans HOB.out)
        replace HX := Lib.hid (HX.out.below hb3)
        have HZ := Lib.hid hz
        clear hz hy hb3 HPZ2 HOB
        go_upto_region 11 with fail
        refine wp_region_held_drew (S := (Keeps w3)) (by kernel_rfl) (keeps_drew _) (fun hH0 => ?_)
        refine wpAnyH_ready (rs := [0]) (by kernel_rfl) (by simp) ?_
        refine AllReadyH.cons (o := { dst := some 57, op := Go.Op.call { callee := Go.Callee.value (Go.Operand.func 8), args := #[], argTypes := #[] }, type := 4, pos := "law.go:51", after := #[], guard := none }) rfl (fun K hK => ?_) AllReadyH.nil
        go_simp
        with_reducible refine (live20 _ (HT.out.later hH0.b)).mono ?_
        rintro r wq1 ⟨rfl, hbq⟩
        go_wp2_with fail
        refine hK.out _ _ (Keeps.trans hH0 hbq) (fun hJ => ?_)
        refine wpAnyH_more (S' := Keeps wq1) (fun z hz => Keeps.trans hJ hz) _ _ _ _ ?_
        replace HB := Lib.hid (HB.out.trans (Below.mono hJ HB.out.size))
        replace HT := Lib.hid (HT.out.later hJ)
        replace HA := Lib.hid ((Below.block hJ _ (L.blk_lt HA.out)).trans HA.out)
        replace HO := Lib.hid ((Below.block hJ _ (L.blk_lt HO.out)).trans HO.out)
        replace HX := Lib.hid (HX.out.below hJ)
        replace HZ := Lib.hid (HZ.out.below hJ)
        have hH1 : Keeps wq1 wq1 := Below.refl _ _
        clear hK K hbq hH0 hJ
        refine wpAnyH_take (i := 1) (oi := { dst := some 58, op := Go.Op.move (Go.Operand.tmp 57), type := 4, pos := "law.go:51", after := #[{ on := 0, ground := Go.Ground.data }, { on := 0, ground := Go.Ground.chain }], guard := none }) (v := ?_) rfl (by kernel_rfl) (by kernel_rfl) (by kernel_rfl) (fun _ _ _ h => h) (Or.inl ⟨by rfl, ?_⟩) hH1 ?_
        rotate_left
        · (intro wz hSz; (try dsimp only at hSz); go_simp; try with_reducible rfl)
        simp only [Act.put, List.setIfInBounds_toArray, List.set_cons_zero, List.set_cons_succ]
        refine wpAnyH_take (i := 2) (oi := { dst := some 59, op := Go.Op.move (Go.Operand.tmp 7), type := 26, pos := "law.go:51", after := #[{ on := 1, ground := Go.Ground.guard }], guard := some (1, true) }) (v := ?_) rfl (by kernel_rfl) (by kernel_rfl) (by kernel_rfl) (fun _ _ _ h => h) (Or.inl ⟨by rfl, ?_⟩) hH1 ?_
        rotate_left
        · (intro wz hSz; (try dsimp only at hSz); go_simp; try with_reducible rfl)
        simp only [Act.put, List.setIfInBounds_toArray, List.set_cons_zero, List.set_cons_succ]
        refine wpAnyH_take (i := 3) (oi := { dst := some 60, op := Go.Op.load 25 (Go.Operand.tmp 4), type := 25, pos := "law.go:51", after := #[{ on := 1, ground := Go.Ground.guard }], guard := some (1, true) }) (v := ?_) rfl (by kernel_rfl) (by kernel_rfl) (by kernel_rfl) (fun _ _ _ h => h) (Or.inl ⟨by rfl, ?_⟩) hH1 ?_
        rotate_left
        · (intro wz hSz; have hcz := True.intro; obtain ⟨c0, c1⟩ := lab_cells ((Below.block hSz _ (L.blk_lt HO.out)).trans HO.out); go_simp; try with_reducible rfl)
        simp only [Act.put, List.setIfInBounds_toArray, List.set_cons_zero, List.set_cons_succ]
        refine wpAnyH_take (i := 6) (oi := { dst := some 63, op := Go.Op.move (Go.Operand.tmp 12), type := 26, pos := "law.go:51", after := #[{ on := 1, ground := Go.Ground.guard }], guard := some (1, true) }) (v := ?_) rfl (by kernel_rfl) (by kernel_rfl) (by kernel_rfl) (fun _ _ _ h => h) (Or.inl ⟨by rfl, ?_⟩) hH1 ?_
        rotate_left
        · (intro wz hSz; (try dsimp only at hSz); go_simp; try with_reducible rfl)
        simp only [Act.put, List.setIfInBounds_toArray, List.set_cons_zero, List.set_cons_succ]
        refine wpAnyH_take (i := 7) (oi := { dst := some 64, op := Go.Op.load 25 (Go.Operand.tmp 4), type := 25, pos := "law.go:51", after := #[{ on := 1, ground := Go.Ground.guard }], guard := some (1, true) }) (v := ?_) rfl (by kernel_rfl) (by kernel_rfl) (by kernel_rfl) (fun _ _ _ h => h) (Or.inl ⟨by rfl, ?_⟩) hH1 ?_
        rotate_left
        · (intro wz hSz; have hcz := True.intro; obtain ⟨c0, c1⟩ := lab_cells ((Below.block hSz _ (L.blk_lt HO.out)).trans HO.out); go_simp; try with_reducible rfl)
        simp only [Act.put, List.setIfInBounds_toArray, List.set_cons_zero, List.set_cons_succ]
        refine wpAnyH_ready (rs := [4]) (by kernel_rfl) (by simp) ?_
        refine AllReadyH.cons (o := { dst := some 61, op := Go.Op.call { callee := Go.Callee.value (Go.Operand.func 15), args := #[Go.Operand.tmp 59, Go.Operand.tmp 60], argTypes := #[26, 25] }, type := 35, pos := "law.go:51", after := #[{ on := 2, ground := Go.Ground.data }, { on := 3, ground := Go.Ground.data }, { on := 1, ground := Go.Ground.chain }, { on := 1, ground := Go.Ground.guard }], guard := some (1, true) }) rfl (fun K hK => ?_) AllReadyH.nil
        go_simp
        with_reducible refine (HPR.out.at (HX.out.below hH1.b) (HT.out.later hH1.b)).mono ?_
        rintro r wq2 ⟨PB, pc, rfl, HP1, hbq⟩
        go_wp2_with fail
        refine hK.out _ _ (Keeps.trans hH1 hbq) (fun hJ => ?_)
        refine wpAnyH_more (S' := Keeps wq2) (fun z hz => Keeps.trans hJ hz) _ _ _ _ ?_
        replace HB := Lib.hid (HB.out.trans (Below.mono hJ HB.out.size))
        replace HT := Lib.hid (HT.out.later hJ)
        replace HA := Lib.hid ((Below.block hJ _ (L.blk_lt HA.out)).trans HA.out)
        replace HO := Lib.hid ((Below.block hJ _ (L.blk_lt HO.out)).trans HO.out)
        replace HX := Lib.hid (HX.out.below hJ)
        replace HZ := Lib.hid (HZ.out.below hJ)
        replace HP1 := Lib.hid HP1
        have hH2 : Keeps wq2 wq2 := Below.refl _ _
        clear hK K hbq hH1 hJ
        refine wpAnyH_take (i := 5) (oi := { dst := some 62, op := Go.Op.convert 35 9 (Go.Operand.tmp 61), type := 9, pos := "law.go:51", after := #[{ on := 4, ground := Go.Ground.data }, { on := 1, ground := Go.Ground.guard }], guard := some (1, true) }) (v := ?_) rfl (by kernel_rfl) (by kernel_rfl) (by kernel_rfl) (fun _ _ _ h => h) (Or.inl ⟨by rfl, ?_⟩) hH2 ?_
        rotate_left
        · (intro wz hSz; have hcz := conv_in pc (HP1.out.below hSz); go_simp; try with_reducible rfl)
        simp only [Act.put, List.setIfInBounds_toArray, List.set_cons_zero, List.set_cons_succ]
        refine wpAnyH_ready (rs := [8]) (by kernel_rfl) (by simp) ?_
        refine AllReadyH.cons (o := { dst := some 65, op := Go.Op.call { callee := Go.Callee.value (Go.Operand.func 15), args := #[Go.Operand.tmp 63, Go.Operand.tmp 64], argTypes := #[26, 25] }, type := 35, pos := "law.go:51", after := #[{ on := 6, ground := Go.Ground.data }, { on := 7, ground := Go.Ground.data }, { on := 4, ground := Go.Ground.chain }, { on := 1, ground := Go.Ground.guard }], guard := some (1, true) }) rfl (fun K hK => ?_) AllReadyH.nil
        go_simp
        with_reducible refine (HPZ.out.at (HZ.out.below hH2.b) (HT.out.later hH2.b)).mono ?_
        rintro r wq3 ⟨QB, qc, rfl, HP2, hbq⟩
        go_wp2_with fail
        refine hK.out _ _ (Keeps.trans hH2 hbq) (fun hJ => ?_)
        refine wpAnyH_more (S' := Keeps wq3) (fun z hz => Keeps.trans hJ hz) _ _ _ _ ?_
        replace HB := Lib.hid (HB.out.trans (Below.mono hJ HB.out.size))
        replace HT := Lib.hid (HT.out.later hJ)
        replace HA := Lib.hid ((Below.block hJ _ (L.blk_lt HA.out)).trans HA.out)
        replace HO := Lib.hid ((Below.block hJ _ (L.blk_lt HO.out)).trans HO.out)
        replace HX := Lib.hid (HX.out.below hJ)
        replace HZ := Lib.hid (HZ.out.below hJ)
        replace HP1 := Lib.hid (HP1.out.below hJ)
        replace HP2 := Lib.hid HP2
        have hH3 : Keeps wq3 wq3 := Below.refl _ _
        clear hK K hbq hH2 hJ
        refine wpAnyH_take (i := 9) (oi := { dst := some 66, op := Go.Op.convert 35 9 (Go.Operand.tmp 65), type := 9, pos := "law.go:51", after := #[{ on := 8, ground := Go.Ground.data }, { on := 1, ground := Go.Ground.guard }], guard := some (1, true) }) (v := ?_) rfl (by kernel_rfl) (by kernel_rfl) (by kernel_rfl) (fun _ _ _ h => h) (Or.inl ⟨by rfl, ?_⟩) hH3 ?_
        rotate_left
        · (intro wz hSz; have hcz := conv_in qc (HP2.out.below hSz); go_simp; try with_reducible rfl)
        simp only [Act.put, List.setIfInBounds_toArray, List.set_cons_zero, List.set_cons_succ]
        refine wpAnyH_take (i := 10) (oi := { dst := some 67, op := Go.Op.binOp Go.BinOp.eql 9 (Go.Operand.tmp 62) (Go.Operand.tmp 66) 9, type := 4, pos := "law.go:51", after := #[{ on := 5, ground := Go.Ground.data }, { on := 9, ground := Go.Ground.data }, { on := 1, ground := Go.Ground.guard }], guard := some (1, true) }) (v := ?_) rfl (by kernel_rfl) (by kernel_rfl) (by kernel_rfl) (fun _ _ _ h => h) (Or.inl ⟨by rfl, ?_⟩) hH3 ?_
        rotate_left
        · (intro wz hSz; (try dsimp only at hSz); go_simp; try with_reducible rfl)
        simp only [Act.put, List.setIfInBounds_toArray, List.set_cons_zero, List.set_cons_succ]
        refine wpAnyH_take (i := 11) (oi := { dst := some 68, op := Go.Op.pick (Go.Operand.tmp 58) (Go.Operand.tmp 67) (Go.Operand.const (Go.Value.bool false)), type := 4, pos := "law.go:51", after := #[{ on := 1, ground := Go.Ground.data }, { on := 10, ground := Go.Ground.data }], guard := none }) (v := ?_) rfl (by kernel_rfl) (by kernel_rfl) (by kernel_rfl) (fun _ _ _ h => h) (Or.inl ⟨by rfl, ?_⟩) hH3 ?_
        rotate_left
        · (intro wz hSz; (try dsimp only at hSz); go_simp; try with_reducible rfl)
        simp only [Act.put, List.setIfInBounds_toArray, List.set_cons_zero, List.set_cons_succ]
        refine wpAnyH_take (i := 12) (oi := { dst := some 69, op := Go.Op.move (Go.Operand.tmp 68), type := 4, pos := "law.go:51", after := #[{ on := 11, ground := Go.Ground.data }, { on := 8, ground := Go.Ground.chain }], guard := none }) (v := ?_) rfl (by kernel_rfl) (by kernel_rfl) (by kernel_rfl) (fun _ _ _ h => h) (Or.inl ⟨by rfl, ?_⟩) hH3 ?_
        rotate_left
        · (intro wz hSz; (try dsimp only at hSz); go_simp; try with_reducible rfl)
        simp only [Act.put, List.setIfInBounds_toArray, List.set_cons_zero, List.set_cons_succ]
        refine wpAnyH_take (i := 13) (oi := { dst := some 70, op := Go.Op.load 25 (Go.Operand.tmp 5), type := 25, pos := "law.go:51", after := #[{ on := 12, ground := Go.Ground.guard }], guard := some (12, true) }) (v := ?_) rfl (by kernel_rfl) (by kernel_rfl) (by kernel_rfl) (fun _ _ _ h => h) (Or.inl ⟨by rfl, ?_⟩) hH3 ?_
        rotate_left
        · (intro wz hSz; have hcz := True.intro; obtain ⟨c0, c1⟩ := lab_cells ((Below.block hSz _ (L.blk_lt HA.out)).trans HA.out); go_simp; try with_reducible rfl)
        simp only [Act.put, List.setIfInBounds_toArray, List.set_cons_zero, List.set_cons_succ]
        refine wpAnyH_take (i := 14) (oi := { dst := some 71, op := Go.Op.load 25 (Go.Operand.tmp 4), type := 25, pos := "law.go:51", after := #[{ on := 12, ground := Go.Ground.guard }], guard := some (12, true) }) (v := ?_) rfl (by kernel_rfl) (by kernel_rfl) (by kernel_rfl) (fun _ _ _ h => h) (Or.inl ⟨by rfl, ?_⟩) hH3 ?_
        rotate_left
        · (intro wz hSz; have hcz := True.intro; obtain ⟨c0, c1⟩ := lab_cells ((Below.block hSz _ (L.blk_lt HO.out)).trans HO.out); go_simp; try with_reducible rfl)
        simp only [Act.put, List.setIfInBounds_toArray, List.set_cons_zero, List.set_cons_succ]
        refine wpAnyH_ready (rs := [15]) (by kernel_rfl) (by simp) ?_
        refine AllReadyH.cons (o := { dst := some 72, op := Go.Op.call { callee := Go.Callee.value (Go.Operand.func 17), args := #[Go.Operand.tmp 70, Go.Operand.tmp 71], argTypes := #[25, 25] }, type := 4, pos := "law.go:51", after := #[{ on := 13, ground := Go.Ground.data }, { on := 14, ground := Go.Ground.data }, { on := 12, ground := Go.Ground.chain }, { on := 12, ground := Go.Ground.guard }], guard := some (12, true) }) rfl (fun K hK => ?_) AllReadyH.nil
        go_simp
        with_reducible refine (HRB.out.call _).mono ?_
        rintro r wq4 ⟨rfl, hbq⟩
        go_wp2_with fail
        refine hK.out _ _ (Keeps.trans hH3 hbq) (fun hJ => ?_)
        refine wpAnyH_more (S' := Keeps wq4) (fun z hz => Keeps.trans hJ hz) _ _ _ _ ?_
        replace HB := Lib.hid (HB.out.trans (Below.mono hJ HB.out.size))
        replace HT := Lib.hid (HT.out.later hJ)
        replace HA := Lib.hid ((Below.block hJ _ (L.blk_lt HA.out)).trans HA.out)
        replace HO := Lib.hid ((Below.block hJ _ (L.blk_lt HO.out)).trans HO.out)
        replace HX := Lib.hid (HX.out.below hJ)
        replace HZ := Lib.hid (HZ.out.below hJ)
        replace HP1 := Lib.hid (HP1.out.below hJ)
        replace HP2 := Lib.hid (HP2.out.below hJ)
        have hH4 : Keeps wq4 wq4 := Below.refl _ _
        clear hK K hbq hH3 hJ
        refine wpAnyH_take (i := 16) (oi := { dst := some 73, op := Go.Op.unOp Go.UnOp.not 4 (Go.Operand.tmp 72), type := 4, pos := "law.go:51", after := #[{ on := 15, ground := Go.Ground.data }, { on := 12, ground := Go.Ground.guard }], guard := some (12, true) }) (v := ?_) rfl (by kernel_rfl) (by kernel_rfl) (by kernel_rfl) (fun _ _ _ h => h) (Or.inl ⟨by rfl, ?_⟩) hH4 ?_
        rotate_left
        · (intro wz hSz; (try dsimp only at hSz); go_simp; try with_reducible rfl)
        simp only [Act.put, List.setIfInBounds_toArray, List.set_cons_zero, List.set_cons_succ]
        refine wpAnyH_take (i := 17) (oi := { dst := some 74, op := Go.Op.move (Go.Operand.tmp 73), type := 4, pos := "law.go:51", after := #[{ on := 16, ground := Go.Ground.data }, { on := 15, ground := Go.Ground.chain }, { on := 12, ground := Go.Ground.guard }], guard := some (12, true) }) (v := ?_) rfl (by kernel_rfl) (by kernel_rfl) (by kernel_rfl) (fun _ _ _ h => h) (Or.inl ⟨by rfl, ?_⟩) hH4 ?_
        rotate_left
        · (intro wz hSz; (try dsimp only at hSz); go_simp; try with_reducible rfl)
        simp only [Act.put, List.setIfInBounds_toArray, List.set_cons_zero, List.set_cons_succ]
        refine wpAnyH_take (i := 18) (oi := { dst := some 75, op := Go.Op.move (Go.Operand.tmp 7), type := 26, pos := "law.go:51", after := #[{ on := 17, ground := Go.Ground.guard }], guard := some (17, false) }) (v := undef) rfl (by kernel_rfl) (by kernel_rfl) (by kernel_rfl) (fun _ _ _ h => h) (Or.inr ⟨by rfl, rfl⟩) hH4 ?_
        simp only [Act.put, List.setIfInBounds_toArray, List.set_cons_zero, List.set_cons_succ]
        refine wpAnyH_take (i := 19) (oi := { dst := some 76, op := Go.Op.load 25 (Go.Operand.tmp 5), type := 25, pos := "law.go:51", after := #[{ on := 17, ground := Go.Ground.guard }], guard := some (17, false) }) (v := undef) rfl (by kernel_rfl) (by kernel_rfl) (by kernel_rfl) (fun _ _ _ h => h) (Or.inr ⟨by rfl, rfl⟩) hH4 ?_
        simp only [Act.put, List.setIfInBounds_toArray, List.set_cons_zero, List.set_cons_succ]
        refine wpAnyH_take (i := 21) (oi := { dst := some 78, op := Go.Op.move (Go.Operand.tmp 12), type := 26, pos := "law.go:51", after := #[{ on := 17, ground := Go.Ground.guard }], guard := some (17, false) }) (v := undef) rfl (by kernel_rfl) (by kernel_rfl) (by kernel_rfl) (fun _ _ _ h => h) (Or.inr ⟨by rfl, rfl⟩) hH4 ?_
        simp only [Act.put, List.setIfInBounds_toArray, List.set_cons_zero, List.set_cons_succ]
        refine wpAnyH_take (i := 22) (oi := { dst := some 79, op := Go.Op.load 25 (Go.Operand.tmp 5), type := 25, pos := "law.go:51", after := #[{ on := 17, ground := Go.Ground.guard }], guard := some (17, false) }) (v := undef) rfl (by kernel_rfl) (by kernel_rfl) (by kernel_rfl) (fun _ _ _ h => h) (Or.inr ⟨by rfl, rfl⟩) hH4 ?_
        simp only [Act.put, List.setIfInBounds_toArray, List.set_cons_zero, List.set_cons_succ]
        refine wpAnyH_take (i := 20) (oi := { dst := some 77, op := Go.Op.call { callee := Go.Callee.value (Go.Operand.func 9), args := #[Go.Operand.tmp 75, Go.Operand.tmp 76], argTypes := #[26, 25] }, type := 3, pos := "law.go:51", after := #[{ on := 18, ground := Go.Ground.data }, { on := 19, ground := Go.Ground.data }, { on := 17, ground := Go.Ground.chain }, { on := 17, ground := Go.Ground.guard }], guard := some (17, false) }) (v := undef) rfl (by kernel_rfl) (by kernel_rfl) (by kernel_rfl) (fun _ _ _ h => h) (Or.inr ⟨by rfl, rfl⟩) hH4 ?_
        simp only [Act.put, List.setIfInBounds_toArray, List.set_cons_zero, List.set_cons_succ]
        refine wpAnyH_take (i := 23) (oi := { dst := some 80, op := Go.Op.call { callee := Go.Callee.value (Go.Operand.func 9), args := #[Go.Operand.tmp 78, Go.Operand.tmp 79], argTypes := #[26, 25] }, type := 3, pos := "law.go:51", after := #[{ on := 21, ground := Go.Ground.data }, { on := 22, ground := Go.Ground.data }, { on := 20, ground := Go.Ground.chain }, { on := 17, ground := Go.Ground.guard }], guard := some (17, false) }) (v := undef) rfl (by kernel_rfl) (by kernel_rfl) (by kernel_rfl) (fun _ _ _ h => h) (Or.inr ⟨by rfl, rfl⟩) hH4 ?_
        simp only [Act.put, List.setIfInBounds_toArray, List.set_cons_zero, List.set_cons_succ]
        refine wpAnyH_take (i := 24) (oi := { dst := some 81, op := Go.Op.binOp Go.BinOp.eql 3 (Go.Operand.tmp 77) (Go.Operand.tmp 80) 3, type := 4, pos := "law.go:51", after := #[{ on := 20, ground := Go.Ground.data }, { on := 23, ground := Go.Ground.data }, { on := 17, ground := Go.Ground.guard }], guard := some (17, false) }) (v := undef) rfl (by kernel_rfl) (by kernel_rfl) (by kernel_rfl) (fun _ _ _ h => h) (Or.inr ⟨by rfl, rfl⟩) hH4 ?_
        simp only [Act.put, List.setIfInBounds_toArray, List.set_cons_zero, List.set_cons_succ]
        refine wpAnyH_take (i := 25) (oi := { dst := some 82, op := Go.Op.pick (Go.Operand.tmp 74) (Go.Operand.const (Go.Value.bool true)) (Go.Operand.tmp 81), type := 4, pos := "law.go:51", after := #[{ on := 17, ground := Go.Ground.data }, { on := 24, ground := Go.Ground.data }, { on := 12, ground := Go.Ground.guard }], guard := some (12, true) }) (v := ?_) rfl (by kernel_rfl) (by kernel_rfl) (by kernel_rfl) (fun _ _ _ h => h) (Or.inl ⟨by rfl, ?_⟩) hH4 ?_
        rotate_left
        · (intro wz hSz; (try dsimp only at hSz); go_simp; try with_reducible rfl)
        simp only [Act.put, List.setIfInBounds_toArray, List.set_cons_zero, List.set_cons_succ]
        refine wpAnyH_take (i := 26) (oi := { dst := some 83, op := Go.Op.pick (Go.Operand.tmp 69) (Go.Operand.tmp 82) (Go.Operand.const (Go.Value.bool false)), type := 4, pos := "law.go:51", after := #[{ on := 12, ground := Go.Ground.data }, { on := 25, ground := Go.Ground.data }], guard := none }) (v := ?_) rfl (by kernel_rfl) (by kernel_rfl) (by kernel_rfl) (fun _ _ _ h => h) (Or.inl ⟨by rfl, ?_⟩) hH4 ?_
        rotate_left
        · (intro wz hSz; (try dsimp only at hSz); go_simp; try with_reducible rfl)
        simp only [Act.put, List.setIfInBounds_toArray, List.set_cons_zero, List.set_cons_succ]
        refine wpAnyH_take (i := 27) (oi := { dst := some 6, op := Go.Op.assign (Go.Operand.tmp 83), type := 4, pos := "law.go:51", after := #[{ on := 26, ground := Go.Ground.data }, { on := 23, ground := Go.Ground.chain }, { on := 0, ground := Go.Ground.phase }, { on := 1, ground := Go.Ground.phase }, { on := 2, ground := Go.Ground.phase }, { on := 3, ground := Go.Ground.phase }, { on := 4, ground := Go.Ground.phase }, { on := 5, ground := Go.Ground.phase }, { on := 6, ground := Go.Ground.phase }, { on := 7, ground := Go.Ground.phase }, { on := 8, ground := Go.Ground.phase }, { on := 9, ground := Go.Ground.phase }, { on := 10, ground := Go.Ground.phase }, { on := 11, ground := Go.Ground.phase }, { on := 12, ground := Go.Ground.phase }, { on := 13, ground := Go.Ground.phase }, { on := 14, ground := Go.Ground.phase }, { on := 15, ground := Go.Ground.phase }, { on := 16, ground := Go.Ground.phase }, { on := 17, ground := Go.Ground.phase }, { on := 18, ground := Go.Ground.phase }, { on := 19, ground := Go.Ground.phase }, { on := 20, ground := Go.Ground.phase }, { on := 21, ground := Go.Ground.phase }, { on := 22, ground := Go.Ground.phase }, { on := 23, ground := Go.Ground.phase }, { on := 24, ground := Go.Ground.phase }, { on := 25, ground := Go.Ground.phase }, { on := 26, ground := Go.Ground.phase }], guard := none }) (v := ?_) rfl (by kernel_rfl) (by kernel_rfl) (by kernel_rfl) (fun _ _ _ h => h) (Or.inl ⟨by rfl, ?_⟩) hH4 ?_
        rotate_left
        · (intro wz hSz; (try dsimp only at hSz); go_simp; try with_reducible rfl)
        simp only [Act.put, List.setIfInBounds_toArray, List.set_cons_zero, List.set_cons_succ]
        refine wpAnyH_done (by kernel_rfl) ?_ _
        go_wp2_with fail
        go_ret
        exact ⟨rfl, HB.out⟩
      · skip
        go_upto_region 8 with fail
        go_wp2_with fail
        with_reducible refine HPZ2.out.mono ?_
        rintro e w3 ⟨bz, yz, rfl, hz, hy, hb3⟩
        replace HPR := Lib.hid (HPR.out bx)
        replace HPZ := Lib.hid (HPZ.out bz)
        replace HB := Lib.hid (HB.out.trans (hb3.mono HB.out.size))
        replace HT := Lib.hid (HT.out.later hb3)
        replace HA := Lib.hid ((hb3.block _ (L.blk_lt HA.out)).trans HA.out)
        have HO := Lib.hid ((hb3.block _ (L.blk_lt HOB.out)).trans HOB.out)
        replace HX := Lib.hid (HX.out.below hb3)
        have HZ := Lib.hid hz
        clear hz hy hb3 HPZ2 HOB
        go_upto_region 11 with fail
        refine wp_region_held_drew (S := (Keeps w3)) (by kernel_rfl) (keeps_drew _) (fun hH0 => ?_)
        refine wpAnyH_ready (rs := [0]) (by kernel_rfl) (by simp) ?_
        refine AllReadyH.cons (o := { dst := some 57, op := Go.Op.call { callee := Go.Callee.value (Go.Operand.func 8), args := #[], argTypes := #[] }, type := 4, pos := "law.go:51", after := #[], guard := none }) rfl (fun K hK => ?_) AllReadyH.nil
        go_simp
        with_reducible refine (live20 _ (HT.out.later hH0.b)).mono ?_
        rintro r wq1 ⟨rfl, hbq⟩
        go_wp2_with fail
        refine hK.out _ _ (Keeps.trans hH0 hbq) (fun hJ => ?_)
        refine wpAnyH_more (S' := Keeps wq1) (fun z hz => Keeps.trans hJ hz) _ _ _ _ ?_
        replace HB := Lib.hid (HB.out.trans (Below.mono hJ HB.out.size))
        replace HT := Lib.hid (HT.out.later hJ)
        replace HA := Lib.hid ((Below.block hJ _ (L.blk_lt HA.out)).trans HA.out)
        replace HO := Lib.hid ((Below.block hJ _ (L.blk_lt HO.out)).trans HO.out)
        replace HX := Lib.hid (HX.out.below hJ)
        replace HZ := Lib.hid (HZ.out.below hJ)
        have hH1 : Keeps wq1 wq1 := Below.refl _ _
        clear hK K hbq hH0 hJ
        refine wpAnyH_take (i := 1) (oi := { dst := some 58, op := Go.Op.move (Go.Operand.tmp 57), type := 4, pos := "law.go:51", after := #[{ on := 0, ground := Go.Ground.data }, { on := 0, ground := Go.Ground.chain }], guard := none }) (v := ?_) rfl (by kernel_rfl) (by kernel_rfl) (by kernel_rfl) (fun _ _ _ h => h) (Or.inl ⟨by rfl, ?_⟩) hH1 ?_
        rotate_left
        · (intro wz hSz; (try dsimp only at hSz); go_simp; try with_reducible rfl)
        simp only [Act.put, List.setIfInBounds_toArray, List.set_cons_zero, List.set_cons_succ]
        refine wpAnyH_take (i := 2) (oi := { dst := some 59, op := Go.Op.move (Go.Operand.tmp 7), type := 26, pos := "law.go:51", after := #[{ on := 1, ground := Go.Ground.guard }], guard := some (1, true) }) (v := ?_) rfl (by kernel_rfl) (by kernel_rfl) (by kernel_rfl) (fun _ _ _ h => h) (Or.inl ⟨by rfl, ?_⟩) hH1 ?_
        rotate_left
        · (intro wz hSz; (try dsimp only at hSz); go_simp; try with_reducible rfl)
        simp only [Act.put, List.setIfInBounds_toArray, List.set_cons_zero, List.set_cons_succ]
        refine wpAnyH_take (i := 3) (oi := { dst := some 60, op := Go.Op.load 25 (Go.Operand.tmp 4), type := 25, pos := "law.go:51", after := #[{ on := 1, ground := Go.Ground.guard }], guard := some (1, true) }) (v := ?_) rfl (by kernel_rfl) (by kernel_rfl) (by kernel_rfl) (fun _ _ _ h => h) (Or.inl ⟨by rfl, ?_⟩) hH1 ?_
        rotate_left
        · (intro wz hSz; have hcz := True.intro; obtain ⟨c0, c1⟩ := lab_cells ((Below.block hSz _ (L.blk_lt HO.out)).trans HO.out); go_simp; try with_reducible rfl)
        simp only [Act.put, List.setIfInBounds_toArray, List.set_cons_zero, List.set_cons_succ]
        refine wpAnyH_take (i := 6) (oi := { dst := some 63, op := Go.Op.move (Go.Operand.tmp 12), type := 26, pos := "law.go:51", after := #[{ on := 1, ground := Go.Ground.guard }], guard := some (1, true) }) (v := ?_) rfl (by kernel_rfl) (by kernel_rfl) (by kernel_rfl) (fun _ _ _ h => h) (Or.inl ⟨by rfl, ?_⟩) hH1 ?_
        rotate_left
        · (intro wz hSz; (try dsimp only at hSz); go_simp; try with_reducible rfl)
        simp only [Act.put, List.setIfInBounds_toArray, List.set_cons_zero, List.set_cons_succ]
        refine wpAnyH_take (i := 7) (oi := { dst := some 64, op := Go.Op.load 25 (Go.Operand.tmp 4), type := 25, pos := "law.go:51", after := #[{ on := 1, ground := Go.Ground.guard }], guard := some (1, true) }) (v := ?_) rfl (by kernel_rfl) (by kernel_rfl) (by kernel_rfl) (fun _ _ _ h => h) (Or.inl ⟨by rfl, ?_⟩) hH1 ?_
        rotate_left
        · (intro wz hSz; have hcz := True.intro; obtain ⟨c0, c1⟩ := lab_cells ((Below.block hSz _ (L.blk_lt HO.out)).trans HO.out); go_simp; try with_reducible rfl)
        simp only [Act.put, List.setIfInBounds_toArray, List.set_cons_zero, List.set_cons_succ]
        refine wpAnyH_ready (rs := [4]) (by kernel_rfl) (by simp) ?_
        refine AllReadyH.cons (o := { dst := some 61, op := Go.Op.call { callee := Go.Callee.value (Go.Operand.func 15), args := #[Go.Operand.tmp 59, Go.Operand.tmp 60], argTypes := #[26, 25] }, type := 35, pos := "law.go:51", after := #[{ on := 2, ground := Go.Ground.data }, { on := 3, ground := Go.Ground.data }, { on := 1, ground := Go.Ground.chain }, { on := 1, ground := Go.Ground.guard }], guard := some (1, true) }) rfl (fun K hK => ?_) AllReadyH.nil
        go_simp
        with_reducible refine (HPR.out.at (HX.out.below hH1.b) (HT.out.later hH1.b)).mono ?_
        rintro r wq2 ⟨PB, pc, rfl, HP1, hbq⟩
        go_wp2_with fail
        refine hK.out _ _ (Keeps.trans hH1 hbq) (fun hJ => ?_)
        refine wpAnyH_more (S' := Keeps wq2) (fun z hz => Keeps.trans hJ hz) _ _ _ _ ?_
        replace HB := Lib.hid (HB.out.trans (Below.mono hJ HB.out.size))
        replace HT := Lib.hid (HT.out.later hJ)
        replace HA := Lib.hid ((Below.block hJ _ (L.blk_lt HA.out)).trans HA.out)
        replace HO := Lib.hid ((Below.block hJ _ (L.blk_lt HO.out)).trans HO.out)
        replace HX := Lib.hid (HX.out.below hJ)
        replace HZ := Lib.hid (HZ.out.below hJ)
        replace HP1 := Lib.hid HP1
        have hH2 : Keeps wq2 wq2 := Below.refl _ _
        clear hK K hbq hH1 hJ
        refine wpAnyH_take (i := 5) (oi := { dst := some 62, op := Go.Op.convert 35 9 (Go.Operand.tmp 61), type := 9, pos := "law.go:51", after := #[{ on := 4, ground := Go.Ground.data }, { on := 1, ground := Go.Ground.guard }], guard := some (1, true) }) (v := ?_) rfl (by kernel_rfl) (by kernel_rfl) (by kernel_rfl) (fun _ _ _ h => h) (Or.inl ⟨by rfl, ?_⟩) hH2 ?_
        rotate_left
        · (intro wz hSz; have hcz := conv_in pc (HP1.out.below hSz); go_simp; try with_reducible rfl)
        simp only [Act.put, List.setIfInBounds_toArray, List.set_cons_zero, List.set_cons_succ]
        refine wpAnyH_ready (rs := [8]) (by kernel_rfl) (by simp) ?_
        refine AllReadyH.cons (o := { dst := some 65, op := Go.Op.call { callee := Go.Callee.value (Go.Operand.func 15), args := #[Go.Operand.tmp 63, Go.Operand.tmp 64], argTypes := #[26, 25] }, type := 35, pos := "law.go:51", after := #[{ on := 6, ground := Go.Ground.data }, { on := 7, ground := Go.Ground.data }, { on := 4, ground := Go.Ground.chain }, { on := 1, ground := Go.Ground.guard }], guard := some (1, true) }) rfl (fun K hK => ?_) AllReadyH.nil
        go_simp
        with_reducible refine (HPZ.out.at (HZ.out.below hH2.b) (HT.out.later hH2.b)).mono ?_
        rintro r wq3 ⟨QB, qc, rfl, HP2, hbq⟩
        go_wp2_with fail
        refine hK.out _ _ (Keeps.trans hH2 hbq) (fun hJ => ?_)
        refine wpAnyH_more (S' := Keeps wq3) (fun z hz => Keeps.trans hJ hz) _ _ _ _ ?_
        replace HB := Lib.hid (HB.out.trans (Below.mono hJ HB.out.size))
        replace HT := Lib.hid (HT.out.later hJ)
        replace HA := Lib.hid ((Below.block hJ _ (L.blk_lt HA.out)).trans HA.out)
        replace HO := Lib.hid ((Below.block hJ _ (L.blk_lt HO.out)).trans HO.out)
        replace HX := Lib.hid (HX.out.below hJ)
        replace HZ := Lib.hid (HZ.out.below hJ)
        replace HP1 := Lib.hid (HP1.out.below hJ)
        replace HP2 := Lib.hid HP2
        have hH3 : Keeps wq3 wq3 := Below.refl _ _
        clear hK K hbq hH2 hJ
        refine wpAnyH_take (i := 9) (oi := { dst := some 66, op := Go.Op.convert 35 9 (Go.Operand.tmp 65), type := 9, pos := "law.go:51", after := #[{ on := 8, ground := Go.Ground.data }, { on := 1, ground := Go.Ground.guard }], guard := some (1, true) }) (v := ?_) rfl (by kernel_rfl) (by kernel_rfl) (by kernel_rfl) (fun _ _ _ h => h) (Or.inl ⟨by rfl, ?_⟩) hH3 ?_
        rotate_left
        · (intro wz hSz; have hcz := conv_in qc (HP2.out.below hSz); go_simp; try with_reducible rfl)
        simp only [Act.put, List.setIfInBounds_toArray, List.set_cons_zero, List.set_cons_succ]
        refine wpAnyH_take (i := 10) (oi := { dst := some 67, op := Go.Op.binOp Go.BinOp.eql 9 (Go.Operand.tmp 62) (Go.Operand.tmp 66) 9, type := 4, pos := "law.go:51", after := #[{ on := 5, ground := Go.Ground.data }, { on := 9, ground := Go.Ground.data }, { on := 1, ground := Go.Ground.guard }], guard := some (1, true) }) (v := ?_) rfl (by kernel_rfl) (by kernel_rfl) (by kernel_rfl) (fun _ _ _ h => h) (Or.inl ⟨by rfl, ?_⟩) hH3 ?_
        rotate_left
        · (intro wz hSz; (try dsimp only at hSz); go_simp; try with_reducible rfl)
        simp only [Act.put, List.setIfInBounds_toArray, List.set_cons_zero, List.set_cons_succ]
        refine wpAnyH_take (i := 11) (oi := { dst := some 68, op := Go.Op.pick (Go.Operand.tmp 58) (Go.Operand.tmp 67) (Go.Operand.const (Go.Value.bool false)), type := 4, pos := "law.go:51", after := #[{ on := 1, ground := Go.Ground.data }, { on := 10, ground := Go.Ground.data }], guard := none }) (v := ?_) rfl (by kernel_rfl) (by kernel_rfl) (by kernel_rfl) (fun _ _ _ h => h) (Or.inl ⟨by rfl, ?_⟩) hH3 ?_
        rotate_left
        · (intro wz hSz; (try dsimp only at hSz); go_simp; try with_reducible rfl)
        simp only [Act.put, List.setIfInBounds_toArray, List.set_cons_zero, List.set_cons_succ]
        refine wpAnyH_take (i := 12) (oi := { dst := some 69, op := Go.Op.move (Go.Operand.tmp 68), type := 4, pos := "law.go:51", after := #[{ on := 11, ground := Go.Ground.data }, { on := 8, ground := Go.Ground.chain }], guard := none }) (v := ?_) rfl (by kernel_rfl) (by kernel_rfl) (by kernel_rfl) (fun _ _ _ h => h) (Or.inl ⟨by rfl, ?_⟩) hH3 ?_
        rotate_left
        · (intro wz hSz; (try dsimp only at hSz); go_simp; try with_reducible rfl)
        simp only [Act.put, List.setIfInBounds_toArray, List.set_cons_zero, List.set_cons_succ]
        refine wpAnyH_take (i := 13) (oi := { dst := some 70, op := Go.Op.load 25 (Go.Operand.tmp 5), type := 25, pos := "law.go:51", after := #[{ on := 12, ground := Go.Ground.guard }], guard := some (12, true) }) (v := ?_) rfl (by kernel_rfl) (by kernel_rfl) (by kernel_rfl) (fun _ _ _ h => h) (Or.inl ⟨by rfl, ?_⟩) hH3 ?_
        rotate_left
        · (intro wz hSz; have hcz := True.intro; obtain ⟨c0, c1⟩ := lab_cells ((Below.block hSz _ (L.blk_lt HA.out)).trans HA.out); go_simp; try with_reducible rfl)
        simp only [Act.put, List.setIfInBounds_toArray, List.set_cons_zero, List.set_cons_succ]
        refine wpAnyH_take (i := 14) (oi := { dst := some 71, op := Go.Op.load 25 (Go.Operand.tmp 4), type := 25, pos := "law.go:51", after := #[{ on := 12, ground := Go.Ground.guard }], guard := some (12, true) }) (v := ?_) rfl (by kernel_rfl) (by kernel_rfl) (by kernel_rfl) (fun _ _ _ h => h) (Or.inl ⟨by rfl, ?_⟩) hH3 ?_
        rotate_left
        · (intro wz hSz; have hcz := True.intro; obtain ⟨c0, c1⟩ := lab_cells ((Below.block hSz _ (L.blk_lt HO.out)).trans HO.out); go_simp; try with_reducible rfl)
        simp only [Act.put, List.setIfInBounds_toArray, List.set_cons_zero, List.set_cons_succ]
        refine wpAnyH_ready (rs := [15]) (by kernel_rfl) (by simp) ?_
        refine AllReadyH.cons (o := { dst := some 72, op := Go.Op.call { callee := Go.Callee.value (Go.Operand.func 17), args := #[Go.Operand.tmp 70, Go.Operand.tmp 71], argTypes := #[25, 25] }, type := 4, pos := "law.go:51", after := #[{ on := 13, ground := Go.Ground.data }, { on := 14, ground := Go.Ground.data }, { on := 12, ground := Go.Ground.chain }, { on := 12, ground := Go.Ground.guard }], guard := some (12, true) }) rfl (fun K hK => ?_) AllReadyH.nil
        go_simp
        with_reducible refine (HRB.out.call _).mono ?_
        rintro r wq4 ⟨rfl, hbq⟩
        go_wp2_with fail
        refine hK.out _ _ (Keeps.trans hH3 hbq) (fun hJ => ?_)
        refine wpAnyH_more (S' := Keeps wq4) (fun z hz => Keeps.trans hJ hz) _ _ _ _ ?_
        replace HB := Lib.hid (HB.out.trans (Below.mono hJ HB.out.size))
        replace HT := Lib.hid (HT.out.later hJ)
        replace HA := Lib.hid ((Below.block hJ _ (L.blk_lt HA.out)).trans HA.out)
        replace HO := Lib.hid ((Below.block hJ _ (L.blk_lt HO.out)).trans HO.out)
        replace HX := Lib.hid (HX.out.below hJ)
        replace HZ := Lib.hid (HZ.out.below hJ)
        replace HP1 := Lib.hid (HP1.out.below hJ)
        replace HP2 := Lib.hid (HP2.out.below hJ)
        have hH4 : Keeps wq4 wq4 := Below.refl _ _
        clear hK K hbq hH3 hJ
        refine wpAnyH_take (i := 16) (oi := { dst := some 73, op := Go.Op.unOp Go.UnOp.not 4 (Go.Operand.tmp 72), type := 4, pos := "law.go:51", after := #[{ on := 15, ground := Go.Ground.data }, { on := 12, ground := Go.Ground.guard }], guard := some (12, true) }) (v := ?_) rfl (by kernel_rfl) (by kernel_rfl) (by kernel_rfl) (fun _ _ _ h => h) (Or.inl ⟨by rfl, ?_⟩) hH4 ?_
        rotate_left
        · (intro wz hSz; (try dsimp only at hSz); go_simp; try with_reducible rfl)
        simp only [Act.put, List.setIfInBounds_toArray, List.set_cons_zero, List.set_cons_succ]
        refine wpAnyH_take (i := 17) (oi := { dst := some 74, op := Go.Op.move (Go.Operand.tmp 73), type := 4, pos := "law.go:51", after := #[{ on := 16, ground := Go.Ground.data }, { on := 15, ground := Go.Ground.chain }, { on := 12, ground := Go.Ground.guard }], guard := some (12, true) }) (v := ?_) rfl (by kernel_rfl) (by kernel_rfl) (by kernel_rfl) (fun _ _ _ h => h) (Or.inl ⟨by rfl, ?_⟩) hH4 ?_
        rotate_left
        · (intro wz hSz; (try dsimp only at hSz); go_simp; try with_reducible rfl)
        simp only [Act.put, List.setIfInBounds_toArray, List.set_cons_zero, List.set_cons_succ]
        refine wpAnyH_take (i := 18) (oi := { dst := some 75, op := Go.Op.move (Go.Operand.tmp 7), type := 26, pos := "law.go:51", after := #[{ on := 17, ground := Go.Ground.guard }], guard := some (17, false) }) (v := undef) rfl (by kernel_rfl) (by kernel_rfl) (by kernel_rfl) (fun _ _ _ h => h) (Or.inr ⟨by rfl, rfl⟩) hH4 ?_
        simp only [Act.put, List.setIfInBounds_toArray, List.set_cons_zero, List.set_cons_succ]
        refine wpAnyH_take (i := 19) (oi := { dst := some 76, op := Go.Op.load 25 (Go.Operand.tmp 5), type := 25, pos := "law.go:51", after := #[{ on := 17, ground := Go.Ground.guard }], guard := some (17, false) }) (v := undef) rfl (by kernel_rfl) (by kernel_rfl) (by kernel_rfl) (fun _ _ _ h => h) (Or.inr ⟨by rfl, rfl⟩) hH4 ?_
        simp only [Act.put, List.setIfInBounds_toArray, List.set_cons_zero, List.set_cons_succ]
        refine wpAnyH_take (i := 21) (oi := { dst := some 78, op := Go.Op.move (Go.Operand.tmp 12), type := 26, pos := "law.go:51", after := #[{ on := 17, ground := Go.Ground.guard }], guard := some (17, false) }) (v := undef) rfl (by kernel_rfl) (by kernel_rfl) (by kernel_rfl) (fun _ _ _ h => h) (Or.inr ⟨by rfl, rfl⟩) hH4 ?_
        simp only [Act.put, List.setIfInBounds_toArray, List.set_cons_zero, List.set_cons_succ]
        refine wpAnyH_take (i := 22) (oi := { dst := some 79, op := Go.Op.load 25 (Go.Operand.tmp 5), type := 25, pos := "law.go:51", after := #[{ on := 17, ground := Go.Ground.guard }], guard := some (17, false) }) (v := undef) rfl (by kernel_rfl) (by kernel_rfl) (by kernel_rfl) (fun _ _ _ h => h) (Or.inr ⟨by rfl, rfl⟩) hH4 ?_
        simp only [Act.put, List.setIfInBounds_toArray, List.set_cons_zero, List.set_cons_succ]
        refine wpAnyH_take (i := 20) (oi := { dst := some 77, op := Go.Op.call { callee := Go.Callee.value (Go.Operand.func 9), args := #[Go.Operand.tmp 75, Go.Operand.tmp 76], argTypes := #[26, 25] }, type := 3, pos := "law.go:51", after := #[{ on := 18, ground := Go.Ground.data }, { on := 19, ground := Go.Ground.data }, { on := 17, ground := Go.Ground.chain }, { on := 17, ground := Go.Ground.guard }], guard := some (17, false) }) (v := undef) rfl (by kernel_rfl) (by kernel_rfl) (by kernel_rfl) (fun _ _ _ h => h) (Or.inr ⟨by rfl, rfl⟩) hH4 ?_
        simp only [Act.put, List.setIfInBounds_toArray, List.set_cons_zero, List.set_cons_succ]
        refine wpAnyH_take (i := 23) (oi := { dst := some 80, op := Go.Op.call { callee := Go.Callee.value (Go.Operand.func 9), args := #[Go.Operand.tmp 78, Go.Operand.tmp 79], argTypes := #[26, 25] }, type := 3, pos := "law.go:51", after := #[{ on := 21, ground := Go.Ground.data }, { on := 22, ground := Go.Ground.data }, { on := 20, ground := Go.Ground.chain }, { on := 17, ground := Go.Ground.guard }], guard := some (17, false) }) (v := undef) rfl (by kernel_rfl) (by kernel_rfl) (by kernel_rfl) (fun _ _ _ h => h) (Or.inr ⟨by rfl, rfl⟩) hH4 ?_
        simp only [Act.put, List.setIfInBounds_toArray, List.set_cons_zero, List.set_cons_succ]
        refine wpAnyH_take (i := 24) (oi := { dst := some 81, op := Go.Op.binOp Go.BinOp.eql 3 (Go.Operand.tmp 77) (Go.Operand.tmp 80) 3, type := 4, pos := "law.go:51", after := #[{ on := 20, ground := Go.Ground.data }, { on := 23, ground := Go.Ground.data }, { on := 17, ground := Go.Ground.guard }], guard := some (17, false) }) (v := undef) rfl (by kernel_rfl) (by kernel_rfl) (by kernel_rfl) (fun _ _ _ h => h) (Or.inr ⟨by rfl, rfl⟩) hH4 ?_
        simp only [Act.put, List.setIfInBounds_toArray, List.set_cons_zero, List.set_cons_succ]
        refine wpAnyH_take (i := 25) (oi := { dst := some 82, op := Go.Op.pick (Go.Operand.tmp 74) (Go.Operand.const (Go.Value.bool true)) (Go.Operand.tmp 81), type := 4, pos := "law.go:51", after := #[{ on := 17, ground := Go.Ground.data }, { on := 24, ground := Go.Ground.data }, { on := 12, ground := Go.Ground.guard }], guard := some (12, true) }) (v := ?_) rfl (by kernel_rfl) (by kernel_rfl) (by kernel_rfl) (fun _ _ _ h => h) (Or.inl ⟨by rfl, ?_⟩) hH4 ?_
        rotate_left
        · (intro wz hSz; (try dsimp only at hSz); go_simp; try with_reducible rfl)
        simp only [Act.put, List.setIfInBounds_toArray, List.set_cons_zero, List.set_cons_succ]
        refine wpAnyH_take (i := 26) (oi := { dst := some 83, op := Go.Op.pick (Go.Operand.tmp 69) (Go.Operand.tmp 82) (Go.Operand.const (Go.Value.bool false)), type := 4, pos := "law.go:51", after := #[{ on := 12, ground := Go.Ground.data }, { on := 25, ground := Go.Ground.data }], guard := none }) (v := ?_) rfl (by kernel_rfl) (by kernel_rfl) (by kernel_rfl) (fun _ _ _ h => h) (Or.inl ⟨by rfl, ?_⟩) hH4 ?_
        rotate_left
        · (intro wz hSz; (try dsimp only at hSz); go_simp; try with_reducible rfl)
        simp only [Act.put, List.setIfInBounds_toArray, List.set_cons_zero, List.set_cons_succ]
        refine wpAnyH_take (i := 27) (oi := { dst := some 6, op := Go.Op.assign (Go.Operand.tmp 83), type := 4, pos := "law.go:51", after := #[{ on := 26, ground := Go.Ground.data }, { on := 23, ground := Go.Ground.chain }, { on := 0, ground := Go.Ground.phase }, { on := 1, ground := Go.Ground.phase }, { on := 2, ground := Go.Ground.phase }, { on := 3, ground := Go.Ground.phase }, { on := 4, ground := Go.Ground.phase }, { on := 5, ground := Go.Ground.phase }, { on := 6, ground := Go.Ground.phase }, { on := 7, ground := Go.Ground.phase }, { on := 8, ground := Go.Ground.phase }, { on := 9, ground := Go.Ground.phase }, { on := 10, ground := Go.Ground.phase }, { on := 11, ground := Go.Ground.phase }, { on := 12, ground := Go.Ground.phase }, { on := 13, ground := Go.Ground.phase }, { on := 14, ground := Go.Ground.phase }, { on := 15, ground := Go.Ground.phase }, { on := 16, ground := Go.Ground.phase }, { on := 17, ground := Go.Ground.phase }, { on := 18, ground := Go.Ground.phase }, { on := 19, ground := Go.Ground.phase }, { on := 20, ground := Go.Ground.phase }, { on := 21, ground := Go.Ground.phase }, { on := 22, ground := Go.Ground.phase }, { on := 23, ground := Go.Ground.phase }, { on := 24, ground := Go.Ground.phase }, { on := 25, ground := Go.Ground.phase }, { on := 26, ground := Go.Ground.phase }], guard := none }) (v := ?_) rfl (by kernel_rfl) (by kernel_rfl) (by kernel_rfl) (fun _ _ _ h => h) (Or.inl ⟨by rfl, ?_⟩) hH4 ?_
        rotate_left
        · (intro wz hSz; (try dsimp only at hSz); go_simp; try with_reducible rfl)
        simp only [Act.put, List.setIfInBounds_toArray, List.set_cons_zero, List.set_cons_succ]
        refine wpAnyH_done (by kernel_rfl) ?_ _
        go_wp2_with fail
        go_ret
        exact ⟨rfl, HB.out⟩
theorem ablind_law {w : World} {A : Option Addr} {c : Nat} {l : List Et} {a0 o0 : Int} {a1 o1 : Nat} (hA : EtsIn w A l) (hok : ∀ e ∈ l, EtOk e) (hl : l.length ≤ maxLen) (ho : o1 < 18446744073709551616) (ha : a1 < 18446744073709551616) (hT : Tab w) :
    Calls Tryd.prog 4 #[.slice A l.length c, .agg #[.int .i64 o0, .int .u64 (o1 : Int)], .agg #[.int .i64 a0, .int .u64 (a1 : Int)]] w fun e w' => e = .returned (.bool true) ∧ Below w.heap.size w w' := by
  have h := fine_ls hok
  have hys : (seen o0 o1 (l.take 60)).length ≤ 60 := Nat.le_trans (seen_len _ _ _) (List.length_take_le _ _)
  have hyo : ∀ e ∈ seen o0 o1 (l.take 60), EtOk e := fun e he => hok e (List.mem_of_mem_take (List.mem_filter.1 he).1)
  have hz : LsOk (fine (seen o0 o1 (l.take 60))) := by
    have := fine_ls hyo
    rwa [List.take_of_length_le hys] at this
  have hpr : ∀ bx, PrC 52 15 bx (fine (seen o0 o1 (l.take 60))) o0 o1 (text o0 o1 (fine (l.take 60))) := fun bx => by
    have := c_print (b := bx) (a0 := o0) hz ho
    rwa [few_text] at this
  have hpf : ∀ W B d ys, ys = seen o0 o1 (l.take 60) → EtsIn W B ys → Calls Tryd.prog 7 #[.slice B ys.length d] W fun e w' => ∃ bx yb, e = .returned (.tuple #[.pointer (some ⟨bx, 0, none⟩), .pointer (some ⟨yb, 0, none⟩), .bool true]) ∧ LgR w' 52 bx (fine (seen o0 o1 (l.take 60))) ∧ LgR w' 50 yb (fine (seen o0 o1 (l.take 60))) ∧ Below W.heap.size W w' := fun W B d ys e hB => by
    subst e
    have := play_rd (A := B) (c := d) hyo (by unfold maxLen; omega) W hB
    rwa [List.take_of_length_le hys] at this
  have hct : ∀ (k : Nat) (h : k < l.length), RbC l[k].lv o0 l[k].ct o1 (blE o0 o1 l[k]) := fun k h w => L.refBelow_any _ _ _ _ w (hok _ (List.getElem_mem h)).ct
  have hrb : RbC a0 o0 a1 o1 (L.belowB a0 a1 o0 o1) := fun w => L.refBelow_any a0 o0 a1 o1 w ha
  unfold maxLen at hl
  cases hb : L.belowB a0 a1 o0 o1 with
  | false =>
    rw [hb] at hrb
    exact ablind_no (Lib.hid hT) (Lib.hid hA) (by omega) (Lib.hid hct) (Lib.hid (play_rd hok (by unfold maxLen; omega))) (Lib.hid hpf) (Lib.hid fun _ => c_print h ho) (Lib.hid hpr) (Lib.hid hrb)
  | true =>
    rw [hb] at hrb
    have hoz : ∀ bx, OfC 9 52 bx (fine (seen o0 o1 (l.take 60))) a0 a1 (cnt a0 a1 (fine (l.take 60))) := fun bx => by
      have := c_of (b := bx) (a0 := a0) (a1 := a1) hz
      rwa [few_cnt hb] at this
    exact ablind_yes (Lib.hid hT) (Lib.hid hA) (by omega) (Lib.hid hct) (Lib.hid (play_rd hok (by unfold maxLen; omega))) (Lib.hid hpf) (Lib.hid fun _ => c_print h ho) (Lib.hid hpr) (Lib.hid hrb) (Lib.hid fun _ => c_of h) (Lib.hid hoz)

end Go.Proofs.YtbfohfmipfapdaaDoor.Au
