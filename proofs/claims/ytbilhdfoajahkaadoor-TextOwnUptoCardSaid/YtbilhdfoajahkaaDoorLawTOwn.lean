/-
  The law TextOwn, walked: it returns true for every bytes of a bulk of at most 2^20, where the library's table of powers of ten holds what its text lays.
-/
import Derived.Test.YtbilhdfoajahkaaDoorTextO
import Derived.Test.YtbilhdfoajahkaaDoorLiveA
import Derived.Deep.DeepCutAuto
namespace Go.Proofs.YtbilhdfoajahkaaDoor.T
open Go.RowKit

set_option maxHeartbeats 4000000 in
set_option maxRecDepth 100000 in
theorem town_law (A0 : Option Addr) (cap0 : Nat) (l : List UInt8) (xs : List (List UInt8 × Bool)) (w : World) (HT : Hid (Tab w)) (H0 : Hid (BytesIn w A0 l)) (hc : l.length ≤ cap0) (hz : A0 = none → cap0 = 0) (hl : l.length ≤ 1048576)
    (LL : LinesOwn l xs) (JO : JoinOwn xs l) (RL : RLinesOf l xs) (SX : SameOf xs) (JJ : JoinOf xs l) :
    Calls Tryd.prog 8 #[.slice A0 l.length cap0] w fun e w' => e = .returned (.bool true) ∧ Below w.heap.size w w' := by
  obtain ⟨i0, hi0, hz0, hz1, hz2⟩ := info_parts infoByte
  have hw0 : (w.alloc (.cells #[] 5)).ownsRow w.heap.size 5 1 (.slice (some ⟨w.heap.size, 0, none⟩) 0 0) 0 (byteCells []) := ⟨by simp [byteCells], .inr ⟨w.heap.size, 0, #[], rfl, Nat.le_refl _, heap_alloc_new w _, Nat.le_refl _, by simp [maxLen], rfl, rfl⟩⟩
  have hb0 : Below w.heap.size w (w.alloc (.cells #[] 5)) := (Below.refl _ _).alloc (Nat.le_refl _) _
  have HZ := Lib.hid hz
  clear hz
  go_enter Tryd.func8, Tryd.ntmps8
  go_wp2_with (at_builtin; refine append_bytes rfl (.tmp 8) (.tmp 9) 22 rfl w.heap.size 5 i0 _ Tryd.underlying22 hi0 hz0 hz1 hz2 rfl _ 0 (byteCells []) rfl hw0 A0 cap0 l rfl (H0.out.below hb0) HZ.out ?c1 ?c2 ?c3 ?_)
  case c1 => simp only [maxLen]; omega
  case c2 => omega
  case c3 => simp
  intro v w1 hown hg1
  have hbe1 : Below w.heap.size w w1 := hb0.grown hg1 (by simp) (own_base hw0)
  rw [show byteCells [] ++ byteCells l = byteCells l from rfl] at hown
  clear hg1 hw0 hb0 HZ
  obtain ⟨A1, cap1, hv, hc1, H1⟩ := bytes_of_own hown
  subst hv
  go_wp2_with fail
  with_reducible refine (LL.call _ _ _ H1 hc1).mono ?_
  rintro r w2 ⟨A2, cap2, rfl, H2, hb2⟩
  have HO : Hid (w2.ownsRow w.heap.size 5 1 (.slice A1 l.length cap1) l.length (byteCells l)) := Lib.hid (own_below hown hb2)
  have HF := Lib.hid (H2 _ (fun g hg => (hown.lt g hg).2))
  have hbe2 : Below w.heap.size w w2 := hbe1.trans (hb2.mono hbe1.size)
  clear hown H1 H2 hb2 hbe1 LL
  go_wp2_with fail
  go_loopg [5] l.length (fun n i wr => ∃ (k : Nat) (cs : List UInt8), k ≤ l.length ∧ i = .int .i64 k ∧ l.length - k ≤ n ∧ cs.length = l.length ∧ Hid (wr.ownsRow w.heap.size 5 1 (.slice A1 l.length cap1) l.length (byteCells cs)) ∧ Hid (LinesOff wr A2 xs (Value.slice A1 l.length cap1).ownBlock) ∧ Below w.heap.size w wr)
  case atStart => exact ⟨0, l, Nat.zero_le _, rfl, by omega, rfl, HO, HF, hbe2⟩
  case round =>
    obtain ⟨k, cs, hk, rfl, hn, hcs, HO, HF, hbel⟩ := hrel
    by_cases hlt : k < l.length
    · obtain ⟨g, hAe, hg, hgl, hcells⟩ := own_at HO.out (by omega)
      subst hAe
      have hkc : k < cs.length := by omega
      have hcell := hcells k _ (by rw [byteCells, List.getElem?_map, List.getElem?_eq_getElem hkc]; rfl)
      have hfr := HO.out.frozenAt k
      have h0k : (0 : Int) ≤ (k : Int) := Int.natCast_nonneg _
      have h1k : (k : Int) < (l.length : Int) := by omega
      have HC := Lib.hid hcells
      clear hcells
      go_wp2_with fail
      go_roundg (l.length - (k + 1))
      case measure => omega
      case rel =>
        obtain ⟨c, hcx⟩ := bits_byte BinOp.xor (cs[k].toNat : Int) 1
        rw [hcx]
        refine ⟨k + 1, cs.set k c, by omega, by go_num, Nat.le_refl _, by simpa using hcs, Lib.hid ?_, Lib.hid (LinesOff.set HF.out), hbel.setCell hg _⟩
        rw [byteCells_set]
        exact (HO.out.stored k _).1
    · obtain rfl : k = l.length := by omega
      generalize wr = w3 at *
      go_wp2_with fail
      with_reducible refine (JO.call _ _ _ HF.out.lines).mono ?_
      rintro r w4 ⟨A4, cap4, rfl, hown4, hb4⟩
      have HP := Lib.hid hown4
      clear hown4
      go_wp2_with fail
      go_loopg [7] l.length (fun n i wr => ∃ (k : Nat) (cs : List UInt8), k ≤ l.length ∧ i = .int .i64 k ∧ l.length - k ≤ n ∧ cs.length = l.length ∧ Hid (wr.ownsRow w3.heap.size 5 1 (.slice A4 l.length cap4) l.length (byteCells cs)) ∧ Below w3.heap.size w3 wr)
      case atStart => exact ⟨0, l, Nat.zero_le _, rfl, by omega, rfl, HP, hb4⟩
      case round =>
        obtain ⟨k, cs, hk, rfl, hn, hcs, HP, hbel5⟩ := hrel
        by_cases hlt : k < l.length
        · obtain ⟨g, hAe, hg, hgl, hcells⟩ := own_at HP.out (by omega)
          subst hAe
          have hkc : k < cs.length := by omega
          have hcell := hcells k _ (by rw [byteCells, List.getElem?_map, List.getElem?_eq_getElem hkc]; rfl)
          have hfr := HP.out.frozenAt k
          have h0k : (0 : Int) ≤ (k : Int) := Int.natCast_nonneg _
          have h1k : (k : Int) < (l.length : Int) := by omega
          have HC := Lib.hid hcells
          clear hcells
          go_wp2_with fail
          go_roundg (l.length - (k + 1))
          case measure => omega
          case rel =>
            obtain ⟨c, hcx⟩ := bits_byte BinOp.xor (cs[k].toNat : Int) 1
            rw [hcx]
            refine ⟨k + 1, cs.set k c, by omega, by go_num, Nat.le_refl _, by simpa using hcs, Lib.hid ?_, hbel5.setCell hg _⟩
            rw [byteCells_set]
            exact (HP.out.stored k _).1
        · obtain rfl : k = l.length := by omega
          have HB := Lib.hid (hbel.trans (hbel5.mono hbel.size))
          replace HT := Lib.hid (HT.out.later HB.out)
          replace H0 := Lib.hid (H0.out.below HB.out)
          have H2 := Lib.hid (HF.out.lines.below hbel5)
          clear HF HO HP hb4 hbel hbel5
          generalize wr = w5 at *
          go_upto_region 12 with fail
          refine wp_region_held_drew (S := (Keeps w5)) (by kernel_rfl) (keeps_drew _) (fun hH0 => ?_)
          refine wpAnyH_ready (rs := [0]) (by kernel_rfl) (by simp) ?_
          refine AllReadyH.cons (o := { dst := some 39, op := Go.Op.call { callee := Go.Callee.value (Go.Operand.func 15), args := #[], argTypes := #[] }, type := 4, pos := "law.go:73", after := #[], guard := none }) rfl (fun K hK => ?_) AllReadyH.nil
          go_simp
          with_reducible refine (live1 _ (HT.out.later hH0.b)).mono ?_
          rintro r wq1 ⟨rfl, hbq⟩
          go_wp2_with fail
          refine hK.out _ _ (Keeps.trans hH0 hbq) (fun hJ => ?_)
          refine wpAnyH_more (S' := Keeps wq1) (fun z hz => Keeps.trans hJ hz) _ _ _ _ ?_
          replace HB := Lib.hid (HB.out.trans (Below.mono hJ HB.out.size))
          replace HT := Lib.hid (HT.out.later hJ)
          replace H0 := Lib.hid (H0.out.below hJ)
          replace H2 := Lib.hid (H2.out.below hJ)
          have hH1 : Keeps wq1 wq1 := Below.refl _ _
          clear hK K hbq hH0 hJ
          refine wpAnyH_take (i := 1) (oi := { dst := some 40, op := Go.Op.move (Go.Operand.tmp 39), type := 4, pos := "law.go:73", after := #[{ on := 0, ground := Go.Ground.data }, { on := 0, ground := Go.Ground.chain }], guard := none }) (v := ?_) rfl (by kernel_rfl) (by kernel_rfl) (by kernel_rfl) (fun _ _ _ h => h) (Or.inl ⟨by rfl, ?_⟩) hH1 ?_
          rotate_left
          · (intro wz hSz; (try dsimp only at hSz); go_simp; try with_reducible rfl)
          simp only [Act.put, List.setIfInBounds_toArray, List.set_cons_zero, List.set_cons_succ]
          refine wpAnyH_take (i := 2) (oi := { dst := some 41, op := Go.Op.move (Go.Operand.tmp 4), type := 23, pos := "law.go:73", after := #[{ on := 1, ground := Go.Ground.guard }], guard := some (1, true) }) (v := ?_) rfl (by kernel_rfl) (by kernel_rfl) (by kernel_rfl) (fun _ _ _ h => h) (Or.inl ⟨by rfl, ?_⟩) hH1 ?_
          rotate_left
          · (intro wz hSz; (try dsimp only at hSz); go_simp; try with_reducible rfl)
          simp only [Act.put, List.setIfInBounds_toArray, List.set_cons_zero, List.set_cons_succ]
          refine wpAnyH_take (i := 3) (oi := { dst := some 42, op := Go.Op.move (Go.Operand.tmp 0), type := 22, pos := "law.go:73", after := #[{ on := 1, ground := Go.Ground.guard }], guard := some (1, true) }) (v := ?_) rfl (by kernel_rfl) (by kernel_rfl) (by kernel_rfl) (fun _ _ _ h => h) (Or.inl ⟨by rfl, ?_⟩) hH1 ?_
          rotate_left
          · (intro wz hSz; (try dsimp only at hSz); go_simp; try with_reducible rfl)
          simp only [Act.put, List.setIfInBounds_toArray, List.set_cons_zero, List.set_cons_succ]
          refine wpAnyH_ready (rs := [4]) (by kernel_rfl) (by simp) ?_
          refine AllReadyH.cons (o := { dst := some 43, op := Go.Op.call { callee := Go.Callee.value (Go.Operand.func 18), args := #[Go.Operand.tmp 42], argTypes := #[22] }, type := 23, pos := "law.go:73", after := #[{ on := 3, ground := Go.Ground.data }, { on := 1, ground := Go.Ground.chain }, { on := 1, ground := Go.Ground.guard }], guard := some (1, true) }) rfl (fun K hK => ?_) AllReadyH.nil
          go_simp
          with_reducible refine (RL.call _ _ _ (H0.out.below hH1.b) hc).mono ?_
          rintro r wq2 ⟨A5, cap5, rfl, H5, hbq⟩
          go_wp2_with fail
          refine hK.out _ _ (Keeps.trans hH1 hbq) (fun hJ => ?_)
          refine wpAnyH_more (S' := Keeps wq2) (fun z hz => Keeps.trans hJ hz) _ _ _ _ ?_
          replace HB := Lib.hid (HB.out.trans (Below.mono hJ HB.out.size))
          replace HT := Lib.hid (HT.out.later hJ)
          replace H0 := Lib.hid (H0.out.below hJ)
          replace H2 := Lib.hid (H2.out.below hJ)
          replace H5 := Lib.hid H5
          have hH2 : Keeps wq2 wq2 := Below.refl _ _
          clear hK K hbq hH1 hJ
          refine wpAnyH_ready (rs := [5]) (by kernel_rfl) (by simp) ?_
          refine AllReadyH.cons (o := { dst := some 44, op := Go.Op.call { callee := Go.Callee.value (Go.Operand.func 16), args := #[Go.Operand.tmp 41, Go.Operand.tmp 43], argTypes := #[23, 23] }, type := 4, pos := "law.go:73", after := #[{ on := 2, ground := Go.Ground.data }, { on := 4, ground := Go.Ground.data }, { on := 4, ground := Go.Ground.chain }, { on := 1, ground := Go.Ground.guard }], guard := some (1, true) }) rfl (fun K hK => ?_) AllReadyH.nil
          go_simp
          with_reducible refine (SX.call _ _ _ _ _ (H2.out.below hH2.b) (H5.out.below hH2.b)).mono ?_
          rintro r wq3 ⟨rfl, hbq⟩
          go_wp2_with fail
          refine hK.out _ _ (Keeps.trans hH2 hbq) (fun hJ => ?_)
          refine wpAnyH_more (S' := Keeps wq3) (fun z hz => Keeps.trans hJ hz) _ _ _ _ ?_
          replace HB := Lib.hid (HB.out.trans (Below.mono hJ HB.out.size))
          replace HT := Lib.hid (HT.out.later hJ)
          replace H0 := Lib.hid (H0.out.below hJ)
          replace H2 := Lib.hid (H2.out.below hJ)
          replace H5 := Lib.hid (H5.out.below hJ)
          have hH3 : Keeps wq3 wq3 := Below.refl _ _
          clear hK K hbq hH2 hJ
          refine wpAnyH_take (i := 6) (oi := { dst := some 45, op := Go.Op.pick (Go.Operand.tmp 40) (Go.Operand.tmp 44) (Go.Operand.const (Go.Value.bool false)), type := 4, pos := "law.go:73", after := #[{ on := 1, ground := Go.Ground.data }, { on := 5, ground := Go.Ground.data }], guard := none }) (v := ?_) rfl (by kernel_rfl) (by kernel_rfl) (by kernel_rfl) (fun _ _ _ h => h) (Or.inl ⟨by rfl, ?_⟩) hH3 ?_
          rotate_left
          · (intro wz hSz; (try dsimp only at hSz); go_simp; try with_reducible rfl)
          simp only [Act.put, List.setIfInBounds_toArray, List.set_cons_zero, List.set_cons_succ]
          refine wpAnyH_take (i := 7) (oi := { dst := some 46, op := Go.Op.move (Go.Operand.tmp 45), type := 4, pos := "law.go:73", after := #[{ on := 6, ground := Go.Ground.data }, { on := 5, ground := Go.Ground.chain }], guard := none }) (v := ?_) rfl (by kernel_rfl) (by kernel_rfl) (by kernel_rfl) (fun _ _ _ h => h) (Or.inl ⟨by rfl, ?_⟩) hH3 ?_
          rotate_left
          · (intro wz hSz; (try dsimp only at hSz); go_simp; try with_reducible rfl)
          simp only [Act.put, List.setIfInBounds_toArray, List.set_cons_zero, List.set_cons_succ]
          refine wpAnyH_take (i := 8) (oi := { dst := some 47, op := Go.Op.move (Go.Operand.tmp 4), type := 23, pos := "law.go:73", after := #[{ on := 7, ground := Go.Ground.guard }], guard := some (7, true) }) (v := ?_) rfl (by kernel_rfl) (by kernel_rfl) (by kernel_rfl) (fun _ _ _ h => h) (Or.inl ⟨by rfl, ?_⟩) hH3 ?_
          rotate_left
          · (intro wz hSz; (try dsimp only at hSz); go_simp; try with_reducible rfl)
          simp only [Act.put, List.setIfInBounds_toArray, List.set_cons_zero, List.set_cons_succ]
          refine wpAnyH_take (i := 11) (oi := { dst := some 50, op := Go.Op.move (Go.Operand.tmp 0), type := 22, pos := "law.go:73", after := #[{ on := 7, ground := Go.Ground.guard }], guard := some (7, true) }) (v := ?_) rfl (by kernel_rfl) (by kernel_rfl) (by kernel_rfl) (fun _ _ _ h => h) (Or.inl ⟨by rfl, ?_⟩) hH3 ?_
          rotate_left
          · (intro wz hSz; (try dsimp only at hSz); go_simp; try with_reducible rfl)
          simp only [Act.put, List.setIfInBounds_toArray, List.set_cons_zero, List.set_cons_succ]
          refine wpAnyH_take (i := 12) (oi := { dst := some 51, op := Go.Op.convert 22 9 (Go.Operand.tmp 50), type := 9, pos := "law.go:73", after := #[{ on := 11, ground := Go.Ground.data }, { on := 7, ground := Go.Ground.guard }], guard := some (7, true) }) (v := ?_) rfl (by kernel_rfl) (by kernel_rfl) (by kernel_rfl) (fun _ _ _ h => h) (Or.inl ⟨by rfl, ?_⟩) hH3 ?_
          rotate_left
          · (intro wz hSz; have hcz := conv_in cap0 (H0.out.below hSz); go_simp; try with_reducible rfl)
          simp only [Act.put, List.setIfInBounds_toArray, List.set_cons_zero, List.set_cons_succ]
          refine wpAnyH_ready (rs := [9]) (by kernel_rfl) (by simp) ?_
          refine AllReadyH.cons (o := { dst := some 48, op := Go.Op.call { callee := Go.Callee.value (Go.Operand.func 19), args := #[Go.Operand.tmp 47], argTypes := #[23] }, type := 22, pos := "law.go:73", after := #[{ on := 8, ground := Go.Ground.data }, { on := 7, ground := Go.Ground.chain }, { on := 7, ground := Go.Ground.guard }], guard := some (7, true) }) rfl (fun K hK => ?_) AllReadyH.nil
          go_simp
          with_reducible refine (JJ.call _ _ _ (H2.out.below hH3.b)).mono ?_
          rintro r wq4 ⟨A6, cap6, rfl, hc6, H6, hbq⟩
          go_wp2_with fail
          refine hK.out _ _ (Keeps.trans hH3 hbq) (fun hJ => ?_)
          refine wpAnyH_more (S' := Keeps wq4) (fun z hz => Keeps.trans hJ hz) _ _ _ _ ?_
          replace HB := Lib.hid (HB.out.trans (Below.mono hJ HB.out.size))
          replace HT := Lib.hid (HT.out.later hJ)
          replace H0 := Lib.hid (H0.out.below hJ)
          replace H2 := Lib.hid (H2.out.below hJ)
          replace H5 := Lib.hid (H5.out.below hJ)
          replace H6 := Lib.hid H6
          have hH4 : Keeps wq4 wq4 := Below.refl _ _
          clear hK K hbq hH3 hJ
          refine wpAnyH_take (i := 10) (oi := { dst := some 49, op := Go.Op.convert 22 9 (Go.Operand.tmp 48), type := 9, pos := "law.go:73", after := #[{ on := 9, ground := Go.Ground.data }, { on := 7, ground := Go.Ground.guard }], guard := some (7, true) }) (v := ?_) rfl (by kernel_rfl) (by kernel_rfl) (by kernel_rfl) (fun _ _ _ h => h) (Or.inl ⟨by rfl, ?_⟩) hH4 ?_
          rotate_left
          · (intro wz hSz; have hcz := conv_in cap6 (H6.out.below hSz); go_simp; try with_reducible rfl)
          simp only [Act.put, List.setIfInBounds_toArray, List.set_cons_zero, List.set_cons_succ]
          refine wpAnyH_take (i := 13) (oi := { dst := some 52, op := Go.Op.binOp Go.BinOp.eql 9 (Go.Operand.tmp 49) (Go.Operand.tmp 51) 9, type := 4, pos := "law.go:73", after := #[{ on := 10, ground := Go.Ground.data }, { on := 12, ground := Go.Ground.data }, { on := 7, ground := Go.Ground.guard }], guard := some (7, true) }) (v := ?_) rfl (by kernel_rfl) (by kernel_rfl) (by kernel_rfl) (fun _ _ _ h => h) (Or.inl ⟨by rfl, ?_⟩) hH4 ?_
          rotate_left
          · (intro wz hSz; (try dsimp only at hSz); go_simp; try with_reducible rfl)
          simp only [Act.put, List.setIfInBounds_toArray, List.set_cons_zero, List.set_cons_succ]
          refine wpAnyH_take (i := 14) (oi := { dst := some 53, op := Go.Op.pick (Go.Operand.tmp 46) (Go.Operand.tmp 52) (Go.Operand.const (Go.Value.bool false)), type := 4, pos := "law.go:73", after := #[{ on := 7, ground := Go.Ground.data }, { on := 13, ground := Go.Ground.data }], guard := none }) (v := ?_) rfl (by kernel_rfl) (by kernel_rfl) (by kernel_rfl) (fun _ _ _ h => h) (Or.inl ⟨by rfl, ?_⟩) hH4 ?_
          rotate_left
          · (intro wz hSz; (try dsimp only at hSz); go_simp; try with_reducible rfl)
          simp only [Act.put, List.setIfInBounds_toArray, List.set_cons_zero, List.set_cons_succ]
          refine wpAnyH_take (i := 15) (oi := { dst := some 2, op := Go.Op.assign (Go.Operand.tmp 53), type := 4, pos := "law.go:73", after := #[{ on := 14, ground := Go.Ground.data }, { on := 9, ground := Go.Ground.chain }, { on := 0, ground := Go.Ground.phase }, { on := 1, ground := Go.Ground.phase }, { on := 2, ground := Go.Ground.phase }, { on := 3, ground := Go.Ground.phase }, { on := 4, ground := Go.Ground.phase }, { on := 5, ground := Go.Ground.phase }, { on := 6, ground := Go.Ground.phase }, { on := 7, ground := Go.Ground.phase }, { on := 8, ground := Go.Ground.phase }, { on := 9, ground := Go.Ground.phase }, { on := 10, ground := Go.Ground.phase }, { on := 11, ground := Go.Ground.phase }, { on := 12, ground := Go.Ground.phase }, { on := 13, ground := Go.Ground.phase }, { on := 14, ground := Go.Ground.phase }], guard := none }) (v := ?_) rfl (by kernel_rfl) (by kernel_rfl) (by kernel_rfl) (fun _ _ _ h => h) (Or.inl ⟨by rfl, ?_⟩) hH4 ?_
          rotate_left
          · (intro wz hSz; (try dsimp only at hSz); go_simp; try with_reducible rfl)
          simp only [Act.put, List.setIfInBounds_toArray, List.set_cons_zero, List.set_cons_succ]
          refine wpAnyH_done (by kernel_rfl) ?_ _
          go_wp2_with fail
          go_ret
          exact ⟨rfl, HB.out⟩
theorem town_walk (A0 : Option Addr) (cap0 : Nat) (l : List UInt8) (w : World) (hc : l.length ≤ cap0) (hz : A0 = none → cap0 = 0) (h0 : BytesIn w A0 l) (hl : l.length ≤ 1048576) (ht : Tab w) :
    Calls Tryd.prog 8 #[.slice A0 l.length cap0] w fun e w' => e = .returned (.bool true) ∧ Below w.heap.size w w' := by
  have hbx : P.bulk (P.lines [] l) ≤ 4194304 := by have := P.lines_bulk l []; simp at this; omega
  have hjx := P.join_lines l []
  have JJ := joinOf (P.lines [] l) hbx
  have JO := joinOwn (P.lines [] l) hbx
  rw [hjx] at JJ JO
  exact town_law A0 cap0 l _ w (Lib.hid ht) (Lib.hid h0) hc hz hl (linesOwn l (by omega)) JO (rlinesOf l (by omega)) (sameOf _ (by have := P.length_bulk (P.lines [] l); omega)) JJ
end Go.Proofs.YtbilhdfoajahkaaDoor.T
