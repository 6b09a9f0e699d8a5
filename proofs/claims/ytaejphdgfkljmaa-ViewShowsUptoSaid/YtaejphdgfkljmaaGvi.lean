/-
  The law ViewEnds, walked over what the code's functions come to.
  The laws of layer 5, each with the program's own functions (ViewPuts apart); what must be whatever is asked.
-/
import Derived.Test.YtaejphdgfkljmaaGvd
import Derived.Deep.DeepCutAuto
import Derived.Deep.RegionHeld3
import Derived.Test.YtaejphdgfkljmaaGvf
import Derived.Test.YtaejphdgfkljmaaGvg
import Derived.Test.YtaejphdgfkljmaaGvh
namespace Go.Proofs.Ytaejphdgfkljmaa.V
set_option linter.unusedVariables false
set_option linter.unusedSimpArgs false
open Go.RowKit
open T
open I (It Lb ItemsIn ItemsAt ItemsOk itCells itCells_snoc itCells_at items_cells items_own own_at own_below infoItem alloc1)

/-- A cell of a block that is there. -/
structure CA (w : World) (b o : Nat) (v : Value) : Prop where
  lt : b < w.heap.size
  at0 : w.cell? ⟨b, o, none⟩ = some v
theorem CA.kept {w w' : World} {b o : Nat} {v : Value} (h : CA w b o v) (hb : Below w.heap.size w w') : w'.cell? ⟨b, o, none⟩ = some v := (hb.cell h.lt).trans h.at0
theorem CA.on {w w' : World} {b o : Nat} {v : Value} (h : CA w b o v) (hb : Below w.heap.size w w') : CA w' b o v := ⟨Nat.lt_of_lt_of_le h.lt hb.size, h.kept hb⟩
/-- What the law asks of a view. -/
structure Ended (o : Lb) (l : List It) (ls : List (List UInt8 × Bool)) (ts ds : List Int) (at_ : Nat → Nat) : Prop where
  l1 : ls.length = ts.length
  l2 : ds.length = ts.length
  lt : ∀ i, i < ts.length → at_ i < l.length
  is : ∀ i (hi : i < ts.length), ts[i] = (at_ i : Int)
  up : ∀ i, i + 1 < ts.length → at_ i < at_ (i + 1)
  id : ∀ i (hi : i < ds.length) (hj : at_ i < l.length), ds[i] = l[at_ i].id
  see : ∀ i (_ : i < ts.length) (hj : at_ i < l.length), sees o l[at_ i] = true
  ba : ∀ i (hi : i < ls.length) (hj : at_ i < l.length), ls[i].2 = (decide (i + 1 = ts.length) && l[at_ i].ba)

set_option maxRecDepth 100000 in
set_option maxHeartbeats 8000000 in
theorem vends_law {A : Option Addr} {cap : Nat} {l : List It} {f0 : Int} {f1 : Nat} {hx : ByteArray} {ls : List (List UInt8 × Bool)} {ts ds : List Int} {at_ : Nat → Nat} {w : World} (hts : ts.length ≤ maxLen) (hll : l.length ≤ maxLen) (HCT : Hid (∀ x ∈ l, x.ct < 18446744073709551616)) (HU : Hid (ItemsIn w A l))
    (VO : Hid (VoC 14 A l.length cap f0 f1 hx l ls ts)) (ID : Hid (IdC 21 A l.length cap l ts ds)) (HE : Hid (Ended (f0, f1) l ls ts ds at_)) (LV : Hid (LvC 16)) :
    Calls Try.prog 8 #[.slice A l.length cap, .agg #[.int .i64 f0, .int .u64 (f1 : Int)], .string hx] w fun e w' => e = .returned (.bool true) ∧ Below w.heap.size w w' := by
  unfold maxLen at hts hll
  have HTB := Lib.hid hts
  obtain ⟨W0, hW0⟩ : ∃ W0 : World, W0 = w.alloc (.cells #[.int .i64 f0, .int .u64 (f1 : Int)] 25) := ⟨_, rfl⟩
  have HB := Lib.hid (show Below w.heap.size w W0 by rw [hW0]; exact alloc1 _ _)
  have HP := Lib.hid (show W0.heap[w.heap.size]? = some (.cells #[.int .i64 f0, .int .u64 (f1 : Int)] 25 (0, 0)) by rw [hW0]; exact heap_alloc_new w _)
  obtain ⟨x0, x1⟩ := lab_cells HP.out
  rw [hW0] at x0 x1
  go_enter Try.func8, Try.ntmps8
  go_wp2_with fail
  rw [← hW0]
  clear hW0 x0 x1
  replace HU := Lib.hid (HU.out.below HB.out)
  with_reducible refine (VO.out.at W0 HU.out).mono ?_
  rintro e w1 ⟨L1, lc1, T1, tc1, rfl, hl1, ht1, hb1⟩
  obtain ⟨W1, hW1⟩ : ∃ W : World, W = w1.alloc (.cells #[.slice L1 ls.length lc1, .slice T1 ts.length tc1] 29) := ⟨_, rfl⟩
  have ha1 : Below w1.heap.size w1 W1 := by rw [hW1]; exact alloc1 _ _
  have hb1' : Below W0.heap.size W0 W1 := hb1.trans (ha1.mono hb1.size)
  have HP1 := Lib.hid (show W1.heap[w1.heap.size]? = some (.cells #[.slice L1 ls.length lc1, .slice T1 ts.length tc1] 29 (0, 0)) by rw [hW1]; exact heap_alloc_new w1 _)
  have HL1 := Lib.hid ((lines_own hl1).below ha1)
  have HT1 := Lib.hid ((ints_own ht1).below ha1)
  replace HU := Lib.hid (HU.out.below hb1')
  replace HB := Lib.hid (HB.out.trans (Below.mono hb1' HB.out.size))
  replace HP := Lib.hid ((Below.block hb1' _ (L.blk_lt HP.out)).trans HP.out)
  obtain ⟨y0, y1⟩ := view_cells HP1.out
  rw [hW1] at y0 y1
  clear hb1 hb1' ha1 hl1 ht1 VO
  go_wp2_with fail
  rw [← hW1]
  obtain ⟨v1, hv1⟩ : ∃ v, v = w1.heap.size := ⟨_, rfl⟩
  rw [← hv1]
  rw [← hv1] at HP1
  clear hW1 y0 y1 hv1
  with_reducible refine (ID.out.at W1 HU.out HT1.out).mono ?_
  rintro e w4 ⟨DA, dcap, rfl, hd, hb4⟩
  replace HU := Lib.hid (HU.out.below hb4)
  replace HB := Lib.hid (HB.out.trans (Below.mono hb4 HB.out.size))
  replace HP := Lib.hid ((Below.block hb4 _ (L.blk_lt HP.out)).trans HP.out)
  replace HP1 := Lib.hid ((Below.block hb4 _ (L.blk_lt HP1.out)).trans HP1.out)
  replace HL1 := Lib.hid (HL1.out.below hb4)
  replace HT1 := Lib.hid (HT1.out.below hb4)
  have HD := Lib.hid hd
  clear hd hb4 ID
  obtain ⟨y0, y1⟩ := view_cells HP1.out
  have hz1 : ((ts.length : Int) != (ls.length : Int)) = false := by rw [HE.out.l1]; simp
  have hz2 : ((ds.length : Int) != (ts.length : Int)) = false := by rw [HE.out.l2]; simp
  go_wp2_with fail
  clear hz1 hz2 y0 y1
  go_loopg [9] ts.length (fun m iv wr => ∃ (i : Nat), i ≤ ts.length ∧ iv = .int .i64 i ∧ ts.length - i ≤ m ∧ Below w4.heap.size w4 wr)
  case atStart => exact ⟨0, Nat.zero_le _, rfl, by omega, Below.refl _ _⟩
  case round =>
    obtain ⟨i, hi, rfl, hm, hbr⟩ := hrel
    obtain ⟨y0, y1⟩ := view_cells ((hbr.block _ (L.blk_lt HP1.out)).trans HP1.out)
    by_cases hlt : i < ts.length
    · have hj := HE.out.lt i hlt
      have h0i : (0 : Int) ≤ (i : Int) := by omega
      have hii : (i : Int) < (ts.length : Int) := by omega
      have hil : (i : Int) < (ls.length : Int) := by rw [HE.out.l1]; omega
      have hid : (i : Int) < (ds.length : Int) := by rw [HE.out.l2]; omega
      have h0j : (0 : Int) ≤ (at_ i : Int) := by omega
      have hjl : (at_ i : Int) < (l.length : Int) := by omega
      obtain ⟨bt, ot, hTe, hbt, hIt⟩ := HT1.out (by omega)
      obtain ⟨bd, od, hDe, hbd, hId⟩ := HD.out (by rw [HE.out.l2]; omega)
      obtain ⟨bl, ol, hLe, hbl, hIl⟩ := HL1.out (by rw [HE.out.l1]; omega)
      obtain ⟨bk, off, hAe, hbk, hI⟩ := HU.out (by omega)
      subst hTe hDe hLe hAe
      have hct := HCT.out _ (List.getElem_mem hj)
      have hti := hIt i hlt
      rw [HE.out.is i hlt] at hti
      have hdi := hId i (by rw [HE.out.l2]; exact hlt)
      rw [HE.out.id i (by rw [HE.out.l2]; exact hlt) hj] at hdi
      obtain ⟨-, hbi⟩ := hIl i (by rw [HE.out.l1]; exact hlt)
      rw [HE.out.ba i (by rw [HE.out.l1]; exact hlt) hj] at hbi
      have HI := Lib.hid ((it_at hI hbk hj).below hbr)
      have HTI := Lib.hid (CA.on ⟨hbt, hti⟩ hbr)
      have HDI := Lib.hid (CA.on ⟨hbd, hdi⟩ hbr)
      have HBI := Lib.hid (CA.on ⟨hbl, hbi⟩ hbr)
      have HTQ : Hid (0 < i → ∃ tp : Nat, tp < at_ i ∧ CA wr bt (ot + (i - 1)) (.int .i64 (tp : Int))) := Lib.hid fun h => by
        have h1 := hIt (i - 1) (by omega)
        rw [HE.out.is (i - 1) (by omega)] at h1
        have h2 := HE.out.up (i - 1) (by omega)
        rw [show i - 1 + 1 = i by omega] at h2
        exact ⟨at_ (i - 1), h2, CA.on ⟨hbt, h1⟩ hbr⟩
      have HC : Hid (RbC l[at_ i].lv f0 l[at_ i].ct f1 true) := Lib.hid (by have := rb_is (f0, f1) l[at_ i] hct; rw [HE.out.see i hlt hj] at this; exact this)
      have HPW := HP
      have HP1W := HP1
      have hbs := hbr.size
      have HBR := Lib.hid hbr
      have HBX := Lib.hid (Below.refl wr.heap.size wr)
      clear HP HP1
      have HP := Lib.hid ((hbr.block _ (L.blk_lt HPW.out)).trans HPW.out)
      have HP1 := Lib.hid ((hbr.block _ (L.blk_lt HP1W.out)).trans HP1W.out)
      have tz := HTI.out.at0
      clear hIt hId hIl hI hti hdi hbi hbr hct
      generalize l[at_ i] = x at *
      clear hj
      generalize at_ i = j at *
      go_upto_region 9 with fail
      generalize wr = w5 at *
      have hn1 : decide ((j : Int) < 0) = false := decide_eq_false (by omega)
      have hn2 : decide ((l.length : Int) ≤ (j : Int)) = false := decide_eq_false (by omega)
      have hn3 : decide (l.length ≤ j) = false := decide_eq_false (by omega)
      have hn4 : (x.id != x.id) = false := by simp
      clear y0 y1 tz
      go_cut [88] (fun c wx => c = .bool false ∧ Hid (Below w5.heap.size w5 wx))
      case first =>
        by_cases hi0 : i = 0
        · have hn5 : decide ((0 : Int) < (i : Int)) = false := decide_eq_false (by omega)
          have hn6 : decide (0 < i) = false := decide_eq_false (by omega)
          clear HTQ hi0
          go_wp2_with fail
          refine wp_region_held_drew (S := (Keeps w5)) (by kernel_rfl) (keeps_drew _) (fun hK0 => ?_)
          refine wpAnyH_take (i := 0) (oi := { dst := some 45, op := Go.Op.move (Go.Operand.tmp 10), type := 3, pos := "law.go:131", after := #[], guard := none }) (v := ?_) rfl (by kernel_rfl) (by kernel_rfl) (by kernel_rfl) (fun _ _ _ h => h) (Or.inl ⟨by rfl, ?_⟩) hK0 ?_
          rotate_left
          · (intro wz hSz; (try dsimp only at hSz); go_simp; try with_reducible rfl)
          simp only [Act.put, List.setIfInBounds_toArray, List.set_cons_zero, List.set_cons_succ]
          refine wpAnyH_take (i := 1) (oi := { dst := some 46, op := Go.Op.binOp Go.BinOp.lss 3 (Go.Operand.tmp 45) (Go.Operand.const (Go.Value.int Go.IntKind.i64 0)) 3, type := 4, pos := "law.go:131", after := #[{ on := 0, ground := Go.Ground.data }], guard := none }) (v := ?_) rfl (by kernel_rfl) (by kernel_rfl) (by kernel_rfl) (fun _ _ _ h => h) (Or.inl ⟨by rfl, ?_⟩) hK0 ?_
          rotate_left
          · (intro wz hSz; (try dsimp only at hSz); go_simp; try with_reducible rfl)
          simp only [Act.put, List.setIfInBounds_toArray, List.set_cons_zero, List.set_cons_succ]
          refine wpAnyH_take (i := 2) (oi := { dst := some 47, op := Go.Op.move (Go.Operand.tmp 46), type := 4, pos := "law.go:131", after := #[{ on := 1, ground := Go.Ground.data }], guard := none }) (v := ?_) rfl (by kernel_rfl) (by kernel_rfl) (by kernel_rfl) (fun _ _ _ h => h) (Or.inl ⟨by rfl, ?_⟩) hK0 ?_
          rotate_left
          · (intro wz hSz; (try dsimp only at hSz); go_simp; try with_reducible rfl)
          simp only [Act.put, List.setIfInBounds_toArray, List.set_cons_zero, List.set_cons_succ]
          refine wpAnyH_take (i := 3) (oi := { dst := some 48, op := Go.Op.move (Go.Operand.tmp 10), type := 3, pos := "law.go:131", after := #[{ on := 2, ground := Go.Ground.guard }], guard := some (2, false) }) (v := ?_) rfl (by kernel_rfl) (by kernel_rfl) (by kernel_rfl) (fun _ _ _ h => h) (Or.inl ⟨by rfl, ?_⟩) hK0 ?_
          rotate_left
          · (intro wz hSz; (try dsimp only at hSz); go_simp; try with_reducible rfl)
          simp only [Act.put, List.setIfInBounds_toArray, List.set_cons_zero, List.set_cons_succ]
          refine wpAnyH_take (i := 4) (oi := { dst := some 49, op := Go.Op.move (Go.Operand.tmp 0), type := 22, pos := "law.go:131", after := #[{ on := 2, ground := Go.Ground.guard }], guard := some (2, false) }) (v := ?_) rfl (by kernel_rfl) (by kernel_rfl) (by kernel_rfl) (fun _ _ _ h => h) (Or.inl ⟨by rfl, ?_⟩) hK0 ?_
          rotate_left
          · (intro wz hSz; (try dsimp only at hSz); go_simp; try with_reducible rfl)
          simp only [Act.put, List.setIfInBounds_toArray, List.set_cons_zero, List.set_cons_succ]
          refine wpAnyH_take (i := 5) (oi := { dst := some 50, op := Go.Op.call { callee := Go.Callee.builtin Go.Builtin.len, args := #[Go.Operand.tmp 49], argTypes := #[22] }, type := 3, pos := "law.go:131", after := #[{ on := 4, ground := Go.Ground.data }, { on := 2, ground := Go.Ground.guard }], guard := some (2, false) }) (v := ?_) rfl (by kernel_rfl) (by kernel_rfl) (by kernel_rfl) (fun _ _ _ h => h) (Or.inl ⟨by rfl, ?_⟩) hK0 ?_
          rotate_left
          · (intro wz hSz; (try dsimp only at hSz); go_simp; try with_reducible rfl)
          simp only [Act.put, List.setIfInBounds_toArray, List.set_cons_zero, List.set_cons_succ]
          refine wpAnyH_take (i := 6) (oi := { dst := some 51, op := Go.Op.binOp Go.BinOp.geq 3 (Go.Operand.tmp 48) (Go.Operand.tmp 50) 3, type := 4, pos := "law.go:131", after := #[{ on := 3, ground := Go.Ground.data }, { on := 5, ground := Go.Ground.data }, { on := 2, ground := Go.Ground.guard }], guard := some (2, false) }) (v := ?_) rfl (by kernel_rfl) (by kernel_rfl) (by kernel_rfl) (fun _ _ _ h => h) (Or.inl ⟨by rfl, ?_⟩) hK0 ?_
          rotate_left
          · (intro wz hSz; (try dsimp only at hSz); go_simp; try with_reducible rfl)
          simp only [Act.put, List.setIfInBounds_toArray, List.set_cons_zero, List.set_cons_succ]
          refine wpAnyH_take (i := 7) (oi := { dst := some 52, op := Go.Op.pick (Go.Operand.tmp 47) (Go.Operand.const (Go.Value.bool true)) (Go.Operand.tmp 51), type := 4, pos := "law.go:131", after := #[{ on := 2, ground := Go.Ground.data }, { on := 6, ground := Go.Ground.data }], guard := none }) (v := ?_) rfl (by kernel_rfl) (by kernel_rfl) (by kernel_rfl) (fun _ _ _ h => h) (Or.inl ⟨by rfl, ?_⟩) hK0 ?_
          rotate_left
          · (intro wz hSz; (try dsimp only at hSz); go_simp; try with_reducible rfl)
          simp only [Act.put, List.setIfInBounds_toArray, List.set_cons_zero, List.set_cons_succ]
          refine wpAnyH_take (i := 8) (oi := { dst := some 53, op := Go.Op.move (Go.Operand.tmp 52), type := 4, pos := "law.go:131", after := #[{ on := 7, ground := Go.Ground.data }, { on := 2, ground := Go.Ground.chain }], guard := none }) (v := ?_) rfl (by kernel_rfl) (by kernel_rfl) (by kernel_rfl) (fun _ _ _ h => h) (Or.inl ⟨by rfl, ?_⟩) hK0 ?_
          rotate_left
          · (intro wz hSz; (try dsimp only at hSz); go_simp; try with_reducible rfl)
          simp only [Act.put, List.setIfInBounds_toArray, List.set_cons_zero, List.set_cons_succ]
          refine wpAnyH_take (i := 9) (oi := { dst := some 54, op := Go.Op.move (Go.Operand.tmp 9), type := 3, pos := "law.go:131", after := #[{ on := 8, ground := Go.Ground.guard }], guard := some (8, false) }) (v := ?_) rfl (by kernel_rfl) (by kernel_rfl) (by kernel_rfl) (fun _ _ _ h => h) (Or.inl ⟨by rfl, ?_⟩) hK0 ?_
          rotate_left
          · (intro wz hSz; (try dsimp only at hSz); go_simp; try with_reducible rfl)
          simp only [Act.put, List.setIfInBounds_toArray, List.set_cons_zero, List.set_cons_succ]
          refine wpAnyH_take (i := 10) (oi := { dst := some 55, op := Go.Op.binOp Go.BinOp.gtr 3 (Go.Operand.tmp 54) (Go.Operand.const (Go.Value.int Go.IntKind.i64 0)) 3, type := 4, pos := "law.go:131", after := #[{ on := 9, ground := Go.Ground.data }, { on := 8, ground := Go.Ground.guard }], guard := some (8, false) }) (v := ?_) rfl (by kernel_rfl) (by kernel_rfl) (by kernel_rfl) (fun _ _ _ h => h) (Or.inl ⟨by rfl, ?_⟩) hK0 ?_
          rotate_left
          · (intro wz hSz; (try dsimp only at hSz); go_simp; try with_reducible rfl)
          simp only [Act.put, List.setIfInBounds_toArray, List.set_cons_zero, List.set_cons_succ]
          refine wpAnyH_take (i := 11) (oi := { dst := some 56, op := Go.Op.move (Go.Operand.tmp 55), type := 4, pos := "law.go:131", after := #[{ on := 10, ground := Go.Ground.data }, { on := 8, ground := Go.Ground.chain }, { on := 8, ground := Go.Ground.guard }], guard := some (8, false) }) (v := ?_) rfl (by kernel_rfl) (by kernel_rfl) (by kernel_rfl) (fun _ _ _ h => h) (Or.inl ⟨by rfl, ?_⟩) hK0 ?_
          rotate_left
          · (intro wz hSz; (try dsimp only at hSz); go_simp; try with_reducible rfl)
          simp only [Act.put, List.setIfInBounds_toArray, List.set_cons_zero, List.set_cons_succ]
          refine wpAnyH_take (i := 12) (oi := { dst := some 57, op := Go.Op.move (Go.Operand.tmp 10), type := 3, pos := "law.go:131", after := #[{ on := 11, ground := Go.Ground.guard }], guard := some (11, true) }) (v := undef) rfl (by kernel_rfl) (by kernel_rfl) (by kernel_rfl) (fun _ _ _ h => h) (Or.inr ⟨by rfl, rfl⟩) hK0 ?_
          simp only [Act.put, List.setIfInBounds_toArray, List.set_cons_zero, List.set_cons_succ]
          refine wpAnyH_take (i := 13) (oi := { dst := some 58, op := Go.Op.fieldAddr 29 (Go.Operand.tmp 7) 1, type := 0, pos := "law.go:131", after := #[{ on := 11, ground := Go.Ground.guard }], guard := some (11, true) }) (v := undef) rfl (by kernel_rfl) (by kernel_rfl) (by kernel_rfl) (fun _ _ _ h => h) (Or.inr ⟨by rfl, rfl⟩) hK0 ?_
          simp only [Act.put, List.setIfInBounds_toArray, List.set_cons_zero, List.set_cons_succ]
          refine wpAnyH_take (i := 14) (oi := { dst := some 59, op := Go.Op.load 27 (Go.Operand.tmp 58), type := 27, pos := "law.go:131", after := #[{ on := 13, ground := Go.Ground.data }, { on := 11, ground := Go.Ground.guard }], guard := some (11, true) }) (v := undef) rfl (by kernel_rfl) (by kernel_rfl) (by kernel_rfl) (fun _ _ _ h => h) (Or.inr ⟨by rfl, rfl⟩) hK0 ?_
          simp only [Act.put, List.setIfInBounds_toArray, List.set_cons_zero, List.set_cons_succ]
          refine wpAnyH_take (i := 15) (oi := { dst := some 60, op := Go.Op.move (Go.Operand.tmp 9), type := 3, pos := "law.go:131", after := #[{ on := 11, ground := Go.Ground.guard }], guard := some (11, true) }) (v := undef) rfl (by kernel_rfl) (by kernel_rfl) (by kernel_rfl) (fun _ _ _ h => h) (Or.inr ⟨by rfl, rfl⟩) hK0 ?_
          simp only [Act.put, List.setIfInBounds_toArray, List.set_cons_zero, List.set_cons_succ]
          refine wpAnyH_take (i := 16) (oi := { dst := some 61, op := Go.Op.binOp Go.BinOp.sub 3 (Go.Operand.tmp 60) (Go.Operand.const (Go.Value.int Go.IntKind.i64 1)) 3, type := 3, pos := "law.go:131", after := #[{ on := 15, ground := Go.Ground.data }, { on := 11, ground := Go.Ground.guard }], guard := some (11, true) }) (v := undef) rfl (by kernel_rfl) (by kernel_rfl) (by kernel_rfl) (fun _ _ _ h => h) (Or.inr ⟨by rfl, rfl⟩) hK0 ?_
          simp only [Act.put, List.setIfInBounds_toArray, List.set_cons_zero, List.set_cons_succ]
          refine wpAnyH_take (i := 17) (oi := { dst := some 62, op := Go.Op.indexAddr 27 (Go.Operand.tmp 59) (Go.Operand.tmp 61), type := 0, pos := "law.go:131", after := #[{ on := 14, ground := Go.Ground.data }, { on := 16, ground := Go.Ground.data }, { on := 11, ground := Go.Ground.guard }], guard := some (11, true) }) (v := undef) rfl (by kernel_rfl) (by kernel_rfl) (by kernel_rfl) (fun _ _ _ h => h) (Or.inr ⟨by rfl, rfl⟩) hK0 ?_
          simp only [Act.put, List.setIfInBounds_toArray, List.set_cons_zero, List.set_cons_succ]
          refine wpAnyH_take (i := 18) (oi := { dst := some 63, op := Go.Op.load 3 (Go.Operand.tmp 62), type := 3, pos := "law.go:131", after := #[{ on := 17, ground := Go.Ground.data }, { on := 11, ground := Go.Ground.guard }], guard := some (11, true) }) (v := undef) rfl (by kernel_rfl) (by kernel_rfl) (by kernel_rfl) (fun _ _ _ h => h) (Or.inr ⟨by rfl, rfl⟩) hK0 ?_
          simp only [Act.put, List.setIfInBounds_toArray, List.set_cons_zero, List.set_cons_succ]
          refine wpAnyH_take (i := 19) (oi := { dst := some 64, op := Go.Op.binOp Go.BinOp.leq 3 (Go.Operand.tmp 57) (Go.Operand.tmp 63) 3, type := 4, pos := "law.go:131", after := #[{ on := 12, ground := Go.Ground.data }, { on := 18, ground := Go.Ground.data }, { on := 11, ground := Go.Ground.guard }], guard := some (11, true) }) (v := undef) rfl (by kernel_rfl) (by kernel_rfl) (by kernel_rfl) (fun _ _ _ h => h) (Or.inr ⟨by rfl, rfl⟩) hK0 ?_
          simp only [Act.put, List.setIfInBounds_toArray, List.set_cons_zero, List.set_cons_succ]
          refine wpAnyH_take (i := 20) (oi := { dst := some 65, op := Go.Op.pick (Go.Operand.tmp 56) (Go.Operand.tmp 64) (Go.Operand.const (Go.Value.bool false)), type := 4, pos := "law.go:131", after := #[{ on := 11, ground := Go.Ground.data }, { on := 19, ground := Go.Ground.data }, { on := 8, ground := Go.Ground.guard }], guard := some (8, false) }) (v := ?_) rfl (by kernel_rfl) (by kernel_rfl) (by kernel_rfl) (fun _ _ _ h => h) (Or.inl ⟨by rfl, ?_⟩) hK0 ?_
          rotate_left
          · (intro wz hSz; (try dsimp only at hSz); go_simp; try with_reducible rfl)
          simp only [Act.put, List.setIfInBounds_toArray, List.set_cons_zero, List.set_cons_succ]
          refine wpAnyH_take (i := 21) (oi := { dst := some 66, op := Go.Op.pick (Go.Operand.tmp 53) (Go.Operand.const (Go.Value.bool true)) (Go.Operand.tmp 65), type := 4, pos := "law.go:131", after := #[{ on := 8, ground := Go.Ground.data }, { on := 20, ground := Go.Ground.data }], guard := none }) (v := ?_) rfl (by kernel_rfl) (by kernel_rfl) (by kernel_rfl) (fun _ _ _ h => h) (Or.inl ⟨by rfl, ?_⟩) hK0 ?_
          rotate_left
          · (intro wz hSz; (try dsimp only at hSz); go_simp; try with_reducible rfl)
          simp only [Act.put, List.setIfInBounds_toArray, List.set_cons_zero, List.set_cons_succ]
          refine wpAnyH_take (i := 22) (oi := { dst := some 67, op := Go.Op.move (Go.Operand.tmp 66), type := 4, pos := "law.go:131", after := #[{ on := 21, ground := Go.Ground.data }, { on := 11, ground := Go.Ground.chain }], guard := none }) (v := ?_) rfl (by kernel_rfl) (by kernel_rfl) (by kernel_rfl) (fun _ _ _ h => h) (Or.inl ⟨by rfl, ?_⟩) hK0 ?_
          rotate_left
          · (intro wz hSz; (try dsimp only at hSz); go_simp; try with_reducible rfl)
          simp only [Act.put, List.setIfInBounds_toArray, List.set_cons_zero, List.set_cons_succ]
          refine wpAnyH_take (i := 23) (oi := { dst := some 68, op := Go.Op.move (Go.Operand.tmp 8), type := 27, pos := "law.go:131", after := #[{ on := 22, ground := Go.Ground.guard }], guard := some (22, false) }) (v := ?_) rfl (by kernel_rfl) (by kernel_rfl) (by kernel_rfl) (fun _ _ _ h => h) (Or.inl ⟨by rfl, ?_⟩) hK0 ?_
          rotate_left
          · (intro wz hSz; (try dsimp only at hSz); go_simp; try with_reducible rfl)
          simp only [Act.put, List.setIfInBounds_toArray, List.set_cons_zero, List.set_cons_succ]
          refine wpAnyH_take (i := 24) (oi := { dst := some 69, op := Go.Op.move (Go.Operand.tmp 9), type := 3, pos := "law.go:131", after := #[{ on := 22, ground := Go.Ground.guard }], guard := some (22, false) }) (v := ?_) rfl (by kernel_rfl) (by kernel_rfl) (by kernel_rfl) (fun _ _ _ h => h) (Or.inl ⟨by rfl, ?_⟩) hK0 ?_
          rotate_left
          · (intro wz hSz; (try dsimp only at hSz); go_simp; try with_reducible rfl)
          simp only [Act.put, List.setIfInBounds_toArray, List.set_cons_zero, List.set_cons_succ]
          refine wpAnyH_take (i := 25) (oi := { dst := some 70, op := Go.Op.indexAddr 27 (Go.Operand.tmp 68) (Go.Operand.tmp 69), type := 0, pos := "law.go:131", after := #[{ on := 23, ground := Go.Ground.data }, { on := 24, ground := Go.Ground.data }, { on := 22, ground := Go.Ground.guard }], guard := some (22, false) }) (v := ?_) rfl (by kernel_rfl) (by kernel_rfl) (by kernel_rfl) (fun _ _ _ h => h) (Or.inl ⟨by rfl, ?_⟩) hK0 ?_
          rotate_left
          · (intro wz hSz; (try dsimp only at hSz); go_simp; try with_reducible rfl)
          simp only [Act.put, List.setIfInBounds_toArray, List.set_cons_zero, List.set_cons_succ]
          refine wpAnyH_take (i := 26) (oi := { dst := some 71, op := Go.Op.load 3 (Go.Operand.tmp 70), type := 3, pos := "law.go:131", after := #[{ on := 25, ground := Go.Ground.data }, { on := 22, ground := Go.Ground.guard }], guard := some (22, false) }) (v := ?_) rfl (by kernel_rfl) (by kernel_rfl) (by kernel_rfl) (fun _ _ _ h => h) (Or.inl ⟨by rfl, ?_⟩) hK0 ?_
          rotate_left
          · (intro wz hSz; have hcz := True.intro; obtain ⟨c0, c1⟩ := view_cells ((Below.block hSz _ (L.blk_lt HP1.out)).trans HP1.out); obtain ⟨c2, c3⟩ := lab_cells ((Below.block hSz _ (L.blk_lt HP.out)).trans HP.out); obtain ⟨-, e0, e1, e2, -, -, -⟩ := HI.out.below hSz; have e3 := HDI.out.kept hSz; go_simp; try with_reducible rfl)
          simp only [Act.put, List.setIfInBounds_toArray, List.set_cons_zero, List.set_cons_succ]
          refine wpAnyH_take (i := 27) (oi := { dst := some 72, op := Go.Op.move (Go.Operand.tmp 0), type := 22, pos := "law.go:131", after := #[{ on := 22, ground := Go.Ground.guard }], guard := some (22, false) }) (v := ?_) rfl (by kernel_rfl) (by kernel_rfl) (by kernel_rfl) (fun _ _ _ h => h) (Or.inl ⟨by rfl, ?_⟩) hK0 ?_
          rotate_left
          · (intro wz hSz; (try dsimp only at hSz); go_simp; try with_reducible rfl)
          simp only [Act.put, List.setIfInBounds_toArray, List.set_cons_zero, List.set_cons_succ]
          refine wpAnyH_take (i := 28) (oi := { dst := some 73, op := Go.Op.move (Go.Operand.tmp 10), type := 3, pos := "law.go:131", after := #[{ on := 22, ground := Go.Ground.guard }], guard := some (22, false) }) (v := ?_) rfl (by kernel_rfl) (by kernel_rfl) (by kernel_rfl) (fun _ _ _ h => h) (Or.inl ⟨by rfl, ?_⟩) hK0 ?_
          rotate_left
          · (intro wz hSz; (try dsimp only at hSz); go_simp; try with_reducible rfl)
          simp only [Act.put, List.setIfInBounds_toArray, List.set_cons_zero, List.set_cons_succ]
          refine wpAnyH_take (i := 29) (oi := { dst := some 74, op := Go.Op.indexAddr 22 (Go.Operand.tmp 72) (Go.Operand.tmp 73), type := 0, pos := "law.go:131", after := #[{ on := 27, ground := Go.Ground.data }, { on := 28, ground := Go.Ground.data }, { on := 22, ground := Go.Ground.guard }], guard := some (22, false) }) (v := ?_) rfl (by kernel_rfl) (by kernel_rfl) (by kernel_rfl) (fun _ _ _ h => h) (Or.inl ⟨by rfl, ?_⟩) hK0 ?_
          rotate_left
          · (intro wz hSz; (try dsimp only at hSz); go_simp; try with_reducible rfl)
          simp only [Act.put, List.setIfInBounds_toArray, List.set_cons_zero, List.set_cons_succ]
          refine wpAnyH_take (i := 30) (oi := { dst := some 75, op := Go.Op.fieldAddr 54 (Go.Operand.tmp 74) 0, type := 0, pos := "law.go:131", after := #[{ on := 29, ground := Go.Ground.data }, { on := 22, ground := Go.Ground.guard }], guard := some (22, false) }) (v := ?_) rfl (by kernel_rfl) (by kernel_rfl) (by kernel_rfl) (fun _ _ _ h => h) (Or.inl ⟨by rfl, ?_⟩) hK0 ?_
          rotate_left
          · (intro wz hSz; (try dsimp only at hSz); go_simp; try with_reducible rfl)
          simp only [Act.put, List.setIfInBounds_toArray, List.set_cons_zero, List.set_cons_succ]
          refine wpAnyH_take (i := 31) (oi := { dst := some 76, op := Go.Op.load 3 (Go.Operand.tmp 75), type := 3, pos := "law.go:131", after := #[{ on := 30, ground := Go.Ground.data }, { on := 22, ground := Go.Ground.guard }], guard := some (22, false) }) (v := ?_) rfl (by kernel_rfl) (by kernel_rfl) (by kernel_rfl) (fun _ _ _ h => h) (Or.inl ⟨by rfl, ?_⟩) hK0 ?_
          rotate_left
          · (intro wz hSz; have hcz := True.intro; obtain ⟨c0, c1⟩ := view_cells ((Below.block hSz _ (L.blk_lt HP1.out)).trans HP1.out); obtain ⟨c2, c3⟩ := lab_cells ((Below.block hSz _ (L.blk_lt HP.out)).trans HP.out); obtain ⟨-, e0, e1, e2, -, -, -⟩ := HI.out.below hSz; have e3 := HDI.out.kept hSz; go_simp; try with_reducible rfl)
          simp only [Act.put, List.setIfInBounds_toArray, List.set_cons_zero, List.set_cons_succ]
          refine wpAnyH_take (i := 32) (oi := { dst := some 77, op := Go.Op.binOp Go.BinOp.neq 3 (Go.Operand.tmp 71) (Go.Operand.tmp 76) 3, type := 4, pos := "law.go:131", after := #[{ on := 26, ground := Go.Ground.data }, { on := 31, ground := Go.Ground.data }, { on := 22, ground := Go.Ground.guard }], guard := some (22, false) }) (v := ?_) rfl (by kernel_rfl) (by kernel_rfl) (by kernel_rfl) (fun _ _ _ h => h) (Or.inl ⟨by rfl, ?_⟩) hK0 ?_
          rotate_left
          · (intro wz hSz; (try dsimp only at hSz); go_simp; try with_reducible rfl)
          simp only [Act.put, List.setIfInBounds_toArray, List.set_cons_zero, List.set_cons_succ]
          refine wpAnyH_take (i := 33) (oi := { dst := some 78, op := Go.Op.pick (Go.Operand.tmp 67) (Go.Operand.const (Go.Value.bool true)) (Go.Operand.tmp 77), type := 4, pos := "law.go:131", after := #[{ on := 22, ground := Go.Ground.data }, { on := 32, ground := Go.Ground.data }], guard := none }) (v := ?_) rfl (by kernel_rfl) (by kernel_rfl) (by kernel_rfl) (fun _ _ _ h => h) (Or.inl ⟨by rfl, ?_⟩) hK0 ?_
          rotate_left
          · (intro wz hSz; (try dsimp only at hSz); go_simp; try with_reducible rfl)
          simp only [Act.put, List.setIfInBounds_toArray, List.set_cons_zero, List.set_cons_succ]
          refine wpAnyH_take (i := 34) (oi := { dst := some 79, op := Go.Op.move (Go.Operand.tmp 78), type := 4, pos := "law.go:131", after := #[{ on := 33, ground := Go.Ground.data }, { on := 22, ground := Go.Ground.chain }], guard := none }) (v := ?_) rfl (by kernel_rfl) (by kernel_rfl) (by kernel_rfl) (fun _ _ _ h => h) (Or.inl ⟨by rfl, ?_⟩) hK0 ?_
          rotate_left
          · (intro wz hSz; (try dsimp only at hSz); go_simp; try with_reducible rfl)
          simp only [Act.put, List.setIfInBounds_toArray, List.set_cons_zero, List.set_cons_succ]
          refine wpAnyH_take (i := 35) (oi := { dst := some 80, op := Go.Op.move (Go.Operand.tmp 0), type := 22, pos := "law.go:131", after := #[{ on := 34, ground := Go.Ground.guard }], guard := some (34, false) }) (v := ?_) rfl (by kernel_rfl) (by kernel_rfl) (by kernel_rfl) (fun _ _ _ h => h) (Or.inl ⟨by rfl, ?_⟩) hK0 ?_
          rotate_left
          · (intro wz hSz; (try dsimp only at hSz); go_simp; try with_reducible rfl)
          simp only [Act.put, List.setIfInBounds_toArray, List.set_cons_zero, List.set_cons_succ]
          refine wpAnyH_take (i := 36) (oi := { dst := some 81, op := Go.Op.move (Go.Operand.tmp 10), type := 3, pos := "law.go:131", after := #[{ on := 34, ground := Go.Ground.guard }], guard := some (34, false) }) (v := ?_) rfl (by kernel_rfl) (by kernel_rfl) (by kernel_rfl) (fun _ _ _ h => h) (Or.inl ⟨by rfl, ?_⟩) hK0 ?_
          rotate_left
          · (intro wz hSz; (try dsimp only at hSz); go_simp; try with_reducible rfl)
          simp only [Act.put, List.setIfInBounds_toArray, List.set_cons_zero, List.set_cons_succ]
          refine wpAnyH_take (i := 37) (oi := { dst := some 82, op := Go.Op.indexAddr 22 (Go.Operand.tmp 80) (Go.Operand.tmp 81), type := 0, pos := "law.go:131", after := #[{ on := 35, ground := Go.Ground.data }, { on := 36, ground := Go.Ground.data }, { on := 34, ground := Go.Ground.guard }], guard := some (34, false) }) (v := ?_) rfl (by kernel_rfl) (by kernel_rfl) (by kernel_rfl) (fun _ _ _ h => h) (Or.inl ⟨by rfl, ?_⟩) hK0 ?_
          rotate_left
          · (intro wz hSz; (try dsimp only at hSz); go_simp; try with_reducible rfl)
          simp only [Act.put, List.setIfInBounds_toArray, List.set_cons_zero, List.set_cons_succ]
          refine wpAnyH_take (i := 38) (oi := { dst := some 83, op := Go.Op.fieldAddr 54 (Go.Operand.tmp 82) 1, type := 0, pos := "law.go:131", after := #[{ on := 37, ground := Go.Ground.data }, { on := 34, ground := Go.Ground.guard }], guard := some (34, false) }) (v := ?_) rfl (by kernel_rfl) (by kernel_rfl) (by kernel_rfl) (fun _ _ _ h => h) (Or.inl ⟨by rfl, ?_⟩) hK0 ?_
          rotate_left
          · (intro wz hSz; (try dsimp only at hSz); go_simp; try with_reducible rfl)
          simp only [Act.put, List.setIfInBounds_toArray, List.set_cons_zero, List.set_cons_succ]
          refine wpAnyH_take (i := 39) (oi := { dst := some 84, op := Go.Op.load 25 (Go.Operand.tmp 83), type := 25, pos := "law.go:131", after := #[{ on := 38, ground := Go.Ground.data }, { on := 34, ground := Go.Ground.guard }], guard := some (34, false) }) (v := ?_) rfl (by kernel_rfl) (by kernel_rfl) (by kernel_rfl) (fun _ _ _ h => h) (Or.inl ⟨by rfl, ?_⟩) hK0 ?_
          rotate_left
          · (intro wz hSz; have hcz := True.intro; obtain ⟨c0, c1⟩ := view_cells ((Below.block hSz _ (L.blk_lt HP1.out)).trans HP1.out); obtain ⟨c2, c3⟩ := lab_cells ((Below.block hSz _ (L.blk_lt HP.out)).trans HP.out); obtain ⟨-, e0, e1, e2, -, -, -⟩ := HI.out.below hSz; have e3 := HDI.out.kept hSz; go_simp; try with_reducible rfl)
          simp only [Act.put, List.setIfInBounds_toArray, List.set_cons_zero, List.set_cons_succ]
          refine wpAnyH_take (i := 40) (oi := { dst := some 85, op := Go.Op.load 25 (Go.Operand.tmp 4), type := 25, pos := "law.go:131", after := #[{ on := 34, ground := Go.Ground.guard }], guard := some (34, false) }) (v := ?_) rfl (by kernel_rfl) (by kernel_rfl) (by kernel_rfl) (fun _ _ _ h => h) (Or.inl ⟨by rfl, ?_⟩) hK0 ?_
          rotate_left
          · (intro wz hSz; have hcz := True.intro; obtain ⟨c0, c1⟩ := view_cells ((Below.block hSz _ (L.blk_lt HP1.out)).trans HP1.out); obtain ⟨c2, c3⟩ := lab_cells ((Below.block hSz _ (L.blk_lt HP.out)).trans HP.out); obtain ⟨-, e0, e1, e2, -, -, -⟩ := HI.out.below hSz; have e3 := HDI.out.kept hSz; go_simp; try with_reducible rfl)
          simp only [Act.put, List.setIfInBounds_toArray, List.set_cons_zero, List.set_cons_succ]
          refine wpAnyH_ready (rs := [41]) (by kernel_rfl) (by simp) ?_
          refine AllReadyH.cons (o := { dst := some 86, op := Go.Op.call { callee := Go.Callee.value (Go.Operand.func 30), args := #[Go.Operand.tmp 84, Go.Operand.tmp 85], argTypes := #[25, 25] }, type := 4, pos := "law.go:131", after := #[{ on := 39, ground := Go.Ground.data }, { on := 40, ground := Go.Ground.data }, { on := 34, ground := Go.Ground.chain }, { on := 34, ground := Go.Ground.guard }], guard := some (34, false) }) rfl (fun K hK => ?_) AllReadyH.nil
          go_simp
          with_reducible refine (HC.out.call _).mono ?_
          rintro r wq1 ⟨rfl, hbq⟩
          go_wp2_with fail
          refine hK.out _ _ (Keeps.trans hK0 hbq) (fun hJ => ?_)
          refine wpAnyH_more (S' := Keeps wq1) (fun z hz => Keeps.trans hJ hz) _ _ _ _ ?_
          replace HBX := Lib.hid (HBX.out.trans (Below.mono hJ HBX.out.size))
          have hK1 : Keeps wq1 wq1 := Below.refl _ _
          clear hK K hbq hK0 hJ
          refine wpAnyH_take (i := 42) (oi := { dst := some 87, op := Go.Op.unOp Go.UnOp.not 4 (Go.Operand.tmp 86), type := 4, pos := "law.go:131", after := #[{ on := 41, ground := Go.Ground.data }, { on := 34, ground := Go.Ground.guard }], guard := some (34, false) }) (v := ?_) rfl (by kernel_rfl) (by kernel_rfl) (by kernel_rfl) (fun _ _ _ h => h) (Or.inl ⟨by rfl, ?_⟩) hK1 ?_
          rotate_left
          · (intro wz hSz; (try dsimp only at hSz); go_simp; try with_reducible rfl)
          simp only [Act.put, List.setIfInBounds_toArray, List.set_cons_zero, List.set_cons_succ]
          refine wpAnyH_take (i := 43) (oi := { dst := some 88, op := Go.Op.pick (Go.Operand.tmp 79) (Go.Operand.const (Go.Value.bool true)) (Go.Operand.tmp 87), type := 4, pos := "law.go:131", after := #[{ on := 34, ground := Go.Ground.data }, { on := 42, ground := Go.Ground.data }], guard := none }) (v := ?_) rfl (by kernel_rfl) (by kernel_rfl) (by kernel_rfl) (fun _ _ _ h => h) (Or.inl ⟨by rfl, ?_⟩) hK1 ?_
          rotate_left
          · (intro wz hSz; (try dsimp only at hSz); go_simp; try with_reducible rfl)
          simp only [Act.put, List.setIfInBounds_toArray, List.set_cons_zero, List.set_cons_succ]
          refine wpAnyH_done (by kernel_rfl) ?_ _
          go_wp2_with fail
          go_meet
          case rel => exact ⟨rfl, HBX⟩
        · obtain ⟨tp, htp, HTP0⟩ := HTQ.out (by omega)
          obtain ⟨i', rfl⟩ : ∃ i', i = i' + 1 := ⟨i - 1, by omega⟩
          have HTP := Lib.hid HTP0
          rw [show i' + 1 - 1 = i' by omega] at HTP
          have hn5 : decide ((0 : Int) < ((i' + 1 : Nat) : Int)) = true := decide_eq_true (by omega)
          have hn8 : decide (0 < i' + 1) = true := decide_eq_true (by omega)
          have hn6 : decide ((j : Int) ≤ (tp : Int)) = false := decide_eq_false (by omega)
          have hn7 : decide (j ≤ tp) = false := decide_eq_false (by omega)
          have hi1 : (0 : Int) ≤ (i' : Int) := by omega
          have hi2 : (i' : Int) < (ts.length : Int) := by omega
          have hib : i' < 9223372036854775807 := by have := HTB.out; omega
          have hwr : IntKind.i64.wrap (i' : Int) = (i' : Int) := by rw [IntKind.wrap_i64]; omega
          have hj0 : (0 : Int) ≤ (i' : Int) + 1 := by omega
          have hj1 : (i' : Int) + 1 < (ds.length : Int) := by omega
          have hj2 : (i' : Int) + 1 < (ts.length : Int) := by omega
          have hj3 : (i' : Int) + 1 < (ls.length : Int) := by omega
          clear HTQ HTP0 hi0
          go_wp2_with fail
          refine wp_region_held_drew (S := (Keeps w5)) (by kernel_rfl) (keeps_drew _) (fun hK0 => ?_)
          refine wpAnyH_take (i := 0) (oi := { dst := some 45, op := Go.Op.move (Go.Operand.tmp 10), type := 3, pos := "law.go:131", after := #[], guard := none }) (v := ?_) rfl (by kernel_rfl) (by kernel_rfl) (by kernel_rfl) (fun _ _ _ h => h) (Or.inl ⟨by rfl, ?_⟩) hK0 ?_
          rotate_left
          · (intro wz hSz; (try dsimp only at hSz); go_simp; try with_reducible rfl)
          simp only [Act.put, List.setIfInBounds_toArray, List.set_cons_zero, List.set_cons_succ]
          refine wpAnyH_take (i := 1) (oi := { dst := some 46, op := Go.Op.binOp Go.BinOp.lss 3 (Go.Operand.tmp 45) (Go.Operand.const (Go.Value.int Go.IntKind.i64 0)) 3, type := 4, pos := "law.go:131", after := #[{ on := 0, ground := Go.Ground.data }], guard := none }) (v := ?_) rfl (by kernel_rfl) (by kernel_rfl) (by kernel_rfl) (fun _ _ _ h => h) (Or.inl ⟨by rfl, ?_⟩) hK0 ?_
          rotate_left
          · (intro wz hSz; (try dsimp only at hSz); go_simp; try with_reducible rfl)
          simp only [Act.put, List.setIfInBounds_toArray, List.set_cons_zero, List.set_cons_succ]
          refine wpAnyH_take (i := 2) (oi := { dst := some 47, op := Go.Op.move (Go.Operand.tmp 46), type := 4, pos := "law.go:131", after := #[{ on := 1, ground := Go.Ground.data }], guard := none }) (v := ?_) rfl (by kernel_rfl) (by kernel_rfl) (by kernel_rfl) (fun _ _ _ h => h) (Or.inl ⟨by rfl, ?_⟩) hK0 ?_
          rotate_left
          · (intro wz hSz; (try dsimp only at hSz); go_simp; try with_reducible rfl)
          simp only [Act.put, List.setIfInBounds_toArray, List.set_cons_zero, List.set_cons_succ]
          refine wpAnyH_take (i := 3) (oi := { dst := some 48, op := Go.Op.move (Go.Operand.tmp 10), type := 3, pos := "law.go:131", after := #[{ on := 2, ground := Go.Ground.guard }], guard := some (2, false) }) (v := ?_) rfl (by kernel_rfl) (by kernel_rfl) (by kernel_rfl) (fun _ _ _ h => h) (Or.inl ⟨by rfl, ?_⟩) hK0 ?_
          rotate_left
          · (intro wz hSz; (try dsimp only at hSz); go_simp; try with_reducible rfl)
          simp only [Act.put, List.setIfInBounds_toArray, List.set_cons_zero, List.set_cons_succ]
          refine wpAnyH_take (i := 4) (oi := { dst := some 49, op := Go.Op.move (Go.Operand.tmp 0), type := 22, pos := "law.go:131", after := #[{ on := 2, ground := Go.Ground.guard }], guard := some (2, false) }) (v := ?_) rfl (by kernel_rfl) (by kernel_rfl) (by kernel_rfl) (fun _ _ _ h => h) (Or.inl ⟨by rfl, ?_⟩) hK0 ?_
          rotate_left
          · (intro wz hSz; (try dsimp only at hSz); go_simp; try with_reducible rfl)
          simp only [Act.put, List.setIfInBounds_toArray, List.set_cons_zero, List.set_cons_succ]
          refine wpAnyH_take (i := 5) (oi := { dst := some 50, op := Go.Op.call { callee := Go.Callee.builtin Go.Builtin.len, args := #[Go.Operand.tmp 49], argTypes := #[22] }, type := 3, pos := "law.go:131", after := #[{ on := 4, ground := Go.Ground.data }, { on := 2, ground := Go.Ground.guard }], guard := some (2, false) }) (v := ?_) rfl (by kernel_rfl) (by kernel_rfl) (by kernel_rfl) (fun _ _ _ h => h) (Or.inl ⟨by rfl, ?_⟩) hK0 ?_
          rotate_left
          · (intro wz hSz; (try dsimp only at hSz); go_simp; try with_reducible rfl)
          simp only [Act.put, List.setIfInBounds_toArray, List.set_cons_zero, List.set_cons_succ]
          refine wpAnyH_take (i := 6) (oi := { dst := some 51, op := Go.Op.binOp Go.BinOp.geq 3 (Go.Operand.tmp 48) (Go.Operand.tmp 50) 3, type := 4, pos := "law.go:131", after := #[{ on := 3, ground := Go.Ground.data }, { on := 5, ground := Go.Ground.data }, { on := 2, ground := Go.Ground.guard }], guard := some (2, false) }) (v := ?_) rfl (by kernel_rfl) (by kernel_rfl) (by kernel_rfl) (fun _ _ _ h => h) (Or.inl ⟨by rfl, ?_⟩) hK0 ?_
          rotate_left
          · (intro wz hSz; (try dsimp only at hSz); go_simp; try with_reducible rfl)
          simp only [Act.put, List.setIfInBounds_toArray, List.set_cons_zero, List.set_cons_succ]
          refine wpAnyH_take (i := 7) (oi := { dst := some 52, op := Go.Op.pick (Go.Operand.tmp 47) (Go.Operand.const (Go.Value.bool true)) (Go.Operand.tmp 51), type := 4, pos := "law.go:131", after := #[{ on := 2, ground := Go.Ground.data }, { on := 6, ground := Go.Ground.data }], guard := none }) (v := ?_) rfl (by kernel_rfl) (by kernel_rfl) (by kernel_rfl) (fun _ _ _ h => h) (Or.inl ⟨by rfl, ?_⟩) hK0 ?_
          rotate_left
          · (intro wz hSz; (try dsimp only at hSz); go_simp; try with_reducible rfl)
          simp only [Act.put, List.setIfInBounds_toArray, List.set_cons_zero, List.set_cons_succ]
          refine wpAnyH_take (i := 8) (oi := { dst := some 53, op := Go.Op.move (Go.Operand.tmp 52), type := 4, pos := "law.go:131", after := #[{ on := 7, ground := Go.Ground.data }, { on := 2, ground := Go.Ground.chain }], guard := none }) (v := ?_) rfl (by kernel_rfl) (by kernel_rfl) (by kernel_rfl) (fun _ _ _ h => h) (Or.inl ⟨by rfl, ?_⟩) hK0 ?_
          rotate_left
          · (intro wz hSz; (try dsimp only at hSz); go_simp; try with_reducible rfl)
          simp only [Act.put, List.setIfInBounds_toArray, List.set_cons_zero, List.set_cons_succ]
          refine wpAnyH_take (i := 9) (oi := { dst := some 54, op := Go.Op.move (Go.Operand.tmp 9), type := 3, pos := "law.go:131", after := #[{ on := 8, ground := Go.Ground.guard }], guard := some (8, false) }) (v := ?_) rfl (by kernel_rfl) (by kernel_rfl) (by kernel_rfl) (fun _ _ _ h => h) (Or.inl ⟨by rfl, ?_⟩) hK0 ?_
          rotate_left
          · (intro wz hSz; (try dsimp only at hSz); go_simp; try with_reducible rfl)
          simp only [Act.put, List.setIfInBounds_toArray, List.set_cons_zero, List.set_cons_succ]
          refine wpAnyH_take (i := 10) (oi := { dst := some 55, op := Go.Op.binOp Go.BinOp.gtr 3 (Go.Operand.tmp 54) (Go.Operand.const (Go.Value.int Go.IntKind.i64 0)) 3, type := 4, pos := "law.go:131", after := #[{ on := 9, ground := Go.Ground.data }, { on := 8, ground := Go.Ground.guard }], guard := some (8, false) }) (v := ?_) rfl (by kernel_rfl) (by kernel_rfl) (by kernel_rfl) (fun _ _ _ h => h) (Or.inl ⟨by rfl, ?_⟩) hK0 ?_
          rotate_left
          · (intro wz hSz; (try dsimp only at hSz); go_simp; try with_reducible rfl)
          simp only [Act.put, List.setIfInBounds_toArray, List.set_cons_zero, List.set_cons_succ]
          refine wpAnyH_take (i := 11) (oi := { dst := some 56, op := Go.Op.move (Go.Operand.tmp 55), type := 4, pos := "law.go:131", after := #[{ on := 10, ground := Go.Ground.data }, { on := 8, ground := Go.Ground.chain }, { on := 8, ground := Go.Ground.guard }], guard := some (8, false) }) (v := ?_) rfl (by kernel_rfl) (by kernel_rfl) (by kernel_rfl) (fun _ _ _ h => h) (Or.inl ⟨by rfl, ?_⟩) hK0 ?_
          rotate_left
          · (intro wz hSz; (try dsimp only at hSz); go_simp; try with_reducible rfl)
          simp only [Act.put, List.setIfInBounds_toArray, List.set_cons_zero, List.set_cons_succ]
          refine wpAnyH_take (i := 12) (oi := { dst := some 57, op := Go.Op.move (Go.Operand.tmp 10), type := 3, pos := "law.go:131", after := #[{ on := 11, ground := Go.Ground.guard }], guard := some (11, true) }) (v := ?_) rfl (by kernel_rfl) (by kernel_rfl) (by kernel_rfl) (fun _ _ _ h => h) (Or.inl ⟨by rfl, ?_⟩) hK0 ?_
          rotate_left
          · (intro wz hSz; (try dsimp only at hSz); go_simp; try with_reducible rfl)
          simp only [Act.put, List.setIfInBounds_toArray, List.set_cons_zero, List.set_cons_succ]
          refine wpAnyH_take (i := 13) (oi := { dst := some 58, op := Go.Op.fieldAddr 29 (Go.Operand.tmp 7) 1, type := 0, pos := "law.go:131", after := #[{ on := 11, ground := Go.Ground.guard }], guard := some (11, true) }) (v := ?_) rfl (by kernel_rfl) (by kernel_rfl) (by kernel_rfl) (fun _ _ _ h => h) (Or.inl ⟨by rfl, ?_⟩) hK0 ?_
          rotate_left
          · (intro wz hSz; (try dsimp only at hSz); go_simp; try with_reducible rfl)
          simp only [Act.put, List.setIfInBounds_toArray, List.set_cons_zero, List.set_cons_succ]
          refine wpAnyH_take (i := 14) (oi := { dst := some 59, op := Go.Op.load 27 (Go.Operand.tmp 58), type := 27, pos := "law.go:131", after := #[{ on := 13, ground := Go.Ground.data }, { on := 11, ground := Go.Ground.guard }], guard := some (11, true) }) (v := ?_) rfl (by kernel_rfl) (by kernel_rfl) (by kernel_rfl) (fun _ _ _ h => h) (Or.inl ⟨by rfl, ?_⟩) hK0 ?_
          rotate_left
          · (intro wz hSz; have hcz := True.intro; obtain ⟨c0, c1⟩ := view_cells ((Below.block hSz _ (L.blk_lt HP1.out)).trans HP1.out); obtain ⟨c2, c3⟩ := lab_cells ((Below.block hSz _ (L.blk_lt HP.out)).trans HP.out); obtain ⟨-, e0, e1, e2, -, -, -⟩ := HI.out.below hSz; have e3 := HDI.out.kept hSz; have e4 := HTP.out.kept hSz; go_simp; try with_reducible rfl)
          simp only [Act.put, List.setIfInBounds_toArray, List.set_cons_zero, List.set_cons_succ]
          refine wpAnyH_take (i := 15) (oi := { dst := some 60, op := Go.Op.move (Go.Operand.tmp 9), type := 3, pos := "law.go:131", after := #[{ on := 11, ground := Go.Ground.guard }], guard := some (11, true) }) (v := ?_) rfl (by kernel_rfl) (by kernel_rfl) (by kernel_rfl) (fun _ _ _ h => h) (Or.inl ⟨by rfl, ?_⟩) hK0 ?_
          rotate_left
          · (intro wz hSz; (try dsimp only at hSz); go_simp; try with_reducible rfl)
          simp only [Act.put, List.setIfInBounds_toArray, List.set_cons_zero, List.set_cons_succ]
          refine wpAnyH_take (i := 16) (oi := { dst := some 61, op := Go.Op.binOp Go.BinOp.sub 3 (Go.Operand.tmp 60) (Go.Operand.const (Go.Value.int Go.IntKind.i64 1)) 3, type := 3, pos := "law.go:131", after := #[{ on := 15, ground := Go.Ground.data }, { on := 11, ground := Go.Ground.guard }], guard := some (11, true) }) (v := ?_) rfl (by kernel_rfl) (by kernel_rfl) (by kernel_rfl) (fun _ _ _ h => h) (Or.inl ⟨by rfl, ?_⟩) hK0 ?_
          rotate_left
          · (intro wz hSz; (try dsimp only at hSz); go_simp; try with_reducible rfl)
          simp only [Act.put, List.setIfInBounds_toArray, List.set_cons_zero, List.set_cons_succ]
          refine wpAnyH_take (i := 17) (oi := { dst := some 62, op := Go.Op.indexAddr 27 (Go.Operand.tmp 59) (Go.Operand.tmp 61), type := 0, pos := "law.go:131", after := #[{ on := 14, ground := Go.Ground.data }, { on := 16, ground := Go.Ground.data }, { on := 11, ground := Go.Ground.guard }], guard := some (11, true) }) (v := ?_) rfl (by kernel_rfl) (by kernel_rfl) (by kernel_rfl) (fun _ _ _ h => h) (Or.inl ⟨by rfl, ?_⟩) hK0 ?_
          rotate_left
          · (intro wz hSz; (try dsimp only at hSz); go_simp; try with_reducible rfl)
          simp only [Act.put, List.setIfInBounds_toArray, List.set_cons_zero, List.set_cons_succ]
          refine wpAnyH_take (i := 18) (oi := { dst := some 63, op := Go.Op.load 3 (Go.Operand.tmp 62), type := 3, pos := "law.go:131", after := #[{ on := 17, ground := Go.Ground.data }, { on := 11, ground := Go.Ground.guard }], guard := some (11, true) }) (v := ?_) rfl (by kernel_rfl) (by kernel_rfl) (by kernel_rfl) (fun _ _ _ h => h) (Or.inl ⟨by rfl, ?_⟩) hK0 ?_
          rotate_left
          · (intro wz hSz; have hcz := True.intro; obtain ⟨c0, c1⟩ := view_cells ((Below.block hSz _ (L.blk_lt HP1.out)).trans HP1.out); obtain ⟨c2, c3⟩ := lab_cells ((Below.block hSz _ (L.blk_lt HP.out)).trans HP.out); obtain ⟨-, e0, e1, e2, -, -, -⟩ := HI.out.below hSz; have e3 := HDI.out.kept hSz; have e4 := HTP.out.kept hSz; go_simp; try with_reducible rfl)
          simp only [Act.put, List.setIfInBounds_toArray, List.set_cons_zero, List.set_cons_succ]
          refine wpAnyH_take (i := 19) (oi := { dst := some 64, op := Go.Op.binOp Go.BinOp.leq 3 (Go.Operand.tmp 57) (Go.Operand.tmp 63) 3, type := 4, pos := "law.go:131", after := #[{ on := 12, ground := Go.Ground.data }, { on := 18, ground := Go.Ground.data }, { on := 11, ground := Go.Ground.guard }], guard := some (11, true) }) (v := ?_) rfl (by kernel_rfl) (by kernel_rfl) (by kernel_rfl) (fun _ _ _ h => h) (Or.inl ⟨by rfl, ?_⟩) hK0 ?_
          rotate_left
          · (intro wz hSz; (try dsimp only at hSz); go_simp; try with_reducible rfl)
          simp only [Act.put, List.setIfInBounds_toArray, List.set_cons_zero, List.set_cons_succ]
          refine wpAnyH_take (i := 20) (oi := { dst := some 65, op := Go.Op.pick (Go.Operand.tmp 56) (Go.Operand.tmp 64) (Go.Operand.const (Go.Value.bool false)), type := 4, pos := "law.go:131", after := #[{ on := 11, ground := Go.Ground.data }, { on := 19, ground := Go.Ground.data }, { on := 8, ground := Go.Ground.guard }], guard := some (8, false) }) (v := ?_) rfl (by kernel_rfl) (by kernel_rfl) (by kernel_rfl) (fun _ _ _ h => h) (Or.inl ⟨by rfl, ?_⟩) hK0 ?_
          rotate_left
          · (intro wz hSz; (try dsimp only at hSz); go_simp; try with_reducible rfl)
          simp only [Act.put, List.setIfInBounds_toArray, List.set_cons_zero, List.set_cons_succ]
          refine wpAnyH_take (i := 21) (oi := { dst := some 66, op := Go.Op.pick (Go.Operand.tmp 53) (Go.Operand.const (Go.Value.bool true)) (Go.Operand.tmp 65), type := 4, pos := "law.go:131", after := #[{ on := 8, ground := Go.Ground.data }, { on := 20, ground := Go.Ground.data }], guard := none }) (v := ?_) rfl (by kernel_rfl) (by kernel_rfl) (by kernel_rfl) (fun _ _ _ h => h) (Or.inl ⟨by rfl, ?_⟩) hK0 ?_
          rotate_left
          · (intro wz hSz; (try dsimp only at hSz); go_simp; try with_reducible rfl)
          simp only [Act.put, List.setIfInBounds_toArray, List.set_cons_zero, List.set_cons_succ]
          refine wpAnyH_take (i := 22) (oi := { dst := some 67, op := Go.Op.move (Go.Operand.tmp 66), type := 4, pos := "law.go:131", after := #[{ on := 21, ground := Go.Ground.data }, { on := 11, ground := Go.Ground.chain }], guard := none }) (v := ?_) rfl (by kernel_rfl) (by kernel_rfl) (by kernel_rfl) (fun _ _ _ h => h) (Or.inl ⟨by rfl, ?_⟩) hK0 ?_
          rotate_left
          · (intro wz hSz; (try dsimp only at hSz); go_simp; try with_reducible rfl)
          simp only [Act.put, List.setIfInBounds_toArray, List.set_cons_zero, List.set_cons_succ]
          refine wpAnyH_take (i := 23) (oi := { dst := some 68, op := Go.Op.move (Go.Operand.tmp 8), type := 27, pos := "law.go:131", after := #[{ on := 22, ground := Go.Ground.guard }], guard := some (22, false) }) (v := ?_) rfl (by kernel_rfl) (by kernel_rfl) (by kernel_rfl) (fun _ _ _ h => h) (Or.inl ⟨by rfl, ?_⟩) hK0 ?_
          rotate_left
          · (intro wz hSz; (try dsimp only at hSz); go_simp; try with_reducible rfl)
          simp only [Act.put, List.setIfInBounds_toArray, List.set_cons_zero, List.set_cons_succ]
          refine wpAnyH_take (i := 24) (oi := { dst := some 69, op := Go.Op.move (Go.Operand.tmp 9), type := 3, pos := "law.go:131", after := #[{ on := 22, ground := Go.Ground.guard }], guard := some (22, false) }) (v := ?_) rfl (by kernel_rfl) (by kernel_rfl) (by kernel_rfl) (fun _ _ _ h => h) (Or.inl ⟨by rfl, ?_⟩) hK0 ?_
          rotate_left
          · (intro wz hSz; (try dsimp only at hSz); go_simp; try with_reducible rfl)
          simp only [Act.put, List.setIfInBounds_toArray, List.set_cons_zero, List.set_cons_succ]
          refine wpAnyH_take (i := 25) (oi := { dst := some 70, op := Go.Op.indexAddr 27 (Go.Operand.tmp 68) (Go.Operand.tmp 69), type := 0, pos := "law.go:131", after := #[{ on := 23, ground := Go.Ground.data }, { on := 24, ground := Go.Ground.data }, { on := 22, ground := Go.Ground.guard }], guard := some (22, false) }) (v := ?_) rfl (by kernel_rfl) (by kernel_rfl) (by kernel_rfl) (fun _ _ _ h => h) (Or.inl ⟨by rfl, ?_⟩) hK0 ?_
          rotate_left
          · (intro wz hSz; (try dsimp only at hSz); go_simp; try with_reducible rfl)
          simp only [Act.put, List.setIfInBounds_toArray, List.set_cons_zero, List.set_cons_succ]
          refine wpAnyH_take (i := 26) (oi := { dst := some 71, op := Go.Op.load 3 (Go.Operand.tmp 70), type := 3, pos := "law.go:131", after := #[{ on := 25, ground := Go.Ground.data }, { on := 22, ground := Go.Ground.guard }], guard := some (22, false) }) (v := ?_) rfl (by kernel_rfl) (by kernel_rfl) (by kernel_rfl) (fun _ _ _ h => h) (Or.inl ⟨by rfl, ?_⟩) hK0 ?_
          rotate_left
          · (intro wz hSz; have hcz := True.intro; obtain ⟨c0, c1⟩ := view_cells ((Below.block hSz _ (L.blk_lt HP1.out)).trans HP1.out); obtain ⟨c2, c3⟩ := lab_cells ((Below.block hSz _ (L.blk_lt HP.out)).trans HP.out); obtain ⟨-, e0, e1, e2, -, -, -⟩ := HI.out.below hSz; have e3 := HDI.out.kept hSz; have e4 := HTP.out.kept hSz; go_simp; try with_reducible rfl)
          simp only [Act.put, List.setIfInBounds_toArray, List.set_cons_zero, List.set_cons_succ]
          refine wpAnyH_take (i := 27) (oi := { dst := some 72, op := Go.Op.move (Go.Operand.tmp 0), type := 22, pos := "law.go:131", after := #[{ on := 22, ground := Go.Ground.guard }], guard := some (22, false) }) (v := ?_) rfl (by kernel_rfl) (by kernel_rfl) (by kernel_rfl) (fun _ _ _ h => h) (Or.inl ⟨by rfl, ?_⟩) hK0 ?_
          rotate_left
          · (intro wz hSz; (try dsimp only at hSz); go_simp; try with_reducible rfl)
          simp only [Act.put, List.setIfInBounds_toArray, List.set_cons_zero, List.set_cons_succ]
          refine wpAnyH_take (i := 28) (oi := { dst := some 73, op := Go.Op.move (Go.Operand.tmp 10), type := 3, pos := "law.go:131", after := #[{ on := 22, ground := Go.Ground.guard }], guard := some (22, false) }) (v := ?_) rfl (by kernel_rfl) (by kernel_rfl) (by kernel_rfl) (fun _ _ _ h => h) (Or.inl ⟨by rfl, ?_⟩) hK0 ?_
          rotate_left
          · (intro wz hSz; (try dsimp only at hSz); go_simp; try with_reducible rfl)
          simp only [Act.put, List.setIfInBounds_toArray, List.set_cons_zero, List.set_cons_succ]
          refine wpAnyH_take (i := 29) (oi := { dst := some 74, op := Go.Op.indexAddr 22 (Go.Operand.tmp 72) (Go.Operand.tmp 73), type := 0, pos := "law.go:131", after := #[{ on := 27, ground := Go.Ground.data }, { on := 28, ground := Go.Ground.data }, { on := 22, ground := Go.Ground.guard }], guard := some (22, false) }) (v := ?_) rfl (by kernel_rfl) (by kernel_rfl) (by kernel_rfl) (fun _ _ _ h => h) (Or.inl ⟨by rfl, ?_⟩) hK0 ?_
          rotate_left
          · (intro wz hSz; (try dsimp only at hSz); go_simp; try with_reducible rfl)
          simp only [Act.put, List.setIfInBounds_toArray, List.set_cons_zero, List.set_cons_succ]
          refine wpAnyH_take (i := 30) (oi := { dst := some 75, op := Go.Op.fieldAddr 54 (Go.Operand.tmp 74) 0, type := 0, pos := "law.go:131", after := #[{ on := 29, ground := Go.Ground.data }, { on := 22, ground := Go.Ground.guard }], guard := some (22, false) }) (v := ?_) rfl (by kernel_rfl) (by kernel_rfl) (by kernel_rfl) (fun _ _ _ h => h) (Or.inl ⟨by rfl, ?_⟩) hK0 ?_
          rotate_left
          · (intro wz hSz; (try dsimp only at hSz); go_simp; try with_reducible rfl)
          simp only [Act.put, List.setIfInBounds_toArray, List.set_cons_zero, List.set_cons_succ]
          refine wpAnyH_take (i := 31) (oi := { dst := some 76, op := Go.Op.load 3 (Go.Operand.tmp 75), type := 3, pos := "law.go:131", after := #[{ on := 30, ground := Go.Ground.data }, { on := 22, ground := Go.Ground.guard }], guard := some (22, false) }) (v := ?_) rfl (by kernel_rfl) (by kernel_rfl) (by kernel_rfl) (fun _ _ _ h => h) (Or.inl ⟨by rfl, ?_⟩) hK0 ?_
          rotate_left
          · (intro wz hSz; have hcz := True.intro; obtain ⟨c0, c1⟩ := view_cells ((Below.block hSz _ (L.blk_lt HP1.out)).trans HP1.out); obtain ⟨c2, c3⟩ := lab_cells ((Below.block hSz _ (L.blk_lt HP.out)).trans HP.out); obtain ⟨-, e0, e1, e2, -, -, -⟩ := HI.out.below hSz; have e3 := HDI.out.kept hSz; have e4 := HTP.out.kept hSz; go_simp; try with_reducible rfl)
          simp only [Act.put, List.setIfInBounds_toArray, List.set_cons_zero, List.set_cons_succ]
          refine wpAnyH_take (i := 32) (oi := { dst := some 77, op := Go.Op.binOp Go.BinOp.neq 3 (Go.Operand.tmp 71) (Go.Operand.tmp 76) 3, type := 4, pos := "law.go:131", after := #[{ on := 26, ground := Go.Ground.data }, { on := 31, ground := Go.Ground.data }, { on := 22, ground := Go.Ground.guard }], guard := some (22, false) }) (v := ?_) rfl (by kernel_rfl) (by kernel_rfl) (by kernel_rfl) (fun _ _ _ h => h) (Or.inl ⟨by rfl, ?_⟩) hK0 ?_
          rotate_left
          · (intro wz hSz; (try dsimp only at hSz); go_simp; try with_reducible rfl)
          simp only [Act.put, List.setIfInBounds_toArray, List.set_cons_zero, List.set_cons_succ]
          refine wpAnyH_take (i := 33) (oi := { dst := some 78, op := Go.Op.pick (Go.Operand.tmp 67) (Go.Operand.const (Go.Value.bool true)) (Go.Operand.tmp 77), type := 4, pos := "law.go:131", after := #[{ on := 22, ground := Go.Ground.data }, { on := 32, ground := Go.Ground.data }], guard := none }) (v := ?_) rfl (by kernel_rfl) (by kernel_rfl) (by kernel_rfl) (fun _ _ _ h => h) (Or.inl ⟨by rfl, ?_⟩) hK0 ?_
          rotate_left
          · (intro wz hSz; (try dsimp only at hSz); go_simp; try with_reducible rfl)
          simp only [Act.put, List.setIfInBounds_toArray, List.set_cons_zero, List.set_cons_succ]
          refine wpAnyH_take (i := 34) (oi := { dst := some 79, op := Go.Op.move (Go.Operand.tmp 78), type := 4, pos := "law.go:131", after := #[{ on := 33, ground := Go.Ground.data }, { on := 22, ground := Go.Ground.chain }], guard := none }) (v := ?_) rfl (by kernel_rfl) (by kernel_rfl) (by kernel_rfl) (fun _ _ _ h => h) (Or.inl ⟨by rfl, ?_⟩) hK0 ?_
          rotate_left
          · (intro wz hSz; (try dsimp only at hSz); go_simp; try with_reducible rfl)
          simp only [Act.put, List.setIfInBounds_toArray, List.set_cons_zero, List.set_cons_succ]
          refine wpAnyH_take (i := 35) (oi := { dst := some 80, op := Go.Op.move (Go.Operand.tmp 0), type := 22, pos := "law.go:131", after := #[{ on := 34, ground := Go.Ground.guard }], guard := some (34, false) }) (v := ?_) rfl (by kernel_rfl) (by kernel_rfl) (by kernel_rfl) (fun _ _ _ h => h) (Or.inl ⟨by rfl, ?_⟩) hK0 ?_
          rotate_left
          · (intro wz hSz; (try dsimp only at hSz); go_simp; try with_reducible rfl)
          simp only [Act.put, List.setIfInBounds_toArray, List.set_cons_zero, List.set_cons_succ]
          refine wpAnyH_take (i := 36) (oi := { dst := some 81, op := Go.Op.move (Go.Operand.tmp 10), type := 3, pos := "law.go:131", after := #[{ on := 34, ground := Go.Ground.guard }], guard := some (34, false) }) (v := ?_) rfl (by kernel_rfl) (by kernel_rfl) (by kernel_rfl) (fun _ _ _ h => h) (Or.inl ⟨by rfl, ?_⟩) hK0 ?_
          rotate_left
          · (intro wz hSz; (try dsimp only at hSz); go_simp; try with_reducible rfl)
          simp only [Act.put, List.setIfInBounds_toArray, List.set_cons_zero, List.set_cons_succ]
          refine wpAnyH_take (i := 37) (oi := { dst := some 82, op := Go.Op.indexAddr 22 (Go.Operand.tmp 80) (Go.Operand.tmp 81), type := 0, pos := "law.go:131", after := #[{ on := 35, ground := Go.Ground.data }, { on := 36, ground := Go.Ground.data }, { on := 34, ground := Go.Ground.guard }], guard := some (34, false) }) (v := ?_) rfl (by kernel_rfl) (by kernel_rfl) (by kernel_rfl) (fun _ _ _ h => h) (Or.inl ⟨by rfl, ?_⟩) hK0 ?_
          rotate_left
          · (intro wz hSz; (try dsimp only at hSz); go_simp; try with_reducible rfl)
          simp only [Act.put, List.setIfInBounds_toArray, List.set_cons_zero, List.set_cons_succ]
          refine wpAnyH_take (i := 38) (oi := { dst := some 83, op := Go.Op.fieldAddr 54 (Go.Operand.tmp 82) 1, type := 0, pos := "law.go:131", after := #[{ on := 37, ground := Go.Ground.data }, { on := 34, ground := Go.Ground.guard }], guard := some (34, false) }) (v := ?_) rfl (by kernel_rfl) (by kernel_rfl) (by kernel_rfl) (fun _ _ _ h => h) (Or.inl ⟨by rfl, ?_⟩) hK0 ?_
          rotate_left
          · (intro wz hSz; (try dsimp only at hSz); go_simp; try with_reducible rfl)
          simp only [Act.put, List.setIfInBounds_toArray, List.set_cons_zero, List.set_cons_succ]
          refine wpAnyH_take (i := 39) (oi := { dst := some 84, op := Go.Op.load 25 (Go.Operand.tmp 83), type := 25, pos := "law.go:131", after := #[{ on := 38, ground := Go.Ground.data }, { on := 34, ground := Go.Ground.guard }], guard := some (34, false) }) (v := ?_) rfl (by kernel_rfl) (by kernel_rfl) (by kernel_rfl) (fun _ _ _ h => h) (Or.inl ⟨by rfl, ?_⟩) hK0 ?_
          rotate_left
          · (intro wz hSz; have hcz := True.intro; obtain ⟨c0, c1⟩ := view_cells ((Below.block hSz _ (L.blk_lt HP1.out)).trans HP1.out); obtain ⟨c2, c3⟩ := lab_cells ((Below.block hSz _ (L.blk_lt HP.out)).trans HP.out); obtain ⟨-, e0, e1, e2, -, -, -⟩ := HI.out.below hSz; have e3 := HDI.out.kept hSz; have e4 := HTP.out.kept hSz; go_simp; try with_reducible rfl)
          simp only [Act.put, List.setIfInBounds_toArray, List.set_cons_zero, List.set_cons_succ]
          refine wpAnyH_take (i := 40) (oi := { dst := some 85, op := Go.Op.load 25 (Go.Operand.tmp 4), type := 25, pos := "law.go:131", after := #[{ on := 34, ground := Go.Ground.guard }], guard := some (34, false) }) (v := ?_) rfl (by kernel_rfl) (by kernel_rfl) (by kernel_rfl) (fun _ _ _ h => h) (Or.inl ⟨by rfl, ?_⟩) hK0 ?_
          rotate_left
          · (intro wz hSz; have hcz := True.intro; obtain ⟨c0, c1⟩ := view_cells ((Below.block hSz _ (L.blk_lt HP1.out)).trans HP1.out); obtain ⟨c2, c3⟩ := lab_cells ((Below.block hSz _ (L.blk_lt HP.out)).trans HP.out); obtain ⟨-, e0, e1, e2, -, -, -⟩ := HI.out.below hSz; have e3 := HDI.out.kept hSz; have e4 := HTP.out.kept hSz; go_simp; try with_reducible rfl)
          simp only [Act.put, List.setIfInBounds_toArray, List.set_cons_zero, List.set_cons_succ]
          refine wpAnyH_ready (rs := [41]) (by kernel_rfl) (by simp) ?_
          refine AllReadyH.cons (o := { dst := some 86, op := Go.Op.call { callee := Go.Callee.value (Go.Operand.func 30), args := #[Go.Operand.tmp 84, Go.Operand.tmp 85], argTypes := #[25, 25] }, type := 4, pos := "law.go:131", after := #[{ on := 39, ground := Go.Ground.data }, { on := 40, ground := Go.Ground.data }, { on := 34, ground := Go.Ground.chain }, { on := 34, ground := Go.Ground.guard }], guard := some (34, false) }) rfl (fun K hK => ?_) AllReadyH.nil
          go_simp
          with_reducible refine (HC.out.call _).mono ?_
          rintro r wq1 ⟨rfl, hbq⟩
          go_wp2_with fail
          refine hK.out _ _ (Keeps.trans hK0 hbq) (fun hJ => ?_)
          refine wpAnyH_more (S' := Keeps wq1) (fun z hz => Keeps.trans hJ hz) _ _ _ _ ?_
          replace HBX := Lib.hid (HBX.out.trans (Below.mono hJ HBX.out.size))
          have hK1 : Keeps wq1 wq1 := Below.refl _ _
          clear hK K hbq hK0 hJ
          refine wpAnyH_take (i := 42) (oi := { dst := some 87, op := Go.Op.unOp Go.UnOp.not 4 (Go.Operand.tmp 86), type := 4, pos := "law.go:131", after := #[{ on := 41, ground := Go.Ground.data }, { on := 34, ground := Go.Ground.guard }], guard := some (34, false) }) (v := ?_) rfl (by kernel_rfl) (by kernel_rfl) (by kernel_rfl) (fun _ _ _ h => h) (Or.inl ⟨by rfl, ?_⟩) hK1 ?_
          rotate_left
          · (intro wz hSz; (try dsimp only at hSz); go_simp; try with_reducible rfl)
          simp only [Act.put, List.setIfInBounds_toArray, List.set_cons_zero, List.set_cons_succ]
          refine wpAnyH_take (i := 43) (oi := { dst := some 88, op := Go.Op.pick (Go.Operand.tmp 79) (Go.Operand.const (Go.Value.bool true)) (Go.Operand.tmp 87), type := 4, pos := "law.go:131", after := #[{ on := 34, ground := Go.Ground.data }, { on := 42, ground := Go.Ground.data }], guard := none }) (v := ?_) rfl (by kernel_rfl) (by kernel_rfl) (by kernel_rfl) (fun _ _ _ h => h) (Or.inl ⟨by rfl, ?_⟩) hK1 ?_
          rotate_left
          · (intro wz hSz; (try dsimp only at hSz); go_simp; try with_reducible rfl)
          simp only [Act.put, List.setIfInBounds_toArray, List.set_cons_zero, List.set_cons_succ]
          refine wpAnyH_done (by kernel_rfl) ?_ _
          go_wp2_with fail
          go_meet
          case rel => exact ⟨rfl, HBX⟩
      case rest =>
      obtain ⟨rfl, HBY⟩ := hcut
      have c5 := (HI.out.below HBY.out).c5
      have cb := HBI.out.kept HBY.out
      obtain ⟨y0, y1⟩ := view_cells ((HBY.out.block _ (L.blk_lt HP1.out)).trans HP1.out)
      have HBR2 := Lib.hid (HBR.out.trans (HBY.out.mono HBR.out.size))
      clear HBX HBY HC HI HTI HDI HBI HTQ HP HP1 HBR hn1 hn2 hn3 hn4 hbs
      have HP := HPW
      have HP1 := HP1W
      generalize wc = w6 at *
      have hw1 : IntKind.i64.wrap ((ts.length : Int) - 1) = (ts.length : Int) - 1 := by rw [IntKind.wrap_i64]; have := HTB.out; omega
      have hnb : (x.ba != x.ba) = false := by simp
      generalize x.ba = ba at *
      by_cases hl : i + 1 = ts.length
      · rw [decide_eq_true hl, Bool.true_and] at cb
        have hq : ((i : Int) == (ts.length : Int) - 1) = true := by rw [beq_iff_eq]; omega
        have HL := Lib.hid hl
        clear hl
        go_wp2_with fail
        go_quiet (fail)
        go_wp2_with fail
        go_roundg (ts.length - (i + 1))
        case rel => exact ⟨i + 1, by omega, by go_num, Nat.le_refl _, below_drewN HBR2.out _⟩
        case measure => omega
      · rw [decide_eq_false hl, Bool.false_and] at cb
        have hq : ((i : Int) == (ts.length : Int) - 1) = false := by rw [beq_eq_false_iff_ne]; omega
        have HL := Lib.hid hl
        clear hl
        go_wp2_with fail
        go_quiet (fail)
        go_wp2_with fail
        go_roundg (ts.length - (i + 1))
        case rel => exact ⟨i + 1, by omega, by go_num, Nat.le_refl _, below_drewN HBR2.out _⟩
        case measure => omega
    · obtain rfl : i = ts.length := by omega
      replace HB := Lib.hid (HB.out.trans (Below.mono hbr HB.out.size))
      clear hbr
      go_wp2_with fail
      with_reducible refine (LV.out.at _).mono ?_
      rintro e w8 ⟨rfl, hb8⟩
      replace HB := Lib.hid (HB.out.trans (Below.mono hb8 HB.out.size))
      clear hb8
      go_wp2_with fail
      go_ret
      exact ⟨rfl, HB.out⟩
end Go.Proofs.Ytaejphdgfkljmaa.V

namespace Go.Proofs.Ytaejphdgfkljmaa.V
set_option linter.unusedVariables false
set_option linter.unusedSimpArgs false
open Go.RowKit
open T
open I (It Lb ItemsIn ItemsAt ItemsOk itCells itCells_snoc itCells_at items_cells items_own own_at own_below infoItem alloc1)

theorem lvOk : ItemsOk lvIts := ⟨by decide, by decide, by decide⟩
theorem live5 : LvC 16 := by
  refine live5_walk (ls := lvLns) (ts := [0, 2]) (ds := [4, 6]) (c := lvCut) (b := P.join lvLns) (Lib.hid fun A cap => ?_) (Lib.hid ?_) (Lib.hid ?_) (Lib.hid ?_) (Lib.hid ?_) (Lib.hid fun A cap => ?_) (Lib.hid rfl) (Lib.hid ?_) (Lib.hid fun A cap => ?_) (Lib.hid rfl)
  · have := vo_is A cap lvIts (0, 0) [46, 46, 46] lvOk (by decide) (by decide)
    rw [lvLns_is, lvAts_is] at this
    exact this
  · exact af_is [0, 2] 2 (by decide) (by decide) (by decide)
  · exact fd_is [0, 2] 2 (by decide)
  · exact tx_is lvLns (by decide)
  · decide
  · exact vi_is A cap lvIts [0, 2] (by decide) (by decide)
  · exact fun W A B c c' h1 h2 => (rints_any A B c c' [4, 6] [4, 6] W (by decide) h1 h2).mono fun e w' h => ⟨by rw [h.1, decide_eq_true rfl], h.2⟩
  · have := cu_is A cap lvIts (0, 0) lvOk (by decide) (by decide)
    rw [lvCut_is] at this
    exact this

/-- The bounds of what a law asks about items. -/
structure Fits (l : List It) (o : Lb) : Prop where
  ok : ItemsOk l
  ct : o.2 < 18446744073709551616
  sz : l.length * 56 ≤ 140737488355328
theorem Fits.cut {l : List It} {o : Lb} (h : Fits l o) : Fits (cut o l) o :=
  ⟨⟨Nat.le_trans (cut_le o l) h.ok.len, fun x hx => h.ok.tx x (List.mem_filter.1 hx).1, fun x hx => h.ok.ct x (List.mem_filter.1 hx).1⟩, h.ct, Nat.le_trans (Nat.mul_le_mul_right 56 (cut_le o l)) h.sz⟩
theorem atI_length (o : Lb) (l : List It) : (atI o l).length = (cut o l).length := by unfold atI; rw [List.length_map, ats_length]
theorem Fits.at8 {l : List It} {o : Lb} (h : Fits l o) : (atI o l).length * 8 ≤ 140737488355328 := by
  have := h.sz; have := cut_le o l; rw [atI_length]; omega
theorem Fits.len {l : List It} {o : Lb} (h : Fits l o) : l.length ≤ 4194304000000 := by have := h.sz; omega
theorem Fits.atMax {l : List It} {o : Lb} (h : Fits l o) : (atI o l).length ≤ maxLen := by rw [atI_length]; exact h.cut.ok.len

theorem vshows_all {A : Option Addr} {cap : Nat} {l : List It} {o : Lb} {h : List UInt8} {w : World} (F : Fits l o) (hb : P.bulk (lns h (cut o l)) ≤ 70368744177664) (hA : ItemsIn w A l) :
    Calls Try.prog 3 #[.slice A l.length cap, .agg #[.int .i64 o.1, .int .u64 (o.2 : Int)], .string ⟨h.toArray⟩] w fun e w' => e = .returned (.bool true) ∧ Below w.heap.size w w' :=
  vshows_law (Lib.hid hA) (Lib.hid (vo_is A cap l o h F.ok F.ct F.sz)) (Lib.hid (rvo_is A cap l o h F.ok F.sz)) (Lib.hid live5)
    (Lib.hid (sv_is _ _ (by rw [lns_length]; exact F.cut.ok.len) F.atMax)) (Lib.hid (tx_is _ hb)) (Lib.hid (rjn_is _ hb))
    (Lib.hid (vi_is A cap l _ F.ok.len F.at8)) (Lib.hid (rid_is A cap l _ F.ok.len F.at8)) (Lib.hid (rin_is _ (by unfold ids; rw [List.length_map]; exact F.atMax)))
    (Lib.hid (cu_is A cap l o F.ok F.ct F.sz)) (Lib.hid (rcu_is A cap l o F.ok F.sz)) (Lib.hid (si_is _ F.cut.ok.len))
theorem vfinds_all {A LA TA : Option Addr} {cap ln lc tc : Nat} {l : List It} {ts : List Int} {n : Int} {w : World} (hl : l.length ≤ maxLen) (ht : ts.length * 8 ≤ 140737488355328) (hn0 : -9223372036854775808 ≤ n) (hn1 : n ≤ 9223372036854775807) (hA : ItemsIn w A l) (hT : IntsIn w TA ts) :
    Calls Try.prog 4 #[.agg #[.slice LA ln lc, .slice TA ts.length tc], .slice A l.length cap, .int .i64 n] w fun e w' => e = .returned (.bool true) ∧ Below w.heap.size w w' :=
  have hm : ts.length ≤ maxLen := by unfold maxLen; omega
  vfinds_law (b := true) (k := 0) (r := 0) hn0 hn1 hm (Lib.hid hA) (Lib.hid hT) (Lib.hid (fd_is ts n hm)) (Lib.hid (af_is ts n hm hn0 hn1)) (Lib.hid live5) (Lib.hid (vi_is A cap l ts hl ht)) (Lib.hid (rid_is A cap l ts hl ht)) (Lib.hid (rin_is _ (by unfold ids; rw [List.length_map]; exact hm)))
theorem vblind_all {A B : Option Addr} {cap cap' : Nat} {l m : List It} {o : Lb} {h : List UInt8} {w : World} (F : Fits l o) (G : Fits m o) (hA : ItemsIn w A l) (hB : ItemsIn w B m) :
    Calls Try.prog 5 #[.slice A l.length cap, .slice B m.length cap', .agg #[.int .i64 o.1, .int .u64 (o.2 : Int)], .string ⟨h.toArray⟩] w fun e w' => e = .returned (.bool true) ∧ Below w.heap.size w w' :=
  vblind_law (ts := atI o l) (tc := atI o (cut o l)) (same := decide (cut o l = cut o m)) (by rw [atI_length, lns_length]) (Lib.hid hA) (Lib.hid hB) (Lib.hid (vo_is A cap l o h F.ok F.ct F.sz)) (Lib.hid (cu_is A cap l o F.ok F.ct F.sz))
    (Lib.hid fun A cap => by have := vo_is A cap (cut o l) o h F.cut.ok F.ct F.cut.sz; rw [cut_cut] at this; exact this) (Lib.hid fun W A B c c' h1 h2 => T.same_any A B c c' _ W (by rw [lns_length]; exact F.cut.ok.len) h1 h2) (Lib.hid (rcu_is A cap l o F.ok F.sz)) (Lib.hid (rcu_is B cap' m o G.ok G.sz)) (Lib.hid (sg_is _ _ F.cut.ok.len))
    (Lib.hid fun hd => ⟨atI o m, by have := vo_is B cap' m o h G.ok G.ct G.sz; rw [← of_decide_eq_true hd] at this; exact this⟩) (Lib.hid live5)

theorem lns_at (h : List UInt8) {l : List It} {j : Nat} (hj : j < (lns h l).length) (hl : j < l.length) : (lns h l)[j].1 = txt h l[j] := by
  have := congrArg (fun z => z[j]?) (lns_text h l)
  simpa [List.getElem?_eq_getElem hj, List.getElem?_eq_getElem hl] using this
theorem atI_get {o : Lb} {l : List It} {j : Nat} (hj : j < (atI o l).length) : ∃ hi : ((ats o 0 l)[j]'(by simpa [atI] using hj)) < l.length, (atI o l)[j] = (((ats o 0 l)[j]'(by simpa [atI] using hj) : Nat) : Int) ∧ sees o (l[(ats o 0 l)[j]'(by simpa [atI] using hj)]) = true ∧ (cut o l)[j]? = some (l[(ats o 0 l)[j]'(by simpa [atI] using hj)]) := by
  have hj' : j < (ats o 0 l).length := by simpa [atI] using hj
  obtain ⟨hi, -, h2, h3⟩ := ats_get o l 0 j hj'
  simp only [Nat.sub_zero] at hi h2 h3
  exact ⟨hi, by simp [atI], h2, h3⟩
theorem ended_is (o : Lb) (l : List It) (h : List UInt8) : Ended o l (lns h (cut o l)) (atI o l) (ids l (atI o l)) (fun i => (ats o 0 l).getD i 0) := by
  have hg : ∀ i, i < (atI o l).length → ∃ hi : (ats o 0 l).getD i 0 < l.length, ∀ hj : i < (atI o l).length, (atI o l)[i] = (((ats o 0 l).getD i 0 : Nat) : Int) ∧ sees o l[(ats o 0 l).getD i 0] = true ∧ (cut o l)[i]? = some l[(ats o 0 l).getD i 0] := fun i hi => by
    obtain ⟨h1, h2, h3, h4⟩ := atI_get hi
    have he : (ats o 0 l).getD i 0 = (ats o 0 l)[i]'(by simpa [atI] using hi) := by rw [List.getD_eq_getElem?_getD, List.getElem?_eq_getElem (by simpa [atI] using hi)]; rfl
    simp only [he]
    exact ⟨h1, fun _ => ⟨h2, h3, h4⟩⟩
  refine ⟨by rw [lns_length, atI_length], by unfold ids; rw [List.length_map], fun i hi => (hg i hi).1, fun i hi => ((hg i hi).2 hi).1, fun i hi => ?_, fun i hi hj => ?_, fun i hi hj => ((hg i hi).2 hi).2.1, fun i hi hj => ?_⟩
  · have h1 := ats_lt o (l := l) (k := 0) (i := i) (j := i + 1) (by simpa [atI] using hi) (by omega)
    have e1 : (ats o 0 l).getD i 0 = (ats o 0 l)[i]'(Nat.lt_of_succ_lt (by simpa [atI] using hi)) := by rw [List.getD_eq_getElem?_getD, List.getElem?_eq_getElem]; rfl
    have e2 : (ats o 0 l).getD (i + 1) 0 = (ats o 0 l)[i + 1]'(by simpa [atI] using hi) := by rw [List.getD_eq_getElem?_getD, List.getElem?_eq_getElem]; rfl
    simp only [e1, e2]
    exact h1
  · have hi' : i < (atI o l).length := by simpa [ids] using hi
    have h1 := ((hg i hi').2 hi').1
    have h2 : (ids l (atI o l))[i] = idAt l (atI o l)[i] := by simp [ids]
    rw [h2, h1]
    unfold idAt
    rw [if_pos (by omega), Int.toNat_natCast, List.getElem?_eq_getElem hj]; rfl
  · have hi' : i < (atI o l).length := by rw [lns_length] at hi; rw [atI_length]; exact hi
    have hc : i < (cut o l).length := by rw [← atI_length]; exact hi'
    have h3 := ((hg i hi').2 hi').2.2
    rw [List.getElem?_eq_getElem hc] at h3
    rw [lns_bare h (cut o l) i hi hc, atI_length, Option.some.inj h3]
theorem found_is (o m : Lb) (l : List It) (h : List UInt8) : Found (atI o l) (atI (max o.1 m.1, o.2 ||| m.2) l) (lns h (cut o l)) (lns h (cut (max o.1 m.1, o.2 ||| m.2) l)) (fun i => (ats (max o.1 m.1, o.2 ||| m.2) 0 l).idxOf ((ats o 0 l).getD i 0)) := by
  obtain ⟨jo, hjo⟩ : ∃ jo, jo = (max o.1 m.1, o.2 ||| m.2) := ⟨_, rfl⟩
  have hmore : ∀ a ∈ ats o 0 l, a ∈ ats jo 0 l := by rw [hjo]; exact ats_more o m l 0
  rw [← hjo]
  clear hjo
  have hd : ∀ i, i < (ats o 0 l).length → ∀ hi : i < (ats o 0 l).length, (ats o 0 l).getD i 0 = (ats o 0 l)[i] := fun i hi _ => by rw [List.getD_eq_getElem?_getD, List.getElem?_eq_getElem hi]; rfl
  have hp : ∀ i, i < (ats o 0 l).length → (ats jo 0 l).idxOf ((ats o 0 l).getD i 0) < (ats jo 0 l).length := fun i hi => List.idxOf_lt_length_iff.2 (hmore _ (by rw [hd i hi hi]; exact List.getElem_mem hi))
  have hg : ∀ i (hi : i < (ats o 0 l).length), (ats jo 0 l)[(ats jo 0 l).idxOf ((ats o 0 l).getD i 0)]'(hp i hi) = (ats o 0 l)[i] := fun i hi => by rw [List.getElem_idxOf, hd i hi hi]
  have hts : (atI o l).length = (ats o 0 l).length := by simp [atI]
  have hus : (atI jo l).length = (ats jo 0 l).length := by simp [atI]
  refine ⟨fun i hi => by rw [hus]; exact hp i (by omega), fun i hi hq => ?_, fun i hi q hq hqp => ?_, fun i hi => ?_, fun i h1 h2 => ?_, by rw [lns_length, atI_length], by rw [lns_length, atI_length]⟩
  · have := hg i (by omega)
    simp only [atI, List.getElem_map, this]
  · have h1 := hp i (by omega)
    have h2 := ats_lt jo (l := l) (k := 0) (i := q) h1 hqp
    rw [hg i (by omega)] at h2
    simp only [atI, List.getElem_map]
    omega
  · have h1 := hp i (by omega)
    have h2 := hp (i + 1) (by omega)
    have h3 := ats_lt o (l := l) (k := 0) (i := i) (j := i + 1) (by omega) (by omega)
    rw [← hg i (by omega), ← hg (i + 1) (by omega)] at h3
    refine Nat.le_of_not_lt fun hlt => ?_
    have h4 := ats_lt jo (l := l) (k := 0) h1 hlt
    omega
  · have hi : i < (ats o 0 l).length := by rw [lns_length, ← ats_length o l 0] at h1; exact h1
    have hc1 : i < (cut o l).length := by rw [← ats_length o l 0]; exact hi
    have hq := hp i hi
    have hc2 : (ats jo 0 l).idxOf ((ats o 0 l).getD i 0) < (cut jo l).length := by rw [← ats_length jo l 0]; exact hq
    rw [lns_at h h1 hc1, lns_at h h2 hc2]
    obtain ⟨_, -, -, h3⟩ := ats_get o l 0 i hi
    obtain ⟨_, -, -, h4⟩ := ats_get jo l 0 _ hq
    rw [List.getElem?_eq_getElem hc1] at h3
    rw [List.getElem?_eq_getElem hc2] at h4
    rw [Option.some.inj h3, Option.some.inj h4]
    simp only [hg i hi, Nat.sub_zero]
theorem vmore_all {A : Option Addr} {cap : Nat} {l : List It} {o m : Lb} {h : List UInt8} {w : World} (F : Fits l o) (hm : m.2 < 18446744073709551616) (hA : ItemsIn w A l) :
    Calls Try.prog 6 #[.slice A l.length cap, .agg #[.int .i64 o.1, .int .u64 (o.2 : Int)], .agg #[.int .i64 m.1, .int .u64 (m.2 : Int)], .string ⟨h.toArray⟩] w fun e w' => e = .returned (.bool true) ∧ Below w.heap.size w w' :=
  have G : Fits l (max o.1 m.1, o.2 ||| m.2) := ⟨F.ok, Nat.or_lt_two_pow (n := 64) F.ct hm, F.sz⟩
  vmore_law G.atMax F.atMax (Lib.hid hA) (Lib.hid (vo_is A cap l o h F.ok F.ct F.sz)) (Lib.hid fun W => L.refJoin_any o.1 m.1 o.2 m.2 W F.ct hm) (Lib.hid (vo_is A cap l _ h G.ok G.ct G.sz)) (Lib.hid (found_is o m l h)) (Lib.hid live5)
theorem vends_all {A : Option Addr} {cap : Nat} {l : List It} {o : Lb} {h : List UInt8} {w : World} (F : Fits l o) (hA : ItemsIn w A l) :
    Calls Try.prog 8 #[.slice A l.length cap, .agg #[.int .i64 o.1, .int .u64 (o.2 : Int)], .string ⟨h.toArray⟩] w fun e w' => e = .returned (.bool true) ∧ Below w.heap.size w w' :=
  vends_law F.atMax F.ok.len (Lib.hid F.ok.ct) (Lib.hid hA) (Lib.hid (vo_is A cap l o h F.ok F.ct F.sz)) (Lib.hid (vi_is A cap l _ F.ok.len F.at8)) (Lib.hid (ended_is o l h)) (Lib.hid live5)
end Go.Proofs.Ytaejphdgfkljmaa.V
