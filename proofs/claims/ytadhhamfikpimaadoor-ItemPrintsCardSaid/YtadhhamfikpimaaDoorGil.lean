/-
  The contract of the reference's Print (layer 4).
-/
import Derived.Test.YtadhhamfikpimaaDoorGik
import Derived.Test.YtadhhamfikpimaaDoorGl
import Derived.Test.YtadhhamfikpimaaDoorGij
import Derived.Test.YtadhhamfikpimaaDoorGf
import Derived.Deep.DeepCutAuto
namespace Go.Proofs.YtadhhamfikpimaaDoor.I
set_option linter.unusedVariables false
set_option linter.unusedSimpArgs false
open Go.RowKit
open T
open O (own_ne grown_of grown_set ne_type)

def RPr (l : Int) (c : Nat) (x : ByteArray) : Prop := ∀ w : World, Calls Tryd.prog 43 #[L.lab l c] w fun e w' => e = .returned (.string x) ∧ Below w.heap.size w w'
theorem RPr.call {l : Int} {c : Nat} {x : ByteArray} (h : RPr l c x) (w : World) : Calls Tryd.prog 43 #[L.lab l c] w fun e w' => e = .returned (.string x) ∧ Below w.heap.size w w' := h w
def RpEnd (w : World) (o : List UInt8 ⊕ Nat) (e : Ending) (w' : World) : Prop :=
  Below w.heap.size w w' ∧ ∃ A cap, e = .returned (.tuple #[.slice A (prBytes o).length cap, .int .i64 (prErr o : Int)]) ∧ BytesIn w' A (prBytes o)
theorem rp_err {w w' : World} {k : Nat} {o : List UInt8 ⊕ Nat} (h : o = .inr k) (hb : Below w.heap.size w w') : RpEnd w o (.returned (.tuple #[.slice none 0 0, .int .i64 (k : Int)])) w' := by
  subst h
  exact ⟨hb, none, 0, rfl, fun h => absurd h (by simp [prBytes])⟩
/-- The cells of the innermost label. -/
theorem top_cells {w : World} {base p vcap : Nat} {vA : Option Addr} {t : Lb} {r : List Lb} (hp : p = r.length) (h : w.ownsRow base 40 2 (.slice vA (p + 1) vcap) (p + 1) (labCells (t :: r).reverse)) :
    ∃ g, vA = some ⟨g, 0, none⟩ ∧ base ≤ g ∧ CellAt w g (p * 2) (.int .i64 t.1) ∧ CellAt w g (p * 2 + 1) (.int .u64 (t.2 : Int)) ∧ (∀ j u, (labCells r.reverse)[j]? = some u → w.cell? ⟨g, j, none⟩ = some u) := by
  subst hp
  obtain ⟨g, hA, hg, hgl, hcells⟩ := own_at h (by omega)
  have hc := labCells_at (t :: r).reverse r.length (by simp)
  have e : (t :: r).reverse[r.length]'(by simp) = t := by simp
  rw [e] at hc
  refine ⟨g, hA, hg, ⟨hgl, hcells _ _ hc.1⟩, ⟨hgl, hcells _ _ hc.2⟩, fun j u hu => hcells j u ?_⟩
  rw [List.reverse_cons, labCells_snoc, List.getElem?_append_left (List.getElem?_eq_some_iff.1 hu).1]
  exact hu
theorem own_more {w : World} {base base' : Nat} {e : TypeId} {size n : Nat} {v : Value} {xs : List Value} (hb : base' ≤ base) (h : w.ownsRow base e size v n xs) : w.ownsRow base' e size v n xs := by
  refine ⟨h.1, ?_⟩
  rcases h.2 with h | ⟨g, cap, cur, e', hg, r⟩
  · exact .inl h
  · exact .inr ⟨g, cap, cur, e', Nat.le_trans hb hg, r⟩
theorem one_label (p : Nat) (a : Int) (b : Nat) : ∀ u ∈ ([.int .i64 a, .int .u64 (b : Int)] : List Value), u.oneCell' = true := by
  intro u hu; simp at hu; rcases hu with rfl | rfl <;> rfl
theorem labCells_one (ls : List Lb) : ∀ u ∈ labCells ls, u.oneCell' = true := by
  intro u hu
  simp only [labCells, List.mem_flatMap] at hu
  obtain ⟨a, _, h⟩ := hu
  exact one_label 0 a.1 a.2 u h

set_option maxRecDepth 100000 in
set_option maxHeartbeats 8000000 in
theorem refPrint4_any (A : Option Addr) (cap : Nat) (l : List It) (fl : Lb) (w : World) (hfl : fl.2 < 18446744073709551616) (hA : ItemsIn w A l) (hok : ItemsOk l) :
    Calls Tryd.prog 26 #[.slice A l.length cap, .agg #[.int .i64 fl.1, .int .u64 (fl.2 : Int)]] w (RpEnd w (print fl l)) := by
  obtain ⟨i0, hi0, hz0, hz1, hz2⟩ := info_parts infoLab
  have HFL := Lib.hid hfl
  have HOK := Lib.hid hok
  have hlm := hok.len
  unfold maxLen at hlm
  obtain ⟨res, hres⟩ : ∃ o, o = print fl l := ⟨_, rfl⟩
  rw [← hres]
  have HRES := Lib.hid hres
  clear hres
  obtain ⟨f0, f1⟩ := fl
  simp only at HFL ⊢
  obtain ⟨W0, hW0⟩ : ∃ W : World, W = w.alloc (.cells #[.int .i64 f0, .int .u64 (f1 : Int)] 40) := ⟨_, rfl⟩
  have HB0 := Lib.hid (show Below w.heap.size w W0 by rw [hW0]; exact alloc1 _ _)
  have HX0 := Lib.hid (show W0.heap[w.heap.size]? = some (.cells #[.int .i64 f0, .int .u64 (f1 : Int)] 40 (0, 0)) by rw [hW0]; exact heap_alloc_new w _)
  have HA := Lib.hid (hA.below HB0.out)
  have HCK := Lib.hid (refCheck_any A cap l (f0, f1) W0 hfl HA.out hok)
  simp only at HCK
  obtain ⟨xb, hxb⟩ : ∃ xb, xb = w.heap.size := ⟨_, rfl⟩
  rw [← hxb] at HX0
  have hx0 : xb < W0.heap.size := L.blk_lt HX0.out
  have HXB := Lib.hid hxb
  obtain ⟨x0, x1⟩ := O.lab_cells HX0.out
  rw [hW0, hxb] at x0 x1
  clear hA hok hfl
  go_enter Tryd.func26, Tryd.ntmps26
  go_wp2_with fail
  rw [← hW0, ← hxb]
  clear x0 x1 hxb
  with_reducible refine (HCK.out).mono ?_
  rintro e w1 ⟨rfl, hb1⟩
  clear hW0 HCK
  have HB1 := Lib.hid hb1
  have HA1 := Lib.hid (HA.out.below hb1)
  have HBW1 := Lib.hid (HB0.out.trans (hb1.mono HB0.out.size))
  have HX1 := Lib.hid ((hb1.block xb hx0).trans HX0.out)
  have hx1 : xb < w1.heap.size := L.blk_lt HX1.out
  clear hb1
  by_cases hck : check (f0, f1) l = 0
  case neg =>
    have HE := Lib.hid (show res = .inr (check (f0, f1) l) by rw [HRES.out]; unfold print; rw [if_pos hck])
    have hci : ((check (f0, f1) l : Int) != 0) = true := by simpa using hck
    generalize check (f0, f1) l = ck at *
    go_wp2_with fail
    go_ret2
    exact rp_err HE.out HBW1.out
  rw [hck]
  by_cases h4 : 400 < l.length
  · have HE := Lib.hid (show res = .inr 4 by rw [HRES.out]; unfold print; rw [if_neg (by simpa using hck), if_pos h4])
    have h4i : 400 < (l.length : Int) := by omega
    go_wp2_with fail
    go_ret2
    exact rp_err HE.out HBW1.out
  have h4i : ¬ 400 < (l.length : Int) := by omega
  have HRE2 : Hid (res = if 32768 < (J (outOf [(f0, f1)] l)).length then .inr 4 else .inl (J (outOf [(f0, f1)] l))) := Lib.hid (by rw [HRES.out]; unfold print; rw [if_neg (by simpa using hck), if_neg h4]; rfl)
  have HZ := Lib.hid (check_zero hck)
  have hTl : (J (outOf [(f0, f1)] l)).length ≤ 2000000 := J_bound _ _ (by omega) (fun x hx => (HZ.out x hx).2.1)
  obtain ⟨T0, hT0⟩ : ∃ T0, T0 = J (outOf [(f0, f1)] l) := ⟨_, rfl⟩
  rw [← hT0] at HRE2 hTl
  have HT0 := Lib.hid hT0
  have HO0 := Lib.hid (World.ownsRow_made (base := w1.heap.size) (e := 40) (size := 2) w1 #[] 0 (Nat.le_refl _) (Nat.zero_le _) rfl)
  have HBE := Lib.hid (alloc1 w1 (.cells #[] 40))
  clear hck hT0 HRES
  go_wp2_with fail
  go_loopg [7, 8, 9] l.length (fun m ov v i wr => ∃ (k : Nat) (o : ByteArray) (os : List Lb), k ≤ l.length ∧ i = .int .i64 k ∧ l.length - k ≤ m ∧ ov = .string o ∧ wr.ownsRow w1.heap.size 40 2 v os.length (labCells os.reverse) ∧ Hid (Below w1.heap.size w1 wr) ∧ Hid (o.data.toList ++ J (outOf (os ++ [(f0, f1)]) (l.drop k)) = T0) ∧ Hid (Stk (f0, f1) (os ++ [(f0, f1)])) ∧ Hid (∀ y ∈ os, y.2 < 18446744073709551616))
  case atStart => exact ⟨0, ⟨#[]⟩, [], Nat.zero_le _, rfl, by omega, rfl, HO0.out, HBE, Lib.hid HT0.out.symm, Lib.hid (Stk.start _), Lib.hid fun y hy => by cases hy⟩
  case round =>
    obtain ⟨k, o, os, hk, rfl, hm, rfl, hown, HBR, HTQ, HST, HCS⟩ := hrel
    have hos16 : os.length ≤ 16 := by have := HST.out.few; simpa using this
    obtain ⟨vA, vcap, rfl, hvc, -⟩ := own_form hown
    have HOW := Lib.hid hown
    clear hown hvc
    by_cases hlt : k < l.length
    · obtain ⟨bk, off, hAe, hbk, hI⟩ := HA1.out (by omega)
      have HII := Lib.hid hI
      subst hAe
      obtain ⟨c0, c1, c2, c3, c4, c5⟩ := items_cells hI HBR.out hbk hlt
      have h0k : (0 : Int) ≤ (k : Int) := by omega
      have hki : (k : Int) < (l.length : Int) := by omega
      have hct := HOK.out.ct _ (List.getElem_mem hlt)
      have hzx := HZ.out _ (List.getElem_mem hlt)
      have HDR := Lib.hid (List.drop_eq_getElem_cons hlt)
      rw [HDR.out] at HTQ
      have hIat := hI k hlt
      have hbel : L.belowB f0 f1 l[k].lv l[k].ct = true := by have := hzx.1; simp only [labOk, Bool.and_eq_true] at this; exact this.2
      obtain ⟨x, hx⟩ : ∃ x, x = l[k] := ⟨_, rfl⟩
      rw [← hx] at c1 c2 hct hzx HTQ hbel hIat
      have HHX := Lib.hid hx
      have hlbx : x.lb = (x.lv, x.ct) := rfl
      obtain ⟨al, hal⟩ : ∃ al, al = x.lv := ⟨_, rfl⟩
      obtain ⟨ac, hac⟩ : ∃ ac, ac = x.ct := ⟨_, rfl⟩
      rw [← hal, ← hac] at hlbx
      rw [← hal] at c1 hbel
      rw [← hac] at c2 hct hbel
      have HAL := Lib.hid hal
      have HAC := Lib.hid hac
      have HLBX := Lib.hid hlbx
      have HBEL := Lib.hid hbel
      have HCT := Lib.hid hct
      have HZX := Lib.hid hzx
      have HIAT := Lib.hid hIat
      have hbs := HBR.out.size
      obtain ⟨W2, hW2⟩ : ∃ W : World, W = wr.alloc (.cells #[.int .i64 al, .int .u64 (ac : Int)] 40) := ⟨_, rfl⟩
      have hbW : Below wr.heap.size wr W2 := by rw [hW2]; exact alloc1 _ _
      have HX2 := Lib.hid (show W2.heap[wr.heap.size]? = some (.cells #[.int .i64 al, .int .u64 (ac : Int)] 40 (0, 0)) by rw [hW2]; exact heap_alloc_new wr _)
      have HBRW := Lib.hid (HBR.out.trans (hbW.mono hbs))
      have HOW2 := Lib.hid (own_below HOW.out hbW)
      obtain ⟨xa, hxa⟩ : ∃ xa, xa = wr.heap.size := ⟨_, rfl⟩
      have hxa1 : w1.heap.size ≤ xa := by omega
      rw [← hxa] at HX2
      have HNX0 : Hid (∀ b, (Value.slice vA os.length vcap).ownBlock = some b → b ≠ xa) := Lib.hid fun b hb e => by have := own_lt HOW.out b hb; omega
      have hxaW : xa < W2.heap.size := L.blk_lt HX2.out
      have hW2s : w1.heap.size ≤ W2.heap.size := HBRW.out.size
      clear hI hx hal hac hct hzx hbel hIat hlbx c0 c3 c4 c5 hbW HOW HBR
      go_wp2_with fail
      rw [← hW2, ← hxa]
      clear hW2 hxa c1 c2
      go_loopg [7, 8] os.length (fun mm ov v wz => ∃ (o : ByteArray) (os : List Lb), ov = .string o ∧ os.length ≤ mm ∧ os.length ≤ 16 ∧ wz.ownsRow w1.heap.size 40 2 v os.length (labCells os.reverse) ∧ Hid (∀ b, v.ownBlock = some b → b ≠ xa) ∧ Hid (Below W2.heap.size W2 wz) ∧ Hid (o.data.toList ++ J (outOf (os ++ [(f0, f1)]) (x :: l.drop (k + 1))) = T0) ∧ Hid (Stk (f0, f1) (os ++ [(f0, f1)])) ∧ Hid (∀ y ∈ os, y.2 < 18446744073709551616))
      case atStart => exact ⟨o, os, rfl, Nat.le_refl _, hos16, HOW2.out, HNX0, Lib.hid (Below.refl _ _), HTQ, HST, HCS⟩
      case round =>
        clear HTQ HST HCS HOW2 hos16 HNX0
        obtain ⟨o, os, rfl, hmm, hos16, hown, HNX, HBZ, HTQ, HST, HCS⟩ := hrel
        obtain ⟨vA, vcap, rfl, hvc, -⟩ := own_form hown
        have HOW := Lib.hid hown
        have HX := Lib.hid ((HBZ.out.block xa hxaW).trans HX2.out)
        obtain ⟨q, hq⟩ : ∃ q, q = os.length := ⟨_, rfl⟩
        rw [← hq] at HOW hos16 HNX ⊢
        have HQ := Lib.hid hq
        have HBX := Lib.hid (Below.refl wr.heap.size wr)
        obtain ⟨pb, hpb⟩ : ∃ pb, pb = popB (al, ac) os := ⟨_, rfl⟩
        have HPB := Lib.hid hpb
        clear hown hvc hq hpb
        go_upto_region 12 with fail
        go_cut [63] (fun c wx => c = .bool pb ∧ Below wr.heap.size wr wx)
        case first =>
          cases os with
          | nil =>
            have hpn : pb = false := HPB.out
            have hq0 : q = 0 := HQ.out
            subst hpn hq0
            refine wp_region_held_drew (S := (Keeps wr)) (by kernel_rfl) (keeps_drew _) (fun hH0 => ?_)
            refine wpAnyH_take (i := 0) (oi := { dst := some 35, op := Go.Op.move (Go.Operand.tmp 8), type := 83, pos := "ref.go:123", after := #[], guard := none }) (v := ?_) rfl (by kernel_rfl) (by kernel_rfl) (by kernel_rfl) (fun _ _ _ h => h) (Or.inl ⟨by rfl, ?_⟩) hH0 ?_
            rotate_left
            · (intro wz hSz; (try dsimp only at hSz); go_simp; try with_reducible rfl)
            simp only [Act.put, List.setIfInBounds_toArray, List.set_cons_zero, List.set_cons_succ]
            refine wpAnyH_take (i := 1) (oi := { dst := some 36, op := Go.Op.call { callee := Go.Callee.builtin Go.Builtin.len, args := #[Go.Operand.tmp 35], argTypes := #[83] }, type := 3, pos := "ref.go:123", after := #[{ on := 0, ground := Go.Ground.data }], guard := none }) (v := ?_) rfl (by kernel_rfl) (by kernel_rfl) (by kernel_rfl) (fun _ _ _ h => h) (Or.inl ⟨by rfl, ?_⟩) hH0 ?_
            rotate_left
            · (intro wz hSz; (try dsimp only at hSz); go_simp; try with_reducible rfl)
            simp only [Act.put, List.setIfInBounds_toArray, List.set_cons_zero, List.set_cons_succ]
            refine wpAnyH_take (i := 2) (oi := { dst := some 37, op := Go.Op.binOp Go.BinOp.gtr 3 (Go.Operand.tmp 36) (Go.Operand.const (Go.Value.int Go.IntKind.i64 0)) 3, type := 4, pos := "ref.go:123", after := #[{ on := 1, ground := Go.Ground.data }], guard := none }) (v := ?_) rfl (by kernel_rfl) (by kernel_rfl) (by kernel_rfl) (fun _ _ _ h => h) (Or.inl ⟨by rfl, ?_⟩) hH0 ?_
            rotate_left
            · (intro wz hSz; (try dsimp only at hSz); go_simp; try with_reducible rfl)
            simp only [Act.put, List.setIfInBounds_toArray, List.set_cons_zero, List.set_cons_succ]
            refine wpAnyH_take (i := 3) (oi := { dst := some 38, op := Go.Op.move (Go.Operand.tmp 37), type := 4, pos := "ref.go:123", after := #[{ on := 2, ground := Go.Ground.data }], guard := none }) (v := ?_) rfl (by kernel_rfl) (by kernel_rfl) (by kernel_rfl) (fun _ _ _ h => h) (Or.inl ⟨by rfl, ?_⟩) hH0 ?_
            rotate_left
            · (intro wz hSz; (try dsimp only at hSz); go_simp; try with_reducible rfl)
            simp only [Act.put, List.setIfInBounds_toArray, List.set_cons_zero, List.set_cons_succ]
            refine wpAnyH_take (i := 4) (oi := { dst := some 39, op := Go.Op.move (Go.Operand.tmp 8), type := 83, pos := "ref.go:123", after := #[{ on := 3, ground := Go.Ground.guard }], guard := some (3, true) }) (v := undef) rfl (by kernel_rfl) (by kernel_rfl) (by kernel_rfl) (fun _ _ _ h => h) (Or.inr ⟨by rfl, rfl⟩) hH0 ?_
            simp only [Act.put, List.setIfInBounds_toArray, List.set_cons_zero, List.set_cons_succ]
            refine wpAnyH_take (i := 5) (oi := { dst := some 40, op := Go.Op.move (Go.Operand.tmp 8), type := 83, pos := "ref.go:123", after := #[{ on := 3, ground := Go.Ground.guard }], guard := some (3, true) }) (v := undef) rfl (by kernel_rfl) (by kernel_rfl) (by kernel_rfl) (fun _ _ _ h => h) (Or.inr ⟨by rfl, rfl⟩) hH0 ?_
            simp only [Act.put, List.setIfInBounds_toArray, List.set_cons_zero, List.set_cons_succ]
            refine wpAnyH_take (i := 6) (oi := { dst := some 41, op := Go.Op.call { callee := Go.Callee.builtin Go.Builtin.len, args := #[Go.Operand.tmp 40], argTypes := #[83] }, type := 3, pos := "ref.go:123", after := #[{ on := 5, ground := Go.Ground.data }, { on := 3, ground := Go.Ground.guard }], guard := some (3, true) }) (v := undef) rfl (by kernel_rfl) (by kernel_rfl) (by kernel_rfl) (fun _ _ _ h => h) (Or.inr ⟨by rfl, rfl⟩) hH0 ?_
            simp only [Act.put, List.setIfInBounds_toArray, List.set_cons_zero, List.set_cons_succ]
            refine wpAnyH_take (i := 7) (oi := { dst := some 42, op := Go.Op.binOp Go.BinOp.sub 3 (Go.Operand.tmp 41) (Go.Operand.const (Go.Value.int Go.IntKind.i64 1)) 3, type := 3, pos := "ref.go:123", after := #[{ on := 6, ground := Go.Ground.data }, { on := 3, ground := Go.Ground.guard }], guard := some (3, true) }) (v := undef) rfl (by kernel_rfl) (by kernel_rfl) (by kernel_rfl) (fun _ _ _ h => h) (Or.inr ⟨by rfl, rfl⟩) hH0 ?_
            simp only [Act.put, List.setIfInBounds_toArray, List.set_cons_zero, List.set_cons_succ]
            refine wpAnyH_take (i := 8) (oi := { dst := some 43, op := Go.Op.indexAddr 83 (Go.Operand.tmp 39) (Go.Operand.tmp 42), type := 0, pos := "ref.go:123", after := #[{ on := 4, ground := Go.Ground.data }, { on := 7, ground := Go.Ground.data }, { on := 3, ground := Go.Ground.guard }], guard := some (3, true) }) (v := undef) rfl (by kernel_rfl) (by kernel_rfl) (by kernel_rfl) (fun _ _ _ h => h) (Or.inr ⟨by rfl, rfl⟩) hH0 ?_
            simp only [Act.put, List.setIfInBounds_toArray, List.set_cons_zero, List.set_cons_succ]
            refine wpAnyH_take (i := 9) (oi := { dst := some 44, op := Go.Op.load 40 (Go.Operand.tmp 43), type := 40, pos := "ref.go:123", after := #[{ on := 8, ground := Go.Ground.data }, { on := 3, ground := Go.Ground.guard }], guard := some (3, true) }) (v := undef) rfl (by kernel_rfl) (by kernel_rfl) (by kernel_rfl) (fun _ _ _ h => h) (Or.inr ⟨by rfl, rfl⟩) hH0 ?_
            simp only [Act.put, List.setIfInBounds_toArray, List.set_cons_zero, List.set_cons_succ]
            refine wpAnyH_take (i := 10) (oi := { dst := some 45, op := Go.Op.load 40 (Go.Operand.tmp 10), type := 40, pos := "ref.go:123", after := #[{ on := 3, ground := Go.Ground.guard }], guard := some (3, true) }) (v := undef) rfl (by kernel_rfl) (by kernel_rfl) (by kernel_rfl) (fun _ _ _ h => h) (Or.inr ⟨by rfl, rfl⟩) hH0 ?_
            simp only [Act.put, List.setIfInBounds_toArray, List.set_cons_zero, List.set_cons_succ]
            refine wpAnyH_take (i := 11) (oi := { dst := some 46, op := Go.Op.call { callee := Go.Callee.value (Go.Operand.func 54), args := #[Go.Operand.tmp 44, Go.Operand.tmp 45], argTypes := #[40, 40] }, type := 4, pos := "ref.go:123", after := #[{ on := 9, ground := Go.Ground.data }, { on := 10, ground := Go.Ground.data }, { on := 3, ground := Go.Ground.chain }, { on := 3, ground := Go.Ground.guard }], guard := some (3, true) }) (v := undef) rfl (by kernel_rfl) (by kernel_rfl) (by kernel_rfl) (fun _ _ _ h => h) (Or.inr ⟨by rfl, rfl⟩) hH0 ?_
            simp only [Act.put, List.setIfInBounds_toArray, List.set_cons_zero, List.set_cons_succ]
            refine wpAnyH_take (i := 12) (oi := { dst := some 47, op := Go.Op.unOp Go.UnOp.not 4 (Go.Operand.tmp 46), type := 4, pos := "ref.go:123", after := #[{ on := 11, ground := Go.Ground.data }, { on := 3, ground := Go.Ground.guard }], guard := some (3, true) }) (v := undef) rfl (by kernel_rfl) (by kernel_rfl) (by kernel_rfl) (fun _ _ _ h => h) (Or.inr ⟨by rfl, rfl⟩) hH0 ?_
            simp only [Act.put, List.setIfInBounds_toArray, List.set_cons_zero, List.set_cons_succ]
            refine wpAnyH_take (i := 13) (oi := { dst := some 48, op := Go.Op.move (Go.Operand.tmp 47), type := 4, pos := "ref.go:123", after := #[{ on := 12, ground := Go.Ground.data }, { on := 11, ground := Go.Ground.chain }, { on := 3, ground := Go.Ground.guard }], guard := some (3, true) }) (v := undef) rfl (by kernel_rfl) (by kernel_rfl) (by kernel_rfl) (fun _ _ _ h => h) (Or.inr ⟨by rfl, rfl⟩) hH0 ?_
            simp only [Act.put, List.setIfInBounds_toArray, List.set_cons_zero, List.set_cons_succ]
            refine wpAnyH_take (i := 14) (oi := { dst := some 49, op := Go.Op.move (Go.Operand.tmp 8), type := 83, pos := "ref.go:123", after := #[{ on := 13, ground := Go.Ground.guard }], guard := some (13, false) }) (v := undef) rfl (by kernel_rfl) (by kernel_rfl) (by kernel_rfl) (fun _ _ _ h => h) (Or.inr ⟨by rfl, rfl⟩) hH0 ?_
            simp only [Act.put, List.setIfInBounds_toArray, List.set_cons_zero, List.set_cons_succ]
            refine wpAnyH_take (i := 15) (oi := { dst := some 50, op := Go.Op.call { callee := Go.Callee.builtin Go.Builtin.len, args := #[Go.Operand.tmp 49], argTypes := #[83] }, type := 3, pos := "ref.go:123", after := #[{ on := 14, ground := Go.Ground.data }, { on := 13, ground := Go.Ground.guard }], guard := some (13, false) }) (v := undef) rfl (by kernel_rfl) (by kernel_rfl) (by kernel_rfl) (fun _ _ _ h => h) (Or.inr ⟨by rfl, rfl⟩) hH0 ?_
            simp only [Act.put, List.setIfInBounds_toArray, List.set_cons_zero, List.set_cons_succ]
            refine wpAnyH_take (i := 16) (oi := { dst := some 51, op := Go.Op.binOp Go.BinOp.geq 3 (Go.Operand.tmp 50) (Go.Operand.const (Go.Value.int Go.IntKind.i64 16)) 3, type := 4, pos := "ref.go:123", after := #[{ on := 15, ground := Go.Ground.data }, { on := 13, ground := Go.Ground.guard }], guard := some (13, false) }) (v := undef) rfl (by kernel_rfl) (by kernel_rfl) (by kernel_rfl) (fun _ _ _ h => h) (Or.inr ⟨by rfl, rfl⟩) hH0 ?_
            simp only [Act.put, List.setIfInBounds_toArray, List.set_cons_zero, List.set_cons_succ]
            refine wpAnyH_take (i := 17) (oi := { dst := some 52, op := Go.Op.move (Go.Operand.tmp 51), type := 4, pos := "ref.go:123", after := #[{ on := 16, ground := Go.Ground.data }, { on := 13, ground := Go.Ground.chain }, { on := 13, ground := Go.Ground.guard }], guard := some (13, false) }) (v := undef) rfl (by kernel_rfl) (by kernel_rfl) (by kernel_rfl) (fun _ _ _ h => h) (Or.inr ⟨by rfl, rfl⟩) hH0 ?_
            simp only [Act.put, List.setIfInBounds_toArray, List.set_cons_zero, List.set_cons_succ]
            refine wpAnyH_take (i := 18) (oi := { dst := some 53, op := Go.Op.move (Go.Operand.tmp 8), type := 83, pos := "ref.go:123", after := #[{ on := 17, ground := Go.Ground.guard }], guard := some (17, true) }) (v := undef) rfl (by kernel_rfl) (by kernel_rfl) (by kernel_rfl) (fun _ _ _ h => h) (Or.inr ⟨by rfl, rfl⟩) hH0 ?_
            simp only [Act.put, List.setIfInBounds_toArray, List.set_cons_zero, List.set_cons_succ]
            refine wpAnyH_take (i := 19) (oi := { dst := some 54, op := Go.Op.move (Go.Operand.tmp 8), type := 83, pos := "ref.go:123", after := #[{ on := 17, ground := Go.Ground.guard }], guard := some (17, true) }) (v := undef) rfl (by kernel_rfl) (by kernel_rfl) (by kernel_rfl) (fun _ _ _ h => h) (Or.inr ⟨by rfl, rfl⟩) hH0 ?_
            simp only [Act.put, List.setIfInBounds_toArray, List.set_cons_zero, List.set_cons_succ]
            refine wpAnyH_take (i := 20) (oi := { dst := some 55, op := Go.Op.call { callee := Go.Callee.builtin Go.Builtin.len, args := #[Go.Operand.tmp 54], argTypes := #[83] }, type := 3, pos := "ref.go:123", after := #[{ on := 19, ground := Go.Ground.data }, { on := 17, ground := Go.Ground.guard }], guard := some (17, true) }) (v := undef) rfl (by kernel_rfl) (by kernel_rfl) (by kernel_rfl) (fun _ _ _ h => h) (Or.inr ⟨by rfl, rfl⟩) hH0 ?_
            simp only [Act.put, List.setIfInBounds_toArray, List.set_cons_zero, List.set_cons_succ]
            refine wpAnyH_take (i := 21) (oi := { dst := some 56, op := Go.Op.binOp Go.BinOp.sub 3 (Go.Operand.tmp 55) (Go.Operand.const (Go.Value.int Go.IntKind.i64 1)) 3, type := 3, pos := "ref.go:123", after := #[{ on := 20, ground := Go.Ground.data }, { on := 17, ground := Go.Ground.guard }], guard := some (17, true) }) (v := undef) rfl (by kernel_rfl) (by kernel_rfl) (by kernel_rfl) (fun _ _ _ h => h) (Or.inr ⟨by rfl, rfl⟩) hH0 ?_
            simp only [Act.put, List.setIfInBounds_toArray, List.set_cons_zero, List.set_cons_succ]
            refine wpAnyH_take (i := 22) (oi := { dst := some 57, op := Go.Op.indexAddr 83 (Go.Operand.tmp 53) (Go.Operand.tmp 56), type := 0, pos := "ref.go:123", after := #[{ on := 18, ground := Go.Ground.data }, { on := 21, ground := Go.Ground.data }, { on := 17, ground := Go.Ground.guard }], guard := some (17, true) }) (v := undef) rfl (by kernel_rfl) (by kernel_rfl) (by kernel_rfl) (fun _ _ _ h => h) (Or.inr ⟨by rfl, rfl⟩) hH0 ?_
            simp only [Act.put, List.setIfInBounds_toArray, List.set_cons_zero, List.set_cons_succ]
            refine wpAnyH_take (i := 23) (oi := { dst := some 58, op := Go.Op.load 40 (Go.Operand.tmp 57), type := 40, pos := "ref.go:123", after := #[{ on := 22, ground := Go.Ground.data }, { on := 17, ground := Go.Ground.guard }], guard := some (17, true) }) (v := undef) rfl (by kernel_rfl) (by kernel_rfl) (by kernel_rfl) (fun _ _ _ h => h) (Or.inr ⟨by rfl, rfl⟩) hH0 ?_
            simp only [Act.put, List.setIfInBounds_toArray, List.set_cons_zero, List.set_cons_succ]
            refine wpAnyH_take (i := 24) (oi := { dst := some 59, op := Go.Op.load 40 (Go.Operand.tmp 10), type := 40, pos := "ref.go:123", after := #[{ on := 17, ground := Go.Ground.guard }], guard := some (17, true) }) (v := undef) rfl (by kernel_rfl) (by kernel_rfl) (by kernel_rfl) (fun _ _ _ h => h) (Or.inr ⟨by rfl, rfl⟩) hH0 ?_
            simp only [Act.put, List.setIfInBounds_toArray, List.set_cons_zero, List.set_cons_succ]
            refine wpAnyH_take (i := 25) (oi := { dst := some 60, op := Go.Op.binOp Go.BinOp.neq 40 (Go.Operand.tmp 58) (Go.Operand.tmp 59) 40, type := 4, pos := "ref.go:123", after := #[{ on := 23, ground := Go.Ground.data }, { on := 24, ground := Go.Ground.data }, { on := 17, ground := Go.Ground.guard }], guard := some (17, true) }) (v := undef) rfl (by kernel_rfl) (by kernel_rfl) (by kernel_rfl) (fun _ _ _ h => h) (Or.inr ⟨by rfl, rfl⟩) hH0 ?_
            simp only [Act.put, List.setIfInBounds_toArray, List.set_cons_zero, List.set_cons_succ]
            refine wpAnyH_take (i := 26) (oi := { dst := some 61, op := Go.Op.pick (Go.Operand.tmp 52) (Go.Operand.tmp 60) (Go.Operand.const (Go.Value.bool false)), type := 4, pos := "ref.go:123", after := #[{ on := 17, ground := Go.Ground.data }, { on := 25, ground := Go.Ground.data }, { on := 13, ground := Go.Ground.guard }], guard := some (13, false) }) (v := undef) rfl (by kernel_rfl) (by kernel_rfl) (by kernel_rfl) (fun _ _ _ h => h) (Or.inr ⟨by rfl, rfl⟩) hH0 ?_
            simp only [Act.put, List.setIfInBounds_toArray, List.set_cons_zero, List.set_cons_succ]
            refine wpAnyH_take (i := 27) (oi := { dst := some 62, op := Go.Op.pick (Go.Operand.tmp 48) (Go.Operand.const (Go.Value.bool true)) (Go.Operand.tmp 61), type := 4, pos := "ref.go:123", after := #[{ on := 13, ground := Go.Ground.data }, { on := 26, ground := Go.Ground.data }, { on := 3, ground := Go.Ground.guard }], guard := some (3, true) }) (v := undef) rfl (by kernel_rfl) (by kernel_rfl) (by kernel_rfl) (fun _ _ _ h => h) (Or.inr ⟨by rfl, rfl⟩) hH0 ?_
            simp only [Act.put, List.setIfInBounds_toArray, List.set_cons_zero, List.set_cons_succ]
            refine wpAnyH_take (i := 28) (oi := { dst := some 63, op := Go.Op.pick (Go.Operand.tmp 38) (Go.Operand.tmp 62) (Go.Operand.const (Go.Value.bool false)), type := 4, pos := "ref.go:123", after := #[{ on := 3, ground := Go.Ground.data }, { on := 27, ground := Go.Ground.data }], guard := none }) (v := ?_) rfl (by kernel_rfl) (by kernel_rfl) (by kernel_rfl) (fun _ _ _ h => h) (Or.inl ⟨by rfl, ?_⟩) hH0 ?_
            rotate_left
            · (intro wz hSz; (try dsimp only at hSz); go_simp; try with_reducible rfl)
            simp only [Act.put, List.setIfInBounds_toArray, List.set_cons_zero, List.set_cons_succ]
            refine wpAnyH_done (by kernel_rfl) ?_ _
            go_wp2_with fail
            go_meet
            case rel => exact ⟨rfl, (hH0 : Below _ _ _)⟩
          | cons t r =>
            obtain ⟨tl, tc⟩ := t
            have hq1 : q = r.length + 1 := HQ.out
            obtain ⟨p, hp⟩ : ∃ p, p = r.length := ⟨_, rfl⟩
            have hqp : q = p + 1 := by omega
            have HP := Lib.hid hp
            clear hp hq1
            subst hqp
            obtain ⟨g, hAe, hg, tc0, tc1, -⟩ := top_cells HP.out HOW.out
            subst hAe
            simp only at tc0 tc1
            have tc0 := Lib.hid tc0
            have tc1 := Lib.hid tc1
            have HCTL := Lib.hid (HCS.out (tl, tc) (by simp))
            simp only at HCTL
            have e1 : (((p + 1 : Nat) : Int) - 1) = (p : Int) := by omega
            have hpp : 0 < p + 1 := by omega
            have hpi : (0 : Int) < ((p + 1 : Nat) : Int) := by omega
            have hwp : IntKind.i64.wrap (p : Int) = (p : Int) := IntWalk.i64_in _ (by omega)
            have hp0 : (0 : Int) ≤ (p : Int) := by omega
            have hp1 : (p : Int) < (p : Int) + 1 := by omega
            have HPBV : Hid (pb = (!L.belowB tl tc al ac || (decide (15 ≤ p) && decide ((tl, tc) ≠ ((al, ac) : Lb))))) := Lib.hid (by rw [HPB.out, HP.out]; rfl)
            cases hbl : L.belowB tl tc al ac with
            | false =>
              have HBL := Lib.hid hbl
              have hpn : pb = true := by rw [HPBV.out, hbl]; rfl
              subst hpn
              clear hbl HPBV
              refine wp_region_held_drew (S := (Keeps wr)) (by kernel_rfl) (keeps_drew _) (fun hH0 => ?_)
              refine wpAnyH_take (i := 0) (oi := { dst := some 35, op := Go.Op.move (Go.Operand.tmp 8), type := 83, pos := "ref.go:123", after := #[], guard := none }) (v := ?_) rfl (by kernel_rfl) (by kernel_rfl) (by kernel_rfl) (fun _ _ _ h => h) (Or.inl ⟨by rfl, ?_⟩) hH0 ?_
              rotate_left
              · (intro wz hSz; (try dsimp only at hSz); go_simp; try with_reducible rfl)
              simp only [Act.put, List.setIfInBounds_toArray, List.set_cons_zero, List.set_cons_succ]
              refine wpAnyH_take (i := 1) (oi := { dst := some 36, op := Go.Op.call { callee := Go.Callee.builtin Go.Builtin.len, args := #[Go.Operand.tmp 35], argTypes := #[83] }, type := 3, pos := "ref.go:123", after := #[{ on := 0, ground := Go.Ground.data }], guard := none }) (v := ?_) rfl (by kernel_rfl) (by kernel_rfl) (by kernel_rfl) (fun _ _ _ h => h) (Or.inl ⟨by rfl, ?_⟩) hH0 ?_
              rotate_left
              · (intro wz hSz; (try dsimp only at hSz); go_simp; try with_reducible rfl)
              simp only [Act.put, List.setIfInBounds_toArray, List.set_cons_zero, List.set_cons_succ]
              refine wpAnyH_take (i := 2) (oi := { dst := some 37, op := Go.Op.binOp Go.BinOp.gtr 3 (Go.Operand.tmp 36) (Go.Operand.const (Go.Value.int Go.IntKind.i64 0)) 3, type := 4, pos := "ref.go:123", after := #[{ on := 1, ground := Go.Ground.data }], guard := none }) (v := ?_) rfl (by kernel_rfl) (by kernel_rfl) (by kernel_rfl) (fun _ _ _ h => h) (Or.inl ⟨by rfl, ?_⟩) hH0 ?_
              rotate_left
              · (intro wz hSz; (try dsimp only at hSz); go_simp; try with_reducible rfl)
              simp only [Act.put, List.setIfInBounds_toArray, List.set_cons_zero, List.set_cons_succ]
              refine wpAnyH_take (i := 3) (oi := { dst := some 38, op := Go.Op.move (Go.Operand.tmp 37), type := 4, pos := "ref.go:123", after := #[{ on := 2, ground := Go.Ground.data }], guard := none }) (v := ?_) rfl (by kernel_rfl) (by kernel_rfl) (by kernel_rfl) (fun _ _ _ h => h) (Or.inl ⟨by rfl, ?_⟩) hH0 ?_
              rotate_left
              · (intro wz hSz; (try dsimp only at hSz); go_simp; try with_reducible rfl)
              simp only [Act.put, List.setIfInBounds_toArray, List.set_cons_zero, List.set_cons_succ]
              refine wpAnyH_take (i := 4) (oi := { dst := some 39, op := Go.Op.move (Go.Operand.tmp 8), type := 83, pos := "ref.go:123", after := #[{ on := 3, ground := Go.Ground.guard }], guard := some (3, true) }) (v := ?_) rfl (by kernel_rfl) (by kernel_rfl) (by kernel_rfl) (fun _ _ _ h => h) (Or.inl ⟨by rfl, ?_⟩) hH0 ?_
              rotate_left
              · (intro wz hSz; (try dsimp only at hSz); go_simp; try with_reducible rfl)
              simp only [Act.put, List.setIfInBounds_toArray, List.set_cons_zero, List.set_cons_succ]
              refine wpAnyH_take (i := 5) (oi := { dst := some 40, op := Go.Op.move (Go.Operand.tmp 8), type := 83, pos := "ref.go:123", after := #[{ on := 3, ground := Go.Ground.guard }], guard := some (3, true) }) (v := ?_) rfl (by kernel_rfl) (by kernel_rfl) (by kernel_rfl) (fun _ _ _ h => h) (Or.inl ⟨by rfl, ?_⟩) hH0 ?_
              rotate_left
              · (intro wz hSz; (try dsimp only at hSz); go_simp; try with_reducible rfl)
              simp only [Act.put, List.setIfInBounds_toArray, List.set_cons_zero, List.set_cons_succ]
              refine wpAnyH_take (i := 6) (oi := { dst := some 41, op := Go.Op.call { callee := Go.Callee.builtin Go.Builtin.len, args := #[Go.Operand.tmp 40], argTypes := #[83] }, type := 3, pos := "ref.go:123", after := #[{ on := 5, ground := Go.Ground.data }, { on := 3, ground := Go.Ground.guard }], guard := some (3, true) }) (v := ?_) rfl (by kernel_rfl) (by kernel_rfl) (by kernel_rfl) (fun _ _ _ h => h) (Or.inl ⟨by rfl, ?_⟩) hH0 ?_
              rotate_left
              · (intro wz hSz; (try dsimp only at hSz); go_simp; try with_reducible rfl)
              simp only [Act.put, List.setIfInBounds_toArray, List.set_cons_zero, List.set_cons_succ]
              refine wpAnyH_take (i := 7) (oi := { dst := some 42, op := Go.Op.binOp Go.BinOp.sub 3 (Go.Operand.tmp 41) (Go.Operand.const (Go.Value.int Go.IntKind.i64 1)) 3, type := 3, pos := "ref.go:123", after := #[{ on := 6, ground := Go.Ground.data }, { on := 3, ground := Go.Ground.guard }], guard := some (3, true) }) (v := ?_) rfl (by kernel_rfl) (by kernel_rfl) (by kernel_rfl) (fun _ _ _ h => h) (Or.inl ⟨by rfl, ?_⟩) hH0 ?_
              rotate_left
              · (intro wz hSz; (try dsimp only at hSz); go_simp; try with_reducible rfl)
              simp only [Act.put, List.setIfInBounds_toArray, List.set_cons_zero, List.set_cons_succ]
              refine wpAnyH_take (i := 8) (oi := { dst := some 43, op := Go.Op.indexAddr 83 (Go.Operand.tmp 39) (Go.Operand.tmp 42), type := 0, pos := "ref.go:123", after := #[{ on := 4, ground := Go.Ground.data }, { on := 7, ground := Go.Ground.data }, { on := 3, ground := Go.Ground.guard }], guard := some (3, true) }) (v := ?_) rfl (by kernel_rfl) (by kernel_rfl) (by kernel_rfl) (fun _ _ _ h => h) (Or.inl ⟨by rfl, ?_⟩) hH0 ?_
              rotate_left
              · (intro wz hSz; (try dsimp only at hSz); go_simp; try with_reducible rfl)
              simp only [Act.put, List.setIfInBounds_toArray, List.set_cons_zero, List.set_cons_succ]
              refine wpAnyH_take (i := 9) (oi := { dst := some 44, op := Go.Op.load 40 (Go.Operand.tmp 43), type := 40, pos := "ref.go:123", after := #[{ on := 8, ground := Go.Ground.data }, { on := 3, ground := Go.Ground.guard }], guard := some (3, true) }) (v := ?_) rfl (by kernel_rfl) (by kernel_rfl) (by kernel_rfl) (fun _ _ _ h => h) (Or.inl ⟨by rfl, ?_⟩) hH0 ?_
              rotate_left
              · (intro wz hSz; have hcz := True.intro; have z1 := tc0.out.kept hSz; have z2 := tc1.out.kept hSz; go_simp; try with_reducible rfl)
              simp only [Act.put, List.setIfInBounds_toArray, List.set_cons_zero, List.set_cons_succ]
              refine wpAnyH_take (i := 10) (oi := { dst := some 45, op := Go.Op.load 40 (Go.Operand.tmp 10), type := 40, pos := "ref.go:123", after := #[{ on := 3, ground := Go.Ground.guard }], guard := some (3, true) }) (v := ?_) rfl (by kernel_rfl) (by kernel_rfl) (by kernel_rfl) (fun _ _ _ h => h) (Or.inl ⟨by rfl, ?_⟩) hH0 ?_
              rotate_left
              · (intro wz hSz; have hcz := True.intro; obtain ⟨b0, b1⟩ := O.lab_cells ((Below.block hSz _ (L.blk_lt HX.out)).trans HX.out); go_simp; try with_reducible rfl)
              simp only [Act.put, List.setIfInBounds_toArray, List.set_cons_zero, List.set_cons_succ]
              refine wpAnyH_ready (rs := [11]) (by kernel_rfl) (by simp) ?_
              refine AllReadyH.cons (o := { dst := some 46, op := Go.Op.call { callee := Go.Callee.value (Go.Operand.func 54), args := #[Go.Operand.tmp 44, Go.Operand.tmp 45], argTypes := #[40, 40] }, type := 4, pos := "ref.go:123", after := #[{ on := 9, ground := Go.Ground.data }, { on := 10, ground := Go.Ground.data }, { on := 3, ground := Go.Ground.chain }, { on := 3, ground := Go.Ground.guard }], guard := some (3, true) }) rfl (fun K hK => ?_) AllReadyH.nil
              go_simp
              with_reducible refine ((rbelow_c HBL.out HCTL.out).call _).mono ?_
              rintro r wq1 ⟨rfl, hbq⟩
              go_wp2_with fail
              refine hK.out _ _ (Keeps.trans hH0 hbq) (fun hJ => ?_)
              refine wpAnyH_more (S' := Keeps wq1) (fun z hz => Keeps.trans hJ hz) _ _ _ _ ?_
              replace HBX := Lib.hid (HBX.out.trans (Below.mono hJ HBX.out.size))
              replace HX := Lib.hid ((Below.block hJ _ (L.blk_lt HX.out)).trans HX.out)
              replace tc0 := Lib.hid (tc0.out.on hJ)
              replace tc1 := Lib.hid (tc1.out.on hJ)
              have hH1 : Keeps wq1 wq1 := Below.refl _ _
              clear hK K hbq hH0 hJ
              refine wpAnyH_take (i := 12) (oi := { dst := some 47, op := Go.Op.unOp Go.UnOp.not 4 (Go.Operand.tmp 46), type := 4, pos := "ref.go:123", after := #[{ on := 11, ground := Go.Ground.data }, { on := 3, ground := Go.Ground.guard }], guard := some (3, true) }) (v := ?_) rfl (by kernel_rfl) (by kernel_rfl) (by kernel_rfl) (fun _ _ _ h => h) (Or.inl ⟨by rfl, ?_⟩) hH1 ?_
              rotate_left
              · (intro wz hSz; (try dsimp only at hSz); go_simp; try with_reducible rfl)
              simp only [Act.put, List.setIfInBounds_toArray, List.set_cons_zero, List.set_cons_succ]
              refine wpAnyH_take (i := 13) (oi := { dst := some 48, op := Go.Op.move (Go.Operand.tmp 47), type := 4, pos := "ref.go:123", after := #[{ on := 12, ground := Go.Ground.data }, { on := 11, ground := Go.Ground.chain }, { on := 3, ground := Go.Ground.guard }], guard := some (3, true) }) (v := ?_) rfl (by kernel_rfl) (by kernel_rfl) (by kernel_rfl) (fun _ _ _ h => h) (Or.inl ⟨by rfl, ?_⟩) hH1 ?_
              rotate_left
              · (intro wz hSz; (try dsimp only at hSz); go_simp; try with_reducible rfl)
              simp only [Act.put, List.setIfInBounds_toArray, List.set_cons_zero, List.set_cons_succ]
              refine wpAnyH_take (i := 14) (oi := { dst := some 49, op := Go.Op.move (Go.Operand.tmp 8), type := 83, pos := "ref.go:123", after := #[{ on := 13, ground := Go.Ground.guard }], guard := some (13, false) }) (v := undef) rfl (by kernel_rfl) (by kernel_rfl) (by kernel_rfl) (fun _ _ _ h => h) (Or.inr ⟨by rfl, rfl⟩) hH1 ?_
              simp only [Act.put, List.setIfInBounds_toArray, List.set_cons_zero, List.set_cons_succ]
              refine wpAnyH_take (i := 15) (oi := { dst := some 50, op := Go.Op.call { callee := Go.Callee.builtin Go.Builtin.len, args := #[Go.Operand.tmp 49], argTypes := #[83] }, type := 3, pos := "ref.go:123", after := #[{ on := 14, ground := Go.Ground.data }, { on := 13, ground := Go.Ground.guard }], guard := some (13, false) }) (v := undef) rfl (by kernel_rfl) (by kernel_rfl) (by kernel_rfl) (fun _ _ _ h => h) (Or.inr ⟨by rfl, rfl⟩) hH1 ?_
              simp only [Act.put, List.setIfInBounds_toArray, List.set_cons_zero, List.set_cons_succ]
              refine wpAnyH_take (i := 16) (oi := { dst := some 51, op := Go.Op.binOp Go.BinOp.geq 3 (Go.Operand.tmp 50) (Go.Operand.const (Go.Value.int Go.IntKind.i64 16)) 3, type := 4, pos := "ref.go:123", after := #[{ on := 15, ground := Go.Ground.data }, { on := 13, ground := Go.Ground.guard }], guard := some (13, false) }) (v := undef) rfl (by kernel_rfl) (by kernel_rfl) (by kernel_rfl) (fun _ _ _ h => h) (Or.inr ⟨by rfl, rfl⟩) hH1 ?_
              simp only [Act.put, List.setIfInBounds_toArray, List.set_cons_zero, List.set_cons_succ]
              refine wpAnyH_take (i := 17) (oi := { dst := some 52, op := Go.Op.move (Go.Operand.tmp 51), type := 4, pos := "ref.go:123", after := #[{ on := 16, ground := Go.Ground.data }, { on := 13, ground := Go.Ground.chain }, { on := 13, ground := Go.Ground.guard }], guard := some (13, false) }) (v := undef) rfl (by kernel_rfl) (by kernel_rfl) (by kernel_rfl) (fun _ _ _ h => h) (Or.inr ⟨by rfl, rfl⟩) hH1 ?_
              simp only [Act.put, List.setIfInBounds_toArray, List.set_cons_zero, List.set_cons_succ]
              refine wpAnyH_take (i := 18) (oi := { dst := some 53, op := Go.Op.move (Go.Operand.tmp 8), type := 83, pos := "ref.go:123", after := #[{ on := 17, ground := Go.Ground.guard }], guard := some (17, true) }) (v := undef) rfl (by kernel_rfl) (by kernel_rfl) (by kernel_rfl) (fun _ _ _ h => h) (Or.inr ⟨by rfl, rfl⟩) hH1 ?_
              simp only [Act.put, List.setIfInBounds_toArray, List.set_cons_zero, List.set_cons_succ]
              refine wpAnyH_take (i := 19) (oi := { dst := some 54, op := Go.Op.move (Go.Operand.tmp 8), type := 83, pos := "ref.go:123", after := #[{ on := 17, ground := Go.Ground.guard }], guard := some (17, true) }) (v := undef) rfl (by kernel_rfl) (by kernel_rfl) (by kernel_rfl) (fun _ _ _ h => h) (Or.inr ⟨by rfl, rfl⟩) hH1 ?_
              simp only [Act.put, List.setIfInBounds_toArray, List.set_cons_zero, List.set_cons_succ]
              refine wpAnyH_take (i := 20) (oi := { dst := some 55, op := Go.Op.call { callee := Go.Callee.builtin Go.Builtin.len, args := #[Go.Operand.tmp 54], argTypes := #[83] }, type := 3, pos := "ref.go:123", after := #[{ on := 19, ground := Go.Ground.data }, { on := 17, ground := Go.Ground.guard }], guard := some (17, true) }) (v := undef) rfl (by kernel_rfl) (by kernel_rfl) (by kernel_rfl) (fun _ _ _ h => h) (Or.inr ⟨by rfl, rfl⟩) hH1 ?_
              simp only [Act.put, List.setIfInBounds_toArray, List.set_cons_zero, List.set_cons_succ]
              refine wpAnyH_take (i := 21) (oi := { dst := some 56, op := Go.Op.binOp Go.BinOp.sub 3 (Go.Operand.tmp 55) (Go.Operand.const (Go.Value.int Go.IntKind.i64 1)) 3, type := 3, pos := "ref.go:123", after := #[{ on := 20, ground := Go.Ground.data }, { on := 17, ground := Go.Ground.guard }], guard := some (17, true) }) (v := undef) rfl (by kernel_rfl) (by kernel_rfl) (by kernel_rfl) (fun _ _ _ h => h) (Or.inr ⟨by rfl, rfl⟩) hH1 ?_
              simp only [Act.put, List.setIfInBounds_toArray, List.set_cons_zero, List.set_cons_succ]
              refine wpAnyH_take (i := 22) (oi := { dst := some 57, op := Go.Op.indexAddr 83 (Go.Operand.tmp 53) (Go.Operand.tmp 56), type := 0, pos := "ref.go:123", after := #[{ on := 18, ground := Go.Ground.data }, { on := 21, ground := Go.Ground.data }, { on := 17, ground := Go.Ground.guard }], guard := some (17, true) }) (v := undef) rfl (by kernel_rfl) (by kernel_rfl) (by kernel_rfl) (fun _ _ _ h => h) (Or.inr ⟨by rfl, rfl⟩) hH1 ?_
              simp only [Act.put, List.setIfInBounds_toArray, List.set_cons_zero, List.set_cons_succ]
              refine wpAnyH_take (i := 23) (oi := { dst := some 58, op := Go.Op.load 40 (Go.Operand.tmp 57), type := 40, pos := "ref.go:123", after := #[{ on := 22, ground := Go.Ground.data }, { on := 17, ground := Go.Ground.guard }], guard := some (17, true) }) (v := undef) rfl (by kernel_rfl) (by kernel_rfl) (by kernel_rfl) (fun _ _ _ h => h) (Or.inr ⟨by rfl, rfl⟩) hH1 ?_
              simp only [Act.put, List.setIfInBounds_toArray, List.set_cons_zero, List.set_cons_succ]
              refine wpAnyH_take (i := 24) (oi := { dst := some 59, op := Go.Op.load 40 (Go.Operand.tmp 10), type := 40, pos := "ref.go:123", after := #[{ on := 17, ground := Go.Ground.guard }], guard := some (17, true) }) (v := undef) rfl (by kernel_rfl) (by kernel_rfl) (by kernel_rfl) (fun _ _ _ h => h) (Or.inr ⟨by rfl, rfl⟩) hH1 ?_
              simp only [Act.put, List.setIfInBounds_toArray, List.set_cons_zero, List.set_cons_succ]
              refine wpAnyH_take (i := 25) (oi := { dst := some 60, op := Go.Op.binOp Go.BinOp.neq 40 (Go.Operand.tmp 58) (Go.Operand.tmp 59) 40, type := 4, pos := "ref.go:123", after := #[{ on := 23, ground := Go.Ground.data }, { on := 24, ground := Go.Ground.data }, { on := 17, ground := Go.Ground.guard }], guard := some (17, true) }) (v := undef) rfl (by kernel_rfl) (by kernel_rfl) (by kernel_rfl) (fun _ _ _ h => h) (Or.inr ⟨by rfl, rfl⟩) hH1 ?_
              simp only [Act.put, List.setIfInBounds_toArray, List.set_cons_zero, List.set_cons_succ]
              refine wpAnyH_take (i := 26) (oi := { dst := some 61, op := Go.Op.pick (Go.Operand.tmp 52) (Go.Operand.tmp 60) (Go.Operand.const (Go.Value.bool false)), type := 4, pos := "ref.go:123", after := #[{ on := 17, ground := Go.Ground.data }, { on := 25, ground := Go.Ground.data }, { on := 13, ground := Go.Ground.guard }], guard := some (13, false) }) (v := undef) rfl (by kernel_rfl) (by kernel_rfl) (by kernel_rfl) (fun _ _ _ h => h) (Or.inr ⟨by rfl, rfl⟩) hH1 ?_
              simp only [Act.put, List.setIfInBounds_toArray, List.set_cons_zero, List.set_cons_succ]
              refine wpAnyH_take (i := 27) (oi := { dst := some 62, op := Go.Op.pick (Go.Operand.tmp 48) (Go.Operand.const (Go.Value.bool true)) (Go.Operand.tmp 61), type := 4, pos := "ref.go:123", after := #[{ on := 13, ground := Go.Ground.data }, { on := 26, ground := Go.Ground.data }, { on := 3, ground := Go.Ground.guard }], guard := some (3, true) }) (v := ?_) rfl (by kernel_rfl) (by kernel_rfl) (by kernel_rfl) (fun _ _ _ h => h) (Or.inl ⟨by rfl, ?_⟩) hH1 ?_
              rotate_left
              · (intro wz hSz; (try dsimp only at hSz); go_simp; try with_reducible rfl)
              simp only [Act.put, List.setIfInBounds_toArray, List.set_cons_zero, List.set_cons_succ]
              refine wpAnyH_take (i := 28) (oi := { dst := some 63, op := Go.Op.pick (Go.Operand.tmp 38) (Go.Operand.tmp 62) (Go.Operand.const (Go.Value.bool false)), type := 4, pos := "ref.go:123", after := #[{ on := 3, ground := Go.Ground.data }, { on := 27, ground := Go.Ground.data }], guard := none }) (v := ?_) rfl (by kernel_rfl) (by kernel_rfl) (by kernel_rfl) (fun _ _ _ h => h) (Or.inl ⟨by rfl, ?_⟩) hH1 ?_
              rotate_left
              · (intro wz hSz; (try dsimp only at hSz); go_simp; try with_reducible rfl)
              simp only [Act.put, List.setIfInBounds_toArray, List.set_cons_zero, List.set_cons_succ]
              refine wpAnyH_done (by kernel_rfl) ?_ _
              go_wp2_with fail
              go_meet
              case rel => exact ⟨rfl, HBX.out⟩
            | true =>
              have HBL := Lib.hid hbl
              by_cases h15 : 15 ≤ p
              · have h16i : (16 : Int) ≤ ((p + 1 : Nat) : Int) := by omega
                have h16j : (16 : Int) ≤ (p : Int) + 1 := by omega
                have h15i : (15 : Int) ≤ (p : Int) := by omega
                by_cases hl : tl = al
                · subst hl
                  by_cases hc : tc = ac
                  · subst hc
                    have hpn : pb = false := by rw [HPBV.out, hbl]; simp
                    subst hpn
                    clear hbl HPBV
                    refine wp_region_held_drew (S := (Keeps wr)) (by kernel_rfl) (keeps_drew _) (fun hH0 => ?_)
                    refine wpAnyH_take (i := 0) (oi := { dst := some 35, op := Go.Op.move (Go.Operand.tmp 8), type := 83, pos := "ref.go:123", after := #[], guard := none }) (v := ?_) rfl (by kernel_rfl) (by kernel_rfl) (by kernel_rfl) (fun _ _ _ h => h) (Or.inl ⟨by rfl, ?_⟩) hH0 ?_
                    rotate_left
                    · (intro wz hSz; (try dsimp only at hSz); go_simp; try with_reducible rfl)
                    simp only [Act.put, List.setIfInBounds_toArray, List.set_cons_zero, List.set_cons_succ]
                    refine wpAnyH_take (i := 1) (oi := { dst := some 36, op := Go.Op.call { callee := Go.Callee.builtin Go.Builtin.len, args := #[Go.Operand.tmp 35], argTypes := #[83] }, type := 3, pos := "ref.go:123", after := #[{ on := 0, ground := Go.Ground.data }], guard := none }) (v := ?_) rfl (by kernel_rfl) (by kernel_rfl) (by kernel_rfl) (fun _ _ _ h => h) (Or.inl ⟨by rfl, ?_⟩) hH0 ?_
                    rotate_left
                    · (intro wz hSz; (try dsimp only at hSz); go_simp; try with_reducible rfl)
                    simp only [Act.put, List.setIfInBounds_toArray, List.set_cons_zero, List.set_cons_succ]
                    refine wpAnyH_take (i := 2) (oi := { dst := some 37, op := Go.Op.binOp Go.BinOp.gtr 3 (Go.Operand.tmp 36) (Go.Operand.const (Go.Value.int Go.IntKind.i64 0)) 3, type := 4, pos := "ref.go:123", after := #[{ on := 1, ground := Go.Ground.data }], guard := none }) (v := ?_) rfl (by kernel_rfl) (by kernel_rfl) (by kernel_rfl) (fun _ _ _ h => h) (Or.inl ⟨by rfl, ?_⟩) hH0 ?_
                    rotate_left
                    · (intro wz hSz; (try dsimp only at hSz); go_simp; try with_reducible rfl)
                    simp only [Act.put, List.setIfInBounds_toArray, List.set_cons_zero, List.set_cons_succ]
                    refine wpAnyH_take (i := 3) (oi := { dst := some 38, op := Go.Op.move (Go.Operand.tmp 37), type := 4, pos := "ref.go:123", after := #[{ on := 2, ground := Go.Ground.data }], guard := none }) (v := ?_) rfl (by kernel_rfl) (by kernel_rfl) (by kernel_rfl) (fun _ _ _ h => h) (Or.inl ⟨by rfl, ?_⟩) hH0 ?_
                    rotate_left
                    · (intro wz hSz; (try dsimp only at hSz); go_simp; try with_reducible rfl)
                    simp only [Act.put, List.setIfInBounds_toArray, List.set_cons_zero, List.set_cons_succ]
                    refine wpAnyH_take (i := 4) (oi := { dst := some 39, op := Go.Op.move (Go.Operand.tmp 8), type := 83, pos := "ref.go:123", after := #[{ on := 3, ground := Go.Ground.guard }], guard := some (3, true) }) (v := ?_) rfl (by kernel_rfl) (by kernel_rfl) (by kernel_rfl) (fun _ _ _ h => h) (Or.inl ⟨by rfl, ?_⟩) hH0 ?_
                    rotate_left
                    · (intro wz hSz; (try dsimp only at hSz); go_simp; try with_reducible rfl)
                    simp only [Act.put, List.setIfInBounds_toArray, List.set_cons_zero, List.set_cons_succ]
                    refine wpAnyH_take (i := 5) (oi := { dst := some 40, op := Go.Op.move (Go.Operand.tmp 8), type := 83, pos := "ref.go:123", after := #[{ on := 3, ground := Go.Ground.guard }], guard := some (3, true) }) (v := ?_) rfl (by kernel_rfl) (by kernel_rfl) (by kernel_rfl) (fun _ _ _ h => h) (Or.inl ⟨by rfl, ?_⟩) hH0 ?_
                    rotate_left
                    · (intro wz hSz; (try dsimp only at hSz); go_simp; try with_reducible rfl)
                    simp only [Act.put, List.setIfInBounds_toArray, List.set_cons_zero, List.set_cons_succ]
                    refine wpAnyH_take (i := 6) (oi := { dst := some 41, op := Go.Op.call { callee := Go.Callee.builtin Go.Builtin.len, args := #[Go.Operand.tmp 40], argTypes := #[83] }, type := 3, pos := "ref.go:123", after := #[{ on := 5, ground := Go.Ground.data }, { on := 3, ground := Go.Ground.guard }], guard := some (3, true) }) (v := ?_) rfl (by kernel_rfl) (by kernel_rfl) (by kernel_rfl) (fun _ _ _ h => h) (Or.inl ⟨by rfl, ?_⟩) hH0 ?_
                    rotate_left
                    · (intro wz hSz; (try dsimp only at hSz); go_simp; try with_reducible rfl)
                    simp only [Act.put, List.setIfInBounds_toArray, List.set_cons_zero, List.set_cons_succ]
                    refine wpAnyH_take (i := 7) (oi := { dst := some 42, op := Go.Op.binOp Go.BinOp.sub 3 (Go.Operand.tmp 41) (Go.Operand.const (Go.Value.int Go.IntKind.i64 1)) 3, type := 3, pos := "ref.go:123", after := #[{ on := 6, ground := Go.Ground.data }, { on := 3, ground := Go.Ground.guard }], guard := some (3, true) }) (v := ?_) rfl (by kernel_rfl) (by kernel_rfl) (by kernel_rfl) (fun _ _ _ h => h) (Or.inl ⟨by rfl, ?_⟩) hH0 ?_
                    rotate_left
                    · (intro wz hSz; (try dsimp only at hSz); go_simp; try with_reducible rfl)
                    simp only [Act.put, List.setIfInBounds_toArray, List.set_cons_zero, List.set_cons_succ]
                    refine wpAnyH_take (i := 8) (oi := { dst := some 43, op := Go.Op.indexAddr 83 (Go.Operand.tmp 39) (Go.Operand.tmp 42), type := 0, pos := "ref.go:123", after := #[{ on := 4, ground := Go.Ground.data }, { on := 7, ground := Go.Ground.data }, { on := 3, ground := Go.Ground.guard }], guard := some (3, true) }) (v := ?_) rfl (by kernel_rfl) (by kernel_rfl) (by kernel_rfl) (fun _ _ _ h => h) (Or.inl ⟨by rfl, ?_⟩) hH0 ?_
                    rotate_left
                    · (intro wz hSz; (try dsimp only at hSz); go_simp; try with_reducible rfl)
                    simp only [Act.put, List.setIfInBounds_toArray, List.set_cons_zero, List.set_cons_succ]
                    refine wpAnyH_take (i := 9) (oi := { dst := some 44, op := Go.Op.load 40 (Go.Operand.tmp 43), type := 40, pos := "ref.go:123", after := #[{ on := 8, ground := Go.Ground.data }, { on := 3, ground := Go.Ground.guard }], guard := some (3, true) }) (v := ?_) rfl (by kernel_rfl) (by kernel_rfl) (by kernel_rfl) (fun _ _ _ h => h) (Or.inl ⟨by rfl, ?_⟩) hH0 ?_
                    rotate_left
                    · (intro wz hSz; have hcz := True.intro; have z1 := tc0.out.kept hSz; have z2 := tc1.out.kept hSz; go_simp; try with_reducible rfl)
                    simp only [Act.put, List.setIfInBounds_toArray, List.set_cons_zero, List.set_cons_succ]
                    refine wpAnyH_take (i := 10) (oi := { dst := some 45, op := Go.Op.load 40 (Go.Operand.tmp 10), type := 40, pos := "ref.go:123", after := #[{ on := 3, ground := Go.Ground.guard }], guard := some (3, true) }) (v := ?_) rfl (by kernel_rfl) (by kernel_rfl) (by kernel_rfl) (fun _ _ _ h => h) (Or.inl ⟨by rfl, ?_⟩) hH0 ?_
                    rotate_left
                    · (intro wz hSz; have hcz := True.intro; obtain ⟨b0, b1⟩ := O.lab_cells ((Below.block hSz _ (L.blk_lt HX.out)).trans HX.out); go_simp; try with_reducible rfl)
                    simp only [Act.put, List.setIfInBounds_toArray, List.set_cons_zero, List.set_cons_succ]
                    refine wpAnyH_ready (rs := [11]) (by kernel_rfl) (by simp) ?_
                    refine AllReadyH.cons (o := { dst := some 46, op := Go.Op.call { callee := Go.Callee.value (Go.Operand.func 54), args := #[Go.Operand.tmp 44, Go.Operand.tmp 45], argTypes := #[40, 40] }, type := 4, pos := "ref.go:123", after := #[{ on := 9, ground := Go.Ground.data }, { on := 10, ground := Go.Ground.data }, { on := 3, ground := Go.Ground.chain }, { on := 3, ground := Go.Ground.guard }], guard := some (3, true) }) rfl (fun K hK => ?_) AllReadyH.nil
                    go_simp
                    with_reducible refine ((rbelow_c HBL.out HCTL.out).call _).mono ?_
                    rintro r wq1 ⟨rfl, hbq⟩
                    go_wp2_with fail
                    refine hK.out _ _ (Keeps.trans hH0 hbq) (fun hJ => ?_)
                    refine wpAnyH_more (S' := Keeps wq1) (fun z hz => Keeps.trans hJ hz) _ _ _ _ ?_
                    replace HBX := Lib.hid (HBX.out.trans (Below.mono hJ HBX.out.size))
                    replace HX := Lib.hid ((Below.block hJ _ (L.blk_lt HX.out)).trans HX.out)
                    replace tc0 := Lib.hid (tc0.out.on hJ)
                    replace tc1 := Lib.hid (tc1.out.on hJ)
                    have hH1 : Keeps wq1 wq1 := Below.refl _ _
                    clear hK K hbq hH0 hJ
                    refine wpAnyH_take (i := 12) (oi := { dst := some 47, op := Go.Op.unOp Go.UnOp.not 4 (Go.Operand.tmp 46), type := 4, pos := "ref.go:123", after := #[{ on := 11, ground := Go.Ground.data }, { on := 3, ground := Go.Ground.guard }], guard := some (3, true) }) (v := ?_) rfl (by kernel_rfl) (by kernel_rfl) (by kernel_rfl) (fun _ _ _ h => h) (Or.inl ⟨by rfl, ?_⟩) hH1 ?_
                    rotate_left
                    · (intro wz hSz; (try dsimp only at hSz); go_simp; try with_reducible rfl)
                    simp only [Act.put, List.setIfInBounds_toArray, List.set_cons_zero, List.set_cons_succ]
                    refine wpAnyH_take (i := 13) (oi := { dst := some 48, op := Go.Op.move (Go.Operand.tmp 47), type := 4, pos := "ref.go:123", after := #[{ on := 12, ground := Go.Ground.data }, { on := 11, ground := Go.Ground.chain }, { on := 3, ground := Go.Ground.guard }], guard := some (3, true) }) (v := ?_) rfl (by kernel_rfl) (by kernel_rfl) (by kernel_rfl) (fun _ _ _ h => h) (Or.inl ⟨by rfl, ?_⟩) hH1 ?_
                    rotate_left
                    · (intro wz hSz; (try dsimp only at hSz); go_simp; try with_reducible rfl)
                    simp only [Act.put, List.setIfInBounds_toArray, List.set_cons_zero, List.set_cons_succ]
                    refine wpAnyH_take (i := 14) (oi := { dst := some 49, op := Go.Op.move (Go.Operand.tmp 8), type := 83, pos := "ref.go:123", after := #[{ on := 13, ground := Go.Ground.guard }], guard := some (13, false) }) (v := ?_) rfl (by kernel_rfl) (by kernel_rfl) (by kernel_rfl) (fun _ _ _ h => h) (Or.inl ⟨by rfl, ?_⟩) hH1 ?_
                    rotate_left
                    · (intro wz hSz; (try dsimp only at hSz); go_simp; try with_reducible rfl)
                    simp only [Act.put, List.setIfInBounds_toArray, List.set_cons_zero, List.set_cons_succ]
                    refine wpAnyH_take (i := 15) (oi := { dst := some 50, op := Go.Op.call { callee := Go.Callee.builtin Go.Builtin.len, args := #[Go.Operand.tmp 49], argTypes := #[83] }, type := 3, pos := "ref.go:123", after := #[{ on := 14, ground := Go.Ground.data }, { on := 13, ground := Go.Ground.guard }], guard := some (13, false) }) (v := ?_) rfl (by kernel_rfl) (by kernel_rfl) (by kernel_rfl) (fun _ _ _ h => h) (Or.inl ⟨by rfl, ?_⟩) hH1 ?_
                    rotate_left
                    · (intro wz hSz; (try dsimp only at hSz); go_simp; try with_reducible rfl)
                    simp only [Act.put, List.setIfInBounds_toArray, List.set_cons_zero, List.set_cons_succ]
                    refine wpAnyH_take (i := 16) (oi := { dst := some 51, op := Go.Op.binOp Go.BinOp.geq 3 (Go.Operand.tmp 50) (Go.Operand.const (Go.Value.int Go.IntKind.i64 16)) 3, type := 4, pos := "ref.go:123", after := #[{ on := 15, ground := Go.Ground.data }, { on := 13, ground := Go.Ground.guard }], guard := some (13, false) }) (v := ?_) rfl (by kernel_rfl) (by kernel_rfl) (by kernel_rfl) (fun _ _ _ h => h) (Or.inl ⟨by rfl, ?_⟩) hH1 ?_
                    rotate_left
                    · (intro wz hSz; (try dsimp only at hSz); go_simp; try with_reducible rfl)
                    simp only [Act.put, List.setIfInBounds_toArray, List.set_cons_zero, List.set_cons_succ]
                    refine wpAnyH_take (i := 17) (oi := { dst := some 52, op := Go.Op.move (Go.Operand.tmp 51), type := 4, pos := "ref.go:123", after := #[{ on := 16, ground := Go.Ground.data }, { on := 13, ground := Go.Ground.chain }, { on := 13, ground := Go.Ground.guard }], guard := some (13, false) }) (v := ?_) rfl (by kernel_rfl) (by kernel_rfl) (by kernel_rfl) (fun _ _ _ h => h) (Or.inl ⟨by rfl, ?_⟩) hH1 ?_
                    rotate_left
                    · (intro wz hSz; (try dsimp only at hSz); go_simp; try with_reducible rfl)
                    simp only [Act.put, List.setIfInBounds_toArray, List.set_cons_zero, List.set_cons_succ]
                    refine wpAnyH_take (i := 18) (oi := { dst := some 53, op := Go.Op.move (Go.Operand.tmp 8), type := 83, pos := "ref.go:123", after := #[{ on := 17, ground := Go.Ground.guard }], guard := some (17, true) }) (v := ?_) rfl (by kernel_rfl) (by kernel_rfl) (by kernel_rfl) (fun _ _ _ h => h) (Or.inl ⟨by rfl, ?_⟩) hH1 ?_
                    rotate_left
                    · (intro wz hSz; (try dsimp only at hSz); go_simp; try with_reducible rfl)
                    simp only [Act.put, List.setIfInBounds_toArray, List.set_cons_zero, List.set_cons_succ]
                    refine wpAnyH_take (i := 19) (oi := { dst := some 54, op := Go.Op.move (Go.Operand.tmp 8), type := 83, pos := "ref.go:123", after := #[{ on := 17, ground := Go.Ground.guard }], guard := some (17, true) }) (v := ?_) rfl (by kernel_rfl) (by kernel_rfl) (by kernel_rfl) (fun _ _ _ h => h) (Or.inl ⟨by rfl, ?_⟩) hH1 ?_
                    rotate_left
                    · (intro wz hSz; (try dsimp only at hSz); go_simp; try with_reducible rfl)
                    simp only [Act.put, List.setIfInBounds_toArray, List.set_cons_zero, List.set_cons_succ]
                    refine wpAnyH_take (i := 20) (oi := { dst := some 55, op := Go.Op.call { callee := Go.Callee.builtin Go.Builtin.len, args := #[Go.Operand.tmp 54], argTypes := #[83] }, type := 3, pos := "ref.go:123", after := #[{ on := 19, ground := Go.Ground.data }, { on := 17, ground := Go.Ground.guard }], guard := some (17, true) }) (v := ?_) rfl (by kernel_rfl) (by kernel_rfl) (by kernel_rfl) (fun _ _ _ h => h) (Or.inl ⟨by rfl, ?_⟩) hH1 ?_
                    rotate_left
                    · (intro wz hSz; (try dsimp only at hSz); go_simp; try with_reducible rfl)
                    simp only [Act.put, List.setIfInBounds_toArray, List.set_cons_zero, List.set_cons_succ]
                    refine wpAnyH_take (i := 21) (oi := { dst := some 56, op := Go.Op.binOp Go.BinOp.sub 3 (Go.Operand.tmp 55) (Go.Operand.const (Go.Value.int Go.IntKind.i64 1)) 3, type := 3, pos := "ref.go:123", after := #[{ on := 20, ground := Go.Ground.data }, { on := 17, ground := Go.Ground.guard }], guard := some (17, true) }) (v := ?_) rfl (by kernel_rfl) (by kernel_rfl) (by kernel_rfl) (fun _ _ _ h => h) (Or.inl ⟨by rfl, ?_⟩) hH1 ?_
                    rotate_left
                    · (intro wz hSz; (try dsimp only at hSz); go_simp; try with_reducible rfl)
                    simp only [Act.put, List.setIfInBounds_toArray, List.set_cons_zero, List.set_cons_succ]
                    refine wpAnyH_take (i := 22) (oi := { dst := some 57, op := Go.Op.indexAddr 83 (Go.Operand.tmp 53) (Go.Operand.tmp 56), type := 0, pos := "ref.go:123", after := #[{ on := 18, ground := Go.Ground.data }, { on := 21, ground := Go.Ground.data }, { on := 17, ground := Go.Ground.guard }], guard := some (17, true) }) (v := ?_) rfl (by kernel_rfl) (by kernel_rfl) (by kernel_rfl) (fun _ _ _ h => h) (Or.inl ⟨by rfl, ?_⟩) hH1 ?_
                    rotate_left
                    · (intro wz hSz; (try dsimp only at hSz); go_simp; try with_reducible rfl)
                    simp only [Act.put, List.setIfInBounds_toArray, List.set_cons_zero, List.set_cons_succ]
                    refine wpAnyH_take (i := 23) (oi := { dst := some 58, op := Go.Op.load 40 (Go.Operand.tmp 57), type := 40, pos := "ref.go:123", after := #[{ on := 22, ground := Go.Ground.data }, { on := 17, ground := Go.Ground.guard }], guard := some (17, true) }) (v := ?_) rfl (by kernel_rfl) (by kernel_rfl) (by kernel_rfl) (fun _ _ _ h => h) (Or.inl ⟨by rfl, ?_⟩) hH1 ?_
                    rotate_left
                    · (intro wz hSz; have hcz := True.intro; have z1 := tc0.out.kept hSz; have z2 := tc1.out.kept hSz; go_simp; try with_reducible rfl)
                    simp only [Act.put, List.setIfInBounds_toArray, List.set_cons_zero, List.set_cons_succ]
                    refine wpAnyH_take (i := 24) (oi := { dst := some 59, op := Go.Op.load 40 (Go.Operand.tmp 10), type := 40, pos := "ref.go:123", after := #[{ on := 17, ground := Go.Ground.guard }], guard := some (17, true) }) (v := ?_) rfl (by kernel_rfl) (by kernel_rfl) (by kernel_rfl) (fun _ _ _ h => h) (Or.inl ⟨by rfl, ?_⟩) hH1 ?_
                    rotate_left
                    · (intro wz hSz; have hcz := True.intro; obtain ⟨b0, b1⟩ := O.lab_cells ((Below.block hSz _ (L.blk_lt HX.out)).trans HX.out); go_simp; try with_reducible rfl)
                    simp only [Act.put, List.setIfInBounds_toArray, List.set_cons_zero, List.set_cons_succ]
                    refine wpAnyH_take (i := 25) (oi := { dst := some 60, op := Go.Op.binOp Go.BinOp.neq 40 (Go.Operand.tmp 58) (Go.Operand.tmp 59) 40, type := 4, pos := "ref.go:123", after := #[{ on := 23, ground := Go.Ground.data }, { on := 24, ground := Go.Ground.data }, { on := 17, ground := Go.Ground.guard }], guard := some (17, true) }) (v := ?_) rfl (by kernel_rfl) (by kernel_rfl) (by kernel_rfl) (fun _ _ _ h => h) (Or.inl ⟨by rfl, ?_⟩) hH1 ?_
                    rotate_left
                    · (intro wz hSz; (try dsimp only at hSz); go_simp; try with_reducible rfl)
                    simp only [Act.put, List.setIfInBounds_toArray, List.set_cons_zero, List.set_cons_succ]
                    refine wpAnyH_take (i := 26) (oi := { dst := some 61, op := Go.Op.pick (Go.Operand.tmp 52) (Go.Operand.tmp 60) (Go.Operand.const (Go.Value.bool false)), type := 4, pos := "ref.go:123", after := #[{ on := 17, ground := Go.Ground.data }, { on := 25, ground := Go.Ground.data }, { on := 13, ground := Go.Ground.guard }], guard := some (13, false) }) (v := ?_) rfl (by kernel_rfl) (by kernel_rfl) (by kernel_rfl) (fun _ _ _ h => h) (Or.inl ⟨by rfl, ?_⟩) hH1 ?_
                    rotate_left
                    · (intro wz hSz; (try dsimp only at hSz); go_simp; try with_reducible rfl)
                    simp only [Act.put, List.setIfInBounds_toArray, List.set_cons_zero, List.set_cons_succ]
                    refine wpAnyH_take (i := 27) (oi := { dst := some 62, op := Go.Op.pick (Go.Operand.tmp 48) (Go.Operand.const (Go.Value.bool true)) (Go.Operand.tmp 61), type := 4, pos := "ref.go:123", after := #[{ on := 13, ground := Go.Ground.data }, { on := 26, ground := Go.Ground.data }, { on := 3, ground := Go.Ground.guard }], guard := some (3, true) }) (v := ?_) rfl (by kernel_rfl) (by kernel_rfl) (by kernel_rfl) (fun _ _ _ h => h) (Or.inl ⟨by rfl, ?_⟩) hH1 ?_
                    rotate_left
                    · (intro wz hSz; (try dsimp only at hSz); go_simp; try with_reducible rfl)
                    simp only [Act.put, List.setIfInBounds_toArray, List.set_cons_zero, List.set_cons_succ]
                    refine wpAnyH_take (i := 28) (oi := { dst := some 63, op := Go.Op.pick (Go.Operand.tmp 38) (Go.Operand.tmp 62) (Go.Operand.const (Go.Value.bool false)), type := 4, pos := "ref.go:123", after := #[{ on := 3, ground := Go.Ground.data }, { on := 27, ground := Go.Ground.data }], guard := none }) (v := ?_) rfl (by kernel_rfl) (by kernel_rfl) (by kernel_rfl) (fun _ _ _ h => h) (Or.inl ⟨by rfl, ?_⟩) hH1 ?_
                    rotate_left
                    · (intro wz hSz; (try dsimp only at hSz); go_simp; try with_reducible rfl)
                    simp only [Act.put, List.setIfInBounds_toArray, List.set_cons_zero, List.set_cons_succ]
                    refine wpAnyH_done (by kernel_rfl) ?_ _
                    go_wp2_with fail
                    go_meet
                    case rel => exact ⟨rfl, HBX.out⟩
                  · have hne : ((tc : Int) == (ac : Int)) = false := beq_eq_false_iff_ne.2 (by omega)
                    have hpn : pb = true := by rw [HPBV.out, hbl, decide_eq_true h15]; simp [hc]
                    subst hpn
                    clear hbl HPBV hc
                    refine wp_region_held_drew (S := (Keeps wr)) (by kernel_rfl) (keeps_drew _) (fun hH0 => ?_)
                    refine wpAnyH_take (i := 0) (oi := { dst := some 35, op := Go.Op.move (Go.Operand.tmp 8), type := 83, pos := "ref.go:123", after := #[], guard := none }) (v := ?_) rfl (by kernel_rfl) (by kernel_rfl) (by kernel_rfl) (fun _ _ _ h => h) (Or.inl ⟨by rfl, ?_⟩) hH0 ?_
                    rotate_left
                    · (intro wz hSz; (try dsimp only at hSz); go_simp; try with_reducible rfl)
                    simp only [Act.put, List.setIfInBounds_toArray, List.set_cons_zero, List.set_cons_succ]
                    refine wpAnyH_take (i := 1) (oi := { dst := some 36, op := Go.Op.call { callee := Go.Callee.builtin Go.Builtin.len, args := #[Go.Operand.tmp 35], argTypes := #[83] }, type := 3, pos := "ref.go:123", after := #[{ on := 0, ground := Go.Ground.data }], guard := none }) (v := ?_) rfl (by kernel_rfl) (by kernel_rfl) (by kernel_rfl) (fun _ _ _ h => h) (Or.inl ⟨by rfl, ?_⟩) hH0 ?_
                    rotate_left
                    · (intro wz hSz; (try dsimp only at hSz); go_simp; try with_reducible rfl)
                    simp only [Act.put, List.setIfInBounds_toArray, List.set_cons_zero, List.set_cons_succ]
                    refine wpAnyH_take (i := 2) (oi := { dst := some 37, op := Go.Op.binOp Go.BinOp.gtr 3 (Go.Operand.tmp 36) (Go.Operand.const (Go.Value.int Go.IntKind.i64 0)) 3, type := 4, pos := "ref.go:123", after := #[{ on := 1, ground := Go.Ground.data }], guard := none }) (v := ?_) rfl (by kernel_rfl) (by kernel_rfl) (by kernel_rfl) (fun _ _ _ h => h) (Or.inl ⟨by rfl, ?_⟩) hH0 ?_
                    rotate_left
                    · (intro wz hSz; (try dsimp only at hSz); go_simp; try with_reducible rfl)
                    simp only [Act.put, List.setIfInBounds_toArray, List.set_cons_zero, List.set_cons_succ]
                    refine wpAnyH_take (i := 3) (oi := { dst := some 38, op := Go.Op.move (Go.Operand.tmp 37), type := 4, pos := "ref.go:123", after := #[{ on := 2, ground := Go.Ground.data }], guard := none }) (v := ?_) rfl (by kernel_rfl) (by kernel_rfl) (by kernel_rfl) (fun _ _ _ h => h) (Or.inl ⟨by rfl, ?_⟩) hH0 ?_
                    rotate_left
                    · (intro wz hSz; (try dsimp only at hSz); go_simp; try with_reducible rfl)
                    simp only [Act.put, List.setIfInBounds_toArray, List.set_cons_zero, List.set_cons_succ]
                    refine wpAnyH_take (i := 4) (oi := { dst := some 39, op := Go.Op.move (Go.Operand.tmp 8), type := 83, pos := "ref.go:123", after := #[{ on := 3, ground := Go.Ground.guard }], guard := some (3, true) }) (v := ?_) rfl (by kernel_rfl) (by kernel_rfl) (by kernel_rfl) (fun _ _ _ h => h) (Or.inl ⟨by rfl, ?_⟩) hH0 ?_
                    rotate_left
                    · (intro wz hSz; (try dsimp only at hSz); go_simp; try with_reducible rfl)
                    simp only [Act.put, List.setIfInBounds_toArray, List.set_cons_zero, List.set_cons_succ]
                    refine wpAnyH_take (i := 5) (oi := { dst := some 40, op := Go.Op.move (Go.Operand.tmp 8), type := 83, pos := "ref.go:123", after := #[{ on := 3, ground := Go.Ground.guard }], guard := some (3, true) }) (v := ?_) rfl (by kernel_rfl) (by kernel_rfl) (by kernel_rfl) (fun _ _ _ h => h) (Or.inl ⟨by rfl, ?_⟩) hH0 ?_
                    rotate_left
                    · (intro wz hSz; (try dsimp only at hSz); go_simp; try with_reducible rfl)
                    simp only [Act.put, List.setIfInBounds_toArray, List.set_cons_zero, List.set_cons_succ]
                    refine wpAnyH_take (i := 6) (oi := { dst := some 41, op := Go.Op.call { callee := Go.Callee.builtin Go.Builtin.len, args := #[Go.Operand.tmp 40], argTypes := #[83] }, type := 3, pos := "ref.go:123", after := #[{ on := 5, ground := Go.Ground.data }, { on := 3, ground := Go.Ground.guard }], guard := some (3, true) }) (v := ?_) rfl (by kernel_rfl) (by kernel_rfl) (by kernel_rfl) (fun _ _ _ h => h) (Or.inl ⟨by rfl, ?_⟩) hH0 ?_
                    rotate_left
                    · (intro wz hSz; (try dsimp only at hSz); go_simp; try with_reducible rfl)
                    simp only [Act.put, List.setIfInBounds_toArray, List.set_cons_zero, List.set_cons_succ]
                    refine wpAnyH_take (i := 7) (oi := { dst := some 42, op := Go.Op.binOp Go.BinOp.sub 3 (Go.Operand.tmp 41) (Go.Operand.const (Go.Value.int Go.IntKind.i64 1)) 3, type := 3, pos := "ref.go:123", after := #[{ on := 6, ground := Go.Ground.data }, { on := 3, ground := Go.Ground.guard }], guard := some (3, true) }) (v := ?_) rfl (by kernel_rfl) (by kernel_rfl) (by kernel_rfl) (fun _ _ _ h => h) (Or.inl ⟨by rfl, ?_⟩) hH0 ?_
                    rotate_left
                    · (intro wz hSz; (try dsimp only at hSz); go_simp; try with_reducible rfl)
                    simp only [Act.put, List.setIfInBounds_toArray, List.set_cons_zero, List.set_cons_succ]
                    refine wpAnyH_take (i := 8) (oi := { dst := some 43, op := Go.Op.indexAddr 83 (Go.Operand.tmp 39) (Go.Operand.tmp 42), type := 0, pos := "ref.go:123", after := #[{ on := 4, ground := Go.Ground.data }, { on := 7, ground := Go.Ground.data }, { on := 3, ground := Go.Ground.guard }], guard := some (3, true) }) (v := ?_) rfl (by kernel_rfl) (by kernel_rfl) (by kernel_rfl) (fun _ _ _ h => h) (Or.inl ⟨by rfl, ?_⟩) hH0 ?_
                    rotate_left
                    · (intro wz hSz; (try dsimp only at hSz); go_simp; try with_reducible rfl)
                    simp only [Act.put, List.setIfInBounds_toArray, List.set_cons_zero, List.set_cons_succ]
                    refine wpAnyH_take (i := 9) (oi := { dst := some 44, op := Go.Op.load 40 (Go.Operand.tmp 43), type := 40, pos := "ref.go:123", after := #[{ on := 8, ground := Go.Ground.data }, { on := 3, ground := Go.Ground.guard }], guard := some (3, true) }) (v := ?_) rfl (by kernel_rfl) (by kernel_rfl) (by kernel_rfl) (fun _ _ _ h => h) (Or.inl ⟨by rfl, ?_⟩) hH0 ?_
                    rotate_left
                    · (intro wz hSz; have hcz := True.intro; have z1 := tc0.out.kept hSz; have z2 := tc1.out.kept hSz; go_simp; try with_reducible rfl)
                    simp only [Act.put, List.setIfInBounds_toArray, List.set_cons_zero, List.set_cons_succ]
                    refine wpAnyH_take (i := 10) (oi := { dst := some 45, op := Go.Op.load 40 (Go.Operand.tmp 10), type := 40, pos := "ref.go:123", after := #[{ on := 3, ground := Go.Ground.guard }], guard := some (3, true) }) (v := ?_) rfl (by kernel_rfl) (by kernel_rfl) (by kernel_rfl) (fun _ _ _ h => h) (Or.inl ⟨by rfl, ?_⟩) hH0 ?_
                    rotate_left
                    · (intro wz hSz; have hcz := True.intro; obtain ⟨b0, b1⟩ := O.lab_cells ((Below.block hSz _ (L.blk_lt HX.out)).trans HX.out); go_simp; try with_reducible rfl)
                    simp only [Act.put, List.setIfInBounds_toArray, List.set_cons_zero, List.set_cons_succ]
                    refine wpAnyH_ready (rs := [11]) (by kernel_rfl) (by simp) ?_
                    refine AllReadyH.cons (o := { dst := some 46, op := Go.Op.call { callee := Go.Callee.value (Go.Operand.func 54), args := #[Go.Operand.tmp 44, Go.Operand.tmp 45], argTypes := #[40, 40] }, type := 4, pos := "ref.go:123", after := #[{ on := 9, ground := Go.Ground.data }, { on := 10, ground := Go.Ground.data }, { on := 3, ground := Go.Ground.chain }, { on := 3, ground := Go.Ground.guard }], guard := some (3, true) }) rfl (fun K hK => ?_) AllReadyH.nil
                    go_simp
                    with_reducible refine ((rbelow_c HBL.out HCTL.out).call _).mono ?_
                    rintro r wq1 ⟨rfl, hbq⟩
                    go_wp2_with fail
                    refine hK.out _ _ (Keeps.trans hH0 hbq) (fun hJ => ?_)
                    refine wpAnyH_more (S' := Keeps wq1) (fun z hz => Keeps.trans hJ hz) _ _ _ _ ?_
                    replace HBX := Lib.hid (HBX.out.trans (Below.mono hJ HBX.out.size))
                    replace HX := Lib.hid ((Below.block hJ _ (L.blk_lt HX.out)).trans HX.out)
                    replace tc0 := Lib.hid (tc0.out.on hJ)
                    replace tc1 := Lib.hid (tc1.out.on hJ)
                    have hH1 : Keeps wq1 wq1 := Below.refl _ _
                    clear hK K hbq hH0 hJ
                    refine wpAnyH_take (i := 12) (oi := { dst := some 47, op := Go.Op.unOp Go.UnOp.not 4 (Go.Operand.tmp 46), type := 4, pos := "ref.go:123", after := #[{ on := 11, ground := Go.Ground.data }, { on := 3, ground := Go.Ground.guard }], guard := some (3, true) }) (v := ?_) rfl (by kernel_rfl) (by kernel_rfl) (by kernel_rfl) (fun _ _ _ h => h) (Or.inl ⟨by rfl, ?_⟩) hH1 ?_
                    rotate_left
                    · (intro wz hSz; (try dsimp only at hSz); go_simp; try with_reducible rfl)
                    simp only [Act.put, List.setIfInBounds_toArray, List.set_cons_zero, List.set_cons_succ]
                    refine wpAnyH_take (i := 13) (oi := { dst := some 48, op := Go.Op.move (Go.Operand.tmp 47), type := 4, pos := "ref.go:123", after := #[{ on := 12, ground := Go.Ground.data }, { on := 11, ground := Go.Ground.chain }, { on := 3, ground := Go.Ground.guard }], guard := some (3, true) }) (v := ?_) rfl (by kernel_rfl) (by kernel_rfl) (by kernel_rfl) (fun _ _ _ h => h) (Or.inl ⟨by rfl, ?_⟩) hH1 ?_
                    rotate_left
                    · (intro wz hSz; (try dsimp only at hSz); go_simp; try with_reducible rfl)
                    simp only [Act.put, List.setIfInBounds_toArray, List.set_cons_zero, List.set_cons_succ]
                    refine wpAnyH_take (i := 14) (oi := { dst := some 49, op := Go.Op.move (Go.Operand.tmp 8), type := 83, pos := "ref.go:123", after := #[{ on := 13, ground := Go.Ground.guard }], guard := some (13, false) }) (v := ?_) rfl (by kernel_rfl) (by kernel_rfl) (by kernel_rfl) (fun _ _ _ h => h) (Or.inl ⟨by rfl, ?_⟩) hH1 ?_
                    rotate_left
                    · (intro wz hSz; (try dsimp only at hSz); go_simp; try with_reducible rfl)
                    simp only [Act.put, List.setIfInBounds_toArray, List.set_cons_zero, List.set_cons_succ]
                    refine wpAnyH_take (i := 15) (oi := { dst := some 50, op := Go.Op.call { callee := Go.Callee.builtin Go.Builtin.len, args := #[Go.Operand.tmp 49], argTypes := #[83] }, type := 3, pos := "ref.go:123", after := #[{ on := 14, ground := Go.Ground.data }, { on := 13, ground := Go.Ground.guard }], guard := some (13, false) }) (v := ?_) rfl (by kernel_rfl) (by kernel_rfl) (by kernel_rfl) (fun _ _ _ h => h) (Or.inl ⟨by rfl, ?_⟩) hH1 ?_
                    rotate_left
                    · (intro wz hSz; (try dsimp only at hSz); go_simp; try with_reducible rfl)
                    simp only [Act.put, List.setIfInBounds_toArray, List.set_cons_zero, List.set_cons_succ]
                    refine wpAnyH_take (i := 16) (oi := { dst := some 51, op := Go.Op.binOp Go.BinOp.geq 3 (Go.Operand.tmp 50) (Go.Operand.const (Go.Value.int Go.IntKind.i64 16)) 3, type := 4, pos := "ref.go:123", after := #[{ on := 15, ground := Go.Ground.data }, { on := 13, ground := Go.Ground.guard }], guard := some (13, false) }) (v := ?_) rfl (by kernel_rfl) (by kernel_rfl) (by kernel_rfl) (fun _ _ _ h => h) (Or.inl ⟨by rfl, ?_⟩) hH1 ?_
                    rotate_left
                    · (intro wz hSz; (try dsimp only at hSz); go_simp; try with_reducible rfl)
                    simp only [Act.put, List.setIfInBounds_toArray, List.set_cons_zero, List.set_cons_succ]
                    refine wpAnyH_take (i := 17) (oi := { dst := some 52, op := Go.Op.move (Go.Operand.tmp 51), type := 4, pos := "ref.go:123", after := #[{ on := 16, ground := Go.Ground.data }, { on := 13, ground := Go.Ground.chain }, { on := 13, ground := Go.Ground.guard }], guard := some (13, false) }) (v := ?_) rfl (by kernel_rfl) (by kernel_rfl) (by kernel_rfl) (fun _ _ _ h => h) (Or.inl ⟨by rfl, ?_⟩) hH1 ?_
                    rotate_left
                    · (intro wz hSz; (try dsimp only at hSz); go_simp; try with_reducible rfl)
                    simp only [Act.put, List.setIfInBounds_toArray, List.set_cons_zero, List.set_cons_succ]
                    refine wpAnyH_take (i := 18) (oi := { dst := some 53, op := Go.Op.move (Go.Operand.tmp 8), type := 83, pos := "ref.go:123", after := #[{ on := 17, ground := Go.Ground.guard }], guard := some (17, true) }) (v := ?_) rfl (by kernel_rfl) (by kernel_rfl) (by kernel_rfl) (fun _ _ _ h => h) (Or.inl ⟨by rfl, ?_⟩) hH1 ?_
                    rotate_left
                    · (intro wz hSz; (try dsimp only at hSz); go_simp; try with_reducible rfl)
                    simp only [Act.put, List.setIfInBounds_toArray, List.set_cons_zero, List.set_cons_succ]
                    refine wpAnyH_take (i := 19) (oi := { dst := some 54, op := Go.Op.move (Go.Operand.tmp 8), type := 83, pos := "ref.go:123", after := #[{ on := 17, ground := Go.Ground.guard }], guard := some (17, true) }) (v := ?_) rfl (by kernel_rfl) (by kernel_rfl) (by kernel_rfl) (fun _ _ _ h => h) (Or.inl ⟨by rfl, ?_⟩) hH1 ?_
                    rotate_left
                    · (intro wz hSz; (try dsimp only at hSz); go_simp; try with_reducible rfl)
                    simp only [Act.put, List.setIfInBounds_toArray, List.set_cons_zero, List.set_cons_succ]
                    refine wpAnyH_take (i := 20) (oi := { dst := some 55, op := Go.Op.call { callee := Go.Callee.builtin Go.Builtin.len, args := #[Go.Operand.tmp 54], argTypes := #[83] }, type := 3, pos := "ref.go:123", after := #[{ on := 19, ground := Go.Ground.data }, { on := 17, ground := Go.Ground.guard }], guard := some (17, true) }) (v := ?_) rfl (by kernel_rfl) (by kernel_rfl) (by kernel_rfl) (fun _ _ _ h => h) (Or.inl ⟨by rfl, ?_⟩) hH1 ?_
                    rotate_left
                    · (intro wz hSz; (try dsimp only at hSz); go_simp; try with_reducible rfl)
                    simp only [Act.put, List.setIfInBounds_toArray, List.set_cons_zero, List.set_cons_succ]
                    refine wpAnyH_take (i := 21) (oi := { dst := some 56, op := Go.Op.binOp Go.BinOp.sub 3 (Go.Operand.tmp 55) (Go.Operand.const (Go.Value.int Go.IntKind.i64 1)) 3, type := 3, pos := "ref.go:123", after := #[{ on := 20, ground := Go.Ground.data }, { on := 17, ground := Go.Ground.guard }], guard := some (17, true) }) (v := ?_) rfl (by kernel_rfl) (by kernel_rfl) (by kernel_rfl) (fun _ _ _ h => h) (Or.inl ⟨by rfl, ?_⟩) hH1 ?_
                    rotate_left
                    · (intro wz hSz; (try dsimp only at hSz); go_simp; try with_reducible rfl)
                    simp only [Act.put, List.setIfInBounds_toArray, List.set_cons_zero, List.set_cons_succ]
                    refine wpAnyH_take (i := 22) (oi := { dst := some 57, op := Go.Op.indexAddr 83 (Go.Operand.tmp 53) (Go.Operand.tmp 56), type := 0, pos := "ref.go:123", after := #[{ on := 18, ground := Go.Ground.data }, { on := 21, ground := Go.Ground.data }, { on := 17, ground := Go.Ground.guard }], guard := some (17, true) }) (v := ?_) rfl (by kernel_rfl) (by kernel_rfl) (by kernel_rfl) (fun _ _ _ h => h) (Or.inl ⟨by rfl, ?_⟩) hH1 ?_
                    rotate_left
                    · (intro wz hSz; (try dsimp only at hSz); go_simp; try with_reducible rfl)
                    simp only [Act.put, List.setIfInBounds_toArray, List.set_cons_zero, List.set_cons_succ]
                    refine wpAnyH_take (i := 23) (oi := { dst := some 58, op := Go.Op.load 40 (Go.Operand.tmp 57), type := 40, pos := "ref.go:123", after := #[{ on := 22, ground := Go.Ground.data }, { on := 17, ground := Go.Ground.guard }], guard := some (17, true) }) (v := ?_) rfl (by kernel_rfl) (by kernel_rfl) (by kernel_rfl) (fun _ _ _ h => h) (Or.inl ⟨by rfl, ?_⟩) hH1 ?_
                    rotate_left
                    · (intro wz hSz; have hcz := True.intro; have z1 := tc0.out.kept hSz; have z2 := tc1.out.kept hSz; go_simp; try with_reducible rfl)
                    simp only [Act.put, List.setIfInBounds_toArray, List.set_cons_zero, List.set_cons_succ]
                    refine wpAnyH_take (i := 24) (oi := { dst := some 59, op := Go.Op.load 40 (Go.Operand.tmp 10), type := 40, pos := "ref.go:123", after := #[{ on := 17, ground := Go.Ground.guard }], guard := some (17, true) }) (v := ?_) rfl (by kernel_rfl) (by kernel_rfl) (by kernel_rfl) (fun _ _ _ h => h) (Or.inl ⟨by rfl, ?_⟩) hH1 ?_
                    rotate_left
                    · (intro wz hSz; have hcz := True.intro; obtain ⟨b0, b1⟩ := O.lab_cells ((Below.block hSz _ (L.blk_lt HX.out)).trans HX.out); go_simp; try with_reducible rfl)
                    simp only [Act.put, List.setIfInBounds_toArray, List.set_cons_zero, List.set_cons_succ]
                    refine wpAnyH_take (i := 25) (oi := { dst := some 60, op := Go.Op.binOp Go.BinOp.neq 40 (Go.Operand.tmp 58) (Go.Operand.tmp 59) 40, type := 4, pos := "ref.go:123", after := #[{ on := 23, ground := Go.Ground.data }, { on := 24, ground := Go.Ground.data }, { on := 17, ground := Go.Ground.guard }], guard := some (17, true) }) (v := ?_) rfl (by kernel_rfl) (by kernel_rfl) (by kernel_rfl) (fun _ _ _ h => h) (Or.inl ⟨by rfl, ?_⟩) hH1 ?_
                    rotate_left
                    · (intro wz hSz; (try dsimp only at hSz); go_simp; try with_reducible rfl)
                    simp only [Act.put, List.setIfInBounds_toArray, List.set_cons_zero, List.set_cons_succ]
                    refine wpAnyH_take (i := 26) (oi := { dst := some 61, op := Go.Op.pick (Go.Operand.tmp 52) (Go.Operand.tmp 60) (Go.Operand.const (Go.Value.bool false)), type := 4, pos := "ref.go:123", after := #[{ on := 17, ground := Go.Ground.data }, { on := 25, ground := Go.Ground.data }, { on := 13, ground := Go.Ground.guard }], guard := some (13, false) }) (v := ?_) rfl (by kernel_rfl) (by kernel_rfl) (by kernel_rfl) (fun _ _ _ h => h) (Or.inl ⟨by rfl, ?_⟩) hH1 ?_
                    rotate_left
                    · (intro wz hSz; (try dsimp only at hSz); go_simp; try with_reducible rfl)
                    simp only [Act.put, List.setIfInBounds_toArray, List.set_cons_zero, List.set_cons_succ]
                    refine wpAnyH_take (i := 27) (oi := { dst := some 62, op := Go.Op.pick (Go.Operand.tmp 48) (Go.Operand.const (Go.Value.bool true)) (Go.Operand.tmp 61), type := 4, pos := "ref.go:123", after := #[{ on := 13, ground := Go.Ground.data }, { on := 26, ground := Go.Ground.data }, { on := 3, ground := Go.Ground.guard }], guard := some (3, true) }) (v := ?_) rfl (by kernel_rfl) (by kernel_rfl) (by kernel_rfl) (fun _ _ _ h => h) (Or.inl ⟨by rfl, ?_⟩) hH1 ?_
                    rotate_left
                    · (intro wz hSz; (try dsimp only at hSz); go_simp; try with_reducible rfl)
                    simp only [Act.put, List.setIfInBounds_toArray, List.set_cons_zero, List.set_cons_succ]
                    refine wpAnyH_take (i := 28) (oi := { dst := some 63, op := Go.Op.pick (Go.Operand.tmp 38) (Go.Operand.tmp 62) (Go.Operand.const (Go.Value.bool false)), type := 4, pos := "ref.go:123", after := #[{ on := 3, ground := Go.Ground.data }, { on := 27, ground := Go.Ground.data }], guard := none }) (v := ?_) rfl (by kernel_rfl) (by kernel_rfl) (by kernel_rfl) (fun _ _ _ h => h) (Or.inl ⟨by rfl, ?_⟩) hH1 ?_
                    rotate_left
                    · (intro wz hSz; (try dsimp only at hSz); go_simp; try with_reducible rfl)
                    simp only [Act.put, List.setIfInBounds_toArray, List.set_cons_zero, List.set_cons_succ]
                    refine wpAnyH_done (by kernel_rfl) ?_ _
                    go_wp2_with fail
                    go_meet
                    case rel => exact ⟨rfl, HBX.out⟩
                · have hne : (tl == al) = false := beq_eq_false_iff_ne.2 hl
                  have hpn : pb = true := by rw [HPBV.out, hbl, decide_eq_true h15]; simp [hl]
                  subst hpn
                  clear hbl HPBV hl
                  refine wp_region_held_drew (S := (Keeps wr)) (by kernel_rfl) (keeps_drew _) (fun hH0 => ?_)
                  refine wpAnyH_take (i := 0) (oi := { dst := some 35, op := Go.Op.move (Go.Operand.tmp 8), type := 83, pos := "ref.go:123", after := #[], guard := none }) (v := ?_) rfl (by kernel_rfl) (by kernel_rfl) (by kernel_rfl) (fun _ _ _ h => h) (Or.inl ⟨by rfl, ?_⟩) hH0 ?_
                  rotate_left
                  · (intro wz hSz; (try dsimp only at hSz); go_simp; try with_reducible rfl)
                  simp only [Act.put, List.setIfInBounds_toArray, List.set_cons_zero, List.set_cons_succ]
                  refine wpAnyH_take (i := 1) (oi := { dst := some 36, op := Go.Op.call { callee := Go.Callee.builtin Go.Builtin.len, args := #[Go.Operand.tmp 35], argTypes := #[83] }, type := 3, pos := "ref.go:123", after := #[{ on := 0, ground := Go.Ground.data }], guard := none }) (v := ?_) rfl (by kernel_rfl) (by kernel_rfl) (by kernel_rfl) (fun _ _ _ h => h) (Or.inl ⟨by rfl, ?_⟩) hH0 ?_
                  rotate_left
                  · (intro wz hSz; (try dsimp only at hSz); go_simp; try with_reducible rfl)
                  simp only [Act.put, List.setIfInBounds_toArray, List.set_cons_zero, List.set_cons_succ]
                  refine wpAnyH_take (i := 2) (oi := { dst := some 37, op := Go.Op.binOp Go.BinOp.gtr 3 (Go.Operand.tmp 36) (Go.Operand.const (Go.Value.int Go.IntKind.i64 0)) 3, type := 4, pos := "ref.go:123", after := #[{ on := 1, ground := Go.Ground.data }], guard := none }) (v := ?_) rfl (by kernel_rfl) (by kernel_rfl) (by kernel_rfl) (fun _ _ _ h => h) (Or.inl ⟨by rfl, ?_⟩) hH0 ?_
                  rotate_left
                  · (intro wz hSz; (try dsimp only at hSz); go_simp; try with_reducible rfl)
                  simp only [Act.put, List.setIfInBounds_toArray, List.set_cons_zero, List.set_cons_succ]
                  refine wpAnyH_take (i := 3) (oi := { dst := some 38, op := Go.Op.move (Go.Operand.tmp 37), type := 4, pos := "ref.go:123", after := #[{ on := 2, ground := Go.Ground.data }], guard := none }) (v := ?_) rfl (by kernel_rfl) (by kernel_rfl) (by kernel_rfl) (fun _ _ _ h => h) (Or.inl ⟨by rfl, ?_⟩) hH0 ?_
                  rotate_left
                  · (intro wz hSz; (try dsimp only at hSz); go_simp; try with_reducible rfl)
                  simp only [Act.put, List.setIfInBounds_toArray, List.set_cons_zero, List.set_cons_succ]
                  refine wpAnyH_take (i := 4) (oi := { dst := some 39, op := Go.Op.move (Go.Operand.tmp 8), type := 83, pos := "ref.go:123", after := #[{ on := 3, ground := Go.Ground.guard }], guard := some (3, true) }) (v := ?_) rfl (by kernel_rfl) (by kernel_rfl) (by kernel_rfl) (fun _ _ _ h => h) (Or.inl ⟨by rfl, ?_⟩) hH0 ?_
                  rotate_left
                  · (intro wz hSz; (try dsimp only at hSz); go_simp; try with_reducible rfl)
                  simp only [Act.put, List.setIfInBounds_toArray, List.set_cons_zero, List.set_cons_succ]
                  refine wpAnyH_take (i := 5) (oi := { dst := some 40, op := Go.Op.move (Go.Operand.tmp 8), type := 83, pos := "ref.go:123", after := #[{ on := 3, ground := Go.Ground.guard }], guard := some (3, true) }) (v := ?_) rfl (by kernel_rfl) (by kernel_rfl) (by kernel_rfl) (fun _ _ _ h => h) (Or.inl ⟨by rfl, ?_⟩) hH0 ?_
                  rotate_left
                  · (intro wz hSz; (try dsimp only at hSz); go_simp; try with_reducible rfl)
                  simp only [Act.put, List.setIfInBounds_toArray, List.set_cons_zero, List.set_cons_succ]
                  refine wpAnyH_take (i := 6) (oi := { dst := some 41, op := Go.Op.call { callee := Go.Callee.builtin Go.Builtin.len, args := #[Go.Operand.tmp 40], argTypes := #[83] }, type := 3, pos := "ref.go:123", after := #[{ on := 5, ground := Go.Ground.data }, { on := 3, ground := Go.Ground.guard }], guard := some (3, true) }) (v := ?_) rfl (by kernel_rfl) (by kernel_rfl) (by kernel_rfl) (fun _ _ _ h => h) (Or.inl ⟨by rfl, ?_⟩) hH0 ?_
                  rotate_left
                  · (intro wz hSz; (try dsimp only at hSz); go_simp; try with_reducible rfl)
                  simp only [Act.put, List.setIfInBounds_toArray, List.set_cons_zero, List.set_cons_succ]
                  refine wpAnyH_take (i := 7) (oi := { dst := some 42, op := Go.Op.binOp Go.BinOp.sub 3 (Go.Operand.tmp 41) (Go.Operand.const (Go.Value.int Go.IntKind.i64 1)) 3, type := 3, pos := "ref.go:123", after := #[{ on := 6, ground := Go.Ground.data }, { on := 3, ground := Go.Ground.guard }], guard := some (3, true) }) (v := ?_) rfl (by kernel_rfl) (by kernel_rfl) (by kernel_rfl) (fun _ _ _ h => h) (Or.inl ⟨by rfl, ?_⟩) hH0 ?_
                  rotate_left
                  · (intro wz hSz; (try dsimp only at hSz); go_simp; try with_reducible rfl)
                  simp only [Act.put, List.setIfInBounds_toArray, List.set_cons_zero, List.set_cons_succ]
                  refine wpAnyH_take (i := 8) (oi := { dst := some 43, op := Go.Op.indexAddr 83 (Go.Operand.tmp 39) (Go.Operand.tmp 42), type := 0, pos := "ref.go:123", after := #[{ on := 4, ground := Go.Ground.data }, { on := 7, ground := Go.Ground.data }, { on := 3, ground := Go.Ground.guard }], guard := some (3, true) }) (v := ?_) rfl (by kernel_rfl) (by kernel_rfl) (by kernel_rfl) (fun _ _ _ h => h) (Or.inl ⟨by rfl, ?_⟩) hH0 ?_
                  rotate_left
                  · (intro wz hSz; (try dsimp only at hSz); go_simp; try with_reducible rfl)
                  simp only [Act.put, List.setIfInBounds_toArray, List.set_cons_zero, List.set_cons_succ]
                  refine wpAnyH_take (i := 9) (oi := { dst := some 44, op := Go.Op.load 40 (Go.Operand.tmp 43), type := 40, pos := "ref.go:123", after := #[{ on := 8, ground := Go.Ground.data }, { on := 3, ground := Go.Ground.guard }], guard := some (3, true) }) (v := ?_) rfl (by kernel_rfl) (by kernel_rfl) (by kernel_rfl) (fun _ _ _ h => h) (Or.inl ⟨by rfl, ?_⟩) hH0 ?_
                  rotate_left
                  · (intro wz hSz; have hcz := True.intro; have z1 := tc0.out.kept hSz; have z2 := tc1.out.kept hSz; go_simp; try with_reducible rfl)
                  simp only [Act.put, List.setIfInBounds_toArray, List.set_cons_zero, List.set_cons_succ]
                  refine wpAnyH_take (i := 10) (oi := { dst := some 45, op := Go.Op.load 40 (Go.Operand.tmp 10), type := 40, pos := "ref.go:123", after := #[{ on := 3, ground := Go.Ground.guard }], guard := some (3, true) }) (v := ?_) rfl (by kernel_rfl) (by kernel_rfl) (by kernel_rfl) (fun _ _ _ h => h) (Or.inl ⟨by rfl, ?_⟩) hH0 ?_
                  rotate_left
                  · (intro wz hSz; have hcz := True.intro; obtain ⟨b0, b1⟩ := O.lab_cells ((Below.block hSz _ (L.blk_lt HX.out)).trans HX.out); go_simp; try with_reducible rfl)
                  simp only [Act.put, List.setIfInBounds_toArray, List.set_cons_zero, List.set_cons_succ]
                  refine wpAnyH_ready (rs := [11]) (by kernel_rfl) (by simp) ?_
                  refine AllReadyH.cons (o := { dst := some 46, op := Go.Op.call { callee := Go.Callee.value (Go.Operand.func 54), args := #[Go.Operand.tmp 44, Go.Operand.tmp 45], argTypes := #[40, 40] }, type := 4, pos := "ref.go:123", after := #[{ on := 9, ground := Go.Ground.data }, { on := 10, ground := Go.Ground.data }, { on := 3, ground := Go.Ground.chain }, { on := 3, ground := Go.Ground.guard }], guard := some (3, true) }) rfl (fun K hK => ?_) AllReadyH.nil
                  go_simp
                  with_reducible refine ((rbelow_c HBL.out HCTL.out).call _).mono ?_
                  rintro r wq1 ⟨rfl, hbq⟩
                  go_wp2_with fail
                  refine hK.out _ _ (Keeps.trans hH0 hbq) (fun hJ => ?_)
                  refine wpAnyH_more (S' := Keeps wq1) (fun z hz => Keeps.trans hJ hz) _ _ _ _ ?_
                  replace HBX := Lib.hid (HBX.out.trans (Below.mono hJ HBX.out.size))
                  replace HX := Lib.hid ((Below.block hJ _ (L.blk_lt HX.out)).trans HX.out)
                  replace tc0 := Lib.hid (tc0.out.on hJ)
                  replace tc1 := Lib.hid (tc1.out.on hJ)
                  have hH1 : Keeps wq1 wq1 := Below.refl _ _
                  clear hK K hbq hH0 hJ
                  refine wpAnyH_take (i := 12) (oi := { dst := some 47, op := Go.Op.unOp Go.UnOp.not 4 (Go.Operand.tmp 46), type := 4, pos := "ref.go:123", after := #[{ on := 11, ground := Go.Ground.data }, { on := 3, ground := Go.Ground.guard }], guard := some (3, true) }) (v := ?_) rfl (by kernel_rfl) (by kernel_rfl) (by kernel_rfl) (fun _ _ _ h => h) (Or.inl ⟨by rfl, ?_⟩) hH1 ?_
                  rotate_left
                  · (intro wz hSz; (try dsimp only at hSz); go_simp; try with_reducible rfl)
                  simp only [Act.put, List.setIfInBounds_toArray, List.set_cons_zero, List.set_cons_succ]
                  refine wpAnyH_take (i := 13) (oi := { dst := some 48, op := Go.Op.move (Go.Operand.tmp 47), type := 4, pos := "ref.go:123", after := #[{ on := 12, ground := Go.Ground.data }, { on := 11, ground := Go.Ground.chain }, { on := 3, ground := Go.Ground.guard }], guard := some (3, true) }) (v := ?_) rfl (by kernel_rfl) (by kernel_rfl) (by kernel_rfl) (fun _ _ _ h => h) (Or.inl ⟨by rfl, ?_⟩) hH1 ?_
                  rotate_left
                  · (intro wz hSz; (try dsimp only at hSz); go_simp; try with_reducible rfl)
                  simp only [Act.put, List.setIfInBounds_toArray, List.set_cons_zero, List.set_cons_succ]
                  refine wpAnyH_take (i := 14) (oi := { dst := some 49, op := Go.Op.move (Go.Operand.tmp 8), type := 83, pos := "ref.go:123", after := #[{ on := 13, ground := Go.Ground.guard }], guard := some (13, false) }) (v := ?_) rfl (by kernel_rfl) (by kernel_rfl) (by kernel_rfl) (fun _ _ _ h => h) (Or.inl ⟨by rfl, ?_⟩) hH1 ?_
                  rotate_left
                  · (intro wz hSz; (try dsimp only at hSz); go_simp; try with_reducible rfl)
                  simp only [Act.put, List.setIfInBounds_toArray, List.set_cons_zero, List.set_cons_succ]
                  refine wpAnyH_take (i := 15) (oi := { dst := some 50, op := Go.Op.call { callee := Go.Callee.builtin Go.Builtin.len, args := #[Go.Operand.tmp 49], argTypes := #[83] }, type := 3, pos := "ref.go:123", after := #[{ on := 14, ground := Go.Ground.data }, { on := 13, ground := Go.Ground.guard }], guard := some (13, false) }) (v := ?_) rfl (by kernel_rfl) (by kernel_rfl) (by kernel_rfl) (fun _ _ _ h => h) (Or.inl ⟨by rfl, ?_⟩) hH1 ?_
                  rotate_left
                  · (intro wz hSz; (try dsimp only at hSz); go_simp; try with_reducible rfl)
                  simp only [Act.put, List.setIfInBounds_toArray, List.set_cons_zero, List.set_cons_succ]
                  refine wpAnyH_take (i := 16) (oi := { dst := some 51, op := Go.Op.binOp Go.BinOp.geq 3 (Go.Operand.tmp 50) (Go.Operand.const (Go.Value.int Go.IntKind.i64 16)) 3, type := 4, pos := "ref.go:123", after := #[{ on := 15, ground := Go.Ground.data }, { on := 13, ground := Go.Ground.guard }], guard := some (13, false) }) (v := ?_) rfl (by kernel_rfl) (by kernel_rfl) (by kernel_rfl) (fun _ _ _ h => h) (Or.inl ⟨by rfl, ?_⟩) hH1 ?_
                  rotate_left
                  · (intro wz hSz; (try dsimp only at hSz); go_simp; try with_reducible rfl)
                  simp only [Act.put, List.setIfInBounds_toArray, List.set_cons_zero, List.set_cons_succ]
                  refine wpAnyH_take (i := 17) (oi := { dst := some 52, op := Go.Op.move (Go.Operand.tmp 51), type := 4, pos := "ref.go:123", after := #[{ on := 16, ground := Go.Ground.data }, { on := 13, ground := Go.Ground.chain }, { on := 13, ground := Go.Ground.guard }], guard := some (13, false) }) (v := ?_) rfl (by kernel_rfl) (by kernel_rfl) (by kernel_rfl) (fun _ _ _ h => h) (Or.inl ⟨by rfl, ?_⟩) hH1 ?_
                  rotate_left
                  · (intro wz hSz; (try dsimp only at hSz); go_simp; try with_reducible rfl)
                  simp only [Act.put, List.setIfInBounds_toArray, List.set_cons_zero, List.set_cons_succ]
                  refine wpAnyH_take (i := 18) (oi := { dst := some 53, op := Go.Op.move (Go.Operand.tmp 8), type := 83, pos := "ref.go:123", after := #[{ on := 17, ground := Go.Ground.guard }], guard := some (17, true) }) (v := ?_) rfl (by kernel_rfl) (by kernel_rfl) (by kernel_rfl) (fun _ _ _ h => h) (Or.inl ⟨by rfl, ?_⟩) hH1 ?_
                  rotate_left
                  · (intro wz hSz; (try dsimp only at hSz); go_simp; try with_reducible rfl)
                  simp only [Act.put, List.setIfInBounds_toArray, List.set_cons_zero, List.set_cons_succ]
                  refine wpAnyH_take (i := 19) (oi := { dst := some 54, op := Go.Op.move (Go.Operand.tmp 8), type := 83, pos := "ref.go:123", after := #[{ on := 17, ground := Go.Ground.guard }], guard := some (17, true) }) (v := ?_) rfl (by kernel_rfl) (by kernel_rfl) (by kernel_rfl) (fun _ _ _ h => h) (Or.inl ⟨by rfl, ?_⟩) hH1 ?_
                  rotate_left
                  · (intro wz hSz; (try dsimp only at hSz); go_simp; try with_reducible rfl)
                  simp only [Act.put, List.setIfInBounds_toArray, List.set_cons_zero, List.set_cons_succ]
                  refine wpAnyH_take (i := 20) (oi := { dst := some 55, op := Go.Op.call { callee := Go.Callee.builtin Go.Builtin.len, args := #[Go.Operand.tmp 54], argTypes := #[83] }, type := 3, pos := "ref.go:123", after := #[{ on := 19, ground := Go.Ground.data }, { on := 17, ground := Go.Ground.guard }], guard := some (17, true) }) (v := ?_) rfl (by kernel_rfl) (by kernel_rfl) (by kernel_rfl) (fun _ _ _ h => h) (Or.inl ⟨by rfl, ?_⟩) hH1 ?_
                  rotate_left
                  · (intro wz hSz; (try dsimp only at hSz); go_simp; try with_reducible rfl)
                  simp only [Act.put, List.setIfInBounds_toArray, List.set_cons_zero, List.set_cons_succ]
                  refine wpAnyH_take (i := 21) (oi := { dst := some 56, op := Go.Op.binOp Go.BinOp.sub 3 (Go.Operand.tmp 55) (Go.Operand.const (Go.Value.int Go.IntKind.i64 1)) 3, type := 3, pos := "ref.go:123", after := #[{ on := 20, ground := Go.Ground.data }, { on := 17, ground := Go.Ground.guard }], guard := some (17, true) }) (v := ?_) rfl (by kernel_rfl) (by kernel_rfl) (by kernel_rfl) (fun _ _ _ h => h) (Or.inl ⟨by rfl, ?_⟩) hH1 ?_
                  rotate_left
                  · (intro wz hSz; (try dsimp only at hSz); go_simp; try with_reducible rfl)
                  simp only [Act.put, List.setIfInBounds_toArray, List.set_cons_zero, List.set_cons_succ]
                  refine wpAnyH_take (i := 22) (oi := { dst := some 57, op := Go.Op.indexAddr 83 (Go.Operand.tmp 53) (Go.Operand.tmp 56), type := 0, pos := "ref.go:123", after := #[{ on := 18, ground := Go.Ground.data }, { on := 21, ground := Go.Ground.data }, { on := 17, ground := Go.Ground.guard }], guard := some (17, true) }) (v := ?_) rfl (by kernel_rfl) (by kernel_rfl) (by kernel_rfl) (fun _ _ _ h => h) (Or.inl ⟨by rfl, ?_⟩) hH1 ?_
                  rotate_left
                  · (intro wz hSz; (try dsimp only at hSz); go_simp; try with_reducible rfl)
                  simp only [Act.put, List.setIfInBounds_toArray, List.set_cons_zero, List.set_cons_succ]
                  refine wpAnyH_take (i := 23) (oi := { dst := some 58, op := Go.Op.load 40 (Go.Operand.tmp 57), type := 40, pos := "ref.go:123", after := #[{ on := 22, ground := Go.Ground.data }, { on := 17, ground := Go.Ground.guard }], guard := some (17, true) }) (v := ?_) rfl (by kernel_rfl) (by kernel_rfl) (by kernel_rfl) (fun _ _ _ h => h) (Or.inl ⟨by rfl, ?_⟩) hH1 ?_
                  rotate_left
                  · (intro wz hSz; have hcz := True.intro; have z1 := tc0.out.kept hSz; have z2 := tc1.out.kept hSz; go_simp; try with_reducible rfl)
                  simp only [Act.put, List.setIfInBounds_toArray, List.set_cons_zero, List.set_cons_succ]
                  refine wpAnyH_take (i := 24) (oi := { dst := some 59, op := Go.Op.load 40 (Go.Operand.tmp 10), type := 40, pos := "ref.go:123", after := #[{ on := 17, ground := Go.Ground.guard }], guard := some (17, true) }) (v := ?_) rfl (by kernel_rfl) (by kernel_rfl) (by kernel_rfl) (fun _ _ _ h => h) (Or.inl ⟨by rfl, ?_⟩) hH1 ?_
                  rotate_left
                  · (intro wz hSz; have hcz := True.intro; obtain ⟨b0, b1⟩ := O.lab_cells ((Below.block hSz _ (L.blk_lt HX.out)).trans HX.out); go_simp; try with_reducible rfl)
                  simp only [Act.put, List.setIfInBounds_toArray, List.set_cons_zero, List.set_cons_succ]
                  refine wpAnyH_take (i := 25) (oi := { dst := some 60, op := Go.Op.binOp Go.BinOp.neq 40 (Go.Operand.tmp 58) (Go.Operand.tmp 59) 40, type := 4, pos := "ref.go:123", after := #[{ on := 23, ground := Go.Ground.data }, { on := 24, ground := Go.Ground.data }, { on := 17, ground := Go.Ground.guard }], guard := some (17, true) }) (v := ?_) rfl (by kernel_rfl) (by kernel_rfl) (by kernel_rfl) (fun _ _ _ h => h) (Or.inl ⟨by rfl, ?_⟩) hH1 ?_
                  rotate_left
                  · (intro wz hSz; (try dsimp only at hSz); go_simp; try with_reducible rfl)
                  simp only [Act.put, List.setIfInBounds_toArray, List.set_cons_zero, List.set_cons_succ]
                  refine wpAnyH_take (i := 26) (oi := { dst := some 61, op := Go.Op.pick (Go.Operand.tmp 52) (Go.Operand.tmp 60) (Go.Operand.const (Go.Value.bool false)), type := 4, pos := "ref.go:123", after := #[{ on := 17, ground := Go.Ground.data }, { on := 25, ground := Go.Ground.data }, { on := 13, ground := Go.Ground.guard }], guard := some (13, false) }) (v := ?_) rfl (by kernel_rfl) (by kernel_rfl) (by kernel_rfl) (fun _ _ _ h => h) (Or.inl ⟨by rfl, ?_⟩) hH1 ?_
                  rotate_left
                  · (intro wz hSz; (try dsimp only at hSz); go_simp; try with_reducible rfl)
                  simp only [Act.put, List.setIfInBounds_toArray, List.set_cons_zero, List.set_cons_succ]
                  refine wpAnyH_take (i := 27) (oi := { dst := some 62, op := Go.Op.pick (Go.Operand.tmp 48) (Go.Operand.const (Go.Value.bool true)) (Go.Operand.tmp 61), type := 4, pos := "ref.go:123", after := #[{ on := 13, ground := Go.Ground.data }, { on := 26, ground := Go.Ground.data }, { on := 3, ground := Go.Ground.guard }], guard := some (3, true) }) (v := ?_) rfl (by kernel_rfl) (by kernel_rfl) (by kernel_rfl) (fun _ _ _ h => h) (Or.inl ⟨by rfl, ?_⟩) hH1 ?_
                  rotate_left
                  · (intro wz hSz; (try dsimp only at hSz); go_simp; try with_reducible rfl)
                  simp only [Act.put, List.setIfInBounds_toArray, List.set_cons_zero, List.set_cons_succ]
                  refine wpAnyH_take (i := 28) (oi := { dst := some 63, op := Go.Op.pick (Go.Operand.tmp 38) (Go.Operand.tmp 62) (Go.Operand.const (Go.Value.bool false)), type := 4, pos := "ref.go:123", after := #[{ on := 3, ground := Go.Ground.data }, { on := 27, ground := Go.Ground.data }], guard := none }) (v := ?_) rfl (by kernel_rfl) (by kernel_rfl) (by kernel_rfl) (fun _ _ _ h => h) (Or.inl ⟨by rfl, ?_⟩) hH1 ?_
                  rotate_left
                  · (intro wz hSz; (try dsimp only at hSz); go_simp; try with_reducible rfl)
                  simp only [Act.put, List.setIfInBounds_toArray, List.set_cons_zero, List.set_cons_succ]
                  refine wpAnyH_done (by kernel_rfl) ?_ _
                  go_wp2_with fail
                  go_meet
                  case rel => exact ⟨rfl, HBX.out⟩
              · have hpn : pb = false := by rw [HPBV.out, hbl, decide_eq_false h15]; simp
                have h16i : ¬ (16 : Int) ≤ ((p + 1 : Nat) : Int) := by omega
                have h16j : ¬ (16 : Int) ≤ (p : Int) + 1 := by omega
                have h15i : ¬ (15 : Int) ≤ (p : Int) := by omega
                have d1 : decide ((16 : Int) ≤ ((p + 1 : Nat) : Int)) = false := decide_eq_false h16i
                have d2 : decide ((16 : Int) ≤ (p : Int) + 1) = false := decide_eq_false h16j
                have d3 : decide ((15 : Int) ≤ (p : Int)) = false := decide_eq_false h15i
                have d4 : decide (15 ≤ p) = false := decide_eq_false h15
                have d5 : decide (16 ≤ p + 1) = false := decide_eq_false (by omega)
                subst hpn
                clear hbl HPBV
                refine wp_region_held_drew (S := (Keeps wr)) (by kernel_rfl) (keeps_drew _) (fun hH0 => ?_)
                refine wpAnyH_take (i := 0) (oi := { dst := some 35, op := Go.Op.move (Go.Operand.tmp 8), type := 83, pos := "ref.go:123", after := #[], guard := none }) (v := ?_) rfl (by kernel_rfl) (by kernel_rfl) (by kernel_rfl) (fun _ _ _ h => h) (Or.inl ⟨by rfl, ?_⟩) hH0 ?_
                rotate_left
                · (intro wz hSz; (try dsimp only at hSz); go_simp; try with_reducible rfl)
                simp only [Act.put, List.setIfInBounds_toArray, List.set_cons_zero, List.set_cons_succ]
                refine wpAnyH_take (i := 1) (oi := { dst := some 36, op := Go.Op.call { callee := Go.Callee.builtin Go.Builtin.len, args := #[Go.Operand.tmp 35], argTypes := #[83] }, type := 3, pos := "ref.go:123", after := #[{ on := 0, ground := Go.Ground.data }], guard := none }) (v := ?_) rfl (by kernel_rfl) (by kernel_rfl) (by kernel_rfl) (fun _ _ _ h => h) (Or.inl ⟨by rfl, ?_⟩) hH0 ?_
                rotate_left
                · (intro wz hSz; (try dsimp only at hSz); go_simp; try with_reducible rfl)
                simp only [Act.put, List.setIfInBounds_toArray, List.set_cons_zero, List.set_cons_succ]
                refine wpAnyH_take (i := 2) (oi := { dst := some 37, op := Go.Op.binOp Go.BinOp.gtr 3 (Go.Operand.tmp 36) (Go.Operand.const (Go.Value.int Go.IntKind.i64 0)) 3, type := 4, pos := "ref.go:123", after := #[{ on := 1, ground := Go.Ground.data }], guard := none }) (v := ?_) rfl (by kernel_rfl) (by kernel_rfl) (by kernel_rfl) (fun _ _ _ h => h) (Or.inl ⟨by rfl, ?_⟩) hH0 ?_
                rotate_left
                · (intro wz hSz; (try dsimp only at hSz); go_simp; try with_reducible rfl)
                simp only [Act.put, List.setIfInBounds_toArray, List.set_cons_zero, List.set_cons_succ]
                refine wpAnyH_take (i := 3) (oi := { dst := some 38, op := Go.Op.move (Go.Operand.tmp 37), type := 4, pos := "ref.go:123", after := #[{ on := 2, ground := Go.Ground.data }], guard := none }) (v := ?_) rfl (by kernel_rfl) (by kernel_rfl) (by kernel_rfl) (fun _ _ _ h => h) (Or.inl ⟨by rfl, ?_⟩) hH0 ?_
                rotate_left
                · (intro wz hSz; (try dsimp only at hSz); go_simp; try with_reducible rfl)
                simp only [Act.put, List.setIfInBounds_toArray, List.set_cons_zero, List.set_cons_succ]
                refine wpAnyH_take (i := 4) (oi := { dst := some 39, op := Go.Op.move (Go.Operand.tmp 8), type := 83, pos := "ref.go:123", after := #[{ on := 3, ground := Go.Ground.guard }], guard := some (3, true) }) (v := ?_) rfl (by kernel_rfl) (by kernel_rfl) (by kernel_rfl) (fun _ _ _ h => h) (Or.inl ⟨by rfl, ?_⟩) hH0 ?_
                rotate_left
                · (intro wz hSz; (try dsimp only at hSz); go_simp; try with_reducible rfl)
                simp only [Act.put, List.setIfInBounds_toArray, List.set_cons_zero, List.set_cons_succ]
                refine wpAnyH_take (i := 5) (oi := { dst := some 40, op := Go.Op.move (Go.Operand.tmp 8), type := 83, pos := "ref.go:123", after := #[{ on := 3, ground := Go.Ground.guard }], guard := some (3, true) }) (v := ?_) rfl (by kernel_rfl) (by kernel_rfl) (by kernel_rfl) (fun _ _ _ h => h) (Or.inl ⟨by rfl, ?_⟩) hH0 ?_
                rotate_left
                · (intro wz hSz; (try dsimp only at hSz); go_simp; try with_reducible rfl)
                simp only [Act.put, List.setIfInBounds_toArray, List.set_cons_zero, List.set_cons_succ]
                refine wpAnyH_take (i := 6) (oi := { dst := some 41, op := Go.Op.call { callee := Go.Callee.builtin Go.Builtin.len, args := #[Go.Operand.tmp 40], argTypes := #[83] }, type := 3, pos := "ref.go:123", after := #[{ on := 5, ground := Go.Ground.data }, { on := 3, ground := Go.Ground.guard }], guard := some (3, true) }) (v := ?_) rfl (by kernel_rfl) (by kernel_rfl) (by kernel_rfl) (fun _ _ _ h => h) (Or.inl ⟨by rfl, ?_⟩) hH0 ?_
                rotate_left
                · (intro wz hSz; (try dsimp only at hSz); go_simp; try with_reducible rfl)
                simp only [Act.put, List.setIfInBounds_toArray, List.set_cons_zero, List.set_cons_succ]
                refine wpAnyH_take (i := 7) (oi := { dst := some 42, op := Go.Op.binOp Go.BinOp.sub 3 (Go.Operand.tmp 41) (Go.Operand.const (Go.Value.int Go.IntKind.i64 1)) 3, type := 3, pos := "ref.go:123", after := #[{ on := 6, ground := Go.Ground.data }, { on := 3, ground := Go.Ground.guard }], guard := some (3, true) }) (v := ?_) rfl (by kernel_rfl) (by kernel_rfl) (by kernel_rfl) (fun _ _ _ h => h) (Or.inl ⟨by rfl, ?_⟩) hH0 ?_
                rotate_left
                · (intro wz hSz; (try dsimp only at hSz); go_simp; try with_reducible rfl)
                simp only [Act.put, List.setIfInBounds_toArray, List.set_cons_zero, List.set_cons_succ]
                refine wpAnyH_take (i := 8) (oi := { dst := some 43, op := Go.Op.indexAddr 83 (Go.Operand.tmp 39) (Go.Operand.tmp 42), type := 0, pos := "ref.go:123", after := #[{ on := 4, ground := Go.Ground.data }, { on := 7, ground := Go.Ground.data }, { on := 3, ground := Go.Ground.guard }], guard := some (3, true) }) (v := ?_) rfl (by kernel_rfl) (by kernel_rfl) (by kernel_rfl) (fun _ _ _ h => h) (Or.inl ⟨by rfl, ?_⟩) hH0 ?_
                rotate_left
                · (intro wz hSz; (try dsimp only at hSz); go_simp; try with_reducible rfl)
                simp only [Act.put, List.setIfInBounds_toArray, List.set_cons_zero, List.set_cons_succ]
                refine wpAnyH_take (i := 9) (oi := { dst := some 44, op := Go.Op.load 40 (Go.Operand.tmp 43), type := 40, pos := "ref.go:123", after := #[{ on := 8, ground := Go.Ground.data }, { on := 3, ground := Go.Ground.guard }], guard := some (3, true) }) (v := ?_) rfl (by kernel_rfl) (by kernel_rfl) (by kernel_rfl) (fun _ _ _ h => h) (Or.inl ⟨by rfl, ?_⟩) hH0 ?_
                rotate_left
                · (intro wz hSz; have hcz := True.intro; have z1 := tc0.out.kept hSz; have z2 := tc1.out.kept hSz; go_simp; try with_reducible rfl)
                simp only [Act.put, List.setIfInBounds_toArray, List.set_cons_zero, List.set_cons_succ]
                refine wpAnyH_take (i := 10) (oi := { dst := some 45, op := Go.Op.load 40 (Go.Operand.tmp 10), type := 40, pos := "ref.go:123", after := #[{ on := 3, ground := Go.Ground.guard }], guard := some (3, true) }) (v := ?_) rfl (by kernel_rfl) (by kernel_rfl) (by kernel_rfl) (fun _ _ _ h => h) (Or.inl ⟨by rfl, ?_⟩) hH0 ?_
                rotate_left
                · (intro wz hSz; have hcz := True.intro; obtain ⟨b0, b1⟩ := O.lab_cells ((Below.block hSz _ (L.blk_lt HX.out)).trans HX.out); go_simp; try with_reducible rfl)
                simp only [Act.put, List.setIfInBounds_toArray, List.set_cons_zero, List.set_cons_succ]
                refine wpAnyH_ready (rs := [11]) (by kernel_rfl) (by simp) ?_
                refine AllReadyH.cons (o := { dst := some 46, op := Go.Op.call { callee := Go.Callee.value (Go.Operand.func 54), args := #[Go.Operand.tmp 44, Go.Operand.tmp 45], argTypes := #[40, 40] }, type := 4, pos := "ref.go:123", after := #[{ on := 9, ground := Go.Ground.data }, { on := 10, ground := Go.Ground.data }, { on := 3, ground := Go.Ground.chain }, { on := 3, ground := Go.Ground.guard }], guard := some (3, true) }) rfl (fun K hK => ?_) AllReadyH.nil
                go_simp
                with_reducible refine ((rbelow_c HBL.out HCTL.out).call _).mono ?_
                rintro r wq1 ⟨rfl, hbq⟩
                go_wp2_with fail
                refine hK.out _ _ (Keeps.trans hH0 hbq) (fun hJ => ?_)
                refine wpAnyH_more (S' := Keeps wq1) (fun z hz => Keeps.trans hJ hz) _ _ _ _ ?_
                replace HBX := Lib.hid (HBX.out.trans (Below.mono hJ HBX.out.size))
                replace HX := Lib.hid ((Below.block hJ _ (L.blk_lt HX.out)).trans HX.out)
                replace tc0 := Lib.hid (tc0.out.on hJ)
                replace tc1 := Lib.hid (tc1.out.on hJ)
                have hH1 : Keeps wq1 wq1 := Below.refl _ _
                clear hK K hbq hH0 hJ
                refine wpAnyH_take (i := 12) (oi := { dst := some 47, op := Go.Op.unOp Go.UnOp.not 4 (Go.Operand.tmp 46), type := 4, pos := "ref.go:123", after := #[{ on := 11, ground := Go.Ground.data }, { on := 3, ground := Go.Ground.guard }], guard := some (3, true) }) (v := ?_) rfl (by kernel_rfl) (by kernel_rfl) (by kernel_rfl) (fun _ _ _ h => h) (Or.inl ⟨by rfl, ?_⟩) hH1 ?_
                rotate_left
                · (intro wz hSz; (try dsimp only at hSz); go_simp; try with_reducible rfl)
                simp only [Act.put, List.setIfInBounds_toArray, List.set_cons_zero, List.set_cons_succ]
                refine wpAnyH_take (i := 13) (oi := { dst := some 48, op := Go.Op.move (Go.Operand.tmp 47), type := 4, pos := "ref.go:123", after := #[{ on := 12, ground := Go.Ground.data }, { on := 11, ground := Go.Ground.chain }, { on := 3, ground := Go.Ground.guard }], guard := some (3, true) }) (v := ?_) rfl (by kernel_rfl) (by kernel_rfl) (by kernel_rfl) (fun _ _ _ h => h) (Or.inl ⟨by rfl, ?_⟩) hH1 ?_
                rotate_left
                · (intro wz hSz; (try dsimp only at hSz); go_simp; try with_reducible rfl)
                simp only [Act.put, List.setIfInBounds_toArray, List.set_cons_zero, List.set_cons_succ]
                refine wpAnyH_take (i := 14) (oi := { dst := some 49, op := Go.Op.move (Go.Operand.tmp 8), type := 83, pos := "ref.go:123", after := #[{ on := 13, ground := Go.Ground.guard }], guard := some (13, false) }) (v := ?_) rfl (by kernel_rfl) (by kernel_rfl) (by kernel_rfl) (fun _ _ _ h => h) (Or.inl ⟨by rfl, ?_⟩) hH1 ?_
                rotate_left
                · (intro wz hSz; (try dsimp only at hSz); go_simp; try with_reducible rfl)
                simp only [Act.put, List.setIfInBounds_toArray, List.set_cons_zero, List.set_cons_succ]
                refine wpAnyH_take (i := 15) (oi := { dst := some 50, op := Go.Op.call { callee := Go.Callee.builtin Go.Builtin.len, args := #[Go.Operand.tmp 49], argTypes := #[83] }, type := 3, pos := "ref.go:123", after := #[{ on := 14, ground := Go.Ground.data }, { on := 13, ground := Go.Ground.guard }], guard := some (13, false) }) (v := ?_) rfl (by kernel_rfl) (by kernel_rfl) (by kernel_rfl) (fun _ _ _ h => h) (Or.inl ⟨by rfl, ?_⟩) hH1 ?_
                rotate_left
                · (intro wz hSz; (try dsimp only at hSz); go_simp; try with_reducible rfl)
                simp only [Act.put, List.setIfInBounds_toArray, List.set_cons_zero, List.set_cons_succ]
                refine wpAnyH_take (i := 16) (oi := { dst := some 51, op := Go.Op.binOp Go.BinOp.geq 3 (Go.Operand.tmp 50) (Go.Operand.const (Go.Value.int Go.IntKind.i64 16)) 3, type := 4, pos := "ref.go:123", after := #[{ on := 15, ground := Go.Ground.data }, { on := 13, ground := Go.Ground.guard }], guard := some (13, false) }) (v := ?_) rfl (by kernel_rfl) (by kernel_rfl) (by kernel_rfl) (fun _ _ _ h => h) (Or.inl ⟨by rfl, ?_⟩) hH1 ?_
                rotate_left
                · (intro wz hSz; (try dsimp only at hSz); go_simp; try with_reducible rfl)
                simp only [Act.put, List.setIfInBounds_toArray, List.set_cons_zero, List.set_cons_succ]
                refine wpAnyH_take (i := 17) (oi := { dst := some 52, op := Go.Op.move (Go.Operand.tmp 51), type := 4, pos := "ref.go:123", after := #[{ on := 16, ground := Go.Ground.data }, { on := 13, ground := Go.Ground.chain }, { on := 13, ground := Go.Ground.guard }], guard := some (13, false) }) (v := ?_) rfl (by kernel_rfl) (by kernel_rfl) (by kernel_rfl) (fun _ _ _ h => h) (Or.inl ⟨by rfl, ?_⟩) hH1 ?_
                rotate_left
                · (intro wz hSz; (try dsimp only at hSz); go_simp; try with_reducible rfl)
                simp only [Act.put, List.setIfInBounds_toArray, List.set_cons_zero, List.set_cons_succ]
                refine wpAnyH_take (i := 18) (oi := { dst := some 53, op := Go.Op.move (Go.Operand.tmp 8), type := 83, pos := "ref.go:123", after := #[{ on := 17, ground := Go.Ground.guard }], guard := some (17, true) }) (v := undef) rfl (by kernel_rfl) (by kernel_rfl) (by kernel_rfl) (fun _ _ _ h => h) (Or.inr ⟨by rfl, rfl⟩) hH1 ?_
                simp only [Act.put, List.setIfInBounds_toArray, List.set_cons_zero, List.set_cons_succ]
                refine wpAnyH_take (i := 19) (oi := { dst := some 54, op := Go.Op.move (Go.Operand.tmp 8), type := 83, pos := "ref.go:123", after := #[{ on := 17, ground := Go.Ground.guard }], guard := some (17, true) }) (v := undef) rfl (by kernel_rfl) (by kernel_rfl) (by kernel_rfl) (fun _ _ _ h => h) (Or.inr ⟨by rfl, rfl⟩) hH1 ?_
                simp only [Act.put, List.setIfInBounds_toArray, List.set_cons_zero, List.set_cons_succ]
                refine wpAnyH_take (i := 20) (oi := { dst := some 55, op := Go.Op.call { callee := Go.Callee.builtin Go.Builtin.len, args := #[Go.Operand.tmp 54], argTypes := #[83] }, type := 3, pos := "ref.go:123", after := #[{ on := 19, ground := Go.Ground.data }, { on := 17, ground := Go.Ground.guard }], guard := some (17, true) }) (v := undef) rfl (by kernel_rfl) (by kernel_rfl) (by kernel_rfl) (fun _ _ _ h => h) (Or.inr ⟨by rfl, rfl⟩) hH1 ?_
                simp only [Act.put, List.setIfInBounds_toArray, List.set_cons_zero, List.set_cons_succ]
                refine wpAnyH_take (i := 21) (oi := { dst := some 56, op := Go.Op.binOp Go.BinOp.sub 3 (Go.Operand.tmp 55) (Go.Operand.const (Go.Value.int Go.IntKind.i64 1)) 3, type := 3, pos := "ref.go:123", after := #[{ on := 20, ground := Go.Ground.data }, { on := 17, ground := Go.Ground.guard }], guard := some (17, true) }) (v := undef) rfl (by kernel_rfl) (by kernel_rfl) (by kernel_rfl) (fun _ _ _ h => h) (Or.inr ⟨by rfl, rfl⟩) hH1 ?_
                simp only [Act.put, List.setIfInBounds_toArray, List.set_cons_zero, List.set_cons_succ]
                refine wpAnyH_take (i := 22) (oi := { dst := some 57, op := Go.Op.indexAddr 83 (Go.Operand.tmp 53) (Go.Operand.tmp 56), type := 0, pos := "ref.go:123", after := #[{ on := 18, ground := Go.Ground.data }, { on := 21, ground := Go.Ground.data }, { on := 17, ground := Go.Ground.guard }], guard := some (17, true) }) (v := undef) rfl (by kernel_rfl) (by kernel_rfl) (by kernel_rfl) (fun _ _ _ h => h) (Or.inr ⟨by rfl, rfl⟩) hH1 ?_
                simp only [Act.put, List.setIfInBounds_toArray, List.set_cons_zero, List.set_cons_succ]
                refine wpAnyH_take (i := 23) (oi := { dst := some 58, op := Go.Op.load 40 (Go.Operand.tmp 57), type := 40, pos := "ref.go:123", after := #[{ on := 22, ground := Go.Ground.data }, { on := 17, ground := Go.Ground.guard }], guard := some (17, true) }) (v := undef) rfl (by kernel_rfl) (by kernel_rfl) (by kernel_rfl) (fun _ _ _ h => h) (Or.inr ⟨by rfl, rfl⟩) hH1 ?_
                simp only [Act.put, List.setIfInBounds_toArray, List.set_cons_zero, List.set_cons_succ]
                refine wpAnyH_take (i := 24) (oi := { dst := some 59, op := Go.Op.load 40 (Go.Operand.tmp 10), type := 40, pos := "ref.go:123", after := #[{ on := 17, ground := Go.Ground.guard }], guard := some (17, true) }) (v := undef) rfl (by kernel_rfl) (by kernel_rfl) (by kernel_rfl) (fun _ _ _ h => h) (Or.inr ⟨by rfl, rfl⟩) hH1 ?_
                simp only [Act.put, List.setIfInBounds_toArray, List.set_cons_zero, List.set_cons_succ]
                refine wpAnyH_take (i := 25) (oi := { dst := some 60, op := Go.Op.binOp Go.BinOp.neq 40 (Go.Operand.tmp 58) (Go.Operand.tmp 59) 40, type := 4, pos := "ref.go:123", after := #[{ on := 23, ground := Go.Ground.data }, { on := 24, ground := Go.Ground.data }, { on := 17, ground := Go.Ground.guard }], guard := some (17, true) }) (v := undef) rfl (by kernel_rfl) (by kernel_rfl) (by kernel_rfl) (fun _ _ _ h => h) (Or.inr ⟨by rfl, rfl⟩) hH1 ?_
                simp only [Act.put, List.setIfInBounds_toArray, List.set_cons_zero, List.set_cons_succ]
                refine wpAnyH_take (i := 26) (oi := { dst := some 61, op := Go.Op.pick (Go.Operand.tmp 52) (Go.Operand.tmp 60) (Go.Operand.const (Go.Value.bool false)), type := 4, pos := "ref.go:123", after := #[{ on := 17, ground := Go.Ground.data }, { on := 25, ground := Go.Ground.data }, { on := 13, ground := Go.Ground.guard }], guard := some (13, false) }) (v := ?_) rfl (by kernel_rfl) (by kernel_rfl) (by kernel_rfl) (fun _ _ _ h => h) (Or.inl ⟨by rfl, ?_⟩) hH1 ?_
                rotate_left
                · (intro wz hSz; (try dsimp only at hSz); go_simp; try with_reducible rfl)
                simp only [Act.put, List.setIfInBounds_toArray, List.set_cons_zero, List.set_cons_succ]
                refine wpAnyH_take (i := 27) (oi := { dst := some 62, op := Go.Op.pick (Go.Operand.tmp 48) (Go.Operand.const (Go.Value.bool true)) (Go.Operand.tmp 61), type := 4, pos := "ref.go:123", after := #[{ on := 13, ground := Go.Ground.data }, { on := 26, ground := Go.Ground.data }, { on := 3, ground := Go.Ground.guard }], guard := some (3, true) }) (v := ?_) rfl (by kernel_rfl) (by kernel_rfl) (by kernel_rfl) (fun _ _ _ h => h) (Or.inl ⟨by rfl, ?_⟩) hH1 ?_
                rotate_left
                · (intro wz hSz; (try dsimp only at hSz); go_simp; try with_reducible rfl)
                simp only [Act.put, List.setIfInBounds_toArray, List.set_cons_zero, List.set_cons_succ]
                refine wpAnyH_take (i := 28) (oi := { dst := some 63, op := Go.Op.pick (Go.Operand.tmp 38) (Go.Operand.tmp 62) (Go.Operand.const (Go.Value.bool false)), type := 4, pos := "ref.go:123", after := #[{ on := 3, ground := Go.Ground.data }, { on := 27, ground := Go.Ground.data }], guard := none }) (v := ?_) rfl (by kernel_rfl) (by kernel_rfl) (by kernel_rfl) (fun _ _ _ h => h) (Or.inl ⟨by rfl, ?_⟩) hH1 ?_
                rotate_left
                · (intro wz hSz; (try dsimp only at hSz); go_simp; try with_reducible rfl)
                simp only [Act.put, List.setIfInBounds_toArray, List.set_cons_zero, List.set_cons_succ]
                refine wpAnyH_done (by kernel_rfl) ?_ _
                go_wp2_with fail
                go_meet
                case rel => exact ⟨rfl, HBX.out⟩
        case rest =>
          obtain ⟨rfl, hbc⟩ := hcut
          have HOC := Lib.hid (own_below HOW.out hbc)
          have HBC := Lib.hid (HBZ.out.trans (hbc.mono HBZ.out.size))
          have HXC := Lib.hid ((hbc.block xa (L.blk_lt HX.out)).trans HX.out)
          have hsc : w1.heap.size ≤ wc.heap.size := by have := HBC.out.size; omega
          clear hbc HOW HX HBX HBZ
          generalize wc = w3 at *
          cases pb with
          | true =>
            cases os with
            | nil => exact absurd HPB.out (by simp [popB])
            | cons t r =>
              have HPT := Lib.hid (popB_yes HST.out HPB.out.symm)
              have hq1 : q = r.length + 1 := HQ.out
              obtain ⟨p, hp⟩ : ∃ p, p = r.length := ⟨_, rfl⟩
              have hqp : q = p + 1 := by omega
              have HP := Lib.hid hp
              clear hp hq1
              subst hqp
              obtain ⟨g, hAe, hg, tc0, -, hcells⟩ := top_cells HP.out HOC.out
              have hgl : g < w3.heap.size := tc0.lt
              subst hAe
              have e1 : (((p + 1 : Nat) : Int) - 1) = (p : Int) := by omega
              have hcl : p + 1 ≤ vcap ∧ vcap ≤ maxLen := by
                rcases HOC.out.2 with ⟨e, _⟩ | ⟨g', cp, cur, e, _, _, a1, a2, _⟩
                · cases e
                · injection e with f1 f2 f3
                  subst f3
                  exact ⟨a1, a2⟩
              unfold maxLen at hcl
              have HNEWS : Hid (∀ j u, (labCells r.reverse)[j]? = some u → (w3.alloc (.cells #[] 40)).cell? ((⟨g, 0, none⟩ : Addr).add j) = some u) := Lib.hid fun j u hu => by
                rw [Addr.add_lit, Nat.zero_add]
                exact ((alloc1 w3 _).cell hgl).trans (hcells j u hu)
              have HLL := Lib.hid (show (labCells r.reverse).length = p * 2 by rw [labCells_length, List.length_reverse, HP.out])
              have HMK := Lib.hid (World.ownsRow_made (base := w3.heap.size) (e := 40) (size := 2) w3 #[] 0 (Nat.le_refl _) (Nat.zero_le _) rfl)
              have HTN := Lib.hid (show (o.data.toList ++ (kEnd ++ [10])) ++ J (outOf (r ++ [(f0, f1)]) (x :: l.drop (k + 1))) = T0 by
                have h := HTQ.out
                rw [List.cons_append, out_pop (by have := HPT.out; rw [← HLBX.out] at this; exact this), J_cons] at h
                rw [List.append_assoc, List.append_assoc]
                rw [List.append_assoc] at h
                exact h)
              have HST2 := Lib.hid (show Stk (f0, f1) (r ++ [(f0, f1)]) from HST.out.tail (by simp))
              obtain ⟨z, hz, hzd⟩ := cat_is (a := o) (b := ⟨#[64, 64, 32, 101, 110, 100, 10]⟩) (by have := pre_len HTQ.out hTl; omega) (by decide)
              have HZD := Lib.hid hzd
              have hrl : r.length = p := HP.out.symm
              rw [List.length_cons, hrl] at hmm
              clear hrl
              clear hcells tc0 hzd HPT HST HTQ
              go_wp2_with (at_builtin; refine wpList_append_own _ rfl (.tmp 64) (.tmp 69) 83 rfl w3.heap.size 40 i0 _ 2 16 Tryd.underlying83 hi0 hz0 hz1 hz2 rfl (by decide) _ 0 [] rfl HMK.out ⟨g, 0, none⟩ p vcap (labCells r.reverse) rfl HLL.out HNEWS.out ?c2 ?c3 ?c4 ?c5 ?_)
              try (case c2 => exact labCells_one _)
              try (case c3 => simp only [maxLen]; omega)
              try (case c4 => omega)
              try (case c5 => first | omega | (simp; omega))
              intro v' w4 hown4 hg4 _
              have hgW : w3.grownBy w4 (some w3.heap.size) := ⟨hg4.os, hg4.tape, hg4.output, Nat.le_trans (by simp) hg4.size, fun k hk hne => (hg4.block k (by simp; omega) hne).trans (Below.heap_alloc w3 _ k hk)⟩
              have hb4 : Below w3.heap.size w3 w4 := (Below.refl _ _).grown hgW (Nat.le_refl _) (fun k hk => by injection hk with hk; omega)
              have HB4 := Lib.hid (HBC.out.trans (hb4.mono HBC.out.size))
              try rw [List.nil_append] at hown4
              try rw [Nat.zero_add] at hown4
              rw [HP.out] at hown4
              have HNX4 : Hid (∀ b, v'.ownBlock = some b → b ≠ xa) := Lib.hid fun b hb e => by have h1 := own_base hown4 b hb; have h2 := L.blk_lt HXC.out; omega
              have HO4 := Lib.hid (own_more hsc hown4)
              clear hown4 hg4 hgW hb4
              go_wp2_with fail
              go_roundg p
              case rel => exact ⟨z, r, rfl, by rw [← HP.out]; exact Nat.le_refl _, by rw [← HP.out]; omega, HO4.out, HNX4, HB4, Lib.hid (by rw [HZD.out]; exact HTN.out), HST2, Lib.hid fun y hy => HCS.out y (by simp [hy])⟩
              case measure => omega
          | false =>
            have HPT : Hid (popTo x.lb (os ++ [(f0, f1)]) = os ++ [(f0, f1)]) := Lib.hid (by rw [HLBX.out]; exact popB_no HBEL.out HPB.out.symm)
            have hx3 : xb < W2.heap.size := by omega
            have HXF := Lib.hid ((HBC.out.block xb hx3).trans ((HBRW.out.block xb hx1).trans HX1.out))
            obtain ⟨x0, x1⟩ := O.lab_cells HXF.out
            obtain ⟨xt, hxt⟩ : ∃ xt, xt = w3.heap.size := ⟨_, rfl⟩
            go_upto_if 76 with fail
            go_cut [] (fun wx => ∃ tp : Lb, wx.heap[w3.heap.size]? = some (.cells #[.int .i64 tp.1, .int .u64 (tp.2 : Int)] 40 (0, 0)) ∧ Hid ((os ++ [(f0, f1)]).head? = some tp) ∧ Below w3.heap.size w3 wx)
            case first =>
              cases os with
              | nil =>
                have hq0 : q = 0 := HQ.out
                subst hq0
                go_wp2_with fail
                go_meet
                case rel => exact ⟨(f0, f1), heap_alloc_new w3 _, Lib.hid rfl, alloc1 _ _⟩
              | cons t r =>
                obtain ⟨tl, tc⟩ := t
                have hq1 : q = r.length + 1 := HQ.out
                obtain ⟨p, hp⟩ : ∃ p, p = r.length := ⟨_, rfl⟩
                have hqp : q = p + 1 := by omega
                have HP := Lib.hid hp
                clear hp hq1
                subst hqp
                obtain ⟨g, hAe, hg, tc0, tc1, -⟩ := top_cells HP.out HOC.out
                subst hAe
                have hgl : g < w3.heap.size := tc0.lt
                have hgn : ¬ g = w3.heap.size := by omega
                have e1 : (((p + 1 : Nat) : Int) - 1) = (p : Int) := by omega
                have hwp : IntKind.i64.wrap (p : Int) = (p : Int) := IntWalk.i64_in _ (by omega)
                have hp0 : (0 : Int) ≤ (p : Int) := by omega
                have hp1 : (p : Int) < (p : Int) + 1 := by omega
                have y0 : w3.cell? ⟨g, p * 2, none⟩ = some (.int .i64 tl) := tc0.at0
                have y1 : w3.cell? ⟨g, p * 2 + 1, none⟩ = some (.int .u64 (tc : Int)) := tc1.at0
                have z0 : (w3.alloc (.cells #[.int .i64 f0, .int .u64 (f1 : Int)] 40)).cell? ⟨g, p * 2, none⟩ = some (.int .i64 tl) := ((alloc1 w3 _).cell hgl).trans y0
                have z1 : (w3.alloc (.cells #[.int .i64 f0, .int .u64 (f1 : Int)] 40)).cell? ⟨g, p * 2 + 1, none⟩ = some (.int .u64 (tc : Int)) := ((alloc1 w3 _).cell hgl).trans y1
                clear tc0 tc1
                go_wp2_with fail
                go_meet
                case rel => exact ⟨(tl, tc), heap_alloc_new w3 _, Lib.hid rfl, alloc1 _ _⟩
            case rest =>
              obtain ⟨⟨tl, tc⟩, hx5, HHD, hb5⟩ := hcut
              simp only at hx5
              rw [← hxt] at hx5 ⊢
              have HOC5 := Lib.hid (own_below HOC.out hb5)
              have HB5 := Lib.hid (HBC.out.trans (hb5.mono HBC.out.size))
              have HXA := Lib.hid ((hb5.block xa (L.blk_lt HXC.out)).trans HXC.out)
              have HXT := Lib.hid hx5
              have hs5 : w1.heap.size ≤ wc.heap.size := by have := HB5.out.size; omega
              clear hb5 hx5 HOC HXC HBC hxt x0 x1 HXF
              generalize wc = w5 at *
              obtain ⟨y0, y1⟩ := O.lab_cells HXA.out
              obtain ⟨v0, v1⟩ := O.lab_cells HXT.out
              have HB51 := Lib.hid (HBRW.out.trans (HB5.out.mono HBRW.out.size))
              obtain ⟨nb, hnb⟩ : ∃ b, b = decide ((tl, tc) ≠ ((al, ac) : Lb)) := ⟨_, rfl⟩
              have HNB := Lib.hid hnb
              clear hnb
              go_upto_region 18 with fail
              go_cut [85] (fun c wx => c = .bool nb ∧ wx = w5)
              case first =>
                by_cases hl : tl = al
                · subst hl
                  by_cases hc : tc = ac
                  · subst hc
                    have hnb : nb = false := by rw [HNB.out]; simp
                    subst hnb
                    go_wp2_with fail
                    go_meet
                    case rel => exact ⟨rfl, rfl⟩
                  · have hne : ((tc : Int) == (ac : Int)) = false := beq_eq_false_iff_ne.2 (by omega)
                    have hnb : nb = true := by rw [HNB.out]; simp [hc]
                    subst hnb
                    clear hc
                    go_wp2_with fail
                    go_meet
                    case rel => exact ⟨rfl, rfl⟩
                · have hne : (tl == al) = false := beq_eq_false_iff_ne.2 hl
                  have hnb : nb = true := by rw [HNB.out]; simp [hl]
                  subst hnb
                  clear hl
                  go_wp2_with fail
                  go_meet
                  case rel => exact ⟨rfl, rfl⟩
              case rest =>
              obtain ⟨rfl, hwe⟩ := hcut
              subst wc
              go_upto_if 85 with fail
              go_cut [7, 8] (fun ov v wx => ∃ (o2 : ByteArray) (os2 : List Lb), ov = .string o2 ∧ wx.ownsRow w1.heap.size 40 2 v os2.length (labCells os2.reverse) ∧ Hid (Below w1.heap.size w1 wx) ∧ Hid (o2.data.toList ++ J (putLines x ++ outOf (os2 ++ [(f0, f1)]) (l.drop (k + 1))) = T0) ∧ Hid (Stk (f0, f1) (os2 ++ [(f0, f1)])) ∧ Hid (∀ y ∈ os2, y.2 < 18446744073709551616))
              case first =>
                cases nb with
                | false =>
                  have ht : (tl, tc) = ((al, ac) : Lb) := by have := HNB.out; simpa using this
                  have HTN := Lib.hid (show o.data.toList ++ J (putLines x ++ outOf (os ++ [(f0, f1)]) (l.drop (k + 1))) = T0 by
                    have h := HTQ.out
                    rw [out_same HPT.out (by rw [HLBX.out, ← ht]; exact HHD.out)] at h
                    exact h)
                  clear ht
                  go_wp2_with fail
                  go_meet
                  case rel => exact ⟨o, os, rfl, by rw [← HQ.out]; exact HOC5.out, HB51, HTN, HST, HCS⟩
                | true =>
                  have HNQ : Hid (¬ (os ++ [(f0, f1)]).head? = some (al, ac)) := Lib.hid fun e => by
                    have h := HHD.out
                    rw [e] at h
                    injection h with h
                    have h2 := HNB.out
                    rw [← h] at h2
                    simp at h2
                  have HTN := Lib.hid (show (((o.data.toList ++ kBegin) ++ L.print al ac) ++ [10]) ++ J (putLines x ++ outOf (((al, ac) :: os) ++ [(f0, f1)]) (l.drop (k + 1))) = T0 by
                    have h := HTQ.out
                    rw [out_new HPT.out (by rw [HLBX.out]; exact HNQ.out), J_cons, HLBX.out, ← HAL.out, ← HAC.out] at h
                    simpa [List.append_assoc] using h)
                  have HSTN : Hid (Stk (f0, f1) (((al, ac) :: os) ++ [(f0, f1)])) := Lib.hid (by
                    rw [List.cons_append]
                    have hh := opened_stk (fl := (f0, f1)) (a := (al, ac)) HBEL.out HST.out
                    have hPT := HPT.out
                    rw [HLBX.out] at hPT
                    unfold opened at hh
                    rw [hPT, if_neg HNQ.out] at hh
                    exact hh)
                  have HCSN : Hid (∀ y ∈ ((al, ac) :: os : List Lb), y.2 < 18446744073709551616) := Lib.hid fun y hy => by
                    rcases List.mem_cons.1 hy with rfl | hy
                    · exact HCT.out
                    · exact HCS.out y hy
                  have hol : o.data.toList.length ≤ 2000000 := pre_len HTQ.out hTl
                  have hpl := L.print_len al ac
                  obtain ⟨z1, hz1', hzd1⟩ := cat_is (a := o) (b := ⟨#[64, 64, 32, 98, 101, 103, 105, 110, 32]⟩) (by omega) (by decide)
                  have hz1l : z1.data.toList.length ≤ 2000009 := by rw [hzd1, List.length_append]; show _ + 9 ≤ _; omega
                  obtain ⟨z2, hz2', hzd2⟩ := cat_is (a := z1) (b := ⟨(L.print al ac).toArray⟩) (by omega) (by rw [list_data]; omega)
                  have hz2l : z2.data.toList.length ≤ 2001009 := by
                    have e := congrArg List.length hzd2
                    rw [List.length_append] at e
                    have e2 : (⟨(L.print al ac).toArray⟩ : ByteArray).data.toList.length = (L.print al ac).length := by rw [list_data]
                    omega
                  obtain ⟨z3, hz3', hzd3⟩ := cat_is (a := z2) (b := ⟨#[10]⟩) (by omega) (by decide)
                  have HZD := Lib.hid (show z3.data.toList = ((o.data.toList ++ kBegin) ++ L.print al ac) ++ [10] by rw [hzd3, hzd2, hzd1]; rfl)
                  have HPR : Hid (RPr al ac ⟨(L.print al ac).toArray⟩) := Lib.hid fun W => L.refPrint_any al ac W
                  have HOA := Lib.hid (World.ownsRow.alloc HOC5.out (.cells #[.int .i64 al, .int .u64 (ac : Int)] 40))
                  have HNW := Lib.hid (World.news_of_block (w := w5.alloc (.cells #[.int .i64 al, .int .u64 (ac : Int)] 40)) (heap_alloc_new w5 _))
                  generalize hprt : (⟨(L.print al ac).toArray⟩ : ByteArray) = prt at *
                  clear hzd1 hzd2 hzd3 hprt hz1l hz2l hpl
                  generalize hv8 : Value.slice vA q vcap = v8 at *
                  clear hv8
                  go_wp2_with (at_builtin; refine wpList_append_own _ rfl (.tmp 86) (.tmp 88) 83 rfl w1.heap.size 40 i0 _ 2 16 Tryd.underlying83 hi0 hz0 hz1 hz2 rfl (by decide) _ q (labCells os.reverse) rfl HOA.out ⟨w5.heap.size, 0, none⟩ 1 1 [.int .i64 al, .int .u64 (ac : Int)] rfl rfl HNW.out ?e2 ?e3 ?e4 ?e5 ?_)
                  case e2 => first | exact ⟨rfl, rfl⟩ | exact one_label 0 _ _
                  try (case e3 => simp only [maxLen]; omega)
                  try (case e4 => omega)
                  try (case e5 => first | omega | (simp; omega))
                  intro v' w6 hown6 hg6 _
                  have hgW : w5.grownBy w6 v8.ownBlock := ⟨hg6.os, hg6.tape, hg6.output, Nat.le_trans (by simp) hg6.size, fun k hk hne => (hg6.block k (by simp; omega) hne).trans (Below.heap_alloc w5 _ k hk)⟩
                  have HB6 := Lib.hid (HB51.out.grown hgW hs5 (own_base HOC5.out))
                  have HXA6 := Lib.hid ((hgW.block xa (L.blk_lt HXA.out) (fun e => HNX.out xa e.symm rfl)).trans HXA.out)
                  have hl1 : ((al, ac) :: os : List Lb).length = q + 1 := by rw [List.length_cons, ← HQ.out]
                  have ec : labCells os.reverse ++ [.int .i64 al, .int .u64 (ac : Int)] = labCells ((al, ac) :: os : List Lb).reverse := by rw [List.reverse_cons, labCells_snoc]
                  rw [ec, ← hl1] at hown6
                  have HO6 := Lib.hid hown6
                  obtain ⟨b0, b1⟩ := O.lab_cells HXA6.out
                  clear hg6 hgW hown6 ec hl1 y0 y1 v0 v1
                  go_wp2_with fail
                  with_reducible refine (HPR.out.call _).mono ?_
                  rintro e w7 ⟨rfl, hb7⟩
                  have HO7 := Lib.hid (own_below HO6.out hb7)
                  have HB7 := Lib.hid (HB6.out.trans (hb7.mono HB6.out.size))
                  clear hb7 HPR HO6 HB6 b0 b1
                  go_wp2_with fail
                  go_meet
                  case rel => exact ⟨z3, (al, ac) :: os, rfl, HO7.out, HB7, Lib.hid (by rw [HZD.out]; exact HTN.out), HSTN, HCSN⟩
              case rest =>
                obtain ⟨o2, os2, rfl, hown8, HB8, HT8, HST8, HCS8⟩ := hcut
                have HO8 := Lib.hid hown8
                obtain ⟨vA8, vcap8, rfl, -, -⟩ := own_form hown8
                clear hown8 HB51 HB5 HOC5 HXA HXT HPT HTQ HST HCS HNX HNB HHD HPB
                generalize wc = w8 at *
                obtain ⟨c0, c1, c2, c3, c4, c5⟩ := items_cells HII.out HB8.out hbk hlt
                rw [← HHX.out] at c3 c4 c5
                clear c0 c1 c2
                obtain ⟨s, hs⟩ : ∃ s : ByteArray, s = ⟨x.tx.toArray⟩ := ⟨_, rfl⟩
                rw [← hs] at c4
                have HSD := Lib.hid (show s.data.toList = x.tx by rw [hs, list_data])
                have HBG := Lib.hid (show RBgC s (decide (kSign <+: x.tx)) from fun W => by rw [hs]; exact begins_any x.tx W (HOK.out.tx x (by rw [HHX.out]; exact List.getElem_mem hlt)))
                have hsl : s.data.toList.length ≤ 200 := by rw [HSD.out]; exact HZX.out.2.1
                have hfm := HZX.out.2.2
                have HPUT : Hid (putLines x = if x.an then [kAnchor] else esc x.tx :: (if x.ba then [kBare] else [])) := Lib.hid rfl
                have HESC : Hid (esc x.tx = if kSign <+: x.tx then 64 :: x.tx else x.tx) := Lib.hid rfl
                have hol2 : o2.data.toList.length ≤ 2000000 := pre_len HT8.out hTl
                have HNEXT := Lib.hid (fun (z : List UInt8) (h : z = o2.data.toList ++ J (putLines x)) => show z ++ J (outOf (os2 ++ [(f0, f1)]) (l.drop (k + 1))) = T0 by
                  rw [h, List.append_assoc, ← J_append]; exact HT8.out)
                unfold formOk at hfm
                clear hs
                cases han : x.an with
                | true =>
                  have hba : x.ba = false := by rw [han] at hfm; cases hb : x.ba with
                    | false => rfl
                    | true => rw [hb] at hfm; simp at hfm
                  rw [han] at c3
                  rw [hba] at c5
                  obtain ⟨z1, hz1', hzd1⟩ := cat_is (a := o2) (b := ⟨#[64, 64, 32, 97, 110, 99, 104, 111, 114]⟩) (by omega) (by decide)
                  have hz1l : z1.data.toList.length ≤ 2000009 := by rw [hzd1, List.length_append]; show _ + 9 ≤ _; omega
                  obtain ⟨z2, hz2', hzd2⟩ := cat_is (a := z1) (b := ⟨#[10]⟩) (by omega) (by decide)
                  have HFIN := Lib.hid (HNEXT.out z2.data.toList (by rw [HPUT.out, han, if_pos rfl, J_cons, J_nil, List.append_nil, hzd2, hzd1, List.append_assoc]; rfl))
                  clear hzd1 hzd2 hz1l hfm HNEXT HPUT HESC HBG
                  go_wp2_with fail
                  go_roundg (l.length - (k + 1))
                  case rel => exact ⟨k + 1, z2, os2, by omega, by go_num, Nat.le_refl _, rfl, HO8.out, HB8, HFIN, HST8, HCS8⟩
                  case measure => omega
                | false =>
                  rw [han] at c3
                  cases hbg : decide (kSign <+: x.tx) with
                  | true =>
                    rw [hbg] at HBG
                    obtain ⟨z0, hz0', hzd0⟩ := cat_is (a := ⟨#[64]⟩) (b := s) (by decide) (by omega)
                    have hz0l : z0.data.toList.length ≤ 201 := by rw [hzd0, List.length_append]; show 1 + _ ≤ _; omega
                    obtain ⟨z1, hz1', hzd1⟩ := cat_is (a := o2) (b := z0) (by omega) (by omega)
                    have hz1l : z1.data.toList.length ≤ 2000201 := by rw [hzd1, List.length_append]; omega
                    obtain ⟨z2, hz2', hzd2⟩ := cat_is (a := z1) (b := ⟨#[10]⟩) (by omega) (by decide)
                    have hz2l : z2.data.toList.length ≤ 2000202 := by rw [hzd2, List.length_append]; show _ + 1 ≤ _; omega
                    have he : esc x.tx = 64 :: x.tx := by rw [HESC.out, if_pos (of_decide_eq_true hbg)]
                    cases hba : x.ba with
                    | true =>
                      rw [hba] at c5
                      obtain ⟨z3, hz3', hzd3⟩ := cat_is (a := z2) (b := ⟨#[64, 64, 32, 98, 97, 114, 101, 10]⟩) (by omega) (by decide)
                      have HFIN := Lib.hid (HNEXT.out z3.data.toList (by rw [HPUT.out, han, hba, he, if_neg (by simp), if_pos rfl, J_cons, J_cons, J_nil, hzd3, hzd2, hzd1, hzd0, HSD.out]; simp [kBare]))
                      clear hzd0 hzd1 hzd2 hzd3 hz0l hz1l hz2l hfm HNEXT HPUT HESC
                      go_wp2_with fail
                      with_reducible refine (HBG.out.call _).mono ?_
                      rintro e w9 ⟨rfl, rfl⟩
                      go_wp2_with fail
                      go_roundg (l.length - (k + 1))
                      case rel => exact ⟨k + 1, z3, os2, by omega, by go_num, Nat.le_refl _, rfl, HO8.out, HB8, HFIN, HST8, HCS8⟩
                      case measure => omega
                    | false =>
                      rw [hba] at c5
                      have HFIN := Lib.hid (HNEXT.out z2.data.toList (by rw [HPUT.out, han, hba, he, if_neg (by simp), if_neg (by simp), J_cons, J_nil, hzd2, hzd1, hzd0, HSD.out]; simp))
                      clear hzd0 hzd1 hzd2 hz0l hz1l hz2l hfm HNEXT HPUT HESC
                      go_wp2_with fail
                      with_reducible refine (HBG.out.call _).mono ?_
                      rintro e w9 ⟨rfl, rfl⟩
                      go_wp2_with fail
                      go_roundg (l.length - (k + 1))
                      case rel => exact ⟨k + 1, z2, os2, by omega, by go_num, Nat.le_refl _, rfl, HO8.out, HB8, HFIN, HST8, HCS8⟩
                      case measure => omega
                  | false =>
                    rw [hbg] at HBG
                    obtain ⟨z1, hz1', hzd1⟩ := cat_is (a := o2) (b := s) (by omega) (by omega)
                    have hz1l : z1.data.toList.length ≤ 2000200 := by rw [hzd1, List.length_append]; omega
                    obtain ⟨z2, hz2', hzd2⟩ := cat_is (a := z1) (b := ⟨#[10]⟩) (by omega) (by decide)
                    have hz2l : z2.data.toList.length ≤ 2000201 := by rw [hzd2, List.length_append]; show _ + 1 ≤ _; omega
                    have he : esc x.tx = x.tx := by rw [HESC.out, if_neg (of_decide_eq_false hbg)]
                    cases hba : x.ba with
                    | true =>
                      rw [hba] at c5
                      obtain ⟨z3, hz3', hzd3⟩ := cat_is (a := z2) (b := ⟨#[64, 64, 32, 98, 97, 114, 101, 10]⟩) (by omega) (by decide)
                      have HFIN := Lib.hid (HNEXT.out z3.data.toList (by rw [HPUT.out, han, hba, he, if_neg (by simp), if_pos rfl, J_cons, J_cons, J_nil, hzd3, hzd2, hzd1, HSD.out]; simp [kBare]))
                      clear hzd1 hzd2 hzd3 hz1l hz2l hfm HNEXT HPUT HESC
                      go_wp2_with fail
                      with_reducible refine (HBG.out.call _).mono ?_
                      rintro e w9 ⟨rfl, rfl⟩
                      go_wp2_with fail
                      go_roundg (l.length - (k + 1))
                      case rel => exact ⟨k + 1, z3, os2, by omega, by go_num, Nat.le_refl _, rfl, HO8.out, HB8, HFIN, HST8, HCS8⟩
                      case measure => omega
                    | false =>
                      rw [hba] at c5
                      have HFIN := Lib.hid (HNEXT.out z2.data.toList (by rw [HPUT.out, han, hba, he, if_neg (by simp), if_neg (by simp), J_cons, J_nil, hzd2, hzd1, HSD.out]; simp))
                      clear hzd1 hzd2 hz1l hz2l hfm HNEXT HPUT HESC
                      go_wp2_with fail
                      with_reducible refine (HBG.out.call _).mono ?_
                      rintro e w9 ⟨rfl, rfl⟩
                      go_wp2_with fail
                      go_roundg (l.length - (k + 1))
                      case rel => exact ⟨k + 1, z2, os2, by omega, by go_num, Nat.le_refl _, rfl, HO8.out, HB8, HFIN, HST8, HCS8⟩
                      case measure => omega
    · obtain rfl : k = l.length := by omega
      have HTE : Hid (o.data.toList ++ J (List.replicate os.length kEnd) = T0) := Lib.hid (by have h := HTQ.out; rwa [List.drop_length, out_end] at h)
      have HBF := Lib.hid (HBW1.out.trans (HBR.out.mono HBW1.out.size))
      clear HTQ HST HCS HOW hm hk
      generalize wr = w9 at *
      obtain ⟨n9, hn9⟩ : ∃ n, n = os.length := ⟨_, rfl⟩
      rw [← hn9] at HTE hos16 ⊢
      clear hn9
      go_wp2_with fail
      go_loopg [7, 13] n9 (fun m ov i wr => ∃ (j : Nat) (o : ByteArray), j ≤ n9 ∧ ov = .string o ∧ i = .int .i64 j ∧ n9 - j ≤ m ∧ Hid (o.data.toList ++ J (List.replicate (n9 - j) kEnd) = T0) ∧ wr = w9)
      case atStart => exact ⟨0, o, Nat.zero_le _, rfl, rfl, by omega, HTE, rfl⟩
      case round =>
        clear HTE
        obtain ⟨j, o, hj, rfl, rfl, hm, HTE, hwe⟩ := hrel
        subst wr
        by_cases hlt : j < n9
        · have hji : (j : Int) < (n9 : Int) := by omega
          obtain ⟨z, hz, hzd⟩ := cat_is (a := o) (b := ⟨#[64, 64, 32, 101, 110, 100, 10]⟩) (by have := pre_len HTE.out hTl; omega) (by decide)
          have HTN := Lib.hid (show z.data.toList ++ J (List.replicate (n9 - (j + 1)) kEnd) = T0 by
            have h := HTE.out
            rw [show n9 - j = (n9 - (j + 1)) + 1 by omega, List.replicate_succ, J_cons] at h
            rw [hzd]
            simpa [List.append_assoc, kEnd] using h)
          clear hzd HTE
          go_wp2_with fail
          go_roundg (n9 - (j + 1))
          case rel => exact ⟨j + 1, z, by omega, rfl, by go_num, Nat.le_refl _, HTN, rfl⟩
          case measure => omega
        · obtain rfl : j = n9 := by omega
          have HOT := Lib.hid (show o.data.toList = T0 by have h := HTE.out; rwa [Nat.sub_self, List.replicate_zero, J_nil, List.append_nil] at h)
          have hosz : o.size = T0.length := by rw [Lib.size_eq, HOT.out]
          by_cases hlong : 32768 < T0.length
          · have HE := Lib.hid (show res = .inr 4 by rw [HRE2.out, if_pos hlong])
            have hli : (32768 : Int) < (o.size : Int) := by omega
            clear hosz HTE
            go_wp2_with fail
            go_ret2
            exact rp_err HE.out HBF.out
          · have HE := Lib.hid (show res = .inl T0 by rw [HRE2.out, if_neg hlong])
            have hli : ¬ (32768 : Int) < (o.size : Int) := by omega
            obtain ⟨cap1, wz, hcv, hbz, hltz, hcz, hinz⟩ := conv_str o w9
            have HBZ := Lib.hid (HBF.out.trans (hbz.mono HBF.out.size))
            have HSZ := Lib.hid hosz
            have HIN := Lib.hid hinz
            clear hosz hbz hinz HTE
            go_wp2_with fail
            go_ret2
            refine ⟨HBZ.out, some ⟨w9.heap.size, 0, none⟩, cap1, ?_, ?_⟩
            · rw [HE.out]
              show _ = Ending.returned (.tuple #[.slice _ T0.length cap1, .int .i64 0])
              rw [← HSZ.out]
              rfl
            · rw [HE.out]
              exact fun _ => ⟨_, 0, rfl, hltz, by show BytesAt _ _ _ T0; rw [← HOT.out]; exact HIN.out⟩
end Go.Proofs.YtadhhamfikpimaaDoor.I
