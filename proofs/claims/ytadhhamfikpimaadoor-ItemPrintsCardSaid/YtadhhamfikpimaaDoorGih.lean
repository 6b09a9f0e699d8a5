/-
  The contract of the writer's enter.
-/
import Derived.Test.YtadhhamfikpimaaDoorGig
import Derived.Test.YtadhhamfikpimaaDoorGb
import Derived.Deep.DeepCutAuto
namespace Go.Proofs.YtadhhamfikpimaaDoor.I
set_option linter.unusedVariables false
set_option linter.unusedSimpArgs false
open Go.RowKit
open T
open O (own_ne grown_of grown_set ne_type)
attribute [local go_sem ↓] Go.wp_at_zero Go.wp_at_succ
variable {w w' : World} {z : Zone} {wb g cap : Nat} {op : List Lb} {out : List (List UInt8)} {lv : Value}

theorem wm_open (h : Wm w z wb op out g cap lv) : w.cell? ⟨wb, 0, none⟩ = some (.slice (some ⟨g, 0, none⟩) op.length cap) := L.blk_cell h.blk 0
theorem wm_open_at {m : Nat} (hm : m = op.length) (h : Wm w z wb op out g cap lv) : w.cell? ⟨wb, 0, none⟩ = some (.slice (some ⟨g, 0, none⟩) m cap) := by subst hm; exact wm_open h
theorem Wm.topC {a : Lb} {r : List Lb} (h : Wm w z wb (a :: r) out g cap lv) : TopC w g (a :: r).length cap a := fun W hb => top_any W (h.below hb).stk
def LvC (z : Zone) (wb : Nat) (op : List Lb) (out : List (List UInt8)) (w : World) : Prop := Calls Tryd.prog 53 #[.pointer (some ⟨wb, 0, none⟩)] w (WTook w z wb op.tail (out ++ [kEnd]))
theorem LvC.call (h : LvC z wb op out w) : Calls Tryd.prog 53 #[.pointer (some ⟨wb, 0, none⟩)] w (WTook w z wb op.tail (out ++ [kEnd])) := h
theorem leave_c (h : Wm w z wb op out g cap lv) (h2 : 2 ≤ op.length) (hn : out.length ≤ 4194304) (hm : op.length ≤ 4194304) : LvC z wb op out w := leave_any h h2 hn hm
def PrS (l : Int) (c : Nat) (x : ByteArray) : Prop := ∀ W : World, Tab W → Calls Tryd.prog 74 #[.agg #[.int .i64 l, .int .u64 (c : Int)]] W fun e w' => e = .returned (.string x) ∧ Below W.heap.size W w'
theorem PrS.call {l : Int} {c : Nat} {x : ByteArray} (h : PrS l c x) (W : World) (ht : Tab W) : Calls Tryd.prog 74 #[.agg #[.int .i64 l, .int .u64 (c : Int)]] W fun e w' => e = .returned (.string x) ∧ Below W.heap.size W w' := h W ht
theorem PrS_is (l : Int) (c : Nat) (hl : -9223372036854775808 ≤ l ∧ l ≤ 9223372036854775807) (hc : c < 18446744073709551616) : PrS l c ⟨(L.print l c).toArray⟩ := fun W ht => L.print_any l c W hl.1 hl.2 hc ht
theorem run_add_begin (l : Int) (c : Nat) : ∀ w : World, (Op.stringOp .add ⟨#[64, 64, 32, 98, 101, 103, 105, 110, 32]⟩ ⟨(L.print l c).toArray⟩).run Tryd.prog w = .ok (.string ⟨(kBegin ++ L.print l c).toArray⟩) w := fun w => run_string_add_lists w kBegin (L.print l c) (by simp [kBegin]) (by have := L.print_len l c; omega)
theorem pushOpen {W w3 : World} {o : Obj} {m g3 cap3 : Nat} {a : Lb} (HR : Wm W z wb op out g cap lv) (hm : m = op.length)
    (hg : (W.alloc o).drew.grownBy w3 (some g)) (hrow : Row w3 z.lo 2 g3 (m + 1) cap3 (labCells op.reverse ++ [.int .i64 a.1, .int .u64 (a.2 : Int)])) (hat : g3 = g ∨ g3 = W.heap.size + 1) :
    WTook W z wb (a :: op) out (.returned (.tuple #[])) (w3.setCell ⟨wb, 0, none⟩ (.slice (some ⟨g3, 0, none⟩) (m + 1) cap3)) := by
  subst hm
  have hgW : W.grownBy w3 (some g) := ⟨hg.os, hg.tape, hg.output, Nat.le_trans (by simp) hg.size, fun k hk hne => (hg.block k (by simp; omega) hne).trans (Below.heap_alloc W o k hk)⟩
  have hrb : some wb ≠ some g := fun e => HR.gne (by injection e with e; exact e.symm)
  have blk3 := (hgW.block wb HR.lt hrb).trans HR.blk
  have ln3 := HR.ln.kept hgW (.inr HR.gnl)
  have hset := grown_set w3 ⟨wb, 0, none⟩ (.slice (some ⟨g3, 0, none⟩) (op.length + 1) cap3)
  have hg3 : g3 ≠ wb := by
    rcases hat with e | e
    · rw [e]; exact HR.gne
    · have := HR.lt; omega
  refine ⟨rfl, ⟨g3, cap3, lv, HR.hb, by have := HR.hz; have := hgW.size; simp; omega, ?_, ⟨by simp, ?_⟩, ?_, hg3, ?_, HR.lz, ?_⟩, ?_⟩
  · have := L.blk_set blk3 0 (.slice (some ⟨g3, 0, none⟩) (op.length + 1) cap3)
    exact this
  · rw [List.reverse_cons, labCells_snoc]
    exact hrow.grown hset (by simpa using hg3)
  · rcases hat with e | e
    · rw [e]; exact HR.gz
    · have := HR.hz; have := HR.size; exact ⟨by omega, by omega⟩
  · intro e
    rcases hat with e' | e'
    · exact HR.gnl (by rw [e, e'])
    · have := own_lt HR.ln _ e; omega
  · exact ln3.kept hset (own_ne ln3 (fun cs => ne_type (by decide) blk3))
  · exact (((Kp.refl z W).grown hgW HR.size HR.hz (fun k hk => by injection hk with hk; rw [← hk]; exact HR.gz)).setCell (p := ⟨wb, 0, none⟩) HR.hb _)
theorem popTo_stop {a t : Lb} {r : List Lb} (h : L.belowB t.1 t.2 a.1 a.2 = true) (h2 : r.length = 16 → t = a) : popTo a (t :: r) = t :: r := by
  rw [popTo, if_pos ⟨h, fun hc => hc.2 (h2 hc.1)⟩]
theorem popTo_on {a t : Lb} {r : List Lb} (h : L.belowB t.1 t.2 a.1 a.2 = false ∨ (r.length = 16 ∧ t ≠ a)) : popTo a (t :: r) = popTo a r := by
  rw [popTo, if_neg]
  rintro ⟨h1, h3⟩
  rcases h with h | h
  · rw [h] at h1; cases h1
  · exact h3 h
theorem popTo_here {a t : Lb} {r op : List Lb} (h : popTo a (t :: r) = popTo a op) (h2 : popTo a (t :: r) = t :: r) : popTo a op = t :: r := h.symm.trans h2
/-- A step more off the stack: it is not the floor's. -/
theorem pop_next {fl a t : Lb} {r op : List Lb} (hs : Stk fl (t :: r)) (hb : L.belowB fl.1 fl.2 a.1 a.2 = true) (hp : popTo a (t :: r) = popTo a op) (h : L.belowB t.1 t.2 a.1 a.2 = false ∨ (r.length = 16 ∧ t ≠ a)) : Stk fl r ∧ popTo a r = popTo a op := by
  have hr : r ≠ [] := by
    rintro rfl
    have := hs.last
    simp at this
    subst this
    rcases h with h | h
    · rw [hb] at h; cases h
    · simp at h
  exact ⟨hs.tail hr, by rw [← hp, popTo_on h]⟩
theorem ends_of {a t : Lb} {r op : List Lb} {j : Nat} (hp : popTo a op = t :: r) (hj : j + (t :: r).length = op.length) : ends op a = List.replicate j kEnd := by
  unfold ends
  rw [hp]; congr 1; omega
theorem enter_same {W w5 : World} {lo a0 xb j : Nat} {a t : Lb} {r : List Lb} (hp : popTo a op = t :: r) (he : t = a) (hj : j + (t :: r).length = op.length) (hW : Wm w5 ⟨lo, a0, xb + 1⟩ wb (t :: r) (out ++ List.replicate j kEnd) g cap lv) (hk : Kp ⟨lo, a0, xb + 1⟩ W w5) (hb : Kp ⟨lo, a0, xb⟩ w W) :
    WTook w ⟨lo, a0, xb⟩ wb (opened op a) (out ++ (ends op a ++ opens op a)) (.returned (.tuple #[])) w5 := by
  have e1 : opened op a = t :: r := by unfold opened; rw [hp, if_pos (by rw [he]; rfl)]
  have e2 : opens op a = [] := by unfold opens; rw [hp, if_pos (by rw [he]; rfl)]
  rw [e1, e2, ends_of hp hj, List.append_nil]
  exact ⟨rfl, ⟨_, _, _, hW.less (Nat.le_succ _)⟩, hb.trans (hk.less (Nat.le_refl _) (Nat.le_succ _))⟩
theorem enter_other {W w5 : World} {lo a0 xb j : Nat} {a t : Lb} {r : List Lb} {e : Ending} (hp : popTo a op = t :: r) (he : t ≠ a) (hj : j + (t :: r).length = op.length) (hk : Kp ⟨lo, a0, xb + 1⟩ W w5) (hb : Kp ⟨lo, a0, xb⟩ w W) (h : WTook w5 ⟨lo, a0, xb + 1⟩ wb (a :: t :: r) (out ++ List.replicate j kEnd ++ [kBegin ++ L.print a.1 a.2]) e w') :
    WTook w ⟨lo, a0, xb⟩ wb (opened op a) (out ++ (ends op a ++ opens op a)) e w' := by
  have hn : ¬ (t :: r).head? = some a := fun e => he (by simpa using e)
  have e1 : opened op a = a :: t :: r := by unfold opened; rw [hp, if_neg hn]
  have e2 : opens op a = [kBegin ++ L.print a.1 a.2] := by unfold opens; rw [hp, if_neg hn]
  rw [e1, e2, ends_of hp hj, ← List.append_assoc]
  obtain ⟨h1, ⟨g, cap, lv, h2⟩, h3⟩ := h
  exact ⟨h1, ⟨g, cap, lv, h2.less (Nat.le_succ _)⟩, (hb.trans (hk.less (Nat.le_refl _) (Nat.le_succ _))).trans (h3.less (Nat.le_refl _) (Nat.le_succ _))⟩

set_option maxRecDepth 100000 in
set_option maxHeartbeats 4000000 in
theorem enter_any {lo a0 : Nat} (h : Wm w ⟨lo, a0, w.heap.size⟩ wb op out g cap lv) (ha0 : a0 ≤ w.heap.size) (fl : Lb) (hs : Stk fl op) (al : Int) (ac : Nat) (hb : L.belowB fl.1 fl.2 al ac = true) (hac : ac < 18446744073709551616) (hal : -9223372036854775808 ≤ al ∧ al ≤ 9223372036854775807) (hcts : ∀ y ∈ op, y.2 < 18446744073709551616) (hn : out.length ≤ 3000000) (hT : Tab w) (hgl : 1 < lo) :
    Calls Tryd.prog 50 #[.pointer (some ⟨wb, 0, none⟩), L.lab al ac] w (WTook w ⟨lo, a0, w.heap.size⟩ wb (opened op (al, ac)) (out ++ (ends op (al, ac) ++ opens op (al, ac)))) := by
  have hop := hs.few
  obtain ⟨W, hW⟩ : ∃ W : World, W = w.alloc (.cells #[.int .i64 al, .int .u64 (ac : Int)] 40) := ⟨_, rfl⟩
  have HW0 := Lib.hid (show Wm W ⟨lo, a0, w.heap.size + 1⟩ wb op out g cap lv by rw [hW]; exact h.up _)
  have hbW : Below w.heap.size w W := by rw [hW]; exact alloc1 _ _
  have HX0 := Lib.hid (show W.heap[w.heap.size]? = some (.cells #[.int .i64 al, .int .u64 (ac : Int)] 40 (0, 0)) by rw [hW]; exact heap_alloc_new w _)
  have hlz : Kp ⟨lo, a0, w.heap.size⟩ w W := Kp.of hbW h.size (Nat.le_refl _)
  have HTB := Lib.hid (hT.later hbW)
  have HS := Lib.hid hs
  have HCT0 := Lib.hid hcts
  clear h hs hT hcts hbW
  go_enter Tryd.func50, Tryd.ntmps50
  go_wp2_with fail
  rw [← hW]
  clear hW
  obtain ⟨xb, hxb⟩ : ∃ xb, xb = w.heap.size := ⟨_, rfl⟩
  have hxa : a0 ≤ xb := by omega
  rw [← hxb] at HX0 HW0 hlz ⊢
  have HXB := Lib.hid hxb
  clear hxb
  go_loopg [] op.length (fun m wr => ∃ (gk capk : Nat) (lvk : Value) (ok : List Lb) (j : Nat), ok.length ≤ m ∧ Hid (Wm wr ⟨lo, a0, xb + 1⟩ wb ok (out ++ List.replicate j kEnd) gk capk lvk ∧ wr.heap[xb]? = some (.cells #[.int .i64 al, .int .u64 (ac : Int)] 40 (0, 0)) ∧ Kp ⟨lo, a0, xb + 1⟩ W wr ∧ Stk fl ok ∧ popTo (al, ac) ok = popTo (al, ac) op ∧ j + ok.length = op.length ∧ (∀ y ∈ ok, y.2 < 18446744073709551616)))
  case atStart => exact ⟨g, cap, lv, op, 0, Nat.le_refl _, Lib.hid ⟨by simpa using HW0.out, HX0.out, Kp.refl _ _, HS.out, rfl, by omega, HCT0.out⟩⟩
  case round =>
    obtain ⟨gk, capk, lvk, ok, j, hm, HI⟩ := hrel
    obtain ⟨hW, hX, hK, hS, hP, hJ, hC⟩ := HI.out
    obtain ⟨⟨tl, tc⟩, r, rfl⟩ := List.exists_cons_of_ne_nil hS.ne
    obtain ⟨m0, hm0⟩ : ∃ m0, m0 = ((tl, tc) :: r : List Lb).length := ⟨_, rfl⟩
    have HM0 := Lib.hid hm0
    have HTOP : Hid (TopC wr gk m0 capk (tl, tc)) := Lib.hid (by rw [hm0]; exact hW.topC)
    have hlen : m0 = r.length + 1 := hm0
    clear hm0
    have HDP : Hid (DpC gk m0 capk (r.length : Int)) := Lib.hid fun W => by
      rw [hlen]
      have := depth_any (some ⟨gk, 0, none⟩) (r.length + 1) capk W (by have := hS.few; simp at this; omega)
      rw [show (((r.length + 1 : Nat) : Int) - 1) = (r.length : Int) by omega] at this
      exact this
    have hjl : j ≤ 17 ∧ r.length ≤ 16 := by have := hS.few; simp at this hJ; omega
    have HCT := Lib.hid (hC (tl, tc) (by simp))
    have HCS := Lib.hid hC
    have HJL := Lib.hid hJ
    have HBR := Lib.hid (Below.refl wr.heap.size wr)
    have HW := Lib.hid hW
    have HX := Lib.hid hX
    have HK := Lib.hid hK
    have HST : Hid (Stk fl ((tl, tc) :: r) ∧ popTo (al, ac) ((tl, tc) :: r) = popTo (al, ac) op) := Lib.hid ⟨hS, hP⟩
    clear hW hX hK hC HI
    cases hbl : L.belowB tl tc al ac with
    | false =>
      have hnx := pop_next (a := (al, ac)) hS hb hP (.inl hbl)
      have HBL := Lib.hid hbl
      clear hS hP hbl hlen hJ
      go_wp2_with fail
      refine wp_region_held_drew (S := (Keeps wr)) (by kernel_rfl) (keeps_drew _) (fun hH0 => ?_)
      refine wpAnyH_take (i := 0) (oi := { dst := some 4, op := Go.Op.move (Go.Operand.tmp 0), type := 115, pos := "item.go:222", after := #[], guard := none }) (v := ?_) rfl (by kernel_rfl) (by kernel_rfl) (by kernel_rfl) (fun _ _ _ h => h) (Or.inl ⟨by rfl, ?_⟩) hH0 ?_
      rotate_left
      · (intro wz hSz; (try dsimp only at hSz); go_simp; try with_reducible rfl)
      simp only [Act.put, List.setIfInBounds_toArray, List.set_cons_zero, List.set_cons_succ]
      refine wpAnyH_take (i := 1) (oi := { dst := some 5, op := Go.Op.nilCheck (Go.Operand.tmp 4), type := 0, pos := "item.go:222", after := #[{ on := 0, ground := Go.Ground.data }], guard := none }) (v := ?_) rfl (by kernel_rfl) (by kernel_rfl) (by kernel_rfl) (fun _ _ _ h => h) (Or.inl ⟨by rfl, ?_⟩) hH0 ?_
      rotate_left
      · (intro wz hSz; (try dsimp only at hSz); go_simp; try with_reducible rfl)
      simp only [Act.put, List.setIfInBounds_toArray, List.set_cons_zero, List.set_cons_succ]
      refine wpAnyH_take (i := 2) (oi := { dst := some 6, op := Go.Op.fieldAddr 86 (Go.Operand.tmp 5) 0, type := 0, pos := "item.go:222", after := #[{ on := 1, ground := Go.Ground.data }], guard := none }) (v := ?_) rfl (by kernel_rfl) (by kernel_rfl) (by kernel_rfl) (fun _ _ _ h => h) (Or.inl ⟨by rfl, ?_⟩) hH0 ?_
      rotate_left
      · (intro wz hSz; (try dsimp only at hSz); go_simp; try with_reducible rfl)
      simp only [Act.put, List.setIfInBounds_toArray, List.set_cons_zero, List.set_cons_succ]
      refine wpAnyH_take (i := 3) (oi := { dst := some 7, op := Go.Op.load 84 (Go.Operand.tmp 6), type := 84, pos := "item.go:222", after := #[{ on := 2, ground := Go.Ground.data }], guard := none }) (v := ?_) rfl (by kernel_rfl) (by kernel_rfl) (by kernel_rfl) (fun _ _ _ h => h) (Or.inl ⟨by rfl, ?_⟩) hH0 ?_
      rotate_left
      · (intro wz hSz; have hcz := wm_open_at HM0.out (HW.out.below hSz); go_simp; try with_reducible rfl)
      simp only [Act.put, List.setIfInBounds_toArray, List.set_cons_zero, List.set_cons_succ]
      refine wpAnyH_take (i := 5) (oi := { dst := some 9, op := Go.Op.load 40 (Go.Operand.tmp 3), type := 40, pos := "item.go:222", after := #[], guard := none }) (v := ?_) rfl (by kernel_rfl) (by kernel_rfl) (by kernel_rfl) (fun _ _ _ h => h) (Or.inl ⟨by rfl, ?_⟩) hH0 ?_
      rotate_left
      · (intro wz hSz; have hcz := True.intro; obtain ⟨b0, b1⟩ := O.lab_cells ((Below.block hSz _ (L.blk_lt HX.out)).trans HX.out); go_simp; try with_reducible rfl)
      simp only [Act.put, List.setIfInBounds_toArray, List.set_cons_zero, List.set_cons_succ]
      refine wpAnyH_ready (rs := [4]) (by kernel_rfl) (by simp) ?_
      refine AllReadyH.cons (o := { dst := some 8, op := Go.Op.call { callee := Go.Callee.value (Go.Operand.func 82), args := #[Go.Operand.tmp 7], argTypes := #[84] }, type := 40, pos := "item.go:222", after := #[{ on := 3, ground := Go.Ground.data }], guard := none }) rfl (fun K hK => ?_) AllReadyH.nil
      go_simp
      with_reducible refine (HTOP.out.call (HBR.out.trans (Below.mono hH0.b HBR.out.size))).mono ?_
      rintro r wq1 ⟨rfl, hbq⟩
      go_wp2_with fail
      refine hK.out _ _ (Keeps.trans hH0 hbq) (fun hJ => ?_)
      refine wpAnyH_more (S' := Keeps wq1) (fun z hz => Keeps.trans hJ hz) _ _ _ _ ?_
      replace HBR := Lib.hid (HBR.out.trans (Below.mono hJ HBR.out.size))
      replace HX := Lib.hid ((Below.block hJ _ (L.blk_lt HX.out)).trans HX.out)
      replace HK := Lib.hid (HK.out.trans (HW.out.kp hJ))
      replace HW := Lib.hid (HW.out.below hJ)
      have hH1 : Keeps wq1 wq1 := Below.refl _ _
      clear hK K hbq hH0 hJ
      refine wpAnyH_ready (rs := [6]) (by kernel_rfl) (by simp) ?_
      refine AllReadyH.cons (o := { dst := some 10, op := Go.Op.call { callee := Go.Callee.value (Go.Operand.func 20), args := #[Go.Operand.tmp 8, Go.Operand.tmp 9], argTypes := #[40, 40] }, type := 4, pos := "item.go:222", after := #[{ on := 4, ground := Go.Ground.data }, { on := 5, ground := Go.Ground.data }, { on := 4, ground := Go.Ground.chain }], guard := none }) rfl (fun K hK => ?_) AllReadyH.nil
      go_simp
      with_reducible refine ((below_c HBL.out hac HCT.out).call _).mono ?_
      rintro r wq2 ⟨rfl, hbq⟩
      go_wp2_with fail
      refine hK.out _ _ (Keeps.trans hH1 hbq) (fun hJ => ?_)
      refine wpAnyH_more (S' := Keeps wq2) (fun z hz => Keeps.trans hJ hz) _ _ _ _ ?_
      replace HBR := Lib.hid (HBR.out.trans (Below.mono hJ HBR.out.size))
      replace HX := Lib.hid ((Below.block hJ _ (L.blk_lt HX.out)).trans HX.out)
      replace HK := Lib.hid (HK.out.trans (HW.out.kp hJ))
      replace HW := Lib.hid (HW.out.below hJ)
      have hH2 : Keeps wq2 wq2 := Below.refl _ _
      clear hK K hbq hH1 hJ
      refine wpAnyH_take (i := 7) (oi := { dst := some 11, op := Go.Op.unOp Go.UnOp.not 4 (Go.Operand.tmp 10), type := 4, pos := "item.go:222", after := #[{ on := 6, ground := Go.Ground.data }], guard := none }) (v := ?_) rfl (by kernel_rfl) (by kernel_rfl) (by kernel_rfl) (fun _ _ _ h => h) (Or.inl ⟨by rfl, ?_⟩) hH2 ?_
      rotate_left
      · (intro wz hSz; (try dsimp only at hSz); go_simp; try with_reducible rfl)
      simp only [Act.put, List.setIfInBounds_toArray, List.set_cons_zero, List.set_cons_succ]
      refine wpAnyH_take (i := 8) (oi := { dst := some 12, op := Go.Op.move (Go.Operand.tmp 11), type := 4, pos := "item.go:222", after := #[{ on := 7, ground := Go.Ground.data }, { on := 6, ground := Go.Ground.chain }], guard := none }) (v := ?_) rfl (by kernel_rfl) (by kernel_rfl) (by kernel_rfl) (fun _ _ _ h => h) (Or.inl ⟨by rfl, ?_⟩) hH2 ?_
      rotate_left
      · (intro wz hSz; (try dsimp only at hSz); go_simp; try with_reducible rfl)
      simp only [Act.put, List.setIfInBounds_toArray, List.set_cons_zero, List.set_cons_succ]
      refine wpAnyH_take (i := 9) (oi := { dst := some 13, op := Go.Op.move (Go.Operand.tmp 0), type := 115, pos := "item.go:222", after := #[{ on := 8, ground := Go.Ground.guard }], guard := some (8, false) }) (v := undef) rfl (by kernel_rfl) (by kernel_rfl) (by kernel_rfl) (fun _ _ _ h => h) (Or.inr ⟨by rfl, rfl⟩) hH2 ?_
      simp only [Act.put, List.setIfInBounds_toArray, List.set_cons_zero, List.set_cons_succ]
      refine wpAnyH_take (i := 10) (oi := { dst := some 14, op := Go.Op.nilCheck (Go.Operand.tmp 13), type := 0, pos := "item.go:222", after := #[{ on := 9, ground := Go.Ground.data }, { on := 8, ground := Go.Ground.guard }], guard := some (8, false) }) (v := undef) rfl (by kernel_rfl) (by kernel_rfl) (by kernel_rfl) (fun _ _ _ h => h) (Or.inr ⟨by rfl, rfl⟩) hH2 ?_
      simp only [Act.put, List.setIfInBounds_toArray, List.set_cons_zero, List.set_cons_succ]
      refine wpAnyH_take (i := 11) (oi := { dst := some 15, op := Go.Op.fieldAddr 86 (Go.Operand.tmp 14) 0, type := 0, pos := "item.go:222", after := #[{ on := 10, ground := Go.Ground.data }, { on := 8, ground := Go.Ground.guard }], guard := some (8, false) }) (v := undef) rfl (by kernel_rfl) (by kernel_rfl) (by kernel_rfl) (fun _ _ _ h => h) (Or.inr ⟨by rfl, rfl⟩) hH2 ?_
      simp only [Act.put, List.setIfInBounds_toArray, List.set_cons_zero, List.set_cons_succ]
      refine wpAnyH_take (i := 12) (oi := { dst := some 16, op := Go.Op.load 84 (Go.Operand.tmp 15), type := 84, pos := "item.go:222", after := #[{ on := 11, ground := Go.Ground.data }, { on := 8, ground := Go.Ground.guard }], guard := some (8, false) }) (v := undef) rfl (by kernel_rfl) (by kernel_rfl) (by kernel_rfl) (fun _ _ _ h => h) (Or.inr ⟨by rfl, rfl⟩) hH2 ?_
      simp only [Act.put, List.setIfInBounds_toArray, List.set_cons_zero, List.set_cons_succ]
      refine wpAnyH_take (i := 13) (oi := { dst := some 17, op := Go.Op.call { callee := Go.Callee.value (Go.Operand.func 52), args := #[Go.Operand.tmp 16], argTypes := #[84] }, type := 3, pos := "item.go:222", after := #[{ on := 12, ground := Go.Ground.data }, { on := 8, ground := Go.Ground.chain }, { on := 8, ground := Go.Ground.guard }], guard := some (8, false) }) (v := undef) rfl (by kernel_rfl) (by kernel_rfl) (by kernel_rfl) (fun _ _ _ h => h) (Or.inr ⟨by rfl, rfl⟩) hH2 ?_
      simp only [Act.put, List.setIfInBounds_toArray, List.set_cons_zero, List.set_cons_succ]
      refine wpAnyH_take (i := 14) (oi := { dst := some 18, op := Go.Op.binOp Go.BinOp.eql 3 (Go.Operand.tmp 17) (Go.Operand.const (Go.Value.int Go.IntKind.i64 16)) 3, type := 4, pos := "item.go:222", after := #[{ on := 13, ground := Go.Ground.data }, { on := 8, ground := Go.Ground.guard }], guard := some (8, false) }) (v := undef) rfl (by kernel_rfl) (by kernel_rfl) (by kernel_rfl) (fun _ _ _ h => h) (Or.inr ⟨by rfl, rfl⟩) hH2 ?_
      simp only [Act.put, List.setIfInBounds_toArray, List.set_cons_zero, List.set_cons_succ]
      refine wpAnyH_take (i := 15) (oi := { dst := some 19, op := Go.Op.move (Go.Operand.tmp 18), type := 4, pos := "item.go:222", after := #[{ on := 14, ground := Go.Ground.data }, { on := 13, ground := Go.Ground.chain }, { on := 8, ground := Go.Ground.guard }], guard := some (8, false) }) (v := undef) rfl (by kernel_rfl) (by kernel_rfl) (by kernel_rfl) (fun _ _ _ h => h) (Or.inr ⟨by rfl, rfl⟩) hH2 ?_
      simp only [Act.put, List.setIfInBounds_toArray, List.set_cons_zero, List.set_cons_succ]
      refine wpAnyH_take (i := 16) (oi := { dst := some 20, op := Go.Op.move (Go.Operand.tmp 0), type := 115, pos := "item.go:222", after := #[{ on := 15, ground := Go.Ground.guard }], guard := some (15, true) }) (v := undef) rfl (by kernel_rfl) (by kernel_rfl) (by kernel_rfl) (fun _ _ _ h => h) (Or.inr ⟨by rfl, rfl⟩) hH2 ?_
      simp only [Act.put, List.setIfInBounds_toArray, List.set_cons_zero, List.set_cons_succ]
      refine wpAnyH_take (i := 17) (oi := { dst := some 21, op := Go.Op.nilCheck (Go.Operand.tmp 20), type := 0, pos := "item.go:222", after := #[{ on := 16, ground := Go.Ground.data }, { on := 15, ground := Go.Ground.guard }], guard := some (15, true) }) (v := undef) rfl (by kernel_rfl) (by kernel_rfl) (by kernel_rfl) (fun _ _ _ h => h) (Or.inr ⟨by rfl, rfl⟩) hH2 ?_
      simp only [Act.put, List.setIfInBounds_toArray, List.set_cons_zero, List.set_cons_succ]
      refine wpAnyH_take (i := 18) (oi := { dst := some 22, op := Go.Op.fieldAddr 86 (Go.Operand.tmp 21) 0, type := 0, pos := "item.go:222", after := #[{ on := 17, ground := Go.Ground.data }, { on := 15, ground := Go.Ground.guard }], guard := some (15, true) }) (v := undef) rfl (by kernel_rfl) (by kernel_rfl) (by kernel_rfl) (fun _ _ _ h => h) (Or.inr ⟨by rfl, rfl⟩) hH2 ?_
      simp only [Act.put, List.setIfInBounds_toArray, List.set_cons_zero, List.set_cons_succ]
      refine wpAnyH_take (i := 19) (oi := { dst := some 23, op := Go.Op.load 84 (Go.Operand.tmp 22), type := 84, pos := "item.go:222", after := #[{ on := 18, ground := Go.Ground.data }, { on := 15, ground := Go.Ground.guard }], guard := some (15, true) }) (v := undef) rfl (by kernel_rfl) (by kernel_rfl) (by kernel_rfl) (fun _ _ _ h => h) (Or.inr ⟨by rfl, rfl⟩) hH2 ?_
      simp only [Act.put, List.setIfInBounds_toArray, List.set_cons_zero, List.set_cons_succ]
      refine wpAnyH_take (i := 21) (oi := { dst := some 25, op := Go.Op.load 40 (Go.Operand.tmp 3), type := 40, pos := "item.go:222", after := #[{ on := 15, ground := Go.Ground.guard }], guard := some (15, true) }) (v := undef) rfl (by kernel_rfl) (by kernel_rfl) (by kernel_rfl) (fun _ _ _ h => h) (Or.inr ⟨by rfl, rfl⟩) hH2 ?_
      simp only [Act.put, List.setIfInBounds_toArray, List.set_cons_zero, List.set_cons_succ]
      refine wpAnyH_take (i := 20) (oi := { dst := some 24, op := Go.Op.call { callee := Go.Callee.value (Go.Operand.func 82), args := #[Go.Operand.tmp 23], argTypes := #[84] }, type := 40, pos := "item.go:222", after := #[{ on := 19, ground := Go.Ground.data }, { on := 15, ground := Go.Ground.chain }, { on := 15, ground := Go.Ground.guard }], guard := some (15, true) }) (v := undef) rfl (by kernel_rfl) (by kernel_rfl) (by kernel_rfl) (fun _ _ _ h => h) (Or.inr ⟨by rfl, rfl⟩) hH2 ?_
      simp only [Act.put, List.setIfInBounds_toArray, List.set_cons_zero, List.set_cons_succ]
      refine wpAnyH_take (i := 22) (oi := { dst := some 26, op := Go.Op.binOp Go.BinOp.neq 40 (Go.Operand.tmp 24) (Go.Operand.tmp 25) 40, type := 4, pos := "item.go:222", after := #[{ on := 20, ground := Go.Ground.data }, { on := 21, ground := Go.Ground.data }, { on := 15, ground := Go.Ground.guard }], guard := some (15, true) }) (v := undef) rfl (by kernel_rfl) (by kernel_rfl) (by kernel_rfl) (fun _ _ _ h => h) (Or.inr ⟨by rfl, rfl⟩) hH2 ?_
      simp only [Act.put, List.setIfInBounds_toArray, List.set_cons_zero, List.set_cons_succ]
      refine wpAnyH_take (i := 23) (oi := { dst := some 27, op := Go.Op.pick (Go.Operand.tmp 19) (Go.Operand.tmp 26) (Go.Operand.const (Go.Value.bool false)), type := 4, pos := "item.go:222", after := #[{ on := 15, ground := Go.Ground.data }, { on := 22, ground := Go.Ground.data }, { on := 8, ground := Go.Ground.guard }], guard := some (8, false) }) (v := undef) rfl (by kernel_rfl) (by kernel_rfl) (by kernel_rfl) (fun _ _ _ h => h) (Or.inr ⟨by rfl, rfl⟩) hH2 ?_
      simp only [Act.put, List.setIfInBounds_toArray, List.set_cons_zero, List.set_cons_succ]
      refine wpAnyH_take (i := 24) (oi := { dst := some 28, op := Go.Op.pick (Go.Operand.tmp 12) (Go.Operand.const (Go.Value.bool true)) (Go.Operand.tmp 27), type := 4, pos := "item.go:222", after := #[{ on := 8, ground := Go.Ground.data }, { on := 23, ground := Go.Ground.data }], guard := none }) (v := ?_) rfl (by kernel_rfl) (by kernel_rfl) (by kernel_rfl) (fun _ _ _ h => h) (Or.inl ⟨by rfl, ?_⟩) hH2 ?_
      rotate_left
      · (intro wz hSz; (try dsimp only at hSz); go_simp; try with_reducible rfl)
      simp only [Act.put, List.setIfInBounds_toArray, List.set_cons_zero, List.set_cons_succ]
      refine wpAnyH_done (by kernel_rfl) ?_ _
      have hr1 := hnx.1.pos
      have HLC := Lib.hid (leave_c HW.out (by simp only [List.length_cons]; omega) (by simp only [List.length_append, List.length_replicate]; omega) (by simp only [List.length_cons]; omega))
      have HNX := Lib.hid hnx
      clear hnx HTOP HDP hH2
      go_wp2_with fail
      with_reducible refine (HLC.out.call).mono ?_
      rintro e w9 ⟨rfl, ⟨g9, cap9, lv9, hW9⟩, hk9⟩
      have hx9 := (hk9.2 xb hxa (Nat.lt_succ_self _)).trans HX.out
      have HI9 := Lib.hid (show Wm w9 ⟨lo, a0, xb + 1⟩ wb r (out ++ List.replicate (j + 1) kEnd) g9 cap9 lv9 ∧ w9.heap[xb]? = some (.cells #[.int .i64 al, .int .u64 (ac : Int)] 40 (0, 0)) ∧ Kp ⟨lo, a0, xb + 1⟩ W w9 ∧ Stk fl r ∧ popTo (al, ac) r = popTo (al, ac) op ∧ j + 1 + r.length = op.length ∧ (∀ y ∈ r, y.2 < 18446744073709551616) from ⟨by rw [List.replicate_succ', ← List.append_assoc]; exact hW9, hx9, HK.out.trans hk9, HNX.out.1, HNX.out.2, by have := HJL.out; simp at this; omega, fun y hy => HCS.out y (by simp [hy])⟩)
      clear hW9 hk9 hx9 HLC
      go_wp2_with fail
      go_roundg r.length
      case rel => exact ⟨g9, cap9, lv9, r, j + 1, Nat.le_refl _, HI9⟩
      case measure => simp at hm; omega
    | true =>
      have HBL := Lib.hid hbl
      by_cases h16 : r.length = 16
      · have hd : ((r.length : Int) == 16) = true := beq_iff_eq.2 (by omega)
        by_cases hl : tl = al
        · subst hl
          by_cases hc : tc = ac
          · subst hc
            have HEX := Lib.hid (popTo_stop (a := (tl, tc)) (t := (tl, tc)) (r := r) hbl (fun _ => rfl))
            clear hS hP hbl hlen hJ h16
            go_wp2_with fail
            refine wp_region_held_drew (S := (Keeps wr)) (by kernel_rfl) (keeps_drew _) (fun hH0 => ?_)
            refine wpAnyH_take (i := 0) (oi := { dst := some 4, op := Go.Op.move (Go.Operand.tmp 0), type := 115, pos := "item.go:222", after := #[], guard := none }) (v := ?_) rfl (by kernel_rfl) (by kernel_rfl) (by kernel_rfl) (fun _ _ _ h => h) (Or.inl ⟨by rfl, ?_⟩) hH0 ?_
            rotate_left
            · (intro wz hSz; (try dsimp only at hSz); go_simp; try with_reducible rfl)
            simp only [Act.put, List.setIfInBounds_toArray, List.set_cons_zero, List.set_cons_succ]
            refine wpAnyH_take (i := 1) (oi := { dst := some 5, op := Go.Op.nilCheck (Go.Operand.tmp 4), type := 0, pos := "item.go:222", after := #[{ on := 0, ground := Go.Ground.data }], guard := none }) (v := ?_) rfl (by kernel_rfl) (by kernel_rfl) (by kernel_rfl) (fun _ _ _ h => h) (Or.inl ⟨by rfl, ?_⟩) hH0 ?_
            rotate_left
            · (intro wz hSz; (try dsimp only at hSz); go_simp; try with_reducible rfl)
            simp only [Act.put, List.setIfInBounds_toArray, List.set_cons_zero, List.set_cons_succ]
            refine wpAnyH_take (i := 2) (oi := { dst := some 6, op := Go.Op.fieldAddr 86 (Go.Operand.tmp 5) 0, type := 0, pos := "item.go:222", after := #[{ on := 1, ground := Go.Ground.data }], guard := none }) (v := ?_) rfl (by kernel_rfl) (by kernel_rfl) (by kernel_rfl) (fun _ _ _ h => h) (Or.inl ⟨by rfl, ?_⟩) hH0 ?_
            rotate_left
            · (intro wz hSz; (try dsimp only at hSz); go_simp; try with_reducible rfl)
            simp only [Act.put, List.setIfInBounds_toArray, List.set_cons_zero, List.set_cons_succ]
            refine wpAnyH_take (i := 3) (oi := { dst := some 7, op := Go.Op.load 84 (Go.Operand.tmp 6), type := 84, pos := "item.go:222", after := #[{ on := 2, ground := Go.Ground.data }], guard := none }) (v := ?_) rfl (by kernel_rfl) (by kernel_rfl) (by kernel_rfl) (fun _ _ _ h => h) (Or.inl ⟨by rfl, ?_⟩) hH0 ?_
            rotate_left
            · (intro wz hSz; have hcz := wm_open_at HM0.out (HW.out.below hSz); go_simp; try with_reducible rfl)
            simp only [Act.put, List.setIfInBounds_toArray, List.set_cons_zero, List.set_cons_succ]
            refine wpAnyH_take (i := 5) (oi := { dst := some 9, op := Go.Op.load 40 (Go.Operand.tmp 3), type := 40, pos := "item.go:222", after := #[], guard := none }) (v := ?_) rfl (by kernel_rfl) (by kernel_rfl) (by kernel_rfl) (fun _ _ _ h => h) (Or.inl ⟨by rfl, ?_⟩) hH0 ?_
            rotate_left
            · (intro wz hSz; have hcz := True.intro; obtain ⟨b0, b1⟩ := O.lab_cells ((Below.block hSz _ (L.blk_lt HX.out)).trans HX.out); go_simp; try with_reducible rfl)
            simp only [Act.put, List.setIfInBounds_toArray, List.set_cons_zero, List.set_cons_succ]
            refine wpAnyH_ready (rs := [4]) (by kernel_rfl) (by simp) ?_
            refine AllReadyH.cons (o := { dst := some 8, op := Go.Op.call { callee := Go.Callee.value (Go.Operand.func 82), args := #[Go.Operand.tmp 7], argTypes := #[84] }, type := 40, pos := "item.go:222", after := #[{ on := 3, ground := Go.Ground.data }], guard := none }) rfl (fun K hK => ?_) AllReadyH.nil
            go_simp
            with_reducible refine (HTOP.out.call (HBR.out.trans (Below.mono hH0.b HBR.out.size))).mono ?_
            rintro r wq1 ⟨rfl, hbq⟩
            go_wp2_with fail
            refine hK.out _ _ (Keeps.trans hH0 hbq) (fun hJ => ?_)
            refine wpAnyH_more (S' := Keeps wq1) (fun z hz => Keeps.trans hJ hz) _ _ _ _ ?_
            replace HBR := Lib.hid (HBR.out.trans (Below.mono hJ HBR.out.size))
            replace HX := Lib.hid ((Below.block hJ _ (L.blk_lt HX.out)).trans HX.out)
            replace HK := Lib.hid (HK.out.trans (HW.out.kp hJ))
            replace HW := Lib.hid (HW.out.below hJ)
            have hH1 : Keeps wq1 wq1 := Below.refl _ _
            clear hK K hbq hH0 hJ
            refine wpAnyH_ready (rs := [6]) (by kernel_rfl) (by simp) ?_
            refine AllReadyH.cons (o := { dst := some 10, op := Go.Op.call { callee := Go.Callee.value (Go.Operand.func 20), args := #[Go.Operand.tmp 8, Go.Operand.tmp 9], argTypes := #[40, 40] }, type := 4, pos := "item.go:222", after := #[{ on := 4, ground := Go.Ground.data }, { on := 5, ground := Go.Ground.data }, { on := 4, ground := Go.Ground.chain }], guard := none }) rfl (fun K hK => ?_) AllReadyH.nil
            go_simp
            with_reducible refine ((below_c HBL.out hac HCT.out).call _).mono ?_
            rintro r wq2 ⟨rfl, hbq⟩
            go_wp2_with fail
            refine hK.out _ _ (Keeps.trans hH1 hbq) (fun hJ => ?_)
            refine wpAnyH_more (S' := Keeps wq2) (fun z hz => Keeps.trans hJ hz) _ _ _ _ ?_
            replace HBR := Lib.hid (HBR.out.trans (Below.mono hJ HBR.out.size))
            replace HX := Lib.hid ((Below.block hJ _ (L.blk_lt HX.out)).trans HX.out)
            replace HK := Lib.hid (HK.out.trans (HW.out.kp hJ))
            replace HW := Lib.hid (HW.out.below hJ)
            have hH2 : Keeps wq2 wq2 := Below.refl _ _
            clear hK K hbq hH1 hJ
            refine wpAnyH_take (i := 7) (oi := { dst := some 11, op := Go.Op.unOp Go.UnOp.not 4 (Go.Operand.tmp 10), type := 4, pos := "item.go:222", after := #[{ on := 6, ground := Go.Ground.data }], guard := none }) (v := ?_) rfl (by kernel_rfl) (by kernel_rfl) (by kernel_rfl) (fun _ _ _ h => h) (Or.inl ⟨by rfl, ?_⟩) hH2 ?_
            rotate_left
            · (intro wz hSz; (try dsimp only at hSz); go_simp; try with_reducible rfl)
            simp only [Act.put, List.setIfInBounds_toArray, List.set_cons_zero, List.set_cons_succ]
            refine wpAnyH_take (i := 8) (oi := { dst := some 12, op := Go.Op.move (Go.Operand.tmp 11), type := 4, pos := "item.go:222", after := #[{ on := 7, ground := Go.Ground.data }, { on := 6, ground := Go.Ground.chain }], guard := none }) (v := ?_) rfl (by kernel_rfl) (by kernel_rfl) (by kernel_rfl) (fun _ _ _ h => h) (Or.inl ⟨by rfl, ?_⟩) hH2 ?_
            rotate_left
            · (intro wz hSz; (try dsimp only at hSz); go_simp; try with_reducible rfl)
            simp only [Act.put, List.setIfInBounds_toArray, List.set_cons_zero, List.set_cons_succ]
            refine wpAnyH_take (i := 9) (oi := { dst := some 13, op := Go.Op.move (Go.Operand.tmp 0), type := 115, pos := "item.go:222", after := #[{ on := 8, ground := Go.Ground.guard }], guard := some (8, false) }) (v := ?_) rfl (by kernel_rfl) (by kernel_rfl) (by kernel_rfl) (fun _ _ _ h => h) (Or.inl ⟨by rfl, ?_⟩) hH2 ?_
            rotate_left
            · (intro wz hSz; (try dsimp only at hSz); go_simp; try with_reducible rfl)
            simp only [Act.put, List.setIfInBounds_toArray, List.set_cons_zero, List.set_cons_succ]
            refine wpAnyH_take (i := 10) (oi := { dst := some 14, op := Go.Op.nilCheck (Go.Operand.tmp 13), type := 0, pos := "item.go:222", after := #[{ on := 9, ground := Go.Ground.data }, { on := 8, ground := Go.Ground.guard }], guard := some (8, false) }) (v := ?_) rfl (by kernel_rfl) (by kernel_rfl) (by kernel_rfl) (fun _ _ _ h => h) (Or.inl ⟨by rfl, ?_⟩) hH2 ?_
            rotate_left
            · (intro wz hSz; (try dsimp only at hSz); go_simp; try with_reducible rfl)
            simp only [Act.put, List.setIfInBounds_toArray, List.set_cons_zero, List.set_cons_succ]
            refine wpAnyH_take (i := 11) (oi := { dst := some 15, op := Go.Op.fieldAddr 86 (Go.Operand.tmp 14) 0, type := 0, pos := "item.go:222", after := #[{ on := 10, ground := Go.Ground.data }, { on := 8, ground := Go.Ground.guard }], guard := some (8, false) }) (v := ?_) rfl (by kernel_rfl) (by kernel_rfl) (by kernel_rfl) (fun _ _ _ h => h) (Or.inl ⟨by rfl, ?_⟩) hH2 ?_
            rotate_left
            · (intro wz hSz; (try dsimp only at hSz); go_simp; try with_reducible rfl)
            simp only [Act.put, List.setIfInBounds_toArray, List.set_cons_zero, List.set_cons_succ]
            refine wpAnyH_take (i := 12) (oi := { dst := some 16, op := Go.Op.load 84 (Go.Operand.tmp 15), type := 84, pos := "item.go:222", after := #[{ on := 11, ground := Go.Ground.data }, { on := 8, ground := Go.Ground.guard }], guard := some (8, false) }) (v := ?_) rfl (by kernel_rfl) (by kernel_rfl) (by kernel_rfl) (fun _ _ _ h => h) (Or.inl ⟨by rfl, ?_⟩) hH2 ?_
            rotate_left
            · (intro wz hSz; have hcz := wm_open_at HM0.out (HW.out.below hSz); go_simp; try with_reducible rfl)
            simp only [Act.put, List.setIfInBounds_toArray, List.set_cons_zero, List.set_cons_succ]
            refine wpAnyH_ready (rs := [13]) (by kernel_rfl) (by simp) ?_
            refine AllReadyH.cons (o := { dst := some 17, op := Go.Op.call { callee := Go.Callee.value (Go.Operand.func 52), args := #[Go.Operand.tmp 16], argTypes := #[84] }, type := 3, pos := "item.go:222", after := #[{ on := 12, ground := Go.Ground.data }, { on := 8, ground := Go.Ground.chain }, { on := 8, ground := Go.Ground.guard }], guard := some (8, false) }) rfl (fun K hK => ?_) AllReadyH.nil
            go_simp
            with_reducible refine (HDP.out.call _).mono ?_
            rintro r wq3 ⟨rfl, hw9⟩
            have hbq := below_eq hw9
            go_wp2_with fail
            refine hK.out _ _ (Keeps.trans hH2 hbq) (fun hJ => ?_)
            refine wpAnyH_more (S' := Keeps wq3) (fun z hz => Keeps.trans hJ hz) _ _ _ _ ?_
            replace HBR := Lib.hid (HBR.out.trans (Below.mono hJ HBR.out.size))
            replace HX := Lib.hid ((Below.block hJ _ (L.blk_lt HX.out)).trans HX.out)
            replace HK := Lib.hid (HK.out.trans (HW.out.kp hJ))
            replace HW := Lib.hid (HW.out.below hJ)
            have hH3 : Keeps wq3 wq3 := Below.refl _ _
            clear hK K hbq hH2 hJ
            refine wpAnyH_take (i := 14) (oi := { dst := some 18, op := Go.Op.binOp Go.BinOp.eql 3 (Go.Operand.tmp 17) (Go.Operand.const (Go.Value.int Go.IntKind.i64 16)) 3, type := 4, pos := "item.go:222", after := #[{ on := 13, ground := Go.Ground.data }, { on := 8, ground := Go.Ground.guard }], guard := some (8, false) }) (v := ?_) rfl (by kernel_rfl) (by kernel_rfl) (by kernel_rfl) (fun _ _ _ h => h) (Or.inl ⟨by rfl, ?_⟩) hH3 ?_
            rotate_left
            · (intro wz hSz; (try dsimp only at hSz); go_simp; try with_reducible rfl)
            simp only [Act.put, List.setIfInBounds_toArray, List.set_cons_zero, List.set_cons_succ]
            refine wpAnyH_take (i := 15) (oi := { dst := some 19, op := Go.Op.move (Go.Operand.tmp 18), type := 4, pos := "item.go:222", after := #[{ on := 14, ground := Go.Ground.data }, { on := 13, ground := Go.Ground.chain }, { on := 8, ground := Go.Ground.guard }], guard := some (8, false) }) (v := ?_) rfl (by kernel_rfl) (by kernel_rfl) (by kernel_rfl) (fun _ _ _ h => h) (Or.inl ⟨by rfl, ?_⟩) hH3 ?_
            rotate_left
            · (intro wz hSz; (try dsimp only at hSz); go_simp; try with_reducible rfl)
            simp only [Act.put, List.setIfInBounds_toArray, List.set_cons_zero, List.set_cons_succ]
            refine wpAnyH_take (i := 16) (oi := { dst := some 20, op := Go.Op.move (Go.Operand.tmp 0), type := 115, pos := "item.go:222", after := #[{ on := 15, ground := Go.Ground.guard }], guard := some (15, true) }) (v := ?_) rfl (by kernel_rfl) (by kernel_rfl) (by kernel_rfl) (fun _ _ _ h => h) (Or.inl ⟨by rfl, ?_⟩) hH3 ?_
            rotate_left
            · (intro wz hSz; (try dsimp only at hSz); go_simp; try with_reducible rfl)
            simp only [Act.put, List.setIfInBounds_toArray, List.set_cons_zero, List.set_cons_succ]
            refine wpAnyH_take (i := 17) (oi := { dst := some 21, op := Go.Op.nilCheck (Go.Operand.tmp 20), type := 0, pos := "item.go:222", after := #[{ on := 16, ground := Go.Ground.data }, { on := 15, ground := Go.Ground.guard }], guard := some (15, true) }) (v := ?_) rfl (by kernel_rfl) (by kernel_rfl) (by kernel_rfl) (fun _ _ _ h => h) (Or.inl ⟨by rfl, ?_⟩) hH3 ?_
            rotate_left
            · (intro wz hSz; (try dsimp only at hSz); go_simp; try with_reducible rfl)
            simp only [Act.put, List.setIfInBounds_toArray, List.set_cons_zero, List.set_cons_succ]
            refine wpAnyH_take (i := 18) (oi := { dst := some 22, op := Go.Op.fieldAddr 86 (Go.Operand.tmp 21) 0, type := 0, pos := "item.go:222", after := #[{ on := 17, ground := Go.Ground.data }, { on := 15, ground := Go.Ground.guard }], guard := some (15, true) }) (v := ?_) rfl (by kernel_rfl) (by kernel_rfl) (by kernel_rfl) (fun _ _ _ h => h) (Or.inl ⟨by rfl, ?_⟩) hH3 ?_
            rotate_left
            · (intro wz hSz; (try dsimp only at hSz); go_simp; try with_reducible rfl)
            simp only [Act.put, List.setIfInBounds_toArray, List.set_cons_zero, List.set_cons_succ]
            refine wpAnyH_take (i := 19) (oi := { dst := some 23, op := Go.Op.load 84 (Go.Operand.tmp 22), type := 84, pos := "item.go:222", after := #[{ on := 18, ground := Go.Ground.data }, { on := 15, ground := Go.Ground.guard }], guard := some (15, true) }) (v := ?_) rfl (by kernel_rfl) (by kernel_rfl) (by kernel_rfl) (fun _ _ _ h => h) (Or.inl ⟨by rfl, ?_⟩) hH3 ?_
            rotate_left
            · (intro wz hSz; have hcz := wm_open_at HM0.out (HW.out.below hSz); go_simp; try with_reducible rfl)
            simp only [Act.put, List.setIfInBounds_toArray, List.set_cons_zero, List.set_cons_succ]
            refine wpAnyH_take (i := 21) (oi := { dst := some 25, op := Go.Op.load 40 (Go.Operand.tmp 3), type := 40, pos := "item.go:222", after := #[{ on := 15, ground := Go.Ground.guard }], guard := some (15, true) }) (v := ?_) rfl (by kernel_rfl) (by kernel_rfl) (by kernel_rfl) (fun _ _ _ h => h) (Or.inl ⟨by rfl, ?_⟩) hH3 ?_
            rotate_left
            · (intro wz hSz; have hcz := True.intro; obtain ⟨b0, b1⟩ := O.lab_cells ((Below.block hSz _ (L.blk_lt HX.out)).trans HX.out); go_simp; try with_reducible rfl)
            simp only [Act.put, List.setIfInBounds_toArray, List.set_cons_zero, List.set_cons_succ]
            refine wpAnyH_ready (rs := [20]) (by kernel_rfl) (by simp) ?_
            refine AllReadyH.cons (o := { dst := some 24, op := Go.Op.call { callee := Go.Callee.value (Go.Operand.func 82), args := #[Go.Operand.tmp 23], argTypes := #[84] }, type := 40, pos := "item.go:222", after := #[{ on := 19, ground := Go.Ground.data }, { on := 15, ground := Go.Ground.chain }, { on := 15, ground := Go.Ground.guard }], guard := some (15, true) }) rfl (fun K hK => ?_) AllReadyH.nil
            go_simp
            with_reducible refine (HTOP.out.call (HBR.out.trans (Below.mono hH3.b HBR.out.size))).mono ?_
            rintro r wq4 ⟨rfl, hbq⟩
            go_wp2_with fail
            refine hK.out _ _ (Keeps.trans hH3 hbq) (fun hJ => ?_)
            refine wpAnyH_more (S' := Keeps wq4) (fun z hz => Keeps.trans hJ hz) _ _ _ _ ?_
            replace HBR := Lib.hid (HBR.out.trans (Below.mono hJ HBR.out.size))
            replace HX := Lib.hid ((Below.block hJ _ (L.blk_lt HX.out)).trans HX.out)
            replace HK := Lib.hid (HK.out.trans (HW.out.kp hJ))
            replace HW := Lib.hid (HW.out.below hJ)
            have hH4 : Keeps wq4 wq4 := Below.refl _ _
            clear hK K hbq hH3 hJ
            refine wpAnyH_take (i := 22) (oi := { dst := some 26, op := Go.Op.binOp Go.BinOp.neq 40 (Go.Operand.tmp 24) (Go.Operand.tmp 25) 40, type := 4, pos := "item.go:222", after := #[{ on := 20, ground := Go.Ground.data }, { on := 21, ground := Go.Ground.data }, { on := 15, ground := Go.Ground.guard }], guard := some (15, true) }) (v := ?_) rfl (by kernel_rfl) (by kernel_rfl) (by kernel_rfl) (fun _ _ _ h => h) (Or.inl ⟨by rfl, ?_⟩) hH4 ?_
            rotate_left
            · (intro wz hSz; (try dsimp only at hSz); go_simp; try with_reducible rfl)
            simp only [Act.put, List.setIfInBounds_toArray, List.set_cons_zero, List.set_cons_succ]
            refine wpAnyH_take (i := 23) (oi := { dst := some 27, op := Go.Op.pick (Go.Operand.tmp 19) (Go.Operand.tmp 26) (Go.Operand.const (Go.Value.bool false)), type := 4, pos := "item.go:222", after := #[{ on := 15, ground := Go.Ground.data }, { on := 22, ground := Go.Ground.data }, { on := 8, ground := Go.Ground.guard }], guard := some (8, false) }) (v := ?_) rfl (by kernel_rfl) (by kernel_rfl) (by kernel_rfl) (fun _ _ _ h => h) (Or.inl ⟨by rfl, ?_⟩) hH4 ?_
            rotate_left
            · (intro wz hSz; (try dsimp only at hSz); go_simp; try with_reducible rfl)
            simp only [Act.put, List.setIfInBounds_toArray, List.set_cons_zero, List.set_cons_succ]
            refine wpAnyH_take (i := 24) (oi := { dst := some 28, op := Go.Op.pick (Go.Operand.tmp 12) (Go.Operand.const (Go.Value.bool true)) (Go.Operand.tmp 27), type := 4, pos := "item.go:222", after := #[{ on := 8, ground := Go.Ground.data }, { on := 23, ground := Go.Ground.data }], guard := none }) (v := ?_) rfl (by kernel_rfl) (by kernel_rfl) (by kernel_rfl) (fun _ _ _ h => h) (Or.inl ⟨by rfl, ?_⟩) hH4 ?_
            rotate_left
            · (intro wz hSz; (try dsimp only at hSz); go_simp; try with_reducible rfl)
            simp only [Act.put, List.setIfInBounds_toArray, List.set_cons_zero, List.set_cons_succ]
            refine wpAnyH_done (by kernel_rfl) ?_ _
            obtain ⟨w5, hw5⟩ : ∃ w5 : World, w5 = wq4 := ⟨_, rfl⟩
            rw [← hw5] at HW HX HK HBR ⊢
            clear hw5 hH4 HDP
            go_wp2_with fail
            refine wp_region_held_drew (S := (Keeps w5)) (by kernel_rfl) (keeps_drew _) (fun hJJ0 => ?_)
            refine wpAnyH_take (i := 0) (oi := { dst := some 31, op := Go.Op.move (Go.Operand.tmp 0), type := 115, pos := "item.go:225", after := #[], guard := none }) (v := ?_) rfl (by kernel_rfl) (by kernel_rfl) (by kernel_rfl) (fun _ _ _ h => h) (Or.inl ⟨by rfl, ?_⟩) hJJ0 ?_
            rotate_left
            · (intro wz hSz; (try dsimp only at hSz); go_simp; try with_reducible rfl)
            simp only [Act.put, List.setIfInBounds_toArray, List.set_cons_zero, List.set_cons_succ]
            refine wpAnyH_take (i := 1) (oi := { dst := some 32, op := Go.Op.nilCheck (Go.Operand.tmp 31), type := 0, pos := "item.go:225", after := #[{ on := 0, ground := Go.Ground.data }], guard := none }) (v := ?_) rfl (by kernel_rfl) (by kernel_rfl) (by kernel_rfl) (fun _ _ _ h => h) (Or.inl ⟨by rfl, ?_⟩) hJJ0 ?_
            rotate_left
            · (intro wz hSz; (try dsimp only at hSz); go_simp; try with_reducible rfl)
            simp only [Act.put, List.setIfInBounds_toArray, List.set_cons_zero, List.set_cons_succ]
            refine wpAnyH_take (i := 2) (oi := { dst := some 33, op := Go.Op.fieldAddr 86 (Go.Operand.tmp 32) 0, type := 0, pos := "item.go:225", after := #[{ on := 1, ground := Go.Ground.data }], guard := none }) (v := ?_) rfl (by kernel_rfl) (by kernel_rfl) (by kernel_rfl) (fun _ _ _ h => h) (Or.inl ⟨by rfl, ?_⟩) hJJ0 ?_
            rotate_left
            · (intro wz hSz; (try dsimp only at hSz); go_simp; try with_reducible rfl)
            simp only [Act.put, List.setIfInBounds_toArray, List.set_cons_zero, List.set_cons_succ]
            refine wpAnyH_take (i := 3) (oi := { dst := some 34, op := Go.Op.load 84 (Go.Operand.tmp 33), type := 84, pos := "item.go:225", after := #[{ on := 2, ground := Go.Ground.data }], guard := none }) (v := ?_) rfl (by kernel_rfl) (by kernel_rfl) (by kernel_rfl) (fun _ _ _ h => h) (Or.inl ⟨by rfl, ?_⟩) hJJ0 ?_
            rotate_left
            · (intro wz hSz; have hcz := wm_open_at HM0.out (HW.out.below hSz); go_simp; try with_reducible rfl)
            simp only [Act.put, List.setIfInBounds_toArray, List.set_cons_zero, List.set_cons_succ]
            refine wpAnyH_take (i := 5) (oi := { dst := some 36, op := Go.Op.load 40 (Go.Operand.tmp 3), type := 40, pos := "item.go:225", after := #[], guard := none }) (v := ?_) rfl (by kernel_rfl) (by kernel_rfl) (by kernel_rfl) (fun _ _ _ h => h) (Or.inl ⟨by rfl, ?_⟩) hJJ0 ?_
            rotate_left
            · (intro wz hSz; have hcz := True.intro; obtain ⟨b0, b1⟩ := O.lab_cells ((Below.block hSz _ (L.blk_lt HX.out)).trans HX.out); go_simp; try with_reducible rfl)
            simp only [Act.put, List.setIfInBounds_toArray, List.set_cons_zero, List.set_cons_succ]
            refine wpAnyH_ready (rs := [4]) (by kernel_rfl) (by simp) ?_
            refine AllReadyH.cons (o := { dst := some 35, op := Go.Op.call { callee := Go.Callee.value (Go.Operand.func 82), args := #[Go.Operand.tmp 34], argTypes := #[84] }, type := 40, pos := "item.go:225", after := #[{ on := 3, ground := Go.Ground.data }], guard := none }) rfl (fun K hK => ?_) AllReadyH.nil
            go_simp
            with_reducible refine (HTOP.out.call (HBR.out.trans (Below.mono hJJ0.b HBR.out.size))).mono ?_
            rintro r wq1 ⟨rfl, hbq⟩
            go_wp2_with fail
            refine hK.out _ _ (Keeps.trans hJJ0 hbq) (fun hJ => ?_)
            refine wpAnyH_more (S' := Keeps wq1) (fun z hz => Keeps.trans hJ hz) _ _ _ _ ?_
            replace HBR := Lib.hid (HBR.out.trans (Below.mono hJ HBR.out.size))
            replace HX := Lib.hid ((Below.block hJ _ (L.blk_lt HX.out)).trans HX.out)
            replace HK := Lib.hid (HK.out.trans (HW.out.kp hJ))
            replace HW := Lib.hid (HW.out.below hJ)
            have hJJ1 : Keeps wq1 wq1 := Below.refl _ _
            clear hK K hbq hJJ0 hJ
            refine wpAnyH_take (i := 6) (oi := { dst := some 37, op := Go.Op.binOp Go.BinOp.neq 40 (Go.Operand.tmp 35) (Go.Operand.tmp 36) 40, type := 4, pos := "item.go:225", after := #[{ on := 4, ground := Go.Ground.data }, { on := 5, ground := Go.Ground.data }], guard := none }) (v := ?_) rfl (by kernel_rfl) (by kernel_rfl) (by kernel_rfl) (fun _ _ _ h => h) (Or.inl ⟨by rfl, ?_⟩) hJJ1 ?_
            rotate_left
            · (intro wz hSz; (try dsimp only at hSz); go_simp; try with_reducible rfl)
            simp only [Act.put, List.setIfInBounds_toArray, List.set_cons_zero, List.set_cons_succ]
            refine wpAnyH_done (by kernel_rfl) ?_ _
            have HFI := Lib.hid (enter_same (popTo_here HST.out.2 HEX.out) rfl HJL.out HW.out HK.out hlz)
            clear hJJ1
            go_wp2_with fail
            first | go_end0 | refine bodyPost_ret (results_none rfl _ _ _) rfl ?_
            first | exact HFI.out | (have hfi := HFI.out; rw [HXB.out] at hfi; exact hfi)
          · have hnx := pop_next (a := (tl, ac)) hS hb hP (.inr ⟨h16, fun e => hc (congrArg Prod.snd e)⟩)
            have hne : ((tc : Int) == (ac : Int)) = false := beq_eq_false_iff_ne.2 (by omega)
            clear hS hP hbl hlen hJ h16
            go_wp2_with fail
            refine wp_region_held_drew (S := (Keeps wr)) (by kernel_rfl) (keeps_drew _) (fun hH0 => ?_)
            refine wpAnyH_take (i := 0) (oi := { dst := some 4, op := Go.Op.move (Go.Operand.tmp 0), type := 115, pos := "item.go:222", after := #[], guard := none }) (v := ?_) rfl (by kernel_rfl) (by kernel_rfl) (by kernel_rfl) (fun _ _ _ h => h) (Or.inl ⟨by rfl, ?_⟩) hH0 ?_
            rotate_left
            · (intro wz hSz; (try dsimp only at hSz); go_simp; try with_reducible rfl)
            simp only [Act.put, List.setIfInBounds_toArray, List.set_cons_zero, List.set_cons_succ]
            refine wpAnyH_take (i := 1) (oi := { dst := some 5, op := Go.Op.nilCheck (Go.Operand.tmp 4), type := 0, pos := "item.go:222", after := #[{ on := 0, ground := Go.Ground.data }], guard := none }) (v := ?_) rfl (by kernel_rfl) (by kernel_rfl) (by kernel_rfl) (fun _ _ _ h => h) (Or.inl ⟨by rfl, ?_⟩) hH0 ?_
            rotate_left
            · (intro wz hSz; (try dsimp only at hSz); go_simp; try with_reducible rfl)
            simp only [Act.put, List.setIfInBounds_toArray, List.set_cons_zero, List.set_cons_succ]
            refine wpAnyH_take (i := 2) (oi := { dst := some 6, op := Go.Op.fieldAddr 86 (Go.Operand.tmp 5) 0, type := 0, pos := "item.go:222", after := #[{ on := 1, ground := Go.Ground.data }], guard := none }) (v := ?_) rfl (by kernel_rfl) (by kernel_rfl) (by kernel_rfl) (fun _ _ _ h => h) (Or.inl ⟨by rfl, ?_⟩) hH0 ?_
            rotate_left
            · (intro wz hSz; (try dsimp only at hSz); go_simp; try with_reducible rfl)
            simp only [Act.put, List.setIfInBounds_toArray, List.set_cons_zero, List.set_cons_succ]
            refine wpAnyH_take (i := 3) (oi := { dst := some 7, op := Go.Op.load 84 (Go.Operand.tmp 6), type := 84, pos := "item.go:222", after := #[{ on := 2, ground := Go.Ground.data }], guard := none }) (v := ?_) rfl (by kernel_rfl) (by kernel_rfl) (by kernel_rfl) (fun _ _ _ h => h) (Or.inl ⟨by rfl, ?_⟩) hH0 ?_
            rotate_left
            · (intro wz hSz; have hcz := wm_open_at HM0.out (HW.out.below hSz); go_simp; try with_reducible rfl)
            simp only [Act.put, List.setIfInBounds_toArray, List.set_cons_zero, List.set_cons_succ]
            refine wpAnyH_take (i := 5) (oi := { dst := some 9, op := Go.Op.load 40 (Go.Operand.tmp 3), type := 40, pos := "item.go:222", after := #[], guard := none }) (v := ?_) rfl (by kernel_rfl) (by kernel_rfl) (by kernel_rfl) (fun _ _ _ h => h) (Or.inl ⟨by rfl, ?_⟩) hH0 ?_
            rotate_left
            · (intro wz hSz; have hcz := True.intro; obtain ⟨b0, b1⟩ := O.lab_cells ((Below.block hSz _ (L.blk_lt HX.out)).trans HX.out); go_simp; try with_reducible rfl)
            simp only [Act.put, List.setIfInBounds_toArray, List.set_cons_zero, List.set_cons_succ]
            refine wpAnyH_ready (rs := [4]) (by kernel_rfl) (by simp) ?_
            refine AllReadyH.cons (o := { dst := some 8, op := Go.Op.call { callee := Go.Callee.value (Go.Operand.func 82), args := #[Go.Operand.tmp 7], argTypes := #[84] }, type := 40, pos := "item.go:222", after := #[{ on := 3, ground := Go.Ground.data }], guard := none }) rfl (fun K hK => ?_) AllReadyH.nil
            go_simp
            with_reducible refine (HTOP.out.call (HBR.out.trans (Below.mono hH0.b HBR.out.size))).mono ?_
            rintro r wq1 ⟨rfl, hbq⟩
            go_wp2_with fail
            refine hK.out _ _ (Keeps.trans hH0 hbq) (fun hJ => ?_)
            refine wpAnyH_more (S' := Keeps wq1) (fun z hz => Keeps.trans hJ hz) _ _ _ _ ?_
            replace HBR := Lib.hid (HBR.out.trans (Below.mono hJ HBR.out.size))
            replace HX := Lib.hid ((Below.block hJ _ (L.blk_lt HX.out)).trans HX.out)
            replace HK := Lib.hid (HK.out.trans (HW.out.kp hJ))
            replace HW := Lib.hid (HW.out.below hJ)
            have hH1 : Keeps wq1 wq1 := Below.refl _ _
            clear hK K hbq hH0 hJ
            refine wpAnyH_ready (rs := [6]) (by kernel_rfl) (by simp) ?_
            refine AllReadyH.cons (o := { dst := some 10, op := Go.Op.call { callee := Go.Callee.value (Go.Operand.func 20), args := #[Go.Operand.tmp 8, Go.Operand.tmp 9], argTypes := #[40, 40] }, type := 4, pos := "item.go:222", after := #[{ on := 4, ground := Go.Ground.data }, { on := 5, ground := Go.Ground.data }, { on := 4, ground := Go.Ground.chain }], guard := none }) rfl (fun K hK => ?_) AllReadyH.nil
            go_simp
            with_reducible refine ((below_c HBL.out hac HCT.out).call _).mono ?_
            rintro r wq2 ⟨rfl, hbq⟩
            go_wp2_with fail
            refine hK.out _ _ (Keeps.trans hH1 hbq) (fun hJ => ?_)
            refine wpAnyH_more (S' := Keeps wq2) (fun z hz => Keeps.trans hJ hz) _ _ _ _ ?_
            replace HBR := Lib.hid (HBR.out.trans (Below.mono hJ HBR.out.size))
            replace HX := Lib.hid ((Below.block hJ _ (L.blk_lt HX.out)).trans HX.out)
            replace HK := Lib.hid (HK.out.trans (HW.out.kp hJ))
            replace HW := Lib.hid (HW.out.below hJ)
            have hH2 : Keeps wq2 wq2 := Below.refl _ _
            clear hK K hbq hH1 hJ
            refine wpAnyH_take (i := 7) (oi := { dst := some 11, op := Go.Op.unOp Go.UnOp.not 4 (Go.Operand.tmp 10), type := 4, pos := "item.go:222", after := #[{ on := 6, ground := Go.Ground.data }], guard := none }) (v := ?_) rfl (by kernel_rfl) (by kernel_rfl) (by kernel_rfl) (fun _ _ _ h => h) (Or.inl ⟨by rfl, ?_⟩) hH2 ?_
            rotate_left
            · (intro wz hSz; (try dsimp only at hSz); go_simp; try with_reducible rfl)
            simp only [Act.put, List.setIfInBounds_toArray, List.set_cons_zero, List.set_cons_succ]
            refine wpAnyH_take (i := 8) (oi := { dst := some 12, op := Go.Op.move (Go.Operand.tmp 11), type := 4, pos := "item.go:222", after := #[{ on := 7, ground := Go.Ground.data }, { on := 6, ground := Go.Ground.chain }], guard := none }) (v := ?_) rfl (by kernel_rfl) (by kernel_rfl) (by kernel_rfl) (fun _ _ _ h => h) (Or.inl ⟨by rfl, ?_⟩) hH2 ?_
            rotate_left
            · (intro wz hSz; (try dsimp only at hSz); go_simp; try with_reducible rfl)
            simp only [Act.put, List.setIfInBounds_toArray, List.set_cons_zero, List.set_cons_succ]
            refine wpAnyH_take (i := 9) (oi := { dst := some 13, op := Go.Op.move (Go.Operand.tmp 0), type := 115, pos := "item.go:222", after := #[{ on := 8, ground := Go.Ground.guard }], guard := some (8, false) }) (v := ?_) rfl (by kernel_rfl) (by kernel_rfl) (by kernel_rfl) (fun _ _ _ h => h) (Or.inl ⟨by rfl, ?_⟩) hH2 ?_
            rotate_left
            · (intro wz hSz; (try dsimp only at hSz); go_simp; try with_reducible rfl)
            simp only [Act.put, List.setIfInBounds_toArray, List.set_cons_zero, List.set_cons_succ]
            refine wpAnyH_take (i := 10) (oi := { dst := some 14, op := Go.Op.nilCheck (Go.Operand.tmp 13), type := 0, pos := "item.go:222", after := #[{ on := 9, ground := Go.Ground.data }, { on := 8, ground := Go.Ground.guard }], guard := some (8, false) }) (v := ?_) rfl (by kernel_rfl) (by kernel_rfl) (by kernel_rfl) (fun _ _ _ h => h) (Or.inl ⟨by rfl, ?_⟩) hH2 ?_
            rotate_left
            · (intro wz hSz; (try dsimp only at hSz); go_simp; try with_reducible rfl)
            simp only [Act.put, List.setIfInBounds_toArray, List.set_cons_zero, List.set_cons_succ]
            refine wpAnyH_take (i := 11) (oi := { dst := some 15, op := Go.Op.fieldAddr 86 (Go.Operand.tmp 14) 0, type := 0, pos := "item.go:222", after := #[{ on := 10, ground := Go.Ground.data }, { on := 8, ground := Go.Ground.guard }], guard := some (8, false) }) (v := ?_) rfl (by kernel_rfl) (by kernel_rfl) (by kernel_rfl) (fun _ _ _ h => h) (Or.inl ⟨by rfl, ?_⟩) hH2 ?_
            rotate_left
            · (intro wz hSz; (try dsimp only at hSz); go_simp; try with_reducible rfl)
            simp only [Act.put, List.setIfInBounds_toArray, List.set_cons_zero, List.set_cons_succ]
            refine wpAnyH_take (i := 12) (oi := { dst := some 16, op := Go.Op.load 84 (Go.Operand.tmp 15), type := 84, pos := "item.go:222", after := #[{ on := 11, ground := Go.Ground.data }, { on := 8, ground := Go.Ground.guard }], guard := some (8, false) }) (v := ?_) rfl (by kernel_rfl) (by kernel_rfl) (by kernel_rfl) (fun _ _ _ h => h) (Or.inl ⟨by rfl, ?_⟩) hH2 ?_
            rotate_left
            · (intro wz hSz; have hcz := wm_open_at HM0.out (HW.out.below hSz); go_simp; try with_reducible rfl)
            simp only [Act.put, List.setIfInBounds_toArray, List.set_cons_zero, List.set_cons_succ]
            refine wpAnyH_ready (rs := [13]) (by kernel_rfl) (by simp) ?_
            refine AllReadyH.cons (o := { dst := some 17, op := Go.Op.call { callee := Go.Callee.value (Go.Operand.func 52), args := #[Go.Operand.tmp 16], argTypes := #[84] }, type := 3, pos := "item.go:222", after := #[{ on := 12, ground := Go.Ground.data }, { on := 8, ground := Go.Ground.chain }, { on := 8, ground := Go.Ground.guard }], guard := some (8, false) }) rfl (fun K hK => ?_) AllReadyH.nil
            go_simp
            with_reducible refine (HDP.out.call _).mono ?_
            rintro r wq3 ⟨rfl, hw9⟩
            have hbq := below_eq hw9
            go_wp2_with fail
            refine hK.out _ _ (Keeps.trans hH2 hbq) (fun hJ => ?_)
            refine wpAnyH_more (S' := Keeps wq3) (fun z hz => Keeps.trans hJ hz) _ _ _ _ ?_
            replace HBR := Lib.hid (HBR.out.trans (Below.mono hJ HBR.out.size))
            replace HX := Lib.hid ((Below.block hJ _ (L.blk_lt HX.out)).trans HX.out)
            replace HK := Lib.hid (HK.out.trans (HW.out.kp hJ))
            replace HW := Lib.hid (HW.out.below hJ)
            have hH3 : Keeps wq3 wq3 := Below.refl _ _
            clear hK K hbq hH2 hJ
            refine wpAnyH_take (i := 14) (oi := { dst := some 18, op := Go.Op.binOp Go.BinOp.eql 3 (Go.Operand.tmp 17) (Go.Operand.const (Go.Value.int Go.IntKind.i64 16)) 3, type := 4, pos := "item.go:222", after := #[{ on := 13, ground := Go.Ground.data }, { on := 8, ground := Go.Ground.guard }], guard := some (8, false) }) (v := ?_) rfl (by kernel_rfl) (by kernel_rfl) (by kernel_rfl) (fun _ _ _ h => h) (Or.inl ⟨by rfl, ?_⟩) hH3 ?_
            rotate_left
            · (intro wz hSz; (try dsimp only at hSz); go_simp; try with_reducible rfl)
            simp only [Act.put, List.setIfInBounds_toArray, List.set_cons_zero, List.set_cons_succ]
            refine wpAnyH_take (i := 15) (oi := { dst := some 19, op := Go.Op.move (Go.Operand.tmp 18), type := 4, pos := "item.go:222", after := #[{ on := 14, ground := Go.Ground.data }, { on := 13, ground := Go.Ground.chain }, { on := 8, ground := Go.Ground.guard }], guard := some (8, false) }) (v := ?_) rfl (by kernel_rfl) (by kernel_rfl) (by kernel_rfl) (fun _ _ _ h => h) (Or.inl ⟨by rfl, ?_⟩) hH3 ?_
            rotate_left
            · (intro wz hSz; (try dsimp only at hSz); go_simp; try with_reducible rfl)
            simp only [Act.put, List.setIfInBounds_toArray, List.set_cons_zero, List.set_cons_succ]
            refine wpAnyH_take (i := 16) (oi := { dst := some 20, op := Go.Op.move (Go.Operand.tmp 0), type := 115, pos := "item.go:222", after := #[{ on := 15, ground := Go.Ground.guard }], guard := some (15, true) }) (v := ?_) rfl (by kernel_rfl) (by kernel_rfl) (by kernel_rfl) (fun _ _ _ h => h) (Or.inl ⟨by rfl, ?_⟩) hH3 ?_
            rotate_left
            · (intro wz hSz; (try dsimp only at hSz); go_simp; try with_reducible rfl)
            simp only [Act.put, List.setIfInBounds_toArray, List.set_cons_zero, List.set_cons_succ]
            refine wpAnyH_take (i := 17) (oi := { dst := some 21, op := Go.Op.nilCheck (Go.Operand.tmp 20), type := 0, pos := "item.go:222", after := #[{ on := 16, ground := Go.Ground.data }, { on := 15, ground := Go.Ground.guard }], guard := some (15, true) }) (v := ?_) rfl (by kernel_rfl) (by kernel_rfl) (by kernel_rfl) (fun _ _ _ h => h) (Or.inl ⟨by rfl, ?_⟩) hH3 ?_
            rotate_left
            · (intro wz hSz; (try dsimp only at hSz); go_simp; try with_reducible rfl)
            simp only [Act.put, List.setIfInBounds_toArray, List.set_cons_zero, List.set_cons_succ]
            refine wpAnyH_take (i := 18) (oi := { dst := some 22, op := Go.Op.fieldAddr 86 (Go.Operand.tmp 21) 0, type := 0, pos := "item.go:222", after := #[{ on := 17, ground := Go.Ground.data }, { on := 15, ground := Go.Ground.guard }], guard := some (15, true) }) (v := ?_) rfl (by kernel_rfl) (by kernel_rfl) (by kernel_rfl) (fun _ _ _ h => h) (Or.inl ⟨by rfl, ?_⟩) hH3 ?_
            rotate_left
            · (intro wz hSz; (try dsimp only at hSz); go_simp; try with_reducible rfl)
            simp only [Act.put, List.setIfInBounds_toArray, List.set_cons_zero, List.set_cons_succ]
            refine wpAnyH_take (i := 19) (oi := { dst := some 23, op := Go.Op.load 84 (Go.Operand.tmp 22), type := 84, pos := "item.go:222", after := #[{ on := 18, ground := Go.Ground.data }, { on := 15, ground := Go.Ground.guard }], guard := some (15, true) }) (v := ?_) rfl (by kernel_rfl) (by kernel_rfl) (by kernel_rfl) (fun _ _ _ h => h) (Or.inl ⟨by rfl, ?_⟩) hH3 ?_
            rotate_left
            · (intro wz hSz; have hcz := wm_open_at HM0.out (HW.out.below hSz); go_simp; try with_reducible rfl)
            simp only [Act.put, List.setIfInBounds_toArray, List.set_cons_zero, List.set_cons_succ]
            refine wpAnyH_take (i := 21) (oi := { dst := some 25, op := Go.Op.load 40 (Go.Operand.tmp 3), type := 40, pos := "item.go:222", after := #[{ on := 15, ground := Go.Ground.guard }], guard := some (15, true) }) (v := ?_) rfl (by kernel_rfl) (by kernel_rfl) (by kernel_rfl) (fun _ _ _ h => h) (Or.inl ⟨by rfl, ?_⟩) hH3 ?_
            rotate_left
            · (intro wz hSz; have hcz := True.intro; obtain ⟨b0, b1⟩ := O.lab_cells ((Below.block hSz _ (L.blk_lt HX.out)).trans HX.out); go_simp; try with_reducible rfl)
            simp only [Act.put, List.setIfInBounds_toArray, List.set_cons_zero, List.set_cons_succ]
            refine wpAnyH_ready (rs := [20]) (by kernel_rfl) (by simp) ?_
            refine AllReadyH.cons (o := { dst := some 24, op := Go.Op.call { callee := Go.Callee.value (Go.Operand.func 82), args := #[Go.Operand.tmp 23], argTypes := #[84] }, type := 40, pos := "item.go:222", after := #[{ on := 19, ground := Go.Ground.data }, { on := 15, ground := Go.Ground.chain }, { on := 15, ground := Go.Ground.guard }], guard := some (15, true) }) rfl (fun K hK => ?_) AllReadyH.nil
            go_simp
            with_reducible refine (HTOP.out.call (HBR.out.trans (Below.mono hH3.b HBR.out.size))).mono ?_
            rintro r wq4 ⟨rfl, hbq⟩
            go_wp2_with fail
            refine hK.out _ _ (Keeps.trans hH3 hbq) (fun hJ => ?_)
            refine wpAnyH_more (S' := Keeps wq4) (fun z hz => Keeps.trans hJ hz) _ _ _ _ ?_
            replace HBR := Lib.hid (HBR.out.trans (Below.mono hJ HBR.out.size))
            replace HX := Lib.hid ((Below.block hJ _ (L.blk_lt HX.out)).trans HX.out)
            replace HK := Lib.hid (HK.out.trans (HW.out.kp hJ))
            replace HW := Lib.hid (HW.out.below hJ)
            have hH4 : Keeps wq4 wq4 := Below.refl _ _
            clear hK K hbq hH3 hJ
            refine wpAnyH_take (i := 22) (oi := { dst := some 26, op := Go.Op.binOp Go.BinOp.neq 40 (Go.Operand.tmp 24) (Go.Operand.tmp 25) 40, type := 4, pos := "item.go:222", after := #[{ on := 20, ground := Go.Ground.data }, { on := 21, ground := Go.Ground.data }, { on := 15, ground := Go.Ground.guard }], guard := some (15, true) }) (v := ?_) rfl (by kernel_rfl) (by kernel_rfl) (by kernel_rfl) (fun _ _ _ h => h) (Or.inl ⟨by rfl, ?_⟩) hH4 ?_
            rotate_left
            · (intro wz hSz; (try dsimp only at hSz); go_simp; try with_reducible rfl)
            simp only [Act.put, List.setIfInBounds_toArray, List.set_cons_zero, List.set_cons_succ]
            refine wpAnyH_take (i := 23) (oi := { dst := some 27, op := Go.Op.pick (Go.Operand.tmp 19) (Go.Operand.tmp 26) (Go.Operand.const (Go.Value.bool false)), type := 4, pos := "item.go:222", after := #[{ on := 15, ground := Go.Ground.data }, { on := 22, ground := Go.Ground.data }, { on := 8, ground := Go.Ground.guard }], guard := some (8, false) }) (v := ?_) rfl (by kernel_rfl) (by kernel_rfl) (by kernel_rfl) (fun _ _ _ h => h) (Or.inl ⟨by rfl, ?_⟩) hH4 ?_
            rotate_left
            · (intro wz hSz; (try dsimp only at hSz); go_simp; try with_reducible rfl)
            simp only [Act.put, List.setIfInBounds_toArray, List.set_cons_zero, List.set_cons_succ]
            refine wpAnyH_take (i := 24) (oi := { dst := some 28, op := Go.Op.pick (Go.Operand.tmp 12) (Go.Operand.const (Go.Value.bool true)) (Go.Operand.tmp 27), type := 4, pos := "item.go:222", after := #[{ on := 8, ground := Go.Ground.data }, { on := 23, ground := Go.Ground.data }], guard := none }) (v := ?_) rfl (by kernel_rfl) (by kernel_rfl) (by kernel_rfl) (fun _ _ _ h => h) (Or.inl ⟨by rfl, ?_⟩) hH4 ?_
            rotate_left
            · (intro wz hSz; (try dsimp only at hSz); go_simp; try with_reducible rfl)
            simp only [Act.put, List.setIfInBounds_toArray, List.set_cons_zero, List.set_cons_succ]
            refine wpAnyH_done (by kernel_rfl) ?_ _
            have hr1 := hnx.1.pos
            have HLC := Lib.hid (leave_c HW.out (by simp only [List.length_cons]; omega) (by simp only [List.length_append, List.length_replicate]; omega) (by simp only [List.length_cons]; omega))
            have HNX := Lib.hid hnx
            clear hnx HTOP HDP hH4
            go_wp2_with fail
            with_reducible refine (HLC.out.call).mono ?_
            rintro e w9 ⟨rfl, ⟨g9, cap9, lv9, hW9⟩, hk9⟩
            have hx9 := (hk9.2 xb hxa (Nat.lt_succ_self _)).trans HX.out
            have HI9 := Lib.hid (show Wm w9 ⟨lo, a0, xb + 1⟩ wb r (out ++ List.replicate (j + 1) kEnd) g9 cap9 lv9 ∧ w9.heap[xb]? = some (.cells #[.int .i64 tl, .int .u64 (ac : Int)] 40 (0, 0)) ∧ Kp ⟨lo, a0, xb + 1⟩ W w9 ∧ Stk fl r ∧ popTo (tl, ac) r = popTo (tl, ac) op ∧ j + 1 + r.length = op.length ∧ (∀ y ∈ r, y.2 < 18446744073709551616) from ⟨by rw [List.replicate_succ', ← List.append_assoc]; exact hW9, hx9, HK.out.trans hk9, HNX.out.1, HNX.out.2, by have := HJL.out; simp at this; omega, fun y hy => HCS.out y (by simp [hy])⟩)
            clear hW9 hk9 hx9 HLC
            go_wp2_with fail
            go_roundg r.length
            case rel => exact ⟨g9, cap9, lv9, r, j + 1, Nat.le_refl _, HI9⟩
            case measure => simp at hm; omega
        · have hnx := pop_next (a := (al, ac)) hS hb hP (.inr ⟨h16, fun e => hl (congrArg Prod.fst e)⟩)
          have hne : (tl == al) = false := beq_eq_false_iff_ne.2 hl
          clear hS hP hbl hlen hJ h16
          go_wp2_with fail
          refine wp_region_held_drew (S := (Keeps wr)) (by kernel_rfl) (keeps_drew _) (fun hH0 => ?_)
          refine wpAnyH_take (i := 0) (oi := { dst := some 4, op := Go.Op.move (Go.Operand.tmp 0), type := 115, pos := "item.go:222", after := #[], guard := none }) (v := ?_) rfl (by kernel_rfl) (by kernel_rfl) (by kernel_rfl) (fun _ _ _ h => h) (Or.inl ⟨by rfl, ?_⟩) hH0 ?_
          rotate_left
          · (intro wz hSz; (try dsimp only at hSz); go_simp; try with_reducible rfl)
          simp only [Act.put, List.setIfInBounds_toArray, List.set_cons_zero, List.set_cons_succ]
          refine wpAnyH_take (i := 1) (oi := { dst := some 5, op := Go.Op.nilCheck (Go.Operand.tmp 4), type := 0, pos := "item.go:222", after := #[{ on := 0, ground := Go.Ground.data }], guard := none }) (v := ?_) rfl (by kernel_rfl) (by kernel_rfl) (by kernel_rfl) (fun _ _ _ h => h) (Or.inl ⟨by rfl, ?_⟩) hH0 ?_
          rotate_left
          · (intro wz hSz; (try dsimp only at hSz); go_simp; try with_reducible rfl)
          simp only [Act.put, List.setIfInBounds_toArray, List.set_cons_zero, List.set_cons_succ]
          refine wpAnyH_take (i := 2) (oi := { dst := some 6, op := Go.Op.fieldAddr 86 (Go.Operand.tmp 5) 0, type := 0, pos := "item.go:222", after := #[{ on := 1, ground := Go.Ground.data }], guard := none }) (v := ?_) rfl (by kernel_rfl) (by kernel_rfl) (by kernel_rfl) (fun _ _ _ h => h) (Or.inl ⟨by rfl, ?_⟩) hH0 ?_
          rotate_left
          · (intro wz hSz; (try dsimp only at hSz); go_simp; try with_reducible rfl)
          simp only [Act.put, List.setIfInBounds_toArray, List.set_cons_zero, List.set_cons_succ]
          refine wpAnyH_take (i := 3) (oi := { dst := some 7, op := Go.Op.load 84 (Go.Operand.tmp 6), type := 84, pos := "item.go:222", after := #[{ on := 2, ground := Go.Ground.data }], guard := none }) (v := ?_) rfl (by kernel_rfl) (by kernel_rfl) (by kernel_rfl) (fun _ _ _ h => h) (Or.inl ⟨by rfl, ?_⟩) hH0 ?_
          rotate_left
          · (intro wz hSz; have hcz := wm_open_at HM0.out (HW.out.below hSz); go_simp; try with_reducible rfl)
          simp only [Act.put, List.setIfInBounds_toArray, List.set_cons_zero, List.set_cons_succ]
          refine wpAnyH_take (i := 5) (oi := { dst := some 9, op := Go.Op.load 40 (Go.Operand.tmp 3), type := 40, pos := "item.go:222", after := #[], guard := none }) (v := ?_) rfl (by kernel_rfl) (by kernel_rfl) (by kernel_rfl) (fun _ _ _ h => h) (Or.inl ⟨by rfl, ?_⟩) hH0 ?_
          rotate_left
          · (intro wz hSz; have hcz := True.intro; obtain ⟨b0, b1⟩ := O.lab_cells ((Below.block hSz _ (L.blk_lt HX.out)).trans HX.out); go_simp; try with_reducible rfl)
          simp only [Act.put, List.setIfInBounds_toArray, List.set_cons_zero, List.set_cons_succ]
          refine wpAnyH_ready (rs := [4]) (by kernel_rfl) (by simp) ?_
          refine AllReadyH.cons (o := { dst := some 8, op := Go.Op.call { callee := Go.Callee.value (Go.Operand.func 82), args := #[Go.Operand.tmp 7], argTypes := #[84] }, type := 40, pos := "item.go:222", after := #[{ on := 3, ground := Go.Ground.data }], guard := none }) rfl (fun K hK => ?_) AllReadyH.nil
          go_simp
          with_reducible refine (HTOP.out.call (HBR.out.trans (Below.mono hH0.b HBR.out.size))).mono ?_
          rintro r wq1 ⟨rfl, hbq⟩
          go_wp2_with fail
          refine hK.out _ _ (Keeps.trans hH0 hbq) (fun hJ => ?_)
          refine wpAnyH_more (S' := Keeps wq1) (fun z hz => Keeps.trans hJ hz) _ _ _ _ ?_
          replace HBR := Lib.hid (HBR.out.trans (Below.mono hJ HBR.out.size))
          replace HX := Lib.hid ((Below.block hJ _ (L.blk_lt HX.out)).trans HX.out)
          replace HK := Lib.hid (HK.out.trans (HW.out.kp hJ))
          replace HW := Lib.hid (HW.out.below hJ)
          have hH1 : Keeps wq1 wq1 := Below.refl _ _
          clear hK K hbq hH0 hJ
          refine wpAnyH_ready (rs := [6]) (by kernel_rfl) (by simp) ?_
          refine AllReadyH.cons (o := { dst := some 10, op := Go.Op.call { callee := Go.Callee.value (Go.Operand.func 20), args := #[Go.Operand.tmp 8, Go.Operand.tmp 9], argTypes := #[40, 40] }, type := 4, pos := "item.go:222", after := #[{ on := 4, ground := Go.Ground.data }, { on := 5, ground := Go.Ground.data }, { on := 4, ground := Go.Ground.chain }], guard := none }) rfl (fun K hK => ?_) AllReadyH.nil
          go_simp
          with_reducible refine ((below_c HBL.out hac HCT.out).call _).mono ?_
          rintro r wq2 ⟨rfl, hbq⟩
          go_wp2_with fail
          refine hK.out _ _ (Keeps.trans hH1 hbq) (fun hJ => ?_)
          refine wpAnyH_more (S' := Keeps wq2) (fun z hz => Keeps.trans hJ hz) _ _ _ _ ?_
          replace HBR := Lib.hid (HBR.out.trans (Below.mono hJ HBR.out.size))
          replace HX := Lib.hid ((Below.block hJ _ (L.blk_lt HX.out)).trans HX.out)
          replace HK := Lib.hid (HK.out.trans (HW.out.kp hJ))
          replace HW := Lib.hid (HW.out.below hJ)
          have hH2 : Keeps wq2 wq2 := Below.refl _ _
          clear hK K hbq hH1 hJ
          refine wpAnyH_take (i := 7) (oi := { dst := some 11, op := Go.Op.unOp Go.UnOp.not 4 (Go.Operand.tmp 10), type := 4, pos := "item.go:222", after := #[{ on := 6, ground := Go.Ground.data }], guard := none }) (v := ?_) rfl (by kernel_rfl) (by kernel_rfl) (by kernel_rfl) (fun _ _ _ h => h) (Or.inl ⟨by rfl, ?_⟩) hH2 ?_
          rotate_left
          · (intro wz hSz; (try dsimp only at hSz); go_simp; try with_reducible rfl)
          simp only [Act.put, List.setIfInBounds_toArray, List.set_cons_zero, List.set_cons_succ]
          refine wpAnyH_take (i := 8) (oi := { dst := some 12, op := Go.Op.move (Go.Operand.tmp 11), type := 4, pos := "item.go:222", after := #[{ on := 7, ground := Go.Ground.data }, { on := 6, ground := Go.Ground.chain }], guard := none }) (v := ?_) rfl (by kernel_rfl) (by kernel_rfl) (by kernel_rfl) (fun _ _ _ h => h) (Or.inl ⟨by rfl, ?_⟩) hH2 ?_
          rotate_left
          · (intro wz hSz; (try dsimp only at hSz); go_simp; try with_reducible rfl)
          simp only [Act.put, List.setIfInBounds_toArray, List.set_cons_zero, List.set_cons_succ]
          refine wpAnyH_take (i := 9) (oi := { dst := some 13, op := Go.Op.move (Go.Operand.tmp 0), type := 115, pos := "item.go:222", after := #[{ on := 8, ground := Go.Ground.guard }], guard := some (8, false) }) (v := ?_) rfl (by kernel_rfl) (by kernel_rfl) (by kernel_rfl) (fun _ _ _ h => h) (Or.inl ⟨by rfl, ?_⟩) hH2 ?_
          rotate_left
          · (intro wz hSz; (try dsimp only at hSz); go_simp; try with_reducible rfl)
          simp only [Act.put, List.setIfInBounds_toArray, List.set_cons_zero, List.set_cons_succ]
          refine wpAnyH_take (i := 10) (oi := { dst := some 14, op := Go.Op.nilCheck (Go.Operand.tmp 13), type := 0, pos := "item.go:222", after := #[{ on := 9, ground := Go.Ground.data }, { on := 8, ground := Go.Ground.guard }], guard := some (8, false) }) (v := ?_) rfl (by kernel_rfl) (by kernel_rfl) (by kernel_rfl) (fun _ _ _ h => h) (Or.inl ⟨by rfl, ?_⟩) hH2 ?_
          rotate_left
          · (intro wz hSz; (try dsimp only at hSz); go_simp; try with_reducible rfl)
          simp only [Act.put, List.setIfInBounds_toArray, List.set_cons_zero, List.set_cons_succ]
          refine wpAnyH_take (i := 11) (oi := { dst := some 15, op := Go.Op.fieldAddr 86 (Go.Operand.tmp 14) 0, type := 0, pos := "item.go:222", after := #[{ on := 10, ground := Go.Ground.data }, { on := 8, ground := Go.Ground.guard }], guard := some (8, false) }) (v := ?_) rfl (by kernel_rfl) (by kernel_rfl) (by kernel_rfl) (fun _ _ _ h => h) (Or.inl ⟨by rfl, ?_⟩) hH2 ?_
          rotate_left
          · (intro wz hSz; (try dsimp only at hSz); go_simp; try with_reducible rfl)
          simp only [Act.put, List.setIfInBounds_toArray, List.set_cons_zero, List.set_cons_succ]
          refine wpAnyH_take (i := 12) (oi := { dst := some 16, op := Go.Op.load 84 (Go.Operand.tmp 15), type := 84, pos := "item.go:222", after := #[{ on := 11, ground := Go.Ground.data }, { on := 8, ground := Go.Ground.guard }], guard := some (8, false) }) (v := ?_) rfl (by kernel_rfl) (by kernel_rfl) (by kernel_rfl) (fun _ _ _ h => h) (Or.inl ⟨by rfl, ?_⟩) hH2 ?_
          rotate_left
          · (intro wz hSz; have hcz := wm_open_at HM0.out (HW.out.below hSz); go_simp; try with_reducible rfl)
          simp only [Act.put, List.setIfInBounds_toArray, List.set_cons_zero, List.set_cons_succ]
          refine wpAnyH_ready (rs := [13]) (by kernel_rfl) (by simp) ?_
          refine AllReadyH.cons (o := { dst := some 17, op := Go.Op.call { callee := Go.Callee.value (Go.Operand.func 52), args := #[Go.Operand.tmp 16], argTypes := #[84] }, type := 3, pos := "item.go:222", after := #[{ on := 12, ground := Go.Ground.data }, { on := 8, ground := Go.Ground.chain }, { on := 8, ground := Go.Ground.guard }], guard := some (8, false) }) rfl (fun K hK => ?_) AllReadyH.nil
          go_simp
          with_reducible refine (HDP.out.call _).mono ?_
          rintro r wq3 ⟨rfl, hw9⟩
          have hbq := below_eq hw9
          go_wp2_with fail
          refine hK.out _ _ (Keeps.trans hH2 hbq) (fun hJ => ?_)
          refine wpAnyH_more (S' := Keeps wq3) (fun z hz => Keeps.trans hJ hz) _ _ _ _ ?_
          replace HBR := Lib.hid (HBR.out.trans (Below.mono hJ HBR.out.size))
          replace HX := Lib.hid ((Below.block hJ _ (L.blk_lt HX.out)).trans HX.out)
          replace HK := Lib.hid (HK.out.trans (HW.out.kp hJ))
          replace HW := Lib.hid (HW.out.below hJ)
          have hH3 : Keeps wq3 wq3 := Below.refl _ _
          clear hK K hbq hH2 hJ
          refine wpAnyH_take (i := 14) (oi := { dst := some 18, op := Go.Op.binOp Go.BinOp.eql 3 (Go.Operand.tmp 17) (Go.Operand.const (Go.Value.int Go.IntKind.i64 16)) 3, type := 4, pos := "item.go:222", after := #[{ on := 13, ground := Go.Ground.data }, { on := 8, ground := Go.Ground.guard }], guard := some (8, false) }) (v := ?_) rfl (by kernel_rfl) (by kernel_rfl) (by kernel_rfl) (fun _ _ _ h => h) (Or.inl ⟨by rfl, ?_⟩) hH3 ?_
          rotate_left
          · (intro wz hSz; (try dsimp only at hSz); go_simp; try with_reducible rfl)
          simp only [Act.put, List.setIfInBounds_toArray, List.set_cons_zero, List.set_cons_succ]
          refine wpAnyH_take (i := 15) (oi := { dst := some 19, op := Go.Op.move (Go.Operand.tmp 18), type := 4, pos := "item.go:222", after := #[{ on := 14, ground := Go.Ground.data }, { on := 13, ground := Go.Ground.chain }, { on := 8, ground := Go.Ground.guard }], guard := some (8, false) }) (v := ?_) rfl (by kernel_rfl) (by kernel_rfl) (by kernel_rfl) (fun _ _ _ h => h) (Or.inl ⟨by rfl, ?_⟩) hH3 ?_
          rotate_left
          · (intro wz hSz; (try dsimp only at hSz); go_simp; try with_reducible rfl)
          simp only [Act.put, List.setIfInBounds_toArray, List.set_cons_zero, List.set_cons_succ]
          refine wpAnyH_take (i := 16) (oi := { dst := some 20, op := Go.Op.move (Go.Operand.tmp 0), type := 115, pos := "item.go:222", after := #[{ on := 15, ground := Go.Ground.guard }], guard := some (15, true) }) (v := ?_) rfl (by kernel_rfl) (by kernel_rfl) (by kernel_rfl) (fun _ _ _ h => h) (Or.inl ⟨by rfl, ?_⟩) hH3 ?_
          rotate_left
          · (intro wz hSz; (try dsimp only at hSz); go_simp; try with_reducible rfl)
          simp only [Act.put, List.setIfInBounds_toArray, List.set_cons_zero, List.set_cons_succ]
          refine wpAnyH_take (i := 17) (oi := { dst := some 21, op := Go.Op.nilCheck (Go.Operand.tmp 20), type := 0, pos := "item.go:222", after := #[{ on := 16, ground := Go.Ground.data }, { on := 15, ground := Go.Ground.guard }], guard := some (15, true) }) (v := ?_) rfl (by kernel_rfl) (by kernel_rfl) (by kernel_rfl) (fun _ _ _ h => h) (Or.inl ⟨by rfl, ?_⟩) hH3 ?_
          rotate_left
          · (intro wz hSz; (try dsimp only at hSz); go_simp; try with_reducible rfl)
          simp only [Act.put, List.setIfInBounds_toArray, List.set_cons_zero, List.set_cons_succ]
          refine wpAnyH_take (i := 18) (oi := { dst := some 22, op := Go.Op.fieldAddr 86 (Go.Operand.tmp 21) 0, type := 0, pos := "item.go:222", after := #[{ on := 17, ground := Go.Ground.data }, { on := 15, ground := Go.Ground.guard }], guard := some (15, true) }) (v := ?_) rfl (by kernel_rfl) (by kernel_rfl) (by kernel_rfl) (fun _ _ _ h => h) (Or.inl ⟨by rfl, ?_⟩) hH3 ?_
          rotate_left
          · (intro wz hSz; (try dsimp only at hSz); go_simp; try with_reducible rfl)
          simp only [Act.put, List.setIfInBounds_toArray, List.set_cons_zero, List.set_cons_succ]
          refine wpAnyH_take (i := 19) (oi := { dst := some 23, op := Go.Op.load 84 (Go.Operand.tmp 22), type := 84, pos := "item.go:222", after := #[{ on := 18, ground := Go.Ground.data }, { on := 15, ground := Go.Ground.guard }], guard := some (15, true) }) (v := ?_) rfl (by kernel_rfl) (by kernel_rfl) (by kernel_rfl) (fun _ _ _ h => h) (Or.inl ⟨by rfl, ?_⟩) hH3 ?_
          rotate_left
          · (intro wz hSz; have hcz := wm_open_at HM0.out (HW.out.below hSz); go_simp; try with_reducible rfl)
          simp only [Act.put, List.setIfInBounds_toArray, List.set_cons_zero, List.set_cons_succ]
          refine wpAnyH_take (i := 21) (oi := { dst := some 25, op := Go.Op.load 40 (Go.Operand.tmp 3), type := 40, pos := "item.go:222", after := #[{ on := 15, ground := Go.Ground.guard }], guard := some (15, true) }) (v := ?_) rfl (by kernel_rfl) (by kernel_rfl) (by kernel_rfl) (fun _ _ _ h => h) (Or.inl ⟨by rfl, ?_⟩) hH3 ?_
          rotate_left
          · (intro wz hSz; have hcz := True.intro; obtain ⟨b0, b1⟩ := O.lab_cells ((Below.block hSz _ (L.blk_lt HX.out)).trans HX.out); go_simp; try with_reducible rfl)
          simp only [Act.put, List.setIfInBounds_toArray, List.set_cons_zero, List.set_cons_succ]
          refine wpAnyH_ready (rs := [20]) (by kernel_rfl) (by simp) ?_
          refine AllReadyH.cons (o := { dst := some 24, op := Go.Op.call { callee := Go.Callee.value (Go.Operand.func 82), args := #[Go.Operand.tmp 23], argTypes := #[84] }, type := 40, pos := "item.go:222", after := #[{ on := 19, ground := Go.Ground.data }, { on := 15, ground := Go.Ground.chain }, { on := 15, ground := Go.Ground.guard }], guard := some (15, true) }) rfl (fun K hK => ?_) AllReadyH.nil
          go_simp
          with_reducible refine (HTOP.out.call (HBR.out.trans (Below.mono hH3.b HBR.out.size))).mono ?_
          rintro r wq4 ⟨rfl, hbq⟩
          go_wp2_with fail
          refine hK.out _ _ (Keeps.trans hH3 hbq) (fun hJ => ?_)
          refine wpAnyH_more (S' := Keeps wq4) (fun z hz => Keeps.trans hJ hz) _ _ _ _ ?_
          replace HBR := Lib.hid (HBR.out.trans (Below.mono hJ HBR.out.size))
          replace HX := Lib.hid ((Below.block hJ _ (L.blk_lt HX.out)).trans HX.out)
          replace HK := Lib.hid (HK.out.trans (HW.out.kp hJ))
          replace HW := Lib.hid (HW.out.below hJ)
          have hH4 : Keeps wq4 wq4 := Below.refl _ _
          clear hK K hbq hH3 hJ
          refine wpAnyH_take (i := 22) (oi := { dst := some 26, op := Go.Op.binOp Go.BinOp.neq 40 (Go.Operand.tmp 24) (Go.Operand.tmp 25) 40, type := 4, pos := "item.go:222", after := #[{ on := 20, ground := Go.Ground.data }, { on := 21, ground := Go.Ground.data }, { on := 15, ground := Go.Ground.guard }], guard := some (15, true) }) (v := ?_) rfl (by kernel_rfl) (by kernel_rfl) (by kernel_rfl) (fun _ _ _ h => h) (Or.inl ⟨by rfl, ?_⟩) hH4 ?_
          rotate_left
          · (intro wz hSz; (try dsimp only at hSz); go_simp; try with_reducible rfl)
          simp only [Act.put, List.setIfInBounds_toArray, List.set_cons_zero, List.set_cons_succ]
          refine wpAnyH_take (i := 23) (oi := { dst := some 27, op := Go.Op.pick (Go.Operand.tmp 19) (Go.Operand.tmp 26) (Go.Operand.const (Go.Value.bool false)), type := 4, pos := "item.go:222", after := #[{ on := 15, ground := Go.Ground.data }, { on := 22, ground := Go.Ground.data }, { on := 8, ground := Go.Ground.guard }], guard := some (8, false) }) (v := ?_) rfl (by kernel_rfl) (by kernel_rfl) (by kernel_rfl) (fun _ _ _ h => h) (Or.inl ⟨by rfl, ?_⟩) hH4 ?_
          rotate_left
          · (intro wz hSz; (try dsimp only at hSz); go_simp; try with_reducible rfl)
          simp only [Act.put, List.setIfInBounds_toArray, List.set_cons_zero, List.set_cons_succ]
          refine wpAnyH_take (i := 24) (oi := { dst := some 28, op := Go.Op.pick (Go.Operand.tmp 12) (Go.Operand.const (Go.Value.bool true)) (Go.Operand.tmp 27), type := 4, pos := "item.go:222", after := #[{ on := 8, ground := Go.Ground.data }, { on := 23, ground := Go.Ground.data }], guard := none }) (v := ?_) rfl (by kernel_rfl) (by kernel_rfl) (by kernel_rfl) (fun _ _ _ h => h) (Or.inl ⟨by rfl, ?_⟩) hH4 ?_
          rotate_left
          · (intro wz hSz; (try dsimp only at hSz); go_simp; try with_reducible rfl)
          simp only [Act.put, List.setIfInBounds_toArray, List.set_cons_zero, List.set_cons_succ]
          refine wpAnyH_done (by kernel_rfl) ?_ _
          have hr1 := hnx.1.pos
          have HLC := Lib.hid (leave_c HW.out (by simp only [List.length_cons]; omega) (by simp only [List.length_append, List.length_replicate]; omega) (by simp only [List.length_cons]; omega))
          have HNX := Lib.hid hnx
          clear hnx HTOP HDP hH4
          go_wp2_with fail
          with_reducible refine (HLC.out.call).mono ?_
          rintro e w9 ⟨rfl, ⟨g9, cap9, lv9, hW9⟩, hk9⟩
          have hx9 := (hk9.2 xb hxa (Nat.lt_succ_self _)).trans HX.out
          have HI9 := Lib.hid (show Wm w9 ⟨lo, a0, xb + 1⟩ wb r (out ++ List.replicate (j + 1) kEnd) g9 cap9 lv9 ∧ w9.heap[xb]? = some (.cells #[.int .i64 al, .int .u64 (ac : Int)] 40 (0, 0)) ∧ Kp ⟨lo, a0, xb + 1⟩ W w9 ∧ Stk fl r ∧ popTo (al, ac) r = popTo (al, ac) op ∧ j + 1 + r.length = op.length ∧ (∀ y ∈ r, y.2 < 18446744073709551616) from ⟨by rw [List.replicate_succ', ← List.append_assoc]; exact hW9, hx9, HK.out.trans hk9, HNX.out.1, HNX.out.2, by have := HJL.out; simp at this; omega, fun y hy => HCS.out y (by simp [hy])⟩)
          clear hW9 hk9 hx9 HLC
          go_wp2_with fail
          go_roundg r.length
          case rel => exact ⟨g9, cap9, lv9, r, j + 1, Nat.le_refl _, HI9⟩
          case measure => simp at hm; omega
      · have hd : ((r.length : Int) == 16) = false := beq_eq_false_iff_ne.2 (by omega)
        have HEX := Lib.hid (popTo_stop (a := (al, ac)) (t := (tl, tc)) (r := r) hbl (fun e => absurd e h16))
        by_cases hl : tl = al
        · subst hl
          by_cases hc : tc = ac
          · subst hc
            clear hS hP hbl hlen hJ h16
            go_wp2_with fail
            refine wp_region_held_drew (S := (Keeps wr)) (by kernel_rfl) (keeps_drew _) (fun hH0 => ?_)
            refine wpAnyH_take (i := 0) (oi := { dst := some 4, op := Go.Op.move (Go.Operand.tmp 0), type := 115, pos := "item.go:222", after := #[], guard := none }) (v := ?_) rfl (by kernel_rfl) (by kernel_rfl) (by kernel_rfl) (fun _ _ _ h => h) (Or.inl ⟨by rfl, ?_⟩) hH0 ?_
            rotate_left
            · (intro wz hSz; (try dsimp only at hSz); go_simp; try with_reducible rfl)
            simp only [Act.put, List.setIfInBounds_toArray, List.set_cons_zero, List.set_cons_succ]
            refine wpAnyH_take (i := 1) (oi := { dst := some 5, op := Go.Op.nilCheck (Go.Operand.tmp 4), type := 0, pos := "item.go:222", after := #[{ on := 0, ground := Go.Ground.data }], guard := none }) (v := ?_) rfl (by kernel_rfl) (by kernel_rfl) (by kernel_rfl) (fun _ _ _ h => h) (Or.inl ⟨by rfl, ?_⟩) hH0 ?_
            rotate_left
            · (intro wz hSz; (try dsimp only at hSz); go_simp; try with_reducible rfl)
            simp only [Act.put, List.setIfInBounds_toArray, List.set_cons_zero, List.set_cons_succ]
            refine wpAnyH_take (i := 2) (oi := { dst := some 6, op := Go.Op.fieldAddr 86 (Go.Operand.tmp 5) 0, type := 0, pos := "item.go:222", after := #[{ on := 1, ground := Go.Ground.data }], guard := none }) (v := ?_) rfl (by kernel_rfl) (by kernel_rfl) (by kernel_rfl) (fun _ _ _ h => h) (Or.inl ⟨by rfl, ?_⟩) hH0 ?_
            rotate_left
            · (intro wz hSz; (try dsimp only at hSz); go_simp; try with_reducible rfl)
            simp only [Act.put, List.setIfInBounds_toArray, List.set_cons_zero, List.set_cons_succ]
            refine wpAnyH_take (i := 3) (oi := { dst := some 7, op := Go.Op.load 84 (Go.Operand.tmp 6), type := 84, pos := "item.go:222", after := #[{ on := 2, ground := Go.Ground.data }], guard := none }) (v := ?_) rfl (by kernel_rfl) (by kernel_rfl) (by kernel_rfl) (fun _ _ _ h => h) (Or.inl ⟨by rfl, ?_⟩) hH0 ?_
            rotate_left
            · (intro wz hSz; have hcz := wm_open_at HM0.out (HW.out.below hSz); go_simp; try with_reducible rfl)
            simp only [Act.put, List.setIfInBounds_toArray, List.set_cons_zero, List.set_cons_succ]
            refine wpAnyH_take (i := 5) (oi := { dst := some 9, op := Go.Op.load 40 (Go.Operand.tmp 3), type := 40, pos := "item.go:222", after := #[], guard := none }) (v := ?_) rfl (by kernel_rfl) (by kernel_rfl) (by kernel_rfl) (fun _ _ _ h => h) (Or.inl ⟨by rfl, ?_⟩) hH0 ?_
            rotate_left
            · (intro wz hSz; have hcz := True.intro; obtain ⟨b0, b1⟩ := O.lab_cells ((Below.block hSz _ (L.blk_lt HX.out)).trans HX.out); go_simp; try with_reducible rfl)
            simp only [Act.put, List.setIfInBounds_toArray, List.set_cons_zero, List.set_cons_succ]
            refine wpAnyH_ready (rs := [4]) (by kernel_rfl) (by simp) ?_
            refine AllReadyH.cons (o := { dst := some 8, op := Go.Op.call { callee := Go.Callee.value (Go.Operand.func 82), args := #[Go.Operand.tmp 7], argTypes := #[84] }, type := 40, pos := "item.go:222", after := #[{ on := 3, ground := Go.Ground.data }], guard := none }) rfl (fun K hK => ?_) AllReadyH.nil
            go_simp
            with_reducible refine (HTOP.out.call (HBR.out.trans (Below.mono hH0.b HBR.out.size))).mono ?_
            rintro r wq1 ⟨rfl, hbq⟩
            go_wp2_with fail
            refine hK.out _ _ (Keeps.trans hH0 hbq) (fun hJ => ?_)
            refine wpAnyH_more (S' := Keeps wq1) (fun z hz => Keeps.trans hJ hz) _ _ _ _ ?_
            replace HBR := Lib.hid (HBR.out.trans (Below.mono hJ HBR.out.size))
            replace HX := Lib.hid ((Below.block hJ _ (L.blk_lt HX.out)).trans HX.out)
            replace HK := Lib.hid (HK.out.trans (HW.out.kp hJ))
            replace HW := Lib.hid (HW.out.below hJ)
            have hH1 : Keeps wq1 wq1 := Below.refl _ _
            clear hK K hbq hH0 hJ
            refine wpAnyH_ready (rs := [6]) (by kernel_rfl) (by simp) ?_
            refine AllReadyH.cons (o := { dst := some 10, op := Go.Op.call { callee := Go.Callee.value (Go.Operand.func 20), args := #[Go.Operand.tmp 8, Go.Operand.tmp 9], argTypes := #[40, 40] }, type := 4, pos := "item.go:222", after := #[{ on := 4, ground := Go.Ground.data }, { on := 5, ground := Go.Ground.data }, { on := 4, ground := Go.Ground.chain }], guard := none }) rfl (fun K hK => ?_) AllReadyH.nil
            go_simp
            with_reducible refine ((below_c HBL.out hac HCT.out).call _).mono ?_
            rintro r wq2 ⟨rfl, hbq⟩
            go_wp2_with fail
            refine hK.out _ _ (Keeps.trans hH1 hbq) (fun hJ => ?_)
            refine wpAnyH_more (S' := Keeps wq2) (fun z hz => Keeps.trans hJ hz) _ _ _ _ ?_
            replace HBR := Lib.hid (HBR.out.trans (Below.mono hJ HBR.out.size))
            replace HX := Lib.hid ((Below.block hJ _ (L.blk_lt HX.out)).trans HX.out)
            replace HK := Lib.hid (HK.out.trans (HW.out.kp hJ))
            replace HW := Lib.hid (HW.out.below hJ)
            have hH2 : Keeps wq2 wq2 := Below.refl _ _
            clear hK K hbq hH1 hJ
            refine wpAnyH_take (i := 7) (oi := { dst := some 11, op := Go.Op.unOp Go.UnOp.not 4 (Go.Operand.tmp 10), type := 4, pos := "item.go:222", after := #[{ on := 6, ground := Go.Ground.data }], guard := none }) (v := ?_) rfl (by kernel_rfl) (by kernel_rfl) (by kernel_rfl) (fun _ _ _ h => h) (Or.inl ⟨by rfl, ?_⟩) hH2 ?_
            rotate_left
            · (intro wz hSz; (try dsimp only at hSz); go_simp; try with_reducible rfl)
            simp only [Act.put, List.setIfInBounds_toArray, List.set_cons_zero, List.set_cons_succ]
            refine wpAnyH_take (i := 8) (oi := { dst := some 12, op := Go.Op.move (Go.Operand.tmp 11), type := 4, pos := "item.go:222", after := #[{ on := 7, ground := Go.Ground.data }, { on := 6, ground := Go.Ground.chain }], guard := none }) (v := ?_) rfl (by kernel_rfl) (by kernel_rfl) (by kernel_rfl) (fun _ _ _ h => h) (Or.inl ⟨by rfl, ?_⟩) hH2 ?_
            rotate_left
            · (intro wz hSz; (try dsimp only at hSz); go_simp; try with_reducible rfl)
            simp only [Act.put, List.setIfInBounds_toArray, List.set_cons_zero, List.set_cons_succ]
            refine wpAnyH_take (i := 9) (oi := { dst := some 13, op := Go.Op.move (Go.Operand.tmp 0), type := 115, pos := "item.go:222", after := #[{ on := 8, ground := Go.Ground.guard }], guard := some (8, false) }) (v := ?_) rfl (by kernel_rfl) (by kernel_rfl) (by kernel_rfl) (fun _ _ _ h => h) (Or.inl ⟨by rfl, ?_⟩) hH2 ?_
            rotate_left
            · (intro wz hSz; (try dsimp only at hSz); go_simp; try with_reducible rfl)
            simp only [Act.put, List.setIfInBounds_toArray, List.set_cons_zero, List.set_cons_succ]
            refine wpAnyH_take (i := 10) (oi := { dst := some 14, op := Go.Op.nilCheck (Go.Operand.tmp 13), type := 0, pos := "item.go:222", after := #[{ on := 9, ground := Go.Ground.data }, { on := 8, ground := Go.Ground.guard }], guard := some (8, false) }) (v := ?_) rfl (by kernel_rfl) (by kernel_rfl) (by kernel_rfl) (fun _ _ _ h => h) (Or.inl ⟨by rfl, ?_⟩) hH2 ?_
            rotate_left
            · (intro wz hSz; (try dsimp only at hSz); go_simp; try with_reducible rfl)
            simp only [Act.put, List.setIfInBounds_toArray, List.set_cons_zero, List.set_cons_succ]
            refine wpAnyH_take (i := 11) (oi := { dst := some 15, op := Go.Op.fieldAddr 86 (Go.Operand.tmp 14) 0, type := 0, pos := "item.go:222", after := #[{ on := 10, ground := Go.Ground.data }, { on := 8, ground := Go.Ground.guard }], guard := some (8, false) }) (v := ?_) rfl (by kernel_rfl) (by kernel_rfl) (by kernel_rfl) (fun _ _ _ h => h) (Or.inl ⟨by rfl, ?_⟩) hH2 ?_
            rotate_left
            · (intro wz hSz; (try dsimp only at hSz); go_simp; try with_reducible rfl)
            simp only [Act.put, List.setIfInBounds_toArray, List.set_cons_zero, List.set_cons_succ]
            refine wpAnyH_take (i := 12) (oi := { dst := some 16, op := Go.Op.load 84 (Go.Operand.tmp 15), type := 84, pos := "item.go:222", after := #[{ on := 11, ground := Go.Ground.data }, { on := 8, ground := Go.Ground.guard }], guard := some (8, false) }) (v := ?_) rfl (by kernel_rfl) (by kernel_rfl) (by kernel_rfl) (fun _ _ _ h => h) (Or.inl ⟨by rfl, ?_⟩) hH2 ?_
            rotate_left
            · (intro wz hSz; have hcz := wm_open_at HM0.out (HW.out.below hSz); go_simp; try with_reducible rfl)
            simp only [Act.put, List.setIfInBounds_toArray, List.set_cons_zero, List.set_cons_succ]
            refine wpAnyH_ready (rs := [13]) (by kernel_rfl) (by simp) ?_
            refine AllReadyH.cons (o := { dst := some 17, op := Go.Op.call { callee := Go.Callee.value (Go.Operand.func 52), args := #[Go.Operand.tmp 16], argTypes := #[84] }, type := 3, pos := "item.go:222", after := #[{ on := 12, ground := Go.Ground.data }, { on := 8, ground := Go.Ground.chain }, { on := 8, ground := Go.Ground.guard }], guard := some (8, false) }) rfl (fun K hK => ?_) AllReadyH.nil
            go_simp
            with_reducible refine (HDP.out.call _).mono ?_
            rintro r wq3 ⟨rfl, hw9⟩
            have hbq := below_eq hw9
            go_wp2_with fail
            refine hK.out _ _ (Keeps.trans hH2 hbq) (fun hJ => ?_)
            refine wpAnyH_more (S' := Keeps wq3) (fun z hz => Keeps.trans hJ hz) _ _ _ _ ?_
            replace HBR := Lib.hid (HBR.out.trans (Below.mono hJ HBR.out.size))
            replace HX := Lib.hid ((Below.block hJ _ (L.blk_lt HX.out)).trans HX.out)
            replace HK := Lib.hid (HK.out.trans (HW.out.kp hJ))
            replace HW := Lib.hid (HW.out.below hJ)
            have hH3 : Keeps wq3 wq3 := Below.refl _ _
            clear hK K hbq hH2 hJ
            refine wpAnyH_take (i := 14) (oi := { dst := some 18, op := Go.Op.binOp Go.BinOp.eql 3 (Go.Operand.tmp 17) (Go.Operand.const (Go.Value.int Go.IntKind.i64 16)) 3, type := 4, pos := "item.go:222", after := #[{ on := 13, ground := Go.Ground.data }, { on := 8, ground := Go.Ground.guard }], guard := some (8, false) }) (v := ?_) rfl (by kernel_rfl) (by kernel_rfl) (by kernel_rfl) (fun _ _ _ h => h) (Or.inl ⟨by rfl, ?_⟩) hH3 ?_
            rotate_left
            · (intro wz hSz; (try dsimp only at hSz); go_simp; try with_reducible rfl)
            simp only [Act.put, List.setIfInBounds_toArray, List.set_cons_zero, List.set_cons_succ]
            refine wpAnyH_take (i := 15) (oi := { dst := some 19, op := Go.Op.move (Go.Operand.tmp 18), type := 4, pos := "item.go:222", after := #[{ on := 14, ground := Go.Ground.data }, { on := 13, ground := Go.Ground.chain }, { on := 8, ground := Go.Ground.guard }], guard := some (8, false) }) (v := ?_) rfl (by kernel_rfl) (by kernel_rfl) (by kernel_rfl) (fun _ _ _ h => h) (Or.inl ⟨by rfl, ?_⟩) hH3 ?_
            rotate_left
            · (intro wz hSz; (try dsimp only at hSz); go_simp; try with_reducible rfl)
            simp only [Act.put, List.setIfInBounds_toArray, List.set_cons_zero, List.set_cons_succ]
            refine wpAnyH_take (i := 16) (oi := { dst := some 20, op := Go.Op.move (Go.Operand.tmp 0), type := 115, pos := "item.go:222", after := #[{ on := 15, ground := Go.Ground.guard }], guard := some (15, true) }) (v := undef) rfl (by kernel_rfl) (by kernel_rfl) (by kernel_rfl) (fun _ _ _ h => h) (Or.inr ⟨by rfl, rfl⟩) hH3 ?_
            simp only [Act.put, List.setIfInBounds_toArray, List.set_cons_zero, List.set_cons_succ]
            refine wpAnyH_take (i := 17) (oi := { dst := some 21, op := Go.Op.nilCheck (Go.Operand.tmp 20), type := 0, pos := "item.go:222", after := #[{ on := 16, ground := Go.Ground.data }, { on := 15, ground := Go.Ground.guard }], guard := some (15, true) }) (v := undef) rfl (by kernel_rfl) (by kernel_rfl) (by kernel_rfl) (fun _ _ _ h => h) (Or.inr ⟨by rfl, rfl⟩) hH3 ?_
            simp only [Act.put, List.setIfInBounds_toArray, List.set_cons_zero, List.set_cons_succ]
            refine wpAnyH_take (i := 18) (oi := { dst := some 22, op := Go.Op.fieldAddr 86 (Go.Operand.tmp 21) 0, type := 0, pos := "item.go:222", after := #[{ on := 17, ground := Go.Ground.data }, { on := 15, ground := Go.Ground.guard }], guard := some (15, true) }) (v := undef) rfl (by kernel_rfl) (by kernel_rfl) (by kernel_rfl) (fun _ _ _ h => h) (Or.inr ⟨by rfl, rfl⟩) hH3 ?_
            simp only [Act.put, List.setIfInBounds_toArray, List.set_cons_zero, List.set_cons_succ]
            refine wpAnyH_take (i := 19) (oi := { dst := some 23, op := Go.Op.load 84 (Go.Operand.tmp 22), type := 84, pos := "item.go:222", after := #[{ on := 18, ground := Go.Ground.data }, { on := 15, ground := Go.Ground.guard }], guard := some (15, true) }) (v := undef) rfl (by kernel_rfl) (by kernel_rfl) (by kernel_rfl) (fun _ _ _ h => h) (Or.inr ⟨by rfl, rfl⟩) hH3 ?_
            simp only [Act.put, List.setIfInBounds_toArray, List.set_cons_zero, List.set_cons_succ]
            refine wpAnyH_take (i := 21) (oi := { dst := some 25, op := Go.Op.load 40 (Go.Operand.tmp 3), type := 40, pos := "item.go:222", after := #[{ on := 15, ground := Go.Ground.guard }], guard := some (15, true) }) (v := undef) rfl (by kernel_rfl) (by kernel_rfl) (by kernel_rfl) (fun _ _ _ h => h) (Or.inr ⟨by rfl, rfl⟩) hH3 ?_
            simp only [Act.put, List.setIfInBounds_toArray, List.set_cons_zero, List.set_cons_succ]
            refine wpAnyH_take (i := 20) (oi := { dst := some 24, op := Go.Op.call { callee := Go.Callee.value (Go.Operand.func 82), args := #[Go.Operand.tmp 23], argTypes := #[84] }, type := 40, pos := "item.go:222", after := #[{ on := 19, ground := Go.Ground.data }, { on := 15, ground := Go.Ground.chain }, { on := 15, ground := Go.Ground.guard }], guard := some (15, true) }) (v := undef) rfl (by kernel_rfl) (by kernel_rfl) (by kernel_rfl) (fun _ _ _ h => h) (Or.inr ⟨by rfl, rfl⟩) hH3 ?_
            simp only [Act.put, List.setIfInBounds_toArray, List.set_cons_zero, List.set_cons_succ]
            refine wpAnyH_take (i := 22) (oi := { dst := some 26, op := Go.Op.binOp Go.BinOp.neq 40 (Go.Operand.tmp 24) (Go.Operand.tmp 25) 40, type := 4, pos := "item.go:222", after := #[{ on := 20, ground := Go.Ground.data }, { on := 21, ground := Go.Ground.data }, { on := 15, ground := Go.Ground.guard }], guard := some (15, true) }) (v := undef) rfl (by kernel_rfl) (by kernel_rfl) (by kernel_rfl) (fun _ _ _ h => h) (Or.inr ⟨by rfl, rfl⟩) hH3 ?_
            simp only [Act.put, List.setIfInBounds_toArray, List.set_cons_zero, List.set_cons_succ]
            refine wpAnyH_take (i := 23) (oi := { dst := some 27, op := Go.Op.pick (Go.Operand.tmp 19) (Go.Operand.tmp 26) (Go.Operand.const (Go.Value.bool false)), type := 4, pos := "item.go:222", after := #[{ on := 15, ground := Go.Ground.data }, { on := 22, ground := Go.Ground.data }, { on := 8, ground := Go.Ground.guard }], guard := some (8, false) }) (v := ?_) rfl (by kernel_rfl) (by kernel_rfl) (by kernel_rfl) (fun _ _ _ h => h) (Or.inl ⟨by rfl, ?_⟩) hH3 ?_
            rotate_left
            · (intro wz hSz; (try dsimp only at hSz); go_simp; try with_reducible rfl)
            simp only [Act.put, List.setIfInBounds_toArray, List.set_cons_zero, List.set_cons_succ]
            refine wpAnyH_take (i := 24) (oi := { dst := some 28, op := Go.Op.pick (Go.Operand.tmp 12) (Go.Operand.const (Go.Value.bool true)) (Go.Operand.tmp 27), type := 4, pos := "item.go:222", after := #[{ on := 8, ground := Go.Ground.data }, { on := 23, ground := Go.Ground.data }], guard := none }) (v := ?_) rfl (by kernel_rfl) (by kernel_rfl) (by kernel_rfl) (fun _ _ _ h => h) (Or.inl ⟨by rfl, ?_⟩) hH3 ?_
            rotate_left
            · (intro wz hSz; (try dsimp only at hSz); go_simp; try with_reducible rfl)
            simp only [Act.put, List.setIfInBounds_toArray, List.set_cons_zero, List.set_cons_succ]
            refine wpAnyH_done (by kernel_rfl) ?_ _
            obtain ⟨w5, hw5⟩ : ∃ w5 : World, w5 = wq3 := ⟨_, rfl⟩
            rw [← hw5] at HW HX HK HBR ⊢
            clear hw5 hH3 HDP
            go_wp2_with fail
            refine wp_region_held_drew (S := (Keeps w5)) (by kernel_rfl) (keeps_drew _) (fun hJJ0 => ?_)
            refine wpAnyH_take (i := 0) (oi := { dst := some 31, op := Go.Op.move (Go.Operand.tmp 0), type := 115, pos := "item.go:225", after := #[], guard := none }) (v := ?_) rfl (by kernel_rfl) (by kernel_rfl) (by kernel_rfl) (fun _ _ _ h => h) (Or.inl ⟨by rfl, ?_⟩) hJJ0 ?_
            rotate_left
            · (intro wz hSz; (try dsimp only at hSz); go_simp; try with_reducible rfl)
            simp only [Act.put, List.setIfInBounds_toArray, List.set_cons_zero, List.set_cons_succ]
            refine wpAnyH_take (i := 1) (oi := { dst := some 32, op := Go.Op.nilCheck (Go.Operand.tmp 31), type := 0, pos := "item.go:225", after := #[{ on := 0, ground := Go.Ground.data }], guard := none }) (v := ?_) rfl (by kernel_rfl) (by kernel_rfl) (by kernel_rfl) (fun _ _ _ h => h) (Or.inl ⟨by rfl, ?_⟩) hJJ0 ?_
            rotate_left
            · (intro wz hSz; (try dsimp only at hSz); go_simp; try with_reducible rfl)
            simp only [Act.put, List.setIfInBounds_toArray, List.set_cons_zero, List.set_cons_succ]
            refine wpAnyH_take (i := 2) (oi := { dst := some 33, op := Go.Op.fieldAddr 86 (Go.Operand.tmp 32) 0, type := 0, pos := "item.go:225", after := #[{ on := 1, ground := Go.Ground.data }], guard := none }) (v := ?_) rfl (by kernel_rfl) (by kernel_rfl) (by kernel_rfl) (fun _ _ _ h => h) (Or.inl ⟨by rfl, ?_⟩) hJJ0 ?_
            rotate_left
            · (intro wz hSz; (try dsimp only at hSz); go_simp; try with_reducible rfl)
            simp only [Act.put, List.setIfInBounds_toArray, List.set_cons_zero, List.set_cons_succ]
            refine wpAnyH_take (i := 3) (oi := { dst := some 34, op := Go.Op.load 84 (Go.Operand.tmp 33), type := 84, pos := "item.go:225", after := #[{ on := 2, ground := Go.Ground.data }], guard := none }) (v := ?_) rfl (by kernel_rfl) (by kernel_rfl) (by kernel_rfl) (fun _ _ _ h => h) (Or.inl ⟨by rfl, ?_⟩) hJJ0 ?_
            rotate_left
            · (intro wz hSz; have hcz := wm_open_at HM0.out (HW.out.below hSz); go_simp; try with_reducible rfl)
            simp only [Act.put, List.setIfInBounds_toArray, List.set_cons_zero, List.set_cons_succ]
            refine wpAnyH_take (i := 5) (oi := { dst := some 36, op := Go.Op.load 40 (Go.Operand.tmp 3), type := 40, pos := "item.go:225", after := #[], guard := none }) (v := ?_) rfl (by kernel_rfl) (by kernel_rfl) (by kernel_rfl) (fun _ _ _ h => h) (Or.inl ⟨by rfl, ?_⟩) hJJ0 ?_
            rotate_left
            · (intro wz hSz; have hcz := True.intro; obtain ⟨b0, b1⟩ := O.lab_cells ((Below.block hSz _ (L.blk_lt HX.out)).trans HX.out); go_simp; try with_reducible rfl)
            simp only [Act.put, List.setIfInBounds_toArray, List.set_cons_zero, List.set_cons_succ]
            refine wpAnyH_ready (rs := [4]) (by kernel_rfl) (by simp) ?_
            refine AllReadyH.cons (o := { dst := some 35, op := Go.Op.call { callee := Go.Callee.value (Go.Operand.func 82), args := #[Go.Operand.tmp 34], argTypes := #[84] }, type := 40, pos := "item.go:225", after := #[{ on := 3, ground := Go.Ground.data }], guard := none }) rfl (fun K hK => ?_) AllReadyH.nil
            go_simp
            with_reducible refine (HTOP.out.call (HBR.out.trans (Below.mono hJJ0.b HBR.out.size))).mono ?_
            rintro r wq1 ⟨rfl, hbq⟩
            go_wp2_with fail
            refine hK.out _ _ (Keeps.trans hJJ0 hbq) (fun hJ => ?_)
            refine wpAnyH_more (S' := Keeps wq1) (fun z hz => Keeps.trans hJ hz) _ _ _ _ ?_
            replace HBR := Lib.hid (HBR.out.trans (Below.mono hJ HBR.out.size))
            replace HX := Lib.hid ((Below.block hJ _ (L.blk_lt HX.out)).trans HX.out)
            replace HK := Lib.hid (HK.out.trans (HW.out.kp hJ))
            replace HW := Lib.hid (HW.out.below hJ)
            have hJJ1 : Keeps wq1 wq1 := Below.refl _ _
            clear hK K hbq hJJ0 hJ
            refine wpAnyH_take (i := 6) (oi := { dst := some 37, op := Go.Op.binOp Go.BinOp.neq 40 (Go.Operand.tmp 35) (Go.Operand.tmp 36) 40, type := 4, pos := "item.go:225", after := #[{ on := 4, ground := Go.Ground.data }, { on := 5, ground := Go.Ground.data }], guard := none }) (v := ?_) rfl (by kernel_rfl) (by kernel_rfl) (by kernel_rfl) (fun _ _ _ h => h) (Or.inl ⟨by rfl, ?_⟩) hJJ1 ?_
            rotate_left
            · (intro wz hSz; (try dsimp only at hSz); go_simp; try with_reducible rfl)
            simp only [Act.put, List.setIfInBounds_toArray, List.set_cons_zero, List.set_cons_succ]
            refine wpAnyH_done (by kernel_rfl) ?_ _
            have HFI := Lib.hid (enter_same (popTo_here HST.out.2 HEX.out) rfl HJL.out HW.out HK.out hlz)
            clear hJJ1
            go_wp2_with fail
            first | go_end0 | refine bodyPost_ret (results_none rfl _ _ _) rfl ?_
            first | exact HFI.out | (have hfi := HFI.out; rw [HXB.out] at hfi; exact hfi)
          · have HEQ : Hid ((tl, tc) ≠ ((tl, ac) : Lb)) := Lib.hid fun e => hc (congrArg Prod.snd e)
            have hne : ((tc : Int) == (ac : Int)) = false := beq_eq_false_iff_ne.2 (by omega)
            clear hS hP hbl hlen hJ h16
            go_wp2_with fail
            refine wp_region_held_drew (S := (Keeps wr)) (by kernel_rfl) (keeps_drew _) (fun hH0 => ?_)
            refine wpAnyH_take (i := 0) (oi := { dst := some 4, op := Go.Op.move (Go.Operand.tmp 0), type := 115, pos := "item.go:222", after := #[], guard := none }) (v := ?_) rfl (by kernel_rfl) (by kernel_rfl) (by kernel_rfl) (fun _ _ _ h => h) (Or.inl ⟨by rfl, ?_⟩) hH0 ?_
            rotate_left
            · (intro wz hSz; (try dsimp only at hSz); go_simp; try with_reducible rfl)
            simp only [Act.put, List.setIfInBounds_toArray, List.set_cons_zero, List.set_cons_succ]
            refine wpAnyH_take (i := 1) (oi := { dst := some 5, op := Go.Op.nilCheck (Go.Operand.tmp 4), type := 0, pos := "item.go:222", after := #[{ on := 0, ground := Go.Ground.data }], guard := none }) (v := ?_) rfl (by kernel_rfl) (by kernel_rfl) (by kernel_rfl) (fun _ _ _ h => h) (Or.inl ⟨by rfl, ?_⟩) hH0 ?_
            rotate_left
            · (intro wz hSz; (try dsimp only at hSz); go_simp; try with_reducible rfl)
            simp only [Act.put, List.setIfInBounds_toArray, List.set_cons_zero, List.set_cons_succ]
            refine wpAnyH_take (i := 2) (oi := { dst := some 6, op := Go.Op.fieldAddr 86 (Go.Operand.tmp 5) 0, type := 0, pos := "item.go:222", after := #[{ on := 1, ground := Go.Ground.data }], guard := none }) (v := ?_) rfl (by kernel_rfl) (by kernel_rfl) (by kernel_rfl) (fun _ _ _ h => h) (Or.inl ⟨by rfl, ?_⟩) hH0 ?_
            rotate_left
            · (intro wz hSz; (try dsimp only at hSz); go_simp; try with_reducible rfl)
            simp only [Act.put, List.setIfInBounds_toArray, List.set_cons_zero, List.set_cons_succ]
            refine wpAnyH_take (i := 3) (oi := { dst := some 7, op := Go.Op.load 84 (Go.Operand.tmp 6), type := 84, pos := "item.go:222", after := #[{ on := 2, ground := Go.Ground.data }], guard := none }) (v := ?_) rfl (by kernel_rfl) (by kernel_rfl) (by kernel_rfl) (fun _ _ _ h => h) (Or.inl ⟨by rfl, ?_⟩) hH0 ?_
            rotate_left
            · (intro wz hSz; have hcz := wm_open_at HM0.out (HW.out.below hSz); go_simp; try with_reducible rfl)
            simp only [Act.put, List.setIfInBounds_toArray, List.set_cons_zero, List.set_cons_succ]
            refine wpAnyH_take (i := 5) (oi := { dst := some 9, op := Go.Op.load 40 (Go.Operand.tmp 3), type := 40, pos := "item.go:222", after := #[], guard := none }) (v := ?_) rfl (by kernel_rfl) (by kernel_rfl) (by kernel_rfl) (fun _ _ _ h => h) (Or.inl ⟨by rfl, ?_⟩) hH0 ?_
            rotate_left
            · (intro wz hSz; have hcz := True.intro; obtain ⟨b0, b1⟩ := O.lab_cells ((Below.block hSz _ (L.blk_lt HX.out)).trans HX.out); go_simp; try with_reducible rfl)
            simp only [Act.put, List.setIfInBounds_toArray, List.set_cons_zero, List.set_cons_succ]
            refine wpAnyH_ready (rs := [4]) (by kernel_rfl) (by simp) ?_
            refine AllReadyH.cons (o := { dst := some 8, op := Go.Op.call { callee := Go.Callee.value (Go.Operand.func 82), args := #[Go.Operand.tmp 7], argTypes := #[84] }, type := 40, pos := "item.go:222", after := #[{ on := 3, ground := Go.Ground.data }], guard := none }) rfl (fun K hK => ?_) AllReadyH.nil
            go_simp
            with_reducible refine (HTOP.out.call (HBR.out.trans (Below.mono hH0.b HBR.out.size))).mono ?_
            rintro r wq1 ⟨rfl, hbq⟩
            go_wp2_with fail
            refine hK.out _ _ (Keeps.trans hH0 hbq) (fun hJ => ?_)
            refine wpAnyH_more (S' := Keeps wq1) (fun z hz => Keeps.trans hJ hz) _ _ _ _ ?_
            replace HBR := Lib.hid (HBR.out.trans (Below.mono hJ HBR.out.size))
            replace HX := Lib.hid ((Below.block hJ _ (L.blk_lt HX.out)).trans HX.out)
            replace HK := Lib.hid (HK.out.trans (HW.out.kp hJ))
            replace HW := Lib.hid (HW.out.below hJ)
            have hH1 : Keeps wq1 wq1 := Below.refl _ _
            clear hK K hbq hH0 hJ
            refine wpAnyH_ready (rs := [6]) (by kernel_rfl) (by simp) ?_
            refine AllReadyH.cons (o := { dst := some 10, op := Go.Op.call { callee := Go.Callee.value (Go.Operand.func 20), args := #[Go.Operand.tmp 8, Go.Operand.tmp 9], argTypes := #[40, 40] }, type := 4, pos := "item.go:222", after := #[{ on := 4, ground := Go.Ground.data }, { on := 5, ground := Go.Ground.data }, { on := 4, ground := Go.Ground.chain }], guard := none }) rfl (fun K hK => ?_) AllReadyH.nil
            go_simp
            with_reducible refine ((below_c HBL.out hac HCT.out).call _).mono ?_
            rintro r wq2 ⟨rfl, hbq⟩
            go_wp2_with fail
            refine hK.out _ _ (Keeps.trans hH1 hbq) (fun hJ => ?_)
            refine wpAnyH_more (S' := Keeps wq2) (fun z hz => Keeps.trans hJ hz) _ _ _ _ ?_
            replace HBR := Lib.hid (HBR.out.trans (Below.mono hJ HBR.out.size))
            replace HX := Lib.hid ((Below.block hJ _ (L.blk_lt HX.out)).trans HX.out)
            replace HK := Lib.hid (HK.out.trans (HW.out.kp hJ))
            replace HW := Lib.hid (HW.out.below hJ)
            have hH2 : Keeps wq2 wq2 := Below.refl _ _
            clear hK K hbq hH1 hJ
            refine wpAnyH_take (i := 7) (oi := { dst := some 11, op := Go.Op.unOp Go.UnOp.not 4 (Go.Operand.tmp 10), type := 4, pos := "item.go:222", after := #[{ on := 6, ground := Go.Ground.data }], guard := none }) (v := ?_) rfl (by kernel_rfl) (by kernel_rfl) (by kernel_rfl) (fun _ _ _ h => h) (Or.inl ⟨by rfl, ?_⟩) hH2 ?_
            rotate_left
            · (intro wz hSz; (try dsimp only at hSz); go_simp; try with_reducible rfl)
            simp only [Act.put, List.setIfInBounds_toArray, List.set_cons_zero, List.set_cons_succ]
            refine wpAnyH_take (i := 8) (oi := { dst := some 12, op := Go.Op.move (Go.Operand.tmp 11), type := 4, pos := "item.go:222", after := #[{ on := 7, ground := Go.Ground.data }, { on := 6, ground := Go.Ground.chain }], guard := none }) (v := ?_) rfl (by kernel_rfl) (by kernel_rfl) (by kernel_rfl) (fun _ _ _ h => h) (Or.inl ⟨by rfl, ?_⟩) hH2 ?_
            rotate_left
            · (intro wz hSz; (try dsimp only at hSz); go_simp; try with_reducible rfl)
            simp only [Act.put, List.setIfInBounds_toArray, List.set_cons_zero, List.set_cons_succ]
            refine wpAnyH_take (i := 9) (oi := { dst := some 13, op := Go.Op.move (Go.Operand.tmp 0), type := 115, pos := "item.go:222", after := #[{ on := 8, ground := Go.Ground.guard }], guard := some (8, false) }) (v := ?_) rfl (by kernel_rfl) (by kernel_rfl) (by kernel_rfl) (fun _ _ _ h => h) (Or.inl ⟨by rfl, ?_⟩) hH2 ?_
            rotate_left
            · (intro wz hSz; (try dsimp only at hSz); go_simp; try with_reducible rfl)
            simp only [Act.put, List.setIfInBounds_toArray, List.set_cons_zero, List.set_cons_succ]
            refine wpAnyH_take (i := 10) (oi := { dst := some 14, op := Go.Op.nilCheck (Go.Operand.tmp 13), type := 0, pos := "item.go:222", after := #[{ on := 9, ground := Go.Ground.data }, { on := 8, ground := Go.Ground.guard }], guard := some (8, false) }) (v := ?_) rfl (by kernel_rfl) (by kernel_rfl) (by kernel_rfl) (fun _ _ _ h => h) (Or.inl ⟨by rfl, ?_⟩) hH2 ?_
            rotate_left
            · (intro wz hSz; (try dsimp only at hSz); go_simp; try with_reducible rfl)
            simp only [Act.put, List.setIfInBounds_toArray, List.set_cons_zero, List.set_cons_succ]
            refine wpAnyH_take (i := 11) (oi := { dst := some 15, op := Go.Op.fieldAddr 86 (Go.Operand.tmp 14) 0, type := 0, pos := "item.go:222", after := #[{ on := 10, ground := Go.Ground.data }, { on := 8, ground := Go.Ground.guard }], guard := some (8, false) }) (v := ?_) rfl (by kernel_rfl) (by kernel_rfl) (by kernel_rfl) (fun _ _ _ h => h) (Or.inl ⟨by rfl, ?_⟩) hH2 ?_
            rotate_left
            · (intro wz hSz; (try dsimp only at hSz); go_simp; try with_reducible rfl)
            simp only [Act.put, List.setIfInBounds_toArray, List.set_cons_zero, List.set_cons_succ]
            refine wpAnyH_take (i := 12) (oi := { dst := some 16, op := Go.Op.load 84 (Go.Operand.tmp 15), type := 84, pos := "item.go:222", after := #[{ on := 11, ground := Go.Ground.data }, { on := 8, ground := Go.Ground.guard }], guard := some (8, false) }) (v := ?_) rfl (by kernel_rfl) (by kernel_rfl) (by kernel_rfl) (fun _ _ _ h => h) (Or.inl ⟨by rfl, ?_⟩) hH2 ?_
            rotate_left
            · (intro wz hSz; have hcz := wm_open_at HM0.out (HW.out.below hSz); go_simp; try with_reducible rfl)
            simp only [Act.put, List.setIfInBounds_toArray, List.set_cons_zero, List.set_cons_succ]
            refine wpAnyH_ready (rs := [13]) (by kernel_rfl) (by simp) ?_
            refine AllReadyH.cons (o := { dst := some 17, op := Go.Op.call { callee := Go.Callee.value (Go.Operand.func 52), args := #[Go.Operand.tmp 16], argTypes := #[84] }, type := 3, pos := "item.go:222", after := #[{ on := 12, ground := Go.Ground.data }, { on := 8, ground := Go.Ground.chain }, { on := 8, ground := Go.Ground.guard }], guard := some (8, false) }) rfl (fun K hK => ?_) AllReadyH.nil
            go_simp
            with_reducible refine (HDP.out.call _).mono ?_
            rintro r wq3 ⟨rfl, hw9⟩
            have hbq := below_eq hw9
            go_wp2_with fail
            refine hK.out _ _ (Keeps.trans hH2 hbq) (fun hJ => ?_)
            refine wpAnyH_more (S' := Keeps wq3) (fun z hz => Keeps.trans hJ hz) _ _ _ _ ?_
            replace HBR := Lib.hid (HBR.out.trans (Below.mono hJ HBR.out.size))
            replace HX := Lib.hid ((Below.block hJ _ (L.blk_lt HX.out)).trans HX.out)
            replace HK := Lib.hid (HK.out.trans (HW.out.kp hJ))
            replace HW := Lib.hid (HW.out.below hJ)
            have hH3 : Keeps wq3 wq3 := Below.refl _ _
            clear hK K hbq hH2 hJ
            refine wpAnyH_take (i := 14) (oi := { dst := some 18, op := Go.Op.binOp Go.BinOp.eql 3 (Go.Operand.tmp 17) (Go.Operand.const (Go.Value.int Go.IntKind.i64 16)) 3, type := 4, pos := "item.go:222", after := #[{ on := 13, ground := Go.Ground.data }, { on := 8, ground := Go.Ground.guard }], guard := some (8, false) }) (v := ?_) rfl (by kernel_rfl) (by kernel_rfl) (by kernel_rfl) (fun _ _ _ h => h) (Or.inl ⟨by rfl, ?_⟩) hH3 ?_
            rotate_left
            · (intro wz hSz; (try dsimp only at hSz); go_simp; try with_reducible rfl)
            simp only [Act.put, List.setIfInBounds_toArray, List.set_cons_zero, List.set_cons_succ]
            refine wpAnyH_take (i := 15) (oi := { dst := some 19, op := Go.Op.move (Go.Operand.tmp 18), type := 4, pos := "item.go:222", after := #[{ on := 14, ground := Go.Ground.data }, { on := 13, ground := Go.Ground.chain }, { on := 8, ground := Go.Ground.guard }], guard := some (8, false) }) (v := ?_) rfl (by kernel_rfl) (by kernel_rfl) (by kernel_rfl) (fun _ _ _ h => h) (Or.inl ⟨by rfl, ?_⟩) hH3 ?_
            rotate_left
            · (intro wz hSz; (try dsimp only at hSz); go_simp; try with_reducible rfl)
            simp only [Act.put, List.setIfInBounds_toArray, List.set_cons_zero, List.set_cons_succ]
            refine wpAnyH_take (i := 16) (oi := { dst := some 20, op := Go.Op.move (Go.Operand.tmp 0), type := 115, pos := "item.go:222", after := #[{ on := 15, ground := Go.Ground.guard }], guard := some (15, true) }) (v := undef) rfl (by kernel_rfl) (by kernel_rfl) (by kernel_rfl) (fun _ _ _ h => h) (Or.inr ⟨by rfl, rfl⟩) hH3 ?_
            simp only [Act.put, List.setIfInBounds_toArray, List.set_cons_zero, List.set_cons_succ]
            refine wpAnyH_take (i := 17) (oi := { dst := some 21, op := Go.Op.nilCheck (Go.Operand.tmp 20), type := 0, pos := "item.go:222", after := #[{ on := 16, ground := Go.Ground.data }, { on := 15, ground := Go.Ground.guard }], guard := some (15, true) }) (v := undef) rfl (by kernel_rfl) (by kernel_rfl) (by kernel_rfl) (fun _ _ _ h => h) (Or.inr ⟨by rfl, rfl⟩) hH3 ?_
            simp only [Act.put, List.setIfInBounds_toArray, List.set_cons_zero, List.set_cons_succ]
            refine wpAnyH_take (i := 18) (oi := { dst := some 22, op := Go.Op.fieldAddr 86 (Go.Operand.tmp 21) 0, type := 0, pos := "item.go:222", after := #[{ on := 17, ground := Go.Ground.data }, { on := 15, ground := Go.Ground.guard }], guard := some (15, true) }) (v := undef) rfl (by kernel_rfl) (by kernel_rfl) (by kernel_rfl) (fun _ _ _ h => h) (Or.inr ⟨by rfl, rfl⟩) hH3 ?_
            simp only [Act.put, List.setIfInBounds_toArray, List.set_cons_zero, List.set_cons_succ]
            refine wpAnyH_take (i := 19) (oi := { dst := some 23, op := Go.Op.load 84 (Go.Operand.tmp 22), type := 84, pos := "item.go:222", after := #[{ on := 18, ground := Go.Ground.data }, { on := 15, ground := Go.Ground.guard }], guard := some (15, true) }) (v := undef) rfl (by kernel_rfl) (by kernel_rfl) (by kernel_rfl) (fun _ _ _ h => h) (Or.inr ⟨by rfl, rfl⟩) hH3 ?_
            simp only [Act.put, List.setIfInBounds_toArray, List.set_cons_zero, List.set_cons_succ]
            refine wpAnyH_take (i := 21) (oi := { dst := some 25, op := Go.Op.load 40 (Go.Operand.tmp 3), type := 40, pos := "item.go:222", after := #[{ on := 15, ground := Go.Ground.guard }], guard := some (15, true) }) (v := undef) rfl (by kernel_rfl) (by kernel_rfl) (by kernel_rfl) (fun _ _ _ h => h) (Or.inr ⟨by rfl, rfl⟩) hH3 ?_
            simp only [Act.put, List.setIfInBounds_toArray, List.set_cons_zero, List.set_cons_succ]
            refine wpAnyH_take (i := 20) (oi := { dst := some 24, op := Go.Op.call { callee := Go.Callee.value (Go.Operand.func 82), args := #[Go.Operand.tmp 23], argTypes := #[84] }, type := 40, pos := "item.go:222", after := #[{ on := 19, ground := Go.Ground.data }, { on := 15, ground := Go.Ground.chain }, { on := 15, ground := Go.Ground.guard }], guard := some (15, true) }) (v := undef) rfl (by kernel_rfl) (by kernel_rfl) (by kernel_rfl) (fun _ _ _ h => h) (Or.inr ⟨by rfl, rfl⟩) hH3 ?_
            simp only [Act.put, List.setIfInBounds_toArray, List.set_cons_zero, List.set_cons_succ]
            refine wpAnyH_take (i := 22) (oi := { dst := some 26, op := Go.Op.binOp Go.BinOp.neq 40 (Go.Operand.tmp 24) (Go.Operand.tmp 25) 40, type := 4, pos := "item.go:222", after := #[{ on := 20, ground := Go.Ground.data }, { on := 21, ground := Go.Ground.data }, { on := 15, ground := Go.Ground.guard }], guard := some (15, true) }) (v := undef) rfl (by kernel_rfl) (by kernel_rfl) (by kernel_rfl) (fun _ _ _ h => h) (Or.inr ⟨by rfl, rfl⟩) hH3 ?_
            simp only [Act.put, List.setIfInBounds_toArray, List.set_cons_zero, List.set_cons_succ]
            refine wpAnyH_take (i := 23) (oi := { dst := some 27, op := Go.Op.pick (Go.Operand.tmp 19) (Go.Operand.tmp 26) (Go.Operand.const (Go.Value.bool false)), type := 4, pos := "item.go:222", after := #[{ on := 15, ground := Go.Ground.data }, { on := 22, ground := Go.Ground.data }, { on := 8, ground := Go.Ground.guard }], guard := some (8, false) }) (v := ?_) rfl (by kernel_rfl) (by kernel_rfl) (by kernel_rfl) (fun _ _ _ h => h) (Or.inl ⟨by rfl, ?_⟩) hH3 ?_
            rotate_left
            · (intro wz hSz; (try dsimp only at hSz); go_simp; try with_reducible rfl)
            simp only [Act.put, List.setIfInBounds_toArray, List.set_cons_zero, List.set_cons_succ]
            refine wpAnyH_take (i := 24) (oi := { dst := some 28, op := Go.Op.pick (Go.Operand.tmp 12) (Go.Operand.const (Go.Value.bool true)) (Go.Operand.tmp 27), type := 4, pos := "item.go:222", after := #[{ on := 8, ground := Go.Ground.data }, { on := 23, ground := Go.Ground.data }], guard := none }) (v := ?_) rfl (by kernel_rfl) (by kernel_rfl) (by kernel_rfl) (fun _ _ _ h => h) (Or.inl ⟨by rfl, ?_⟩) hH3 ?_
            rotate_left
            · (intro wz hSz; (try dsimp only at hSz); go_simp; try with_reducible rfl)
            simp only [Act.put, List.setIfInBounds_toArray, List.set_cons_zero, List.set_cons_succ]
            refine wpAnyH_done (by kernel_rfl) ?_ _
            obtain ⟨w5, hw5⟩ : ∃ w5 : World, w5 = wq3 := ⟨_, rfl⟩
            rw [← hw5] at HW HX HK HBR ⊢
            clear hw5 hH3 HDP
            go_wp2_with fail
            refine wp_region_held_drew (S := (Keeps w5)) (by kernel_rfl) (keeps_drew _) (fun hJJ0 => ?_)
            refine wpAnyH_take (i := 0) (oi := { dst := some 31, op := Go.Op.move (Go.Operand.tmp 0), type := 115, pos := "item.go:225", after := #[], guard := none }) (v := ?_) rfl (by kernel_rfl) (by kernel_rfl) (by kernel_rfl) (fun _ _ _ h => h) (Or.inl ⟨by rfl, ?_⟩) hJJ0 ?_
            rotate_left
            · (intro wz hSz; (try dsimp only at hSz); go_simp; try with_reducible rfl)
            simp only [Act.put, List.setIfInBounds_toArray, List.set_cons_zero, List.set_cons_succ]
            refine wpAnyH_take (i := 1) (oi := { dst := some 32, op := Go.Op.nilCheck (Go.Operand.tmp 31), type := 0, pos := "item.go:225", after := #[{ on := 0, ground := Go.Ground.data }], guard := none }) (v := ?_) rfl (by kernel_rfl) (by kernel_rfl) (by kernel_rfl) (fun _ _ _ h => h) (Or.inl ⟨by rfl, ?_⟩) hJJ0 ?_
            rotate_left
            · (intro wz hSz; (try dsimp only at hSz); go_simp; try with_reducible rfl)
            simp only [Act.put, List.setIfInBounds_toArray, List.set_cons_zero, List.set_cons_succ]
            refine wpAnyH_take (i := 2) (oi := { dst := some 33, op := Go.Op.fieldAddr 86 (Go.Operand.tmp 32) 0, type := 0, pos := "item.go:225", after := #[{ on := 1, ground := Go.Ground.data }], guard := none }) (v := ?_) rfl (by kernel_rfl) (by kernel_rfl) (by kernel_rfl) (fun _ _ _ h => h) (Or.inl ⟨by rfl, ?_⟩) hJJ0 ?_
            rotate_left
            · (intro wz hSz; (try dsimp only at hSz); go_simp; try with_reducible rfl)
            simp only [Act.put, List.setIfInBounds_toArray, List.set_cons_zero, List.set_cons_succ]
            refine wpAnyH_take (i := 3) (oi := { dst := some 34, op := Go.Op.load 84 (Go.Operand.tmp 33), type := 84, pos := "item.go:225", after := #[{ on := 2, ground := Go.Ground.data }], guard := none }) (v := ?_) rfl (by kernel_rfl) (by kernel_rfl) (by kernel_rfl) (fun _ _ _ h => h) (Or.inl ⟨by rfl, ?_⟩) hJJ0 ?_
            rotate_left
            · (intro wz hSz; have hcz := wm_open_at HM0.out (HW.out.below hSz); go_simp; try with_reducible rfl)
            simp only [Act.put, List.setIfInBounds_toArray, List.set_cons_zero, List.set_cons_succ]
            refine wpAnyH_take (i := 5) (oi := { dst := some 36, op := Go.Op.load 40 (Go.Operand.tmp 3), type := 40, pos := "item.go:225", after := #[], guard := none }) (v := ?_) rfl (by kernel_rfl) (by kernel_rfl) (by kernel_rfl) (fun _ _ _ h => h) (Or.inl ⟨by rfl, ?_⟩) hJJ0 ?_
            rotate_left
            · (intro wz hSz; have hcz := True.intro; obtain ⟨b0, b1⟩ := O.lab_cells ((Below.block hSz _ (L.blk_lt HX.out)).trans HX.out); go_simp; try with_reducible rfl)
            simp only [Act.put, List.setIfInBounds_toArray, List.set_cons_zero, List.set_cons_succ]
            refine wpAnyH_ready (rs := [4]) (by kernel_rfl) (by simp) ?_
            refine AllReadyH.cons (o := { dst := some 35, op := Go.Op.call { callee := Go.Callee.value (Go.Operand.func 82), args := #[Go.Operand.tmp 34], argTypes := #[84] }, type := 40, pos := "item.go:225", after := #[{ on := 3, ground := Go.Ground.data }], guard := none }) rfl (fun K hK => ?_) AllReadyH.nil
            go_simp
            with_reducible refine (HTOP.out.call (HBR.out.trans (Below.mono hJJ0.b HBR.out.size))).mono ?_
            rintro r wq1 ⟨rfl, hbq⟩
            go_wp2_with fail
            refine hK.out _ _ (Keeps.trans hJJ0 hbq) (fun hJ => ?_)
            refine wpAnyH_more (S' := Keeps wq1) (fun z hz => Keeps.trans hJ hz) _ _ _ _ ?_
            replace HBR := Lib.hid (HBR.out.trans (Below.mono hJ HBR.out.size))
            replace HX := Lib.hid ((Below.block hJ _ (L.blk_lt HX.out)).trans HX.out)
            replace HK := Lib.hid (HK.out.trans (HW.out.kp hJ))
            replace HW := Lib.hid (HW.out.below hJ)
            have hJJ1 : Keeps wq1 wq1 := Below.refl _ _
            clear hK K hbq hJJ0 hJ
            refine wpAnyH_take (i := 6) (oi := { dst := some 37, op := Go.Op.binOp Go.BinOp.neq 40 (Go.Operand.tmp 35) (Go.Operand.tmp 36) 40, type := 4, pos := "item.go:225", after := #[{ on := 4, ground := Go.Ground.data }, { on := 5, ground := Go.Ground.data }], guard := none }) (v := ?_) rfl (by kernel_rfl) (by kernel_rfl) (by kernel_rfl) (fun _ _ _ h => h) (Or.inl ⟨by rfl, ?_⟩) hJJ1 ?_
            rotate_left
            · (intro wz hSz; (try dsimp only at hSz); go_simp; try with_reducible rfl)
            simp only [Act.put, List.setIfInBounds_toArray, List.set_cons_zero, List.set_cons_succ]
            refine wpAnyH_done (by kernel_rfl) ?_ _
            have HPR := Lib.hid (PrS_is tl ac hal hac)
            obtain ⟨b0, b1⟩ := O.lab_cells HX.out
            have HTB5 := Lib.hid (HTB.out.below (HK.out.1) hgl)
            clear hJJ1
            go_wp2_with fail
            with_reducible refine (HPR.out.call _ HTB5.out).mono ?_
            rintro e w6 ⟨rfl, hb6⟩
            have ad := run_add_begin tl ac
            generalize hpt : (⟨(L.print tl ac).toArray⟩ : ByteArray) = pt at *
            generalize hbt : (⟨(kBegin ++ L.print tl ac).toArray⟩ : ByteArray) = bt at *
            have HW6 := Lib.hid (HW.out.below hb6)
            have HK6 := Lib.hid (HK.out.trans (HW.out.kp hb6))
            have HX6 := Lib.hid ((hb6.block _ (L.blk_lt HX.out)).trans HX.out)
            have HSC : Hid (SayC ⟨lo, a0, xb + 1⟩ wb ((tl, tc) :: r) (out ++ List.replicate j kEnd) w6 bt (kBegin ++ L.print tl ac)) := Lib.hid (by rw [← hbt]; exact say_c HW6.out _ (by simp; omega))
            clear b0 b1 hb6 HPR HTB5 HW HK HX hpt hbt
            go_wp2_with fail
            with_reducible refine (HSC.out.call).mono ?_
            rintro e w7 ⟨rfl, ⟨g7, cap7, lv7, hW7⟩, hk7⟩
            have hx7 := (hk7.2 xb hxa (Nat.lt_succ_self _)).trans HX6.out
            have HK7 := Lib.hid (HK6.out.trans hk7)
            have HW7 := Lib.hid hW7
            have HX7 := Lib.hid hx7
            clear hW7 hk7 hx7 ad HSC HK6 HW6 HX6
            go_wp2_with fail
            obtain ⟨i0, hi0, hz0, hz1, hz2⟩ := info_parts infoLab
            obtain ⟨m, hmm⟩ : ∃ m, m = ((tl, tc) :: r : List Lb).length := ⟨_, rfl⟩
            have hm17 : m ≤ 17 := by rw [hmm]; exact HST.out.1.few
            have hcf : w7.cell? ⟨wb, 0, none⟩ = some (.slice (some ⟨g7, 0, none⟩) m cap7) := by rw [hmm]; exact wm_open HW7.out
            have hzf : w7.frozen? ⟨wb, 0, none⟩ = false := L.blk_free HW7.out.blk 0
            have HRW : Hid (Row (w7.alloc (.cells #[.int .i64 tl, .int .u64 (ac : Int)] 40)).drew lo 2 g7 m cap7 (labCells ((tl, tc) :: r : List Lb).reverse)) := Lib.hid (by
              have h0 := HW7.out.stk.row
              rw [← hmm] at h0
              exact h0.below (alloc1 _ _).drew)
            have HNW := Lib.hid (World.news_of_block (w := (w7.alloc (.cells #[.int .i64 tl, .int .u64 (ac : Int)] 40)).drew) (heap_alloc_new w7 _))
            have H1C : Hid (∀ u ∈ ([.int .i64 tl, .int .u64 (ac : Int)] : List Value), u.oneCell' = true) := Lib.hid (by intro u hu; simp at hu; rcases hu with rfl | rfl <;> rfl)
            have HRT : Hid (some wb ≠ some g7) := Lib.hid fun e => HW7.out.gne (by injection e with e; exact e.symm)
            have hrl : wb < w7.heap.size := HW7.out.lt
            have hbs : lo ≤ w7.heap.size := HW7.out.size
            obtain ⟨x0, x1⟩ := O.lab_cells HX7.out
            have HMM := Lib.hid hmm
            have HFI := Lib.hid (fun e W' hh => enter_other (e := e) (w' := W') (wb := wb) (out := out) (popTo_here HST.out.2 HEX.out) HEQ.out HJL.out HK7.out hlz hh)
            clear hmm HX7 HK7
            go_region_law ((refine step_append_row _ (by rfl) (.tmp 47) (.tmp 49) 84 (by rfl) lo 40 i0 _ 2 16 Tryd.underlying84 hi0 hz0 hz1 hz2 rfl (by decide) g7 m cap7 (labCells ((tl, tc) :: r : List Lb).reverse) (by rfl) HRW.out ⟨w7.heap.size, 0, none⟩ 1 [.int .i64 tl, .int .u64 (ac : Int)] (by rfl) rfl HNW.out H1C.out (by unfold maxLen; omega) (by omega) (by simp; omega) ?_; intro g8 cap8 w8 hrow8 hgrow8 hat8; have hc8 := hgrow8.cell_far ⟨wb, 0, none⟩ (by simp; omega) HRT.out; have hz8 := hgrow8.frozen_far ⟨wb, 0, none⟩ (by simp; omega) HRT.out))
            all_goals
              go_wp2_with fail
              go_end0
              have hfi := HFI.out _ _ (pushOpen (a := (tl, ac)) HW7.out HMM.out hgrow8 hrow8 (by simpa using hat8))
              first | exact hfi | (rw [HXB.out] at hfi; exact hfi)
        · have HEQ : Hid ((tl, tc) ≠ ((al, ac) : Lb)) := Lib.hid fun e => hl (congrArg Prod.fst e)
          have hne : (tl == al) = false := beq_eq_false_iff_ne.2 hl
          clear hS hP hbl hlen hJ h16
          go_wp2_with fail
          refine wp_region_held_drew (S := (Keeps wr)) (by kernel_rfl) (keeps_drew _) (fun hH0 => ?_)
          refine wpAnyH_take (i := 0) (oi := { dst := some 4, op := Go.Op.move (Go.Operand.tmp 0), type := 115, pos := "item.go:222", after := #[], guard := none }) (v := ?_) rfl (by kernel_rfl) (by kernel_rfl) (by kernel_rfl) (fun _ _ _ h => h) (Or.inl ⟨by rfl, ?_⟩) hH0 ?_
          rotate_left
          · (intro wz hSz; (try dsimp only at hSz); go_simp; try with_reducible rfl)
          simp only [Act.put, List.setIfInBounds_toArray, List.set_cons_zero, List.set_cons_succ]
          refine wpAnyH_take (i := 1) (oi := { dst := some 5, op := Go.Op.nilCheck (Go.Operand.tmp 4), type := 0, pos := "item.go:222", after := #[{ on := 0, ground := Go.Ground.data }], guard := none }) (v := ?_) rfl (by kernel_rfl) (by kernel_rfl) (by kernel_rfl) (fun _ _ _ h => h) (Or.inl ⟨by rfl, ?_⟩) hH0 ?_
          rotate_left
          · (intro wz hSz; (try dsimp only at hSz); go_simp; try with_reducible rfl)
          simp only [Act.put, List.setIfInBounds_toArray, List.set_cons_zero, List.set_cons_succ]
          refine wpAnyH_take (i := 2) (oi := { dst := some 6, op := Go.Op.fieldAddr 86 (Go.Operand.tmp 5) 0, type := 0, pos := "item.go:222", after := #[{ on := 1, ground := Go.Ground.data }], guard := none }) (v := ?_) rfl (by kernel_rfl) (by kernel_rfl) (by kernel_rfl) (fun _ _ _ h => h) (Or.inl ⟨by rfl, ?_⟩) hH0 ?_
          rotate_left
          · (intro wz hSz; (try dsimp only at hSz); go_simp; try with_reducible rfl)
          simp only [Act.put, List.setIfInBounds_toArray, List.set_cons_zero, List.set_cons_succ]
          refine wpAnyH_take (i := 3) (oi := { dst := some 7, op := Go.Op.load 84 (Go.Operand.tmp 6), type := 84, pos := "item.go:222", after := #[{ on := 2, ground := Go.Ground.data }], guard := none }) (v := ?_) rfl (by kernel_rfl) (by kernel_rfl) (by kernel_rfl) (fun _ _ _ h => h) (Or.inl ⟨by rfl, ?_⟩) hH0 ?_
          rotate_left
          · (intro wz hSz; have hcz := wm_open_at HM0.out (HW.out.below hSz); go_simp; try with_reducible rfl)
          simp only [Act.put, List.setIfInBounds_toArray, List.set_cons_zero, List.set_cons_succ]
          refine wpAnyH_take (i := 5) (oi := { dst := some 9, op := Go.Op.load 40 (Go.Operand.tmp 3), type := 40, pos := "item.go:222", after := #[], guard := none }) (v := ?_) rfl (by kernel_rfl) (by kernel_rfl) (by kernel_rfl) (fun _ _ _ h => h) (Or.inl ⟨by rfl, ?_⟩) hH0 ?_
          rotate_left
          · (intro wz hSz; have hcz := True.intro; obtain ⟨b0, b1⟩ := O.lab_cells ((Below.block hSz _ (L.blk_lt HX.out)).trans HX.out); go_simp; try with_reducible rfl)
          simp only [Act.put, List.setIfInBounds_toArray, List.set_cons_zero, List.set_cons_succ]
          refine wpAnyH_ready (rs := [4]) (by kernel_rfl) (by simp) ?_
          refine AllReadyH.cons (o := { dst := some 8, op := Go.Op.call { callee := Go.Callee.value (Go.Operand.func 82), args := #[Go.Operand.tmp 7], argTypes := #[84] }, type := 40, pos := "item.go:222", after := #[{ on := 3, ground := Go.Ground.data }], guard := none }) rfl (fun K hK => ?_) AllReadyH.nil
          go_simp
          with_reducible refine (HTOP.out.call (HBR.out.trans (Below.mono hH0.b HBR.out.size))).mono ?_
          rintro r wq1 ⟨rfl, hbq⟩
          go_wp2_with fail
          refine hK.out _ _ (Keeps.trans hH0 hbq) (fun hJ => ?_)
          refine wpAnyH_more (S' := Keeps wq1) (fun z hz => Keeps.trans hJ hz) _ _ _ _ ?_
          replace HBR := Lib.hid (HBR.out.trans (Below.mono hJ HBR.out.size))
          replace HX := Lib.hid ((Below.block hJ _ (L.blk_lt HX.out)).trans HX.out)
          replace HK := Lib.hid (HK.out.trans (HW.out.kp hJ))
          replace HW := Lib.hid (HW.out.below hJ)
          have hH1 : Keeps wq1 wq1 := Below.refl _ _
          clear hK K hbq hH0 hJ
          refine wpAnyH_ready (rs := [6]) (by kernel_rfl) (by simp) ?_
          refine AllReadyH.cons (o := { dst := some 10, op := Go.Op.call { callee := Go.Callee.value (Go.Operand.func 20), args := #[Go.Operand.tmp 8, Go.Operand.tmp 9], argTypes := #[40, 40] }, type := 4, pos := "item.go:222", after := #[{ on := 4, ground := Go.Ground.data }, { on := 5, ground := Go.Ground.data }, { on := 4, ground := Go.Ground.chain }], guard := none }) rfl (fun K hK => ?_) AllReadyH.nil
          go_simp
          with_reducible refine ((below_c HBL.out hac HCT.out).call _).mono ?_
          rintro r wq2 ⟨rfl, hbq⟩
          go_wp2_with fail
          refine hK.out _ _ (Keeps.trans hH1 hbq) (fun hJ => ?_)
          refine wpAnyH_more (S' := Keeps wq2) (fun z hz => Keeps.trans hJ hz) _ _ _ _ ?_
          replace HBR := Lib.hid (HBR.out.trans (Below.mono hJ HBR.out.size))
          replace HX := Lib.hid ((Below.block hJ _ (L.blk_lt HX.out)).trans HX.out)
          replace HK := Lib.hid (HK.out.trans (HW.out.kp hJ))
          replace HW := Lib.hid (HW.out.below hJ)
          have hH2 : Keeps wq2 wq2 := Below.refl _ _
          clear hK K hbq hH1 hJ
          refine wpAnyH_take (i := 7) (oi := { dst := some 11, op := Go.Op.unOp Go.UnOp.not 4 (Go.Operand.tmp 10), type := 4, pos := "item.go:222", after := #[{ on := 6, ground := Go.Ground.data }], guard := none }) (v := ?_) rfl (by kernel_rfl) (by kernel_rfl) (by kernel_rfl) (fun _ _ _ h => h) (Or.inl ⟨by rfl, ?_⟩) hH2 ?_
          rotate_left
          · (intro wz hSz; (try dsimp only at hSz); go_simp; try with_reducible rfl)
          simp only [Act.put, List.setIfInBounds_toArray, List.set_cons_zero, List.set_cons_succ]
          refine wpAnyH_take (i := 8) (oi := { dst := some 12, op := Go.Op.move (Go.Operand.tmp 11), type := 4, pos := "item.go:222", after := #[{ on := 7, ground := Go.Ground.data }, { on := 6, ground := Go.Ground.chain }], guard := none }) (v := ?_) rfl (by kernel_rfl) (by kernel_rfl) (by kernel_rfl) (fun _ _ _ h => h) (Or.inl ⟨by rfl, ?_⟩) hH2 ?_
          rotate_left
          · (intro wz hSz; (try dsimp only at hSz); go_simp; try with_reducible rfl)
          simp only [Act.put, List.setIfInBounds_toArray, List.set_cons_zero, List.set_cons_succ]
          refine wpAnyH_take (i := 9) (oi := { dst := some 13, op := Go.Op.move (Go.Operand.tmp 0), type := 115, pos := "item.go:222", after := #[{ on := 8, ground := Go.Ground.guard }], guard := some (8, false) }) (v := ?_) rfl (by kernel_rfl) (by kernel_rfl) (by kernel_rfl) (fun _ _ _ h => h) (Or.inl ⟨by rfl, ?_⟩) hH2 ?_
          rotate_left
          · (intro wz hSz; (try dsimp only at hSz); go_simp; try with_reducible rfl)
          simp only [Act.put, List.setIfInBounds_toArray, List.set_cons_zero, List.set_cons_succ]
          refine wpAnyH_take (i := 10) (oi := { dst := some 14, op := Go.Op.nilCheck (Go.Operand.tmp 13), type := 0, pos := "item.go:222", after := #[{ on := 9, ground := Go.Ground.data }, { on := 8, ground := Go.Ground.guard }], guard := some (8, false) }) (v := ?_) rfl (by kernel_rfl) (by kernel_rfl) (by kernel_rfl) (fun _ _ _ h => h) (Or.inl ⟨by rfl, ?_⟩) hH2 ?_
          rotate_left
          · (intro wz hSz; (try dsimp only at hSz); go_simp; try with_reducible rfl)
          simp only [Act.put, List.setIfInBounds_toArray, List.set_cons_zero, List.set_cons_succ]
          refine wpAnyH_take (i := 11) (oi := { dst := some 15, op := Go.Op.fieldAddr 86 (Go.Operand.tmp 14) 0, type := 0, pos := "item.go:222", after := #[{ on := 10, ground := Go.Ground.data }, { on := 8, ground := Go.Ground.guard }], guard := some (8, false) }) (v := ?_) rfl (by kernel_rfl) (by kernel_rfl) (by kernel_rfl) (fun _ _ _ h => h) (Or.inl ⟨by rfl, ?_⟩) hH2 ?_
          rotate_left
          · (intro wz hSz; (try dsimp only at hSz); go_simp; try with_reducible rfl)
          simp only [Act.put, List.setIfInBounds_toArray, List.set_cons_zero, List.set_cons_succ]
          refine wpAnyH_take (i := 12) (oi := { dst := some 16, op := Go.Op.load 84 (Go.Operand.tmp 15), type := 84, pos := "item.go:222", after := #[{ on := 11, ground := Go.Ground.data }, { on := 8, ground := Go.Ground.guard }], guard := some (8, false) }) (v := ?_) rfl (by kernel_rfl) (by kernel_rfl) (by kernel_rfl) (fun _ _ _ h => h) (Or.inl ⟨by rfl, ?_⟩) hH2 ?_
          rotate_left
          · (intro wz hSz; have hcz := wm_open_at HM0.out (HW.out.below hSz); go_simp; try with_reducible rfl)
          simp only [Act.put, List.setIfInBounds_toArray, List.set_cons_zero, List.set_cons_succ]
          refine wpAnyH_ready (rs := [13]) (by kernel_rfl) (by simp) ?_
          refine AllReadyH.cons (o := { dst := some 17, op := Go.Op.call { callee := Go.Callee.value (Go.Operand.func 52), args := #[Go.Operand.tmp 16], argTypes := #[84] }, type := 3, pos := "item.go:222", after := #[{ on := 12, ground := Go.Ground.data }, { on := 8, ground := Go.Ground.chain }, { on := 8, ground := Go.Ground.guard }], guard := some (8, false) }) rfl (fun K hK => ?_) AllReadyH.nil
          go_simp
          with_reducible refine (HDP.out.call _).mono ?_
          rintro r wq3 ⟨rfl, hw9⟩
          have hbq := below_eq hw9
          go_wp2_with fail
          refine hK.out _ _ (Keeps.trans hH2 hbq) (fun hJ => ?_)
          refine wpAnyH_more (S' := Keeps wq3) (fun z hz => Keeps.trans hJ hz) _ _ _ _ ?_
          replace HBR := Lib.hid (HBR.out.trans (Below.mono hJ HBR.out.size))
          replace HX := Lib.hid ((Below.block hJ _ (L.blk_lt HX.out)).trans HX.out)
          replace HK := Lib.hid (HK.out.trans (HW.out.kp hJ))
          replace HW := Lib.hid (HW.out.below hJ)
          have hH3 : Keeps wq3 wq3 := Below.refl _ _
          clear hK K hbq hH2 hJ
          refine wpAnyH_take (i := 14) (oi := { dst := some 18, op := Go.Op.binOp Go.BinOp.eql 3 (Go.Operand.tmp 17) (Go.Operand.const (Go.Value.int Go.IntKind.i64 16)) 3, type := 4, pos := "item.go:222", after := #[{ on := 13, ground := Go.Ground.data }, { on := 8, ground := Go.Ground.guard }], guard := some (8, false) }) (v := ?_) rfl (by kernel_rfl) (by kernel_rfl) (by kernel_rfl) (fun _ _ _ h => h) (Or.inl ⟨by rfl, ?_⟩) hH3 ?_
          rotate_left
          · (intro wz hSz; (try dsimp only at hSz); go_simp; try with_reducible rfl)
          simp only [Act.put, List.setIfInBounds_toArray, List.set_cons_zero, List.set_cons_succ]
          refine wpAnyH_take (i := 15) (oi := { dst := some 19, op := Go.Op.move (Go.Operand.tmp 18), type := 4, pos := "item.go:222", after := #[{ on := 14, ground := Go.Ground.data }, { on := 13, ground := Go.Ground.chain }, { on := 8, ground := Go.Ground.guard }], guard := some (8, false) }) (v := ?_) rfl (by kernel_rfl) (by kernel_rfl) (by kernel_rfl) (fun _ _ _ h => h) (Or.inl ⟨by rfl, ?_⟩) hH3 ?_
          rotate_left
          · (intro wz hSz; (try dsimp only at hSz); go_simp; try with_reducible rfl)
          simp only [Act.put, List.setIfInBounds_toArray, List.set_cons_zero, List.set_cons_succ]
          refine wpAnyH_take (i := 16) (oi := { dst := some 20, op := Go.Op.move (Go.Operand.tmp 0), type := 115, pos := "item.go:222", after := #[{ on := 15, ground := Go.Ground.guard }], guard := some (15, true) }) (v := undef) rfl (by kernel_rfl) (by kernel_rfl) (by kernel_rfl) (fun _ _ _ h => h) (Or.inr ⟨by rfl, rfl⟩) hH3 ?_
          simp only [Act.put, List.setIfInBounds_toArray, List.set_cons_zero, List.set_cons_succ]
          refine wpAnyH_take (i := 17) (oi := { dst := some 21, op := Go.Op.nilCheck (Go.Operand.tmp 20), type := 0, pos := "item.go:222", after := #[{ on := 16, ground := Go.Ground.data }, { on := 15, ground := Go.Ground.guard }], guard := some (15, true) }) (v := undef) rfl (by kernel_rfl) (by kernel_rfl) (by kernel_rfl) (fun _ _ _ h => h) (Or.inr ⟨by rfl, rfl⟩) hH3 ?_
          simp only [Act.put, List.setIfInBounds_toArray, List.set_cons_zero, List.set_cons_succ]
          refine wpAnyH_take (i := 18) (oi := { dst := some 22, op := Go.Op.fieldAddr 86 (Go.Operand.tmp 21) 0, type := 0, pos := "item.go:222", after := #[{ on := 17, ground := Go.Ground.data }, { on := 15, ground := Go.Ground.guard }], guard := some (15, true) }) (v := undef) rfl (by kernel_rfl) (by kernel_rfl) (by kernel_rfl) (fun _ _ _ h => h) (Or.inr ⟨by rfl, rfl⟩) hH3 ?_
          simp only [Act.put, List.setIfInBounds_toArray, List.set_cons_zero, List.set_cons_succ]
          refine wpAnyH_take (i := 19) (oi := { dst := some 23, op := Go.Op.load 84 (Go.Operand.tmp 22), type := 84, pos := "item.go:222", after := #[{ on := 18, ground := Go.Ground.data }, { on := 15, ground := Go.Ground.guard }], guard := some (15, true) }) (v := undef) rfl (by kernel_rfl) (by kernel_rfl) (by kernel_rfl) (fun _ _ _ h => h) (Or.inr ⟨by rfl, rfl⟩) hH3 ?_
          simp only [Act.put, List.setIfInBounds_toArray, List.set_cons_zero, List.set_cons_succ]
          refine wpAnyH_take (i := 21) (oi := { dst := some 25, op := Go.Op.load 40 (Go.Operand.tmp 3), type := 40, pos := "item.go:222", after := #[{ on := 15, ground := Go.Ground.guard }], guard := some (15, true) }) (v := undef) rfl (by kernel_rfl) (by kernel_rfl) (by kernel_rfl) (fun _ _ _ h => h) (Or.inr ⟨by rfl, rfl⟩) hH3 ?_
          simp only [Act.put, List.setIfInBounds_toArray, List.set_cons_zero, List.set_cons_succ]
          refine wpAnyH_take (i := 20) (oi := { dst := some 24, op := Go.Op.call { callee := Go.Callee.value (Go.Operand.func 82), args := #[Go.Operand.tmp 23], argTypes := #[84] }, type := 40, pos := "item.go:222", after := #[{ on := 19, ground := Go.Ground.data }, { on := 15, ground := Go.Ground.chain }, { on := 15, ground := Go.Ground.guard }], guard := some (15, true) }) (v := undef) rfl (by kernel_rfl) (by kernel_rfl) (by kernel_rfl) (fun _ _ _ h => h) (Or.inr ⟨by rfl, rfl⟩) hH3 ?_
          simp only [Act.put, List.setIfInBounds_toArray, List.set_cons_zero, List.set_cons_succ]
          refine wpAnyH_take (i := 22) (oi := { dst := some 26, op := Go.Op.binOp Go.BinOp.neq 40 (Go.Operand.tmp 24) (Go.Operand.tmp 25) 40, type := 4, pos := "item.go:222", after := #[{ on := 20, ground := Go.Ground.data }, { on := 21, ground := Go.Ground.data }, { on := 15, ground := Go.Ground.guard }], guard := some (15, true) }) (v := undef) rfl (by kernel_rfl) (by kernel_rfl) (by kernel_rfl) (fun _ _ _ h => h) (Or.inr ⟨by rfl, rfl⟩) hH3 ?_
          simp only [Act.put, List.setIfInBounds_toArray, List.set_cons_zero, List.set_cons_succ]
          refine wpAnyH_take (i := 23) (oi := { dst := some 27, op := Go.Op.pick (Go.Operand.tmp 19) (Go.Operand.tmp 26) (Go.Operand.const (Go.Value.bool false)), type := 4, pos := "item.go:222", after := #[{ on := 15, ground := Go.Ground.data }, { on := 22, ground := Go.Ground.data }, { on := 8, ground := Go.Ground.guard }], guard := some (8, false) }) (v := ?_) rfl (by kernel_rfl) (by kernel_rfl) (by kernel_rfl) (fun _ _ _ h => h) (Or.inl ⟨by rfl, ?_⟩) hH3 ?_
          rotate_left
          · (intro wz hSz; (try dsimp only at hSz); go_simp; try with_reducible rfl)
          simp only [Act.put, List.setIfInBounds_toArray, List.set_cons_zero, List.set_cons_succ]
          refine wpAnyH_take (i := 24) (oi := { dst := some 28, op := Go.Op.pick (Go.Operand.tmp 12) (Go.Operand.const (Go.Value.bool true)) (Go.Operand.tmp 27), type := 4, pos := "item.go:222", after := #[{ on := 8, ground := Go.Ground.data }, { on := 23, ground := Go.Ground.data }], guard := none }) (v := ?_) rfl (by kernel_rfl) (by kernel_rfl) (by kernel_rfl) (fun _ _ _ h => h) (Or.inl ⟨by rfl, ?_⟩) hH3 ?_
          rotate_left
          · (intro wz hSz; (try dsimp only at hSz); go_simp; try with_reducible rfl)
          simp only [Act.put, List.setIfInBounds_toArray, List.set_cons_zero, List.set_cons_succ]
          refine wpAnyH_done (by kernel_rfl) ?_ _
          obtain ⟨w5, hw5⟩ : ∃ w5 : World, w5 = wq3 := ⟨_, rfl⟩
          rw [← hw5] at HW HX HK HBR ⊢
          clear hw5 hH3 HDP
          go_wp2_with fail
          refine wp_region_held_drew (S := (Keeps w5)) (by kernel_rfl) (keeps_drew _) (fun hJJ0 => ?_)
          refine wpAnyH_take (i := 0) (oi := { dst := some 31, op := Go.Op.move (Go.Operand.tmp 0), type := 115, pos := "item.go:225", after := #[], guard := none }) (v := ?_) rfl (by kernel_rfl) (by kernel_rfl) (by kernel_rfl) (fun _ _ _ h => h) (Or.inl ⟨by rfl, ?_⟩) hJJ0 ?_
          rotate_left
          · (intro wz hSz; (try dsimp only at hSz); go_simp; try with_reducible rfl)
          simp only [Act.put, List.setIfInBounds_toArray, List.set_cons_zero, List.set_cons_succ]
          refine wpAnyH_take (i := 1) (oi := { dst := some 32, op := Go.Op.nilCheck (Go.Operand.tmp 31), type := 0, pos := "item.go:225", after := #[{ on := 0, ground := Go.Ground.data }], guard := none }) (v := ?_) rfl (by kernel_rfl) (by kernel_rfl) (by kernel_rfl) (fun _ _ _ h => h) (Or.inl ⟨by rfl, ?_⟩) hJJ0 ?_
          rotate_left
          · (intro wz hSz; (try dsimp only at hSz); go_simp; try with_reducible rfl)
          simp only [Act.put, List.setIfInBounds_toArray, List.set_cons_zero, List.set_cons_succ]
          refine wpAnyH_take (i := 2) (oi := { dst := some 33, op := Go.Op.fieldAddr 86 (Go.Operand.tmp 32) 0, type := 0, pos := "item.go:225", after := #[{ on := 1, ground := Go.Ground.data }], guard := none }) (v := ?_) rfl (by kernel_rfl) (by kernel_rfl) (by kernel_rfl) (fun _ _ _ h => h) (Or.inl ⟨by rfl, ?_⟩) hJJ0 ?_
          rotate_left
          · (intro wz hSz; (try dsimp only at hSz); go_simp; try with_reducible rfl)
          simp only [Act.put, List.setIfInBounds_toArray, List.set_cons_zero, List.set_cons_succ]
          refine wpAnyH_take (i := 3) (oi := { dst := some 34, op := Go.Op.load 84 (Go.Operand.tmp 33), type := 84, pos := "item.go:225", after := #[{ on := 2, ground := Go.Ground.data }], guard := none }) (v := ?_) rfl (by kernel_rfl) (by kernel_rfl) (by kernel_rfl) (fun _ _ _ h => h) (Or.inl ⟨by rfl, ?_⟩) hJJ0 ?_
          rotate_left
          · (intro wz hSz; have hcz := wm_open_at HM0.out (HW.out.below hSz); go_simp; try with_reducible rfl)
          simp only [Act.put, List.setIfInBounds_toArray, List.set_cons_zero, List.set_cons_succ]
          refine wpAnyH_take (i := 5) (oi := { dst := some 36, op := Go.Op.load 40 (Go.Operand.tmp 3), type := 40, pos := "item.go:225", after := #[], guard := none }) (v := ?_) rfl (by kernel_rfl) (by kernel_rfl) (by kernel_rfl) (fun _ _ _ h => h) (Or.inl ⟨by rfl, ?_⟩) hJJ0 ?_
          rotate_left
          · (intro wz hSz; have hcz := True.intro; obtain ⟨b0, b1⟩ := O.lab_cells ((Below.block hSz _ (L.blk_lt HX.out)).trans HX.out); go_simp; try with_reducible rfl)
          simp only [Act.put, List.setIfInBounds_toArray, List.set_cons_zero, List.set_cons_succ]
          refine wpAnyH_ready (rs := [4]) (by kernel_rfl) (by simp) ?_
          refine AllReadyH.cons (o := { dst := some 35, op := Go.Op.call { callee := Go.Callee.value (Go.Operand.func 82), args := #[Go.Operand.tmp 34], argTypes := #[84] }, type := 40, pos := "item.go:225", after := #[{ on := 3, ground := Go.Ground.data }], guard := none }) rfl (fun K hK => ?_) AllReadyH.nil
          go_simp
          with_reducible refine (HTOP.out.call (HBR.out.trans (Below.mono hJJ0.b HBR.out.size))).mono ?_
          rintro r wq1 ⟨rfl, hbq⟩
          go_wp2_with fail
          refine hK.out _ _ (Keeps.trans hJJ0 hbq) (fun hJ => ?_)
          refine wpAnyH_more (S' := Keeps wq1) (fun z hz => Keeps.trans hJ hz) _ _ _ _ ?_
          replace HBR := Lib.hid (HBR.out.trans (Below.mono hJ HBR.out.size))
          replace HX := Lib.hid ((Below.block hJ _ (L.blk_lt HX.out)).trans HX.out)
          replace HK := Lib.hid (HK.out.trans (HW.out.kp hJ))
          replace HW := Lib.hid (HW.out.below hJ)
          have hJJ1 : Keeps wq1 wq1 := Below.refl _ _
          clear hK K hbq hJJ0 hJ
          refine wpAnyH_take (i := 6) (oi := { dst := some 37, op := Go.Op.binOp Go.BinOp.neq 40 (Go.Operand.tmp 35) (Go.Operand.tmp 36) 40, type := 4, pos := "item.go:225", after := #[{ on := 4, ground := Go.Ground.data }, { on := 5, ground := Go.Ground.data }], guard := none }) (v := ?_) rfl (by kernel_rfl) (by kernel_rfl) (by kernel_rfl) (fun _ _ _ h => h) (Or.inl ⟨by rfl, ?_⟩) hJJ1 ?_
          rotate_left
          · (intro wz hSz; (try dsimp only at hSz); go_simp; try with_reducible rfl)
          simp only [Act.put, List.setIfInBounds_toArray, List.set_cons_zero, List.set_cons_succ]
          refine wpAnyH_done (by kernel_rfl) ?_ _
          have HPR := Lib.hid (PrS_is al ac hal hac)
          obtain ⟨b0, b1⟩ := O.lab_cells HX.out
          have HTB5 := Lib.hid (HTB.out.below (HK.out.1) hgl)
          clear hJJ1
          go_wp2_with fail
          with_reducible refine (HPR.out.call _ HTB5.out).mono ?_
          rintro e w6 ⟨rfl, hb6⟩
          have ad := run_add_begin al ac
          generalize hpt : (⟨(L.print al ac).toArray⟩ : ByteArray) = pt at *
          generalize hbt : (⟨(kBegin ++ L.print al ac).toArray⟩ : ByteArray) = bt at *
          have HW6 := Lib.hid (HW.out.below hb6)
          have HK6 := Lib.hid (HK.out.trans (HW.out.kp hb6))
          have HX6 := Lib.hid ((hb6.block _ (L.blk_lt HX.out)).trans HX.out)
          have HSC : Hid (SayC ⟨lo, a0, xb + 1⟩ wb ((tl, tc) :: r) (out ++ List.replicate j kEnd) w6 bt (kBegin ++ L.print al ac)) := Lib.hid (by rw [← hbt]; exact say_c HW6.out _ (by simp; omega))
          clear b0 b1 hb6 HPR HTB5 HW HK HX hpt hbt
          go_wp2_with fail
          with_reducible refine (HSC.out.call).mono ?_
          rintro e w7 ⟨rfl, ⟨g7, cap7, lv7, hW7⟩, hk7⟩
          have hx7 := (hk7.2 xb hxa (Nat.lt_succ_self _)).trans HX6.out
          have HK7 := Lib.hid (HK6.out.trans hk7)
          have HW7 := Lib.hid hW7
          have HX7 := Lib.hid hx7
          clear hW7 hk7 hx7 ad HSC HK6 HW6 HX6
          go_wp2_with fail
          obtain ⟨i0, hi0, hz0, hz1, hz2⟩ := info_parts infoLab
          obtain ⟨m, hmm⟩ : ∃ m, m = ((tl, tc) :: r : List Lb).length := ⟨_, rfl⟩
          have hm17 : m ≤ 17 := by rw [hmm]; exact HST.out.1.few
          have hcf : w7.cell? ⟨wb, 0, none⟩ = some (.slice (some ⟨g7, 0, none⟩) m cap7) := by rw [hmm]; exact wm_open HW7.out
          have hzf : w7.frozen? ⟨wb, 0, none⟩ = false := L.blk_free HW7.out.blk 0
          have HRW : Hid (Row (w7.alloc (.cells #[.int .i64 al, .int .u64 (ac : Int)] 40)).drew lo 2 g7 m cap7 (labCells ((tl, tc) :: r : List Lb).reverse)) := Lib.hid (by
            have h0 := HW7.out.stk.row
            rw [← hmm] at h0
            exact h0.below (alloc1 _ _).drew)
          have HNW := Lib.hid (World.news_of_block (w := (w7.alloc (.cells #[.int .i64 al, .int .u64 (ac : Int)] 40)).drew) (heap_alloc_new w7 _))
          have H1C : Hid (∀ u ∈ ([.int .i64 al, .int .u64 (ac : Int)] : List Value), u.oneCell' = true) := Lib.hid (by intro u hu; simp at hu; rcases hu with rfl | rfl <;> rfl)
          have HRT : Hid (some wb ≠ some g7) := Lib.hid fun e => HW7.out.gne (by injection e with e; exact e.symm)
          have hrl : wb < w7.heap.size := HW7.out.lt
          have hbs : lo ≤ w7.heap.size := HW7.out.size
          obtain ⟨x0, x1⟩ := O.lab_cells HX7.out
          have HMM := Lib.hid hmm
          have HFI := Lib.hid (fun e W' hh => enter_other (e := e) (w' := W') (wb := wb) (out := out) (popTo_here HST.out.2 HEX.out) HEQ.out HJL.out HK7.out hlz hh)
          clear hmm HX7 HK7
          go_region_law ((refine step_append_row _ (by rfl) (.tmp 47) (.tmp 49) 84 (by rfl) lo 40 i0 _ 2 16 Tryd.underlying84 hi0 hz0 hz1 hz2 rfl (by decide) g7 m cap7 (labCells ((tl, tc) :: r : List Lb).reverse) (by rfl) HRW.out ⟨w7.heap.size, 0, none⟩ 1 [.int .i64 al, .int .u64 (ac : Int)] (by rfl) rfl HNW.out H1C.out (by unfold maxLen; omega) (by omega) (by simp; omega) ?_; intro g8 cap8 w8 hrow8 hgrow8 hat8; have hc8 := hgrow8.cell_far ⟨wb, 0, none⟩ (by simp; omega) HRT.out; have hz8 := hgrow8.frozen_far ⟨wb, 0, none⟩ (by simp; omega) HRT.out))
          all_goals
            go_wp2_with fail
            go_end0
            have hfi := HFI.out _ _ (pushOpen (a := (al, ac)) HW7.out HMM.out hgrow8 hrow8 (by simpa using hat8))
            first | exact hfi | (rw [HXB.out] at hfi; exact hfi)
end Go.Proofs.YtadhhamfikpimaaDoor.I
