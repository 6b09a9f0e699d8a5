/-
  A writer of items in memory; the contracts of its say, leave and put.
  The contract of the writer's put.
-/
import Derived.Test.YtadhhamfikpimaaDoorGif
import Derived.Test.YtadhhamfikpimaaDoorGid
import Derived.Laws.Concat
namespace Go.Proofs.YtadhhamfikpimaaDoor.I
set_option linter.unusedVariables false
set_option linter.unusedSimpArgs false
open Go.RowKit
open T
open O (own_ne grown_of grown_set ne_type)
attribute [local go_sem ↓] Go.wp_at_zero Go.wp_at_succ

/-- A writer in memory, in blocks out of a zone. -/
structure Wm (w : World) (z : Zone) (wb : Nat) (op : List Lb) (out : List (List UInt8)) (g cap : Nat) (lv : Value) : Prop where
  hb : Out z wb
  hz : z.b ≤ w.heap.size
  blk : w.heap[wb]? = some (.cells #[.slice (some ⟨g, 0, none⟩) op.length cap, lv] 86 (0, 0))
  stk : StkIn w z.lo g op.length cap op
  gz : Out z g
  gne : g ≠ wb
  gnl : lv.ownBlock ≠ some g
  lz : ∀ k, lv.ownBlock = some k → Out z k
  ln : w.ownsRow z.lo 51 2 lv out.length (lineCells (plain out))
variable {w w' : World} {z : Zone} {wb g cap : Nat} {op : List Lb} {out : List (List UInt8)} {lv : Value}
theorem Wm.lt (h : Wm w z wb op out g cap lv) : wb < w.heap.size := L.blk_lt h.blk
theorem Wm.size (h : Wm w z wb op out g cap lv) : z.lo ≤ w.heap.size := Nat.le_trans h.hb.1 (Nat.le_of_lt h.lt)
theorem Wm.kp (h : Wm w z wb op out g cap lv) (hb : Below w.heap.size w w') : Kp z w w' := Kp.of hb h.size h.hz
theorem Wm.below (h : Wm w z wb op out g cap lv) (hb : Below w.heap.size w w') : Wm w' z wb op out g cap lv :=
  ⟨h.hb, Nat.le_trans h.hz hb.size, (hb.block wb h.lt).trans h.blk, h.stk.below hb, h.gz, h.gne, h.gnl, h.lz, h.ln.kept (grown_of hb none) (by cases lv.ownBlock <;> simp)⟩
theorem Wm.lwb (h : Wm w z wb op out g cap lv) : lv.ownBlock = none ∨ lv.ownBlock ≠ some wb := own_ne h.ln (fun cs => ne_type (by decide) h.blk)
/-- The same writer, under another window that none of its blocks lies in. -/
theorem Wm.zone (h : Wm w z wb op out g cap lv) (a b : Nat) (hb : b ≤ w.heap.size) (ha : ∀ k, Out z k → k < w.heap.size → ¬ (a ≤ k ∧ k < b)) : Wm w ⟨z.lo, a, b⟩ wb op out g cap lv :=
  ⟨⟨h.hb.1, ha wb h.hb h.lt⟩, hb, h.blk, h.stk, ⟨h.gz.1, ha g h.gz h.stk.row.lt⟩, h.gne, h.gnl, fun k hk => ⟨(h.lz k hk).1, ha k (h.lz k hk) (own_lt h.ln k hk)⟩, h.ln⟩
theorem Kp.less {lo a b a' b' : Nat} (h : Kp ⟨lo, a, b⟩ w w') (ha : a ≤ a') (hb : b' ≤ b) : Kp ⟨lo, a', b'⟩ w w' := ⟨h.1, fun k h1 h2 => h.2 k (Nat.le_trans ha h1) (Nat.lt_of_lt_of_le h2 hb)⟩
/-- What a writer's call comes to. -/
def WTook (w : World) (z : Zone) (wb : Nat) (op : List Lb) (out : List (List UInt8)) (e : Ending) (w' : World) : Prop := e = .returned (.tuple #[]) ∧ (∃ g cap lv, Wm w' z wb op out g cap lv) ∧ Kp z w w'
theorem WTook.from {w1 : World} {e : Ending} (h : WTook w1 z wb op out e w') (hb : Kp z w w1) : WTook w z wb op out e w' := ⟨h.1, h.2.1, hb.trans h.2.2⟩

theorem plain_snoc (out : List (List UInt8)) (t : List UInt8) : lineCells (plain (out ++ [t])) = lineCells (plain out) ++ [.string ⟨t.toArray⟩, .bool false] := by
  rw [plain_append]; exact lineCells_snoc _ _ _
theorem pushLine {W w3 : World} {o : Obj} {n g3 cap3 vcap : Nat} {vA : Option Addr} {t : List UInt8} (HR : Wm W z wb op out g cap (.slice vA n vcap)) (hn : n = out.length)
    (hg : (W.alloc o).grownBy w3 (Value.slice vA n vcap).ownBlock) (hown3 : w3.ownsRow z.lo 51 2 (.slice (some ⟨g3, 0, none⟩) (n + 1) cap3) (n + 1) (lineCells (plain out) ++ [.string ⟨t.toArray⟩, .bool false])) (hat : (Value.slice vA n vcap).ownBlock = some g3 ∨ g3 = W.heap.size + 1) :
    WTook W z wb op (out ++ [t]) (.returned (.tuple #[])) (w3.setCell ⟨wb, 1, none⟩ (.slice (some ⟨g3, 0, none⟩) (n + 1) cap3)) := by
  subst hn
  have hgW : W.grownBy w3 (Value.slice vA out.length vcap).ownBlock := ⟨hg.os, hg.tape, hg.output, Nat.le_trans (by simp) hg.size, fun k hk hne => (hg.block k (by simp; omega) hne).trans (Below.heap_alloc W o k hk)⟩
  have hrb : some wb ≠ (Value.slice vA out.length vcap).ownBlock := fun e => by
    rcases HR.lwb with h0 | h0
    · rw [h0] at e; cases e
    · exact h0 e.symm
  have hgb : some g ≠ (Value.slice vA out.length vcap).ownBlock := fun e => HR.gnl e.symm
  have blk3 := (hgW.block wb HR.lt hrb).trans HR.blk
  have stk3 := HR.stk.row.grown hgW hgb
  have hset := grown_set w3 ⟨wb, 1, none⟩ (.slice (some ⟨g3, 0, none⟩) (out.length + 1) cap3)
  refine ⟨rfl, ⟨g, cap, .slice (some ⟨g3, 0, none⟩) (out.length + 1) cap3, HR.hb, by have := HR.hz; have := hgW.size; simp; omega, ?_, ⟨HR.stk.1, stk3.grown hset (by simpa using HR.gne)⟩, HR.gz, HR.gne, ?_, ?_, ?_⟩, ?_⟩
  · have := L.blk_set blk3 1 (.slice (some ⟨g3, 0, none⟩) (out.length + 1) cap3)
    exact this
  · rintro e
    have e' : g3 = g := by simpa [Value.ownBlock] using e
    rcases hat with h0 | h0
    · exact hgb (by rw [h0, e'])
    · have := HR.stk.row.lt; omega
  · intro k hk
    have e' : g3 = k := by simpa [Value.ownBlock] using hk
    rcases hat with h0 | h0
    · exact HR.lz k (by rw [h0, e'])
    · have := HR.hz; have := HR.size; exact ⟨by omega, by omega⟩
  · have e : (out ++ [t]).length = out.length + 1 := by simp
    rw [e, plain_snoc]
    exact hown3.kept hset (own_ne hown3 (fun cs => ne_type (by decide) blk3))
  · exact (((Kp.refl z W).grown hgW HR.size HR.hz HR.lz).setCell (p := ⟨wb, 1, none⟩) HR.hb _)

set_option maxRecDepth 100000 in
set_option maxHeartbeats 2000000 in
theorem say_any (h : Wm w z wb op out g cap lv) (t : List UInt8) (hn : out.length ≤ 4194304) :
    Calls Tryd.prog 83 #[.pointer (some ⟨wb, 0, none⟩), .string ⟨t.toArray⟩] w (WTook w z wb op (out ++ [t])) := by
  obtain ⟨i0, hi0, hz0, hz1, hz2⟩ := info_parts infoLine
  obtain ⟨vA, vcap, rfl, hvc, -⟩ := own_form h.ln
  obtain ⟨n, hnn⟩ : ∃ n, n = out.length := ⟨_, rfl⟩
  rw [← hnn] at h hn
  have H := Lib.hid h
  have c1 : w.cell? ⟨wb, 1, none⟩ = some (.slice vA n vcap) := L.blk_cell h.blk 1
  have z1 := L.blk_free h.blk 1
  have hlt := h.lt
  have hbs := h.size
  have hne : ¬ wb = w.heap.size := by omega
  have hownA : (w.alloc (.cells #[.string ⟨t.toArray⟩, .bool false] 51)).ownsRow z.lo 51 2 (.slice vA n vcap) n (lineCells (plain out)) := by
    have h0 := h.ln
    rw [← hnn] at h0
    exact World.ownsRow.alloc h0 _
  have HOA := Lib.hid hownA
  have HRT : Hid (some wb ≠ (Value.slice vA n vcap).ownBlock) := Lib.hid fun e => by
    rcases h.lwb with h0 | h0
    · rw [h0] at e; cases e
    · exact h0 e.symm
  have HNN := Lib.hid hnn
  obtain ⟨x, hx⟩ : ∃ x : ByteArray, x = ⟨t.toArray⟩ := ⟨_, rfl⟩
  rw [← hx] at HOA ⊢
  have HX := Lib.hid hx
  have HNW := Lib.hid (World.news_of_block (w := w.alloc (.cells #[.string x, .bool false] 51)) (heap_alloc_new w _))
  clear h hownA hvc hnn hx
  go_enter Tryd.func83, Tryd.ntmps83
  go_wp2_with (at_builtin; refine wpList_append_lies _ rfl (.tmp 8) (.tmp 11) 64 rfl z.lo 51 i0 _ 2 24 Tryd.underlying64 hi0 hz0 hz1 hz2 rfl (by decide) (.slice vA n vcap) n (lineCells (plain out)) rfl HOA.out ⟨w.heap.size, 0, none⟩ 1 1 [.string x, .bool false] rfl rfl HNW.out ?c2 (by omega) ?c3 ?c4 ?c5 _ rfl ?_)
  case c2 => exact ⟨rfl, rfl⟩
  case c3 => simp only [maxLen]; omega
  case c4 => omega
  case c5 => first | omega | (simp; omega)
  intro g3 cap3 w1 hown1 hg1 hat1 hlt1
  have hc3 := hg1.cell_far ⟨wb, 1, none⟩ (by simp; omega) HRT.out
  have hz3 := hg1.frozen_far ⟨wb, 1, none⟩ (by simp; omega) HRT.out
  have HG := Lib.hid hg1
  have HO := Lib.hid hown1
  have HAT := Lib.hid hat1
  clear hg1 hown1 hat1
  go_wp2_with fail
  go_end0
  exact pushLine (t := t) H.out HNN.out HG.out (by rw [← HX.out]; exact HO.out) (by simpa using HAT.out)

theorem Wm.popped {n : Nat} (h : Wm w z wb op out g cap lv) (hn : op.length = n + 1) : WTook w z wb op.tail out (.returned (.tuple #[])) (w.setCell ⟨wb, 0, none⟩ (.slice (some ⟨g, 0, none⟩) n n)) := by
  have hset := grown_set w ⟨wb, 0, none⟩ (.slice (some ⟨g, 0, none⟩) n n)
  have htl : op.tail.length = n := by rw [List.length_tail, hn]; omega
  have hst := h.stk.pop
  rw [hn, Nat.add_sub_cancel] at hst
  refine ⟨rfl, ⟨g, n, lv, h.hb, by simpa using h.hz, ?_, ?_, h.gz, h.gne, h.gnl, h.lz, h.ln.kept hset h.lwb⟩, (Kp.refl z w).setCell (p := ⟨wb, 0, none⟩) h.hb _⟩
  · have := L.blk_set h.blk 0 (.slice (some ⟨g, 0, none⟩) n n)
    simp only [htl]
    exact this
  · simp only [htl]
    exact ⟨hst.1, hst.2.grown hset (by simpa using h.gne)⟩
def SayC (z : Zone) (wb : Nat) (op : List Lb) (out : List (List UInt8)) (w : World) (x : ByteArray) (t : List UInt8) : Prop := Calls Tryd.prog 83 #[.pointer (some ⟨wb, 0, none⟩), .string x] w (WTook w z wb op (out ++ [t]))
theorem SayC.call {x : ByteArray} {t : List UInt8} (h : SayC z wb op out w x t) : Calls Tryd.prog 83 #[.pointer (some ⟨wb, 0, none⟩), .string x] w (WTook w z wb op (out ++ [t])) := h
theorem say_c (h : Wm w z wb op out g cap lv) (t : List UInt8) (hn : out.length ≤ 4194304) : SayC z wb op out w ⟨t.toArray⟩ t := say_any h t hn

set_option maxRecDepth 100000 in
set_option maxHeartbeats 1000000 in
theorem leave_any (h : Wm w z wb op out g cap lv) (h2 : 2 ≤ op.length) (hn : out.length ≤ 4194304) (hm : op.length ≤ 4194304) :
    Calls Tryd.prog 53 #[.pointer (some ⟨wb, 0, none⟩)] w (WTook w z wb op.tail (out ++ [kEnd])) := by
  have HS : Hid (SayC z wb op out w ⟨#[64, 64, 32, 101, 110, 100]⟩ kEnd) := Lib.hid (say_c h kEnd hn)
  obtain ⟨n, hnn⟩ : ∃ n, op.length = n + 1 := ⟨op.length - 1, by omega⟩
  have HNN := Lib.hid hnn
  clear h
  go_enter Tryd.func53, Tryd.ntmps53
  go_wp2_with fail
  with_reducible refine (HS.out.call).mono ?_
  rintro e w1 ⟨rfl, ⟨g1, cap1, lv1, hW⟩, hk⟩
  have HW := Lib.hid hW
  have HK := Lib.hid hk
  have c0 : w1.cell? ⟨wb, 0, none⟩ = some (.slice (some ⟨g1, 0, none⟩) (n + 1) cap1) := by rw [← hnn]; exact L.blk_cell hW.blk 0
  have z0 := L.blk_free hW.blk 0
  have hle := hW.stk.row.le
  rw [hnn] at hle
  have HCL := Lib.hid (fun W : World => closed_any g1 n cap1 W (by omega) hle)
  clear hW hk HS hnn
  go_wp2_with fail
  with_reducible refine (HCL.out _).mono ?_
  rintro e w' ⟨rfl, rfl⟩
  go_wp2_with fail
  go_end0
  exact (HW.out.popped HNN.out).from HK.out

set_option maxRecDepth 100000 in
set_option maxHeartbeats 1000000 in
theorem put_anchor (id lw : Int) (ct : Nat) (x : ByteArray) (ba : Bool) (HS : Hid (∀ W : World, Below w.heap.size w W → SayC z wb op out W ⟨#[64, 64, 32, 97, 110, 99, 104, 111, 114]⟩ kAnchor)) (HK : Hid (∀ W : World, Below w.heap.size w W → Kp z w W)) :
    Calls Tryd.prog 51 #[.pointer (some ⟨wb, 0, none⟩), itV id lw ct true x ba] w (WTook w z wb op (out ++ [kAnchor])) := by
  have hb := alloc1 w (.cells #[.int .i64 id, .int .i64 lw, .int .u64 (ct : Int), .bool true, .string x, .bool ba] 53)
  have HS1 := Lib.hid (HS.out _ hb)
  have HK1 := Lib.hid (HK.out _ hb)
  clear hb HS HK
  go_enter Tryd.func51, Tryd.ntmps51
  go_wp2_with fail
  with_reducible refine (HS1.out.call).mono ?_
  rintro e w1 he
  have HE := Lib.hid (he.from HK1.out)
  obtain ⟨rfl, -⟩ := he
  clear HS1 HK1
  go_wp2_with fail
  first | go_end0 | refine bodyPost_ret (results_none rfl _ _ _) rfl ?_
  exact HE.out
end Go.Proofs.YtadhhamfikpimaaDoor.I

namespace Go.Proofs.YtadhhamfikpimaaDoor.I
set_option linter.unusedVariables false
set_option linter.unusedSimpArgs false
open Go.RowKit
open T
open O (own_ne grown_of grown_set ne_type)
variable {w w' : World} {z : Zone} {wb g cap : Nat} {op : List Lb} {out : List (List UInt8)} {lv : Value}

/-- The window that reaches up to what is made next. -/
theorem Wm.up {lo a : Nat} (h : Wm w ⟨lo, a, w.heap.size⟩ wb op out g cap lv) (o : Obj) : Wm (w.alloc o) ⟨lo, a, w.heap.size + 1⟩ wb op out g cap lv := by
  have h' := h.below (alloc1 w o)
  have k1 := h.lt
  have k2 := h.stk.row.lt
  have m1 := h.hb.2
  have m2 := h.gz.2
  simp only at m1 m2
  refine ⟨⟨h.hb.1, by simp only; omega⟩, by simp, h'.blk, h'.stk, ⟨h.gz.1, by simp only; omega⟩, h.gne, h.gnl, fun k hk => ?_, h'.ln⟩
  have k3 := own_lt h.ln k hk
  have m3 := (h.lz k hk).2
  simp only at m3
  exact ⟨(h.lz k hk).1, by simp only; omega⟩
theorem Wm.less {lo a b b' : Nat} (h : Wm w ⟨lo, a, b⟩ wb op out g cap lv) (hb : b' ≤ b) : Wm w ⟨lo, a, b'⟩ wb op out g cap lv := by
  have h0 := h.hz
  have m1 := h.hb.2
  have m2 := h.gz.2
  simp only at h0 m1 m2
  refine ⟨⟨h.hb.1, by simp only; omega⟩, by simp only; omega, h.blk, h.stk, ⟨h.gz.1, by simp only; omega⟩, h.gne, h.gnl, fun k hk => ?_, h.ln⟩
  have m3 := (h.lz k hk).2
  simp only at m3
  exact ⟨(h.lz k hk).1, by simp only; omega⟩
theorem WTook.down {lo a : Nat} (hz : lo ≤ w.heap.size) (o : Obj) {e : Ending} (h : WTook (w.alloc o) ⟨lo, a, w.heap.size + 1⟩ wb op out e w') : WTook w ⟨lo, a, w.heap.size⟩ wb op out e w' := by
  obtain ⟨h1, ⟨g, cap, lv, h2⟩, h3⟩ := h
  exact ⟨h1, ⟨g, cap, lv, h2.less (Nat.le_succ _)⟩, (Kp.of (alloc1 w o) hz (Nat.le_refl _)).trans (h3.less (Nat.le_refl _) (Nat.le_succ _))⟩

set_option maxRecDepth 100000 in
set_option maxHeartbeats 1000000 in
theorem put_plain {lo a : Nat} (ha : a ≤ w.heap.size) (id lw : Int) (ct : Nat) (x y : ByteArray) (t u : List UInt8) (HP : Hid (HpC x ⟨#[64, 64]⟩ false)) (HY : Hid (y = x)) (HS : Hid (∀ W : World, ∀ o : Obj, W = w.alloc o → SayC ⟨lo, a, w.heap.size + 1⟩ wb op out W y u))
    (HS2 : Hid (∀ W : World, (∃ g cap lv, Wm W ⟨lo, a, w.heap.size + 1⟩ wb op (out ++ [u]) g cap lv) → SayC ⟨lo, a, w.heap.size + 1⟩ wb op (out ++ [u]) W ⟨#[64, 64, 32, 98, 97, 114, 101]⟩ kBare)) (HE : Hid (∀ (v : List (List UInt8)) (o : Obj) (e : Ending) (W : World), WTook (w.alloc o) ⟨lo, a, w.heap.size + 1⟩ wb op v e W → WTook w ⟨lo, a, w.heap.size⟩ wb op v e W)) :
    Calls Tryd.prog 51 #[.pointer (some ⟨wb, 0, none⟩), itV id lw ct false x false] w (WTook w ⟨lo, a, w.heap.size⟩ wb op (out ++ [u])) := by
  obtain ⟨W, hW⟩ : ∃ W : World, W = w.alloc (.cells #[.int .i64 id, .int .i64 lw, .int .u64 (ct : Int), .bool false, .string x, .bool false] 53) := ⟨_, rfl⟩
  have HS1 := Lib.hid (HS.out W _ hW)
  have HX := Lib.hid (show W.heap[w.heap.size]? = some (.cells #[.int .i64 id, .int .i64 lw, .int .u64 (ct : Int), .bool false, .string x, .bool false] 53 (0, 0)) by rw [hW]; exact heap_alloc_new w _)
  have HE1 := Lib.hid (fun v e W' => HE.out v (.cells #[.int .i64 id, .int .i64 lw, .int .u64 (ct : Int), .bool false, .string x, .bool false] 53) e W')
  rw [← hW] at HE1
  have hy := HY.out
  subst hy
  clear HS HE HY
  go_enter Tryd.func51, Tryd.ntmps51
  go_wp2_with fail
  with_reducible refine (HP.out.call _).mono ?_
  rintro e w' ⟨rfl, rfl⟩
  rw [← hW]
  clear hW HP
  go_wp2_with fail
  with_reducible refine (HS1.out.call).mono ?_
  rintro e w1 he
  have HW1 := Lib.hid he
  obtain ⟨rfl, hw, hk⟩ := he
  have c5 : w1.cell? ⟨w.heap.size, 5, none⟩ = some (.bool false) := L.blk_cell ((hk.2 w.heap.size ha (Nat.lt_succ_self _)).trans HX.out) 5
  have H2 := Lib.hid (HS2.out w1 hw)
  clear hw hk HS1 HS2
  go_wp2_with fail
  first | go_end0 | refine bodyPost_ret (results_none rfl _ _ _) rfl ?_
  exact HE1.out _ _ _ HW1.out

set_option maxRecDepth 100000 in
set_option maxHeartbeats 1000000 in
theorem put_bare {lo a : Nat} (ha : a ≤ w.heap.size) (id lw : Int) (ct : Nat) (x y : ByteArray) (t u : List UInt8) (HP : Hid (HpC x ⟨#[64, 64]⟩ false)) (HY : Hid (y = x)) (HS : Hid (∀ W : World, ∀ o : Obj, W = w.alloc o → SayC ⟨lo, a, w.heap.size + 1⟩ wb op out W y u))
    (HS2 : Hid (∀ W : World, (∃ g cap lv, Wm W ⟨lo, a, w.heap.size + 1⟩ wb op (out ++ [u]) g cap lv) → SayC ⟨lo, a, w.heap.size + 1⟩ wb op (out ++ [u]) W ⟨#[64, 64, 32, 98, 97, 114, 101]⟩ kBare)) (HE : Hid (∀ (v : List (List UInt8)) (o : Obj) (e : Ending) (W : World), WTook (w.alloc o) ⟨lo, a, w.heap.size + 1⟩ wb op v e W → WTook w ⟨lo, a, w.heap.size⟩ wb op v e W)) :
    Calls Tryd.prog 51 #[.pointer (some ⟨wb, 0, none⟩), itV id lw ct false x true] w (WTook w ⟨lo, a, w.heap.size⟩ wb op (out ++ [u] ++ [kBare])) := by
  obtain ⟨W, hW⟩ : ∃ W : World, W = w.alloc (.cells #[.int .i64 id, .int .i64 lw, .int .u64 (ct : Int), .bool false, .string x, .bool true] 53) := ⟨_, rfl⟩
  have HS1 := Lib.hid (HS.out W _ hW)
  have HX := Lib.hid (show W.heap[w.heap.size]? = some (.cells #[.int .i64 id, .int .i64 lw, .int .u64 (ct : Int), .bool false, .string x, .bool true] 53 (0, 0)) by rw [hW]; exact heap_alloc_new w _)
  have HE1 := Lib.hid (fun v e W' => HE.out v (.cells #[.int .i64 id, .int .i64 lw, .int .u64 (ct : Int), .bool false, .string x, .bool true] 53) e W')
  rw [← hW] at HE1
  have hy := HY.out
  subst hy
  clear HS HE HY
  go_enter Tryd.func51, Tryd.ntmps51
  go_wp2_with fail
  with_reducible refine (HP.out.call _).mono ?_
  rintro e w' ⟨rfl, rfl⟩
  rw [← hW]
  clear hW HP
  go_wp2_with fail
  with_reducible refine (HS1.out.call).mono ?_
  rintro e w1 he
  have HW1 := Lib.hid he
  obtain ⟨rfl, hw, hk⟩ := he
  have c5 : w1.cell? ⟨w.heap.size, 5, none⟩ = some (.bool true) := L.blk_cell ((hk.2 w.heap.size ha (Nat.lt_succ_self _)).trans HX.out) 5
  have H2 := Lib.hid (HS2.out w1 hw)
  clear hw hk HS1 HS2
  go_wp2_with fail
  with_reducible refine (H2.out.call).mono ?_
  rintro e w2 he
  have HW2 := Lib.hid (HE1.out _ _ _ (he.from HW1.out.2.2))
  obtain ⟨rfl, -⟩ := he
  clear H2 HW1 c5 HE1
  go_wp2_with fail
  first | go_end0 | refine bodyPost_ret (results_none rfl _ _ _) rfl ?_
  exact HW2.out

set_option maxRecDepth 100000 in
set_option maxHeartbeats 1000000 in
theorem put_esc {lo a : Nat} (ha : a ≤ w.heap.size) (id lw : Int) (ct : Nat) (x y : ByteArray) (t u : List UInt8) (HP : Hid (HpC x ⟨#[64, 64]⟩ true)) (HY : Hid (∀ w : World, (Op.stringOp .add ⟨#[64]⟩ x).run Tryd.prog w = .ok (.string y) w)) (HS : Hid (∀ W : World, ∀ o : Obj, W = w.alloc o → SayC ⟨lo, a, w.heap.size + 1⟩ wb op out W y u))
    (HS2 : Hid (∀ W : World, (∃ g cap lv, Wm W ⟨lo, a, w.heap.size + 1⟩ wb op (out ++ [u]) g cap lv) → SayC ⟨lo, a, w.heap.size + 1⟩ wb op (out ++ [u]) W ⟨#[64, 64, 32, 98, 97, 114, 101]⟩ kBare)) (HE : Hid (∀ (v : List (List UInt8)) (o : Obj) (e : Ending) (W : World), WTook (w.alloc o) ⟨lo, a, w.heap.size + 1⟩ wb op v e W → WTook w ⟨lo, a, w.heap.size⟩ wb op v e W)) :
    Calls Tryd.prog 51 #[.pointer (some ⟨wb, 0, none⟩), itV id lw ct false x false] w (WTook w ⟨lo, a, w.heap.size⟩ wb op (out ++ [u])) := by
  obtain ⟨W, hW⟩ : ∃ W : World, W = w.alloc (.cells #[.int .i64 id, .int .i64 lw, .int .u64 (ct : Int), .bool false, .string x, .bool false] 53) := ⟨_, rfl⟩
  have HS1 := Lib.hid (HS.out W _ hW)
  have HX := Lib.hid (show W.heap[w.heap.size]? = some (.cells #[.int .i64 id, .int .i64 lw, .int .u64 (ct : Int), .bool false, .string x, .bool false] 53 (0, 0)) by rw [hW]; exact heap_alloc_new w _)
  have HE1 := Lib.hid (fun v e W' => HE.out v (.cells #[.int .i64 id, .int .i64 lw, .int .u64 (ct : Int), .bool false, .string x, .bool false] 53) e W')
  rw [← hW] at HE1
  have ad := HY.out
  clear HS HE HY
  go_enter Tryd.func51, Tryd.ntmps51
  go_wp2_with fail
  with_reducible refine (HP.out.call _).mono ?_
  rintro e w' ⟨rfl, rfl⟩
  rw [← hW]
  clear hW HP
  go_wp2_with fail
  with_reducible refine (HS1.out.call).mono ?_
  rintro e w1 he
  have HW1 := Lib.hid he
  obtain ⟨rfl, hw, hk⟩ := he
  have c5 : w1.cell? ⟨w.heap.size, 5, none⟩ = some (.bool false) := L.blk_cell ((hk.2 w.heap.size ha (Nat.lt_succ_self _)).trans HX.out) 5
  have H2 := Lib.hid (HS2.out w1 hw)
  clear hw hk HS1 HS2
  go_wp2_with fail
  first | go_end0 | refine bodyPost_ret (results_none rfl _ _ _) rfl ?_
  exact HE1.out _ _ _ HW1.out

set_option maxRecDepth 100000 in
set_option maxHeartbeats 1000000 in
theorem put_escbare {lo a : Nat} (ha : a ≤ w.heap.size) (id lw : Int) (ct : Nat) (x y : ByteArray) (t u : List UInt8) (HP : Hid (HpC x ⟨#[64, 64]⟩ true)) (HY : Hid (∀ w : World, (Op.stringOp .add ⟨#[64]⟩ x).run Tryd.prog w = .ok (.string y) w)) (HS : Hid (∀ W : World, ∀ o : Obj, W = w.alloc o → SayC ⟨lo, a, w.heap.size + 1⟩ wb op out W y u))
    (HS2 : Hid (∀ W : World, (∃ g cap lv, Wm W ⟨lo, a, w.heap.size + 1⟩ wb op (out ++ [u]) g cap lv) → SayC ⟨lo, a, w.heap.size + 1⟩ wb op (out ++ [u]) W ⟨#[64, 64, 32, 98, 97, 114, 101]⟩ kBare)) (HE : Hid (∀ (v : List (List UInt8)) (o : Obj) (e : Ending) (W : World), WTook (w.alloc o) ⟨lo, a, w.heap.size + 1⟩ wb op v e W → WTook w ⟨lo, a, w.heap.size⟩ wb op v e W)) :
    Calls Tryd.prog 51 #[.pointer (some ⟨wb, 0, none⟩), itV id lw ct false x true] w (WTook w ⟨lo, a, w.heap.size⟩ wb op (out ++ [u] ++ [kBare])) := by
  obtain ⟨W, hW⟩ : ∃ W : World, W = w.alloc (.cells #[.int .i64 id, .int .i64 lw, .int .u64 (ct : Int), .bool false, .string x, .bool true] 53) := ⟨_, rfl⟩
  have HS1 := Lib.hid (HS.out W _ hW)
  have HX := Lib.hid (show W.heap[w.heap.size]? = some (.cells #[.int .i64 id, .int .i64 lw, .int .u64 (ct : Int), .bool false, .string x, .bool true] 53 (0, 0)) by rw [hW]; exact heap_alloc_new w _)
  have HE1 := Lib.hid (fun v e W' => HE.out v (.cells #[.int .i64 id, .int .i64 lw, .int .u64 (ct : Int), .bool false, .string x, .bool true] 53) e W')
  rw [← hW] at HE1
  have ad := HY.out
  clear HS HE HY
  go_enter Tryd.func51, Tryd.ntmps51
  go_wp2_with fail
  with_reducible refine (HP.out.call _).mono ?_
  rintro e w' ⟨rfl, rfl⟩
  rw [← hW]
  clear hW HP
  go_wp2_with fail
  with_reducible refine (HS1.out.call).mono ?_
  rintro e w1 he
  have HW1 := Lib.hid he
  obtain ⟨rfl, hw, hk⟩ := he
  have c5 : w1.cell? ⟨w.heap.size, 5, none⟩ = some (.bool true) := L.blk_cell ((hk.2 w.heap.size ha (Nat.lt_succ_self _)).trans HX.out) 5
  have H2 := Lib.hid (HS2.out w1 hw)
  clear hw hk HS1 HS2
  go_wp2_with fail
  with_reducible refine (H2.out.call).mono ?_
  rintro e w2 he
  have HW2 := Lib.hid (HE1.out _ _ _ (he.from HW1.out.2.2))
  obtain ⟨rfl, -⟩ := he
  clear H2 HW1 c5 HE1
  go_wp2_with fail
  first | go_end0 | refine bodyPost_ret (results_none rfl _ _ _) rfl ?_
  exact HW2.out

theorem put_any {lo a : Nat} (h : Wm w ⟨lo, a, w.heap.size⟩ wb op out g cap lv) (ha : a ≤ w.heap.size) (x : It) (hx : x.tx.length ≤ 4194304) (hn : out.length ≤ 4000000) :
    Calls Tryd.prog 51 #[.pointer (some ⟨wb, 0, none⟩), itV x.id x.lv x.ct x.an ⟨x.tx.toArray⟩ x.ba] w (WTook w ⟨lo, a, w.heap.size⟩ wb op (out ++ putLines x)) := by
  obtain ⟨id, lw, ct, an, tx, ba⟩ := x
  simp only at hx ⊢
  unfold putLines
  simp only
  have hsz := h.size
  cases an with
  | true => exact put_anchor id lw ct _ ba (Lib.hid fun W hb => say_c (h.below hb) kAnchor (by omega)) (Lib.hid fun W hb => h.kp hb)
  | false =>
    have HS : ∀ u : List UInt8, Hid (∀ W : World, ∀ o : Obj, W = w.alloc o → SayC ⟨lo, a, w.heap.size + 1⟩ wb op out W ⟨u.toArray⟩ u) := fun u => Lib.hid fun W o hW => by
      rw [hW]; exact say_c (h.up o) u (by omega)
    have HS2 : ∀ u : List UInt8, Hid (∀ W : World, (∃ g cap lv, Wm W ⟨lo, a, w.heap.size + 1⟩ wb op (out ++ [u]) g cap lv) → SayC ⟨lo, a, w.heap.size + 1⟩ wb op (out ++ [u]) W ⟨#[64, 64, 32, 98, 97, 114, 101]⟩ kBare) := fun u => Lib.hid fun W ⟨g, cap, lv, hw⟩ => say_c hw kBare (by simp; omega)
    have HE : Hid (∀ (v : List (List UInt8)) (o : Obj) (e : Ending) (W : World), WTook (w.alloc o) ⟨lo, a, w.heap.size + 1⟩ wb op v e W → WTook w ⟨lo, a, w.heap.size⟩ wb op v e W) := Lib.hid fun v o e W hw => hw.down hsz o
    have hp := hp_is tx kSign
    unfold esc
    by_cases k : kSign <+: tx
    · rw [if_pos k]
      rw [decide_eq_true k] at hp
      have HY : Hid (∀ w : World, (Op.stringOp .add ⟨#[64]⟩ ⟨tx.toArray⟩).run Tryd.prog w = .ok (.string ⟨(64 :: tx).toArray⟩) w) := Lib.hid fun w => run_string_add_lists w [64] tx (by simp) (by omega)
      cases ba with
      | true =>
        have := put_escbare ha id lw ct ⟨tx.toArray⟩ _ tx (64 :: tx) (Lib.hid hp) HY (HS _) (HS2 _) HE
        simpa using this
      | false => exact put_esc ha id lw ct ⟨tx.toArray⟩ _ tx (64 :: tx) (Lib.hid hp) HY (HS _) (HS2 _) HE
    · rw [if_neg k]
      rw [decide_eq_false k] at hp
      cases ba with
      | true =>
        have := put_bare ha id lw ct ⟨tx.toArray⟩ _ tx tx (Lib.hid hp) (Lib.hid rfl) (HS _) (HS2 _) HE
        simpa using this
      | false => exact put_plain ha id lw ct ⟨tx.toArray⟩ _ tx tx (Lib.hid hp) (Lib.hid rfl) (HS _) (HS2 _) HE
end Go.Proofs.YtadhhamfikpimaaDoor.I
