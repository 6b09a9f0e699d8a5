/-
  The contracts of delta's readCopy and readItem.
  The contract of delta's read.
-/
import Derived.Test.YtlggoplffhdkhaaDoorGjr
import Derived.Test.YtlggoplffhdkhaaDoorGjh
import Derived.Test.YtlggoplffhdkhaaDoorGjg
namespace Go.Proofs.YtlggoplffhdkhaaDoor.Dl
set_option linter.unusedVariables false
set_option linter.unusedSimpArgs false
open Go.RowKit Go.Maps
open T
open V (drawn_below grown_of)
open I (It ItemsIn ItemsAt itCells alloc1)

theorem split_len : ∀ (l : List UInt8) (p : List UInt8 × List UInt8), L.split 32 l = some p → p.1.length ≤ l.length ∧ p.2.length ≤ l.length := fun l p h => by
  have e := congrArg List.length (split_back l p h)
  rw [List.length_append, List.length_cons] at e
  omega
theorem cA_len (l : List UInt8) : (cA l).length ≤ l.length := by
  unfold cA
  cases h : L.split 32 l with
  | none => exact Nat.le_refl _
  | some p => exact (split_len l p h).1
theorem cB_len (l : List UInt8) : (cB l).length ≤ l.length := by
  unfold cB
  cases h : L.split 32 l with
  | none => exact Nat.zero_le _
  | some p => exact (split_len l p h).2
/-- strings.Cut at a blank. -/
def CuC (s a b : ByteArray) (f : Bool) : Prop := ∀ w : World, Calls Tryd.prog 54 #[.string s, .string ⟨#[32]⟩] w fun e w' => e = .returned (.tuple #[.string a, .string b, .bool f]) ∧ Below w.heap.size w w'
theorem CuC.call {s a b : ByteArray} {f : Bool} (h : CuC s a b f) (w : World) : Calls Tryd.prog 54 #[.string s, .string ⟨#[32]⟩] w fun e w' => e = .returned (.tuple #[.string a, .string b, .bool f]) ∧ Below w.heap.size w w' := h w
theorem cut_is (l : List UInt8) (h : l.length ≤ maxLen) : CuC ⟨l.toArray⟩ ⟨(cA l).toArray⟩ ⟨(cB l).toArray⟩ (L.split 32 l).isSome := fun w => by
  refine (L.cutc ⟨l.toArray⟩ 32 w (by rw [lsize]; exact h)).mono fun e w' he => ⟨?_, he.2⟩
  rw [he.1, ldata]
  unfold L.cutVal cA cB
  cases L.split 32 l with
  | none => rfl
  | some p => rfl
def NmC (s : ByteArray) (n : Int) (f : Bool) : Prop := ∀ w : World, Calls Tryd.prog 70 #[.string s] w fun e w' => e = .returned (.tuple #[.int .i64 n, .bool f]) ∧ w = w'
theorem NmC.call {s : ByteArray} {n : Int} {f : Bool} (h : NmC s n f) (w : World) : Calls Tryd.prog 70 #[.string s] w fun e w' => e = .returned (.tuple #[.int .i64 n, .bool f]) ∧ w = w' := h w
theorem num_is (l : List UInt8) (h : l.length ≤ maxLen) : NmC ⟨l.toArray⟩ (nm l) (P.number l).isSome := fun w => by
  refine (number_any ⟨l.toArray⟩ w (by rw [lsize]; exact h)).mono fun e w' he => ⟨?_, he.2⟩
  rw [he.1, ldata]
  unfold numVal nm
  cases P.number l with
  | none => rfl
  | some p => rfl
def LpC (s : ByteArray) (lv : Int) (ct : Nat) (f : Bool) : Prop := ∀ w : World, Tab w → Calls Tryd.prog 71 #[.string s] w fun e w' => e = .returned (.tuple #[.agg #[.int .i64 lv, .int .u64 (ct : Int)], .bool f]) ∧ Below w.heap.size w w'
theorem LpC.call {s : ByteArray} {lv : Int} {ct : Nat} {f : Bool} (h : LpC s lv ct f) (w : World) (hT : Tab w) : Calls Tryd.prog 71 #[.string s] w fun e w' => e = .returned (.tuple #[.agg #[.int .i64 lv, .int .u64 (ct : Int)], .bool f]) ∧ Below w.heap.size w w' := h w hT
theorem lpar_is (l : List UInt8) (h : l.length ≤ 4194304) : LpC ⟨l.toArray⟩ (lbA l) (lbC l) (L.parse l).isSome := fun w hT => by
  refine (L.parse_any ⟨l.toArray⟩ w (by rw [lsize]; exact h) hT).mono fun e w' he => ⟨?_, he.2⟩
  rw [he.1, ldata]
  unfold L.parseVal lbA lbC
  cases L.parse l with
  | none => rfl
  | some p => rfl
def HpC (x : ByteArray) (b : Bool) : Prop := ∀ w : World, Calls Tryd.prog 72 #[.string x, .string ⟨#[97]⟩] w fun e w' => e = .returned (.bool b) ∧ w = w'
theorem HpC.call {x : ByteArray} {b : Bool} (h : HpC x b) (w : World) : Calls Tryd.prog 72 #[.string x, .string ⟨#[97]⟩] w fun e w' => e = .returned (.bool b) ∧ w = w' := h w
theorem hp_is (t : List UInt8) : HpC ⟨t.toArray⟩ (Lib.hasPrefix t [97]) := fun w => (Tryd.strings_HasPrefix ⟨t.toArray⟩ ⟨#[97]⟩ w).mono fun e w' he => ⟨by rw [he.1, ldata], he.2.symm⟩
def HqC (x : ByteArray) (b : Bool) : Prop := ∀ w : World, Calls Tryd.prog 73 #[.string x, .string ⟨#[98]⟩] w fun e w' => e = .returned (.bool b) ∧ w = w'
theorem HqC.call {x : ByteArray} {b : Bool} (h : HqC x b) (w : World) : Calls Tryd.prog 73 #[.string x, .string ⟨#[98]⟩] w fun e w' => e = .returned (.bool b) ∧ w = w' := h w
theorem hq_is (t : List UInt8) (h : t.length ≤ maxLen) : HqC ⟨t.toArray⟩ (Lib.hasSuffix t [98]) := fun w => (Tryd.strings_HasSuffix ⟨t.toArray⟩ ⟨#[98]⟩ w (by rw [lsize]; unfold maxLen at h; omega)).mono fun e w' he => ⟨by rw [he.1, ldata], he.2.symm⟩

set_option maxRecDepth 100000 in
set_option maxHeartbeats 4000000 in
theorem rcopy_any (l : List UInt8) (w : World) (hl : l.length ≤ maxLen) : Calls Tryd.prog 55 #[.string ⟨l.toArray⟩] w fun e w' => e = .returned (.agg #[.int .i64 (rcp l).at_, .int .i64 (rcp l).n, .slice none 0 0]) ∧ Below w.heap.size w w' := by
  have HC := Lib.hid (cut_is l hl)
  have HA := Lib.hid (num_is (cA l) (Nat.le_trans (cA_len l) hl))
  have HB := Lib.hid (num_is (cB l) (Nat.le_trans (cB_len l) hl))
  have e1 : (rcp l).at_ = nm (cA l) := rfl
  have e2 : (rcp l).n = nm (cB l) := rfl
  rw [e1, e2]
  generalize nm (cA l) = a at *
  generalize nm (cB l) = n at *
  generalize (P.number (cA l)).isSome = fa at *
  generalize (P.number (cB l)).isSome = fb at *
  generalize (L.split 32 l).isSome = fc at *
  generalize (⟨(cA l).toArray⟩ : ByteArray) = sa at *
  generalize (⟨(cB l).toArray⟩ : ByteArray) = sb at *
  generalize (⟨l.toArray⟩ : ByteArray) = s at *
  clear e1 e2 hl
  obtain ⟨W1, hW1⟩ : ∃ W : World, W = w.alloc (.cells #[.int .i64 0, .int .i64 0, .slice none 0 0] 27) := ⟨_, rfl⟩
  have HB1 := Lib.hid (show Below w.heap.size w W1 by rw [hW1]; exact alloc1 _ _)
  have HX1 := Lib.hid (show W1.heap[w.heap.size]? = some (.cells #[.int .i64 0, .int .i64 0, .slice none 0 0] 27 (0, 0)) by rw [hW1]; exact heap_alloc_new w _)
  obtain ⟨b0, hb0⟩ : ∃ q, q = w.heap.size := ⟨_, rfl⟩
  have HB0 := Lib.hid hb0
  rw [← hb0] at HX1
  go_enter Tryd.func55, Tryd.ntmps55
  go_upto_region 1 with fail
  rw [← hW1, ← hb0]
  clear hW1 hb0
  go_wp2_with fail
  with_reducible refine (HC.out.call _).mono ?_
  rintro e w2 ⟨rfl, hb2⟩
  have hx2 := (hb2.block _ (L.blk_lt HX1.out)).trans HX1.out
  have HB2 := Lib.hid (HB1.out.trans (hb2.mono HB1.out.size))
  clear HB1 hb2 HX1
  obtain ⟨W3, hW3⟩ : ∃ W : World, W = w2.alloc (.cells #[.int .i64 0, .int .i64 0, .slice none 0 0] 27) := ⟨_, rfl⟩
  have hb3 : Below w2.heap.size w2 W3 := by rw [hW3]; exact alloc1 _ _
  have HY3 := Lib.hid (show W3.heap[w2.heap.size]? = some (.cells #[.int .i64 0, .int .i64 0, .slice none 0 0] 27 (0, 0)) by rw [hW3]; exact heap_alloc_new w2 _)
  have HX3 := Lib.hid ((hb3.block _ (L.blk_lt hx2)).trans hx2)
  have HB3 := Lib.hid (HB2.out.trans (hb3.mono HB2.out.size))
  have hlt0 := L.blk_lt hx2
  have hge1 := HB2.out.size
  obtain ⟨b1, hb1⟩ : ∃ q, q = w2.heap.size := ⟨_, rfl⟩
  rw [← hb1] at HY3 hlt0 hge1
  have y0 := L.blk_cell HY3.out 0
  have z0 := L.blk_free HY3.out 0
  simp only [List.getElem?_toArray, List.getElem?_cons_zero, List.getElem?_cons_succ] at y0
  have hne : ¬ b0 = b1 := by omega
  have hne2 : ¬ b1 = b0 := by omega
  clear hb3 hx2 HB2
  go_upto_region 3 with fail
  rw [← hW3, ← hb1]
  clear hW3 hb1
  go_wp2_with fail
  with_reducible refine (HA.out.call _).mono ?_
  rintro e w3 ⟨rfl, rfl⟩
  clear HC HA
  go_upto_region 4 with fail
  obtain ⟨W4, hW4⟩ : ∃ W : World, W = W3.setCell ⟨b1, 0, none⟩ (.int .i64 a) := ⟨_, rfl⟩
  have HY4 := Lib.hid (show W4.heap[b1]? = some (.cells #[.int .i64 a, .int .i64 0, .slice none 0 0] 27 (0, 0)) by rw [hW4]; exact L.blk_set HY3.out 0 (.int .i64 a))
  have HX4 := Lib.hid (show W4.heap[b0]? = some (.cells #[.int .i64 0, .int .i64 0, .slice none 0 0] 27 (0, 0)) by rw [hW4]; exact ((V.grown_set W3 ⟨b1, 0, none⟩ (.int .i64 a)).block b0 (L.blk_lt HX3.out) (fun e => hne (Option.some.inj e))).trans HX3.out)
  have HB4 := Lib.hid (show Below w.heap.size w W4 by rw [hW4]; exact HB3.out.setCell (p := ⟨b1, 0, none⟩) (by omega) _)
  rw [← hW4]
  clear hW4 HY3 HX3 HB3 y0 z0
  have y1 := L.blk_cell HY4.out 1
  have z1 := L.blk_free HY4.out 1
  simp only [List.getElem?_toArray, List.getElem?_cons_zero, List.getElem?_cons_succ] at y1
  go_wp2_with fail
  with_reducible refine (HB.out.call _).mono ?_
  rintro e w3 ⟨rfl, rfl⟩
  clear HB
  go_upto_region 5 with fail
  obtain ⟨W5, hW5⟩ : ∃ W : World, W = W4.setCell ⟨b1, 1, none⟩ (.int .i64 n) := ⟨_, rfl⟩
  have hY5 : W5.heap[b1]? = some (.cells #[.int .i64 a, .int .i64 n, .slice none 0 0] 27 (0, 0)) := by rw [hW5]; exact L.blk_set HY4.out 1 (.int .i64 n)
  have hX5 : W5.heap[b0]? = some (.cells #[.int .i64 0, .int .i64 0, .slice none 0 0] 27 (0, 0)) := by rw [hW5]; exact ((V.grown_set W4 ⟨b1, 1, none⟩ (.int .i64 n)).block b0 (L.blk_lt HX4.out) (fun e => hne (Option.some.inj e))).trans HX4.out
  have HB5 := Lib.hid (show Below w.heap.size w W5 by rw [hW5]; exact HB4.out.setCell (p := ⟨b1, 1, none⟩) (by omega) _)
  rw [← hW5]
  clear hW5 HY4 HX4 HB4 y1 z1
  have y0 := L.blk_cell hY5 0
  have y1 := L.blk_cell hY5 1
  have y2 := L.blk_cell hY5 2
  have p0 := L.blk_cell hX5 0
  have p1 := L.blk_cell hX5 1
  have p2 := L.blk_cell hX5 2
  have q0 := L.blk_free hX5 0
  have q1 := L.blk_free hX5 1
  have q2 := L.blk_free hX5 2
  simp only [List.getElem?_toArray, List.getElem?_cons_zero, List.getElem?_cons_succ] at y0 y1 y2 p0 p1 p2
  clear hY5 hX5
  have hge0 : w.heap.size ≤ b0 := by rw [HB0.out]; exact Nat.le_refl _
  go_wp2_with fail
  refine bodyPost_ret (v := .agg #[.int .i64 a, .int .i64 n, .slice none 0 0]) (by simp [results, Tryd.results55, go_sem]; go_simp) rfl ⟨rfl, ?_⟩
  exact ((HB5.out.setCell (p := ⟨b0, _, none⟩) hge0 _).setCell (p := ⟨b0, _, none⟩) hge0 _).setCell (p := ⟨b0, _, none⟩) hge0 _
set_option maxRecDepth 100000 in
set_option maxHeartbeats 8000000 in
theorem ritem_any (l : List UInt8) (w : World) (hl : l.length ≤ 4194304) (hT : Tab w) : Calls Tryd.prog 57 #[.string ⟨l.toArray⟩] w fun e w' => e = .returned (itV (rit l)) ∧ Below w.heap.size w w' := by
  have hm : ∀ n, n ≤ 4194304 → n ≤ maxLen := fun n h => by unfold maxLen; omega
  have l1 := Nat.le_trans (cB_len l) hl
  have l2 := Nat.le_trans (cB_len (cB l)) l1
  have l3 := Nat.le_trans (cA_len l) hl
  have l4 := Nat.le_trans (cA_len (cB l)) l1
  have l5 := Nat.le_trans (cA_len (cB (cB l))) l2
  have HC1 := Lib.hid (cut_is l (hm _ hl))
  have HC2 := Lib.hid (cut_is (cB l) (hm _ l1))
  have HC3 := Lib.hid (cut_is (cB (cB l)) (hm _ l2))
  have HN := Lib.hid (num_is (cA l) (hm _ l3))
  have HL := Lib.hid (lpar_is (cA (cB l)) l4)
  have HP := Lib.hid (hp_is (cA (cB (cB l))))
  have HQ := Lib.hid (hq_is (cA (cB (cB l))) (hm _ l5))
  have HT := Lib.hid hT
  have er : itV (rit l) = .agg #[.int .i64 (nm (cA l)), .int .i64 (lbA (cA (cB l))), .int .u64 (lbC (cA (cB l)) : Int), .bool (Lib.hasPrefix (cA (cB (cB l))) [97]), .string ⟨(cB (cB (cB l))).toArray⟩, .bool (Lib.hasSuffix (cA (cB (cB l))) [98])] := rfl
  rw [er]
  generalize nm (cA l) = id at *
  generalize lbA (cA (cB l)) = lv at *
  generalize lbC (cA (cB l)) = ct at *
  generalize Lib.hasPrefix (cA (cB (cB l))) [97] = an at *
  generalize Lib.hasSuffix (cA (cB (cB l))) [98] = ba at *
  generalize (P.number (cA l)).isSome = f1 at *
  generalize (L.parse (cA (cB l))).isSome = f2 at *
  generalize (L.split 32 l).isSome = f3 at *
  generalize (L.split 32 (cB l)).isSome = f4 at *
  generalize (L.split 32 (cB (cB l))).isSome = f5 at *
  generalize (⟨(cA l).toArray⟩ : ByteArray) = s1 at *
  generalize (⟨(cA (cB l)).toArray⟩ : ByteArray) = s2 at *
  generalize (⟨(cA (cB (cB l))).toArray⟩ : ByteArray) = s3 at *
  generalize (⟨(cB (cB (cB l))).toArray⟩ : ByteArray) = t3 at *
  generalize (⟨(cB (cB l)).toArray⟩ : ByteArray) = t2 at *
  generalize (⟨(cB l).toArray⟩ : ByteArray) = t1 at *
  generalize (⟨l.toArray⟩ : ByteArray) = t0 at *
  clear er hl hm l1 l2 l3 l4 l5 hT
  obtain ⟨W1, hW1⟩ : ∃ W : World, W = w.alloc (.cells #[.int .i64 0, .int .i64 0, .int .u64 0, .bool false, .string ⟨#[]⟩, .bool false] 41) := ⟨_, rfl⟩
  have HB1 := Lib.hid (show Below w.heap.size w W1 by rw [hW1]; exact alloc1 _ _)
  have HX1 := Lib.hid (show W1.heap[w.heap.size]? = some (.cells #[.int .i64 0, .int .i64 0, .int .u64 0, .bool false, .string ⟨#[]⟩, .bool false] 41 (0, 0)) by rw [hW1]; exact heap_alloc_new w _)
  obtain ⟨b0, hb0⟩ : ∃ q, q = w.heap.size := ⟨_, rfl⟩
  have HB0 := Lib.hid hb0
  rw [← hb0] at HX1
  go_enter Tryd.func57, Tryd.ntmps57
  go_upto_region 1 with fail
  rw [← hW1, ← hb0]
  clear hW1 hb0
  go_wp2_with fail
  with_reducible refine (HC1.out.call _).mono ?_
  rintro e w2 ⟨rfl, hb2⟩
  have HX2 := Lib.hid ((hb2.block _ (L.blk_lt HX1.out)).trans HX1.out)
  have HB2 := Lib.hid (HB1.out.trans (hb2.mono HB1.out.size))
  clear HB1 hb2 HX1 HC1
  go_wp2_with fail
  with_reducible refine (HC2.out.call _).mono ?_
  rintro e w3 ⟨rfl, hb3⟩
  have HX3 := Lib.hid ((hb3.block _ (L.blk_lt HX2.out)).trans HX2.out)
  have HB3 := Lib.hid (HB2.out.trans (hb3.mono HB2.out.size))
  clear HB2 hb3 HX2 HC2
  go_wp2_with fail
  with_reducible refine (HC3.out.call _).mono ?_
  rintro e w4 ⟨rfl, hb4⟩
  have HX4 := Lib.hid ((hb4.block _ (L.blk_lt HX3.out)).trans HX3.out)
  have HB4 := Lib.hid (HB3.out.trans (hb4.mono HB3.out.size))
  clear HB3 hb4 HX3 HC3
  obtain ⟨W5, hW5⟩ : ∃ W : World, W = w4.alloc (.cells #[.int .i64 0, .int .i64 0, .int .u64 0, .bool false, .string ⟨#[]⟩, .bool false] 41) := ⟨_, rfl⟩
  have hb5 : Below w4.heap.size w4 W5 := by rw [hW5]; exact alloc1 _ _
  have HY5 := Lib.hid (show W5.heap[w4.heap.size]? = some (.cells #[.int .i64 0, .int .i64 0, .int .u64 0, .bool false, .string ⟨#[]⟩, .bool false] 41 (0, 0)) by rw [hW5]; exact heap_alloc_new w4 _)
  have HX5 := Lib.hid ((hb5.block _ (L.blk_lt HX4.out)).trans HX4.out)
  have HB5 := Lib.hid (HB4.out.trans (hb5.mono HB4.out.size))
  have hlt0 := L.blk_lt HX4.out
  have hge1 := HB4.out.size
  obtain ⟨b1, hb1⟩ : ∃ q, q = w4.heap.size := ⟨_, rfl⟩
  rw [← hb1] at HY5 hlt0 hge1
  have hne : ¬ b0 = b1 := by omega
  have hne2 : ¬ b1 = b0 := by omega
  clear hb5 HB4 HX4
  go_upto_region 5 with fail
  rw [← hW5, ← hb1]
  clear hW5 hb1
  have y0 := L.blk_cell HY5.out 0
  have z0 := L.blk_free HY5.out 0
  simp only [List.getElem?_toArray, List.getElem?_cons_zero, List.getElem?_cons_succ] at y0
  go_wp2_with fail
  with_reducible refine (HN.out.call _).mono ?_
  rintro e w9 ⟨rfl, rfl⟩
  clear HN
  go_upto_region 6 with fail
  obtain ⟨W6, hW6⟩ : ∃ W : World, W = W5.setCell ⟨b1, 0, none⟩ (.int .i64 id) := ⟨_, rfl⟩
  have HY6 := Lib.hid (show W6.heap[b1]? = some (.cells #[.int .i64 id, .int .i64 0, .int .u64 0, .bool false, .string ⟨#[]⟩, .bool false] 41 (0, 0)) by rw [hW6]; exact L.blk_set (HY5.out) 0 (.int .i64 id))
  have HX6 := Lib.hid (show W6.heap[b0]? = some (.cells #[.int .i64 0, .int .i64 0, .int .u64 0, .bool false, .string ⟨#[]⟩, .bool false] 41 (0, 0)) by rw [hW6]; exact ((V.grown_set (W5) ⟨b1, 0, none⟩ (.int .i64 id)).block b0 (L.blk_lt (HX5.out)) (fun e => hne (Option.some.inj e))).trans (HX5.out))
  have HB6 := Lib.hid (show Below w.heap.size w W6 by rw [hW6]; exact Below.setCell (p := ⟨b1, 0, none⟩) (HB5.out) (by omega) _)
  rw [← hW6]
  clear hW6 HY5 HX5 HB5 y0 z0
  go_wp2_with fail
  with_reducible refine (HL.out.call _ (HT.out.later HB6.out)).mono ?_
  rintro e W7 ⟨rfl, hb7⟩
  have HY7 := Lib.hid ((hb7.block _ (L.blk_lt HY6.out)).trans HY6.out)
  have HX7 := Lib.hid ((hb7.block _ (L.blk_lt HX6.out)).trans HX6.out)
  have HB7 := Lib.hid (HB6.out.trans (hb7.mono HB6.out.size))
  clear HL HT hb7 HY6 HX6 HB6
  have y1 := L.blk_cell HY7.out 1
  have z1 := L.blk_free HY7.out 1
  have y2 := L.blk_cell HY7.out 2
  have z2 := L.blk_free HY7.out 2
  simp only [List.getElem?_toArray, List.getElem?_cons_zero, List.getElem?_cons_succ] at y1 y2
  go_upto_region 7 with fail
  obtain ⟨W8, hW8⟩ : ∃ W : World, W = (W7.setCell ⟨b1, 1, none⟩ (.int .i64 lv)).setCell ⟨b1, 2, none⟩ (.int .u64 (ct : Int)) := ⟨_, rfl⟩
  have HY8 := Lib.hid (show W8.heap[b1]? = some (.cells #[.int .i64 id, .int .i64 lv, .int .u64 (ct : Int), .bool false, .string ⟨#[]⟩, .bool false] 41 (0, 0)) by rw [hW8]; exact L.blk_set (L.blk_set (HY7.out) 1 (.int .i64 lv)) 2 (.int .u64 (ct : Int)))
  have HX8 := Lib.hid (show W8.heap[b0]? = some (.cells #[.int .i64 0, .int .i64 0, .int .u64 0, .bool false, .string ⟨#[]⟩, .bool false] 41 (0, 0)) by rw [hW8]; exact ((V.grown_set (W7.setCell ⟨b1, 1, none⟩ (.int .i64 lv)) ⟨b1, 2, none⟩ (.int .u64 (ct : Int))).block b0 (L.blk_lt (((V.grown_set (W7) ⟨b1, 1, none⟩ (.int .i64 lv)).block b0 (L.blk_lt (HX7.out)) (fun e => hne (Option.some.inj e))).trans (HX7.out))) (fun e => hne (Option.some.inj e))).trans (((V.grown_set (W7) ⟨b1, 1, none⟩ (.int .i64 lv)).block b0 (L.blk_lt (HX7.out)) (fun e => hne (Option.some.inj e))).trans (HX7.out)))
  have HB8 := Lib.hid (show Below w.heap.size w W8 by rw [hW8]; exact Below.setCell (p := ⟨b1, 2, none⟩) (Below.setCell (p := ⟨b1, 1, none⟩) (HB7.out) (by omega) _) (by omega) _)
  rw [← hW8]
  clear hW8 HY7 HX7 HB7 y1 z1 y2 z2
  have y3 := L.blk_cell HY8.out 3
  have z3 := L.blk_free HY8.out 3
  simp only [List.getElem?_toArray, List.getElem?_cons_zero, List.getElem?_cons_succ] at y3
  go_wp2_with fail
  with_reducible refine (HP.out.call _).mono ?_
  rintro e w9 ⟨rfl, rfl⟩
  clear HP
  go_upto_region 8 with fail
  obtain ⟨W9, hW9⟩ : ∃ W : World, W = W8.setCell ⟨b1, 3, none⟩ (.bool an) := ⟨_, rfl⟩
  have HY9 := Lib.hid (show W9.heap[b1]? = some (.cells #[.int .i64 id, .int .i64 lv, .int .u64 (ct : Int), .bool an, .string ⟨#[]⟩, .bool false] 41 (0, 0)) by rw [hW9]; exact L.blk_set (HY8.out) 3 (.bool an))
  have HX9 := Lib.hid (show W9.heap[b0]? = some (.cells #[.int .i64 0, .int .i64 0, .int .u64 0, .bool false, .string ⟨#[]⟩, .bool false] 41 (0, 0)) by rw [hW9]; exact ((V.grown_set (W8) ⟨b1, 3, none⟩ (.bool an)).block b0 (L.blk_lt (HX8.out)) (fun e => hne (Option.some.inj e))).trans (HX8.out))
  have HB9 := Lib.hid (show Below w.heap.size w W9 by rw [hW9]; exact Below.setCell (p := ⟨b1, 3, none⟩) (HB8.out) (by omega) _)
  rw [← hW9]
  clear hW9 HY8 HX8 HB8 y3 z3
  have y4 := L.blk_cell HY9.out 4
  have z4 := L.blk_free HY9.out 4
  have y5 := L.blk_cell HY9.out 5
  have z5 := L.blk_free HY9.out 5
  simp only [List.getElem?_toArray, List.getElem?_cons_zero, List.getElem?_cons_succ] at y4 y5
  go_wp2_with fail
  with_reducible refine (HQ.out.call _).mono ?_
  rintro e w9 ⟨rfl, rfl⟩
  clear HQ
  go_upto_region 9 with fail
  obtain ⟨W10, hW10⟩ : ∃ W : World, W = (W9.setCell ⟨b1, 4, none⟩ (.string t3)).setCell ⟨b1, 5, none⟩ (.bool ba) := ⟨_, rfl⟩
  have HY10 := Lib.hid (show W10.heap[b1]? = some (.cells #[.int .i64 id, .int .i64 lv, .int .u64 (ct : Int), .bool an, .string t3, .bool ba] 41 (0, 0)) by rw [hW10]; exact L.blk_set (L.blk_set (HY9.out) 4 (.string t3)) 5 (.bool ba))
  have HX10 := Lib.hid (show W10.heap[b0]? = some (.cells #[.int .i64 0, .int .i64 0, .int .u64 0, .bool false, .string ⟨#[]⟩, .bool false] 41 (0, 0)) by rw [hW10]; exact ((V.grown_set (W9.setCell ⟨b1, 4, none⟩ (.string t3)) ⟨b1, 5, none⟩ (.bool ba)).block b0 (L.blk_lt (((V.grown_set (W9) ⟨b1, 4, none⟩ (.string t3)).block b0 (L.blk_lt (HX9.out)) (fun e => hne (Option.some.inj e))).trans (HX9.out))) (fun e => hne (Option.some.inj e))).trans (((V.grown_set (W9) ⟨b1, 4, none⟩ (.string t3)).block b0 (L.blk_lt (HX9.out)) (fun e => hne (Option.some.inj e))).trans (HX9.out)))
  have HB10 := Lib.hid (show Below w.heap.size w W10 by rw [hW10]; exact Below.setCell (p := ⟨b1, 5, none⟩) (Below.setCell (p := ⟨b1, 4, none⟩) (HB9.out) (by omega) _) (by omega) _)
  rw [← hW10]
  clear hW10 HY9 HX9 HB9 y4 z4 y5 z5
  have y0 := L.blk_cell HY10.out 0
  have p0 := L.blk_cell HX10.out 0
  have q0 := L.blk_free HX10.out 0
  have y1 := L.blk_cell HY10.out 1
  have p1 := L.blk_cell HX10.out 1
  have q1 := L.blk_free HX10.out 1
  have y2 := L.blk_cell HY10.out 2
  have p2 := L.blk_cell HX10.out 2
  have q2 := L.blk_free HX10.out 2
  have y3 := L.blk_cell HY10.out 3
  have p3 := L.blk_cell HX10.out 3
  have q3 := L.blk_free HX10.out 3
  have y4 := L.blk_cell HY10.out 4
  have p4 := L.blk_cell HX10.out 4
  have q4 := L.blk_free HX10.out 4
  have y5 := L.blk_cell HY10.out 5
  have p5 := L.blk_cell HX10.out 5
  have q5 := L.blk_free HX10.out 5
  simp only [List.getElem?_toArray, List.getElem?_cons_zero, List.getElem?_cons_succ] at y0 p0 y1 p1 y2 p2 y3 p3 y4 p4 y5 p5
  have hge0 : w.heap.size ≤ b0 := by rw [HB0.out]; exact Nat.le_refl _
  clear HY10 HX10
  go_wp2_with fail
  refine bodyPost_ret (v := .agg #[.int .i64 id, .int .i64 lv, .int .u64 (ct : Int), .bool an, .string t3, .bool ba]) (by simp [results, Tryd.results57, go_sem]; go_simp) rfl ⟨rfl, ?_⟩
  exact Below.setCell (p := ⟨b0, _, none⟩) (Below.setCell (p := ⟨b0, _, none⟩) (Below.setCell (p := ⟨b0, _, none⟩) (Below.setCell (p := ⟨b0, _, none⟩) (Below.setCell (p := ⟨b0, _, none⟩) (Below.setCell (p := ⟨b0, _, none⟩) (HB10.out) hge0 _) hge0 _) hge0 _) hge0 _) hge0 _) hge0 _
end Go.Proofs.YtlggoplffhdkhaaDoor.Dl

namespace Go.Proofs.YtlggoplffhdkhaaDoor.Dl
set_option linter.unusedVariables false
set_option linter.unusedSimpArgs false
open Go.RowKit Go.Maps
open T
open V (drawn_below grown_of)
open I (It ItemsIn ItemsAt itCells itCells_snoc itCells_at alloc1 own_at own_below items_of_own items_own infoItem ItemsIn.below)

theorem str_is (a b : List UInt8) : ((⟨a.toArray⟩ : ByteArray).toList == b) = decide (a = b) := by
  rw [Lib.toList_data, ldata]
  by_cases h : a = b
  · rw [decide_eq_true h, beq_iff_eq]; exact h
  · rw [decide_eq_false h]; exact beq_eq_false_iff_ne.2 h
theorem pit_len {d : List Pt} {x : It} {n : Nat} (h : d.length ≤ n) (hi : ∀ p ∈ d, p.its.length ≤ n) : (pit d x).length ≤ n + 1 ∧ ∀ p ∈ pit d x, p.its.length ≤ n + 1 := by
  have key : ∀ p ∈ d ++ [(⟨0, 0, [x]⟩ : Pt)], p.its.length ≤ n + 1 := fun p hp => by
    rcases List.mem_append.1 hp with hp | hp
    · exact Nat.le_succ_of_le (hi p hp)
    · rw [List.mem_singleton.1 hp]; simp
  rcases List.eq_nil_or_concat d with rfl | ⟨e, p, rfl⟩
  · exact ⟨by simp [pit], key⟩
  · rw [List.concat_eq_append] at *
    by_cases hp : p.n = 0
    · rw [pit_last hp]
      refine ⟨by simpa using Nat.le_succ_of_le h, fun q hq => ?_⟩
      rcases List.mem_append.1 hq with hq | hq
      · exact Nat.le_succ_of_le (hi q (by simp [hq]))
      · rw [List.mem_singleton.1 hq]
        have := hi p (by simp)
        simp
        omega
    · rw [pit_new (.inr ⟨e, p, rfl, hp⟩)]
      exact ⟨by simpa using h, key⟩
theorem rstep_len {d : List Pt} {t : List UInt8} {n : Nat} (h : d.length ≤ n) (hi : ∀ p ∈ d, p.its.length ≤ n) : (rstep d t).length ≤ n + 1 ∧ ∀ p ∈ rstep d t, p.its.length ≤ n + 1 := by
  have one : ∀ q : Pt, q.its = [] → (d ++ [q]).length ≤ n + 1 ∧ ∀ p ∈ d ++ [q], p.its.length ≤ n + 1 := fun q hq => ⟨by simpa using h, fun p hp => by
    rcases List.mem_append.1 hp with hp | hp
    · exact Nat.le_succ_of_le (hi p hp)
    · rw [List.mem_singleton.1 hp, hq]; simp⟩
  unfold rstep
  split
  · exact one _ rfl
  · split
    · exact one _ rfl
    · split
      · exact pit_len h hi
      · exact ⟨Nat.le_succ_of_le h, fun p hp => Nat.le_succ_of_le (hi p hp)⟩
theorem rd_take {ls : List (List UInt8 × Bool)} {k : Nat} (h : k < ls.length) : rd [] (ls.take (k + 1)) = rstep (rd [] (ls.take k)) ls[k].1 := by
  rw [List.take_succ_eq_append_getElem h, rd_app, rd_one]
theorem rd_len (ls : List (List UInt8 × Bool)) : ∀ k, k ≤ ls.length → (rd [] (ls.take k)).length ≤ k ∧ ∀ p ∈ rd [] (ls.take k), p.its.length ≤ k
  | 0, _ => ⟨by simp [rd], fun p hp => by simp [rd] at hp⟩
  | k + 1, h => by
    have ih := rd_len ls k (by omega)
    rw [rd_take h]
    exact rstep_len ih.1 ih.2
theorem rstep_copy {d : List Pt} {t : List UInt8} (h : cA t = kCopy) : rstep d t = d ++ [rcp (cB t)] := if_pos h
theorem rstep_next {d : List Pt} {t : List UInt8} (h : cA t = kNext) : rstep d t = d ++ [⟨0, 0, []⟩] := by
  unfold rstep
  rw [if_neg (by rw [h]; decide), if_pos h]
theorem rstep_item {d : List Pt} {t : List UInt8} (h : cA t = kItem) : rstep d t = pit d (rit (cB t)) := by
  unfold rstep
  rw [if_neg (by rw [h]; decide), if_neg (by rw [h]; decide), if_pos h]
theorem rstep_none {d : List Pt} {t : List UInt8} (h1 : cA t ≠ kCopy) (h2 : cA t ≠ kNext) (h3 : cA t ≠ kItem) : rstep d t = d := by
  unfold rstep
  rw [if_neg h1, if_neg h2, if_neg h3]
def RdEnd (w : World) (d : List Pt) (e : Ending) (w' : World) : Prop := ∃ A cap qs, e = .returned (.slice A qs.length cap) ∧ Pa w' w.heap.size (.slice A qs.length cap) qs ∧ qs.map (·.p) = d ∧ Below w.heap.size w w'
set_option maxRecDepth 100000 in
set_option maxHeartbeats 8000000 in
theorem read_any (A : Option Addr) (cap : Nat) (ls : List (List UInt8 × Bool)) (w : World) (hA : LinesIn w A ls) (hn : ls.length ≤ 3000000000) (ht : ∀ x ∈ ls, x.1.length ≤ 4194304) (hT : Tab w) :
    Calls Tryd.prog 39 #[.slice A ls.length cap] w (RdEnd w (rd [] ls)) := by
  obtain ⟨j0, hj0, hy0, hy1, hy2⟩ := info_parts infoPart
  have HA := Lib.hid hA
  have HTX := Lib.hid (fun (k : Nat) (h : k < ls.length) => ht _ (List.getElem_mem h))
  have HT := Lib.hid hT
  have HRT := Lib.hid (fun (k : Nat) (h : k < ls.length) => rd_take h)
  have HRL := Lib.hid (rd_len ls)
  have HR0 : Hid (rd [] (ls.take 0) = []) := Lib.hid rfl
  have HRE : Hid (rd [] (ls.take ls.length) = rd [] ls) := Lib.hid (by rw [List.take_length])
  obtain ⟨dk, hdk⟩ : ∃ dk : Nat → List Pt, ∀ k, rd [] (ls.take k) = dk k := ⟨fun k => rd [] (ls.take k), fun _ => rfl⟩
  simp only [hdk] at HRT HRL HR0 HRE
  clear hA ht hT hdk
  go_enter Tryd.func39, Tryd.ntmps39
  go_wp2_with fail
  go_loopg [3, 11] ls.length (fun m v i wr => ∃ (k : Nat) (D : Option Addr) (dc : Nat) (qs : List Pq), k ≤ ls.length ∧ i = .int .i64 (k : Int) ∧ v = .slice D qs.length dc ∧ ls.length - k ≤ m ∧ Hid (Pa wr w.heap.size (.slice D qs.length dc) qs) ∧ Hid (Below w.heap.size w wr) ∧ Hid (qs.map (·.p) = dk k))
  case atStart => exact ⟨0, none, 0, [], Nat.zero_le _, rfl, rfl, by omega, Lib.hid (Pa.nil w), Lib.hid (Below.refl _ _), Lib.hid (by rw [HR0.out]; rfl)⟩
  case round =>
    obtain ⟨k, D, dc, qs, hk, rfl, rfl, hm, HPA, HBR, HDK⟩ := hrel
    by_cases hlt : k < ls.length
    · obtain ⟨bk, off, hAe, hbk, hI⟩ := HA.out.below HBR.out (by omega)
      subst hAe
      obtain ⟨c0, c1⟩ := hI k hlt
      have HR1 := Lib.hid (HRT.out k hlt)
      obtain ⟨hq1, hq2⟩ := HRL.out k hk
      have htl := HTX.out k hlt
      have hqs : qs.length ≤ k := by rw [← HDK.out, List.length_map] at hq1; exact hq1
      have HQI : Hid (∀ q ∈ qs, q.p.its.length ≤ 4000000000) := Lib.hid (fun q hq => by
        have := hq2 q.p (by rw [← HDK.out]; exact List.mem_map.2 ⟨q, hq, rfl⟩)
        omega)
      have h0k : (0 : Int) ≤ (k : Int) := by omega
      have hki : (k : Int) < (ls.length : Int) := by omega
      obtain ⟨x, hx⟩ : ∃ x, x = ls[k] := ⟨_, rfl⟩
      rw [← hx] at c0 c1 HR1 htl
      obtain ⟨t, b⟩ := x
      simp only at c0 c1 HR1 htl
      have htm : t.length ≤ maxLen := by unfold maxLen; omega
      have hbl := Nat.le_trans (cB_len t) htl
      have HCU := Lib.hid (cut_is t htm)
      have HRC := Lib.hid (fun (W : World) => rcopy_any (cB t) W (by unfold maxLen; omega))
      have HRI := Lib.hid (fun (W : World) (h : Below w.heap.size w W) => ritem_any (cB t) W hbl (HT.out.later h))
      have h1 : ((⟨(cA t).toArray⟩ : ByteArray).toList == [99, 111, 112, 121]) = decide (cA t = kCopy) := str_is (cA t) kCopy
      have h2 : ((⟨(cA t).toArray⟩ : ByteArray).toList == [110, 101, 120, 116]) = decide (cA t = kNext) := str_is (cA t) kNext
      have h3 : ((⟨(cA t).toArray⟩ : ByteArray).toList == [105, 116, 101, 109]) = decide (cA t = kItem) := str_is (cA t) kItem
      have HW1 := Lib.hid (fun h => rstep_copy (d := dk k) (t := t) h)
      have HW2 := Lib.hid (fun h => rstep_next (d := dk k) (t := t) h)
      have HW3 := Lib.hid (fun h => rstep_item (d := dk k) (t := t) h)
      have HW4 := Lib.hid (fun h1 h2 h3 => rstep_none (d := dk k) (t := t) h1 h2 h3)
      rw [← HR1.out] at HW1 HW2 HW3 HW4
      have HCC : Hid (rcp (cB t) = ⟨(rcp (cB t)).at_, (rcp (cB t)).n, []⟩) := Lib.hid rfl
      generalize rcp (cB t) = cp at *
      generalize rit (cB t) = it at *
      generalize cA t = ca at *
      generalize (⟨ca.toArray⟩ : ByteArray) = sa at *
      generalize (⟨(cB t).toArray⟩ : ByteArray) = sb at *
      generalize (⟨t.toArray⟩ : ByteArray) = st at *
      generalize (L.split 32 t).isSome = fl at *
      obtain ⟨W1, hW1⟩ : ∃ W : World, W = wr.alloc (.cells #[.string st, .bool b] 39) := ⟨_, rfl⟩
      have hb1 : Below wr.heap.size wr W1 := by rw [hW1]; exact alloc1 _ _
      have hx1 : W1.heap[wr.heap.size]? = some (.cells #[.string st, .bool b] 39 (0, 0)) := by rw [hW1]; exact heap_alloc_new wr _
      have e0 := L.blk_cell hx1 0
      simp only [List.getElem?_toArray, List.getElem?_cons_zero] at e0
      have HP1 := Lib.hid (HPA.out.below hb1)
      have HB1 := Lib.hid (HBR.out.trans (hb1.mono HBR.out.size))
      clear hx hbk hI hx1 hb1 HR1 hq1 hq2 htl htm hbl HBR HPA
      go_upto_region 5 with fail
      rw [← hW1]
      clear hW1 c0 c1
      go_wp2_with fail
      with_reducible refine (HCU.out.call _).mono ?_
      rintro e w2 ⟨rfl, hb2⟩
      have HP2 := Lib.hid (HP1.out.below hb2)
      have HB2 := Lib.hid (HB1.out.trans (hb2.mono HB1.out.size))
      clear hb2 HP1 HB1 HCU e0
      by_cases q1 : ca = kCopy
      · rw [decide_eq_true q1] at h1
        have HD : Hid ((qs ++ [(⟨⟨cp.at_, cp.n, []⟩, none, 0⟩ : Pq)]).map (·.p) = dk (k + 1)) := Lib.hid (by rw [List.map_append, HDK.out, HW1.out q1]; show _ ++ [(⟨cp.at_, cp.n, []⟩ : Pt)] = _; rw [← HCC.out])
        clear q1 h2 h3 HW1 HW2 HW3 HW4 HDK
        go_wp2_with fail
        with_reducible refine (HRC.out _).mono ?_
        rintro e w3 ⟨rfl, hb3⟩
        have HP3 := Lib.hid (HP2.out.below hb3)
        have HB3 := Lib.hid (HB2.out.trans (hb3.mono HB2.out.size))
        clear hb3 HP2 HB2 HRC HRI
        have hown := HP3.out.pw.own
        have hs1 := HP3.out.hs
        have HOA := Lib.hid (World.ownsRow.alloc hown (.cells #[.int .i64 cp.at_, .int .i64 cp.n, .slice none 0 0] 27))
        have HNW := Lib.hid (World.news_of_block (w := w3.alloc (.cells #[.int .i64 cp.at_, .int .i64 cp.n, .slice none 0 0] 27)) (B := w3.heap.size) (heap_alloc_new w3 _))
        clear hown
        go_wp2_with (at_builtin; refine wpList_append_own_at _ rfl (.tmp 25) (.tmp 28) 24 rfl w.heap.size 27 j0 _ 3 40 Tryd.underlying24 hj0 hy0 hy1 hy2 rfl (by decide) _ qs.length (pqCells qs) rfl HOA.out ⟨w3.heap.size, 0, none⟩ 1 1 [.int .i64 cp.at_, .int .i64 cp.n, .slice none 0 0] rfl rfl HNW.out ?c2 ?c3 ?c4 ?c5 ?_)
        case c2 => first | exact ⟨rfl, rfl⟩ | exact ⟨rfl, rfl, rfl⟩ | (intro u hu; simp at hu; rcases hu with rfl | rfl | rfl <;> rfl)
        case c3 => simp only [maxLen]; omega
        case c4 => omega
        case c5 => first | omega | (simp; omega)
        intro v' w4 hown4 hg4 _ hat4
        have hg1 : w3.grownBy w4 (Value.slice D qs.length dc).ownBlock := (grown_of (alloc1 w3 _) _).trans hg4
        have hP4 := HP3.out.add (q := ⟨⟨cp.at_, cp.n, []⟩, none, 0⟩) rfl rfl rfl hg1 hown4
        have HB4 := Lib.hid (HB3.out.grown hg1 hs1 (own_base HP3.out.pw.own))
        obtain ⟨g4, cap4, hv4, -, -⟩ := World.ownsRow.form hown4 (by omega)
        subst hv4
        have HP4 : Hid (Pa w4 w.heap.size (.slice (some ⟨g4, 0, none⟩) (qs ++ [(⟨⟨cp.at_, cp.n, []⟩, none, 0⟩ : Pq)]).length cap4) (qs ++ [⟨⟨cp.at_, cp.n, []⟩, none, 0⟩])) := Lib.hid (by rw [List.length_append]; exact hP4)
        clear hown4 hg4 hat4 hg1 hP4 HOA HNW hs1
        go_wp2_with fail
        go_roundg (ls.length - (k + 1))
        case rel => exact ⟨k + 1, some ⟨g4, 0, none⟩, cap4, _, by omega, by go_num, by rw [List.length_append]; rfl, Nat.le_refl _, HP4, HB4, HD⟩
        case measure => omega
      · rw [decide_eq_false q1] at h1
        by_cases q2 : ca = kNext
        · rw [decide_eq_true q2] at h2
          have HD : Hid ((qs ++ [(⟨⟨0, 0, []⟩, none, 0⟩ : Pq)]).map (·.p) = dk (k + 1)) := Lib.hid (by rw [List.map_append, HDK.out, HW2.out q2]; rfl)
          clear q1 q2 h3 HW1 HW2 HW3 HW4 HDK HRC HRI
          have hown := HP2.out.pw.own
          have hs1 := HP2.out.hs
          have HOA := Lib.hid (World.ownsRow.alloc hown (.cells #[.int .i64 0, .int .i64 0, .slice none 0 0] 27))
          have HNW := Lib.hid (World.news_of_block (w := w2.alloc (.cells #[.int .i64 0, .int .i64 0, .slice none 0 0] 27)) (B := w2.heap.size) (heap_alloc_new w2 _))
          clear hown
          go_wp2_with (at_builtin; refine wpList_append_own_at _ rfl (.tmp 32) (.tmp 34) 24 rfl w.heap.size 27 j0 _ 3 40 Tryd.underlying24 hj0 hy0 hy1 hy2 rfl (by decide) _ qs.length (pqCells qs) rfl HOA.out ⟨w2.heap.size, 0, none⟩ 1 1 [.int .i64 0, .int .i64 0, .slice none 0 0] rfl rfl HNW.out ?c2 ?c3 ?c4 ?c5 ?_)
          case c2 => first | exact ⟨rfl, rfl⟩ | exact ⟨rfl, rfl, rfl⟩ | (intro u hu; simp at hu; rcases hu with rfl | rfl | rfl <;> rfl)
          case c3 => simp only [maxLen]; omega
          case c4 => omega
          case c5 => first | omega | (simp; omega)
          intro v' w4 hown4 hg4 _ hat4
          have hg1 : w2.grownBy w4 (Value.slice D qs.length dc).ownBlock := (grown_of (alloc1 w2 _) _).trans hg4
          have hP4 := HP2.out.add (q := ⟨⟨0, 0, []⟩, none, 0⟩) rfl rfl rfl hg1 hown4
          have HB4 := Lib.hid (HB2.out.grown hg1 hs1 (own_base HP2.out.pw.own))
          obtain ⟨g4, cap4, hv4, -, -⟩ := World.ownsRow.form hown4 (by omega)
          subst hv4
          have HP4 : Hid (Pa w4 w.heap.size (.slice (some ⟨g4, 0, none⟩) (qs ++ [(⟨⟨0, 0, []⟩, none, 0⟩ : Pq)]).length cap4) (qs ++ [⟨⟨0, 0, []⟩, none, 0⟩])) := Lib.hid (by rw [List.length_append]; exact hP4)
          clear hown4 hg4 hat4 hg1 hP4 HOA HNW hs1
          go_wp2_with fail
          go_roundg (ls.length - (k + 1))
          case rel => exact ⟨k + 1, some ⟨g4, 0, none⟩, cap4, _, by omega, by go_num, by rw [List.length_append]; rfl, Nat.le_refl _, HP4, HB4, HD⟩
          case measure => omega
        · rw [decide_eq_false q2] at h2
          by_cases q3 : ca = kItem
          · rw [decide_eq_true q3] at h3
            have HD := Lib.hid (HW3.out q3)
            rw [← HDK.out] at HD
            clear q1 q2 q3 HW1 HW2 HW3 HW4 HDK HRC
            go_wp2_with fail
            with_reducible refine (HRI.out _ HB2.out).mono ?_
            rintro e w3 ⟨rfl, hb3⟩
            have HPU := Lib.hid (put_any w.heap.size D dc qs it w3 (HP2.out.below hb3) (by omega) HQI.out)
            have HB3 := Lib.hid (HB2.out.trans (hb3.mono HB2.out.size))
            clear hb3 HP2 HB2 HRI
            go_wp2_with fail
            with_reducible refine HPU.out.mono ?_
            rintro e w4 ⟨D4, dc4, qs4, rfl, hP4, hm4, hb4⟩
            have HP4 := Lib.hid hP4
            have HB4 := Lib.hid (HB3.out.trans hb4)
            have HD4 := Lib.hid (hm4.trans HD.out.symm)
            clear hP4 hm4 hb4 HD HPU HB3
            go_wp2_with fail
            go_roundg (ls.length - (k + 1))
            case rel => exact ⟨k + 1, D4, dc4, qs4, by omega, by go_num, rfl, Nat.le_refl _, HP4, HB4, HD4⟩
            case measure => omega
          · rw [decide_eq_false q3] at h3
            have HD := Lib.hid (HDK.out.trans (HW4.out q1 q2 q3).symm)
            clear q1 q2 q3 HW1 HW2 HW3 HW4 HDK HRC HRI
            go_wp2_with fail
            go_roundg (ls.length - (k + 1))
            case rel => exact ⟨k + 1, D, dc, qs, by omega, by go_num, rfl, Nat.le_refl _, HP2, HB2, HD⟩
            case measure => omega
    · obtain rfl : k = ls.length := by omega
      have HDE := Lib.hid (HDK.out.trans HRE.out)
      go_wp2_with fail
      go_ret
      exact ⟨D, dc, qs, rfl, HPA.out, HDE.out, HBR.out⟩
end Go.Proofs.YtlggoplffhdkhaaDoor.Dl
