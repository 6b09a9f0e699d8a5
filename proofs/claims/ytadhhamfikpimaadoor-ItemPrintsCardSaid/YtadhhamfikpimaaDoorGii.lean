/-
  The contract of item's Print.
  The contracts of the reference's Same, on items that are the same, and of Numbered.
-/
import Derived.Test.YtadhhamfikpimaaDoorGih
import Derived.Test.YtadhhamfikpimaaDoorGia
import Derived.Test.YtadhhamfikpimaaDoorGg
import Derived.Test.YtadhhamfikpimaaDoorGif
import Derived.Deep.QuietTactic
import Derived.BigQuiet
namespace Go.Proofs.YtadhhamfikpimaaDoor.I
set_option linter.unusedVariables false
set_option linter.unusedSimpArgs false
open Go.RowKit
open T
open O (own_ne grown_of grown_set ne_type)

/-- What Print comes to. -/
def PrEnd (w : World) (o : List UInt8 ⊕ Nat) (e : Ending) (w' : World) : Prop :=
  Below w.heap.size w w' ∧ (match o with
  | .inl b => ∃ A cap, e = .returned (.tuple #[.slice A b.length cap, .int .i64 0]) ∧ w'.ownsRow w.heap.size 5 1 (.slice A b.length cap) b.length (T.byteCells b)
  | .inr k => e = .returned (.tuple #[.slice none 0 0, .int .i64 (k : Int)]))
def CkC (A : Option Addr) (n cap : Nat) (fl : Lb) (w : World) (k : Nat) : Prop := Calls Tryd.prog 28 #[.slice A n cap, L.lab fl.1 fl.2] w fun e w' => e = .returned (.int .i64 (k : Int)) ∧ Below w.heap.size w w'
theorem CkC.call {A : Option Addr} {n cap : Nat} {fl : Lb} {w : World} {k : Nat} (h : CkC A n cap fl w k) : Calls Tryd.prog 28 #[.slice A n cap, L.lab fl.1 fl.2] w fun e w' => e = .returned (.int .i64 (k : Int)) ∧ Below w.heap.size w w' := h
def CkAll (A : Option Addr) (n cap : Nat) (fl : Lb) (w : World) (k : Nat) : Prop := ∀ W : World, Below w.heap.size w W → CkC A n cap fl W k

set_option maxRecDepth 100000 in
set_option maxHeartbeats 1000000 in
theorem print_check (A : Option Addr) (n cap : Nat) (fl : Lb) (w : World) (k : Nat) (hk : k ≠ 0) (HC : Hid (CkAll A n cap fl w k)) :
    Calls Tryd.prog 25 #[.slice A n cap, L.lab fl.1 fl.2] w (PrEnd w (.inr k)) := by
  have hb := alloc1 w (.cells #[.int .i64 fl.1, .int .u64 (fl.2 : Int)] 40)
  have H1 := Lib.hid (HC.out _ hb)
  have HB := Lib.hid hb
  have hne : ((k : Int) != 0) = true := by simpa using hk
  clear hb HC
  go_enter Tryd.func25, Tryd.ntmps25
  go_wp2_with fail
  with_reducible refine (H1.out.call).mono ?_
  rintro e w1 ⟨rfl, hb1⟩
  have HB1 := Lib.hid (HB.out.trans (hb1.mono HB.out.size))
  clear hb1 H1 HB
  go_wp2_with fail
  refine bodyPost_ret (v := .tuple #[.slice none 0 0, .int .i64 (k : Int)]) (by simp [results, Tryd.results25, go_sem]) rfl ⟨HB1.out, rfl⟩
set_option maxRecDepth 100000 in
set_option maxHeartbeats 1000000 in
theorem print_many (A : Option Addr) (n cap : Nat) (fl : Lb) (w : World) (hn : 400 < n) (hm : n ≤ maxLen) (HC : Hid (CkAll A n cap fl w 0)) :
    Calls Tryd.prog 25 #[.slice A n cap, L.lab fl.1 fl.2] w (PrEnd w (.inr 4)) := by
  have hb := alloc1 w (.cells #[.int .i64 fl.1, .int .u64 (fl.2 : Int)] 40)
  have H1 := Lib.hid (HC.out _ hb)
  have HB := Lib.hid hb
  have hne : 400 < (n : Int) := by omega
  unfold maxLen at hm
  clear hb HC
  go_enter Tryd.func25, Tryd.ntmps25
  go_wp2_with fail
  with_reducible refine (H1.out.call).mono ?_
  rintro e w1 ⟨rfl, hb1⟩
  have HB1 := Lib.hid (HB.out.trans (hb1.mono HB.out.size))
  clear hb1 H1 HB
  go_wp2_with fail
  refine bodyPost_ret (v := .tuple #[.slice none 0 0, .int .i64 4]) (by simp [results, Tryd.results25, go_sem]) rfl ⟨HB1.out, rfl⟩

/-- The writer as Print lays it. -/
theorem wm_new (w : World) (fl : Lb) {w2 w3 w4 : World} {g0 : Nat} (hg0 : g0 = w2.heap.size) (hb : Below w.heap.size w w2) (h3 : w3 = w2.alloc (.cells #[.int .i64 fl.1, .int .u64 (fl.2 : Int)] 40)) (h4 : w4 = w3.alloc (.cells #[.slice (some ⟨g0, 0, none⟩) 1 1, .slice none 0 0] 86)) :
    Wm w4 ⟨w.heap.size, 0, 0⟩ (g0 + 1) [fl] [] g0 1 (.slice none 0 0) ∧ Below w.heap.size w w4 ∧ w4.heap.size = g0 + 2 := by
  subst hg0
  have s3 : w3.heap.size = w2.heap.size + 1 := by rw [h3]; simp
  have s4 : w4.heap.size = w2.heap.size + 2 := by rw [h4]; simp; omega
  have b3 : Below w2.heap.size w2 w3 := by rw [h3]; exact alloc1 _ _
  have b4 : Below w3.heap.size w3 w4 := by rw [h4]; exact alloc1 _ _
  have p3 : w3.heap[w2.heap.size]? = some (.cells #[.int .i64 fl.1, .int .u64 (fl.2 : Int)] 40 (0, 0)) := by rw [h3]; exact heap_alloc_new w2 _
  have p4 : w4.heap[w3.heap.size]? = some (.cells #[.slice (some ⟨w2.heap.size, 0, none⟩) 1 1, .slice none 0 0] 86 (0, 0)) := by rw [h4]; exact heap_alloc_new w3 _
  rw [s3] at p4
  have q3 := (b4.block _ (by omega)).trans p3
  have hz := hb.size
  refine ⟨⟨⟨by simp only; omega, by simp⟩, Nat.zero_le _, p4, ⟨rfl, ?_⟩, ⟨hz, by simp⟩, by omega, (by intro e; cases e), (fun k hk => by cases hk), ⟨by simp [plain, lineCells], .inl ⟨rfl, rfl⟩⟩⟩, (hb.trans (b3.mono hz)).trans (b4.mono (by omega)), s4⟩
  have := row_of_block (size := 2) (n := 1) (base := w.heap.size) q3 hz rfl (by unfold maxLen; omega)
  exact this
theorem outOf_step {op : List Lb} {l : List It} {k : Nat} (hk : k < l.length) : outOf op (l.drop k) = ends op l[k].lb ++ (opens op l[k].lb ++ (putLines l[k] ++ outOf (opened op l[k].lb) (l.drop (k + 1)))) := by
  rw [List.drop_eq_getElem_cons hk, outOf]
theorem popTo_sub (a : Lb) : ∀ op : List Lb, ∀ y ∈ popTo a op, y ∈ op
  | [], y, h => h
  | t :: r, y, h => by
    rw [popTo] at h
    split at h
    · exact h
    · exact List.mem_cons_of_mem _ (popTo_sub a r y h)
theorem opened_ct {op : List Lb} {a : Lb} (h : ∀ y ∈ op, y.2 < 18446744073709551616) (ha : a.2 < 18446744073709551616) : ∀ y ∈ opened op a, y.2 < 18446744073709551616 := fun y hy => by
  unfold opened at hy
  split at hy
  · exact h y (popTo_sub a op y hy)
  · rcases List.mem_cons.1 hy with rfl | hy
    · exact ha
    · exact h y (popTo_sub a op y hy)
theorem len_bulk : ∀ a : List (List UInt8), a.length ≤ P.bulk (plain a) := fun a => by
  have := P.length_bulk (plain a)
  rwa [plain_length] at this

/-- text.Join with a row of its own. -/
def JoinOwn (xs : List (List UInt8 × Bool)) (l : List UInt8) : Prop := ∀ (A : Option Addr) (cap : Nat) (w : World), LinesIn w A xs →
  Calls Tryd.prog 40 #[.slice A xs.length cap] w fun e w' => ∃ A' cap', e = .returned (.slice A' l.length cap') ∧ w'.ownsRow w.heap.size 5 1 (.slice A' l.length cap') l.length (T.byteCells l) ∧ Below w.heap.size w w'
theorem joinOwn (xs : List (List UInt8 × Bool)) (hb : P.bulk xs ≤ 4194304) : JoinOwn xs (P.join xs) := fun A cap w hA => by
  refine (join_any A cap xs w hb hA).mono ?_
  rintro e w' ⟨v, rfl, hown, hbel⟩
  obtain ⟨A', cap', rfl, _⟩ := own_form hown
  exact ⟨A', cap', rfl, hown, hbel⟩

def EnC (z : Zone) (wb : Nat) (op' : List Lb) (out' : List (List UInt8)) (al : Int) (ac : Nat) (w : World) : Prop := Calls Tryd.prog 50 #[.pointer (some ⟨wb, 0, none⟩), .agg #[.int .i64 al, .int .u64 (ac : Int)]] w (WTook w z wb op' out')
theorem EnC.call {z : Zone} {wb : Nat} {op' : List Lb} {out' : List (List UInt8)} {al : Int} {ac : Nat} {w : World} (h : EnC z wb op' out' al ac w) : Calls Tryd.prog 50 #[.pointer (some ⟨wb, 0, none⟩), .agg #[.int .i64 al, .int .u64 (ac : Int)]] w (WTook w z wb op' out') := h
def PtC (z : Zone) (wb : Nat) (op' : List Lb) (out' : List (List UInt8)) (id lw : Int) (ct : Nat) (an : Bool) (x : ByteArray) (ba : Bool) (w : World) : Prop := Calls Tryd.prog 51 #[.pointer (some ⟨wb, 0, none⟩), .agg #[.int .i64 id, .int .i64 lw, .int .u64 (ct : Int), .bool an, .string x, .bool ba]] w (WTook w z wb op' out')
theorem PtC.call {z : Zone} {wb : Nat} {op' : List Lb} {out' : List (List UInt8)} {id lw : Int} {ct : Nat} {an : Bool} {x : ByteArray} {ba : Bool} {w : World} (h : PtC z wb op' out' id lw ct an x ba w) : Calls Tryd.prog 51 #[.pointer (some ⟨wb, 0, none⟩), .agg #[.int .i64 id, .int .i64 lw, .int .u64 (ct : Int), .bool an, .string x, .bool ba]] w (WTook w z wb op' out') := h

set_option maxRecDepth 100000 in
set_option maxHeartbeats 4000000 in
theorem print_good (A : Option Addr) (cap : Nat) (l : List It) (fl : Lb) (hfl : fl.2 < 18446744073709551616) (w : World) (hA : ItemsIn w A l) (hn : l.length ≤ 400) (hz : ∀ x ∈ l, labOk fl x = true ∧ x.tx.length ≤ 200 ∧ formOk x = true ∧ x.ct < 18446744073709551616) (hT : Tab w) (HC : Hid (CkAll A l.length cap fl w 0)) (o : List UInt8 ⊕ Nat) (HO : Hid (o = if 32768 < (printBytes fl l).length then .inr 4 else .inl (printBytes fl l))) :
    Calls Tryd.prog 25 #[.slice A l.length cap, L.lab fl.1 fl.2] w (PrEnd w o) := by
  have hbk := bulk_print fl l hn (fun x hx => (hz x hx).2.1)
  have hb := alloc1 w (.cells #[.int .i64 fl.1, .int .u64 (fl.2 : Int)] 40)
  have H1 := Lib.hid (HC.out _ hb)
  have HX := Lib.hid (show (w.alloc (.cells #[.int .i64 fl.1, .int .u64 (fl.2 : Int)] 40)).heap[w.heap.size]? = some (.cells #[.int .i64 fl.1, .int .u64 (fl.2 : Int)] 40 (0, 0)) from heap_alloc_new w _)
  have HB := Lib.hid hb
  have HA := Lib.hid hA
  have HZ := Lib.hid hz
  have HT := Lib.hid hT
  have hgl := hT.size
  have HNEW := Lib.hid (fun (w2 w3 w4 : World) (g0 : Nat) => wm_new w fl (w2 := w2) (w3 := w3) (w4 := w4) (g0 := g0))
  have hn' : ¬ 400 < (l.length : Int) := by omega
  have HFL := Lib.hid hfl
  have HBK := Lib.hid hbk
  clear hb HC hA hz hT hbk hfl
  go_enter Tryd.func25, Tryd.ntmps25
  go_wp2_with fail
  with_reducible refine (H1.out.call).mono ?_
  rintro e w1 ⟨rfl, hb1⟩
  have HB1 := Lib.hid (HB.out.trans (hb1.mono HB.out.size))
  obtain ⟨x0, x1⟩ := O.lab_cells ((hb1.block _ (L.blk_lt HX.out)).trans HX.out)
  clear hb1 H1 HB HX
  go_wp2_with fail
  obtain ⟨W0, hW0⟩ : ∃ W : World, W = (w1.alloc (.cells #[.int .i64 fl.1, .int .u64 (fl.2 : Int)] 40)).alloc (.cells #[.slice (some ⟨w1.heap.size, 0, none⟩) 1 1, .slice none 0 0] 86) := ⟨_, rfl⟩
  have hN := HNEW.out w1 _ W0 w1.heap.size rfl HB1.out rfl hW0
  rw [← hW0]
  clear hW0 HNEW x0 x1
  obtain ⟨hwm, hb0, -⟩ := hN
  obtain ⟨wb, hwb⟩ : ∃ wb, wb = w1.heap.size + 1 := ⟨_, rfl⟩
  rw [← hwb] at hwm ⊢
  clear hwb
  have HW0 := Lib.hid hwm
  have HB0 := Lib.hid hb0
  clear hwm hb0 HB1
  obtain ⟨lo, hlo⟩ : ∃ lo, lo = w.heap.size := ⟨_, rfl⟩
  rw [← hlo] at HW0 HB0 hgl
  have HLO := Lib.hid hlo
  clear hlo
  go_loopg [25] l.length (fun m i wr => ∃ (k : Nat) (g cap : Nat) (lv : Value) (op : List Lb) (out : List (List UInt8)), k ≤ l.length ∧ i = .int .i64 k ∧ l.length - k ≤ m ∧ Hid (Wm wr ⟨lo, 0, 0⟩ wb op out g cap lv ∧ Below lo w wr ∧ Stk fl op ∧ (∀ y ∈ op, y.2 < 18446744073709551616) ∧ out ++ outOf op (l.drop k) = printLines fl l))
  case atStart => exact ⟨0, _, _, _, [fl], [], Nat.zero_le _, rfl, by omega, Lib.hid ⟨HW0.out, HB0.out, Stk.start fl, fun y hy => by rw [List.mem_singleton.1 hy]; exact HFL.out, rfl⟩⟩
  case round =>
    obtain ⟨k, g, capk, lv, op, out, hk, rfl, hm, HI⟩ := hrel
    obtain ⟨hW, hbr, hS, hC, hR⟩ := HI.out
    have hol : out.length ≤ 2000000 := by
      have h1 := len_bulk (printLines fl l)
      have h2 := HBK.out
      have h3 : out.length ≤ (printLines fl l).length := by rw [← hR, List.length_append]; omega
      omega
    by_cases hlt : k < l.length
    · obtain ⟨bk, off, hAe, hbk, hI⟩ := HA.out (by omega)
      subst hAe
      have hbkl : bk < lo := by rw [HLO.out]; exact hbk
      obtain ⟨c0, c1, c2, c3, c4, c5⟩ := items_cells hI hbr hbkl hlt
      obtain ⟨z1, z2, z3, z4⟩ := HZ.out _ (List.getElem_mem hlt)
      have z1' := z1
      unfold labOk at z1'
      rw [Bool.and_eq_true] at z1'
      have hrt := z1'.1
      unfold L.rightB at hrt
      rw [Bool.and_eq_true, decide_eq_true_iff, decide_eq_true_iff] at hrt
      have hR2 := hR
      rw [outOf_step hlt] at hR2
      have h0k : (0 : Int) ≤ (k : Int) := by omega
      have hki : (k : Int) < (l.length : Int) := by omega
      have hwsz := hW.size
      generalize hy : l[k] = y at *
      obtain ⟨W, hWe⟩ : ∃ W : World, W = wr.alloc (.cells #[.int .i64 y.id, .int .i64 y.lv, .int .u64 (y.ct : Int), .bool y.an, .string ⟨y.tx.toArray⟩, .bool y.ba] 53) := ⟨_, rfl⟩
      have hsz : W.heap.size = wr.heap.size + 1 := by rw [hWe]; simp
      have HXW := Lib.hid (show W.heap[wr.heap.size]? = some (.cells #[.int .i64 y.id, .int .i64 y.lv, .int .u64 (y.ct : Int), .bool y.an, .string ⟨y.tx.toArray⟩, .bool y.ba] 53 (0, 0)) by rw [hWe]; exact heap_alloc_new wr _)
      have hWW : Wm W ⟨lo, wr.heap.size, W.heap.size⟩ wb op out g capk lv := by
        rw [hsz, hWe]
        exact (hW.zone wr.heap.size wr.heap.size (Nat.le_refl _) (fun k _ hk => by omega)).up _
      have hbW : Below lo w W := by rw [hWe]; exact hbr.trans ((alloc1 _ _).mono hwsz)
      have HTW : Tab W := HT.out.below hbW hgl
      have HEN := Lib.hid (show EnC ⟨lo, wr.heap.size, W.heap.size⟩ wb (opened op (y.lv, y.ct)) (out ++ (ends op (y.lv, y.ct) ++ opens op (y.lv, y.ct))) y.lv y.ct W from enter_any hWW (by omega) fl hS y.lv y.ct z1'.2 z4 (by omega) hC (by omega) HTW hgl)
      have HST := Lib.hid (opened_stk (a := (y.lv, y.ct)) z1'.2 hS)
      have HCT := Lib.hid (opened_ct (a := (y.lv, y.ct)) hC z4)
      have HR2 := Lib.hid hR2
      have HBW := Lib.hid hbW
      have hl2 : (out ++ (ends op (y.lv, y.ct) ++ opens op (y.lv, y.ct))).length ≤ 2000000 := by
        have h1 := len_bulk (printLines fl l)
        have h2 := HBK.out
        have h3 : (out ++ (ends op (y.lv, y.ct) ++ opens op (y.lv, y.ct))).length ≤ (printLines fl l).length := by
          rw [← hR2]
          simp only [List.length_append]
          have : y.lb = (y.lv, y.ct) := rfl
          rw [this]; omega
        omega
      clear hW hbr hS hC hR HI hI hWW hbW HTW z1 z1' hR2 z3 hy
      go_wp2_with fail
      rw [← hWe]
      clear hWe c0 c1 c2 c3 c4 c5
      have hzl : wr.heap.size < W.heap.size := by omega
      with_reducible refine (HEN.out.call).mono ?_
      rintro e w5 ⟨rfl, ⟨g5, cap5, lv5, hW5⟩, hk5⟩
      have hx5 := (hk5.2 wr.heap.size (Nat.le_refl _) hzl).trans HXW.out
      have HB5 := Lib.hid (HBW.out.trans hk5.1)
      have hW5' : Wm w5 ⟨lo, w5.heap.size, w5.heap.size⟩ wb _ _ g5 cap5 lv5 := hW5.zone w5.heap.size w5.heap.size (Nat.le_refl _) (fun k _ hk => by omega)
      have HPT := Lib.hid (show PtC ⟨lo, w5.heap.size, w5.heap.size⟩ wb (opened op (y.lv, y.ct)) (out ++ (ends op (y.lv, y.ct) ++ opens op (y.lv, y.ct)) ++ putLines y) y.id y.lv y.ct y.an ⟨y.tx.toArray⟩ y.ba w5 from put_any hW5' (Nat.le_refl _) y (by omega) (by omega))
      have d0 : w5.cell? ⟨wr.heap.size, 0, none⟩ = some (.int .i64 y.id) := L.blk_cell hx5 0
      have d1 : w5.cell? ⟨wr.heap.size, 1, none⟩ = some (.int .i64 y.lv) := L.blk_cell hx5 1
      have d2 : w5.cell? ⟨wr.heap.size, 2, none⟩ = some (.int .u64 (y.ct : Int)) := L.blk_cell hx5 2
      have d3 : w5.cell? ⟨wr.heap.size, 3, none⟩ = some (.bool y.an) := L.blk_cell hx5 3
      have d4 : w5.cell? ⟨wr.heap.size, 4, none⟩ = some (.string ⟨y.tx.toArray⟩) := L.blk_cell hx5 4
      have d5 : w5.cell? ⟨wr.heap.size, 5, none⟩ = some (.bool y.ba) := L.blk_cell hx5 5
      clear hW5 hk5 hx5 hW5' HEN HXW HBW
      go_wp2_with fail
      with_reducible refine (HPT.out.call).mono ?_
      rintro e w6 ⟨rfl, ⟨g6, cap6, lv6, hW6⟩, hk6⟩
      have HI6 := Lib.hid (show Wm w6 ⟨lo, 0, 0⟩ wb (opened op (y.lv, y.ct)) (out ++ (ends op (y.lv, y.ct) ++ opens op (y.lv, y.ct)) ++ putLines y) g6 cap6 lv6 ∧ Below lo w w6 ∧ Stk fl (opened op (y.lv, y.ct)) ∧ (∀ x ∈ opened op (y.lv, y.ct), x.2 < 18446744073709551616) ∧ out ++ (ends op (y.lv, y.ct) ++ opens op (y.lv, y.ct)) ++ putLines y ++ outOf (opened op (y.lv, y.ct)) (l.drop (k + 1)) = printLines fl l from ⟨hW6.zone 0 0 (Nat.zero_le _) (fun k _ _ => by omega), HB5.out.trans hk6.1, HST.out, HCT.out, by rw [← HR2.out]; simp only [List.append_assoc]; rfl⟩)
      clear hW6 hk6 d0 d1 d2 d3 d4 d5 HPT HB5
      go_wp2_with fail
      go_roundg (l.length - (k + 1))
      case rel => exact ⟨k + 1, g6, cap6, lv6, _, _, by omega, by go_num, Nat.le_refl _, HI6⟩
      case measure => omega
    · have HI2 := Lib.hid (show Wm wr ⟨lo, 0, 0⟩ wb op out g capk lv ∧ Below lo w wr ∧ Stk fl op ∧ out ++ List.replicate (op.length - 1) kEnd = printLines fl l from ⟨hW, hbr, hS, by rw [← hR, List.drop_eq_nil_of_le (by omega), outOf]⟩)
      clear hW hbr hS hC hR HI
      go_wp2_with fail
      have HPL := Lib.hid (show (printLines fl l).length ≤ 2000000 by have h1 := len_bulk (printLines fl l); have h2 := HBK.out; omega)
      go_loopg [] op.length (fun m wr => ∃ (g cap : Nat) (lv : Value) (ok : List Lb) (out : List (List UInt8)), ok.length ≤ m ∧ Hid (Wm wr ⟨lo, 0, 0⟩ wb ok out g cap lv ∧ Below lo w wr ∧ Stk fl ok ∧ out ++ List.replicate (ok.length - 1) kEnd = printLines fl l))
      case atStart => exact ⟨g, capk, lv, op, out, Nat.le_refl _, HI2⟩
      case round =>
        obtain ⟨g2, cap2, lv2, ok, out2, hm2, HI3⟩ := hrel
        obtain ⟨hW, hbr, hS, hR⟩ := HI3.out
        have hol2 : out2.length ≤ 2000000 := by
          have h2 := HPL.out
          have h3 : out2.length ≤ (printLines fl l).length := by rw [← hR, List.length_append]; omega
          omega
        obtain ⟨m1, hm1⟩ : ∃ m1, m1 = ok.length := ⟨_, rfl⟩
        obtain ⟨zz, hzz⟩ : ∃ zz : Int, zz = (m1 : Int) - 1 := ⟨_, rfl⟩
        have hfew := hS.few
        have hpos := hS.pos
        have HDP : Hid (DpC g2 m1 cap2 zz) := Lib.hid fun W => by rw [hzz]; exact depth_any _ m1 cap2 W (by omega)
        have c0 : wr.cell? ⟨wb, 0, none⟩ = some (.slice (some ⟨g2, 0, none⟩) m1 cap2) := wm_open_at hm1 hW
        have HW := Lib.hid hW
        have HBR := Lib.hid hbr
        have HS := Lib.hid hS
        by_cases h1 : 2 ≤ m1
        · have hd : decide (0 < zz) = true := decide_eq_true (by omega)
          have HLV := Lib.hid (leave_c hW (by omega) (by omega) (by omega))
          obtain ⟨t, r, hok⟩ := List.exists_cons_of_ne_nil hS.ne
          have hlr : r.length + 1 = ok.length := by rw [hok]; rfl
          have HR3 := Lib.hid (show out2 ++ [kEnd] ++ List.replicate (ok.tail.length - 1) kEnd = printLines fl l by
            rw [← hR, List.append_assoc]
            congr 1
            rw [List.length_tail, show ok.length - 1 = (ok.length - 1 - 1) + 1 by omega, List.replicate_succ]; rfl)
          have HS3 := Lib.hid (show Stk fl ok.tail by rw [hok] at hS ⊢; exact hS.tail (fun e => by rw [e] at hlr; simp at hlr; omega))
          have hlt2 : ok.tail.length + 1 = ok.length := by rw [List.length_tail]; omega
          clear hW hbr hS hR HI3 hzz hok hlr hm1
          go_wp2_with fail
          with_reducible refine (HDP.out.call _).mono ?_
          rintro e w' ⟨rfl, rfl⟩
          go_wp2_with fail
          with_reducible refine (HLV.out.call).mono ?_
          rintro e w6 ⟨rfl, ⟨g6, cap6, lv6, hW6⟩, hk6⟩
          have HI6 := Lib.hid (show Wm w6 ⟨lo, 0, 0⟩ wb ok.tail (out2 ++ [kEnd]) g6 cap6 lv6 ∧ Below lo w w6 ∧ Stk fl ok.tail ∧ out2 ++ [kEnd] ++ List.replicate (ok.tail.length - 1) kEnd = printLines fl l from ⟨hW6, HBR.out.trans hk6.1, HS3.out, HR3.out⟩)
          clear hW6 hk6 c0 hd
          go_wp2_with fail
          go_roundg ok.tail.length
          case rel => exact ⟨g6, cap6, lv6, _, _, Nat.le_refl _, HI6⟩
          case measure => omega
        · have hd : decide (0 < zz) = false := decide_eq_false (by omega)
          have he : out2 = printLines fl l := by
            rw [← hR, show ok.length - 1 = 0 by omega]; simp
          subst he
          have hln := hW.ln
          rw [← plain_length (printLines fl l)] at hln
          obtain ⟨A', cap', hlv, -, hLI⟩ := lines_of_own hln
          subst hlv
          have c1 : wr.cell? ⟨wb, 1, none⟩ = some (.slice A' (plain (printLines fl l)).length cap') := L.blk_cell hW.blk 1
          have HJ := Lib.hid (joinOwn (plain (printLines fl l)) (by have := HBK.out; omega) A' cap' wr hLI)
          have hpb : P.join (plain (printLines fl l)) = printBytes fl l := rfl
          rw [hpb] at HJ
          generalize (plain (printLines fl l)).length = n3 at *
          have hnb : (printBytes fl l).length ≤ 2000000 := by
            have := P.join_length (plain (printLines fl l))
            have h2 := HBK.out
            unfold printBytes; omega
          have hwl : lo ≤ wr.heap.size := hW.size
          generalize printBytes fl l = pb at *
          clear hW hbr hS hR HI3 hzz hln hLI hpb hm1
          go_wp2_with fail
          with_reducible refine (HDP.out.call _).mono ?_
          rintro e w' ⟨rfl, rfl⟩
          go_wp2_with fail
          with_reducible refine (HJ.out).mono ?_
          rintro e w6 ⟨A6, cap6, rfl, hown6, hb6⟩
          have HOW := Lib.hid (own_more hown6 hwl)
          have HB6 := Lib.hid (HBR.out.trans (hb6.mono hwl))
          clear hown6 hb6 HJ HDP c0 c1 hd
          by_cases hbig : 32768 < pb.length
          · have hbi : 32768 < (pb.length : Int) := by omega
            have HO' := Lib.hid (HO.out.trans (if_pos hbig))
            clear HO
            go_wp2_with fail
            rw [HO'.out]
            refine bodyPost_ret (v := .tuple #[.slice none 0 0, .int .i64 4]) (by simp [results, Tryd.results25, go_sem]) rfl ⟨by rw [← HLO.out]; exact HB6.out, rfl⟩
          · have hbi : ¬ 32768 < (pb.length : Int) := by omega
            have HO' := Lib.hid (HO.out.trans (if_neg hbig))
            clear HO
            go_wp2_with fail
            rw [HO'.out]
            refine bodyPost_ret (v := .tuple #[.slice A6 pb.length cap6, .int .i64 0]) (by simp [results, Tryd.results25, go_sem]) rfl ⟨by rw [← HLO.out]; exact HB6.out, A6, cap6, rfl, by rw [← HLO.out]; exact HOW.out⟩

theorem print_any (A : Option Addr) (cap : Nat) (l : List It) (fl : Lb) (hfl : fl.2 < 18446744073709551616) (w : World) (hA : ItemsIn w A l) (hok : ItemsOk l) (hT : Tab w) :
    Calls Tryd.prog 25 #[.slice A l.length cap, L.lab fl.1 fl.2] w (PrEnd w (print fl l)) := by
  have HC : Hid (CkAll A l.length cap fl w (check fl l)) := Lib.hid fun W hb => check_any A cap l fl W hfl (hA.below hb) hok
  unfold print
  by_cases hc : check fl l = 0
  · rw [if_neg (by simpa using hc)]
    rw [hc] at HC
    by_cases hn : 400 < l.length
    · rw [if_pos hn]
      exact print_many A l.length cap fl w hn hok.len HC
    · rw [if_neg hn]
      exact print_good A cap l fl hfl w hA (by omega) (fun x hx => ⟨(check_zero hc x hx).1, (check_zero hc x hx).2.1, (check_zero hc x hx).2.2, hok.ct x hx⟩) hT HC _ (Lib.hid rfl)
  · rw [if_pos hc]
    exact print_check A l.length cap fl w _ hc HC
end Go.Proofs.YtadhhamfikpimaaDoor.I

namespace Go.Proofs.YtadhhamfikpimaaDoor.I
set_option linter.unusedVariables false
set_option linter.unusedSimpArgs false
open Go.RowKit
open T

set_option maxHeartbeats 1000000 in
set_option maxRecDepth 100000 in
theorem same_any (A A' : Option Addr) (cap cap' : Nat) (xs : List It) (w : World) (hb : xs.length ≤ 4194305) (hA : ItemsIn w A xs) (hA' : ItemsIn w A' xs) :
    Calls Tryd.prog 32 #[.slice A xs.length cap, .slice A' xs.length cap'] w fun e w' => e = .returned (.bool true) ∧ Below w.heap.size w w' := by
  have HA := Lib.hid hA
  have HB := Lib.hid hA'
  clear hA hA'
  have hne : ((xs.length : Int) != (xs.length : Int)) = false := by simp
  go_enter Tryd.func32, Tryd.ntmps32
  go_wp2_with fail
  go_loopg [5] xs.length (fun n i wr => ∃ k : Nat, k ≤ xs.length ∧ i = .int .i64 k ∧ xs.length - k ≤ n ∧ ∃ q, wr = w.drewN q)
  case atStart => exact ⟨0, Nat.zero_le _, rfl, by omega, 0, rfl⟩
  case round =>
    obtain ⟨k, hk, rfl, hn, q, rfl⟩ := hrel
    by_cases hlt : k < xs.length
    · obtain ⟨bk, off, hAe, hbk, hL⟩ := HA.out (by omega)
      obtain ⟨bk', off', hAe', hbk', hL'⟩ := HB.out (by omega)
      subst hAe hAe'
      obtain ⟨c0, c1, c2, c3, c4, c5⟩ := hL k hlt
      obtain ⟨d0, d1, d2, d3, d4, d5⟩ := hL' k hlt
      have h0k : (0 : Int) ≤ (k : Int) := Int.natCast_nonneg _
      have h1k : (k : Int) < (xs.length : Int) := by omega
      clear hL hL'
      generalize xs[k].id = x0 at *
      generalize xs[k].lv = x1 at *
      generalize xs[k].ct = x2 at *
      generalize xs[k].an = x3 at *
      generalize xs[k].tx = x4 at *
      generalize xs[k].ba = x5 at *
      go_wp2_with fail
      go_quiet (fail)
      go_wp2_with fail
      go_roundg (xs.length - (k + 1))
      case measure => omega
      case rel => exact ⟨k + 1, by omega, by go_num, Nat.le_refl _, _, rfl⟩
    · obtain rfl : k = xs.length := by omega
      go_wp2_with fail
      go_ret
      exact ⟨rfl, O.below_drewN (Below.refl _ _) q⟩

theorem numbered_drop {l : List It} {k j : Nat} (hk : k < l.length) : numbered j (l.drop k) = ⟨(j : Int) + 1, l[k].lv, l[k].ct, l[k].an, l[k].tx, l[k].ba⟩ :: numbered (j + 1) (l.drop (k + 1)) := by
  rw [List.drop_eq_getElem_cons hk, numbered]
set_option maxRecDepth 100000 in
set_option maxHeartbeats 2000000 in
theorem numbered_any (A : Option Addr) (cap : Nat) (l : List It) (w : World) (hA : ItemsIn w A l) (hn : l.length ≤ 4194304) :
    Calls Tryd.prog 33 #[.slice A l.length cap] w fun e w' => (∃ v, e = .returned v ∧ w'.ownsRow w.heap.size 53 6 v (numbered 0 l).length (itCells (numbered 0 l))) ∧ Below w.heap.size w w' := by
  obtain ⟨i0, hi0, hz0, hz1, hz2⟩ := info_parts infoItem
  have HA := Lib.hid hA
  have hown0 : (w.alloc (.cells #[] 53)).ownsRow w.heap.size 53 6 (.slice (some ⟨w.heap.size, 0, none⟩) 0 0) 0 [] := World.ownsRow_made w #[] 0 (Nat.le_refl _) (Nat.zero_le _) rfl
  have HO0 := Lib.hid hown0
  have HB0 := Lib.hid (alloc1 w (.cells #[] 53))
  clear hA hown0
  go_enter Tryd.func33, Tryd.ntmps33
  go_wp2_with fail
  go_loopg [3, 4] l.length (fun m v i wr => ∃ (k : Nat) (ys : List It), k ≤ l.length ∧ i = .int .i64 k ∧ l.length - k ≤ m ∧ ys.length = k ∧ wr.ownsRow w.heap.size 53 6 v ys.length (itCells ys) ∧ Below w.heap.size w wr ∧ Hid (ys ++ numbered k (l.drop k) = numbered 0 l))
  case atStart => exact ⟨0, [], Nat.zero_le _, rfl, by omega, rfl, HO0.out, HB0.out, Lib.hid rfl⟩
  case round =>
    obtain ⟨k, ys, hk, rfl, hm, hyl, hown, hbr, HR⟩ := hrel
    by_cases hlt : k < l.length
    · obtain ⟨bk, off, hAe, hbk, hI⟩ := HA.out (by omega)
      subst hAe
      obtain ⟨c0, c1, c2, c3, c4, c5⟩ := items_cells hI hbr hbk hlt
      have h0k : (0 : Int) ≤ (k : Int) := by omega
      have hki : (k : Int) < (l.length : Int) := by omega
      have HR2 := Lib.hid (HR.out)
      rw [numbered_drop hlt] at HR2
      generalize l[k] = y at *
      have hbs := hbr.size
      have HOW := Lib.hid hown
      have HBR := Lib.hid hbr
      obtain ⟨x, hx⟩ : ∃ x : ByteArray, x = ⟨y.tx.toArray⟩ := ⟨_, rfl⟩
      rw [← hx] at c4
      have HX := Lib.hid hx
      have HOA := Lib.hid (World.ownsRow.alloc (World.ownsRow.alloc hown (.cells #[.int .i64 ((k : Int) + 1), .int .i64 y.lv, .int .u64 (y.ct : Int), .bool y.an, .string x, .bool y.ba] 53)) (.cells #[.int .i64 ((k : Int) + 1), .int .i64 y.lv, .int .u64 (y.ct : Int), .bool y.an, .string x, .bool y.ba] 53))
      have HNW := Lib.hid (World.news_of_block (w := (wr.alloc (.cells #[.int .i64 ((k : Int) + 1), .int .i64 y.lv, .int .u64 (y.ct : Int), .bool y.an, .string x, .bool y.ba] 53)).alloc (.cells #[.int .i64 ((k : Int) + 1), .int .i64 y.lv, .int .u64 (y.ct : Int), .bool y.an, .string x, .bool y.ba] 53)) (B := wr.heap.size + 1) (by have := heap_alloc_new (wr.alloc (.cells #[.int .i64 ((k : Int) + 1), .int .i64 y.lv, .int .u64 (y.ct : Int), .bool y.an, .string x, .bool y.ba] 53)) (.cells #[.int .i64 ((k : Int) + 1), .int .i64 y.lv, .int .u64 (y.ct : Int), .bool y.an, .string x, .bool y.ba] 53); rw [World.size_alloc] at this; exact this))
      have HB2 := Lib.hid ((hbr.trans ((alloc1 wr (.cells #[.int .i64 ((k : Int) + 1), .int .i64 y.lv, .int .u64 (y.ct : Int), .bool y.an, .string x, .bool y.ba] 53)).mono hbs)).trans ((alloc1 _ (.cells #[.int .i64 ((k : Int) + 1), .int .i64 y.lv, .int .u64 (y.ct : Int), .bool y.an, .string x, .bool y.ba] 53)).mono (by simp; omega)))
      clear hI hown hx hbr
      go_wp2_with (at_builtin; refine wpList_append_own _ rfl (.tmp 20) (.tmp 22) 46 rfl w.heap.size 53 i0 _ 6 56 Tryd.underlying46 hi0 hz0 hz1 hz2 rfl (by decide) _ ys.length (itCells ys) rfl HOA.out ⟨wr.heap.size + 1, 0, none⟩ 1 1 [.int .i64 ((k : Int) + 1), .int .i64 y.lv, .int .u64 (y.ct : Int), .bool y.an, .string x, .bool y.ba] rfl rfl HNW.out ?c2 ?c3 ?c4 ?c5 ?_)
      case c2 => exact ⟨rfl, rfl, rfl, rfl, rfl, rfl⟩
      case c3 => simp only [maxLen]; omega
      case c4 => omega
      case c5 => first | omega | (simp; omega)
      intro v' w1 hown1 hg1 _
      have hbel1 : Below w.heap.size w w1 := HB2.out.grown hg1 (by simp; omega) (own_base HOW.out)
      have e1 : itCells ys ++ [.int .i64 ((k : Int) + 1), .int .i64 y.lv, .int .u64 (y.ct : Int), .bool y.an, .string x, .bool y.ba] = itCells (ys ++ [(⟨(k : Int) + 1, y.lv, y.ct, y.an, y.tx, y.ba⟩ : It)]) := by rw [itCells_snoc, HX.out]
      rw [e1] at hown1
      have hl1 : (ys ++ [(⟨(k : Int) + 1, y.lv, y.ct, y.an, y.tx, y.ba⟩ : It)]).length = k + 1 := by simp [hyl]
      rw [← hl1] at hown1
      clear e1 c0 c1 c2 c3 c4 c5 hg1
      go_wp2_with fail
      go_roundg (l.length - (k + 1))
      case rel => exact ⟨k + 1, _, by omega, by go_num, Nat.le_refl _, hl1, hown1, hbel1, Lib.hid (by rw [← HR2.out]; simp)⟩
      case measure => omega
    · obtain rfl : k = l.length := by omega
      have he : ys = numbered 0 l := by
        have := HR.out
        rwa [List.drop_eq_nil_of_le (Nat.le_refl _), numbered, List.append_nil] at this
      subst he
      go_wp2_with fail
      go_ret
      exact ⟨⟨_, rfl, hown⟩, hbr⟩
end Go.Proofs.YtadhhamfikpimaaDoor.I
