/-
  The contract of the reader's takeMark.
  The contract of the reader's takeMark, in one, and of take.
  The contracts of what item's read defers; lines that lie behind a block.
-/
import Derived.Test.YtadhhamfikpimaaDoorGic
import Derived.Test.YtadhhamfikpimaaDoorGg
import Derived.Recover
namespace Go.Proofs.YtadhhamfikpimaaDoor.I
set_option linter.unusedVariables false
set_option linter.unusedSimpArgs false
open Go.RowKit
open T
open O (own_ne grown_of grown_set ne_type)
variable {w w' : World} {base : Zone} {rb : Nat} {q : PV} {s : Ps} {line g cap : Nat} {iv : Value}

theorem str_is (a b : List UInt8) : ((⟨a.toArray⟩ : ByteArray).toList == b) = decide (a = b) := by
  rw [Lib.toList_data, list_data]
  by_cases h : a = b
  · rw [decide_eq_true h, beq_iff_eq]; exact h
  · rw [decide_eq_false h]; exact beq_eq_false_iff_ne.2 h
theorem begin_any (h : Rd w base rb q s line g cap iv) (hop : s.op ≠ []) (t : List UInt8) (hx : t.length ≤ 4194304) (ht : Tab w) (hk2 : s.top.2 < 18446744073709551616) (hn : s.op.length ≤ 4194304) :
    Calls Tryd.prog 120 #[.pointer (some ⟨rb, 0, none⟩), .string ⟨t.toArray⟩] w (TakeEnd w base rb q line (begins q.n0 q.n1 s t)) := by
  unfold begins
  cases hp : L.parse t with
  | none => exact begin_bad h ⟨t.toArray⟩ ht (Lib.hid (O.parsed_none (by rw [list_size]; exact hx) (by rw [list_data]; exact hp)))
  | some a =>
    have hk : a.2 < 18446744073709551616 := (L.print_parse (n := a.1) (c := a.2) hp).2.1
    have HP := Lib.hid (O.parsed_some (s := ⟨t.toArray⟩) (a := a) (by rw [list_size]; exact hx) (by rw [list_data]; exact hp))
    simp only
    cases hf : O.fitsB q.n0 q.n1 a.1 a.2 with
    | false =>
      rw [Bool.false_and, if_neg (by decide)]
      exact begin_unfit h hop ⟨t.toArray⟩ ht a.1 a.2 hk HP (Lib.hid hf)
    | true =>
      rw [Bool.true_and]
      cases hb : L.belowB s.top.1 s.top.2 a.1 a.2 with
      | false =>
        rw [if_neg (by decide)]
        exact begin_above h hop ⟨t.toArray⟩ ht a.1 a.2 hk HP (Lib.hid hf) (Lib.hid hb) (Lib.hid hk2)
      | true =>
        rw [if_pos rfl]
        exact begin_in h hop ⟨t.toArray⟩ ht a.1 a.2 hk HP (Lib.hid hf) (Lib.hid hb) (Lib.hid hk2) hn _ (Lib.hid rfl)
theorem popLab {n : Nat} (h : Rd w base rb q s line g cap iv) (hn : s.op.length = n + 1) : Took w base rb q ⟨s.op.tail, s.its, s.con⟩ line (.returned (.tuple #[])) (w.setCell ⟨rb, 9, none⟩ (.slice (some ⟨g, 0, none⟩) n n)) := by
  have hset := grown_set w ⟨rb, 9, none⟩ (.slice (some ⟨g, 0, none⟩) n n)
  have htl : s.op.tail.length = n := by rw [List.length_tail, hn]; omega
  have hst := h.stk.pop
  rw [hn, Nat.add_sub_cancel] at hst
  refine ⟨rfl, ⟨g, n, iv, h.hb, by simpa using h.hz, ?_, ?_, h.gz, h.gne, h.gni, h.iz, h.its.kept hset h.irb⟩, (Kp.refl base w).setCell (p := ⟨rb, 9, none⟩) h.hb _⟩
  · have := L.blk_set h.blk 9 (.slice (some ⟨g, 0, none⟩) n n)
    simp only [htl]
    exact this
  · simp only [htl]
    exact ⟨hst.1, hst.2.grown hset (by simpa using h.gne)⟩

set_option maxRecDepth 100000 in
set_option maxHeartbeats 1000000 in
theorem mark_end (h : Rd w base rb q s line g cap iv) (x : ByteArray) (hx : (x.toList == [64, 64, 32, 101, 110, 100]) = true) (hn : s.op.length ≤ 4194304) (o : Ps ⊕ Nat) (HO : Hid (o = if 1 < s.op.length then .inl ⟨s.op.tail, s.its, s.con⟩ else .inr 3)) :
    Calls Tryd.prog 104 #[.pointer (some ⟨rb, 0, none⟩), .string x] w (TakeEnd w base rb q line o) := by
  have H := Lib.hid h
  obtain ⟨m, hmm⟩ : ∃ m, m = s.op.length := ⟨_, rfl⟩
  rw [← hmm] at HO
  obtain ⟨z, hz⟩ : ∃ z : Int, z = (m : Int) - 1 := ⟨_, rfl⟩
  have HDP : Hid (DpC g m cap z) := Lib.hid fun W => by rw [hz]; exact depth_any _ m cap W (by omega)
  have c9 : w.cell? ⟨rb, 9, none⟩ = some (.slice (some ⟨g, 0, none⟩) m cap) := by rw [hmm]; exact h.cells.1
  have z9 := L.blk_free h.blk 9
  have hle := h.stk.row.le
  rw [← hmm] at hle
  have HMM := Lib.hid hmm
  by_cases h1 : 1 < m
  · have HO' := Lib.hid (HO.out.trans (if_pos h1))
    have hd : decide (0 < z) = true := decide_eq_true (by omega)
    obtain ⟨n, rfl⟩ : ∃ n, m = n + 1 := ⟨m - 1, by omega⟩
    have HCL := Lib.hid (fun W : World => closed_any g n cap W (by omega) hle)
    clear hz h hmm HO
    go_enter Tryd.func104, Tryd.ntmps104
    go_wp2_with fail
    with_reducible refine (HDP.out.call _).mono ?_
    rintro e w' ⟨rfl, rfl⟩
    go_wp2_with fail
    with_reducible refine (need_yes 3 _).mono ?_
    rintro e w' ⟨rfl, rfl⟩
    go_wp2_with fail
    with_reducible refine (HCL.out _).mono ?_
    rintro e w' ⟨rfl, rfl⟩
    go_wp2_with fail
    first | go_end0 | refine bodyPost_ret (results_none rfl _ _ _) rfl ?_
    rw [HO'.out]
    exact popLab H.out HMM.out.symm
  · have HO' := Lib.hid (HO.out.trans (if_neg h1))
    have hd : decide (0 < z) = false := decide_eq_false (by omega)
    clear hz h hmm HO
    go_enter Tryd.func104, Tryd.ntmps104
    go_wp2_with fail
    with_reducible refine (HDP.out.call _).mono ?_
    rintro e w' ⟨rfl, rfl⟩
    go_wp2_with fail
    with_reducible refine (need_no3 _).mono ?_
    rintro e w' ⟨rfl, rfl⟩
    go_wp2_with fail
    rw [HO'.out]
    exact ⟨rfl, H.out.fell (Kp.refl base w) 3⟩

/-- A call whose end is the function's own. -/
def BrC (base : Zone) (rb : Nat) (q : PV) (line : Nat) (w : World) (o : Ps ⊕ Nat) : Prop := Calls Tryd.prog 119 #[.pointer (some ⟨rb, 0, none⟩)] w (TakeEnd w base rb q line o)
theorem BrC.call {o : Ps ⊕ Nat} (h : BrC base rb q line w o) : Calls Tryd.prog 119 #[.pointer (some ⟨rb, 0, none⟩)] w (TakeEnd w base rb q line o) := h
def BgC (base : Zone) (rb : Nat) (q : PV) (line : Nat) (w : World) (x : ByteArray) (o : Ps ⊕ Nat) : Prop := Calls Tryd.prog 120 #[.pointer (some ⟨rb, 0, none⟩), .string x] w (TakeEnd w base rb q line o)
theorem BgC.call {x : ByteArray} {o : Ps ⊕ Nat} (h : BgC base rb q line w x o) : Calls Tryd.prog 120 #[.pointer (some ⟨rb, 0, none⟩), .string x] w (TakeEnd w base rb q line o) := h
def CtC (x r : ByteArray) (b : Bool) : Prop := ∀ w : World, Calls Tryd.prog 105 #[.string x, .string ⟨#[64, 64, 32, 98, 101, 103, 105, 110, 32]⟩] w fun e w' => e = .returned (.tuple #[.string r, .bool b]) ∧ w = w'
theorem CtC.call {x r : ByteArray} {b : Bool} (h : CtC x r b) (w : World) : Calls Tryd.prog 105 #[.string x, .string ⟨#[64, 64, 32, 98, 101, 103, 105, 110, 32]⟩] w fun e w' => e = .returned (.tuple #[.string r, .bool b]) ∧ w = w' := h w

set_option maxRecDepth 100000 in
set_option maxHeartbeats 1000000 in
theorem mark_anchor (x : ByteArray) (h1 : (x.toList == [64, 64, 32, 101, 110, 100]) = false) (h2 : (x.toList == [64, 64, 32, 97, 110, 99, 104, 111, 114]) = true) (o : Ps ⊕ Nat) (HA : Hid (AddC base rb q line w true ⟨#[]⟩ false o)) :
    Calls Tryd.prog 104 #[.pointer (some ⟨rb, 0, none⟩), .string x] w (TakeEnd w base rb q line o) := by
  go_enter Tryd.func104, Tryd.ntmps104
  go_wp2_with fail
  with_reducible refine (HA.out.call).mono ?_
  rintro e w2 he
  clear HA h1 h2
  rcases o with t | k
  · obtain ⟨rfl, h1⟩ := he
    have HE := Lib.hid h1
    clear h1
    go_wp2_with fail
    first | go_end0 | refine bodyPost_ret (results_none rfl _ _ _) rfl ?_
    exact ⟨rfl, HE.out⟩
  · obtain ⟨rfl, h1, h2⟩ := he
    go_wp2_with fail
    exact ⟨rfl, rfl, h1, h2⟩
set_option maxRecDepth 100000 in
set_option maxHeartbeats 1000000 in
theorem mark_bare (x : ByteArray) (h1 : (x.toList == [64, 64, 32, 101, 110, 100]) = false) (h2 : (x.toList == [64, 64, 32, 97, 110, 99, 104, 111, 114]) = false) (h3 : (x.toList == [64, 64, 32, 98, 97, 114, 101]) = true) (o : Ps ⊕ Nat) (HA : Hid (BrC base rb q line w o)) :
    Calls Tryd.prog 104 #[.pointer (some ⟨rb, 0, none⟩), .string x] w (TakeEnd w base rb q line o) := by
  go_enter Tryd.func104, Tryd.ntmps104
  go_wp2_with fail
  with_reducible refine (HA.out.call).mono ?_
  rintro e w2 he
  clear HA h1 h2 h3
  rcases o with t | k
  · obtain ⟨rfl, h1⟩ := he
    have HE := Lib.hid h1
    clear h1
    go_wp2_with fail
    first | go_end0 | refine bodyPost_ret (results_none rfl _ _ _) rfl ?_
    exact ⟨rfl, HE.out⟩
  · obtain ⟨rfl, h1, h2⟩ := he
    go_wp2_with fail
    exact ⟨rfl, rfl, h1, h2⟩
set_option maxRecDepth 100000 in
set_option maxHeartbeats 1000000 in
theorem mark_none (h : Rd w base rb q s line g cap iv) (x r : ByteArray) (h1 : (x.toList == [64, 64, 32, 101, 110, 100]) = false) (h2 : (x.toList == [64, 64, 32, 97, 110, 99, 104, 111, 114]) = false) (h3 : (x.toList == [64, 64, 32, 98, 97, 114, 101]) = false) (HC : Hid (CtC x r false)) :
    Calls Tryd.prog 104 #[.pointer (some ⟨rb, 0, none⟩), .string x] w (Fell w base rb line 3) := by
  have HF := Lib.hid (h.fell (Kp.refl base w) 3)
  clear h
  go_enter Tryd.func104, Tryd.ntmps104
  go_wp2_with fail
  with_reducible refine (HC.out.call _).mono ?_
  rintro e w' ⟨rfl, rfl⟩
  go_wp2_with fail
  with_reducible refine (need_no3 _).mono ?_
  rintro e w' ⟨rfl, rfl⟩
  go_wp2_with fail
  exact ⟨rfl, HF.out⟩
set_option maxRecDepth 100000 in
set_option maxHeartbeats 1000000 in
theorem mark_begin (x r : ByteArray) (h1 : (x.toList == [64, 64, 32, 101, 110, 100]) = false) (h2 : (x.toList == [64, 64, 32, 97, 110, 99, 104, 111, 114]) = false) (h3 : (x.toList == [64, 64, 32, 98, 97, 114, 101]) = false) (HC : Hid (CtC x r true)) (o : Ps ⊕ Nat) (HA : Hid (BgC base rb q line w r o)) :
    Calls Tryd.prog 104 #[.pointer (some ⟨rb, 0, none⟩), .string x] w (TakeEnd w base rb q line o) := by
  go_enter Tryd.func104, Tryd.ntmps104
  go_wp2_with fail
  with_reducible refine (HC.out.call _).mono ?_
  rintro e w' ⟨rfl, rfl⟩
  go_wp2_with fail
  with_reducible refine (need_yes 3 _).mono ?_
  rintro e w' ⟨rfl, rfl⟩
  go_wp2_with fail
  with_reducible refine (HA.out.call).mono ?_
  rintro e w2 he
  clear HA HC h1 h2 h3
  rcases o with t | k
  · obtain ⟨rfl, h1⟩ := he
    have HE := Lib.hid h1
    clear h1
    go_wp2_with fail
    first | go_end0 | refine bodyPost_ret (results_none rfl _ _ _) rfl ?_
    exact ⟨rfl, HE.out⟩
  · obtain ⟨rfl, h1, h2⟩ := he
    go_wp2_with fail
    exact ⟨rfl, rfl, h1, h2⟩
end Go.Proofs.YtadhhamfikpimaaDoor.I

namespace Go.Proofs.YtadhhamfikpimaaDoor.I
set_option linter.unusedVariables false
set_option linter.unusedSimpArgs false
open Go.RowKit
open T
open O (own_ne grown_of grown_set ne_type)
variable {w w' : World} {base : Zone} {rb : Nat} {q : PV} {s : Ps} {line g cap : Nat} {iv : Value}

/-- What the reader's walk asks of a state. -/
structure Fine (s : Ps) (line : Nat) : Prop where
  op : s.op ≠ []
  few : s.op.length ≤ 17
  ct : s.top.2 < 18446744073709551616
  len : s.its.length ≤ 400
  con : s.con ≤ 4194304
  li : line ≤ 4194304
  last : 0 < s.con → s.con + 1 = line → s.its ≠ []
theorem mark_any (h : Rd w base rb q s line g cap iv) (hf : Fine s line) (t : List UInt8) (hx : t.length ≤ 4194304) (ht : Tab w) :
    Calls Tryd.prog 104 #[.pointer (some ⟨rb, 0, none⟩), .string ⟨t.toArray⟩] w (TakeEnd w base rb q line (mark q.n0 q.n1 line s t)) := by
  have q1 : ((⟨t.toArray⟩ : ByteArray).toList == [64, 64, 32, 101, 110, 100]) = decide (t = kEnd) := str_is t kEnd
  have q2 : ((⟨t.toArray⟩ : ByteArray).toList == [64, 64, 32, 97, 110, 99, 104, 111, 114]) = decide (t = kAnchor) := str_is t kAnchor
  have q3 : ((⟨t.toArray⟩ : ByteArray).toList == [64, 64, 32, 98, 97, 114, 101]) = decide (t = kBare) := str_is t kBare
  have hfew := hf.few
  unfold mark
  by_cases k1 : t = kEnd
  · rw [if_pos k1]
    rw [decide_eq_true k1] at q1
    exact mark_end h _ q1 (by omega) _ (Lib.hid rfl)
  rw [if_neg k1]
  rw [decide_eq_false k1] at q1
  by_cases k2 : t = kAnchor
  · rw [if_pos k2]
    rw [decide_eq_true k2] at q2
    exact mark_anchor _ q1 q2 _ (Lib.hid (add_any h hf.op 0 0 0 true [] false))
  rw [if_neg k2]
  rw [decide_eq_false k2] at q2
  by_cases k3 : t = kBare
  · rw [if_pos k3]
    rw [decide_eq_true k3] at q3
    exact mark_bare _ q1 q2 q3 _ (Lib.hid (bare_any h hf.last hf.len hf.con hf.li))
  rw [if_neg k3]
  rw [decide_eq_false k3] at q3
  have hcut : CtC ⟨t.toArray⟩ ⟨(Lib.trimPrefix t kBegin).toArray⟩ (Lib.hasPrefix t kBegin) := fun w => (Tryd.strings_CutPrefix ⟨t.toArray⟩ ⟨kBegin.toArray⟩ w).mono fun e w' he => ⟨by rw [he.1, list_data, list_data], he.2.symm⟩
  by_cases k4 : kBegin <+: t
  · rw [if_pos k4]
    have hp : Lib.hasPrefix t kBegin = true := by unfold Lib.hasPrefix; rw [List.isPrefixOf_iff_prefix]; exact k4
    have htr : Lib.trimPrefix t kBegin = t.drop 9 := by rw [Lib.trimPrefix, if_pos hp]; rfl
    rw [hp, htr] at hcut
    exact mark_begin _ _ q1 q2 q3 (Lib.hid hcut) _ (Lib.hid (begin_any h hf.op (t.drop 9) (by rw [List.length_drop]; omega) ht hf.ct (by omega)))
  · rw [if_neg k4]
    have hp : Lib.hasPrefix t kBegin = false := by
      cases hh : Lib.hasPrefix t kBegin with
      | false => rfl
      | true => unfold Lib.hasPrefix at hh; rw [List.isPrefixOf_iff_prefix] at hh; exact absurd hh k4
    rw [hp] at hcut
    exact mark_none h _ _ q1 q2 q3 (Lib.hid hcut)

def HpC (x p : ByteArray) (b : Bool) : Prop := ∀ w : World, Calls Tryd.prog 48 #[.string x, .string p] w fun e w' => e = .returned (.bool b) ∧ w = w'
theorem HpC.call {x p : ByteArray} {b : Bool} (h : HpC x p b) (w : World) : Calls Tryd.prog 48 #[.string x, .string p] w fun e w' => e = .returned (.bool b) ∧ w = w' := h w
theorem hp_is (t p : List UInt8) : HpC ⟨t.toArray⟩ ⟨p.toArray⟩ (decide (p <+: t)) := fun w => (Tryd.strings_HasPrefix ⟨t.toArray⟩ ⟨p.toArray⟩ w).mono fun e w' he => ⟨by
  rw [he.1, list_data, list_data]
  congr 2
  unfold Lib.hasPrefix
  rw [Bool.eq_iff_iff, List.isPrefixOf_iff_prefix, decide_eq_true_iff], he.2.symm⟩
def CnC (base : Zone) (rb : Nat) (q : PV) (line : Nat) (w : World) (x : ByteArray) (b : Bool) (o : Ps ⊕ Nat) : Prop := Calls Tryd.prog 103 #[.pointer (some ⟨rb, 0, none⟩), .agg #[.string x, .bool b]] w (TakeEnd w base rb q line o)
theorem CnC.call {x : ByteArray} {b : Bool} {o : Ps ⊕ Nat} (h : CnC base rb q line w x b o) : Calls Tryd.prog 103 #[.pointer (some ⟨rb, 0, none⟩), .agg #[.string x, .bool b]] w (TakeEnd w base rb q line o) := h
def MkC (base : Zone) (rb : Nat) (q : PV) (line : Nat) (w : World) (x : ByteArray) (o : Ps ⊕ Nat) : Prop := Calls Tryd.prog 104 #[.pointer (some ⟨rb, 0, none⟩), .string x] w (TakeEnd w base rb q line o)
theorem MkC.call {x : ByteArray} {o : Ps ⊕ Nat} (h : MkC base rb q line w x o) : Calls Tryd.prog 104 #[.pointer (some ⟨rb, 0, none⟩), .string x] w (TakeEnd w base rb q line o) := h

set_option maxRecDepth 100000 in
set_option maxHeartbeats 1000000 in
theorem take_esc (x y : ByteArray) (b : Bool) (H1 : Hid (HpC x ⟨#[64, 64, 64]⟩ true)) (hx : 1 ≤ x.size) (hm : x.size ≤ 4194304) (HY : Hid (x.extract 1 x.size = y)) (o : Ps ⊕ Nat) (HA : Hid (∀ W : World, Below w.heap.size w W → CnC base rb q line W y b o)) (HB : Hid (∀ W : World, Below w.heap.size w W → Kp base w W)) :
    Calls Tryd.prog 88 #[.pointer (some ⟨rb, 0, none⟩), .agg #[.string x, .bool b]] w (TakeEnd w base rb q line o) := by
  go_enter Tryd.func88, Tryd.ntmps88
  go_wp2_with fail
  with_reducible refine (H1.out.call _).mono ?_
  rintro e w' ⟨rfl, rfl⟩
  obtain ⟨xb, hxb⟩ : ∃ xb, xb = w.heap.size := ⟨_, rfl⟩
  obtain ⟨w2, hw2⟩ : ∃ W : World, W = w.alloc (.cells #[.string x, .bool b] 51) := ⟨_, rfl⟩
  have HX := Lib.hid (show w2.heap[xb]? = some (.cells #[.string x, .bool b] 51 (0, 0)) by rw [hw2, hxb]; exact heap_alloc_new w _)
  have HBW := Lib.hid (show Below w.heap.size w w2 by rw [hw2]; exact alloc1 _ _)
  rw [← hw2, ← hxb]
  clear hw2 hxb
  have x0 : w2.cell? ⟨xb, 0, none⟩ = some (.string x) := L.blk_cell HX.out 0
  have x1 : w2.cell? ⟨xb, 1, none⟩ = some (.bool b) := L.blk_cell HX.out 1
  go_wp2_with fail
  have hxi : (1 : Int) ≤ (x.size : Int) := by omega
  go_still_tail 6, (by kernel_rfl)
  change wpList _ _ _ _ _ w2.drew
  rw [HY.out]
  have HA2 := Lib.hid (HA.out _ HBW.out.drew)
  have HB2 := Lib.hid (HB.out _ HBW.out.drew)
  clear x0 x1 hxi HA HB HBW HX HY H1
  go_wp2_with fail
  with_reducible refine (HA2.out.call).mono ?_
  rintro e w9 he
  clear HA2
  rcases o with t | k
  · have HE := Lib.hid (he.from HB2.out)
    obtain ⟨rfl, -⟩ := he
    clear HB2
    go_wp2_with fail
    first | go_end0 | refine bodyPost_ret (results_none rfl _ _ _) rfl ?_
    exact HE.out
  · have HE := Lib.hid (he.from HB2.out)
    obtain ⟨rfl, -⟩ := he
    clear HB2
    go_wp2_with fail
    exact ⟨rfl, HE.out⟩

set_option maxRecDepth 100000 in
set_option maxHeartbeats 1000000 in
theorem take_mark (x : ByteArray) (b : Bool) (H1 : Hid (HpC x ⟨#[64, 64, 64]⟩ false)) (H2 : Hid (HpC x ⟨#[64, 64, 32]⟩ true)) (o : Ps ⊕ Nat) (HA : Hid (∀ W : World, Below w.heap.size w W → MkC base rb q line W x o)) (HB : Hid (∀ W : World, Below w.heap.size w W → Kp base w W)) :
    Calls Tryd.prog 88 #[.pointer (some ⟨rb, 0, none⟩), .agg #[.string x, .bool b]] w (TakeEnd w base rb q line o) := by
  have HBW := Lib.hid (alloc1 w (.cells #[.string x, .bool b] 51))
  have HA2 := Lib.hid (HA.out _ HBW.out)
  have HB2 := Lib.hid (HB.out _ HBW.out)
  clear HA HB HBW
  go_enter Tryd.func88, Tryd.ntmps88
  go_wp2_with fail
  with_reducible refine (H1.out.call _).mono ?_
  rintro e w' ⟨rfl, rfl⟩
  go_wp2_with fail
  with_reducible refine (H2.out.call _).mono ?_
  rintro e w' ⟨rfl, rfl⟩
  go_wp2_with fail
  with_reducible refine (HA2.out.call).mono ?_
  rintro e w9 he
  clear HA2
  rcases o with t | k
  · have HE := Lib.hid (he.from HB2.out)
    obtain ⟨rfl, -⟩ := he
    clear HB2
    go_wp2_with fail
    first | go_end0 | refine bodyPost_ret (results_none rfl _ _ _) rfl ?_
    exact HE.out
  · have HE := Lib.hid (he.from HB2.out)
    obtain ⟨rfl, -⟩ := he
    clear HB2
    go_wp2_with fail
    exact ⟨rfl, HE.out⟩

set_option maxRecDepth 100000 in
set_option maxHeartbeats 1000000 in
theorem take_sign (h : Rd w base rb q s line g cap iv) (x : ByteArray) (b : Bool) (H1 : Hid (HpC x ⟨#[64, 64, 64]⟩ false)) (H2 : Hid (HpC x ⟨#[64, 64, 32]⟩ false)) (H3 : Hid (HpC x ⟨#[64, 64]⟩ true)) :
    Calls Tryd.prog 88 #[.pointer (some ⟨rb, 0, none⟩), .agg #[.string x, .bool b]] w (Fell w base rb line 3) := by
  have hA := alloc1 w (.cells #[.string x, .bool b] 51)
  have HF := Lib.hid ((h.below hA).fell (w := w) (h.kp hA) 3)
  clear h hA
  go_enter Tryd.func88, Tryd.ntmps88
  go_wp2_with fail
  with_reducible refine (H1.out.call _).mono ?_
  rintro e w' ⟨rfl, rfl⟩
  go_wp2_with fail
  with_reducible refine (H2.out.call _).mono ?_
  rintro e w' ⟨rfl, rfl⟩
  go_wp2_with fail
  with_reducible refine (H3.out.call _).mono ?_
  rintro e w' ⟨rfl, rfl⟩
  go_wp2_with fail
  with_reducible refine (need_no3 _).mono ?_
  rintro e w' ⟨rfl, rfl⟩
  go_wp2_with fail
  exact ⟨rfl, HF.out⟩

set_option maxRecDepth 100000 in
set_option maxHeartbeats 1000000 in
theorem take_text (x : ByteArray) (b : Bool) (H1 : Hid (HpC x ⟨#[64, 64, 64]⟩ false)) (H2 : Hid (HpC x ⟨#[64, 64, 32]⟩ false)) (H3 : Hid (HpC x ⟨#[64, 64]⟩ false)) (o : Ps ⊕ Nat) (HA : Hid (∀ W : World, Below w.heap.size w W → CnC base rb q line W x b o)) (HB : Hid (∀ W : World, Below w.heap.size w W → Kp base w W)) :
    Calls Tryd.prog 88 #[.pointer (some ⟨rb, 0, none⟩), .agg #[.string x, .bool b]] w (TakeEnd w base rb q line o) := by
  have HBW := Lib.hid (alloc1 w (.cells #[.string x, .bool b] 51))
  have HA2 := Lib.hid (HA.out _ HBW.out)
  have HB2 := Lib.hid (HB.out _ HBW.out)
  clear HA HB HBW
  go_enter Tryd.func88, Tryd.ntmps88
  go_wp2_with fail
  with_reducible refine (H1.out.call _).mono ?_
  rintro e w' ⟨rfl, rfl⟩
  go_wp2_with fail
  with_reducible refine (H2.out.call _).mono ?_
  rintro e w' ⟨rfl, rfl⟩
  go_wp2_with fail
  with_reducible refine (H3.out.call _).mono ?_
  rintro e w' ⟨rfl, rfl⟩
  go_wp2_with fail
  with_reducible refine (need_yes 3 _).mono ?_
  rintro e w' ⟨rfl, rfl⟩
  go_wp2_with fail
  with_reducible refine (HA2.out.call).mono ?_
  rintro e w9 he
  clear HA2
  rcases o with t | k
  · have HE := Lib.hid (he.from HB2.out)
    obtain ⟨rfl, -⟩ := he
    clear HB2
    go_wp2_with fail
    first | go_end0 | refine bodyPost_ret (results_none rfl _ _ _) rfl ?_
    exact HE.out
  · have HE := Lib.hid (he.from HB2.out)
    obtain ⟨rfl, -⟩ := he
    clear HB2
    go_wp2_with fail
    exact ⟨rfl, HE.out⟩

theorem extract_drop (t : List UInt8) : (⟨t.toArray⟩ : ByteArray).extract 1 (⟨t.toArray⟩ : ByteArray).size = ⟨(t.drop 1).toArray⟩ := by
  apply ByteArray.ext
  simp [ByteArray.size]
  exact List.take_of_length_le (by simp)
theorem take_any (h : Rd w base rb q s line g cap iv) (hf : Fine s line) (x : List UInt8 × Bool) (hx : x.1.length ≤ 4194304) (ht : Tab w) :
    Calls Tryd.prog 88 #[.pointer (some ⟨rb, 0, none⟩), .agg #[.string ⟨x.1.toArray⟩, .bool x.2]] w (TakeEnd w base rb q line (take q.n0 q.n1 line s x)) := by
  obtain ⟨t, b⟩ := x
  simp only at hx ⊢
  have HB : Hid (∀ W : World, Below w.heap.size w W → Kp base w W) := Lib.hid fun W hb => h.kp hb
  have p1 := hp_is t kEsc
  have p2 := hp_is t kMark
  have p3 := hp_is t kSign
  unfold take
  simp only
  by_cases k1 : kEsc <+: t
  · rw [if_pos k1]
    rw [decide_eq_true k1] at p1
    have hl : 1 ≤ t.length := by
      obtain ⟨r, hr⟩ := k1
      rw [← hr]; simp [kEsc]
    exact take_esc _ ⟨(t.drop 1).toArray⟩ b (Lib.hid p1) (by rw [list_size]; exact hl) (by rw [list_size]; exact hx) (Lib.hid (extract_drop t)) _ (Lib.hid fun W hb => content_any (h.below hb) hf.op (t.drop 1) b (by rw [List.length_drop]; unfold maxLen; omega)) HB
  rw [if_neg k1]
  rw [decide_eq_false k1] at p1
  by_cases k2 : kMark <+: t
  · rw [if_pos k2]
    rw [decide_eq_true k2] at p2
    exact take_mark _ b (Lib.hid p1) (Lib.hid p2) _ (Lib.hid fun W hb => mark_any (h.below hb) hf t hx (ht.later hb)) HB
  rw [if_neg k2]
  rw [decide_eq_false k2] at p2
  by_cases k3 : kSign <+: t
  · rw [if_pos k3]
    rw [decide_eq_true k3] at p3
    exact take_sign h _ b (Lib.hid p1) (Lib.hid p2) (Lib.hid p3)
  rw [if_neg k3]
  rw [decide_eq_false k3] at p3
  exact take_text _ b (Lib.hid p1) (Lib.hid p2) (Lib.hid p3) _ (Lib.hid fun W hb => content_any (h.below hb) hf.op t b (by unfold maxLen; omega)) HB
end Go.Proofs.YtadhhamfikpimaaDoor.I

namespace Go.Proofs.YtadhhamfikpimaaDoor.I
set_option linter.unusedVariables false
set_option linter.unusedSimpArgs false
open Go.RowKit
open T

theorem catch_idle (a b c d : Value) (w : World) :
    CallsD Tryd.prog 87 #[a, b, c, d] .returning w fun e u' w' => e = .returned (.tuple #[]) ∧ u' = .returning ∧ w = w' := by
  refine callsD_of_wpS Tryd.func87 rfl fun c₀ cs hu => ?_
  apply wpS_seq
  apply wpS_region
  simp [wpOpsS, go_sem, recoverD, hu, Tryd.ntmps87, Exit.thenS]
  refine wpS_of_wp ?_
  go_wp2_with fail
  cases c₀
  simp_all [bodyPostS, results, Tryd.results87]
/-- Behind a fault that was taken back: the results, and what stays. -/
def Caught (w : World) (ib lb eb line k : Nat) (w' : World) : Prop :=
  w'.heap[ib]? = some (.cells #[.slice none 0 0] 46 (0, 0)) ∧ w'.heap[lb]? = some (.cells #[.int .i64 (line : Int)] 3 (0, 0)) ∧ w'.heap[eb]? = some (.cells #[.int .i64 (k : Int)] 27 (0, 0)) ∧ ∀ B, B ≤ ib → B ≤ lb → B ≤ eb → Below B w w'
theorem caught {w : World} {ib lb eb : Nat} (line k : Nat) (hi : w.heap[ib]? = some (.cells #[.slice none 0 0] 46 (0, 0))) (hl : w.heap[lb]? = some (.cells #[.int .i64 0] 3 (0, 0))) (he : w.heap[eb]? = some (.cells #[.int .i64 0] 27 (0, 0))) (h2 : ib ≠ lb) (h3 : ib ≠ eb) (h4 : lb ≠ eb) :
    Caught w ib lb eb line k (((w.setCell ⟨ib, 0, none⟩ (.slice none 0 0)).setCell ⟨lb, 0, none⟩ (.int .i64 (line : Int))).setCell ⟨eb, 0, none⟩ (.int .i64 (k : Int))).drew := by
  refine ⟨?_, ?_, ?_, fun B b1 b2 b3 => ?_⟩
  · exact (L.blk_far h3 _).trans ((L.blk_far h2 _).trans (L.blk_set hi 0 (.slice none 0 0)))
  · have := L.blk_set ((L.blk_far (i := 0) (fun e => h2 e.symm) (.slice none 0 0)).trans hl) 0 (.int .i64 (line : Int))
    exact (L.blk_far h4 _).trans this
  · have := L.blk_set ((L.blk_far (i := 0) (fun e => h4 e.symm) (.int .i64 (line : Int))).trans ((L.blk_far (i := 0) (fun e => h3 e.symm) (.slice none 0 0)).trans he)) 0 (.int .i64 (k : Int))
    exact this
  · exact ((((Below.refl _ _).setCell (p := ⟨ib, 0, none⟩) b1 _).setCell (p := ⟨lb, 0, none⟩) b2 _).setCell (p := ⟨eb, 0, none⟩) b3 _).drew
set_option maxRecDepth 100000 in
set_option maxHeartbeats 4000000 in
theorem catch_panicking (rb bx ib lb eb line k : Nat) (w : World) (hb : w.cell? ⟨bx, 0, none⟩ = some (.pointer (some ⟨rb, 0, none⟩))) (hc : w.cell? ⟨rb, 11, none⟩ = some (.int .i64 (line : Int))) (hi : w.heap[ib]? = some (.cells #[.slice none 0 0] 46 (0, 0))) (hl : w.heap[lb]? = some (.cells #[.int .i64 0] 3 (0, 0))) (he : w.heap[eb]? = some (.cells #[.int .i64 0] 27 (0, 0)))
    (h0 : ib ≠ bx) (h1 : ib ≠ rb) (h2 : ib ≠ lb) (h3 : ib ≠ eb) (h4 : lb ≠ eb) (h5 : lb ≠ bx) (h6 : lb ≠ rb) (h7 : eb ≠ bx) (h8 : eb ≠ rb) :
    CallsD Tryd.prog 87 #[.pointer (some ⟨bx, 0, none⟩), .pointer (some ⟨ib, 0, none⟩), .pointer (some ⟨lb, 0, none⟩), .pointer (some ⟨eb, 0, none⟩)] (.panicking (fault k)) w fun e u' w' =>
      e = .returned (.tuple #[]) ∧ u' = .panicking [{ v := .iface 27 (.int .i64 (k : Int)), recovered := true }] ∧ Caught w ib lb eb line k w' := by
  have HCW := Lib.hid (caught line k hi hl he h2 h3 h4)
  have p0 : w.cell? ⟨ib, 0, none⟩ = some (.slice none 0 0) := L.blk_cell hi 0
  have z0 := L.blk_free hi 0
  have l0 : w.cell? ⟨lb, 0, none⟩ = some (.int .i64 0) := L.blk_cell hl 0
  have zl := L.blk_free hl 0
  have e0 : w.cell? ⟨eb, 0, none⟩ = some (.int .i64 0) := L.blk_cell he 0
  have ze := L.blk_free he 0
  have d0 : ¬ bx = ib := fun e => h0 e.symm
  have d1 : ¬ rb = ib := fun e => h1 e.symm
  have d2 : ¬ lb = ib := fun e => h2 e.symm
  have d3 : ¬ eb = ib := fun e => h3 e.symm
  have d4 : ¬ eb = lb := fun e => h4 e.symm
  have d5 : ¬ bx = lb := fun e => h5 e.symm
  have d6 : ¬ rb = lb := fun e => h6 e.symm
  have d7 : ¬ bx = eb := fun e => h7 e.symm
  have d8 : ¬ rb = eb := fun e => h8 e.symm
  clear hi hl he
  have hta : ∀ w : World, (Instr.typeAssert (.iface 27 (.int .i64 (k : Int))) 20 27 false).run Tryd.prog w = .ok (.int .i64 (k : Int)) w := fun _ => by kernel_rfl
  refine callsD_of_wpS Tryd.func87 rfl fun c₀ cs hu => ?_
  unfold fault at hu
  rw [show (#[.pointer (some ⟨bx, 0, none⟩), .pointer (some ⟨ib, 0, none⟩), .pointer (some ⟨lb, 0, none⟩), .pointer (some ⟨eb, 0, none⟩)] ++ Array.replicate (Tryd.f87.ntmps - (#[.pointer (some ⟨bx, 0, none⟩), .pointer (some ⟨ib, 0, none⟩), .pointer (some ⟨lb, 0, none⟩), .pointer (some ⟨eb, 0, none⟩)] : Array Value).size) undef : Array Value) = #[.pointer (some ⟨bx, 0, none⟩), .pointer (some ⟨ib, 0, none⟩), .pointer (some ⟨lb, 0, none⟩), .pointer (some ⟨eb, 0, none⟩), undef, undef, undef, undef, undef, undef, undef, undef, undef, undef] by rw [Tryd.ntmps87]; rfl]
  apply wpS_seq
  apply wpS_region
  simp [wpOpsS, go_sem, recoverD, hu, Exit.thenS]
  refine wpS_of_wp ?_
  go_wp2_with fail
  go_region
  clear p0 z0 l0 zl e0 ze hta hc hb
  refine ⟨rfl, _, rfl, .tuple #[], ?_, rfl, rfl, HCW.out⟩
  simp [results, Tryd.results87]

/-- A slice's lines, in a block from hr on. -/
def LinesFrom (w : World) (A : Option Addr) (xs : List (List UInt8 × Bool)) (hr : Nat) : Prop :=
  0 < xs.length → ∃ bk off, A = some ⟨bk, off, none⟩ ∧ hr ≤ bk ∧ bk < w.heap.size ∧ LinesAt w bk off xs
theorem lines_from (A : Option Addr) (cap : Nat) (l : List UInt8) (w : World) (h : BytesIn w A l) (hn : l.length ≤ cap) (hl : l.length ≤ 4194304) :
    Calls Tryd.prog 36 #[.slice A l.length cap] w fun e w' => ∃ A' cap', e = .returned (.slice A' (P.lines [] l).length cap') ∧ LinesFrom w' A' (P.lines [] l) w.heap.size ∧ Below w.heap.size w w' := by
  by_cases hp : 0 < l.length
  · obtain ⟨bk, off, rfl, hbk, hb⟩ := h hp
    refine (lines_any bk off cap l w hb hbk hn hl).mono ?_
    rintro e w' ⟨v, rfl, hown, hbel⟩
    obtain ⟨A', cap', hv, _, hA'⟩ := own_form hown
    subst hv
    refine ⟨A', cap', rfl, fun hq => ?_, hbel⟩
    obtain ⟨g', rfl, hge, hlt, hcells⟩ := hA' hq
    exact ⟨g', 0, rfl, hge, hlt, fun j hj => ⟨by rw [Nat.zero_add]; exact hcells _ _ (lineCells_at _ j hj).1, by rw [Nat.zero_add]; exact hcells _ _ (lineCells_at _ j hj).2⟩⟩
  · obtain rfl : l = [] := List.length_eq_zero_iff.1 (by omega)
    refine (lines_none A cap w).mono ?_
    rintro e w' ⟨rfl, rfl⟩
    exact ⟨none, 0, rfl, fun h => absurd h (by simp [P.lines]), Below.refl _ _⟩
end Go.Proofs.YtadhhamfikpimaaDoor.I
