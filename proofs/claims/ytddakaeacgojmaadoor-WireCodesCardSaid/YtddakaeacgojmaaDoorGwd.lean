/-
  The contract of label's numbers: for every text of at most 2^22 bytes.
  The contract of label's Parse: for every text of at most 2^22 bytes.
  The contract of label's Parse, from the call of Of on: for every text of at most 2^22 bytes.
  The contract of label's Parse, whole, for every text of at most 2^22 bytes; and of layer 2's live: it returns true.
  Plain facts: the text of a right label is read as that label; of a label that may not be, nothing is read.
  Layer 21, plain: the words of the verbs, the codes of the errors, a request, what is wrong with it, its bytes, the request of bytes.
-/
import Derived.Test.YtddakaeacgojmaaDoorGwc
namespace Go.Proofs.YtddakaeacgojmaaDoor.L
open Go.RowKit
open T

def NumsPost (o : Option (List Nat)) (w : World) (e : Ending) (w' : World) : Prop :=
  (∃ xs v, o = some xs ∧ e = .returned (.tuple #[v, .bool true]) ∧ w'.ownsRow w.heap.size 3 1 v xs.length (intCells xs) ∧ Below w.heap.size w w') ∨
  (o = none ∧ e = .returned (.tuple #[.slice none 0 0, .bool false]) ∧ Below w.heap.size w w')

def Ct (s : ByteArray) (c : UInt8) (v : Value) : Prop := ∀ w : World, Calls Tryd.prog 66 #[.string s, .string ⟨#[c]⟩] w fun e w' => e = .returned v ∧ Below w.heap.size w w'
theorem Ct.call {s : ByteArray} {c : UInt8} {v : Value} (h : Ct s c v) (w : World) : Calls Tryd.prog 66 #[.string s, .string ⟨#[c]⟩] w fun e w' => e = .returned v ∧ Below w.heap.size w w' := h w
theorem ct_none {s : ByteArray} {c : UInt8} (hs : s.size ≤ maxLen) (h : split c s.data.toList = none) : Ct s c (.tuple #[.string s, .string ⟨#[]⟩, .bool false]) := fun w => by
  have := cutc s c w hs
  rw [h] at this
  simp only [cutVal] at this
  rwa [show (⟨s.data.toList.toArray⟩ : ByteArray) = s by cases s; simp] at this
theorem ct_some {s : ByteArray} {c : UInt8} {a b : List UInt8} (hs : s.size ≤ maxLen) (h : split c s.data.toList = some (a, b)) : Ct s c (.tuple #[.string ⟨a.toArray⟩, .string ⟨b.toArray⟩, .bool true]) := fun w => by
  have := cutc s c w hs
  rw [h] at this
  exact this
def Nm (s : ByteArray) (n : Int) (is : Bool) : Prop := ∀ w : World, Calls Tryd.prog 67 #[.string s] w fun e w' => e = .returned (.tuple #[.int .i64 n, .bool is]) ∧ w = w'
theorem Nm.call {s : ByteArray} {n : Int} {is : Bool} (h : Nm s n is) (w : World) : Calls Tryd.prog 67 #[.string s] w fun e w' => e = .returned (.tuple #[.int .i64 n, .bool is]) ∧ w = w' := h w
theorem nm_some {s : ByteArray} {n : Nat} (hs : s.size ≤ maxLen) (h : P.number s.data.toList = some n) : Nm s n true := fun w => by
  have := number_any s w hs
  rwa [h, numVal_some] at this
theorem nm_none {s : ByteArray} (hs : s.size ≤ maxLen) (h : P.number s.data.toList = none) : Nm s 0 false := fun w => by
  have := number_any s w hs
  rwa [h, numVal_none] at this
theorem size_list (l : List UInt8) : (⟨l.toArray⟩ : ByteArray).size = l.length := by simp [ByteArray.size]

def Rel (w : World) (s0 : ByteArray) (n : Nat) (sv v mv : Value) (wr : World) : Prop :=
  (∃ (s : ByteArray) (acc : List Nat), sv = .string s ∧ mv = .bool true ∧ acc.length + s.size ≤ s0.size ∧ s.size + 1 ≤ n ∧ wr.ownsRow w.heap.size 3 1 v acc.length (intCells acc) ∧ Below w.heap.size w wr ∧ nums s0.data.toList = (nums s.data.toList).map (acc ++ ·)) ∨
  (∃ (s : ByteArray) (acc : List Nat), sv = .string s ∧ mv = .bool false ∧ wr.ownsRow w.heap.size 3 1 v acc.length (intCells acc) ∧ Below w.heap.size w wr ∧ nums s0.data.toList = some acc)

theorem step_none {s0 s : ByteArray} {acc : List Nat} (hr : nums s0.data.toList = (nums s.data.toList).map (acc ++ ·)) (hsp : split 44 s.data.toList = none) (hn : P.number s.data.toList = none) : nums s0.data.toList = none := by
  rw [hr, nums_none hsp, hn]; rfl
theorem step_last {s0 s : ByteArray} {acc : List Nat} {n : Nat} (hr : nums s0.data.toList = (nums s.data.toList).map (acc ++ ·)) (hsp : split 44 s.data.toList = none) (hn : P.number s.data.toList = some n) : nums s0.data.toList = some (acc ++ [n]) := by
  rw [hr, nums_none hsp, hn]; rfl
theorem step_bad {s0 s : ByteArray} {acc : List Nat} {a b : List UInt8} (hr : nums s0.data.toList = (nums s.data.toList).map (acc ++ ·)) (hsp : split 44 s.data.toList = some (a, b)) (hn : P.number a = none) : nums s0.data.toList = none := by
  rw [hr, nums_some hsp, hn]; rfl
theorem step_more {s0 s : ByteArray} {acc : List Nat} {a b : List UInt8} {n : Nat} (hr : nums s0.data.toList = (nums s.data.toList).map (acc ++ ·)) (hsp : split 44 s.data.toList = some (a, b)) (hn : P.number a = some n) : nums s0.data.toList = (nums b).map ((acc ++ [n]) ++ ·) := by
  rw [hr, nums_some hsp, hn]
  cases nums b <;> simp

set_option maxHeartbeats 1000000 in
set_option maxRecDepth 100000 in
theorem numbers_any (s0 : ByteArray) (w : World) (hs0 : s0.size ≤ 4194304) :
    Calls Tryd.prog 68 #[.string s0] w (NumsPost (nums s0.data.toList) w) := by
  obtain ⟨i0, hi0, hz0, hz1, hz2⟩ := info_parts infoInt
  go_enter Tryd.func68, Tryd.ntmps68
  go_wp2_with fail
  go_loopg [0, 4, 5] (s0.size + 1) (fun n sv v mv wr => Rel w s0 n sv v mv wr)
  case atStart => exact .inl ⟨s0, [], rfl, rfl, by simp, Nat.le_refl _, ⟨by simp [intCells], .inl ⟨rfl, rfl⟩⟩, Below.refl _ _, by simp⟩
  case round =>
    rcases hrel with ⟨s, acc, rfl, rfl, hlen, hn, hown, hbel, hr⟩ | ⟨s, acc, rfl, rfl, hown, hbel, hr⟩
    · have HR := Lib.hid hr
      clear hr
      have hmx : s.size ≤ maxLen := by simp only [maxLen]; omega
      cases hsp : split 44 s.data.toList with
      | none =>
        have HC := Lib.hid (ct_none hmx hsp)
        cases hnum : P.number s.data.toList with
        | none =>
          have HN := Lib.hid (nm_none hmx hnum)
          have HF := Lib.hid (step_none HR.out hsp hnum)
          clear hsp hnum hmx
          go_wp2_with fail
          with_reducible refine (HC.out.call _).mono ?_
          rintro e w1 ⟨rfl, hb1⟩
          have hb01 : Below w.heap.size w w1 := hbel.trans (hb1.mono hbel.size)
          go_wp2_with fail
          with_reducible refine (HN.out.call _).mono ?_
          rintro e w2 ⟨rfl, rfl⟩
          go_wp2_with fail
          go_ret2
          exact .inr ⟨HF.out, rfl, hb01⟩
        | some x =>
          have HN := Lib.hid (nm_some hmx hnum)
          have HF := Lib.hid (step_last HR.out hsp hnum)
          clear hsp hnum hmx
          go_wp2_with fail
          with_reducible refine (HC.out.call _).mono ?_
          rintro e w1 ⟨rfl, hb1⟩
          have hb01 : Below w.heap.size w w1 := hbel.trans (hb1.mono hbel.size)
          have hown1 : w1.ownsRow w.heap.size 3 1 u4 acc.length (intCells acc) := hown.kept (row := none) ⟨hb1.os, hb1.tape, hb1.output, hb1.size, fun i hi _ => hb1.block i hi⟩ (by
            rcases hh : u4.ownBlock with _ | b
            · exact .inl rfl
            · exact .inr (by simp))
          clear hown
          go_wp2_with fail
          with_reducible refine (HN.out.call _).mono ?_
          rintro e w2 ⟨rfl, rfl⟩
          go_wp2_with (at_builtin; refine wpList_append_own _ rfl (.tmp 23) (.tmp 25) 80 rfl w.heap.size 3 i0 _ 1 8 Tryd.underlying80 hi0 hz0 hz1 hz2 rfl (by decide) _ acc.length (intCells acc) rfl ?ho ⟨w1.heap.size, 0, none⟩ 1 1 [.int .i64 (x : Int)] rfl rfl ?c1 ?c2 ?c3 ?c4 ?c5 ?_)
          case ho => exact hown1.alloc _
          case c1 => exact cell_one_new _ _ _
          case c2 => intro u hu; simp at hu; rcases hu with rfl; rfl
          case c3 => simp only [maxLen]; omega
          case c4 => omega
          case c5 => have := hb01.size; simp; omega
          intro v' w3 hown3 hg3 _
          have hb03 : Below w.heap.size w w3 := (hb01.alloc hb01.size _).grown hg3 (by have := hb01.size; simp; omega) (own_base hown1)
          rw [← intCells_snoc] at hown3
          have hl1 : (acc ++ [x]).length = acc.length + 1 := by simp
          rw [← hl1] at hown3
          clear hl1 hown1
          go_wp2_with fail
          go_roundg 0
          case measure => omega
          case rel => exact .inr ⟨_, acc ++ [x], rfl, rfl, hown3, hb03, HF.out⟩
      | some q =>
        obtain ⟨a, b⟩ := q
        have HC := Lib.hid (ct_some hmx hsp)
        have hsl := split_len hsp
        rw [← Lib.size_eq] at hsl
        have hma : (⟨a.toArray⟩ : ByteArray).size ≤ maxLen := by rw [size_list]; simp only [maxLen]; omega
        cases hnum : P.number a with
        | none =>
          have HN := Lib.hid (nm_none (s := ⟨a.toArray⟩) hma hnum)
          have HF := Lib.hid (step_bad HR.out hsp hnum)
          clear hsp hnum hmx hma
          go_wp2_with fail
          with_reducible refine (HC.out.call _).mono ?_
          rintro e w1 ⟨rfl, hb1⟩
          have hb01 : Below w.heap.size w w1 := hbel.trans (hb1.mono hbel.size)
          go_wp2_with fail
          with_reducible refine (HN.out.call _).mono ?_
          rintro e w2 ⟨rfl, rfl⟩
          go_wp2_with fail
          go_ret2
          exact .inr ⟨HF.out, rfl, hb01⟩
        | some x =>
          have HN := Lib.hid (nm_some (s := ⟨a.toArray⟩) hma hnum)
          have HF := Lib.hid (step_more HR.out hsp hnum)
          clear hsp hnum hmx hma
          go_wp2_with fail
          with_reducible refine (HC.out.call _).mono ?_
          rintro e w1 ⟨rfl, hb1⟩
          have hb01 : Below w.heap.size w w1 := hbel.trans (hb1.mono hbel.size)
          have hown1 : w1.ownsRow w.heap.size 3 1 u4 acc.length (intCells acc) := hown.kept (row := none) ⟨hb1.os, hb1.tape, hb1.output, hb1.size, fun i hi _ => hb1.block i hi⟩ (by
            rcases hh : u4.ownBlock with _ | b
            · exact .inl rfl
            · exact .inr (by simp))
          clear hown
          go_wp2_with fail
          with_reducible refine (HN.out.call _).mono ?_
          rintro e w2 ⟨rfl, rfl⟩
          go_wp2_with (at_builtin; refine wpList_append_own _ rfl (.tmp 23) (.tmp 25) 80 rfl w.heap.size 3 i0 _ 1 8 Tryd.underlying80 hi0 hz0 hz1 hz2 rfl (by decide) _ acc.length (intCells acc) rfl ?ho ⟨w1.heap.size, 0, none⟩ 1 1 [.int .i64 (x : Int)] rfl rfl ?c1 ?c2 ?c3 ?c4 ?c5 ?_)
          case ho => exact hown1.alloc _
          case c1 => exact cell_one_new _ _ _
          case c2 => intro u hu; simp at hu; rcases hu with rfl; rfl
          case c3 => simp only [maxLen]; omega
          case c4 => omega
          case c5 => have := hb01.size; simp; omega
          intro v' w3 hown3 hg3 _
          have hb03 : Below w.heap.size w w3 := (hb01.alloc hb01.size _).grown hg3 (by have := hb01.size; simp; omega) (own_base hown1)
          rw [← intCells_snoc] at hown3
          have hl1 : (acc ++ [x]).length = acc.length + 1 := by simp
          rw [← hl1] at hown3
          clear hl1 hown1
          go_wp2_with fail
          go_roundg (b.length + 1)
          case measure => omega
          case rel => exact .inl ⟨⟨b.toArray⟩, acc ++ [x], rfl, rfl, by rw [size_list]; simp; omega, by rw [size_list]; exact Nat.le_refl _, hown3, hb03, HF.out⟩
    · have HR := Lib.hid hr
      clear hr
      go_wp2_with fail
      go_ret2
      exact .inl ⟨acc, _, HR.out, rfl, hown, hbel⟩
end Go.Proofs.YtddakaeacgojmaaDoor.L

namespace Go.Proofs.YtddakaeacgojmaaDoor.L
open Go.RowKit
open T

/-- A text's label. -/
def parseRest (l : List UInt8) (n : Nat) (o : Option (List Nat)) : Option (Nat × Nat) :=
  o.bind fun xs => (ofAll n (xs.map fun x : Nat => (x : Int))).bind fun c => if print n c = l then some (n, c) else none
def parse (l : List UInt8) : Option (Nat × Nat) :=
  match split 58 l with
  | none => (P.number l).bind fun n => parseRest l n (some [])
  | some p => (P.number p.1).bind fun n => parseRest l n (nums p.2)
def parseVal (o : Option (Nat × Nat)) : Value := match o with
  | some p => .tuple #[lab (p.1 : Int) p.2, .bool true]
  | none => .tuple #[lab 0 0, .bool false]

def Of (l : Int) (A : Option Addr) (n cap : Nat) (v : Value) (w : World) : Prop := Calls Tryd.prog 69 #[.int .i64 l, .slice A n cap] w fun e w' => e = .returned v ∧ Below w.heap.size w w'
theorem Of.call {l : Int} {A : Option Addr} {n cap : Nat} {v : Value} {w : World} (h : Of l A n cap v w) : Calls Tryd.prog 69 #[.int .i64 l, .slice A n cap] w fun e w' => e = .returned v ∧ Below w.heap.size w w' := h
def Pr (l : Int) (c : Nat) (s : ByteArray) : Prop := ∀ w : World, Tab w → Calls Tryd.prog 42 #[lab l c] w fun e w' => e = .returned (.string s) ∧ Below w.heap.size w w'
theorem Pr.call {l : Int} {c : Nat} {s : ByteArray} (h : Pr l c s) (w : World) (ht : Tab w) : Calls Tryd.prog 42 #[lab l c] w fun e w' => e = .returned (.string s) ∧ Below w.heap.size w w' := h w ht

set_option maxHeartbeats 1000000 in
set_option maxRecDepth 100000 in
theorem parse_head (s h r : ByteArray) (m : Bool) (w : World) (HC : Hid (Ct s 58 (.tuple #[.string h, .string r, .bool m]))) (HN : Hid (Nm h 0 false)) :
    Calls Tryd.prog 50 #[.string s] w fun e w' => e = .returned (.tuple #[lab 0 0, .bool false]) ∧ Below w.heap.size w w' := by
  go_enter Tryd.func50, Tryd.ntmps50
  go_wp2_with fail
  with_reducible refine (HC.out.call _).mono ?_
  rintro e w1 ⟨rfl, hb1⟩
  have HK0 := Lib.hid ((hb1.block w.heap.size (by simp)).trans (heap_alloc_new w _))
  have hbel : Below w.heap.size w w1 := ((Below.refl _ _).alloc (Nat.le_refl _) _).trans (hb1.mono (by simp))
  have d0 := (res_cells HK0.out).1
  have d1 := (res_cells HK0.out).2
  have e0 := blk_free HK0.out 0
  have e1 := blk_free HK0.out 1
  clear hb1
  go_wp2_with fail
  with_reducible refine (HN.out.call _).mono ?_
  rintro e w2 ⟨rfl, rfl⟩
  go_wp2_with fail
  have hfin := blk_set (blk_set HK0.out 0 (.int .i64 0)) 1 (.int .u64 0)
  have hbf := (hbel.setCell (p := ⟨w.heap.size, 0, none⟩) (Nat.le_refl _) (.int .i64 0)).setCell (p := ⟨w.heap.size, 1, none⟩) (Nat.le_refl _) (.int .u64 0)
  clear d0 d1 e0 e1
  generalize (w1.setCell ⟨w.heap.size, 0, none⟩ (.int .i64 0)).setCell ⟨w.heap.size, 1, none⟩ (.int .u64 0) = wf at *
  have q0 : wf.cell? ⟨w.heap.size, 0, none⟩ = some (.int .i64 0) := blk_cell hfin 0
  have q1 : wf.cell? ⟨w.heap.size, 1, none⟩ = some (.int .u64 0) := blk_cell hfin 1
  exact bodyPost_ret (v := .tuple #[.agg #[.int .i64 0, .int .u64 0], .bool false]) (by simp [results, Tryd.results50, go_sem, q0, q1]) rfl ⟨rfl, hbf⟩

set_option maxHeartbeats 1000000 in
set_option maxRecDepth 100000 in
theorem parse_nums (s h r : ByteArray) (n : Int) (w : World) (hr : r.size ≤ 4194304) (HC : Hid (Ct s 58 (.tuple #[.string h, .string r, .bool true]))) (HN : Hid (Nm h n true)) (HM : Hid (nums r.data.toList = none)) :
    Calls Tryd.prog 50 #[.string s] w fun e w' => e = .returned (.tuple #[lab 0 0, .bool false]) ∧ Below w.heap.size w w' := by
  go_enter Tryd.func50, Tryd.ntmps50
  go_wp2_with fail
  with_reducible refine (HC.out.call _).mono ?_
  rintro e w1 ⟨rfl, hb1⟩
  have HK1 := Lib.hid ((hb1.block w.heap.size (by simp)).trans (heap_alloc_new w _))
  have hbe1 : Below w.heap.size w w1 := ((Below.refl _ _).alloc (Nat.le_refl _) _).trans (hb1.mono (by simp))
  clear hb1
  go_wp2_with fail
  with_reducible refine (HN.out.call _).mono ?_
  rintro e w2 ⟨rfl, rfl⟩
  go_wp2_with fail
  with_reducible refine (numbers_any r _ hr).mono ?_
  rintro e w2 (⟨xs, v, hx, _⟩ | ⟨_, rfl, hb2⟩)
  · rw [HM.out] at hx; cases hx
  have hbel : Below w.heap.size w w2 := hbe1.trans (hb2.mono hbe1.size)
  have HK0 := Lib.hid ((hb2.block w.heap.size (blk_lt HK1.out)).trans HK1.out)
  have d0 := (res_cells HK0.out).1
  have d1 := (res_cells HK0.out).2
  have e0 := blk_free HK0.out 0
  have e1 := blk_free HK0.out 1
  clear hb2 HK1 hbe1
  go_wp2_with fail
  have hfin := blk_set (blk_set HK0.out 0 (.int .i64 0)) 1 (.int .u64 0)
  have hbf := (hbel.setCell (p := ⟨w.heap.size, 0, none⟩) (Nat.le_refl _) (.int .i64 0)).setCell (p := ⟨w.heap.size, 1, none⟩) (Nat.le_refl _) (.int .u64 0)
  clear d0 d1 e0 e1
  generalize (w2.setCell ⟨w.heap.size, 0, none⟩ (.int .i64 0)).setCell ⟨w.heap.size, 1, none⟩ (.int .u64 0) = wf at *
  have q0 : wf.cell? ⟨w.heap.size, 0, none⟩ = some (.int .i64 0) := blk_cell hfin 0
  have q1 : wf.cell? ⟨w.heap.size, 1, none⟩ = some (.int .u64 0) := blk_cell hfin 1
  exact bodyPost_ret (v := .tuple #[.agg #[.int .i64 0, .int .u64 0], .bool false]) (by simp [results, Tryd.results50, go_sem, q0, q1]) rfl ⟨rfl, hbf⟩
end Go.Proofs.YtddakaeacgojmaaDoor.L

namespace Go.Proofs.YtddakaeacgojmaaDoor.L
open Go.RowKit
open T

theorem of_own {B : Nat} (l : Int) (A : Option Addr) (cap : Nat) (xs : List Nat) (w : World) (hlen : xs.length ≤ maxLen) (hA : 0 < xs.length → ∃ g, A = some ⟨g, 0, none⟩ ∧ B ≤ g ∧ g < w.heap.size ∧ ∀ j u, (intCells xs)[j]? = some u → w.cell? ⟨g, j, none⟩ = some u) :
    Of l A xs.length cap (ofVal l (ofAll l (xs.map fun x : Nat => (x : Int)))) w := by
  have h := of_any l A cap (xs.map fun x : Nat => (x : Int)) w (by simpa using hlen) (fun hp => by
    obtain ⟨g, rfl, _, hg, hc⟩ := hA (by simpa using hp)
    refine ⟨g, 0, rfl, hg, fun j hj => ?_⟩
    rw [Nat.zero_add]
    refine hc j _ ?_
    have hj' : j < xs.length := by simpa using hj
    simp [intCells, List.getElem?_eq_getElem hj'])
  rw [List.length_map] at h
  exact h

set_option maxHeartbeats 1000000 in
set_option maxRecDepth 100000 in
theorem parse_some_err (s h r : ByteArray) (n : Int) (xs : List Nat) (w : World) (hr : r.size ≤ 4194304) (HX : Hid (xs.length ≤ maxLen)) (HC : Hid (Ct s 58 (.tuple #[.string h, .string r, .bool true]))) (HN : Hid (Nm h n true)) (HM : Hid (nums r.data.toList = some xs)) (HV : Hid (ofAll n (xs.map fun x : Nat => (x : Int)) = none)) :
    Calls Tryd.prog 50 #[.string s] w fun e w' => e = .returned (.tuple #[lab 0 0, .bool false]) ∧ Below w.heap.size w w' := by
  go_enter Tryd.func50, Tryd.ntmps50
  go_wp2_with fail
  with_reducible refine (HC.out.call _).mono ?_
  rintro e w1 ⟨rfl, hb1⟩
  have HK1 := Lib.hid ((hb1.block w.heap.size (by simp)).trans (heap_alloc_new w _))
  have hbe1 : Below w.heap.size w w1 := ((Below.refl _ _).alloc (Nat.le_refl _) _).trans (hb1.mono (by simp))
  clear hb1
  go_wp2_with fail
  with_reducible refine (HN.out.call _).mono ?_
  rintro e w2 ⟨rfl, rfl⟩
  go_wp2_with fail
  with_reducible refine (numbers_any r _ hr).mono ?_
  rintro e w2 (⟨ys, v, hx, rfl, hown, hb2⟩ | ⟨hx, _⟩)
  rotate_left
  · rw [HM.out] at hx; cases hx
  rw [HM.out] at hx
  obtain rfl : xs = ys := by injection hx
  have hbe2 : Below w.heap.size w w2 := hbe1.trans (hb2.mono hbe1.size)
  have HK2 := Lib.hid ((hb2.block w.heap.size (blk_lt HK1.out)).trans HK1.out)
  obtain ⟨A, cap, hv, hcap, hA⟩ := own_form hown
  subst hv
  have HO := Lib.hid (of_own n A cap xs w2 HX.out hA)
  rw [HV.out] at HO
  clear hb2 HK1 hbe1 hA hown hx
  go_wp2_with fail
  with_reducible refine (HO.out.call).mono ?_
  rintro e w3 ⟨rfl, hb3⟩
  simp only [ofVal]
  have hbel : Below w.heap.size w w3 := hbe2.trans (hb3.mono hbe2.size)
  have HK0 := Lib.hid ((hb3.block w.heap.size (blk_lt HK2.out)).trans HK2.out)
  have hlt3 := blk_lt HK0.out
  have d0 := (res_cells HK0.out).1
  have d1 := (res_cells HK0.out).2
  have e0 := blk_free HK0.out 0
  have e1 := blk_free HK0.out 1
  clear hb3
  go_wp2_with fail
  have hfin := blk_set (blk_set HK0.out 0 (.int .i64 0)) 1 (.int .u64 0)
  have hbf := (hbel.setCell (p := ⟨w.heap.size, 0, none⟩) (Nat.le_refl _) (.int .i64 0)).setCell (p := ⟨w.heap.size, 1, none⟩) (Nat.le_refl _) (.int .u64 0)
  clear d0 d1 e0 e1
  generalize (w3.setCell ⟨w.heap.size, 0, none⟩ (.int .i64 0)).setCell ⟨w.heap.size, 1, none⟩ (.int .u64 0) = wg at *
  have hz : w.heap.size < wg.heap.size := blk_lt hfin
  have hfo := (Below.heap_alloc wg (.cells #[.int .i64 0, .int .u64 0] 25) _ hz).trans hfin
  have hbo := hbf.alloc (Nat.le_of_lt hz) (.cells #[.int .i64 0, .int .u64 0] 25)
  clear hfin hbf
  generalize wg.alloc (.cells #[.int .i64 0, .int .u64 0] 25) = wf at *
  have q0 : wf.cell? ⟨w.heap.size, 0, none⟩ = some (.int .i64 0) := blk_cell hfo 0
  have q1 : wf.cell? ⟨w.heap.size, 1, none⟩ = some (.int .u64 0) := blk_cell hfo 1
  exact bodyPost_ret (v := .tuple #[.agg #[.int .i64 0, .int .u64 0], .bool false]) (by simp [results, Tryd.results50, go_sem, q0, q1]) rfl ⟨rfl, hbo⟩

set_option maxHeartbeats 1000000 in
set_option maxRecDepth 100000 in
theorem parse_some_not (s h r : ByteArray) (n : Int) (xs : List Nat) (w : World) (hr : r.size ≤ 4194304) (HX : Hid (xs.length ≤ maxLen)) (HC : Hid (Ct s 58 (.tuple #[.string h, .string r, .bool true]))) (HN : Hid (Nm h n true)) (HM : Hid (nums r.data.toList = some xs)) (c : Nat) (d : ByteArray) (HV : Hid (ofAll n (xs.map fun x : Nat => (x : Int)) = some c)) (HP : Hid (Pr n c d)) (HT : Hid (Tab w)) (hne : (d.toList == s.toList) = false) :
    Calls Tryd.prog 50 #[.string s] w fun e w' => e = .returned (.tuple #[lab 0 0, .bool false]) ∧ Below w.heap.size w w' := by
  go_enter Tryd.func50, Tryd.ntmps50
  go_wp2_with fail
  with_reducible refine (HC.out.call _).mono ?_
  rintro e w1 ⟨rfl, hb1⟩
  have HK1 := Lib.hid ((hb1.block w.heap.size (by simp)).trans (heap_alloc_new w _))
  have hbe1 : Below w.heap.size w w1 := ((Below.refl _ _).alloc (Nat.le_refl _) _).trans (hb1.mono (by simp))
  clear hb1
  go_wp2_with fail
  with_reducible refine (HN.out.call _).mono ?_
  rintro e w2 ⟨rfl, rfl⟩
  go_wp2_with fail
  with_reducible refine (numbers_any r _ hr).mono ?_
  rintro e w2 (⟨ys, v, hx, rfl, hown, hb2⟩ | ⟨hx, _⟩)
  rotate_left
  · rw [HM.out] at hx; cases hx
  rw [HM.out] at hx
  obtain rfl : xs = ys := by injection hx
  have hbe2 : Below w.heap.size w w2 := hbe1.trans (hb2.mono hbe1.size)
  have HK2 := Lib.hid ((hb2.block w.heap.size (blk_lt HK1.out)).trans HK1.out)
  obtain ⟨A, cap, hv, hcap, hA⟩ := own_form hown
  subst hv
  have HO := Lib.hid (of_own n A cap xs w2 HX.out hA)
  rw [HV.out] at HO
  clear hb2 HK1 hbe1 hA hown hx
  go_wp2_with fail
  with_reducible refine (HO.out.call).mono ?_
  rintro e w3 ⟨rfl, hb3⟩
  simp only [ofVal]
  have hbel : Below w.heap.size w w3 := hbe2.trans (hb3.mono hbe2.size)
  have HK0 := Lib.hid ((hb3.block w.heap.size (blk_lt HK2.out)).trans HK2.out)
  have hlt3 := blk_lt HK0.out
  have HTb := Lib.hid (HT.out.later hbel)
  clear hb3
  go_wp2_with fail
  with_reducible refine (HP.out.call _ (HTb.out.alloc _)).mono ?_
  rintro e w4 ⟨rfl, hb4⟩
  have hbel4 : Below w.heap.size w w4 := (hbel.alloc hbel.size _).trans (hb4.mono (by have := hbel.size; simp; omega))
  have HK4 := Lib.hid ((hb4.block w.heap.size (by simp; omega)).trans ((Below.heap_alloc w3 _ _ hlt3).trans HK0.out))
  have HA4 := Lib.hid ((hb4.block w3.heap.size (by simp)).trans (heap_alloc_new w3 _))
  clear HK0 hbel hb4
  have HK0 := HK4
  have hbel := hbel4
  have a0 := (res_cells HA4.out).1
  have a1 := (res_cells HA4.out).2
  have d0 := (res_cells HK0.out).1
  have d1 := (res_cells HK0.out).2
  have e0 := blk_free HK0.out 0
  have e1 := blk_free HK0.out 1
  go_wp2_with fail
  clear a0 a1
  have hfin := blk_set (blk_set HK0.out 0 (.int .i64 0)) 1 (.int .u64 0)
  have hbf := (hbel.setCell (p := ⟨w.heap.size, 0, none⟩) (Nat.le_refl _) (.int .i64 0)).setCell (p := ⟨w.heap.size, 1, none⟩) (Nat.le_refl _) (.int .u64 0)
  clear d0 d1 e0 e1
  generalize (w4.setCell ⟨w.heap.size, 0, none⟩ (.int .i64 0)).setCell ⟨w.heap.size, 1, none⟩ (.int .u64 0) = wf at *
  have q0 : wf.cell? ⟨w.heap.size, 0, none⟩ = some (.int .i64 0) := blk_cell hfin 0
  have q1 : wf.cell? ⟨w.heap.size, 1, none⟩ = some (.int .u64 0) := blk_cell hfin 1
  exact bodyPost_ret (v := .tuple #[.agg #[.int .i64 0, .int .u64 0], .bool false]) (by simp [results, Tryd.results50, go_sem, q0, q1]) rfl ⟨rfl, hbf⟩

set_option maxHeartbeats 1000000 in
set_option maxRecDepth 100000 in
theorem parse_some_yes (s h r : ByteArray) (n : Int) (xs : List Nat) (w : World) (hr : r.size ≤ 4194304) (HX : Hid (xs.length ≤ maxLen)) (HC : Hid (Ct s 58 (.tuple #[.string h, .string r, .bool true]))) (HN : Hid (Nm h n true)) (HM : Hid (nums r.data.toList = some xs)) (c : Nat) (HV : Hid (ofAll n (xs.map fun x : Nat => (x : Int)) = some c)) (HP : Hid (Pr n c s)) (HT : Hid (Tab w)) :
    Calls Tryd.prog 50 #[.string s] w fun e w' => e = .returned (.tuple #[lab n c, .bool true]) ∧ Below w.heap.size w w' := by
  go_enter Tryd.func50, Tryd.ntmps50
  go_wp2_with fail
  with_reducible refine (HC.out.call _).mono ?_
  rintro e w1 ⟨rfl, hb1⟩
  have HK1 := Lib.hid ((hb1.block w.heap.size (by simp)).trans (heap_alloc_new w _))
  have hbe1 : Below w.heap.size w w1 := ((Below.refl _ _).alloc (Nat.le_refl _) _).trans (hb1.mono (by simp))
  clear hb1
  go_wp2_with fail
  with_reducible refine (HN.out.call _).mono ?_
  rintro e w2 ⟨rfl, rfl⟩
  go_wp2_with fail
  with_reducible refine (numbers_any r _ hr).mono ?_
  rintro e w2 (⟨ys, v, hx, rfl, hown, hb2⟩ | ⟨hx, _⟩)
  rotate_left
  · rw [HM.out] at hx; cases hx
  rw [HM.out] at hx
  obtain rfl : xs = ys := by injection hx
  have hbe2 : Below w.heap.size w w2 := hbe1.trans (hb2.mono hbe1.size)
  have HK2 := Lib.hid ((hb2.block w.heap.size (blk_lt HK1.out)).trans HK1.out)
  obtain ⟨A, cap, hv, hcap, hA⟩ := own_form hown
  subst hv
  have HO := Lib.hid (of_own n A cap xs w2 HX.out hA)
  rw [HV.out] at HO
  clear hb2 HK1 hbe1 hA hown hx
  go_wp2_with fail
  with_reducible refine (HO.out.call).mono ?_
  rintro e w3 ⟨rfl, hb3⟩
  simp only [ofVal]
  have hbel : Below w.heap.size w w3 := hbe2.trans (hb3.mono hbe2.size)
  have HK0 := Lib.hid ((hb3.block w.heap.size (blk_lt HK2.out)).trans HK2.out)
  have hlt3 := blk_lt HK0.out
  have HTb := Lib.hid (HT.out.later hbel)
  clear hb3
  go_wp2_with fail
  with_reducible refine (HP.out.call _ (HTb.out.alloc _)).mono ?_
  rintro e w4 ⟨rfl, hb4⟩
  have hbel4 : Below w.heap.size w w4 := (hbel.alloc hbel.size _).trans (hb4.mono (by have := hbel.size; simp; omega))
  have HK4 := Lib.hid ((hb4.block w.heap.size (by simp; omega)).trans ((Below.heap_alloc w3 _ _ hlt3).trans HK0.out))
  have HA4 := Lib.hid ((hb4.block w3.heap.size (by simp)).trans (heap_alloc_new w3 _))
  clear HK0 hbel hb4
  have HK0 := HK4
  have hbel := hbel4
  have a0 := (res_cells HA4.out).1
  have a1 := (res_cells HA4.out).2
  have d0 := (res_cells HK0.out).1
  have d1 := (res_cells HK0.out).2
  have e0 := blk_free HK0.out 0
  have e1 := blk_free HK0.out 1
  go_wp2_with fail
  clear a0 a1
  have hfin := blk_set (blk_set HK0.out 0 (.int .i64 n)) 1 (.int .u64 (c : Int))
  have hbf := (hbel.setCell (p := ⟨w.heap.size, 0, none⟩) (Nat.le_refl _) (.int .i64 n)).setCell (p := ⟨w.heap.size, 1, none⟩) (Nat.le_refl _) (.int .u64 (c : Int))
  clear d0 d1 e0 e1
  generalize (w4.setCell ⟨w.heap.size, 0, none⟩ (.int .i64 n)).setCell ⟨w.heap.size, 1, none⟩ (.int .u64 (c : Int)) = wf at *
  have q0 : wf.cell? ⟨w.heap.size, 0, none⟩ = some (.int .i64 n) := blk_cell hfin 0
  have q1 : wf.cell? ⟨w.heap.size, 1, none⟩ = some (.int .u64 (c : Int)) := blk_cell hfin 1
  exact bodyPost_ret (v := .tuple #[.agg #[.int .i64 n, .int .u64 (c : Int)], .bool true]) (by simp [results, Tryd.results50, go_sem, q0, q1]) rfl ⟨rfl, hbf⟩

set_option maxHeartbeats 1000000 in
set_option maxRecDepth 100000 in
theorem parse_none_err (s h r : ByteArray) (n : Int) (w : World) (HC : Hid (Ct s 58 (.tuple #[.string h, .string r, .bool false]))) (HN : Hid (Nm h n true)) (HV : Hid (ofAll n [] = none)) :
    Calls Tryd.prog 50 #[.string s] w fun e w' => e = .returned (.tuple #[lab 0 0, .bool false]) ∧ Below w.heap.size w w' := by
  go_enter Tryd.func50, Tryd.ntmps50
  go_wp2_with fail
  with_reducible refine (HC.out.call _).mono ?_
  rintro e w1 ⟨rfl, hb1⟩
  have HK1 := Lib.hid ((hb1.block w.heap.size (by simp)).trans (heap_alloc_new w _))
  have hbe1 : Below w.heap.size w w1 := ((Below.refl _ _).alloc (Nat.le_refl _) _).trans (hb1.mono (by simp))
  clear hb1
  go_wp2_with fail
  with_reducible refine (HN.out.call _).mono ?_
  rintro e w2 ⟨rfl, rfl⟩
  go_wp2_with fail
  have HK2 := HK1
  have hbe2 := hbe1
  have HO : Hid (Of n none 0 0 (ofVal n (ofAll n [])) w1) := Lib.hid (of_any n none 0 [] w1 (by simp [maxLen]) (fun h => absurd h (by simp)))
  rw [HV.out] at HO
  clear HK1 hbe1
  with_reducible refine (HO.out.call).mono ?_
  rintro e w3 ⟨rfl, hb3⟩
  simp only [ofVal]
  have hbel : Below w.heap.size w w3 := hbe2.trans (hb3.mono hbe2.size)
  have HK0 := Lib.hid ((hb3.block w.heap.size (blk_lt HK2.out)).trans HK2.out)
  have hlt3 := blk_lt HK0.out
  have d0 := (res_cells HK0.out).1
  have d1 := (res_cells HK0.out).2
  have e0 := blk_free HK0.out 0
  have e1 := blk_free HK0.out 1
  clear hb3
  go_wp2_with fail
  have hfin := blk_set (blk_set HK0.out 0 (.int .i64 0)) 1 (.int .u64 0)
  have hbf := (hbel.setCell (p := ⟨w.heap.size, 0, none⟩) (Nat.le_refl _) (.int .i64 0)).setCell (p := ⟨w.heap.size, 1, none⟩) (Nat.le_refl _) (.int .u64 0)
  clear d0 d1 e0 e1
  generalize (w3.setCell ⟨w.heap.size, 0, none⟩ (.int .i64 0)).setCell ⟨w.heap.size, 1, none⟩ (.int .u64 0) = wg at *
  have hz : w.heap.size < wg.heap.size := blk_lt hfin
  have hfo := (Below.heap_alloc wg (.cells #[.int .i64 0, .int .u64 0] 25) _ hz).trans hfin
  have hbo := hbf.alloc (Nat.le_of_lt hz) (.cells #[.int .i64 0, .int .u64 0] 25)
  clear hfin hbf
  generalize wg.alloc (.cells #[.int .i64 0, .int .u64 0] 25) = wf at *
  have q0 : wf.cell? ⟨w.heap.size, 0, none⟩ = some (.int .i64 0) := blk_cell hfo 0
  have q1 : wf.cell? ⟨w.heap.size, 1, none⟩ = some (.int .u64 0) := blk_cell hfo 1
  exact bodyPost_ret (v := .tuple #[.agg #[.int .i64 0, .int .u64 0], .bool false]) (by simp [results, Tryd.results50, go_sem, q0, q1]) rfl ⟨rfl, hbo⟩

set_option maxHeartbeats 1000000 in
set_option maxRecDepth 100000 in
theorem parse_none_not (s h r : ByteArray) (n : Int) (w : World) (HC : Hid (Ct s 58 (.tuple #[.string h, .string r, .bool false]))) (HN : Hid (Nm h n true)) (c : Nat) (d : ByteArray) (HV : Hid (ofAll n [] = some c)) (HP : Hid (Pr n c d)) (HT : Hid (Tab w)) (hne : (d.toList == s.toList) = false) :
    Calls Tryd.prog 50 #[.string s] w fun e w' => e = .returned (.tuple #[lab 0 0, .bool false]) ∧ Below w.heap.size w w' := by
  go_enter Tryd.func50, Tryd.ntmps50
  go_wp2_with fail
  with_reducible refine (HC.out.call _).mono ?_
  rintro e w1 ⟨rfl, hb1⟩
  have HK1 := Lib.hid ((hb1.block w.heap.size (by simp)).trans (heap_alloc_new w _))
  have hbe1 : Below w.heap.size w w1 := ((Below.refl _ _).alloc (Nat.le_refl _) _).trans (hb1.mono (by simp))
  clear hb1
  go_wp2_with fail
  with_reducible refine (HN.out.call _).mono ?_
  rintro e w2 ⟨rfl, rfl⟩
  go_wp2_with fail
  have HK2 := HK1
  have hbe2 := hbe1
  have HO : Hid (Of n none 0 0 (ofVal n (ofAll n [])) w1) := Lib.hid (of_any n none 0 [] w1 (by simp [maxLen]) (fun h => absurd h (by simp)))
  rw [HV.out] at HO
  clear HK1 hbe1
  with_reducible refine (HO.out.call).mono ?_
  rintro e w3 ⟨rfl, hb3⟩
  simp only [ofVal]
  have hbel : Below w.heap.size w w3 := hbe2.trans (hb3.mono hbe2.size)
  have HK0 := Lib.hid ((hb3.block w.heap.size (blk_lt HK2.out)).trans HK2.out)
  have hlt3 := blk_lt HK0.out
  have HTb := Lib.hid (HT.out.later hbel)
  clear hb3
  go_wp2_with fail
  with_reducible refine (HP.out.call _ (HTb.out.alloc _)).mono ?_
  rintro e w4 ⟨rfl, hb4⟩
  have hbel4 : Below w.heap.size w w4 := (hbel.alloc hbel.size _).trans (hb4.mono (by have := hbel.size; simp; omega))
  have HK4 := Lib.hid ((hb4.block w.heap.size (by simp; omega)).trans ((Below.heap_alloc w3 _ _ hlt3).trans HK0.out))
  have HA4 := Lib.hid ((hb4.block w3.heap.size (by simp)).trans (heap_alloc_new w3 _))
  clear HK0 hbel hb4
  have HK0 := HK4
  have hbel := hbel4
  have a0 := (res_cells HA4.out).1
  have a1 := (res_cells HA4.out).2
  have d0 := (res_cells HK0.out).1
  have d1 := (res_cells HK0.out).2
  have e0 := blk_free HK0.out 0
  have e1 := blk_free HK0.out 1
  go_wp2_with fail
  clear a0 a1
  have hfin := blk_set (blk_set HK0.out 0 (.int .i64 0)) 1 (.int .u64 0)
  have hbf := (hbel.setCell (p := ⟨w.heap.size, 0, none⟩) (Nat.le_refl _) (.int .i64 0)).setCell (p := ⟨w.heap.size, 1, none⟩) (Nat.le_refl _) (.int .u64 0)
  clear d0 d1 e0 e1
  generalize (w4.setCell ⟨w.heap.size, 0, none⟩ (.int .i64 0)).setCell ⟨w.heap.size, 1, none⟩ (.int .u64 0) = wf at *
  have q0 : wf.cell? ⟨w.heap.size, 0, none⟩ = some (.int .i64 0) := blk_cell hfin 0
  have q1 : wf.cell? ⟨w.heap.size, 1, none⟩ = some (.int .u64 0) := blk_cell hfin 1
  exact bodyPost_ret (v := .tuple #[.agg #[.int .i64 0, .int .u64 0], .bool false]) (by simp [results, Tryd.results50, go_sem, q0, q1]) rfl ⟨rfl, hbf⟩

set_option maxHeartbeats 1000000 in
set_option maxRecDepth 100000 in
theorem parse_none_yes (s h r : ByteArray) (n : Int) (w : World) (HC : Hid (Ct s 58 (.tuple #[.string h, .string r, .bool false]))) (HN : Hid (Nm h n true)) (c : Nat) (HV : Hid (ofAll n [] = some c)) (HP : Hid (Pr n c s)) (HT : Hid (Tab w)) :
    Calls Tryd.prog 50 #[.string s] w fun e w' => e = .returned (.tuple #[lab n c, .bool true]) ∧ Below w.heap.size w w' := by
  go_enter Tryd.func50, Tryd.ntmps50
  go_wp2_with fail
  with_reducible refine (HC.out.call _).mono ?_
  rintro e w1 ⟨rfl, hb1⟩
  have HK1 := Lib.hid ((hb1.block w.heap.size (by simp)).trans (heap_alloc_new w _))
  have hbe1 : Below w.heap.size w w1 := ((Below.refl _ _).alloc (Nat.le_refl _) _).trans (hb1.mono (by simp))
  clear hb1
  go_wp2_with fail
  with_reducible refine (HN.out.call _).mono ?_
  rintro e w2 ⟨rfl, rfl⟩
  go_wp2_with fail
  have HK2 := HK1
  have hbe2 := hbe1
  have HO : Hid (Of n none 0 0 (ofVal n (ofAll n [])) w1) := Lib.hid (of_any n none 0 [] w1 (by simp [maxLen]) (fun h => absurd h (by simp)))
  rw [HV.out] at HO
  clear HK1 hbe1
  with_reducible refine (HO.out.call).mono ?_
  rintro e w3 ⟨rfl, hb3⟩
  simp only [ofVal]
  have hbel : Below w.heap.size w w3 := hbe2.trans (hb3.mono hbe2.size)
  have HK0 := Lib.hid ((hb3.block w.heap.size (blk_lt HK2.out)).trans HK2.out)
  have hlt3 := blk_lt HK0.out
  have HTb := Lib.hid (HT.out.later hbel)
  clear hb3
  go_wp2_with fail
  with_reducible refine (HP.out.call _ (HTb.out.alloc _)).mono ?_
  rintro e w4 ⟨rfl, hb4⟩
  have hbel4 : Below w.heap.size w w4 := (hbel.alloc hbel.size _).trans (hb4.mono (by have := hbel.size; simp; omega))
  have HK4 := Lib.hid ((hb4.block w.heap.size (by simp; omega)).trans ((Below.heap_alloc w3 _ _ hlt3).trans HK0.out))
  have HA4 := Lib.hid ((hb4.block w3.heap.size (by simp)).trans (heap_alloc_new w3 _))
  clear HK0 hbel hb4
  have HK0 := HK4
  have hbel := hbel4
  have a0 := (res_cells HA4.out).1
  have a1 := (res_cells HA4.out).2
  have d0 := (res_cells HK0.out).1
  have d1 := (res_cells HK0.out).2
  have e0 := blk_free HK0.out 0
  have e1 := blk_free HK0.out 1
  go_wp2_with fail
  clear a0 a1
  have hfin := blk_set (blk_set HK0.out 0 (.int .i64 n)) 1 (.int .u64 (c : Int))
  have hbf := (hbel.setCell (p := ⟨w.heap.size, 0, none⟩) (Nat.le_refl _) (.int .i64 n)).setCell (p := ⟨w.heap.size, 1, none⟩) (Nat.le_refl _) (.int .u64 (c : Int))
  clear d0 d1 e0 e1
  generalize (w4.setCell ⟨w.heap.size, 0, none⟩ (.int .i64 n)).setCell ⟨w.heap.size, 1, none⟩ (.int .u64 (c : Int)) = wf at *
  have q0 : wf.cell? ⟨w.heap.size, 0, none⟩ = some (.int .i64 n) := blk_cell hfin 0
  have q1 : wf.cell? ⟨w.heap.size, 1, none⟩ = some (.int .u64 (c : Int)) := blk_cell hfin 1
  exact bodyPost_ret (v := .tuple #[.agg #[.int .i64 n, .int .u64 (c : Int)], .bool true]) (by simp [results, Tryd.results50, go_sem, q0, q1]) rfl ⟨rfl, hbf⟩

end Go.Proofs.YtddakaeacgojmaaDoor.L

namespace Go.Proofs.YtddakaeacgojmaaDoor.L
open Go.RowKit
open T

theorem ofGo_small : ∀ (xs : List Int) (c d : Nat), c < 18446744073709551616 → ofGo xs c = some d → d < 18446744073709551616
  | [], c, d, hc, h => by simp [ofGo] at h; omega
  | x :: r, c, d, hc, h => by
    rw [ofGo] at h
    split at h
    · cases h
    · next hx => exact ofGo_small r _ d (or_small hc (Nat.pow_lt_pow_right (a := 2) (n := 64) (by omega) (by omega))) h
theorem ofAll_small {l : Int} {xs : List Int} {c : Nat} (h : ofAll l xs = some c) : c < 18446744073709551616 := by
  unfold ofAll at h
  split at h
  · exact ofGo_small xs 0 c (by omega) h
  · cases h
theorem parts_len (c : UInt8) : ∀ l cur : List UInt8, (partsGo c cur l).length ≤ l.length + 1
  | [], cur => by simp [partsGo]
  | x :: r, cur => by
    rw [partsGo]
    split
    · have := parts_len c r []; simp; omega
    · have := parts_len c r (cur ++ [x]); simp; omega
theorem numsOf_len : ∀ (ps : List (List UInt8)) (xs : List Nat), numsOf ps = some xs → xs.length = ps.length
  | [], xs, h => by simp [numsOf] at h; simp [← h]
  | p :: r, xs, h => by
    rw [numsOf, Option.bind_eq_some_iff] at h
    obtain ⟨n, _, h⟩ := h
    rw [Option.map_eq_some_iff] at h
    obtain ⟨ys, hy, rfl⟩ := h
    simp [numsOf_len r ys hy]
theorem nums_len {l : List UInt8} {xs : List Nat} (h : nums l = some xs) : xs.length ≤ l.length + 1 := by
  rw [numsOf_len _ _ h]; exact parts_len 44 l []

theorem pr_is (n : Nat) (c : Nat) (hn : n ≤ 2147483647) (hc : c < 18446744073709551616) : Pr n c ⟨(print n c).toArray⟩ := fun w ht => print_any n c w (by omega) (by omega) hc ht
theorem eta (s : ByteArray) : (⟨s.data.toList.toArray⟩ : ByteArray) = s := by cases s; simp
theorem str_ne {l : List UInt8} {s : ByteArray} (h : ¬ l = s.data.toList) : ((⟨l.toArray⟩ : ByteArray).toList == s.toList) = false := by
  rw [Lib.toList_data, Lib.toList_data]; exact beq_eq_false_iff_ne.2 h

theorem parse_any (s : ByteArray) (w : World) (hs : s.size ≤ 4194304) (ht : Tab w) :
    Calls Tryd.prog 50 #[.string s] w fun e w' => e = .returned (parseVal (parse s.data.toList)) ∧ Below w.heap.size w w' := by
  have hmx : s.size ≤ maxLen := by simp only [maxLen]; omega
  unfold parse
  cases hsp : split 58 s.data.toList with
  | none =>
    have HC := Lib.hid (ct_none hmx hsp)
    cases hnum : P.number s.data.toList with
    | none => exact parse_head s s _ false w HC (Lib.hid (nm_none hmx hnum))
    | some n =>
      have hn := (P.dec_number _ _ hnum).2
      have HN := Lib.hid (nm_some hmx hnum)
      show Calls _ _ _ _ fun e w' => e = .returned (parseVal (parseRest s.data.toList n (some []))) ∧ _
      unfold parseRest
      cases hof : ofAll n [] with
      | none =>
        have := parse_none_err s s _ n w HC HN (Lib.hid hof)
        simpa [hof, parseVal] using this
      | some c =>
        have hP := pr_is n c hn (ofAll_small hof)
        by_cases hp : print n c = s.data.toList
        · rw [hp, eta] at hP
          have := parse_none_yes s s _ n w HC HN c (Lib.hid hof) (Lib.hid hP) (Lib.hid ht)
          simpa [hof, hp, parseVal] using this
        · have := parse_none_not s s _ n w HC HN c _ (Lib.hid hof) (Lib.hid hP) (Lib.hid ht) (str_ne hp)
          simpa [hof, hp, parseVal] using this
  | some q =>
    obtain ⟨a, b⟩ := q
    have HC := Lib.hid (ct_some hmx hsp)
    have hsl := split_len hsp
    rw [← Lib.size_eq] at hsl
    have hma : (⟨a.toArray⟩ : ByteArray).size ≤ maxLen := by rw [size_list]; simp only [maxLen]; omega
    have hmb : (⟨b.toArray⟩ : ByteArray).size ≤ 4194304 := by rw [size_list]; omega
    cases hnum : P.number a with
    | none =>
      have := parse_head s ⟨a.toArray⟩ _ true w HC (Lib.hid (nm_none hma hnum))
      simpa [hnum, parseVal] using this
    | some n =>
      have hn := (P.dec_number _ _ hnum).2
      have HN := Lib.hid (nm_some (s := ⟨a.toArray⟩) hma hnum)
      cases hns : nums b with
      | none =>
        have := parse_nums s ⟨a.toArray⟩ ⟨b.toArray⟩ n w hmb HC HN (Lib.hid hns)
        simpa [hnum, hns, parseRest, parseVal] using this
      | some xs =>
        have hxl := nums_len hns
        have HX : Hid (xs.length ≤ maxLen) := Lib.hid (by simp only [maxLen]; omega)
        cases hof : ofAll n (xs.map fun x : Nat => (x : Int)) with
        | none =>
          have := parse_some_err s ⟨a.toArray⟩ ⟨b.toArray⟩ n xs w hmb HX HC HN (Lib.hid hns) (Lib.hid hof)
          simpa [hnum, hns, hof, parseRest, parseVal] using this
        | some c =>
          have hP := pr_is n c hn (ofAll_small hof)
          by_cases hp : print n c = s.data.toList
          · rw [hp, eta] at hP
            have := parse_some_yes s ⟨a.toArray⟩ ⟨b.toArray⟩ n xs w hmb HX HC HN (Lib.hid hns) c (Lib.hid hof) (Lib.hid hP) (Lib.hid ht)
            simpa [hnum, hns, hof, parseRest, hp, parseVal] using this
          · have := parse_some_not s ⟨a.toArray⟩ ⟨b.toArray⟩ n xs w hmb HX HC HN (Lib.hid hns) c _ (Lib.hid hof) (Lib.hid hP) (Lib.hid ht) (str_ne hp)
            simpa [hnum, hns, hof, parseRest, hp, parseVal] using this

theorem dec_digit (n : Nat) (h : n < 10) : P.decimal (n : Int) = [UInt8.ofNat (48 + n)] := by
  rw [P.decimal_in _ (by omega) (by omega), Int.toNat_natCast, Lib.decDigits_one h]
theorem print_live : print 3 129 = [51, 58, 48, 44, 55] := by
  have hc : catsTo 129 64 = [0, 7] := by decide
  unfold print
  rw [hc, if_neg (by simp)]
  unfold catsText Lib.join
  rw [show ((3 : Int)) = ((3 : Nat) : Int) from rfl, dec_digit 3 (by omega)]
  simp only [List.map_cons, List.map_nil]
  rw [dec_digit 0 (by omega), dec_digit 7 (by omega)]
  decide
theorem of_live : ofAll 3 [0, 7] = some 129 := by decide
theorem of_live2 : ofAll 3 [7, 0] = some 129 := by decide
theorem parse_live : parse [51, 58, 48, 44, 55] = some (3, 129) := by
  have h1 : split 58 [51, 58, 48, 44, 55] = some ([51], [48, 44, 55]) := by decide
  have h2 : P.number [51] = some 3 := by decide
  have h3 : nums [48, 44, 55] = some [0, 7] := by decide
  have h4 : ofAll ((3 : Nat) : Int) ([0, 7].map fun x : Nat => (x : Int)) = some 129 := of_live
  have h5 : print ((3 : Nat) : Int) 129 = [51, 58, 48, 44, 55] := print_live
  unfold parse
  rw [h1]
  simp only [h2, Option.bind_some, parseRest, h3, h4, h5, if_true]
theorem parse_dead : parse [51, 58, 55, 44, 48] = none := by
  have h1 : split 58 [51, 58, 55, 44, 48] = some ([51], [55, 44, 48]) := by decide
  have h2 : P.number [51] = some 3 := by decide
  have h3 : nums [55, 44, 48] = some [7, 0] := by decide
  have h4 : ofAll ((3 : Nat) : Int) ([7, 0].map fun x : Nat => (x : Int)) = some 129 := of_live2
  have h5 : print ((3 : Nat) : Int) 129 = [51, 58, 48, 44, 55] := print_live
  unfold parse
  rw [h1]
  simp only [h2, Option.bind_some, parseRest, h3, h4, h5]
  decide
end Go.Proofs.YtddakaeacgojmaaDoor.L

namespace Go.Proofs.YtddakaeacgojmaaDoor.L
open T

/-- Digits and the sign for a number that has no text. -/
theorem dec_no (n : Int) (c : UInt8) (hc : c = 58 ∨ c = 44) : ∀ x ∈ P.decimal n, x ≠ c := by
  have hd : ∀ u : Nat, ∀ x ∈ Lib.decDigits u, 48 ≤ x.toNat ∧ x.toNat ≤ 57 := by
    intro u
    induction u using Nat.strongRecOn with
    | ind u ih =>
      intro x hx
      rw [Lib.decDigits] at hx
      split at hx
      · next h =>
        rw [List.mem_singleton.1 hx, P.digit u h]; omega
      · next h =>
        rw [List.mem_append] at hx
        rcases hx with hx | hx
        · exact ih (u / 10) (by omega) x hx
        · rw [List.mem_singleton.1 hx, P.digit _ (by omega)]; omega
  intro x hx e
  subst e
  unfold P.decimal at hx
  split at hx
  · simp at hx; rcases hc with h | h <;> rw [hx] at h <;> exact absurd h (by decide)
  · have := hd _ x hx
    rcases hc with h | h <;> rw [h] at this <;> simp at this
theorem split_no {c : UInt8} : ∀ {l : List UInt8}, (∀ x ∈ l, x ≠ c) → split c l = none
  | [], _ => rfl
  | x :: r, h => by
    rw [split, if_neg (h x (by simp)), split_no (fun y hy => h y (by simp [hy]))]; rfl
theorem split_at {c : UInt8} : ∀ {l r : List UInt8}, (∀ x ∈ l, x ≠ c) → split c (l ++ c :: r) = some (l, r)
  | [], r, _ => by simp [split]
  | x :: t, r, h => by
    rw [List.cons_append, split, if_neg (h x (by simp)), split_at (fun y hy => h y (by simp [hy]))]; rfl
theorem nums_text : ∀ (xs : List Nat), xs ≠ [] → (∀ x ∈ xs, x ≤ 2147483647) → nums (catsText xs) = some xs
  | [x], _, h => by
    unfold catsText Lib.join
    simp only [List.map_cons, List.map_nil]
    have e : [44].intercalate [P.decimal (x : Int)] = P.decimal (x : Int) := by simp
    rw [e, nums_none (split_no (dec_no _ 44 (.inr rfl))), P.number_decimal _ (by omega) (by have := h x (by simp); omega)]
    simp
  | x :: y :: r, _, h => by
    have ih := nums_text (y :: r) (by simp) (fun z hz => h z (by simp [hz]))
    have e : catsText (x :: y :: r) = P.decimal (x : Int) ++ 44 :: catsText (y :: r) := by
      unfold catsText Lib.join
      rw [List.map_cons, List.map_cons, List.intercalate_cons_cons]
      simp
    rw [e, nums_some (split_at (dec_no _ 44 (.inr rfl))), P.number_decimal _ (by omega) (by have := h x (by simp); omega), ih]
    simp

/-- The categories put together again. -/
theorem ofGo_cats (xs : List Nat) : ∀ c, (∀ x ∈ xs, x < 64) → ofGo (xs.map fun x : Nat => (x : Int)) c = some (xs.foldl (fun a x => a ||| 2 ^ x) c) := by
  induction xs with
  | nil => intro c _; rfl
  | cons x r ih =>
    intro c h
    have hx := h x (by simp)
    rw [List.map_cons, ofGo, if_neg (by omega), Int.toNat_natCast, ih _ (fun y hy => h y (by simp [hy]))]
    rfl
theorem fold_bit (xs : List Nat) : ∀ (c i : Nat), (xs.foldl (fun a x => a ||| 2 ^ x) c).testBit i = (c.testBit i || decide (i ∈ xs)) := by
  induction xs with
  | nil => intro c i; simp
  | cons x r ih =>
    intro c i
    rw [List.foldl_cons, ih, Nat.testBit_or, Nat.testBit_two_pow]
    by_cases e : x = i
    · subst e; simp
    · have : ¬ i = x := fun h => e h.symm
      simp [e, this]
theorem cats_back (c : Nat) (hc : c < 18446744073709551616) : (catsTo c 64).foldl (fun a x => a ||| 2 ^ x) 0 = c := by
  apply Nat.eq_of_testBit_eq
  intro i
  rw [fold_bit]
  simp only [Nat.zero_testBit, Bool.false_or]
  unfold catsTo
  by_cases hi : i < 64
  · cases hb : c.testBit i with
    | true => simp [List.mem_filter, hi, hb]
    | false => simp [List.mem_filter, hb]
  · rw [Nat.testBit_lt_two_pow (Nat.lt_of_lt_of_le hc (Nat.pow_le_pow_right (n := 2) (by omega) (show 64 ≤ i by omega)))]
    simp [List.mem_filter]; omega
theorem cats_small (c : Nat) : ∀ x ∈ catsTo c 64, x < 64 := fun x hx => by
  unfold catsTo at hx
  rw [List.mem_filter, List.mem_range] at hx
  exact hx.1

theorem parse_print (l : Int) (c : Nat) (hc : c < 18446744073709551616) (h : rightB l = true) : parse (print l c) = some (l.toNat, c) := by
  have hr := h
  unfold rightB at h
  rw [Bool.and_eq_true, decide_eq_true_iff, decide_eq_true_iff] at h
  obtain ⟨n, rfl⟩ := Int.eq_ofNat_of_zero_le h.1
  have hnum : P.number (P.decimal (n : Int)) = some n := by
    have := P.number_decimal (n : Int) (by omega) (by omega)
    rwa [Int.toNat_natCast] at this
  have hof : ofAll (n : Int) ((catsTo c 64).map fun x : Nat => (x : Int)) = some c := by
    rw [ofAll, hr, if_pos rfl, ofGo_cats _ 0 (cats_small c), cats_back c hc]
  rw [Int.toNat_natCast]
  unfold parse
  by_cases he : catsTo c 64 = []
  · have hp : print (n : Int) c = P.decimal (n : Int) := by rw [print, if_pos he]
    have hsp : split 58 (print (n : Int) c) = none := by rw [hp]; exact split_no (dec_no _ 58 (.inl rfl))
    rw [he] at hof
    rw [hsp]
    show (P.number (print (n : Int) c)).bind _ = _
    rw [hp, hnum]
    show parseRest _ n (some []) = _
    rw [parseRest, Option.bind_some]
    simp only [hof, Option.bind_some]
    rw [← hp, if_pos rfl]
  · have hp : print (n : Int) c = P.decimal (n : Int) ++ 58 :: catsText (catsTo c 64) := by rw [print, if_neg he]; simp
    have hsp : split 58 (print (n : Int) c) = some (P.decimal (n : Int), catsText (catsTo c 64)) := by rw [hp]; exact split_at (dec_no _ 58 (.inl rfl))
    have hns := nums_text (catsTo c 64) he (fun x hx => by have := cats_small c x hx; omega)
    rw [hsp]
    show (P.number (P.decimal (n : Int))).bind _ = _
    rw [hnum]
    show parseRest _ n (nums (catsText (catsTo c 64))) = _
    rw [hns, parseRest, Option.bind_some, hof, Option.bind_some, if_pos rfl]

theorem parse_not (l : Int) (c : Nat) (h : rightB l = false) : parse (print l c) = none := by
  have key : ∀ (o : Option (List Nat)), (P.number (P.decimal l)).bind (fun n => parseRest (print l c) n o) = none := by
    intro o
    by_cases hl : l < 0 ∨ 2147483647 < l
    · rw [P.number_untold l hl]; rfl
    · obtain ⟨n, rfl⟩ := Int.eq_ofNat_of_zero_le (show 0 ≤ l by omega)
      have hnum := P.number_decimal (n : Int) (by omega) (by omega)
      rw [Int.toNat_natCast] at hnum
      rw [hnum, Option.bind_some, parseRest]
      cases o with
      | none => rfl
      | some xs =>
        rw [Option.bind_some, ofAll, h]; rfl
  unfold parse
  by_cases he : catsTo c 64 = []
  · have hp : print l c = P.decimal l := by rw [print, if_pos he]
    have hsp : split 58 (print l c) = none := by rw [hp]; exact split_no (dec_no _ 58 (.inl rfl))
    rw [hsp]
    have := key (some [])
    rwa [← hp] at this
  · have hp : print l c = P.decimal l ++ 58 :: catsText (catsTo c 64) := by rw [print, if_neg he]; simp
    have hsp : split 58 (print l c) = some (P.decimal l, catsText (catsTo c 64)) := by rw [hp]; exact split_at (dec_no _ 58 (.inl rfl))
    rw [hsp]
    exact key _
theorem print_parse {l : List UInt8} {n c : Nat} (h : parse l = some (n, c)) : print n c = l ∧ c < 18446744073709551616 ∧ n ≤ 15 := by
  have key : ∀ (m : Nat) (o : Option (List Nat)), parseRest l m o = some (n, c) → print n c = l ∧ c < 18446744073709551616 ∧ n ≤ 15 := by
    intro m o hr
    rw [parseRest, Option.bind_eq_some_iff] at hr
    obtain ⟨xs, _, hr⟩ := hr
    rw [Option.bind_eq_some_iff] at hr
    obtain ⟨c', hc', hr⟩ := hr
    split at hr
    · next hp =>
      injection hr with hr
      injection hr with h1 h2
      subst h1 h2
      refine ⟨hp, ofAll_small hc', ?_⟩
      unfold ofAll at hc'
      split at hc'
      · next hb => unfold rightB at hb; rw [Bool.and_eq_true, decide_eq_true_iff, decide_eq_true_iff] at hb; omega
      · cases hc'
    · cases hr
  unfold parse at h
  split at h
  · rw [Option.bind_eq_some_iff] at h
    obtain ⟨m, _, h⟩ := h
    exact key m _ h
  · rw [Option.bind_eq_some_iff] at h
    obtain ⟨m, _, h⟩ := h
    exact key m _ h
theorem print_len (l : Int) (c : Nat) : (print l c).length ≤ 1000 := by
  have h1 := P.decimal_length l
  have h2 := join_len (catsTo c 64)
  have h3 := catsTo_len c 64
  unfold print
  split
  · omega
  · simp; omega
end Go.Proofs.YtddakaeacgojmaaDoor.L

namespace Go.Proofs.YtddakaeacgojmaaDoor.Wr
set_option linter.unusedVariables false
set_option linter.unusedSimpArgs false
open T

def wds : List (List UInt8) :=
  [[],
   [108, 105, 115, 116],
   [108, 111, 103],
   [99, 97, 116],
   [108, 97, 98, 101, 108, 115],
   [100, 105, 102, 102],
   [112, 114, 101, 118, 105, 101, 119],
   [115, 117, 98, 109, 105, 116],
   [97, 117, 100, 105, 116],
   [105, 110, 103, 101, 115, 116],
   [101, 120, 112, 111, 114, 116],
   [114, 97, 110, 107]]
def sgs : List (List UInt8) :=
  [[],
   [],
   [70],
   [70, 65],
   [70, 65],
   [70, 65, 66, 67],
   [70, 65, 43],
   [70, 65, 43],
   [],
   [70, 43],
   [70],
   [70]]
def cds : List (List UInt8) :=
  [[111, 107],
   [110, 111, 116, 104, 105, 110, 103],
   [116, 111, 111, 45, 109, 117, 99, 104],
   [109, 97, 108, 102, 111, 114, 109, 101, 100],
   [116, 111, 111, 45, 108, 111, 110, 103],
   [98, 97, 100, 45, 108, 97, 98, 101, 108],
   [110, 111, 116, 45, 102, 111, 117, 110, 100],
   [101, 120, 105, 115, 116, 115],
   [109, 105, 115, 97, 112, 112, 108, 105, 101, 100],
   [102, 111, 114, 98, 105, 100, 100, 101, 110],
   [99, 111, 110, 102, 108, 105, 99, 116],
   [113, 117, 111, 116, 97],
   [100, 101, 110, 105, 101, 100],
   [97, 117, 100, 105, 116, 45, 102, 117, 108, 108],
   [110, 111, 45, 112, 111, 108, 105, 99, 121]]

def wrd (v : Int) : List UInt8 := if 0 ≤ v ∧ v < 12 then wds.getD v.toNat [] else []
def sg (v : Int) : List UInt8 := if 0 ≤ v ∧ v < 12 then sgs.getD v.toNat [] else []
def cod (e : Int) : List UInt8 := if 0 ≤ e ∧ e < 15 then cds.getD e.toNat [] else []

/-- The number that a row of texts gives to one of them: the first that is equal, counted from n on. -/
def fnd (x : List UInt8) : List (List UInt8) → Nat → Option Nat
  | [], _ => none
  | y :: r, n => if y = x then some n else fnd x r (n + 1)
def vrb (x : List UInt8) : Int := match fnd x (wds.drop 1) 1 with | some n => n | none => 0
def ern (x : List UInt8) : Option Nat := fnd x cds 0

structure Rq where
  vb : Int
  lv : Int
  ct : Nat
  fi : List UInt8
  a : Int
  b : Int
  c : Int
  bo : List UInt8

def isF (s : List UInt8) : Bool := P.name s && !decide (s = [45])

/-- What is named is asked, and taken out. -/
def okN (n : Int) : Bool := !(decide (n < 0) || decide (2147483647 < n))
def stp (r : Rq) (x : UInt8) : Option Rq :=
  if x = 70 then (if isF r.fi then some { r with fi := [] } else none)
  else if x = 43 then some { r with bo := [] }
  else if x = 65 then (if okN r.a then some { r with a := 0 } else none)
  else if x = 66 then (if okN r.b then some { r with b := 0 } else none)
  else (if okN r.c then some { r with c := 0 } else none)
def run : Rq → List UInt8 → Option Rq
  | r, [] => some r
  | r, x :: s => match stp r x with | some r' => run r' s | none => none
def zer (r : Rq) : Bool := decide (r.fi = []) && decide (r.a = 0) && decide (r.b = 0) && decide (r.c = 0) && decide (r.bo = [])
def nms (r : Rq) : Bool := match run r (sg r.vb) with | some r' => zer r' | none => false

def chk (r : Rq) : Int :=
  if wrd r.vb = [] ∨ L.rightB r.lv = false ∨ nms r = false then 3 else if 32768 < r.bo.length then 4 else 0

/-- The words of a request's line. -/
def wof (r : Rq) (x : UInt8) : List (List UInt8) :=
  if x = 70 then [r.fi] else if x = 65 then [P.decimal r.a] else if x = 66 then [P.decimal r.b] else if x = 67 then [P.decimal r.c] else []
def lws (r : Rq) : List (List UInt8) := wrd r.vb :: L.print r.lv r.ct :: (sg r.vb).flatMap (wof r)
def glu : List (List UInt8) → List UInt8
  | [] => []
  | [x] => x
  | x :: y :: r => x ++ 32 :: glu (y :: r)
def prn (r : Rq) : List UInt8 := glu (lws r) ++ 10 :: r.bo

/-- A word laid where its sign says. -/
def put (r : Rq) (x : UInt8) (w : List UInt8) : Option Rq :=
  if x = 70 then some { r with fi := w }
  else match P.number w with
    | none => none
    | some n => if x = 65 then some { r with a := n } else if x = 66 then some { r with b := n } else some { r with c := n }
def fil : Rq → List UInt8 → List (List UInt8) → Option Rq
  | r, [], [] => some r
  | _, [], _ :: _ => none
  | r, x :: s, ws => if x = 43 then fil r s ws else match ws with
    | [] => none
    | w :: t => match put r x w with | some r' => fil r' s t | none => none
def req : List (List UInt8) → Option Rq
  | w :: l :: t => match L.parse l with
    | some (lv, ct) => fil ⟨vrb w, lv, ct, [], 0, 0, 0, []⟩ (sg (vrb w)) t
    | none => none
  | _ => none

/-- The request of bytes, or the number of what is wrong. -/
def prs (b : List UInt8) : Rq ⊕ Int := match L.split 10 b with
  | none => .inr 3
  | some (h, t) => match req (P.words [] h) with
    | none => .inr 3
    | some r => if chk { r with bo := t } = 0 then .inl { r with bo := t } else .inr (chk { r with bo := t })

def ans (e : Int) (bo : List UInt8) : List UInt8 := cod e ++ 10 :: bo
def rd (b : List UInt8) : Option (Nat × List UInt8) := match L.split 10 b with
  | none => none
  | some (h, t) => match ern h with | some e => some (e, t) | none => none

/-! Facts of the tables. -/
theorem wds_len : wds.length = 12 := rfl
theorem sgs_len : sgs.length = 12 := rfl
theorem cds_len : cds.length = 15 := rfl
theorem wrd_at (k : Nat) (h : k < 12) : wrd k = wds[k]'h := by
  rw [wrd, if_pos ⟨by omega, by omega⟩]
  show wds.getD k [] = _
  rw [List.getD_eq_getElem?_getD, List.getElem?_eq_getElem (show k < wds.length from h), Option.getD_some]
  rfl
theorem sg_at (k : Nat) (h : k < 12) : sg k = sgs[k]'h := by
  rw [sg, if_pos ⟨by omega, by omega⟩]
  show sgs.getD k [] = _
  rw [List.getD_eq_getElem?_getD, List.getElem?_eq_getElem (show k < sgs.length from h), Option.getD_some]
  rfl
theorem cod_at (k : Nat) (h : k < 15) : cod k = cds[k]'h := by
  rw [cod, if_pos ⟨by omega, by omega⟩]
  show cds.getD k [] = _
  rw [List.getD_eq_getElem?_getD, List.getElem?_eq_getElem (show k < cds.length from h), Option.getD_some]
  rfl
theorem wrd_out (v : Int) (h : v < 0 ∨ 12 ≤ v) : wrd v = [] := by rw [wrd, if_neg (by omega)]
theorem sg_out (v : Int) (h : v < 0 ∨ 12 ≤ v) : sg v = [] := by rw [sg, if_neg (by omega)]
theorem cod_out (e : Int) (h : e < 0 ∨ 15 ≤ e) : cod e = [] := by rw [cod, if_neg (by omega)]

theorem wds_inj : ∀ j, (hj : j < 12) → ∀ k, (hk : k < 12) → wds[j]'hj = wds[k]'hk → j = k := by decide
theorem cds_inj : ∀ j, (hj : j < 15) → ∀ k, (hk : k < 15) → cds[j]'hj = cds[k]'hk → j = k := by decide
theorem wds_ne : ∀ j, (hj : j < 12) → 0 < j → wds[j]'hj ≠ [] := by decide
theorem cds_ne : ∀ j, (hj : j < 15) → cds[j]'hj ≠ [] := by decide
theorem cds_short : ∀ j, (hj : j < 15) → (cds[j]'hj).length ≤ 12 := by decide
theorem cds_line : ∀ j, (hj : j < 15) → ∀ x ∈ cds[j]'hj, x ≠ 10 := by decide
theorem sgs_in : ∀ j, (hj : j < 12) → ∀ x ∈ sgs[j]'hj, x = 70 ∨ x = 43 ∨ x = 65 ∨ x = 66 ∨ x = 67 := by decide
theorem sg_in (v : Int) : ∀ x ∈ sg v, x = 70 ∨ x = 43 ∨ x = 65 ∨ x = 66 ∨ x = 67 := by
  intro x hx
  by_cases h : 0 ≤ v ∧ v < 12
  · have e : v = ((v.toNat : Nat) : Int) := by omega
    rw [e, sg_at _ (by omega)] at hx
    exact sgs_in _ _ x hx
  · rw [sg, if_neg h] at hx; cases hx
theorem sgs_short : ∀ j, (hj : j < 12) → (sgs[j]'hj).length ≤ 4 := by decide
theorem sg_short (v : Int) : (sg v).length ≤ 4 := by
  by_cases h : 0 ≤ v ∧ v < 12
  · have e : v = ((v.toNat : Nat) : Int) := by omega
    rw [e, sg_at _ (by omega)]
    exact sgs_short _ _
  · rw [sg, if_neg h]; simp

theorem cod_inj {a b : Int} (hx : cod a ≠ []) (h : cod a = cod b) : a = b := by
  have ha : 0 ≤ a ∧ a < 15 := by
    apply Classical.byContradiction; intro hn; exact hx (by rw [cod, if_neg hn])
  have hb : 0 ≤ b ∧ b < 15 := by
    apply Classical.byContradiction; intro hn; rw [h] at hx; exact hx (by rw [cod, if_neg hn])
  have ea : a = ((a.toNat : Nat) : Int) := by omega
  have eb : b = ((b.toNat : Nat) : Int) := by omega
  rw [ea, eb, cod_at _ (by omega), cod_at _ (by omega)] at h
  have := cds_inj _ _ _ _ h
  omega
theorem wrd_inj {a b : Int} (hx : wrd a ≠ []) (h : wrd a = wrd b) : a = b := by
  have ha : 0 ≤ a ∧ a < 12 := by
    apply Classical.byContradiction; intro hn; exact hx (by rw [wrd, if_neg hn])
  have hb : 0 ≤ b ∧ b < 12 := by
    apply Classical.byContradiction; intro hn; rw [h] at hx; exact hx (by rw [wrd, if_neg hn])
  have ea : a = ((a.toNat : Nat) : Int) := by omega
  have eb : b = ((b.toNat : Nat) : Int) := by omega
  rw [ea, eb, wrd_at _ (by omega), wrd_at _ (by omega)] at h
  have := wds_inj _ _ _ _ h
  omega
theorem cod_in (a : Int) : cod a ≠ [] ↔ 0 ≤ a ∧ a ≤ 14 := by
  by_cases ha : 0 ≤ a ∧ a < 15
  · have ea : a = ((a.toNat : Nat) : Int) := by omega
    refine ⟨fun _ => by omega, fun _ => ?_⟩
    rw [ea, cod_at _ (by omega)]; exact cds_ne _ _
  · rw [cod, if_neg ha]; simp; omega
theorem wrd_in (a : Int) : wrd a ≠ [] ↔ 1 ≤ a ∧ a ≤ 11 := by
  by_cases ha : 0 ≤ a ∧ a < 12
  · have ea : a = ((a.toNat : Nat) : Int) := by omega
    rw [ea, wrd_at _ (by omega)]
    by_cases h0 : a = 0
    · subst h0; simp [wds]
    · exact ⟨fun _ => by omega, fun _ => wds_ne _ _ (by omega)⟩
  · rw [wrd, if_neg ha]; simp; omega

theorem fnd_none {x : List UInt8} : ∀ {l : List (List UInt8)} {n : Nat}, (∀ y ∈ l, y ≠ x) → fnd x l n = none
  | [], _, _ => rfl
  | y :: r, n, h => by rw [fnd, if_neg (h y (by simp)), fnd_none fun z hz => h z (by simp [hz])]
theorem ern_cod : ∀ k, (hk : k < 15) → ern (cds[k]'hk) = some k := by decide
theorem ern_nil : ern [] = none := by decide
theorem vrb_wrd : ∀ k, (hk : k < 12) → 0 < k → vrb (wds[k]'hk) = ((k : Nat) : Int) := by decide
theorem vrb_nil : vrb [] = 0 := by decide

/-- Read of Answer. -/
theorem rd_at (k : Nat) (hk : k < 15) (bo : List UInt8) : rd (ans k bo) = some (k, bo) := by
  unfold rd ans
  rw [cod_at k hk, L.split_at (cds_line k hk)]
  simp only [ern_cod k hk]
theorem rd_ans (e : Int) (h : 0 ≤ e ∧ e ≤ 14) (bo : List UInt8) : rd (ans e bo) = some (e.toNat, bo) := by
  obtain ⟨k, rfl⟩ := Int.eq_ofNat_of_zero_le h.1
  exact rd_at k (by omega) bo
theorem rd_out (e : Int) (h : e < 0 ∨ 14 < e) (bo : List UInt8) : rd (ans e bo) = none := by
  unfold rd ans
  rw [cod_out e (by omega), L.split_at (by simp)]
  simp only [ern_nil]

end Go.Proofs.YtddakaeacgojmaaDoor.Wr
