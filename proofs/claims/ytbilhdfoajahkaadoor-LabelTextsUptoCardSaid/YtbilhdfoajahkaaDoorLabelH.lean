/-
  The contract of label's numbers: for every text of at most 2^22 bytes.
-/
import Derived.Test.YtbilhdfoajahkaaDoorLabelG
namespace Go.Proofs.YtbilhdfoajahkaaDoor.L
open Go.RowKit
open T

def NumsPost (o : Option (List Nat)) (w : World) (e : Ending) (w' : World) : Prop :=
  (∃ xs v, o = some xs ∧ e = .returned (.tuple #[v, .bool true]) ∧ w'.ownsRow w.heap.size 3 1 v xs.length (intCells xs) ∧ Below w.heap.size w w') ∨
  (o = none ∧ e = .returned (.tuple #[.slice none 0 0, .bool false]) ∧ Below w.heap.size w w')

def Ct (s : ByteArray) (c : UInt8) (v : Value) : Prop := ∀ w : World, Calls Tryd.prog 55 #[.string s, .string ⟨#[c]⟩] w fun e w' => e = .returned v ∧ Below w.heap.size w w'
theorem Ct.call {s : ByteArray} {c : UInt8} {v : Value} (h : Ct s c v) (w : World) : Calls Tryd.prog 55 #[.string s, .string ⟨#[c]⟩] w fun e w' => e = .returned v ∧ Below w.heap.size w w' := h w
theorem ct_none {s : ByteArray} {c : UInt8} (hs : s.size ≤ maxLen) (h : split c s.data.toList = none) : Ct s c (.tuple #[.string s, .string ⟨#[]⟩, .bool false]) := fun w => by
  have := cutc s c w hs
  rw [h] at this
  simp only [cutVal] at this
  rwa [show (⟨s.data.toList.toArray⟩ : ByteArray) = s by cases s; simp] at this
theorem ct_some {s : ByteArray} {c : UInt8} {a b : List UInt8} (hs : s.size ≤ maxLen) (h : split c s.data.toList = some (a, b)) : Ct s c (.tuple #[.string ⟨a.toArray⟩, .string ⟨b.toArray⟩, .bool true]) := fun w => by
  have := cutc s c w hs
  rw [h] at this
  exact this
def Nm (s : ByteArray) (n : Int) (is : Bool) : Prop := ∀ w : World, Calls Tryd.prog 23 #[.string s] w fun e w' => e = .returned (.tuple #[.int .i64 n, .bool is]) ∧ w = w'
theorem Nm.call {s : ByteArray} {n : Int} {is : Bool} (h : Nm s n is) (w : World) : Calls Tryd.prog 23 #[.string s] w fun e w' => e = .returned (.tuple #[.int .i64 n, .bool is]) ∧ w = w' := h w
theorem nm_some {s : ByteArray} {n : Nat} (hs : s.size ≤ maxLen) (h : P.number s.data.toList = some n) : Nm s n true := fun w => by
  have := number_any s w hs
  rwa [h, numVal_some] at this
theorem nm_none {s : ByteArray} (hs : s.size ≤ maxLen) (h : P.number s.data.toList = none) : Nm s 0 false := fun w => by
  have := number_any s w hs
  rwa [h, numVal_none] at this
theorem size_list (l : List UInt8) : (⟨l.toArray⟩ : ByteArray).size = l.length := by simp [ByteArray.size]

def Rel (w : World) (s0 : ByteArray) (n : Nat) (sv v mv : Value) (wr : World) : Prop :=
  (∃ (s : ByteArray) (acc : List Nat), sv = .string s ∧ mv = .bool true ∧ acc.length + s.size ≤ s0.size ∧ s.size + 1 ≤ n ∧ wr.ownsRow w.heap.size 3 1 v acc.length (intCells acc) ∧ Below w.heap.size w wr ∧ nums s0.data.toList = (nums s.data.toList).map (acc ++ ·)) ∨
  (∃ (s : ByteArray) (acc : List Nat), sv = .string s ∧ mv = .bool false ∧ wr.ownsRow w.heap.size 3 1 v acc.length (intCells acc) ∧ Below w.heap.size w wr ∧ nums s0.data.toList = some acc)

theorem step_none {s0 s : ByteArray} {acc : List Nat} (hr : nums s0.data.toList = (nums s.data.toList).map (acc ++ ·)) (hsp : split 44 s.data.toList = none) (hn : P.number s.data.toList = none) : nums s0.data.toList = none := by
  rw [hr, nums_none hsp, hn]; rfl
theorem step_last {s0 s : ByteArray} {acc : List Nat} {n : Nat} (hr : nums s0.data.toList = (nums s.data.toList).map (acc ++ ·)) (hsp : split 44 s.data.toList = none) (hn : P.number s.data.toList = some n) : nums s0.data.toList = some (acc ++ [n]) := by
  rw [hr, nums_none hsp, hn]; rfl
theorem step_bad {s0 s : ByteArray} {acc : List Nat} {a b : List UInt8} (hr : nums s0.data.toList = (nums s.data.toList).map (acc ++ ·)) (hsp : split 44 s.data.toList = some (a, b)) (hn : P.number a = none) : nums s0.data.toList = none := by
  rw [hr, nums_some hsp, hn]; rfl
theorem step_more {s0 s : ByteArray} {acc : List Nat} {a b : List UInt8} {n : Nat} (hr : nums s0.data.toList = (nums s.data.toList).map (acc ++ ·)) (hsp : split 44 s.data.toList = some (a, b)) (hn : P.number a = some n) : nums s0.data.toList = (nums b).map ((acc ++ [n]) ++ ·) := by
  rw [hr, nums_some hsp, hn]
  cases nums b <;> simp

set_option maxHeartbeats 1000000 in
set_option maxRecDepth 100000 in
theorem numbers_any (s0 : ByteArray) (w : World) (hs0 : s0.size ≤ 4194304) :
    Calls Tryd.prog 56 #[.string s0] w (NumsPost (nums s0.data.toList) w) := by
  obtain ⟨i0, hi0, hz0, hz1, hz2⟩ := info_parts infoInt
  go_enter Tryd.func56, Tryd.ntmps56
  go_wp2_with fail
  go_loopg [0, 4, 5] (s0.size + 1) (fun n sv v mv wr => Rel w s0 n sv v mv wr)
  case atStart => exact .inl ⟨s0, [], rfl, rfl, by simp, Nat.le_refl _, ⟨by simp [intCells], .inl ⟨rfl, rfl⟩⟩, Below.refl _ _, by simp⟩
  case round =>
    rcases hrel with ⟨s, acc, rfl, rfl, hlen, hn, hown, hbel, hr⟩ | ⟨s, acc, rfl, rfl, hown, hbel, hr⟩
    · have HR := Lib.hid hr
      clear hr
      have hmx : s.size ≤ maxLen := by simp only [maxLen]; omega
      cases hsp : split 44 s.data.toList with
      | none =>
        have HC := Lib.hid (ct_none hmx hsp)
        cases hnum : P.number s.data.toList with
        | none =>
          have HN := Lib.hid (nm_none hmx hnum)
          have HF := Lib.hid (step_none HR.out hsp hnum)
          clear hsp hnum hmx
          go_wp2_with fail
          with_reducible refine (HC.out.call _).mono ?_
          rintro e w1 ⟨rfl, hb1⟩
          have hb01 : Below w.heap.size w w1 := hbel.trans (hb1.mono hbel.size)
          go_wp2_with fail
          with_reducible refine (HN.out.call _).mono ?_
          rintro e w2 ⟨rfl, rfl⟩
          go_wp2_with fail
          go_ret2
          exact .inr ⟨HF.out, rfl, hb01⟩
        | some x =>
          have HN := Lib.hid (nm_some hmx hnum)
          have HF := Lib.hid (step_last HR.out hsp hnum)
          clear hsp hnum hmx
          go_wp2_with fail
          with_reducible refine (HC.out.call _).mono ?_
          rintro e w1 ⟨rfl, hb1⟩
          have hb01 : Below w.heap.size w w1 := hbel.trans (hb1.mono hbel.size)
          have hown1 : w1.ownsRow w.heap.size 3 1 u4 acc.length (intCells acc) := hown.kept (row := none) ⟨hb1.os, hb1.tape, hb1.output, hb1.size, fun i hi _ => hb1.block i hi⟩ (by
            rcases hh : u4.ownBlock with _ | b
            · exact .inl rfl
            · exact .inr (by simp))
          clear hown
          go_wp2_with fail
          with_reducible refine (HN.out.call _).mono ?_
          rintro e w2 ⟨rfl, rfl⟩
          go_wp2_with (at_builtin; refine wpList_append_own _ rfl (.tmp 23) (.tmp 25) 46 rfl w.heap.size 3 i0 _ 1 8 Tryd.underlying46 hi0 hz0 hz1 hz2 rfl (by decide) _ acc.length (intCells acc) rfl ?ho ⟨w1.heap.size, 0, none⟩ 1 1 [.int .i64 (x : Int)] rfl rfl ?c1 ?c2 ?c3 ?c4 ?c5 ?_)
          case ho => exact hown1.alloc _
          case c1 => exact cell_one_new _ _ _
          case c2 => intro u hu; simp at hu; rcases hu with rfl; rfl
          case c3 => simp only [maxLen]; omega
          case c4 => omega
          case c5 => have := hb01.size; simp; omega
          intro v' w3 hown3 hg3 _
          have hb03 : Below w.heap.size w w3 := (hb01.alloc hb01.size _).grown hg3 (by have := hb01.size; simp; omega) (own_base hown1)
          rw [← intCells_snoc] at hown3
          have hl1 : (acc ++ [x]).length = acc.length + 1 := by simp
          rw [← hl1] at hown3
          clear hl1 hown1
          go_wp2_with fail
          go_roundg 0
          case measure => omega
          case rel => exact .inr ⟨_, acc ++ [x], rfl, rfl, hown3, hb03, HF.out⟩
      | some q =>
        obtain ⟨a, b⟩ := q
        have HC := Lib.hid (ct_some hmx hsp)
        have hsl := split_len hsp
        rw [← Lib.size_eq] at hsl
        have hma : (⟨a.toArray⟩ : ByteArray).size ≤ maxLen := by rw [size_list]; simp only [maxLen]; omega
        cases hnum : P.number a with
        | none =>
          have HN := Lib.hid (nm_none (s := ⟨a.toArray⟩) hma hnum)
          have HF := Lib.hid (step_bad HR.out hsp hnum)
          clear hsp hnum hmx hma
          go_wp2_with fail
          with_reducible refine (HC.out.call _).mono ?_
          rintro e w1 ⟨rfl, hb1⟩
          have hb01 : Below w.heap.size w w1 := hbel.trans (hb1.mono hbel.size)
          go_wp2_with fail
          with_reducible refine (HN.out.call _).mono ?_
          rintro e w2 ⟨rfl, rfl⟩
          go_wp2_with fail
          go_ret2
          exact .inr ⟨HF.out, rfl, hb01⟩
        | some x =>
          have HN := Lib.hid (nm_some (s := ⟨a.toArray⟩) hma hnum)
          have HF := Lib.hid (step_more HR.out hsp hnum)
          clear hsp hnum hmx hma
          go_wp2_with fail
          with_reducible refine (HC.out.call _).mono ?_
          rintro e w1 ⟨rfl, hb1⟩
          have hb01 : Below w.heap.size w w1 := hbel.trans (hb1.mono hbel.size)
          have hown1 : w1.ownsRow w.heap.size 3 1 u4 acc.length (intCells acc) := hown.kept (row := none) ⟨hb1.os, hb1.tape, hb1.output, hb1.size, fun i hi _ => hb1.block i hi⟩ (by
            rcases hh : u4.ownBlock with _ | b
            · exact .inl rfl
            · exact .inr (by simp))
          clear hown
          go_wp2_with fail
          with_reducible refine (HN.out.call _).mono ?_
          rintro e w2 ⟨rfl, rfl⟩
          go_wp2_with (at_builtin; refine wpList_append_own _ rfl (.tmp 23) (.tmp 25) 46 rfl w.heap.size 3 i0 _ 1 8 Tryd.underlying46 hi0 hz0 hz1 hz2 rfl (by decide) _ acc.length (intCells acc) rfl ?ho ⟨w1.heap.size, 0, none⟩ 1 1 [.int .i64 (x : Int)] rfl rfl ?c1 ?c2 ?c3 ?c4 ?c5 ?_)
          case ho => exact hown1.alloc _
          case c1 => exact cell_one_new _ _ _
          case c2 => intro u hu; simp at hu; rcases hu with rfl; rfl
          case c3 => simp only [maxLen]; omega
          case c4 => omega
          case c5 => have := hb01.size; simp; omega
          intro v' w3 hown3 hg3 _
          have hb03 : Below w.heap.size w w3 := (hb01.alloc hb01.size _).grown hg3 (by have := hb01.size; simp; omega) (own_base hown1)
          rw [← intCells_snoc] at hown3
          have hl1 : (acc ++ [x]).length = acc.length + 1 := by simp
          rw [← hl1] at hown3
          clear hl1 hown1
          go_wp2_with fail
          go_roundg (b.length + 1)
          case measure => omega
          case rel => exact .inl ⟨⟨b.toArray⟩, acc ++ [x], rfl, rfl, by rw [size_list]; simp; omega, by rw [size_list]; exact Nat.le_refl _, hown3, hb03, HF.out⟩
    · have HR := Lib.hid hr
      clear hr
      go_wp2_with fail
      go_ret2
      exact .inl ⟨acc, _, HR.out, rfl, hown, hbel⟩
end Go.Proofs.YtbilhdfoajahkaaDoor.L
