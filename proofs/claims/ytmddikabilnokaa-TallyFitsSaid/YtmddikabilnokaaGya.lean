/-
  Plain functions on lists of bytes and numbers that the walks of packages text and label are held against. Nothing of the program stands in it; no condition.
  The contract of text.Number: it returns, whatever text it is handed, what the plain function says, and leaves the world as it was.
  What the library's functions that this program calls come to, at this translation's numbers: each is one application of a theorem of the library over any program, under the conditions that it names.
  The contract of text.Decimal, where the library's table of powers of ten holds what its text lays.
  What the proofs of this program's rows share: the listed table read off a row's condition, the arguments read again behind a call that left what was there as it was, and a start for the witness.
  What the proofs of rows share that list no variable: the empty list, and a start for the witness.
  The contracts of label's bit, Right, Join, Meet and Below.
  An item, in plain words.
  Rows of a call's own: small facts.
  What a row of a call's own is, by its address and its cells.
  Items in memory, wherever they lie.
  Plain facts on the order of labels.
  What one sees of items, in plain words; what the reference's loops come to.
  The contract of label's Top.
  The contracts of label's Cats and Of.
  The contract of label's Of.
  The contracts of the reference's Has, Right and Below for labels.
  Rows of bytes in memory, and the contract of text.cut.
  The contracts of text.Words and text.Lines.
-/
import Derived.Lib.ItoaMem
import Derived.Test.YtmddikabilnokaaChecked
import Derived.WalkKit
import Derived.WalkSpells
import Derived.WalkLawsBesides
import Derived.Lib.Hide
import Derived.Lib.Strings
import Derived.Lib.RabinKarpLaws
import Derived.Outline
import Derived.Shelf.Small.Bits
import Derived.Shelf.Small.Wraps
import Derived.Shelf.Strconv.Itoa0
import Derived.Test.YtmddikabilnokaaProg
import Derived.Test.YtmddikabilnokaaRows
import Derived.ProofKit
import Derived.OpenShut
import Derived.Deep.DeepHandedRow
import Derived.Lib.LaidTab
import Derived.Stop.LaidErr
import Derived.Carry
import Derived.Laws.BitsAllLaws
import Derived.Laws.BitsLemmas
import Derived.Deep.RegionWith
import Derived.Deep.LoopGhost
import Derived.Deep.QuietTactic
import Derived.BigQuiet
import Derived.Laws.Rows
import Derived.Laws.BytesArg
import Derived.Lib.ConvBytes
namespace Go.Proofs.Ytmddikabilnokaa.P

/-- The digits of a list read on from n: none at the first byte that is no digit, or above 2^31 - 1. -/
def numGo : List UInt8 → Nat → Option Nat
  | [], n => some n
  | c :: r, n => if c.toNat < 48 ∨ 57 < c.toNat then none else if 2147483647 < 10 * n + (c.toNat - 48) then none else numGo r (10 * n + (c.toNat - 48))
/-- A text's number. -/
def number (l : List UInt8) : Option Nat := if l = [] ∨ (l.head? = some 48 ∧ 1 < l.length) then none else numGo l 0
/-- May a text be a name? -/
def name (l : List UInt8) : Bool := decide (1 ≤ l.length) && decide (l.length ≤ 64) && l.all fun c => decide (33 ≤ c.toNat) && decide (c.toNat ≤ 126)

theorem numGo_bad {l : List UInt8} {n k : Nat} (hk : k < l.length) (h : l[k].toNat < 48 ∨ 57 < l[k].toNat) : numGo (l.drop k) n = none := by
  rw [List.drop_eq_getElem_cons hk, numGo, if_pos h]
theorem numGo_big {l : List UInt8} {n k : Nat} (hk : k < l.length) (h : ¬ (l[k].toNat < 48 ∨ 57 < l[k].toNat)) (hb : 2147483647 < 10 * n + (l[k].toNat - 48)) : numGo (l.drop k) n = none := by
  rw [List.drop_eq_getElem_cons hk, numGo, if_neg h, if_pos hb]
theorem numGo_on {l : List UInt8} {n k : Nat} (hk : k < l.length) (h : ¬ (l[k].toNat < 48 ∨ 57 < l[k].toNat)) (hb : ¬ 2147483647 < 10 * n + (l[k].toNat - 48)) :
    numGo (l.drop k) n = numGo (l.drop (k + 1)) (10 * n + (l[k].toNat - 48)) := by
  rw [List.drop_eq_getElem_cons hk, numGo, if_neg h, if_neg hb]
theorem numGo_end {l : List UInt8} {n : Nat} : numGo (l.drop l.length) n = some n := by simp [numGo]
/-- A number's text. -/
def decimal (n : Int) : List UInt8 := if n < 0 ∨ 2147483647 < n then [63] else Lib.decDigits n.toNat
/-- The lines of bytes: what of the open line was read, and what is left; each line with whether it is bare. -/
def lines : List UInt8 → List UInt8 → List (List UInt8 × Bool)
  | cur, [] => if cur = [] then [] else [(cur, true)]
  | cur, c :: r => if c = 10 then (cur, false) :: lines [] r else lines (cur ++ [c]) r
/-- The parts of a text between blanks. -/
def words : List UInt8 → List UInt8 → List (List UInt8)
  | cur, [] => [cur]
  | cur, c :: r => if c = 32 then cur :: words [] r else words (cur ++ [c]) r
end Go.Proofs.Ytmddikabilnokaa.P

namespace Go.Proofs.Ytmddikabilnokaa.T
open Go.RowKit

def numVal (o : Option Nat) : Value := match o with
  | some n => .tuple #[.int .i64 n, .bool true]
  | none => .tuple #[.int .i64 0, .bool false]
theorem numVal_none : numVal none = .tuple #[.int .i64 0, .bool false] := rfl
theorem numVal_some (n : Nat) : numVal (some n) = .tuple #[.int .i64 n, .bool true] := rfl

theorem ret_of {a b : Value} (h : a = b) : Ending.returned a = .returned b := by rw [h]

theorem byte (s : ByteArray) (k : Nat) (hk : k < s.size) (h : k < s.data.toList.length) : s.data.toList[k] = s[k]'hk := by
  rw [Array.getElem_toList]; rfl
theorem num_bad (s : ByteArray) (k n : Nat) (hk : k < s.size) (h : (s[k].toNat : Int) < 48 ∨ 57 < (s[k].toNat : Int)) : P.numGo (s.data.toList.drop k) n = none := by
  have hl : k < s.data.toList.length := by rw [← Lib.size_eq]; exact hk
  refine P.numGo_bad hl ?_
  rw [byte s k hk hl]; omega
theorem num_big (s : ByteArray) (k n : Nat) (hk : k < s.size) (h1 : 48 ≤ (s[k].toNat : Int)) (h2 : (s[k].toNat : Int) ≤ 57) (hb : (2147483647 - ((s[k].toNat : Int) - 48)) / 10 < (n : Int)) : P.numGo (s.data.toList.drop k) n = none := by
  have hl : k < s.data.toList.length := by rw [← Lib.size_eq]; exact hk
  refine P.numGo_big hl ?_ ?_ <;> rw [byte s k hk hl] <;> omega
theorem num_on (s : ByteArray) (k n : Nat) (hk : k < s.size) (h1 : 48 ≤ (s[k].toNat : Int)) (h2 : (s[k].toNat : Int) ≤ 57) (hb : (n : Int) ≤ (2147483647 - ((s[k].toNat : Int) - 48)) / 10) :
    P.numGo (s.data.toList.drop k) n = P.numGo (s.data.toList.drop (k + 1)) (10 * n + (s[k].toNat - 48)) ∧ 10 * n + (s[k].toNat - 48) ≤ 2147483647 := by
  have hl : k < s.data.toList.length := by rw [← Lib.size_eq]; exact hk
  have e := byte s k hk hl
  refine ⟨?_, by omega⟩
  rw [P.numGo_on hl (by rw [e]; omega) (by rw [e]; omega), e]
theorem num_end (s : ByteArray) (n : Nat) : P.numGo (s.data.toList.drop s.size) n = some n := by
  rw [Lib.size_eq]; exact P.numGo_end

theorem number_nil (s : ByteArray) (h : s.size = 0) : P.number s.data.toList = none := by
  have : s.data.toList = [] := List.eq_nil_of_length_eq_zero (by rw [← Lib.size_eq]; exact h)
  rw [P.number, if_pos (.inl this)]
theorem number_zero (s : ByteArray) (h : 1 < s.size) (h0 : s[0].toNat = 48) : P.number s.data.toList = none := by
  have hl : 0 < s.data.toList.length := by rw [← Lib.size_eq]; omega
  rw [P.number, if_pos]
  refine .inr ⟨?_, by rw [← Lib.size_eq]; exact h⟩
  rw [List.head?_eq_getElem?, List.getElem?_eq_getElem hl, byte s 0 (by omega) hl]
  congr 1
  exact UInt8.toNat_inj.1 h0
theorem number_go (s : ByteArray) (h : 0 < s.size) (h0 : s.size = 1 ∨ ¬ s[0].toNat = 48) : P.number s.data.toList = P.numGo s.data.toList 0 := by
  have hl : 0 < s.data.toList.length := by rw [← Lib.size_eq]; omega
  rw [P.number, if_neg]
  rintro (e | ⟨e, e2⟩)
  · rw [e] at hl; simp at hl
  · rw [← Lib.size_eq] at e2
    rw [List.head?_eq_getElem?, List.getElem?_eq_getElem hl, byte s 0 (by omega) hl] at e
    rcases h0 with h0 | h0
    · omega
    · apply h0; injection e with e; rw [e]; rfl

end Go.Proofs.Ytmddikabilnokaa.T

namespace Go.Proofs
open Go.Shelf
def Try.lays128_ren : Go.Shelf.Ren := ⟨fun | 128 => 44 | n => n, fun | 51 => 76 | 3 => 3 | 4 => 4 | 46 => 66 | 5 => 5 | 9 => 9 | n => n, fun | n => n⟩
theorem Try.lays128 : Go.Proofs.Lays.n128 Try.prog Try.lays128_ren := {
  mixed := by kernel_rfl
  f128 := Try.func44.trans (congrArg some (by kernel_rfl))
  t3 := Try.underlying3
  a3 := Try.isAgg3
  z3 := Try.sizeOf3
  v3 := Try.zeroValue3
  t4 := Try.underlying4
  a4 := Try.isAgg4
  z4 := Try.sizeOf4
  v4 := Try.zeroValue4
  t5 := Try.underlying5
  a5 := Try.isAgg5
  z5 := Try.sizeOf5
  v5 := Try.zeroValue5
  t9 := Try.underlying9
  a9 := Try.isAgg9
  z9 := Try.sizeOf9
  v9 := Try.zeroValue9
  t46 := Try.underlying66
  a46 := Try.isAgg66
  z46 := Try.sizeOf66
  v46 := Try.zeroValue66
  t51 := Try.underlying76
  a51 := Try.isAgg76
  z51 := Try.sizeOf76
  v51 := Try.zeroValue76 }
theorem Try.bits_Len32 (x : Int) (w : World) (h0 : 0 ≤ x) (h1 : x ≤ 4294967295) :
    Calls Try.prog 44 #[.int .u32 x] w fun e w' => e = .returned (.int .i64 (Lib.bitLen x.toNat)) ∧ w' = w := Any.bits_Len32 Try.lays128 x w h0 h1
def Try.lays125_ren : Go.Shelf.Ren := ⟨fun | 125 => 35 | 128 => 44 | 129 => 45 | n => n, fun | 46 => 66 | 3 => 3 | 51 => 76 | 53 => 23 | 4 => 4 | 5 => 5 | 9 => 9 | n => n, fun | n => n⟩
theorem Try.lays125 : Go.Proofs.Lays.n125 Try.prog Try.lays125_ren := {
  mixed := by kernel_rfl
  f125 := Try.func35.trans (congrArg some (by kernel_rfl))
  f128 := Try.func44.trans (congrArg some (by kernel_rfl))
  f129 := Try.func45.trans (congrArg some (by kernel_rfl))
  t3 := Try.underlying3
  a3 := Try.isAgg3
  z3 := Try.sizeOf3
  v3 := Try.zeroValue3
  t4 := Try.underlying4
  a4 := Try.isAgg4
  z4 := Try.sizeOf4
  v4 := Try.zeroValue4
  t5 := Try.underlying5
  a5 := Try.isAgg5
  z5 := Try.sizeOf5
  v5 := Try.zeroValue5
  t9 := Try.underlying9
  a9 := Try.isAgg9
  z9 := Try.sizeOf9
  v9 := Try.zeroValue9
  t46 := Try.underlying66
  a46 := Try.isAgg66
  z46 := Try.sizeOf66
  v46 := Try.zeroValue66
  t51 := Try.underlying76
  a51 := Try.isAgg76
  z51 := Try.sizeOf76
  v51 := Try.zeroValue76
  t53 := Try.underlying23
  a53 := Try.isAgg23
  z53 := Try.sizeOf23
  v53 := Try.zeroValue23 }
theorem Try.bits_Len (x : Int) (w : World) (h0 : 0 ≤ x) (h1 : x ≤ 18446744073709551615) :
    Calls Try.prog 35 #[.int .u64 x] w fun e w' => e = .returned (.int .i64 (Lib.bitLen x.toNat)) ∧ w' = w := Any.bits_Len Try.lays125 x w h0 h1
def Try.lays215_ren : Go.Shelf.Ren := ⟨fun | 215 => 31 | n => n, fun | 3 => 3 | 4 => 4 | n => n, fun | n => n⟩
theorem Try.lays215 : Go.Proofs.Lays.n215 Try.prog Try.lays215_ren := {
  mixed := by kernel_rfl
  f215 := Try.func31.trans (congrArg some (by kernel_rfl))
  t3 := Try.underlying3
  a3 := Try.isAgg3
  z3 := Try.sizeOf3
  v3 := Try.zeroValue3
  t4 := Try.underlying4
  a4 := Try.isAgg4
  z4 := Try.sizeOf4
  v4 := Try.zeroValue4 }
open Go.RowKit in
theorem Try.cmp_isNaN_int (x : Int) (w : World) :
    Calls Try.prog 31 #[.int .i64 x] w fun e w' => e = .returned (.bool false) ∧ w' = w := Any.cmp_isNaN_int Try.lays215 x w
def Try.lays122_ren : Go.Shelf.Ren := ⟨fun | 122 => 25 | 215 => 31 | n => n, fun | 3 => 3 | 4 => 4 | n => n, fun | n => n⟩
theorem Try.lays122 : Go.Proofs.Lays.n122 Try.prog Try.lays122_ren := {
  mixed := by kernel_rfl
  f122 := Try.func25.trans (congrArg some (by kernel_rfl))
  f215 := Try.func31.trans (congrArg some (by kernel_rfl))
  t3 := Try.underlying3
  a3 := Try.isAgg3
  z3 := Try.sizeOf3
  v3 := Try.zeroValue3
  t4 := Try.underlying4
  a4 := Try.isAgg4
  z4 := Try.sizeOf4
  v4 := Try.zeroValue4 }
open Go.RowKit in
theorem Try.cmp_Compare_int (x y : Int) (w : World) :
    Calls Try.prog 25 #[.int .i64 x, .int .i64 y] w fun e w' => e = .returned (.int .i64 (Lib.compareInt x y)) ∧ w' = w := Any.cmp_Compare_int Try.lays122 x y w
def Try.lays129_ren : Go.Shelf.Ren := ⟨fun | 129 => 45 | n => n, fun | 53 => 23 | 3 => 3 | 4 => 4 | 46 => 66 | 5 => 5 | 9 => 9 | n => n, fun | n => n⟩
theorem Try.lays129 : Go.Proofs.Lays.n129 Try.prog Try.lays129_ren := {
  mixed := by kernel_rfl
  f129 := Try.func45.trans (congrArg some (by kernel_rfl))
  t3 := Try.underlying3
  a3 := Try.isAgg3
  z3 := Try.sizeOf3
  v3 := Try.zeroValue3
  t4 := Try.underlying4
  a4 := Try.isAgg4
  z4 := Try.sizeOf4
  v4 := Try.zeroValue4
  t5 := Try.underlying5
  a5 := Try.isAgg5
  z5 := Try.sizeOf5
  v5 := Try.zeroValue5
  t9 := Try.underlying9
  a9 := Try.isAgg9
  z9 := Try.sizeOf9
  v9 := Try.zeroValue9
  t46 := Try.underlying66
  a46 := Try.isAgg66
  z46 := Try.sizeOf66
  v46 := Try.zeroValue66
  t53 := Try.underlying23
  a53 := Try.isAgg23
  z53 := Try.sizeOf23
  v53 := Try.zeroValue23 }
theorem Try.bits_Len64 (x : Int) (w : World) (h0 : 0 ≤ x) (h1 : x ≤ 18446744073709551615) :
    Calls Try.prog 45 #[.int .u64 x] w fun e w' => e = .returned (.int .i64 (Lib.bitLen x.toNat)) ∧ w' = w := Any.bits_Len64 Try.lays129 x w h0 h1
end Go.Proofs

namespace Go.Proofs.Ytmddikabilnokaa.T
open Go.RowKit

/-- The library's table of powers of ten, as it was laid. -/
def Tab (w : World) : Prop := Lib.TabIs Try.prog w "internal/strconv.uint64pow10" .u64 Lib.pow10Tab
theorem below_grow (w : World) (k : Nat) (os : Array Obj) : Below w.heap.size w (Sort.grow (w.drewN k) os) :=
  ⟨rfl, rfl, rfl, by simp [Sort.grow], fun i hi => by simp only [Sort.grow]; rw [Array.getElem?_append_left (by simpa using hi)]; rfl⟩

end Go.Proofs.Ytmddikabilnokaa.T

namespace Go.Proofs.Ytmddikabilnokaa.R
open Go.ChangeShapes Go.WideShapes Go.ChangeAt Go.RowKit

theorem own : ownKnob Try.prog.godebug = none := by kernel_rfl
theorem laidOut : laidOutB Try.prog = true := by kernel_rfl


theorem cellsU64 : Try.prog.cellsOf 23 = 1 := by kernel_rfl
/-- Arguments of types that can be read, read again behind a call that left all that was there as it was. -/
theorem again {H : Type} {enc : TypeId × Value → H} {W W' : World} (hb : Below W.heap.size W W') :
    ∀ {ts : List TypeId} {vs : List Value} {ds : List (DataW H)} {p : List MemPlace}, (∀ t ∈ ts, Try.prog.readableRec t = true ∧ t < Try.prog.types.size) →
      DataW.TrodAll enc Try.prog W 0 (fun _ => true) true ts vs ds p → (∀ x ∈ p, x.block < W.heap.size) →
      DataW.TrodAll enc Try.prog W' 0 (fun b => decide (b < W.heap.size)) true ts vs ds p
  | [], vs, ds, p, _, h, _ => by
    obtain ⟨rfl, rfl, rfl⟩ := trodAll_nil h
    exact trodAll_mk0
  | t :: ts, vs, ds, p, hr, h, hlt => by
    obtain ⟨v0, vs0, d0, ds0, p0, q0, rfl, rfl, rfl, h0, r0⟩ := trodAll_cons h
    exact trodAll_cons_mk (Below.trod laidOut (hr t (by simp)).1 (hr t (by simp)).2 h0 hb (fun x hx => hlt x (by simp [hx])))
      (again hb (fun u hu => hr u (by simp [hu])) r0 (fun x hx => hlt x (by simp [hx])))

/-- A block's cells put in place. -/
def fill (cs : List Value) : Obj → Obj
  | .cells _ t frozen => .cells cs.toArray t frozen
  | o => o
def nums32 : List Int := [0, 1, 28, 2, 29, 14, 24, 3, 30, 22, 20, 15, 25, 17, 4, 8, 31, 27, 13, 23, 21, 19, 16, 7, 26, 12, 18, 6, 11, 5, 10, 9]
def nums64 : List Int := [0, 1, 56, 2, 57, 49, 28, 3, 61, 58, 42, 50, 38, 29, 17, 4, 62, 47, 59, 36, 45, 43, 51, 22, 53, 39, 33, 30, 24, 18, 12, 5, 63, 55, 48, 27, 60, 41, 37, 16, 46, 35, 44, 21, 52, 32, 23, 11, 54, 26, 40, 15, 34, 20, 31, 10, 25, 14, 19, 9, 13, 8, 7, 6]
end Go.Proofs.Ytmddikabilnokaa.R

namespace Go.Proofs.Ytmddikabilnokaa.R
open Go.ChangeShapes Go.WideShapes Go.ChangeAt Go.RowKit

abbrev listed : List (String × DataW Unit) := []
noncomputable def laidWorld (os : Os) : World := World.holding Try.prog os ⟨#[], #[], []⟩
end Go.Proofs.Ytmddikabilnokaa.R

namespace Go.Proofs.Ytmddikabilnokaa.L
open Go.RowKit
open T

/-- A label's value: its level and its categories. -/
abbrev lab (l : Int) (c : Nat) : Value := .agg #[.int .i64 l, .int .u64 (c : Int)]

/-- May a label be? -/
def rightB (l : Int) : Bool := decide (0 ≤ l) && decide (l ≤ 15)
theorem three (w : World) (a b c : Obj) : Below w.heap.size w (((w.alloc a).alloc b).alloc c) :=
  (((Below.refl _ _).alloc (Nat.le_refl _) _).alloc (by simp) _).alloc (by simp; omega) _
/-- Does one label lie below the other? -/
def belowB (l : Int) (c : Nat) (m : Int) (d : Nat) : Bool := decide (l ≤ m) && (c ||| d == d)
theorem bcell {W w1 : World} (hb : Below W.heap.size W w1) (b o : Nat) (h : b < W.heap.size) : w1.cell? ⟨b, o, none⟩ = W.cell? ⟨b, o, none⟩ := hb.cell (p := ⟨b, o, none⟩) h
theorem two_drew (w w' : World) (a b : Obj) (hb : Below ((w.alloc a).alloc b).drew.heap.size ((w.alloc a).alloc b).drew w') : Below w.heap.size w w' :=
  ((((Below.refl _ _).alloc (Nat.le_refl _) _).alloc (by simp) _).drew).trans (hb.mono (by simp; omega))
end Go.Proofs.Ytmddikabilnokaa.L

namespace Go.Proofs.Ytmddikabilnokaa.I
set_option linter.unusedVariables false
set_option linter.unusedSimpArgs false
/-- A label; an item. -/
abbrev Lb := Int × Nat
structure It where
  id : Int
  lv : Int
  ct : Nat
  an : Bool
  tx : List UInt8
  ba : Bool
deriving DecidableEq
def It.lb (x : It) : Lb := (x.lv, x.ct)
end Go.Proofs.Ytmddikabilnokaa.I

namespace Go.Proofs.Ytmddikabilnokaa.T
open Go.RowKit

theorem own_base {w : World} {base : Nat} {e : TypeId} {size n : Nat} {v : Value} {xs : List Value} (h : w.ownsRow base e size v n xs) : ∀ k, v.ownBlock = some k → base ≤ k := by
  intro k hk
  rcases h.2 with ⟨rfl, _⟩ | ⟨g, cap, cur, rfl, hg, _⟩
  · simp [Value.ownBlock] at hk
  · simp [Value.ownBlock] at hk; omega

theorem own_more {w : World} {base base' : Nat} {e : TypeId} {size n : Nat} {v : Value} {xs : List Value} (h : w.ownsRow base e size v n xs) (hb : base' ≤ base) : w.ownsRow base' e size v n xs := by
  refine ⟨h.1, ?_⟩
  rcases h.2 with hv | ⟨g, cap, cur, hv, hg, hr⟩
  · exact .inl hv
  · exact .inr ⟨g, cap, cur, hv, Nat.le_trans hb hg, hr⟩

theorem infoStr : (Try.prog.info? 9).map (fun i => (i.zero, i.size, i.bytes)) = some (some (.string ⟨#[]⟩), 1, 16) := by kernel_rfl
end Go.Proofs.Ytmddikabilnokaa.T

namespace Go.Proofs.Ytmddikabilnokaa.T
open Go.RowKit

theorem own_form {w : World} {base : Nat} {e : TypeId} {size n : Nat} {v : Value} {xs : List Value} (h : w.ownsRow base e size v n xs) :
    ∃ A cap, v = .slice A n cap ∧ n ≤ cap ∧ (0 < n → ∃ g, A = some ⟨g, 0, none⟩ ∧ base ≤ g ∧ g < w.heap.size ∧ ∀ j u, xs[j]? = some u → w.cell? ⟨g, j, none⟩ = some u) := by
  rcases h.2 with ⟨rfl, rfl⟩ | ⟨g, cap, cur, rfl, hg, hh, hnc, _, _, hx⟩
  · exact ⟨none, 0, rfl, Nat.le_refl _, fun h => absurd h (by omega)⟩
  · refine ⟨_, cap, rfl, hnc, fun _ => ⟨g, rfl, hg, ?_, fun j u hu => ?_⟩⟩
    · rcases Nat.lt_or_ge g w.heap.size with hlt | hge
      · exact hlt
      · rw [Array.getElem?_eq_none hge] at hh; cases hh
    · rw [← hx] at hu
      have hu' : cur.toList[j]? = some u := by
        rw [List.getElem?_take] at hu
        split at hu
        · exact hu
        · cases hu
      simp [World.cell?, hh]
      simpa using hu'
end Go.Proofs.Ytmddikabilnokaa.T

namespace Go.Proofs.Ytmddikabilnokaa.I
set_option linter.unusedVariables false
set_option linter.unusedSimpArgs false
open Go.RowKit
open T

theorem infoItem : (Try.prog.info? 44).map (fun i => (i.zero, i.size, i.bytes)) = some (some (.agg #[.int .i64 0, .int .i64 0, .int .u64 0, .bool false, .string ⟨#[]⟩, .bool false]), 6, 56) := by kernel_rfl
/-- The cells of items. -/
def itCells (xs : List It) : List Value := xs.flatMap fun x => [.int .i64 x.id, .int .i64 x.lv, .int .u64 (x.ct : Int), .bool x.an, .string ⟨x.tx.toArray⟩, .bool x.ba]
theorem itCells_snoc (xs : List It) (x : It) : itCells (xs ++ [x]) = itCells xs ++ [.int .i64 x.id, .int .i64 x.lv, .int .u64 (x.ct : Int), .bool x.an, .string ⟨x.tx.toArray⟩, .bool x.ba] := by simp [itCells]
theorem alloc1 (W : World) (o : Obj) : Below W.heap.size W (W.alloc o) := (Below.refl _ _).alloc (Nat.le_refl _) o
/-- A row of items in memory: six cells each, from an address on. -/
def ItemsAt (w : World) (bk off : Nat) (xs : List It) : Prop :=
  ∀ j (h : j < xs.length), w.cell? ⟨bk, off + j * 6, none⟩ = some (.int .i64 xs[j].id) ∧ w.cell? ⟨bk, off + j * 6 + 1, none⟩ = some (.int .i64 xs[j].lv) ∧ w.cell? ⟨bk, off + j * 6 + 2, none⟩ = some (.int .u64 (xs[j].ct : Int)) ∧ w.cell? ⟨bk, off + j * 6 + 3, none⟩ = some (.bool xs[j].an) ∧ w.cell? ⟨bk, off + j * 6 + 4, none⟩ = some (.string ⟨xs[j].tx.toArray⟩) ∧ w.cell? ⟨bk, off + j * 6 + 5, none⟩ = some (.bool xs[j].ba)
/-- A slice's items, wherever it lies. -/
def ItemsIn (w : World) (A : Option Addr) (xs : List It) : Prop :=
  0 < xs.length → ∃ bk off, A = some ⟨bk, off, none⟩ ∧ bk < w.heap.size ∧ ItemsAt w bk off xs
theorem ItemsAt.below {w w' : World} {bk off B : Nat} {xs : List It} (h : ItemsAt w bk off xs) (hb : Below B w w') (hB : bk < B) : ItemsAt w' bk off xs := fun j hj => by
  obtain ⟨h0, h1, h2, h3, h4, h5⟩ := h j hj
  exact ⟨(hb.cell (p := ⟨bk, _, none⟩) hB).trans h0, (hb.cell (p := ⟨bk, _, none⟩) hB).trans h1, (hb.cell (p := ⟨bk, _, none⟩) hB).trans h2, (hb.cell (p := ⟨bk, _, none⟩) hB).trans h3, (hb.cell (p := ⟨bk, _, none⟩) hB).trans h4, (hb.cell (p := ⟨bk, _, none⟩) hB).trans h5⟩
theorem ItemsIn.below {w w' : World} {A : Option Addr} {xs : List It} (h : ItemsIn w A xs) (hb : Below w.heap.size w w') : ItemsIn w' A xs := fun hp => by
  obtain ⟨bk, off, e, hlt, hl⟩ := h hp
  exact ⟨bk, off, e, Nat.lt_of_lt_of_le hlt hb.size, hl.below hb hlt⟩
theorem itCells_at : ∀ (xs : List It) (j : Nat) (h : j < xs.length), (itCells xs)[j * 6]? = some (.int .i64 xs[j].id) ∧ (itCells xs)[j * 6 + 1]? = some (.int .i64 xs[j].lv) ∧ (itCells xs)[j * 6 + 2]? = some (.int .u64 (xs[j].ct : Int)) ∧ (itCells xs)[j * 6 + 3]? = some (.bool xs[j].an) ∧ (itCells xs)[j * 6 + 4]? = some (.string ⟨xs[j].tx.toArray⟩) ∧ (itCells xs)[j * 6 + 5]? = some (.bool xs[j].ba)
  | x :: r, 0, _ => by simp [itCells]
  | x :: r, j + 1, h => by
    have ih := itCells_at r j (by simpa using h)
    have e : itCells (x :: r) = .int .i64 x.id :: .int .i64 x.lv :: .int .u64 (x.ct : Int) :: .bool x.an :: .string ⟨x.tx.toArray⟩ :: .bool x.ba :: itCells r := by simp [itCells]
    rw [e, show (j + 1) * 6 = j * 6 + 1 + 1 + 1 + 1 + 1 + 1 by omega]
    simpa using ih
theorem items_of_own {w : World} {base : Nat} {v : Value} {xs : List It} (h : w.ownsRow base 44 6 v xs.length (itCells xs)) :
    ∃ A cap, v = .slice A xs.length cap ∧ ItemsIn w A xs := by
  obtain ⟨A, cap, hv, hc, hA⟩ := own_form h
  refine ⟨A, cap, hv, fun hp => ?_⟩
  obtain ⟨g, rfl, _, hlt, hcells⟩ := hA hp
  refine ⟨g, 0, rfl, hlt, fun j hj => ?_⟩
  obtain ⟨h0, h1, h2, h3, h4, h5⟩ := itCells_at xs j hj
  rw [Nat.zero_add]
  exact ⟨hcells _ _ h0, hcells _ _ h1, hcells _ _ h2, hcells _ _ h3, hcells _ _ h4, hcells _ _ h5⟩
theorem items_cells {w wr : World} {bk off B k : Nat} {xs : List It} (h : ItemsAt w bk off xs) (hb : Below B w wr) (hB : bk < B) (hk : k < xs.length) :
    wr.cell? ⟨bk, off + k * 6, none⟩ = some (.int .i64 xs[k].id) ∧ wr.cell? ⟨bk, off + k * 6 + 1, none⟩ = some (.int .i64 xs[k].lv) ∧ wr.cell? ⟨bk, off + k * 6 + 2, none⟩ = some (.int .u64 (xs[k].ct : Int)) ∧ wr.cell? ⟨bk, off + k * 6 + 3, none⟩ = some (.bool xs[k].an) ∧ wr.cell? ⟨bk, off + k * 6 + 4, none⟩ = some (.string ⟨xs[k].tx.toArray⟩) ∧ wr.cell? ⟨bk, off + k * 6 + 5, none⟩ = some (.bool xs[k].ba) := h.below hb hB k hk
/-- What of items a call may rely on. -/
structure ItemsOk (l : List It) : Prop where
  len : l.length ≤ maxLen
  tx : ∀ x ∈ l, x.tx.length ≤ maxLen
  ct : ∀ x ∈ l, x.ct < 18446744073709551616
theorem items_own {w : World} {base : Nat} {A : Option Addr} {cap : Nat} {xs : List It} (h : w.ownsRow base 44 6 (.slice A xs.length cap) xs.length (itCells xs)) : ItemsIn w A xs := by
  obtain ⟨A', cap', hv, hI⟩ := items_of_own h
  injection hv with e1
  subst e1
  exact hI
theorem own_at {w : World} {base : Nat} {e : TypeId} {size n cap : Nat} {A : Option Addr} {xs : List Value} (h : w.ownsRow base e size (.slice A n cap) n xs) (hn : 0 < n) :
    ∃ g, A = some ⟨g, 0, none⟩ ∧ base ≤ g ∧ g < w.heap.size ∧ ∀ j u, xs[j]? = some u → w.cell? ⟨g, j, none⟩ = some u := by
  obtain ⟨A', cap', hv, _, hA⟩ := own_form h
  obtain ⟨g, hg, r⟩ := hA hn
  exact ⟨g, by rw [← hg]; exact (Value.slice.inj hv).1, r⟩
theorem own_below {w w' : World} {base : Nat} {e : TypeId} {size n : Nat} {v : Value} {xs : List Value} (h : w.ownsRow base e size v n xs) (hb : Below w.heap.size w w') : w'.ownsRow base e size v n xs := by
  refine h.kept (row := none) ⟨hb.os, hb.tape, hb.output, hb.size, fun k hk _ => hb.block k hk⟩ ?_
  cases v.ownBlock with
  | none => exact .inl rfl
  | some k => exact .inr (by simp)
end Go.Proofs.Ytmddikabilnokaa.I

namespace Go.Proofs.Ytmddikabilnokaa.L

theorem sub_iff (c d : Nat) : c ||| d = d ↔ ∀ i, c.testBit i = true → d.testBit i = true := by
  constructor
  · intro h i hi
    rw [← h, Nat.testBit_or, hi]; rfl
  · intro h
    apply Nat.eq_of_testBit_eq
    intro i
    rw [Nat.testBit_or]
    cases hb : c.testBit i with
    | false => simp
    | true => rw [h i hb]; rfl
theorem below_iff (l m : Int) (c d : Nat) : belowB l c m d = true ↔ l ≤ m ∧ ∀ i, c.testBit i = true → d.testBit i = true := by
  unfold belowB
  rw [Bool.and_eq_true, decide_eq_true_iff, beq_iff_eq, sub_iff]
theorem below_meet (n l m : Int) (e c d : Nat) (h : belowB n e l c = true) : belowB n e m d = belowB n e (min l m) (c &&& d) := by
  rw [below_iff] at h
  rw [Bool.eq_iff_iff, below_iff, below_iff]
  constructor
  · rintro ⟨h1, h2⟩
    exact ⟨by omega, fun i hi => by rw [Nat.testBit_and, h.2 i hi, h2 i hi]; rfl⟩
  · rintro ⟨h1, h2⟩
    refine ⟨by omega, fun i hi => ?_⟩
    have := h2 i hi
    rw [Nat.testBit_and, Bool.and_eq_true] at this
    exact this.2
theorem below_join (l m n : Int) (c d e : Nat) : belowB (max l m) (c ||| d) n e = (belowB l c n e && belowB m d n e) := by
  rw [Bool.eq_iff_iff, Bool.and_eq_true, below_iff, below_iff, below_iff]
  constructor
  · rintro ⟨h1, h2⟩
    exact ⟨⟨by omega, fun i hi => h2 i (by rw [Nat.testBit_or, hi]; rfl)⟩, by omega, fun i hi => h2 i (by rw [Nat.testBit_or, hi, Bool.or_true])⟩
  · rintro ⟨⟨h1, h2⟩, h3, h4⟩
    refine ⟨by omega, fun i hi => ?_⟩
    rw [Nat.testBit_or, Bool.or_eq_true] at hi
    rcases hi with hi | hi
    · exact h2 i hi
    · exact h4 i hi
theorem and_of_or (c d : Nat) : c ||| d = d ↔ c &&& d = c := by
  rw [sub_iff]
  constructor
  · intro h
    apply Nat.eq_of_testBit_eq
    intro i
    rw [Nat.testBit_and]
    cases hb : c.testBit i with
    | false => rfl
    | true => rw [h i hb]; rfl
  · intro h i hi
    rw [← h, Nat.testBit_and, Bool.and_eq_true] at hi
    exact hi.2
theorem below_refl (l : Int) (c : Nat) : belowB l c l c = true := (below_iff _ _ _ _).2 ⟨Int.le_refl _, fun _ h => h⟩
theorem below_trans {l m n : Int} {c d e : Nat} (h : belowB l c m d = true) (h' : belowB m d n e = true) : belowB l c n e = true := by
  rw [below_iff] at h h' ⊢
  exact ⟨Int.le_trans h.1 h'.1, fun i hi => h'.2 i (h.2 i hi)⟩
theorem below_anti {l m : Int} {c d : Nat} (h : belowB l c m d = true) (h' : belowB m d l c = true) : l = m ∧ c = d := by
  rw [below_iff] at h h'
  refine ⟨Int.le_antisymm h.1 h'.1, Nat.eq_of_testBit_eq fun i => ?_⟩
  cases hb : c.testBit i with
  | true => rw [h.2 i hb]
  | false =>
    cases hd : d.testBit i with
    | true => rw [h'.2 i hd] at hb; cases hb
    | false => rfl
theorem below_j1 (l m : Int) (c d : Nat) : belowB l c (max l m) (c ||| d) = true := (below_iff _ _ _ _).2 ⟨by omega, fun i hi => by rw [Nat.testBit_or, hi]; rfl⟩
theorem below_j2 (l m : Int) (c d : Nat) : belowB m d (max l m) (c ||| d) = true := (below_iff _ _ _ _).2 ⟨by omega, fun i hi => by rw [Nat.testBit_or, hi, Bool.or_true]⟩
theorem below_m1 (l m : Int) (c d : Nat) : belowB (min l m) (c &&& d) l c = true := (below_iff _ _ _ _).2 ⟨by omega, fun i hi => by rw [Nat.testBit_and, Bool.and_eq_true] at hi; exact hi.1⟩
theorem below_m2 (l m : Int) (c d : Nat) : belowB (min l m) (c &&& d) m d = true := (below_iff _ _ _ _).2 ⟨by omega, fun i hi => by rw [Nat.testBit_and, Bool.and_eq_true] at hi; exact hi.2⟩
theorem below_bot {l : Int} (c : Nat) (h : 0 ≤ l) : belowB 0 0 l c = true := (below_iff _ _ _ _).2 ⟨h, fun i hi => by simp at hi⟩
theorem below_top {l : Int} {c : Nat} (h : l ≤ 15) (hc : c < 18446744073709551616) : belowB l c 15 18446744073709551615 = true := by
  refine (below_iff _ _ _ _).2 ⟨h, fun i hi => ?_⟩
  have hi64 : i < 64 := by
    rcases Nat.lt_or_ge i 64 with h | h
    · exact h
    · rw [Nat.testBit_lt_two_pow (Nat.lt_of_lt_of_le hc (Nat.pow_le_pow_right (n := 2) (by omega) h))] at hi
      cases hi
  rw [show 18446744073709551615 = 2 ^ 64 - 1 by rfl, Nat.testBit_two_pow_sub_one]
  simpa using hi64
end Go.Proofs.Ytmddikabilnokaa.L

namespace Go.Proofs.Ytmddikabilnokaa.V
set_option linter.unusedVariables false
set_option linter.unusedSimpArgs false
open I (It Lb)

/-- Does a label's reader see an item? -/
def sees (o : Lb) (x : It) : Bool := L.belowB x.lv x.ct o.1 o.2
def cut (o : Lb) (l : List It) : List It := l.filter (sees o)
/-- The places of the items that are seen, counted from a number on. -/
def ats (o : Lb) : Nat → List It → List Nat
  | _, [] => []
  | k, x :: r => if sees o x = true then k :: ats o (k + 1) r else ats o (k + 1) r
def txt (h : List UInt8) (x : It) : List UInt8 := if x.an = true then h else x.tx
/-- Lines of items: none is Bare but the last one. -/
def lns (h : List UInt8) : List It → List (List UInt8 × Bool)
  | [] => []
  | [x] => [(txt h x, x.ba)]
  | x :: y :: r => (txt h x, false) :: lns h (y :: r)
/-- The place of the last item that is seen. -/
def lst (o : Lb) : Nat → Int → List It → Int
  | _, z, [] => z
  | k, z, x :: r => lst o (k + 1) (if sees o x = true then (k : Int) else z) r
/-- The lines as the reference makes them, the last one's place being known. -/
def rln (o : Lb) (h : List UInt8) (last : Int) : Nat → List It → List (List UInt8 × Bool)
  | _, [] => []
  | k, x :: r => if sees o x = true then (txt h x, decide ((k : Int) = last) && x.ba) :: rln o h last (k + 1) r else rln o h last (k + 1) r
theorem cut_snoc (o : Lb) (l : List It) (x : It) : cut o (l ++ [x]) = cut o l ++ (if sees o x = true then [x] else []) := by
  unfold cut
  rw [List.filter_append]
  congr 1
  by_cases h : sees o x = true <;> simp [h]
theorem ats_snoc (o : Lb) (x : It) : ∀ (l : List It) (k : Nat), ats o k (l ++ [x]) = ats o k l ++ (if sees o x = true then [k + l.length] else [])
  | [], k => by simp [ats]
  | y :: r, k => by
    rw [List.cons_append, ats, ats, ats_snoc o x r (k + 1), List.length_cons, show k + 1 + r.length = k + (r.length + 1) by omega]
    split <;> rfl
theorem lst_snoc (o : Lb) (x : It) : ∀ (l : List It) (k : Nat) (z : Int), lst o k z (l ++ [x]) = if sees o x = true then ((k + l.length : Nat) : Int) else lst o k z l
  | [], k, z => by simp [lst]
  | y :: r, k, z => by
    rw [List.cons_append, lst, lst, lst_snoc o x r (k + 1), List.length_cons, show k + 1 + r.length = k + (r.length + 1) by omega]
theorem rln_snoc (o : Lb) (h : List UInt8) (last : Int) (x : It) : ∀ (l : List It) (k : Nat), rln o h last k (l ++ [x]) = rln o h last k l ++ (if sees o x = true then [(txt h x, decide (((k + l.length : Nat) : Int) = last) && x.ba)] else [])
  | [], k => by simp [rln]
  | y :: r, k => by
    rw [List.cons_append, rln, rln, rln_snoc o h last x r (k + 1), List.length_cons, show k + 1 + r.length = k + (r.length + 1) by omega]
    split <;> rfl
theorem lst_none (o : Lb) : ∀ (l : List It) (k : Nat) (z : Int), cut o l = [] → lst o k z l = z
  | [], _, _, _ => rfl
  | x :: r, k, z, h => by
    by_cases hx : sees o x = true
    · simp [cut, hx] at h
    · rw [lst, if_neg hx]
      exact lst_none o r (k + 1) z (by simpa [cut, hx] using h)
theorem lst_some (o : Lb) : ∀ (l : List It) (k : Nat) (z : Int), cut o l ≠ [] → (k : Int) ≤ lst o k z l
  | [], _, _, h => absurd rfl h
  | x :: r, k, z, h => by
    rw [lst]
    by_cases hr : cut o r = []
    · rw [lst_none o r _ _ hr]
      by_cases hx : sees o x = true
      · rw [if_pos hx]; exact Int.le_refl _
      · exact absurd (by simpa [cut, hx] using hr) h
    · have := lst_some o r (k + 1) (if sees o x = true then (k : Int) else z) hr
      omega
theorem rln_is (o : Lb) (h : List UInt8) : ∀ (l : List It) (k : Nat) (z : Int), z < (k : Int) → rln o h (lst o k z l) k l = lns h (cut o l)
  | [], _, _, _ => rfl
  | x :: r, k, z, hz => by
    rw [rln, lst]
    by_cases hx : sees o x = true
    · rw [if_pos hx, if_pos hx, rln_is o h r (k + 1) k (by omega)]
      have hc : cut o (x :: r) = x :: cut o r := by simp [cut, hx]
      rw [hc]
      by_cases hr : cut o r = []
      · rw [lst_none o r _ _ hr, hr, decide_eq_true rfl, Bool.true_and]; rfl
      · have := lst_some o r (k + 1) (k : Int) hr
        rw [decide_eq_false (by omega), Bool.false_and]
        cases hq : cut o r with
        | nil => exact absurd hq hr
        | cons y q => rfl
    · rw [if_neg hx, if_neg hx, rln_is o h r (k + 1) z (by omega)]
      have hc : cut o (x :: r) = cut o r := by simp [cut, hx]
      rw [hc]
theorem ats_length (o : Lb) : ∀ (l : List It) (k : Nat), (ats o k l).length = (cut o l).length
  | [], _ => rfl
  | x :: r, k => by
    rw [ats]
    by_cases hx : sees o x = true
    · rw [if_pos hx, List.length_cons, ats_length o r (k + 1)]; simp [cut, hx]
    · rw [if_neg hx, ats_length o r (k + 1)]; simp [cut, hx]
theorem lns_length (h : List UInt8) : ∀ l : List It, (lns h l).length = l.length
  | [] => rfl
  | [_] => rfl
  | _ :: y :: r => by rw [lns, List.length_cons, lns_length h (y :: r)]; rfl
theorem lns_text (h : List UInt8) : ∀ l : List It, (lns h l).map (·.1) = l.map (txt h)
  | [] => rfl
  | [_] => rfl
  | _ :: y :: r => by rw [lns, List.map_cons, lns_text h (y :: r)]; rfl
theorem lns_bare (h : List UInt8) : ∀ (l : List It) (j : Nat) (hj : j < (lns h l).length) (hj' : j < l.length), (lns h l)[j].2 = (decide (j + 1 = l.length) && l[j].ba)
  | [x], 0, _, _ => by simp [lns]
  | x :: y :: r, 0, _, _ => by simp [lns]
  | x :: y :: r, j + 1, hj, hj' => by
    have := lns_bare h (y :: r) j (by simpa [lns] using hj) (by simpa using hj')
    simp only [lns, List.getElem_cons_succ, List.length_cons] at this ⊢
    rw [this]
    congr 1
    simp
/-- The lines while items are gone through, none being Bare yet. -/
def bln (h : List UInt8) (l : List It) : List (List UInt8 × Bool) := l.map fun x => (txt h x, false)
theorem lns_snoc (h : List UInt8) (x : It) : ∀ l : List It, lns h (l ++ [x]) = bln h l ++ [(txt h x, x.ba)]
  | [] => rfl
  | [_] => rfl
  | y :: z :: r => by
    have := lns_snoc h x (z :: r)
    simp only [List.cons_append] at this ⊢
    rw [lns, this]
    rfl
theorem cut_cut (o : Lb) (l : List It) : cut o (cut o l) = cut o l := by simp [cut, List.filter_filter]
theorem sees_join (o m : Lb) (x : It) (h : sees o x = true) : sees (max o.1 m.1, o.2 ||| m.2) x = true := L.below_trans h (L.below_j1 _ _ _ _)
/-- What a place tells. -/
theorem ats_get (o : Lb) : ∀ (l : List It) (k j : Nat) (hj : j < (ats o k l).length), ∃ hi : (ats o k l)[j] - k < l.length, k ≤ (ats o k l)[j] ∧ sees o l[(ats o k l)[j] - k] = true ∧ (cut o l)[j]? = some l[(ats o k l)[j] - k]
  | [], _, _, hj => by simp [ats] at hj
  | x :: r, k, j, hj => by
    by_cases hx : sees o x = true
    · have e : ats o k (x :: r) = k :: ats o (k + 1) r := by rw [ats, if_pos hx]
      have hc : cut o (x :: r) = x :: cut o r := by simp [cut, hx]
      cases j with
      | zero => simp only [e, hc, List.getElem_cons_zero, Nat.sub_self]; exact ⟨by simp, Nat.le_refl _, hx, rfl⟩
      | succ j =>
        simp only [e, hc, List.getElem_cons_succ]
        obtain ⟨hi, h1, h2, h3⟩ := ats_get o r (k + 1) j (by rw [e] at hj; simpa using hj)
        have e2 : (ats o (k + 1) r)[j]'(by rw [e] at hj; simpa using hj) - k = ((ats o (k + 1) r)[j]'(by rw [e] at hj; simpa using hj) - (k + 1)) + 1 := by omega
        refine ⟨by rw [e2]; simpa using hi, by omega, ?_, ?_⟩
        · simp only [e2, List.getElem_cons_succ]; exact h2
        · simp only [e2, List.getElem_cons_succ, List.getElem?_cons_succ]; exact h3
    · have e : ats o k (x :: r) = ats o (k + 1) r := by rw [ats, if_neg hx]
      have hc : cut o (x :: r) = cut o r := by simp [cut, hx]
      simp only [e, hc]
      obtain ⟨hi, h1, h2, h3⟩ := ats_get o r (k + 1) j (by rw [e] at hj; exact hj)
      have e2 : (ats o (k + 1) r)[j]'(by rw [e] at hj; exact hj) - k = ((ats o (k + 1) r)[j]'(by rw [e] at hj; exact hj) - (k + 1)) + 1 := by omega
      refine ⟨by rw [e2]; simpa using hi, by omega, ?_, ?_⟩
      · simp only [e2, List.getElem_cons_succ]; exact h2
      · simp only [e2, List.getElem_cons_succ]; exact h3
theorem ats_ge (o : Lb) : ∀ (l : List It) (k : Nat), ∀ a ∈ ats o k l, k ≤ a
  | [], _, _, h => by simp [ats] at h
  | x :: r, k, a, h => by
    rw [ats] at h
    split at h
    · rcases List.mem_cons.1 h with rfl | h
      · exact Nat.le_refl _
      · have := ats_ge o r (k + 1) a h; omega
    · have := ats_ge o r (k + 1) a h; omega
/-- The places rise. -/
theorem ats_rise (o : Lb) : ∀ (l : List It) (k : Nat), (ats o k l).Pairwise (· < ·)
  | [], _ => .nil
  | x :: r, k => by
    rw [ats]
    split
    · exact List.pairwise_cons.2 ⟨fun a h => by have := ats_ge o r (k + 1) a h; omega, ats_rise o r (k + 1)⟩
    · exact ats_rise o r (k + 1)
theorem ats_lt (o : Lb) {l : List It} {k i j : Nat} (hj : j < (ats o k l).length) (hij : i < j) : (ats o k l)[i]'(by omega) < (ats o k l)[j] :=
  List.pairwise_iff_getElem.1 (ats_rise o l k) i j (by omega) hj hij
/-- Who reads more sees each place, too. -/
theorem ats_more (o m : Lb) : ∀ (l : List It) (k : Nat), ∀ a ∈ ats o k l, a ∈ ats (max o.1 m.1, o.2 ||| m.2) k l
  | [], _, _, h => h
  | x :: r, k, a, h => by
    rw [ats] at h ⊢
    by_cases hx : sees o x = true
    · rw [if_pos hx] at h
      rw [if_pos (sees_join o m x hx)]
      rcases List.mem_cons.1 h with rfl | h
      · exact List.mem_cons_self
      · exact List.mem_cons_of_mem _ (ats_more o m r (k + 1) a h)
    · rw [if_neg hx] at h
      have := ats_more o m r (k + 1) a h
      split
      · exact List.mem_cons_of_mem _ this
      · exact this
/-- What lies ahead of where an item is put in, to stand ahead of line k, is seen as k lines. -/
theorem cut_ahead (o : Lb) : ∀ (l : List It) (s k : Nat) (hk : k < (ats o s l).length), cut o (l.take ((ats o s l)[k] - s + 1)) = (cut o l).take (k + 1)
  | [], _, _, hk => by simp [ats] at hk
  | x :: r, s, k, hk => by
    by_cases hx : sees o x = true
    · have e : ats o s (x :: r) = s :: ats o (s + 1) r := by rw [ats, if_pos hx]
      have hc : ∀ q, cut o (x :: q) = x :: cut o q := fun q => by simp [cut, hx]
      cases k with
      | zero => simp only [e, List.getElem_cons_zero, Nat.sub_self, Nat.zero_add, List.take_succ_cons, List.take_zero, hc]; rfl
      | succ k =>
        have hk' : k < (ats o (s + 1) r).length := by rw [e] at hk; simpa using hk
        have hg := (ats_get o r (s + 1) k hk').2.1
        have ih := cut_ahead o r (s + 1) k hk'
        simp only [e, List.getElem_cons_succ]
        rw [show (ats o (s + 1) r)[k] - s + 1 = ((ats o (s + 1) r)[k] - (s + 1) + 1) + 1 by omega, List.take_succ_cons, hc, hc, ih, List.take_succ_cons]
    · have e : ats o s (x :: r) = ats o (s + 1) r := by rw [ats, if_neg hx]
      have hc : ∀ q, cut o (x :: q) = cut o q := fun q => by simp [cut, hx]
      have hk' : k < (ats o (s + 1) r).length := by rw [e] at hk; exact hk
      have hg := (ats_get o r (s + 1) k hk').2.1
      have ih := cut_ahead o r (s + 1) k hk'
      simp only [e]
      rw [show (ats o (s + 1) r)[k] - s + 1 = ((ats o (s + 1) r)[k] - (s + 1) + 1) + 1 by omega, List.take_succ_cons, hc, hc, ih]
end Go.Proofs.Ytmddikabilnokaa.V

namespace Go.Proofs.Ytmddikabilnokaa.L
open Go.RowKit
open T

theorem blk_cell {w : World} {g : Nat} {t : TypeId} {cs : Array Value} (h : w.heap[g]? = some (.cells cs t (0, 0))) (i : Nat) : w.cell? ⟨g, i, none⟩ = cs[i]? := cell_of_row w g i cs t (0, 0) h
theorem blk_free {w : World} {g : Nat} {t : TypeId} {cs : Array Value} (h : w.heap[g]? = some (.cells cs t (0, 0))) (i : Nat) : w.frozen? ⟨g, i, none⟩ = false := by simp [World.frozen?, h]
theorem blk_set {w : World} {g : Nat} {t : TypeId} {cs : Array Value} (h : w.heap[g]? = some (.cells cs t (0, 0))) (i : Nat) (u : Value) : (w.setCell ⟨g, i, none⟩ u).heap[g]? = some (.cells (cs.setIfInBounds i u) t (0, 0)) := by
  simp [World.setCell, Array.getElem?_modify, h]
theorem blk_far {w : World} {g g' i : Nat} (hne : g ≠ g') (u : Value) : (w.setCell ⟨g', i, none⟩ u).heap[g]? = w.heap[g]? := Below.heap_setCell w ⟨g', i, none⟩ u g hne
theorem blk_lt {w : World} {g : Nat} {o : Obj} (h : w.heap[g]? = some o) : g < w.heap.size := by
  rcases Nat.lt_or_ge g w.heap.size with hlt | hge
  · exact hlt
  · rw [Array.getElem?_eq_none hge] at h; cases h

/-- All categories below k. -/
theorem ones_or (k : Nat) : (2 ^ k - 1) ||| 2 ^ k = 2 ^ (k + 1) - 1 := by
  have h := nat_join k (2 ^ k) (2 ^ k - 1) (Nat.mod_self _) (by have := Nat.pow_pos (n := k) (show 0 < 2 by omega); omega)
  rw [Nat.or_comm, h, Nat.pow_succ]
  have := Nat.pow_pos (n := k) (show 0 < 2 by omega)
  omega

end Go.Proofs.Ytmddikabilnokaa.L

namespace Go.Proofs.Ytmddikabilnokaa.L
open Go.RowKit
open T

/-- The categories of a label, from k on up to 64. -/
def catsTo (c k : Nat) : List Nat := (List.range k).filter fun i => c.testBit i
def intCells (xs : List Nat) : List Value := xs.map fun n : Nat => .int .i64 (n : Int)
theorem intCells_snoc (xs : List Nat) (n : Nat) : intCells (xs ++ [n]) = intCells xs ++ [.int .i64 (n : Int)] := by simp [intCells]
theorem catsTo_yes {c k : Nat} (h : c.testBit k = true) : catsTo c (k + 1) = catsTo c k ++ [k] := by simp [catsTo, List.range_succ, h]
theorem catsTo_no {c k : Nat} (h : c.testBit k = false) : catsTo c (k + 1) = catsTo c k := by simp [catsTo, List.range_succ, h]
theorem catsTo_len (c k : Nat) : (catsTo c k).length ≤ k := by
  have := List.length_filter_le (fun i => c.testBit i) (List.range k)
  simpa [catsTo] using this
theorem and_bit (c k : Nat) : (c &&& 2 ^ k = 0) ↔ c.testBit k = false := by
  rw [nat_bit, Nat.testBit_eq_decide_div_mod_eq]
  have hp := Nat.pow_pos (n := k) (show 0 < 2 by omega)
  rcases Nat.mod_two_eq_zero_or_one (c / 2 ^ k) with h | h <;> rw [h] <;> simp
theorem infoInt : (Try.prog.info? 3).map (fun i => (i.zero, i.size, i.bytes)) = some (some (.int .i64 0), 1, 8) := by kernel_rfl

end Go.Proofs.Ytmddikabilnokaa.L

namespace Go.Proofs.Ytmddikabilnokaa.L
open Go.RowKit
open T

/-- The categories of a list of numbers, beside those that are there; none if one is no category. -/
def ofGo : List Int → Nat → Option Nat
  | [], c => some c
  | x :: r, c => if x < 0 ∨ 63 < x then none else ofGo r (c ||| 2 ^ x.toNat)
def ofAll (l : Int) (xs : List Int) : Option Nat := if rightB l then ofGo xs 0 else none
def ofVal (l : Int) (o : Option Nat) : Value := match o with
  | some c => .tuple #[lab l c, .int .i64 0]
  | none => .tuple #[lab 0 0, .int .i64 2]
theorem ofVal_none (l : Int) : ofVal l none = .tuple #[lab 0 0, .int .i64 2] := rfl
theorem ofVal_some (l : Int) (c : Nat) : ofVal l (some c) = .tuple #[lab l c, .int .i64 0] := rfl

/-- A row of numbers in memory. -/
def IntsAt (w : World) (bk off : Nat) (xs : List Int) : Prop := ∀ j (h : j < xs.length), w.cell? ⟨bk, off + j, none⟩ = some (.int .i64 xs[j])
theorem IntsAt.below {w w' : World} {bk off B : Nat} {xs : List Int} (h : IntsAt w bk off xs) (hb : Below B w w') (hB : bk < B) : IntsAt w' bk off xs :=
  fun j hj => (hb.cell (p := ⟨bk, off + j, none⟩) hB).trans (h j hj)

theorem of_bad {xs : List Int} {k c : Nat} (hk : k < xs.length) (h : xs[k] < 0 ∨ 63 < xs[k]) : ofGo (xs.drop k) c = none := by
  rw [List.drop_eq_getElem_cons hk, ofGo, if_pos h]
theorem of_on {xs : List Int} {k c : Nat} (hk : k < xs.length) (h : ¬ (xs[k] < 0 ∨ 63 < xs[k])) : ofGo (xs.drop k) c = ofGo (xs.drop (k + 1)) (c ||| 2 ^ xs[k].toNat) := by
  rw [List.drop_eq_getElem_cons hk, ofGo, if_neg h]
theorem of_end {xs : List Int} {c : Nat} : ofGo (xs.drop xs.length) c = some c := by rw [List.drop_length, ofGo]
theorem or_small {a b : Nat} (ha : a < 18446744073709551616) (hb : b < 18446744073709551616) : a ||| b < 18446744073709551616 := Nat.or_lt_two_pow (n := 64) ha hb

/-- What the result's own block reads as. -/
theorem res_cells {wf : World} {g : Nat} {l : Int} {c : Int} (h : wf.heap[g]? = some (.cells #[.int .i64 l, .int .u64 c] 25 (0, 0))) :
    wf.cell? ⟨g, 0, none⟩ = some (.int .i64 l) ∧ wf.cell? ⟨g, 1, none⟩ = some (.int .u64 c) := ⟨blk_cell h 0, blk_cell h 1⟩
theorem two_blocks (w : World) (a b : Obj) : ((w.alloc a).alloc b).heap[w.heap.size]? = some a ∧ ((w.alloc a).alloc b).heap[w.heap.size + 1]? = some b := by
  refine ⟨?_, ?_⟩
  · rw [Below.heap_alloc _ _ _ (by simp)]; exact heap_alloc_new w _
  · have := heap_alloc_new (w.alloc a) b
    rwa [World.size_alloc] at this

end Go.Proofs.Ytmddikabilnokaa.L

namespace Go.Proofs.Ytmddikabilnokaa.L
open Go.RowKit
open T

theorem has_bit (c k : Nat) : (((c : Int) / 2 ^ k).tmod 2 == 1) = c.testBit k := by
  have e : (c : Int) / 2 ^ k = ((c / 2 ^ k : Nat) : Int) := by simp
  rw [e, Nat.testBit_eq_decide_div_mod_eq]
  generalize c / 2 ^ k = y
  rw [Int.tmod_eq_emod_of_nonneg (by omega), Bool.eq_iff_iff]
  simp
  omega
theorem has_any (l : Int) (c k : Nat) (w : World) (hk : k < 64) :
    Calls Try.prog 27 #[lab l c, .int .i64 k] w fun e w' => e = .returned (.bool (c.testBit k)) ∧ Below w.heap.size w w' := by
  have HB := Lib.hid (has_bit c k)
  go_enter Try.func27, Try.ntmps27
  go_wp2_with fail
  go_ret
  exact ⟨ret_of (by rw [← HB.out]; rfl), (Below.refl _ _).alloc (Nat.le_refl _) _⟩
def Hs (l : Int) (c k : Nat) (b : Bool) : Prop := ∀ w : World, Calls Try.prog 27 #[lab l c, .int .i64 k] w fun e w' => e = .returned (.bool b) ∧ Below w.heap.size w w'
theorem Hs.call {l : Int} {c k : Nat} {b : Bool} (h : Hs l c k b) (w : World) : Calls Try.prog 27 #[lab l c, .int .i64 k] w fun e w' => e = .returned (.bool b) ∧ Below w.heap.size w w' := h w
theorem hs_is {l : Int} {c k : Nat} {b : Bool} (hk : k < 64) (h : c.testBit k = b) : Hs l c k b := fun w => by
  have := has_any l c k w hk
  rwa [h] at this

/-- Two labels in boxes of the call's own. -/
abbrev Held2 (w : World) (l : Int) (c : Nat) (m : Int) (d : Nat) (w' : World) : Prop :=
  w'.cell? ⟨w.heap.size, 0, none⟩ = some (.int .i64 l) ∧ w'.cell? ⟨w.heap.size, 1, none⟩ = some (.int .u64 (c : Int)) ∧ w'.cell? ⟨w.heap.size + 1, 0, none⟩ = some (.int .i64 m) ∧ w'.cell? ⟨w.heap.size + 1, 1, none⟩ = some (.int .u64 (d : Int)) ∧ w.heap.size + 2 ≤ w'.heap.size ∧ Below w.heap.size w w'
theorem held2_below {w W W' : World} {l m : Int} {c d : Nat} (h : Held2 w l c m d W) (hb : Below W.heap.size W W') : Held2 w l c m d W' := by
  obtain ⟨h1, h2, h3, h4, h7, h8⟩ := h
  have hs := hb.size
  exact ⟨(bcell hb _ _ (by omega)).trans h1, (bcell hb _ _ (by omega)).trans h2, (bcell hb _ _ (by omega)).trans h3, (bcell hb _ _ (by omega)).trans h4, by omega, h8.trans (hb.mono h8.size)⟩
theorem held2_start (w : World) (l m : Int) (c d : Nat) : Held2 w l c m d ((w.alloc (.cells #[.int .i64 l, .int .u64 (c : Int)] 25)).alloc (.cells #[.int .i64 m, .int .u64 (d : Int)] 25)) := by
  obtain ⟨b0, b1⟩ := two_blocks w (.cells #[.int .i64 l, .int .u64 (c : Int)] 25) (.cells #[.int .i64 m, .int .u64 (d : Int)] 25)
  exact ⟨blk_cell b0 0, blk_cell b0 1, blk_cell b1 0, blk_cell b1 1, by rw [World.size_alloc, World.size_alloc]; omega, ((Below.refl _ _).alloc (Nat.le_refl _) _).alloc (by simp) _⟩
theorem held2_end {w W : World} {l m : Int} {c d : Nat} (h : Held2 w l c m d W) : Below w.heap.size w W := h.2.2.2.2.2

theorem sub_of_bits {c d : Nat} (hc : c < 18446744073709551616) (h : ∀ i, i < 64 → c.testBit i = true → d.testBit i = true) : c ||| d = d := by
  apply Nat.eq_of_testBit_eq
  intro i
  rw [Nat.testBit_or]
  by_cases hi : i < 64
  · cases hb : c.testBit i with
    | false => simp
    | true => rw [h i hi hb]; rfl
  · rw [Nat.testBit_lt_two_pow (Nat.lt_of_lt_of_le hc (Nat.pow_le_pow_right (n := 2) (by omega) (show 64 ≤ i by omega)))]; simp
theorem bit_of_sub {c d : Nat} (h : c ||| d = d) {i : Nat} (hi : c.testBit i = true) : d.testBit i = true := by
  rw [← h, Nat.testBit_or, hi]; rfl

set_option maxHeartbeats 1000000 in
theorem refBelow_any (l m : Int) (c d : Nat) (w : World) (hc : c < 18446744073709551616) :
    Calls Try.prog 20 #[lab l c, lab m d] w fun e w' => e = .returned (.bool (belowB l c m d)) ∧ Below w.heap.size w w' := by
  by_cases h1 : l ≤ m
  · go_enter Try.func20, Try.ntmps20
    go_wp2_with fail
    go_loopg [5] 64 (fun n i wr => ∃ k : Nat, k ≤ 64 ∧ i = .int .i64 k ∧ 64 - k ≤ n ∧ Held2 w l c m d wr ∧ Hid (∀ i, i < k → c.testBit i = true → d.testBit i = true))
    case atStart => exact ⟨0, by omega, rfl, by omega, held2_start w l m c d, Lib.hid fun i hi => absurd hi (by omega)⟩
    case round =>
      obtain ⟨k, hk, rfl, hn, hH, HR⟩ := hrel
      by_cases hlt : k < 64
      · cases hcb : c.testBit k with
        | false =>
          have HC := Lib.hid (hs_is (l := l) hlt hcb)
          have HN : Hid (∀ i, i < k + 1 → c.testBit i = true → d.testBit i = true) := Lib.hid fun i hi hb => by
            by_cases e : i = k
            · subst e; rw [hcb] at hb; cases hb
            · exact HR.out i (by omega) hb
          clear hcb
          go_wp2_with fail
          with_reducible refine (HC.out.call _).mono ?_
          rintro r w1 ⟨rfl, hb1⟩
          replace hH := held2_below hH hb1
          go_wp2_with fail
          go_roundg (64 - (k + 1))
          case measure => omega
          case rel => exact ⟨k + 1, by omega, by go_num, Nat.le_refl _, hH, HN⟩
        | true =>
          have HC := Lib.hid (hs_is (l := l) hlt hcb)
          cases hdb : d.testBit k with
          | false =>
            have HD := Lib.hid (hs_is (l := m) hlt hdb)
            have HF := Lib.hid (show belowB l c m d = false by
              unfold belowB
              rw [beq_eq_false_iff_ne.2 (fun e => by have := bit_of_sub e hcb; rw [hdb] at this; cases this), Bool.and_false])
            clear hcb hdb
            go_wp2_with fail
            with_reducible refine (HC.out.call _).mono ?_
            rintro r w1 ⟨rfl, hb1⟩
            replace hH := held2_below hH hb1
            go_wp2_with fail
            with_reducible refine (HD.out.call _).mono ?_
            rintro r w2 ⟨rfl, hb2⟩
            replace hH := held2_below hH hb2
            go_wp2_with fail
            go_ret
            exact ⟨ret_of (by rw [HF.out]; rfl), held2_end hH⟩
          | true =>
            have HD := Lib.hid (hs_is (l := m) hlt hdb)
            have HN : Hid (∀ i, i < k + 1 → c.testBit i = true → d.testBit i = true) := Lib.hid fun i hi hb => by
              by_cases e : i = k
              · subst e; exact hdb
              · exact HR.out i (by omega) hb
            clear hcb hdb
            go_wp2_with fail
            with_reducible refine (HC.out.call _).mono ?_
            rintro r w1 ⟨rfl, hb1⟩
            replace hH := held2_below hH hb1
            go_wp2_with fail
            with_reducible refine (HD.out.call _).mono ?_
            rintro r w2 ⟨rfl, hb2⟩
            replace hH := held2_below hH hb2
            go_wp2_with fail
            go_roundg (64 - (k + 1))
            case measure => omega
            case rel => exact ⟨k + 1, by omega, by go_num, Nat.le_refl _, hH, HN⟩
      · obtain rfl : k = 64 := by omega
        have HF := Lib.hid (show belowB l c m d = true by
          unfold belowB
          rw [decide_eq_true h1, sub_of_bits hc HR.out, beq_self_eq_true]; rfl)
        go_wp2_with fail
        go_ret
        exact ⟨ret_of (by rw [HF.out]; rfl), held2_end hH⟩
  · have HF := Lib.hid (show belowB l c m d = false by unfold belowB; rw [decide_eq_false h1]; rfl)
    go_enter Try.func20, Try.ntmps20
    go_wp2_with fail
    go_ret
    exact ⟨ret_of (by rw [HF.out]; rfl), held2_end (held2_start w l m c d)⟩
end Go.Proofs.Ytmddikabilnokaa.L

namespace Go.Proofs.Ytmddikabilnokaa.T
open Go.RowKit

/-- A row of bytes in memory: the cells from an address on hold the bytes of a list. -/
def BytesAt (w : World) (bk off : Nat) (l : List UInt8) : Prop := ∀ j (h : j < l.length), w.cell? ⟨bk, off + j, none⟩ = some (.int .u8 (l[j].toNat : Int))
theorem BytesAt.below {w w' : World} {bk off B : Nat} {l : List UInt8} (h : BytesAt w bk off l) (hb : Below B w w') (hB : bk < B) : BytesAt w' bk off l :=
  fun j hj => (hb.cell (p := ⟨bk, off + j, none⟩) hB).trans (h j hj)
theorem BytesAt.sub {w : World} {bk off i n : Nat} {l : List UInt8} (h : BytesAt w bk off l) : BytesAt w bk (off + i) ((l.drop i).take n) := by
  intro j hj
  have hj' : j < n ∧ j < l.length - i := by simp at hj; omega
  have := h (i + j) (by omega)
  rw [Nat.add_assoc]
  simpa using this

theorem strOfNums_bytes (m : List UInt8) : strOfNums (m.map fun c => (c.toNat : Int)) = ⟨m.toArray⟩ := by
  unfold strOfNums
  congr 1
  congr 1
  rw [List.map_map]
  conv => rhs; rw [← List.map_id m]
  exact List.map_congr_left fun c _ => by simp
end Go.Proofs.Ytmddikabilnokaa.T

namespace Go.Proofs.Ytmddikabilnokaa.T
open Go.RowKit

/-- The cells of lines: each a text and whether it is bare. -/
def lineCells (xs : List (List UInt8 × Bool)) : List Value := xs.flatMap fun x => [.string ⟨x.1.toArray⟩, .bool x.2]
theorem lineCells_snoc (xs : List (List UInt8 × Bool)) (t : List UInt8) (b : Bool) : lineCells (xs ++ [(t, b)]) = lineCells xs ++ [.string ⟨t.toArray⟩, .bool b] := by simp [lineCells]
theorem lineCells_length (xs : List (List UInt8 × Bool)) : (lineCells xs).length = xs.length * 2 := by
  induction xs with
  | nil => rfl
  | cons x r ih => simp [lineCells] at ih ⊢; omega
theorem infoLine : (Try.prog.info? 42).map (fun i => (i.zero, i.size, i.bytes)) = some (some (.agg #[.string ⟨#[]⟩, .bool false]), 2, 24) := by kernel_rfl

theorem lines_at {l : List UInt8} {i j : Nat} (hj : j < l.length) (h : l[j].toNat = 10) :
    P.lines ((l.drop i).take (j - i)) (l.drop j) = ((l.drop i).take (j - i), false) :: P.lines [] (l.drop (j + 1)) := by
  rw [List.drop_eq_getElem_cons hj, P.lines, if_pos (UInt8.toNat_inj.1 h)]
theorem lines_on {l : List UInt8} {i j : Nat} (hij : i ≤ j) (hj : j < l.length) (h : ¬ l[j].toNat = 10) :
    P.lines ((l.drop i).take (j - i)) (l.drop j) = P.lines ((l.drop i).take (j + 1 - i)) (l.drop (j + 1)) := by
  rw [List.drop_eq_getElem_cons hj, P.lines, if_neg (fun e => h (by rw [e]; rfl))]
  congr 1
  rw [show j + 1 - i = (j - i) + 1 by omega, List.take_succ_eq_append_getElem (by simp; omega)]
  simp [show i + (j - i) = j by omega]
theorem lines_end {l : List UInt8} {i : Nat} (hi : i < l.length) : P.lines ((l.drop i).take (l.length - i)) (l.drop l.length) = [((l.drop i).take (l.length - i), true)] := by
  rw [List.drop_length, P.lines, if_neg]
  intro e
  have := congrArg List.length e
  simp at this; omega

/-- The cells of texts. -/
def strCells (xs : List (List UInt8)) : List Value := xs.map fun x => .string ⟨x.toArray⟩
theorem strCells_snoc (xs : List (List UInt8)) (t : List UInt8) : strCells (xs ++ [t]) = strCells xs ++ [.string ⟨t.toArray⟩] := by simp [strCells]

theorem words_at {l : List UInt8} {i j : Nat} (hj : j < l.length) (h : l[j].toNat = 32) :
    P.words ((l.drop i).take (j - i)) (l.drop j) = (l.drop i).take (j - i) :: P.words [] (l.drop (j + 1)) := by
  rw [List.drop_eq_getElem_cons hj, P.words, if_pos (UInt8.toNat_inj.1 h)]
theorem words_on {l : List UInt8} {i j : Nat} (hij : i ≤ j) (hj : j < l.length) (h : ¬ l[j].toNat = 32) :
    P.words ((l.drop i).take (j - i)) (l.drop j) = P.words ((l.drop i).take (j + 1 - i)) (l.drop (j + 1)) := by
  rw [List.drop_eq_getElem_cons hj, P.words, if_neg (fun e => h (by rw [e]; rfl))]
  congr 1
  rw [show j + 1 - i = (j - i) + 1 by omega, List.take_succ_eq_append_getElem (by simp; omega)]
  simp [show i + (j - i) = j by omega]
theorem words_end {l : List UInt8} {i : Nat} : P.words ((l.drop i).take (l.length - i)) (l.drop l.length) = [(l.drop i).take (l.length - i)] := by
  rw [List.drop_length, P.words]

end Go.Proofs.Ytmddikabilnokaa.T
