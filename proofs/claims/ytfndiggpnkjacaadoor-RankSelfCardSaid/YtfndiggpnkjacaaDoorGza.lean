/-
  Plain functions on lists of bytes and numbers that the walks of packages text and label are held against. Nothing of the program stands in it; no condition.
  The contract of text.Number: it returns, whatever text it is handed, what the plain function says, and leaves the world as it was.
  What the library's functions that this program calls come to, at this translation's numbers: each is one application of a theorem of the library over any program, under the conditions that it names.
  The contract of text.Decimal, where the library's table of powers of ten holds what its text lays.
  What the proofs of this program's rows share: the listed table read off a row's condition, the arguments read again behind a call that left what was there as it was, and a start for the witness.
  The contracts of label's bit, Right, Join, Meet and Below.
  An item, in plain words.
  Plain facts on the order of labels.
  What one sees of items, in plain words; what the reference's loops come to.
-/
import Derived.Lib.ItoaMem
import Derived.Test.YtfndiggpnkjacaaDoorChecked
import Derived.WalkKit
import Derived.WalkSpells
import Derived.WalkLawsBesides
import Derived.Lib.Hide
import Derived.Lib.Strings
import Derived.Lib.RabinKarpLaws
import Derived.Outline
import Derived.Shelf.Small.Wraps
import Derived.Shelf.Strconv.Itoa0
import Derived.Shelf.Strconv.Itoa1
import Derived.Shelf.LaysM
import Derived.Shelf.Strconv.Itoa2
import Derived.Shelf.Strconv.Itoa3
import Derived.Test.YtfndiggpnkjacaaDoorProg
import Derived.Test.YtfndiggpnkjacaaDoorRows
import Derived.ProofKit
import Derived.OpenShut
import Derived.Deep.DeepHandedRow
import Derived.Lib.LaidTab
import Derived.Stop.LaidErr
import Derived.Carry
import Derived.Laws.BitsAllLaws
import Derived.Laws.BitsLemmas
import Derived.Deep.RegionWith
namespace Go.Proofs.YtfndiggpnkjacaaDoor.P

/-- The digits of a list read on from n: none at the first byte that is no digit, or above 2^31 - 1. -/
def numGo : List UInt8 → Nat → Option Nat
  | [], n => some n
  | c :: r, n => if c.toNat < 48 ∨ 57 < c.toNat then none else if 2147483647 < 10 * n + (c.toNat - 48) then none else numGo r (10 * n + (c.toNat - 48))
/-- A text's number. -/
def number (l : List UInt8) : Option Nat := if l = [] ∨ (l.head? = some 48 ∧ 1 < l.length) then none else numGo l 0
/-- May a text be a name? -/
def name (l : List UInt8) : Bool := decide (1 ≤ l.length) && decide (l.length ≤ 64) && l.all fun c => decide (33 ≤ c.toNat) && decide (c.toNat ≤ 126)

theorem numGo_bad {l : List UInt8} {n k : Nat} (hk : k < l.length) (h : l[k].toNat < 48 ∨ 57 < l[k].toNat) : numGo (l.drop k) n = none := by
  rw [List.drop_eq_getElem_cons hk, numGo, if_pos h]
theorem numGo_big {l : List UInt8} {n k : Nat} (hk : k < l.length) (h : ¬ (l[k].toNat < 48 ∨ 57 < l[k].toNat)) (hb : 2147483647 < 10 * n + (l[k].toNat - 48)) : numGo (l.drop k) n = none := by
  rw [List.drop_eq_getElem_cons hk, numGo, if_neg h, if_pos hb]
theorem numGo_on {l : List UInt8} {n k : Nat} (hk : k < l.length) (h : ¬ (l[k].toNat < 48 ∨ 57 < l[k].toNat)) (hb : ¬ 2147483647 < 10 * n + (l[k].toNat - 48)) :
    numGo (l.drop k) n = numGo (l.drop (k + 1)) (10 * n + (l[k].toNat - 48)) := by
  rw [List.drop_eq_getElem_cons hk, numGo, if_neg h, if_neg hb]
theorem numGo_end {l : List UInt8} {n : Nat} : numGo (l.drop l.length) n = some n := by simp [numGo]
/-- A number's text. -/
def decimal (n : Int) : List UInt8 := if n < 0 ∨ 2147483647 < n then [63] else Lib.decDigits n.toNat
/-- The lines of bytes: what of the open line was read, and what is left; each line with whether it is bare. -/
def lines : List UInt8 → List UInt8 → List (List UInt8 × Bool)
  | cur, [] => if cur = [] then [] else [(cur, true)]
  | cur, c :: r => if c = 10 then (cur, false) :: lines [] r else lines (cur ++ [c]) r
/-- The parts of a text between blanks. -/
def words : List UInt8 → List UInt8 → List (List UInt8)
  | cur, [] => [cur]
  | cur, c :: r => if c = 32 then cur :: words [] r else words (cur ++ [c]) r
end Go.Proofs.YtfndiggpnkjacaaDoor.P

namespace Go.Proofs.YtfndiggpnkjacaaDoor.T
open Go.RowKit

def numVal (o : Option Nat) : Value := match o with
  | some n => .tuple #[.int .i64 n, .bool true]
  | none => .tuple #[.int .i64 0, .bool false]
theorem numVal_none : numVal none = .tuple #[.int .i64 0, .bool false] := rfl
theorem numVal_some (n : Nat) : numVal (some n) = .tuple #[.int .i64 n, .bool true] := rfl

theorem ret_of {a b : Value} (h : a = b) : Ending.returned a = .returned b := by rw [h]

theorem byte (s : ByteArray) (k : Nat) (hk : k < s.size) (h : k < s.data.toList.length) : s.data.toList[k] = s[k]'hk := by
  rw [Array.getElem_toList]; rfl
theorem num_bad (s : ByteArray) (k n : Nat) (hk : k < s.size) (h : (s[k].toNat : Int) < 48 ∨ 57 < (s[k].toNat : Int)) : P.numGo (s.data.toList.drop k) n = none := by
  have hl : k < s.data.toList.length := by rw [← Lib.size_eq]; exact hk
  refine P.numGo_bad hl ?_
  rw [byte s k hk hl]; omega
theorem num_big (s : ByteArray) (k n : Nat) (hk : k < s.size) (h1 : 48 ≤ (s[k].toNat : Int)) (h2 : (s[k].toNat : Int) ≤ 57) (hb : (2147483647 - ((s[k].toNat : Int) - 48)) / 10 < (n : Int)) : P.numGo (s.data.toList.drop k) n = none := by
  have hl : k < s.data.toList.length := by rw [← Lib.size_eq]; exact hk
  refine P.numGo_big hl ?_ ?_ <;> rw [byte s k hk hl] <;> omega
theorem num_on (s : ByteArray) (k n : Nat) (hk : k < s.size) (h1 : 48 ≤ (s[k].toNat : Int)) (h2 : (s[k].toNat : Int) ≤ 57) (hb : (n : Int) ≤ (2147483647 - ((s[k].toNat : Int) - 48)) / 10) :
    P.numGo (s.data.toList.drop k) n = P.numGo (s.data.toList.drop (k + 1)) (10 * n + (s[k].toNat - 48)) ∧ 10 * n + (s[k].toNat - 48) ≤ 2147483647 := by
  have hl : k < s.data.toList.length := by rw [← Lib.size_eq]; exact hk
  have e := byte s k hk hl
  refine ⟨?_, by omega⟩
  rw [P.numGo_on hl (by rw [e]; omega) (by rw [e]; omega), e]
theorem num_end (s : ByteArray) (n : Nat) : P.numGo (s.data.toList.drop s.size) n = some n := by
  rw [Lib.size_eq]; exact P.numGo_end

theorem number_nil (s : ByteArray) (h : s.size = 0) : P.number s.data.toList = none := by
  have : s.data.toList = [] := List.eq_nil_of_length_eq_zero (by rw [← Lib.size_eq]; exact h)
  rw [P.number, if_pos (.inl this)]
theorem number_zero (s : ByteArray) (h : 1 < s.size) (h0 : s[0].toNat = 48) : P.number s.data.toList = none := by
  have hl : 0 < s.data.toList.length := by rw [← Lib.size_eq]; omega
  rw [P.number, if_pos]
  refine .inr ⟨?_, by rw [← Lib.size_eq]; exact h⟩
  rw [List.head?_eq_getElem?, List.getElem?_eq_getElem hl, byte s 0 (by omega) hl]
  congr 1
  exact UInt8.toNat_inj.1 h0
theorem number_go (s : ByteArray) (h : 0 < s.size) (h0 : s.size = 1 ∨ ¬ s[0].toNat = 48) : P.number s.data.toList = P.numGo s.data.toList 0 := by
  have hl : 0 < s.data.toList.length := by rw [← Lib.size_eq]; omega
  rw [P.number, if_neg]
  rintro (e | ⟨e, e2⟩)
  · rw [e] at hl; simp at hl
  · rw [← Lib.size_eq] at e2
    rw [List.head?_eq_getElem?, List.getElem?_eq_getElem hl, byte s 0 (by omega) hl] at e
    rcases h0 with h0 | h0
    · omega
    · apply h0; injection e with e; rw [e]; rfl

end Go.Proofs.YtfndiggpnkjacaaDoor.T

namespace Go.Proofs
open Go.Shelf
def Tryd.lays215_ren : Go.Shelf.Ren := ⟨fun | 215 => 57 | n => n, fun | 3 => 3 | 4 => 4 | n => n, fun | n => n⟩
theorem Tryd.lays215 : Go.Proofs.Lays.n215 Tryd.prog Tryd.lays215_ren := {
  mixed := by kernel_rfl
  f215 := Tryd.func57.trans (congrArg some (by kernel_rfl))
  t3 := Tryd.underlying3
  a3 := Tryd.isAgg3
  z3 := Tryd.sizeOf3
  v3 := Tryd.zeroValue3
  t4 := Tryd.underlying4
  a4 := Tryd.isAgg4
  z4 := Tryd.sizeOf4
  v4 := Tryd.zeroValue4 }
open Go.RowKit in
theorem Tryd.cmp_isNaN_int (x : Int) (w : World) :
    Calls Tryd.prog 57 #[.int .i64 x] w fun e w' => e = .returned (.bool false) ∧ w' = w := Any.cmp_isNaN_int Tryd.lays215 x w
def Tryd.lays122_ren : Go.Shelf.Ren := ⟨fun | 122 => 46 | 215 => 57 | n => n, fun | 3 => 3 | 4 => 4 | n => n, fun | n => n⟩
theorem Tryd.lays122 : Go.Proofs.Lays.n122 Tryd.prog Tryd.lays122_ren := {
  mixed := by kernel_rfl
  f122 := Tryd.func46.trans (congrArg some (by kernel_rfl))
  f215 := Tryd.func57.trans (congrArg some (by kernel_rfl))
  t3 := Tryd.underlying3
  a3 := Tryd.isAgg3
  z3 := Tryd.sizeOf3
  v3 := Tryd.zeroValue3
  t4 := Tryd.underlying4
  a4 := Tryd.isAgg4
  z4 := Tryd.sizeOf4
  v4 := Tryd.zeroValue4 }
open Go.RowKit in
theorem Tryd.cmp_Compare_int (x y : Int) (w : World) :
    Calls Tryd.prog 46 #[.int .i64 x, .int .i64 y] w fun e w' => e = .returned (.int .i64 (Lib.compareInt x y)) ∧ w' = w := Any.cmp_Compare_int Tryd.lays122 x y w
def Tryd.lays129_ren : Go.Shelf.Ren := ⟨fun | 129 => 78 | n => n, fun | 53 => 66 | 3 => 3 | 4 => 4 | 46 => 82 | 5 => 5 | 9 => 9 | n => n, fun | n => n⟩
theorem Tryd.lays129 : Go.Proofs.Lays.n129 Tryd.prog Tryd.lays129_ren := {
  mixed := by kernel_rfl
  f129 := Tryd.func78.trans (congrArg some (by kernel_rfl))
  t3 := Tryd.underlying3
  a3 := Tryd.isAgg3
  z3 := Tryd.sizeOf3
  v3 := Tryd.zeroValue3
  t4 := Tryd.underlying4
  a4 := Tryd.isAgg4
  z4 := Tryd.sizeOf4
  v4 := Tryd.zeroValue4
  t5 := Tryd.underlying5
  a5 := Tryd.isAgg5
  z5 := Tryd.sizeOf5
  v5 := Tryd.zeroValue5
  t9 := Tryd.underlying9
  a9 := Tryd.isAgg9
  z9 := Tryd.sizeOf9
  v9 := Tryd.zeroValue9
  t46 := Tryd.underlying82
  a46 := Tryd.isAgg82
  z46 := Tryd.sizeOf82
  v46 := Tryd.zeroValue82
  t53 := Tryd.underlying66
  a53 := Tryd.isAgg66
  z53 := Tryd.sizeOf66
  v53 := Tryd.zeroValue66 }
theorem Tryd.bits_Len64 (x : Int) (w : World) (h0 : 0 ≤ x) (h1 : x ≤ 18446744073709551615) :
    Calls Tryd.prog 78 #[.int .u64 x] w fun e w' => e = .returned (.int .i64 (Lib.bitLen x.toNat)) ∧ w' = w := Any.bits_Len64 Tryd.lays129 x w h0 h1
def Tryd.lays317_ren : Go.Shelf.Ren := ⟨fun | 317 => 77 | n => n, fun | 3 => 3 | 46 => 82 | n => n, fun | n => n⟩
theorem Tryd.lays317 : Go.Proofs.Lays.n317 Tryd.prog Tryd.lays317_ren := {
  mixed := by kernel_rfl
  f317 := Tryd.func77.trans (congrArg some (by kernel_rfl))
  t3 := Tryd.underlying3
  a3 := Tryd.isAgg3
  z3 := Tryd.sizeOf3
  v3 := Tryd.zeroValue3
  t46 := Tryd.underlying82
  a46 := Tryd.isAgg82
  z46 := Tryd.sizeOf82
  v46 := Tryd.zeroValue82 }
open Go.Lib in
theorem Tryd.internal_strconv_log10Pow2 (x : Nat) (h : x ≤ 64) (w : World) :
    Calls Tryd.prog 77 #[.int .i64 x] w fun e w' => e = .returned (.int .i64 (Lib.l10 x)) ∧ w' = w := Any.internal_strconv_log10Pow2 Tryd.lays317 x h w
def Tryd.lays318_ren : Go.Shelf.Ren := ⟨fun | 318 => 79 | n => n, fun | 3 => 3 | 4 => 4 | n => n, fun | n => n⟩
theorem Tryd.lays318 : Go.Proofs.Lays.n318 Tryd.prog Tryd.lays318_ren := {
  mixed := by kernel_rfl
  f318 := Tryd.func79.trans (congrArg some (by kernel_rfl))
  t3 := Tryd.underlying3
  a3 := Tryd.isAgg3
  z3 := Tryd.sizeOf3
  v3 := Tryd.zeroValue3
  t4 := Tryd.underlying4
  a4 := Tryd.isAgg4
  z4 := Tryd.sizeOf4
  v4 := Tryd.zeroValue4 }
open Go.Lib in
theorem Tryd.internal_strconv_bool2_int (b : Bool) (w : World) :
    Calls Tryd.prog 79 #[.bool b] w fun e w' => e = .returned (.int .i64 (if b then 1 else 0)) ∧ w' = w := Any.internal_strconv_bool2_int Tryd.lays318 b w
def Tryd.lays283_ren : Go.Shelf.Ren := ⟨fun | 283 => 71 | n => n, fun | 3 => 3 | 9 => 9 | 4 => 4 | n => n, fun | n => n⟩
theorem Tryd.lays283 : Go.Proofs.Lays.n283 Tryd.prog Tryd.lays283_ren := {
  mixed := by kernel_rfl
  f283 := Tryd.func71.trans (congrArg some (by kernel_rfl))
  t3 := Tryd.underlying3
  a3 := Tryd.isAgg3
  z3 := Tryd.sizeOf3
  v3 := Tryd.zeroValue3
  t4 := Tryd.underlying4
  a4 := Tryd.isAgg4
  z4 := Tryd.sizeOf4
  v4 := Tryd.zeroValue4
  t9 := Tryd.underlying9
  a9 := Tryd.isAgg9
  z9 := Tryd.sizeOf9
  v9 := Tryd.zeroValue9 }
open Go.Lib in
theorem Tryd.internal_strconv_small (i : Nat) (h : i < 100) (w : World) :
    Calls Tryd.prog 71 #[.int .i64 i] w fun e w' => e = .returned (.string ⟨(Lib.decDigits i).toArray⟩) ∧ w' = w := Any.internal_strconv_small Tryd.lays283 i h w
def Tryd.laysM284_ren : Go.Shelf.Ren := ⟨fun | 284 => 72 | 129 => 78 | 317 => 77 | 318 => 79 | n => n, fun | 53 => 66 | 3 => 3 | 212 => 96 | 0 => 0 | 4 => 4 | 46 => 82 | 5 => 5 | 9 => 9 | n => n, fun | 17 => 1 | n => n⟩
theorem Tryd.laysM284 : Go.Proofs.LaysM.n284 Tryd.prog Tryd.laysM284_ren := {
  mixed := by kernel_rfl
  f129 := Tryd.func78.trans (congrArg some (by kernel_rfl))
  f284 := Tryd.func72.trans (congrArg some (by kernel_rfl))
  f317 := Tryd.func77.trans (congrArg some (by kernel_rfl))
  f318 := Tryd.func79.trans (congrArg some (by kernel_rfl))
  t0 := Tryd.underlying0
  a0 := Tryd.isAgg0
  z0 := Tryd.sizeOf0
  v0 := Tryd.zeroValue0
  t3 := Tryd.underlying3
  a3 := Tryd.isAgg3
  z3 := Tryd.sizeOf3
  v3 := Tryd.zeroValue3
  t4 := Tryd.underlying4
  a4 := Tryd.isAgg4
  z4 := Tryd.sizeOf4
  v4 := Tryd.zeroValue4
  t5 := Tryd.underlying5
  a5 := Tryd.isAgg5
  z5 := Tryd.sizeOf5
  v5 := Tryd.zeroValue5
  t9 := Tryd.underlying9
  a9 := Tryd.isAgg9
  z9 := Tryd.sizeOf9
  v9 := Tryd.zeroValue9
  t46 := Tryd.underlying82
  a46 := Tryd.isAgg82
  z46 := Tryd.sizeOf82
  v46 := Tryd.zeroValue82
  t53 := Tryd.underlying66
  a53 := Tryd.isAgg66
  z53 := Tryd.sizeOf66
  v53 := Tryd.zeroValue66
  t212 := Tryd.underlying96
  a212 := Tryd.isAgg96
  z212 := Tryd.sizeOf96
  v212 := Tryd.zeroValue96
  g17 := by kernel_rfl
  i0 := by kernel_rfl
  i3 := by kernel_rfl
  i4 := by kernel_rfl
  i5 := by kernel_rfl
  i9 := by kernel_rfl
  i46 := by kernel_rfl
  i53 := by kernel_rfl
  i212 := by kernel_rfl
  m17 := by kernel_rfl }
open Go.Lib in
theorem Tryd.internal_strconv_numDigits (u : Nat) (h1 : 1 ≤ u) (h2 : u < 18446744073709551616) (w : World) (htab : Lib.TabIs Tryd.prog w "internal/strconv.uint64pow10" .u64 Lib.pow10Tab) :
    Calls Tryd.prog 72 #[.int .u64 u] w fun e w' => e = .returned (.int .i64 (Lib.nDigits u)) ∧ w' = w := Any.internal_strconv_numDigits Tryd.laysM284 u h1 h2 w htab
def Tryd.lays285_ren : Go.Shelf.Ren := ⟨fun | 285 => 73 | n => n, fun | 37 => 40 | 53 => 66 | 3 => 3 | 4 => 4 | 51 => 97 | 9 => 9 | 5 => 5 | 0 => 0 | n => n, fun | n => n⟩
theorem Tryd.lays285 : Go.Proofs.Lays.n285 Tryd.prog Tryd.lays285_ren := {
  mixed := by kernel_rfl
  f285 := Tryd.func73.trans (congrArg some (by kernel_rfl))
  t0 := Tryd.underlying0
  a0 := Tryd.isAgg0
  z0 := Tryd.sizeOf0
  v0 := Tryd.zeroValue0
  t3 := Tryd.underlying3
  a3 := Tryd.isAgg3
  z3 := Tryd.sizeOf3
  v3 := Tryd.zeroValue3
  t4 := Tryd.underlying4
  a4 := Tryd.isAgg4
  z4 := Tryd.sizeOf4
  v4 := Tryd.zeroValue4
  t5 := Tryd.underlying5
  a5 := Tryd.isAgg5
  z5 := Tryd.sizeOf5
  v5 := Tryd.zeroValue5
  t9 := Tryd.underlying9
  a9 := Tryd.isAgg9
  z9 := Tryd.sizeOf9
  v9 := Tryd.zeroValue9
  t37 := Tryd.underlying40
  a37 := Tryd.isAgg40
  z37 := Tryd.sizeOf40
  v37 := Tryd.zeroValue40
  t51 := Tryd.underlying97
  a51 := Tryd.isAgg97
  z51 := Tryd.sizeOf97
  v51 := Tryd.zeroValue97
  t53 := Tryd.underlying66
  a53 := Tryd.isAgg66
  z53 := Tryd.sizeOf66
  v53 := Tryd.zeroValue66 }
open Go.RowKit Go.Sort Go.Lib in
theorem Tryd.internal_strconv_formatBase10 (blk off cap : Nat) (u : Nat) (d : Array UInt8) (w : World) (hH : Holds (fun (b : UInt8) => Value.int .u8 (b.toNat : Int)) w blk off d) (hu : u < 10 ^ d.size) (hu64 : u < 18446744073709551616) (hsz : d.size < 4611686018427387904) :
    Calls Tryd.prog 73 #[.slice (some ⟨blk, off, none⟩) d.size cap, .int .u64 u] w fun e w' =>
      e = .returned (.tuple #[]) ∧ ∃ (n v' : Nat) (dk : Array UInt8), w' = (putRow (fun (b : UInt8) => Value.int .u8 (b.toNat : Int)) w blk off dk).drewN n ∧ FmtInv d.size u 0 v' dk := Any.internal_strconv_formatBase10 Tryd.lays285 blk off cap u d w hH hu hu64 hsz
def Tryd.laysM246_ren : Go.Shelf.Ren := ⟨fun | 246 => 64 | 283 => 71 | 284 => 72 | 285 => 73 | 286 => 74 | 129 => 78 | 317 => 77 | 318 => 79 | 319 => 80 | 320 => 81 | 337 => 85 | 338 => 86 | n => n, fun | 2 => 2 | 3 => 3 | 9 => 9 | 4 => 4 | 171 => 87 | 0 => 0 | 53 => 66 | 37 => 40 | 5 => 5 | 173 => 90 | 212 => 96 | 51 => 97 | 20 => 20 | 213 => 98 | 46 => 82 | 232 => 102 | 233 => 103 | n => n, fun | 17 => 1 | 18 => 2 | 19 => 3 | n => n⟩
theorem Tryd.laysM246 : Go.Proofs.LaysM.n246 Tryd.prog Tryd.laysM246_ren := {
  mixed := by kernel_rfl
  f129 := Tryd.func78.trans (congrArg some (by kernel_rfl))
  f246 := Tryd.func64.trans (congrArg some (by kernel_rfl))
  f283 := Tryd.func71.trans (congrArg some (by kernel_rfl))
  f284 := Tryd.func72.trans (congrArg some (by kernel_rfl))
  f285 := Tryd.func73.trans (congrArg some (by kernel_rfl))
  f286 := Tryd.func74.trans (congrArg some (by kernel_rfl))
  f317 := Tryd.func77.trans (congrArg some (by kernel_rfl))
  f318 := Tryd.func79.trans (congrArg some (by kernel_rfl))
  f319 := Tryd.func80.trans (congrArg some (by kernel_rfl))
  f320 := Tryd.func81.trans (congrArg some (by kernel_rfl))
  f337 := Tryd.func85.trans (congrArg some (by kernel_rfl))
  f338 := Tryd.func86.trans (congrArg some (by kernel_rfl))
  t0 := Tryd.underlying0
  a0 := Tryd.isAgg0
  z0 := Tryd.sizeOf0
  v0 := Tryd.zeroValue0
  t2 := Tryd.underlying2
  a2 := Tryd.isAgg2
  z2 := Tryd.sizeOf2
  v2 := Tryd.zeroValue2
  t3 := Tryd.underlying3
  a3 := Tryd.isAgg3
  z3 := Tryd.sizeOf3
  v3 := Tryd.zeroValue3
  t4 := Tryd.underlying4
  a4 := Tryd.isAgg4
  z4 := Tryd.sizeOf4
  v4 := Tryd.zeroValue4
  t5 := Tryd.underlying5
  a5 := Tryd.isAgg5
  z5 := Tryd.sizeOf5
  v5 := Tryd.zeroValue5
  t9 := Tryd.underlying9
  a9 := Tryd.isAgg9
  z9 := Tryd.sizeOf9
  v9 := Tryd.zeroValue9
  t20 := Tryd.underlying20
  a20 := Tryd.isAgg20
  z20 := Tryd.sizeOf20
  v20 := Tryd.zeroValue20
  t37 := Tryd.underlying40
  a37 := Tryd.isAgg40
  z37 := Tryd.sizeOf40
  v37 := Tryd.zeroValue40
  t46 := Tryd.underlying82
  a46 := Tryd.isAgg82
  z46 := Tryd.sizeOf82
  v46 := Tryd.zeroValue82
  t51 := Tryd.underlying97
  a51 := Tryd.isAgg97
  z51 := Tryd.sizeOf97
  v51 := Tryd.zeroValue97
  t53 := Tryd.underlying66
  a53 := Tryd.isAgg66
  z53 := Tryd.sizeOf66
  v53 := Tryd.zeroValue66
  t171 := Tryd.underlying87
  a171 := Tryd.isAgg87
  z171 := Tryd.sizeOf87
  v171 := Tryd.zeroValue87
  t173 := Tryd.underlying90
  a173 := Tryd.isAgg90
  z173 := Tryd.sizeOf90
  v173 := Tryd.zeroValue90
  t212 := Tryd.underlying96
  a212 := Tryd.isAgg96
  z212 := Tryd.sizeOf96
  v212 := Tryd.zeroValue96
  t213 := Tryd.underlying98
  a213 := Tryd.isAgg98
  z213 := Tryd.sizeOf98
  t232 := Tryd.underlying102
  a232 := Tryd.isAgg102
  z232 := Tryd.sizeOf102
  v232 := Tryd.zeroValue102
  t233 := Tryd.underlying103
  a233 := Tryd.isAgg103
  z233 := Tryd.sizeOf103
  v233 := Tryd.zeroValue103
  g17 := by kernel_rfl
  g18 := by kernel_rfl
  g19 := by kernel_rfl
  i0 := by kernel_rfl
  i2 := by kernel_rfl
  i3 := by kernel_rfl
  i4 := by kernel_rfl
  i5 := by kernel_rfl
  i9 := by kernel_rfl
  i20 := by kernel_rfl
  i37 := by kernel_rfl
  i46 := by kernel_rfl
  i51 := by kernel_rfl
  i53 := by kernel_rfl
  i171 := by kernel_rfl
  i173 := by kernel_rfl
  i212 := by kernel_rfl
  i232 := by kernel_rfl
  i233 := by kernel_rfl
  m17 := by kernel_rfl
  m18 := by kernel_rfl
  m19 := by kernel_rfl }
open Go.RowKit Go.Sort Go.Lib in
theorem Tryd.internal_strconv_FormatInt_10 (n : Int) (h0 : -9223372036854775808 ≤ n) (h1 : n ≤ 9223372036854775807) (w : World) (htab : Lib.TabIs Tryd.prog w "internal/strconv.uint64pow10" .u64 Lib.pow10Tab) :
    Calls Tryd.prog 64 #[.int .i64 n, .int .i64 10] w fun e w' => e = .returned (.string ⟨(Lib.itoa n).toArray⟩) ∧ ∃ k os, w' = grow (w.drewN k) os := Any.internal_strconv_FormatInt_10 Tryd.laysM246 n h0 h1 w htab
def Tryd.lays246_ren : Go.Shelf.Ren := ⟨fun | 246 => 64 | 283 => 71 | 284 => 72 | 285 => 73 | 286 => 74 | 129 => 78 | 317 => 77 | 318 => 79 | 319 => 80 | 320 => 81 | 337 => 85 | 338 => 86 | n => n, fun | 2 => 2 | 3 => 3 | 9 => 9 | 4 => 4 | 171 => 87 | 0 => 0 | 53 => 66 | 37 => 40 | 5 => 5 | 173 => 90 | 212 => 96 | 51 => 97 | 20 => 20 | 213 => 98 | 46 => 82 | 232 => 102 | 233 => 103 | n => n, fun | 17 => 1 | 18 => 2 | 19 => 3 | n => n⟩
theorem Tryd.lays246 : Go.Proofs.Lays.n246 Tryd.prog Tryd.lays246_ren := {
  mixed := by kernel_rfl
  f129 := Tryd.func78.trans (congrArg some (by kernel_rfl))
  f246 := Tryd.func64.trans (congrArg some (by kernel_rfl))
  f283 := Tryd.func71.trans (congrArg some (by kernel_rfl))
  f284 := Tryd.func72.trans (congrArg some (by kernel_rfl))
  f285 := Tryd.func73.trans (congrArg some (by kernel_rfl))
  f286 := Tryd.func74.trans (congrArg some (by kernel_rfl))
  f317 := Tryd.func77.trans (congrArg some (by kernel_rfl))
  f318 := Tryd.func79.trans (congrArg some (by kernel_rfl))
  f319 := Tryd.func80.trans (congrArg some (by kernel_rfl))
  f320 := Tryd.func81.trans (congrArg some (by kernel_rfl))
  f337 := Tryd.func85.trans (congrArg some (by kernel_rfl))
  f338 := Tryd.func86.trans (congrArg some (by kernel_rfl))
  t0 := Tryd.underlying0
  a0 := Tryd.isAgg0
  z0 := Tryd.sizeOf0
  v0 := Tryd.zeroValue0
  t2 := Tryd.underlying2
  a2 := Tryd.isAgg2
  z2 := Tryd.sizeOf2
  v2 := Tryd.zeroValue2
  t3 := Tryd.underlying3
  a3 := Tryd.isAgg3
  z3 := Tryd.sizeOf3
  v3 := Tryd.zeroValue3
  t4 := Tryd.underlying4
  a4 := Tryd.isAgg4
  z4 := Tryd.sizeOf4
  v4 := Tryd.zeroValue4
  t5 := Tryd.underlying5
  a5 := Tryd.isAgg5
  z5 := Tryd.sizeOf5
  v5 := Tryd.zeroValue5
  t9 := Tryd.underlying9
  a9 := Tryd.isAgg9
  z9 := Tryd.sizeOf9
  v9 := Tryd.zeroValue9
  t20 := Tryd.underlying20
  a20 := Tryd.isAgg20
  z20 := Tryd.sizeOf20
  v20 := Tryd.zeroValue20
  t37 := Tryd.underlying40
  a37 := Tryd.isAgg40
  z37 := Tryd.sizeOf40
  v37 := Tryd.zeroValue40
  t46 := Tryd.underlying82
  a46 := Tryd.isAgg82
  z46 := Tryd.sizeOf82
  v46 := Tryd.zeroValue82
  t51 := Tryd.underlying97
  a51 := Tryd.isAgg97
  z51 := Tryd.sizeOf97
  v51 := Tryd.zeroValue97
  t53 := Tryd.underlying66
  a53 := Tryd.isAgg66
  z53 := Tryd.sizeOf66
  v53 := Tryd.zeroValue66
  t171 := Tryd.underlying87
  a171 := Tryd.isAgg87
  z171 := Tryd.sizeOf87
  v171 := Tryd.zeroValue87
  t173 := Tryd.underlying90
  a173 := Tryd.isAgg90
  z173 := Tryd.sizeOf90
  v173 := Tryd.zeroValue90
  t212 := Tryd.underlying96
  a212 := Tryd.isAgg96
  z212 := Tryd.sizeOf96
  v212 := Tryd.zeroValue96
  t213 := Tryd.underlying98
  a213 := Tryd.isAgg98
  z213 := Tryd.sizeOf98
  t232 := Tryd.underlying102
  a232 := Tryd.isAgg102
  z232 := Tryd.sizeOf102
  v232 := Tryd.zeroValue102
  t233 := Tryd.underlying103
  a233 := Tryd.isAgg103
  z233 := Tryd.sizeOf103
  v233 := Tryd.zeroValue103
  g17 := by kernel_rfl
  g18 := by kernel_rfl
  g19 := by kernel_rfl }
open Go.RowKit Go.Sort Go.Lib in
theorem Tryd.internal_strconv_FormatInt_10_small (i : Nat) (hi : i < 100) (w : World) :
    Calls Tryd.prog 64 #[.int .i64 i, .int .i64 10] w fun e w' => e = .returned (.string ⟨(Lib.decDigits i).toArray⟩) ∧ w' = w := Any.internal_strconv_FormatInt_10_small Tryd.lays246 i hi w
def Tryd.laysM243_ren : Go.Shelf.Ren := ⟨fun | 243 => 59 | 246 => 64 | 283 => 71 | 284 => 72 | 285 => 73 | 286 => 74 | 129 => 78 | 317 => 77 | 318 => 79 | 319 => 80 | 320 => 81 | 337 => 85 | 338 => 86 | n => n, fun | 3 => 3 | 9 => 9 | 2 => 2 | 4 => 4 | 171 => 87 | 0 => 0 | 53 => 66 | 37 => 40 | 5 => 5 | 173 => 90 | 212 => 96 | 51 => 97 | 20 => 20 | 213 => 98 | 46 => 82 | 232 => 102 | 233 => 103 | n => n, fun | 17 => 1 | 18 => 2 | 19 => 3 | n => n⟩
theorem Tryd.laysM243 : Go.Proofs.LaysM.n243 Tryd.prog Tryd.laysM243_ren := {
  mixed := by kernel_rfl
  f129 := Tryd.func78.trans (congrArg some (by kernel_rfl))
  f243 := Tryd.func59.trans (congrArg some (by kernel_rfl))
  f246 := Tryd.func64.trans (congrArg some (by kernel_rfl))
  f283 := Tryd.func71.trans (congrArg some (by kernel_rfl))
  f284 := Tryd.func72.trans (congrArg some (by kernel_rfl))
  f285 := Tryd.func73.trans (congrArg some (by kernel_rfl))
  f286 := Tryd.func74.trans (congrArg some (by kernel_rfl))
  f317 := Tryd.func77.trans (congrArg some (by kernel_rfl))
  f318 := Tryd.func79.trans (congrArg some (by kernel_rfl))
  f319 := Tryd.func80.trans (congrArg some (by kernel_rfl))
  f320 := Tryd.func81.trans (congrArg some (by kernel_rfl))
  f337 := Tryd.func85.trans (congrArg some (by kernel_rfl))
  f338 := Tryd.func86.trans (congrArg some (by kernel_rfl))
  t0 := Tryd.underlying0
  a0 := Tryd.isAgg0
  z0 := Tryd.sizeOf0
  v0 := Tryd.zeroValue0
  t2 := Tryd.underlying2
  a2 := Tryd.isAgg2
  z2 := Tryd.sizeOf2
  v2 := Tryd.zeroValue2
  t3 := Tryd.underlying3
  a3 := Tryd.isAgg3
  z3 := Tryd.sizeOf3
  v3 := Tryd.zeroValue3
  t4 := Tryd.underlying4
  a4 := Tryd.isAgg4
  z4 := Tryd.sizeOf4
  v4 := Tryd.zeroValue4
  t5 := Tryd.underlying5
  a5 := Tryd.isAgg5
  z5 := Tryd.sizeOf5
  v5 := Tryd.zeroValue5
  t9 := Tryd.underlying9
  a9 := Tryd.isAgg9
  z9 := Tryd.sizeOf9
  v9 := Tryd.zeroValue9
  t20 := Tryd.underlying20
  a20 := Tryd.isAgg20
  z20 := Tryd.sizeOf20
  v20 := Tryd.zeroValue20
  t37 := Tryd.underlying40
  a37 := Tryd.isAgg40
  z37 := Tryd.sizeOf40
  v37 := Tryd.zeroValue40
  t46 := Tryd.underlying82
  a46 := Tryd.isAgg82
  z46 := Tryd.sizeOf82
  v46 := Tryd.zeroValue82
  t51 := Tryd.underlying97
  a51 := Tryd.isAgg97
  z51 := Tryd.sizeOf97
  v51 := Tryd.zeroValue97
  t53 := Tryd.underlying66
  a53 := Tryd.isAgg66
  z53 := Tryd.sizeOf66
  v53 := Tryd.zeroValue66
  t171 := Tryd.underlying87
  a171 := Tryd.isAgg87
  z171 := Tryd.sizeOf87
  v171 := Tryd.zeroValue87
  t173 := Tryd.underlying90
  a173 := Tryd.isAgg90
  z173 := Tryd.sizeOf90
  v173 := Tryd.zeroValue90
  t212 := Tryd.underlying96
  a212 := Tryd.isAgg96
  z212 := Tryd.sizeOf96
  v212 := Tryd.zeroValue96
  t213 := Tryd.underlying98
  a213 := Tryd.isAgg98
  z213 := Tryd.sizeOf98
  t232 := Tryd.underlying102
  a232 := Tryd.isAgg102
  z232 := Tryd.sizeOf102
  v232 := Tryd.zeroValue102
  t233 := Tryd.underlying103
  a233 := Tryd.isAgg103
  z233 := Tryd.sizeOf103
  v233 := Tryd.zeroValue103
  g17 := by kernel_rfl
  g18 := by kernel_rfl
  g19 := by kernel_rfl
  i0 := by kernel_rfl
  i2 := by kernel_rfl
  i3 := by kernel_rfl
  i4 := by kernel_rfl
  i5 := by kernel_rfl
  i9 := by kernel_rfl
  i20 := by kernel_rfl
  i37 := by kernel_rfl
  i46 := by kernel_rfl
  i51 := by kernel_rfl
  i53 := by kernel_rfl
  i171 := by kernel_rfl
  i173 := by kernel_rfl
  i212 := by kernel_rfl
  i232 := by kernel_rfl
  i233 := by kernel_rfl
  m17 := by kernel_rfl
  m18 := by kernel_rfl
  m19 := by kernel_rfl }
open Go.RowKit Go.Sort Go.Lib in
theorem Tryd.internal_strconv_Itoa (n : Int) (h0 : -9223372036854775808 ≤ n) (h1 : n ≤ 9223372036854775807) (w : World) (htab : Lib.TabIs Tryd.prog w "internal/strconv.uint64pow10" .u64 Lib.pow10Tab) :
    Calls Tryd.prog 59 #[.int .i64 n] w fun e w' => e = .returned (.string ⟨(Lib.itoa n).toArray⟩) ∧ ∃ k os, w' = grow (w.drewN k) os := Any.internal_strconv_Itoa Tryd.laysM243 n h0 h1 w htab
def Tryd.lays243_ren : Go.Shelf.Ren := ⟨fun | 243 => 59 | 246 => 64 | 283 => 71 | 284 => 72 | 285 => 73 | 286 => 74 | 129 => 78 | 317 => 77 | 318 => 79 | 319 => 80 | 320 => 81 | 337 => 85 | 338 => 86 | n => n, fun | 3 => 3 | 9 => 9 | 2 => 2 | 4 => 4 | 171 => 87 | 0 => 0 | 53 => 66 | 37 => 40 | 5 => 5 | 173 => 90 | 212 => 96 | 51 => 97 | 20 => 20 | 213 => 98 | 46 => 82 | 232 => 102 | 233 => 103 | n => n, fun | 17 => 1 | 18 => 2 | 19 => 3 | n => n⟩
theorem Tryd.lays243 : Go.Proofs.Lays.n243 Tryd.prog Tryd.lays243_ren := {
  mixed := by kernel_rfl
  f129 := Tryd.func78.trans (congrArg some (by kernel_rfl))
  f243 := Tryd.func59.trans (congrArg some (by kernel_rfl))
  f246 := Tryd.func64.trans (congrArg some (by kernel_rfl))
  f283 := Tryd.func71.trans (congrArg some (by kernel_rfl))
  f284 := Tryd.func72.trans (congrArg some (by kernel_rfl))
  f285 := Tryd.func73.trans (congrArg some (by kernel_rfl))
  f286 := Tryd.func74.trans (congrArg some (by kernel_rfl))
  f317 := Tryd.func77.trans (congrArg some (by kernel_rfl))
  f318 := Tryd.func79.trans (congrArg some (by kernel_rfl))
  f319 := Tryd.func80.trans (congrArg some (by kernel_rfl))
  f320 := Tryd.func81.trans (congrArg some (by kernel_rfl))
  f337 := Tryd.func85.trans (congrArg some (by kernel_rfl))
  f338 := Tryd.func86.trans (congrArg some (by kernel_rfl))
  t0 := Tryd.underlying0
  a0 := Tryd.isAgg0
  z0 := Tryd.sizeOf0
  v0 := Tryd.zeroValue0
  t2 := Tryd.underlying2
  a2 := Tryd.isAgg2
  z2 := Tryd.sizeOf2
  v2 := Tryd.zeroValue2
  t3 := Tryd.underlying3
  a3 := Tryd.isAgg3
  z3 := Tryd.sizeOf3
  v3 := Tryd.zeroValue3
  t4 := Tryd.underlying4
  a4 := Tryd.isAgg4
  z4 := Tryd.sizeOf4
  v4 := Tryd.zeroValue4
  t5 := Tryd.underlying5
  a5 := Tryd.isAgg5
  z5 := Tryd.sizeOf5
  v5 := Tryd.zeroValue5
  t9 := Tryd.underlying9
  a9 := Tryd.isAgg9
  z9 := Tryd.sizeOf9
  v9 := Tryd.zeroValue9
  t20 := Tryd.underlying20
  a20 := Tryd.isAgg20
  z20 := Tryd.sizeOf20
  v20 := Tryd.zeroValue20
  t37 := Tryd.underlying40
  a37 := Tryd.isAgg40
  z37 := Tryd.sizeOf40
  v37 := Tryd.zeroValue40
  t46 := Tryd.underlying82
  a46 := Tryd.isAgg82
  z46 := Tryd.sizeOf82
  v46 := Tryd.zeroValue82
  t51 := Tryd.underlying97
  a51 := Tryd.isAgg97
  z51 := Tryd.sizeOf97
  v51 := Tryd.zeroValue97
  t53 := Tryd.underlying66
  a53 := Tryd.isAgg66
  z53 := Tryd.sizeOf66
  v53 := Tryd.zeroValue66
  t171 := Tryd.underlying87
  a171 := Tryd.isAgg87
  z171 := Tryd.sizeOf87
  v171 := Tryd.zeroValue87
  t173 := Tryd.underlying90
  a173 := Tryd.isAgg90
  z173 := Tryd.sizeOf90
  v173 := Tryd.zeroValue90
  t212 := Tryd.underlying96
  a212 := Tryd.isAgg96
  z212 := Tryd.sizeOf96
  v212 := Tryd.zeroValue96
  t213 := Tryd.underlying98
  a213 := Tryd.isAgg98
  z213 := Tryd.sizeOf98
  t232 := Tryd.underlying102
  a232 := Tryd.isAgg102
  z232 := Tryd.sizeOf102
  v232 := Tryd.zeroValue102
  t233 := Tryd.underlying103
  a233 := Tryd.isAgg103
  z233 := Tryd.sizeOf103
  v233 := Tryd.zeroValue103
  g17 := by kernel_rfl
  g18 := by kernel_rfl
  g19 := by kernel_rfl }
open Go.RowKit Go.Sort Go.Lib in
theorem Tryd.internal_strconv_Itoa_small (i : Nat) (hi : i < 100) (w : World) :
    Calls Tryd.prog 59 #[.int .i64 i] w fun e w' => e = .returned (.string ⟨(Lib.decDigits i).toArray⟩) ∧ w' = w := Any.internal_strconv_Itoa_small Tryd.lays243 i hi w
def Tryd.laysM171_ren : Go.Shelf.Ren := ⟨fun | 171 => 49 | 243 => 59 | 246 => 64 | 283 => 71 | 284 => 72 | 285 => 73 | 286 => 74 | 129 => 78 | 317 => 77 | 318 => 79 | 319 => 80 | 320 => 81 | 337 => 85 | 338 => 86 | n => n, fun | 3 => 3 | 9 => 9 | 2 => 2 | 4 => 4 | 171 => 87 | 0 => 0 | 53 => 66 | 37 => 40 | 5 => 5 | 173 => 90 | 212 => 96 | 51 => 97 | 20 => 20 | 213 => 98 | 46 => 82 | 232 => 102 | 233 => 103 | n => n, fun | 17 => 1 | 18 => 2 | 19 => 3 | n => n⟩
theorem Tryd.laysM171 : Go.Proofs.LaysM.n171 Tryd.prog Tryd.laysM171_ren := {
  mixed := by kernel_rfl
  f129 := Tryd.func78.trans (congrArg some (by kernel_rfl))
  f171 := Tryd.func49.trans (congrArg some (by kernel_rfl))
  f243 := Tryd.func59.trans (congrArg some (by kernel_rfl))
  f246 := Tryd.func64.trans (congrArg some (by kernel_rfl))
  f283 := Tryd.func71.trans (congrArg some (by kernel_rfl))
  f284 := Tryd.func72.trans (congrArg some (by kernel_rfl))
  f285 := Tryd.func73.trans (congrArg some (by kernel_rfl))
  f286 := Tryd.func74.trans (congrArg some (by kernel_rfl))
  f317 := Tryd.func77.trans (congrArg some (by kernel_rfl))
  f318 := Tryd.func79.trans (congrArg some (by kernel_rfl))
  f319 := Tryd.func80.trans (congrArg some (by kernel_rfl))
  f320 := Tryd.func81.trans (congrArg some (by kernel_rfl))
  f337 := Tryd.func85.trans (congrArg some (by kernel_rfl))
  f338 := Tryd.func86.trans (congrArg some (by kernel_rfl))
  t0 := Tryd.underlying0
  a0 := Tryd.isAgg0
  z0 := Tryd.sizeOf0
  v0 := Tryd.zeroValue0
  t2 := Tryd.underlying2
  a2 := Tryd.isAgg2
  z2 := Tryd.sizeOf2
  v2 := Tryd.zeroValue2
  t3 := Tryd.underlying3
  a3 := Tryd.isAgg3
  z3 := Tryd.sizeOf3
  v3 := Tryd.zeroValue3
  t4 := Tryd.underlying4
  a4 := Tryd.isAgg4
  z4 := Tryd.sizeOf4
  v4 := Tryd.zeroValue4
  t5 := Tryd.underlying5
  a5 := Tryd.isAgg5
  z5 := Tryd.sizeOf5
  v5 := Tryd.zeroValue5
  t9 := Tryd.underlying9
  a9 := Tryd.isAgg9
  z9 := Tryd.sizeOf9
  v9 := Tryd.zeroValue9
  t20 := Tryd.underlying20
  a20 := Tryd.isAgg20
  z20 := Tryd.sizeOf20
  v20 := Tryd.zeroValue20
  t37 := Tryd.underlying40
  a37 := Tryd.isAgg40
  z37 := Tryd.sizeOf40
  v37 := Tryd.zeroValue40
  t46 := Tryd.underlying82
  a46 := Tryd.isAgg82
  z46 := Tryd.sizeOf82
  v46 := Tryd.zeroValue82
  t51 := Tryd.underlying97
  a51 := Tryd.isAgg97
  z51 := Tryd.sizeOf97
  v51 := Tryd.zeroValue97
  t53 := Tryd.underlying66
  a53 := Tryd.isAgg66
  z53 := Tryd.sizeOf66
  v53 := Tryd.zeroValue66
  t171 := Tryd.underlying87
  a171 := Tryd.isAgg87
  z171 := Tryd.sizeOf87
  v171 := Tryd.zeroValue87
  t173 := Tryd.underlying90
  a173 := Tryd.isAgg90
  z173 := Tryd.sizeOf90
  v173 := Tryd.zeroValue90
  t212 := Tryd.underlying96
  a212 := Tryd.isAgg96
  z212 := Tryd.sizeOf96
  v212 := Tryd.zeroValue96
  t213 := Tryd.underlying98
  a213 := Tryd.isAgg98
  z213 := Tryd.sizeOf98
  t232 := Tryd.underlying102
  a232 := Tryd.isAgg102
  z232 := Tryd.sizeOf102
  v232 := Tryd.zeroValue102
  t233 := Tryd.underlying103
  a233 := Tryd.isAgg103
  z233 := Tryd.sizeOf103
  v233 := Tryd.zeroValue103
  g17 := by kernel_rfl
  g18 := by kernel_rfl
  g19 := by kernel_rfl
  i0 := by kernel_rfl
  i2 := by kernel_rfl
  i3 := by kernel_rfl
  i4 := by kernel_rfl
  i5 := by kernel_rfl
  i9 := by kernel_rfl
  i20 := by kernel_rfl
  i37 := by kernel_rfl
  i46 := by kernel_rfl
  i51 := by kernel_rfl
  i53 := by kernel_rfl
  i171 := by kernel_rfl
  i173 := by kernel_rfl
  i212 := by kernel_rfl
  i232 := by kernel_rfl
  i233 := by kernel_rfl
  m17 := by kernel_rfl
  m18 := by kernel_rfl
  m19 := by kernel_rfl }
open Go.RowKit Go.Sort Go.Lib in
theorem Tryd.strconv_Itoa (n : Int) (h0 : -9223372036854775808 ≤ n) (h1 : n ≤ 9223372036854775807) (w : World) (htab : Lib.TabIs Tryd.prog w "internal/strconv.uint64pow10" .u64 Lib.pow10Tab) :
    Calls Tryd.prog 49 #[.int .i64 n] w fun e w' => e = .returned (.string ⟨(Lib.itoa n).toArray⟩) ∧ ∃ k os, w' = grow (w.drewN k) os := Any.strconv_Itoa Tryd.laysM171 n h0 h1 w htab
def Tryd.lays171_ren : Go.Shelf.Ren := ⟨fun | 171 => 49 | 243 => 59 | 246 => 64 | 283 => 71 | 284 => 72 | 285 => 73 | 286 => 74 | 129 => 78 | 317 => 77 | 318 => 79 | 319 => 80 | 320 => 81 | 337 => 85 | 338 => 86 | n => n, fun | 3 => 3 | 9 => 9 | 2 => 2 | 4 => 4 | 171 => 87 | 0 => 0 | 53 => 66 | 37 => 40 | 5 => 5 | 173 => 90 | 212 => 96 | 51 => 97 | 20 => 20 | 213 => 98 | 46 => 82 | 232 => 102 | 233 => 103 | n => n, fun | 17 => 1 | 18 => 2 | 19 => 3 | n => n⟩
theorem Tryd.lays171 : Go.Proofs.Lays.n171 Tryd.prog Tryd.lays171_ren := {
  mixed := by kernel_rfl
  f129 := Tryd.func78.trans (congrArg some (by kernel_rfl))
  f171 := Tryd.func49.trans (congrArg some (by kernel_rfl))
  f243 := Tryd.func59.trans (congrArg some (by kernel_rfl))
  f246 := Tryd.func64.trans (congrArg some (by kernel_rfl))
  f283 := Tryd.func71.trans (congrArg some (by kernel_rfl))
  f284 := Tryd.func72.trans (congrArg some (by kernel_rfl))
  f285 := Tryd.func73.trans (congrArg some (by kernel_rfl))
  f286 := Tryd.func74.trans (congrArg some (by kernel_rfl))
  f317 := Tryd.func77.trans (congrArg some (by kernel_rfl))
  f318 := Tryd.func79.trans (congrArg some (by kernel_rfl))
  f319 := Tryd.func80.trans (congrArg some (by kernel_rfl))
  f320 := Tryd.func81.trans (congrArg some (by kernel_rfl))
  f337 := Tryd.func85.trans (congrArg some (by kernel_rfl))
  f338 := Tryd.func86.trans (congrArg some (by kernel_rfl))
  t0 := Tryd.underlying0
  a0 := Tryd.isAgg0
  z0 := Tryd.sizeOf0
  v0 := Tryd.zeroValue0
  t2 := Tryd.underlying2
  a2 := Tryd.isAgg2
  z2 := Tryd.sizeOf2
  v2 := Tryd.zeroValue2
  t3 := Tryd.underlying3
  a3 := Tryd.isAgg3
  z3 := Tryd.sizeOf3
  v3 := Tryd.zeroValue3
  t4 := Tryd.underlying4
  a4 := Tryd.isAgg4
  z4 := Tryd.sizeOf4
  v4 := Tryd.zeroValue4
  t5 := Tryd.underlying5
  a5 := Tryd.isAgg5
  z5 := Tryd.sizeOf5
  v5 := Tryd.zeroValue5
  t9 := Tryd.underlying9
  a9 := Tryd.isAgg9
  z9 := Tryd.sizeOf9
  v9 := Tryd.zeroValue9
  t20 := Tryd.underlying20
  a20 := Tryd.isAgg20
  z20 := Tryd.sizeOf20
  v20 := Tryd.zeroValue20
  t37 := Tryd.underlying40
  a37 := Tryd.isAgg40
  z37 := Tryd.sizeOf40
  v37 := Tryd.zeroValue40
  t46 := Tryd.underlying82
  a46 := Tryd.isAgg82
  z46 := Tryd.sizeOf82
  v46 := Tryd.zeroValue82
  t51 := Tryd.underlying97
  a51 := Tryd.isAgg97
  z51 := Tryd.sizeOf97
  v51 := Tryd.zeroValue97
  t53 := Tryd.underlying66
  a53 := Tryd.isAgg66
  z53 := Tryd.sizeOf66
  v53 := Tryd.zeroValue66
  t171 := Tryd.underlying87
  a171 := Tryd.isAgg87
  z171 := Tryd.sizeOf87
  v171 := Tryd.zeroValue87
  t173 := Tryd.underlying90
  a173 := Tryd.isAgg90
  z173 := Tryd.sizeOf90
  v173 := Tryd.zeroValue90
  t212 := Tryd.underlying96
  a212 := Tryd.isAgg96
  z212 := Tryd.sizeOf96
  v212 := Tryd.zeroValue96
  t213 := Tryd.underlying98
  a213 := Tryd.isAgg98
  z213 := Tryd.sizeOf98
  t232 := Tryd.underlying102
  a232 := Tryd.isAgg102
  z232 := Tryd.sizeOf102
  v232 := Tryd.zeroValue102
  t233 := Tryd.underlying103
  a233 := Tryd.isAgg103
  z233 := Tryd.sizeOf103
  v233 := Tryd.zeroValue103
  g17 := by kernel_rfl
  g18 := by kernel_rfl
  g19 := by kernel_rfl }
open Go.RowKit Go.Sort Go.Lib in
theorem Tryd.strconv_Itoa_small (i : Nat) (hi : i < 100) (w : World) :
    Calls Tryd.prog 49 #[.int .i64 i] w fun e w' => e = .returned (.string ⟨(Lib.decDigits i).toArray⟩) ∧ w' = w := Any.strconv_Itoa_small Tryd.lays171 i hi w
end Go.Proofs

namespace Go.Proofs.YtfndiggpnkjacaaDoor.T
open Go.RowKit

/-- The library's table of powers of ten, as it was laid. -/
def Tab (w : World) : Prop := Lib.TabIs Tryd.prog w "internal/strconv.uint64pow10" .u64 Lib.pow10Tab
theorem gPow : Tryd.prog.globalNamed "internal/strconv.uint64pow10" = some 1 := by kernel_rfl
theorem Tab.below {B : Nat} {w w' : World} (h : Tab w) (hb : Below B w w') (hB : 1 < B) : Tab w' := var?_below hb gPow hB h
theorem Tab.size {w : World} (h : Tab w) : 1 < w.heap.size := by
  have hc := Lib.TabIs.cell h gPow 0 (by decide)
  rcases Nat.lt_or_ge 1 w.heap.size with hlt | hge
  · exact hlt
  · simp [World.cell?, Array.getElem?_eq_none hge] at hc
theorem Tab.later {w w' : World} (h : Tab w) (hb : Below w.heap.size w w') : Tab w' := Tab.below h hb (Tab.size h)
theorem Tab.alloc {w : World} (h : Tab w) (o : Obj) : Tab (w.alloc o) := Tab.later h ((Below.refl _ _).alloc (Nat.le_refl _) o)

theorem below_grow (w : World) (k : Nat) (os : Array Obj) : Below w.heap.size w (Sort.grow (w.drewN k) os) :=
  ⟨rfl, rfl, rfl, by simp [Sort.grow], fun i hi => by simp only [Sort.grow]; rw [Array.getElem?_append_left (by simpa using hi)]; rfl⟩

theorem decimal_any (n : Int) (w : World) (h0 : -9223372036854775808 ≤ n) (h1 : n ≤ 9223372036854775807) (ht : Tab w) :
    Calls Tryd.prog 36 #[.int .i64 n] w fun e w' => e = .returned (.string ⟨(P.decimal n).toArray⟩) ∧ Below w.heap.size w w' := by
  by_cases hn : n < 0
  · have Hd := Lib.hid (show P.decimal n = [63] by rw [P.decimal, if_pos (.inl hn)])
    go_enter Tryd.func36, Tryd.ntmps36
    go_wp2_with fail
    go_ret
    exact ⟨ret_of (by rw [Hd.out]; rfl), Below.refl _ _⟩
  by_cases hm : 2147483647 < n
  · have Hd := Lib.hid (show P.decimal n = [63] by rw [P.decimal, if_pos (.inr hm)])
    go_enter Tryd.func36, Tryd.ntmps36
    go_wp2_with fail
    go_ret
    exact ⟨ret_of (by rw [Hd.out]; rfl), Below.refl _ _⟩
  have Hd := Lib.hid (show P.decimal n = Lib.itoa n by rw [P.decimal, if_neg (by omega), Lib.itoa, if_neg hn])
  have Ht := Lib.hid ht
  go_enter Tryd.func36, Tryd.ntmps36
  go_wp2_with fail
  refine (Tryd.strconv_Itoa n h0 h1 _ Ht.out).mono ?_
  rintro e w' ⟨rfl, k, os, rfl⟩
  go_wp2_with fail
  go_ret
  exact ⟨ret_of (by rw [Hd.out]; rfl), below_grow _ _ _⟩

end Go.Proofs.YtfndiggpnkjacaaDoor.T

namespace Go.Proofs.YtfndiggpnkjacaaDoor.R
open Go.ChangeShapes Go.WideShapes Go.ChangeAt Go.RowKit

theorem own : ownKnob Tryd.prog.godebug = none := by kernel_rfl
theorem laidOut : laidOutB Tryd.prog = true := by kernel_rfl

abbrev listed : List (String × DataW Unit) := Rows.rankPrintsRow.laid

theorem typePow : (Tryd.prog.globals[1]?).map (·.type) = some 96 := by kernel_rfl
theorem cellsPow : Tryd.prog.cellsOf 96 = 20 := by kernel_rfl
theorem cellsU64 : Tryd.prog.cellsOf 66 = 1 := by kernel_rfl
theorem tab_of {W : World} (h : laidMetH Tryd.prog listed W) : T.Tab W := by
  have h1 : laidMet Tryd.prog listed W := h
  exact Lib.tabIs_of_head (rest := []) T.gPow typePow Tryd.underlying96 Tryd.underlying66 cellsU64 cellsPow h1.tail.tail

/-- Arguments of types that can be read, read again behind a call that left all that was there as it was. -/
theorem again {H : Type} {enc : TypeId × Value → H} {W W' : World} (hb : Below W.heap.size W W') :
    ∀ {ts : List TypeId} {vs : List Value} {ds : List (DataW H)} {p : List MemPlace}, (∀ t ∈ ts, Tryd.prog.readableRec t = true ∧ t < Tryd.prog.types.size) →
      DataW.TrodAll enc Tryd.prog W 0 (fun _ => true) true ts vs ds p → (∀ x ∈ p, x.block < W.heap.size) →
      DataW.TrodAll enc Tryd.prog W' 0 (fun b => decide (b < W.heap.size)) true ts vs ds p
  | [], vs, ds, p, _, h, _ => by
    obtain ⟨rfl, rfl, rfl⟩ := trodAll_nil h
    exact trodAll_mk0
  | t :: ts, vs, ds, p, hr, h, hlt => by
    obtain ⟨v0, vs0, d0, ds0, p0, q0, rfl, rfl, rfl, h0, r0⟩ := trodAll_cons h
    exact trodAll_cons_mk (Below.trod laidOut (hr t (by simp)).1 (hr t (by simp)).2 h0 hb (fun x hx => hlt x (by simp [hx])))
      (again hb (fun u hu => hr u (by simp [hu])) r0 (fun x hx => hlt x (by simp [hx])))

/-- A block's cells put in place. -/
def fill (cs : List Value) : Obj → Obj
  | .cells _ t frozen => .cells cs.toArray t frozen
  | o => o
def nums32 : List Int := [0, 1, 28, 2, 29, 14, 24, 3, 30, 22, 20, 15, 25, 17, 4, 8, 31, 27, 13, 23, 21, 19, 16, 7, 26, 12, 18, 6, 11, 5, 10, 9]
def nums64 : List Int := [0, 1, 56, 2, 57, 49, 28, 3, 61, 58, 42, 50, 38, 29, 17, 4, 62, 47, 59, 36, 45, 43, 51, 22, 53, 39, 33, 30, 24, 18, 12, 5, 63, 55, 48, 27, 60, 41, 37, 16, 46, 35, 44, 21, 52, 32, 23, 11, 54, 26, 40, 15, 34, 20, 31, 10, 25, 14, 19, 9, 13, 8, 7, 6]
/-- A world for the witness: the settled one, the listed tables holding what their initialisers lay. -/
noncomputable def laidWorld (os : Os) : World :=
  { World.holding Tryd.prog os ⟨#[], #[], []⟩ with heap := (((World.holding Tryd.prog os ⟨#[], #[], []⟩).heap.modify 1 (fill (Lib.pow10Tab.map (Value.int .u64)))).modify 2 (fill (nums32.map (Value.int .u8)))).modify 3 (fill (nums64.map (Value.int .u8))) }
end Go.Proofs.YtfndiggpnkjacaaDoor.R

namespace Go.Proofs.YtfndiggpnkjacaaDoor.L
open Go.RowKit
open T

/-- A label's value: its level and its categories. -/
abbrev lab (l : Int) (c : Nat) : Value := .agg #[.int .i64 l, .int .u64 (c : Int)]

/-- May a label be? -/
def rightB (l : Int) : Bool := decide (0 ≤ l) && decide (l ≤ 15)
theorem three (w : World) (a b c : Obj) : Below w.heap.size w (((w.alloc a).alloc b).alloc c) :=
  (((Below.refl _ _).alloc (Nat.le_refl _) _).alloc (by simp) _).alloc (by simp; omega) _
/-- Does one label lie below the other? -/
def belowB (l : Int) (c : Nat) (m : Int) (d : Nat) : Bool := decide (l ≤ m) && (c ||| d == d)
theorem bcell {W w1 : World} (hb : Below W.heap.size W w1) (b o : Nat) (h : b < W.heap.size) : w1.cell? ⟨b, o, none⟩ = W.cell? ⟨b, o, none⟩ := hb.cell (p := ⟨b, o, none⟩) h
theorem two_drew (w w' : World) (a b : Obj) (hb : Below ((w.alloc a).alloc b).drew.heap.size ((w.alloc a).alloc b).drew w') : Below w.heap.size w w' :=
  ((((Below.refl _ _).alloc (Nat.le_refl _) _).alloc (by simp) _).drew).trans (hb.mono (by simp; omega))
end Go.Proofs.YtfndiggpnkjacaaDoor.L

namespace Go.Proofs.YtfndiggpnkjacaaDoor.I
set_option linter.unusedVariables false
set_option linter.unusedSimpArgs false
/-- A label; an item. -/
abbrev Lb := Int × Nat
structure It where
  id : Int
  lv : Int
  ct : Nat
  an : Bool
  tx : List UInt8
  ba : Bool
deriving DecidableEq
def It.lb (x : It) : Lb := (x.lv, x.ct)
end Go.Proofs.YtfndiggpnkjacaaDoor.I

namespace Go.Proofs.YtfndiggpnkjacaaDoor.L

theorem sub_iff (c d : Nat) : c ||| d = d ↔ ∀ i, c.testBit i = true → d.testBit i = true := by
  constructor
  · intro h i hi
    rw [← h, Nat.testBit_or, hi]; rfl
  · intro h
    apply Nat.eq_of_testBit_eq
    intro i
    rw [Nat.testBit_or]
    cases hb : c.testBit i with
    | false => simp
    | true => rw [h i hb]; rfl
theorem below_iff (l m : Int) (c d : Nat) : belowB l c m d = true ↔ l ≤ m ∧ ∀ i, c.testBit i = true → d.testBit i = true := by
  unfold belowB
  rw [Bool.and_eq_true, decide_eq_true_iff, beq_iff_eq, sub_iff]
theorem below_meet (n l m : Int) (e c d : Nat) (h : belowB n e l c = true) : belowB n e m d = belowB n e (min l m) (c &&& d) := by
  rw [below_iff] at h
  rw [Bool.eq_iff_iff, below_iff, below_iff]
  constructor
  · rintro ⟨h1, h2⟩
    exact ⟨by omega, fun i hi => by rw [Nat.testBit_and, h.2 i hi, h2 i hi]; rfl⟩
  · rintro ⟨h1, h2⟩
    refine ⟨by omega, fun i hi => ?_⟩
    have := h2 i hi
    rw [Nat.testBit_and, Bool.and_eq_true] at this
    exact this.2
theorem below_join (l m n : Int) (c d e : Nat) : belowB (max l m) (c ||| d) n e = (belowB l c n e && belowB m d n e) := by
  rw [Bool.eq_iff_iff, Bool.and_eq_true, below_iff, below_iff, below_iff]
  constructor
  · rintro ⟨h1, h2⟩
    exact ⟨⟨by omega, fun i hi => h2 i (by rw [Nat.testBit_or, hi]; rfl)⟩, by omega, fun i hi => h2 i (by rw [Nat.testBit_or, hi, Bool.or_true])⟩
  · rintro ⟨⟨h1, h2⟩, h3, h4⟩
    refine ⟨by omega, fun i hi => ?_⟩
    rw [Nat.testBit_or, Bool.or_eq_true] at hi
    rcases hi with hi | hi
    · exact h2 i hi
    · exact h4 i hi
theorem and_of_or (c d : Nat) : c ||| d = d ↔ c &&& d = c := by
  rw [sub_iff]
  constructor
  · intro h
    apply Nat.eq_of_testBit_eq
    intro i
    rw [Nat.testBit_and]
    cases hb : c.testBit i with
    | false => rfl
    | true => rw [h i hb]; rfl
  · intro h i hi
    rw [← h, Nat.testBit_and, Bool.and_eq_true] at hi
    exact hi.2
theorem below_refl (l : Int) (c : Nat) : belowB l c l c = true := (below_iff _ _ _ _).2 ⟨Int.le_refl _, fun _ h => h⟩
theorem below_trans {l m n : Int} {c d e : Nat} (h : belowB l c m d = true) (h' : belowB m d n e = true) : belowB l c n e = true := by
  rw [below_iff] at h h' ⊢
  exact ⟨Int.le_trans h.1 h'.1, fun i hi => h'.2 i (h.2 i hi)⟩
theorem below_anti {l m : Int} {c d : Nat} (h : belowB l c m d = true) (h' : belowB m d l c = true) : l = m ∧ c = d := by
  rw [below_iff] at h h'
  refine ⟨Int.le_antisymm h.1 h'.1, Nat.eq_of_testBit_eq fun i => ?_⟩
  cases hb : c.testBit i with
  | true => rw [h.2 i hb]
  | false =>
    cases hd : d.testBit i with
    | true => rw [h'.2 i hd] at hb; cases hb
    | false => rfl
theorem below_j1 (l m : Int) (c d : Nat) : belowB l c (max l m) (c ||| d) = true := (below_iff _ _ _ _).2 ⟨by omega, fun i hi => by rw [Nat.testBit_or, hi]; rfl⟩
theorem below_j2 (l m : Int) (c d : Nat) : belowB m d (max l m) (c ||| d) = true := (below_iff _ _ _ _).2 ⟨by omega, fun i hi => by rw [Nat.testBit_or, hi, Bool.or_true]⟩
theorem below_m1 (l m : Int) (c d : Nat) : belowB (min l m) (c &&& d) l c = true := (below_iff _ _ _ _).2 ⟨by omega, fun i hi => by rw [Nat.testBit_and, Bool.and_eq_true] at hi; exact hi.1⟩
theorem below_m2 (l m : Int) (c d : Nat) : belowB (min l m) (c &&& d) m d = true := (below_iff _ _ _ _).2 ⟨by omega, fun i hi => by rw [Nat.testBit_and, Bool.and_eq_true] at hi; exact hi.2⟩
theorem below_bot {l : Int} (c : Nat) (h : 0 ≤ l) : belowB 0 0 l c = true := (below_iff _ _ _ _).2 ⟨h, fun i hi => by simp at hi⟩
theorem below_top {l : Int} {c : Nat} (h : l ≤ 15) (hc : c < 18446744073709551616) : belowB l c 15 18446744073709551615 = true := by
  refine (below_iff _ _ _ _).2 ⟨h, fun i hi => ?_⟩
  have hi64 : i < 64 := by
    rcases Nat.lt_or_ge i 64 with h | h
    · exact h
    · rw [Nat.testBit_lt_two_pow (Nat.lt_of_lt_of_le hc (Nat.pow_le_pow_right (n := 2) (by omega) h))] at hi
      cases hi
  rw [show 18446744073709551615 = 2 ^ 64 - 1 by rfl, Nat.testBit_two_pow_sub_one]
  simpa using hi64
end Go.Proofs.YtfndiggpnkjacaaDoor.L

namespace Go.Proofs.YtfndiggpnkjacaaDoor.V
set_option linter.unusedVariables false
set_option linter.unusedSimpArgs false
open I (It Lb)

/-- Does a label's reader see an item? -/
def sees (o : Lb) (x : It) : Bool := L.belowB x.lv x.ct o.1 o.2
def cut (o : Lb) (l : List It) : List It := l.filter (sees o)
/-- The places of the items that are seen, counted from a number on. -/
def ats (o : Lb) : Nat → List It → List Nat
  | _, [] => []
  | k, x :: r => if sees o x = true then k :: ats o (k + 1) r else ats o (k + 1) r
def txt (h : List UInt8) (x : It) : List UInt8 := if x.an = true then h else x.tx
/-- Lines of items: none is Bare but the last one. -/
def lns (h : List UInt8) : List It → List (List UInt8 × Bool)
  | [] => []
  | [x] => [(txt h x, x.ba)]
  | x :: y :: r => (txt h x, false) :: lns h (y :: r)
/-- The place of the last item that is seen. -/
def lst (o : Lb) : Nat → Int → List It → Int
  | _, z, [] => z
  | k, z, x :: r => lst o (k + 1) (if sees o x = true then (k : Int) else z) r
/-- The lines as the reference makes them, the last one's place being known. -/
def rln (o : Lb) (h : List UInt8) (last : Int) : Nat → List It → List (List UInt8 × Bool)
  | _, [] => []
  | k, x :: r => if sees o x = true then (txt h x, decide ((k : Int) = last) && x.ba) :: rln o h last (k + 1) r else rln o h last (k + 1) r
theorem cut_snoc (o : Lb) (l : List It) (x : It) : cut o (l ++ [x]) = cut o l ++ (if sees o x = true then [x] else []) := by
  unfold cut
  rw [List.filter_append]
  congr 1
  by_cases h : sees o x = true <;> simp [h]
theorem ats_snoc (o : Lb) (x : It) : ∀ (l : List It) (k : Nat), ats o k (l ++ [x]) = ats o k l ++ (if sees o x = true then [k + l.length] else [])
  | [], k => by simp [ats]
  | y :: r, k => by
    rw [List.cons_append, ats, ats, ats_snoc o x r (k + 1), List.length_cons, show k + 1 + r.length = k + (r.length + 1) by omega]
    split <;> rfl
theorem lst_snoc (o : Lb) (x : It) : ∀ (l : List It) (k : Nat) (z : Int), lst o k z (l ++ [x]) = if sees o x = true then ((k + l.length : Nat) : Int) else lst o k z l
  | [], k, z => by simp [lst]
  | y :: r, k, z => by
    rw [List.cons_append, lst, lst, lst_snoc o x r (k + 1), List.length_cons, show k + 1 + r.length = k + (r.length + 1) by omega]
theorem rln_snoc (o : Lb) (h : List UInt8) (last : Int) (x : It) : ∀ (l : List It) (k : Nat), rln o h last k (l ++ [x]) = rln o h last k l ++ (if sees o x = true then [(txt h x, decide (((k + l.length : Nat) : Int) = last) && x.ba)] else [])
  | [], k => by simp [rln]
  | y :: r, k => by
    rw [List.cons_append, rln, rln, rln_snoc o h last x r (k + 1), List.length_cons, show k + 1 + r.length = k + (r.length + 1) by omega]
    split <;> rfl
theorem lst_none (o : Lb) : ∀ (l : List It) (k : Nat) (z : Int), cut o l = [] → lst o k z l = z
  | [], _, _, _ => rfl
  | x :: r, k, z, h => by
    by_cases hx : sees o x = true
    · simp [cut, hx] at h
    · rw [lst, if_neg hx]
      exact lst_none o r (k + 1) z (by simpa [cut, hx] using h)
theorem lst_some (o : Lb) : ∀ (l : List It) (k : Nat) (z : Int), cut o l ≠ [] → (k : Int) ≤ lst o k z l
  | [], _, _, h => absurd rfl h
  | x :: r, k, z, h => by
    rw [lst]
    by_cases hr : cut o r = []
    · rw [lst_none o r _ _ hr]
      by_cases hx : sees o x = true
      · rw [if_pos hx]; exact Int.le_refl _
      · exact absurd (by simpa [cut, hx] using hr) h
    · have := lst_some o r (k + 1) (if sees o x = true then (k : Int) else z) hr
      omega
theorem rln_is (o : Lb) (h : List UInt8) : ∀ (l : List It) (k : Nat) (z : Int), z < (k : Int) → rln o h (lst o k z l) k l = lns h (cut o l)
  | [], _, _, _ => rfl
  | x :: r, k, z, hz => by
    rw [rln, lst]
    by_cases hx : sees o x = true
    · rw [if_pos hx, if_pos hx, rln_is o h r (k + 1) k (by omega)]
      have hc : cut o (x :: r) = x :: cut o r := by simp [cut, hx]
      rw [hc]
      by_cases hr : cut o r = []
      · rw [lst_none o r _ _ hr, hr, decide_eq_true rfl, Bool.true_and]; rfl
      · have := lst_some o r (k + 1) (k : Int) hr
        rw [decide_eq_false (by omega), Bool.false_and]
        cases hq : cut o r with
        | nil => exact absurd hq hr
        | cons y q => rfl
    · rw [if_neg hx, if_neg hx, rln_is o h r (k + 1) z (by omega)]
      have hc : cut o (x :: r) = cut o r := by simp [cut, hx]
      rw [hc]
theorem ats_length (o : Lb) : ∀ (l : List It) (k : Nat), (ats o k l).length = (cut o l).length
  | [], _ => rfl
  | x :: r, k => by
    rw [ats]
    by_cases hx : sees o x = true
    · rw [if_pos hx, List.length_cons, ats_length o r (k + 1)]; simp [cut, hx]
    · rw [if_neg hx, ats_length o r (k + 1)]; simp [cut, hx]
theorem lns_length (h : List UInt8) : ∀ l : List It, (lns h l).length = l.length
  | [] => rfl
  | [_] => rfl
  | _ :: y :: r => by rw [lns, List.length_cons, lns_length h (y :: r)]; rfl
theorem lns_text (h : List UInt8) : ∀ l : List It, (lns h l).map (·.1) = l.map (txt h)
  | [] => rfl
  | [_] => rfl
  | _ :: y :: r => by rw [lns, List.map_cons, lns_text h (y :: r)]; rfl
theorem lns_bare (h : List UInt8) : ∀ (l : List It) (j : Nat) (hj : j < (lns h l).length) (hj' : j < l.length), (lns h l)[j].2 = (decide (j + 1 = l.length) && l[j].ba)
  | [x], 0, _, _ => by simp [lns]
  | x :: y :: r, 0, _, _ => by simp [lns]
  | x :: y :: r, j + 1, hj, hj' => by
    have := lns_bare h (y :: r) j (by simpa [lns] using hj) (by simpa using hj')
    simp only [lns, List.getElem_cons_succ, List.length_cons] at this ⊢
    rw [this]
    congr 1
    simp
/-- The lines while items are gone through, none being Bare yet. -/
def bln (h : List UInt8) (l : List It) : List (List UInt8 × Bool) := l.map fun x => (txt h x, false)
theorem lns_snoc (h : List UInt8) (x : It) : ∀ l : List It, lns h (l ++ [x]) = bln h l ++ [(txt h x, x.ba)]
  | [] => rfl
  | [_] => rfl
  | y :: z :: r => by
    have := lns_snoc h x (z :: r)
    simp only [List.cons_append] at this ⊢
    rw [lns, this]
    rfl
theorem cut_cut (o : Lb) (l : List It) : cut o (cut o l) = cut o l := by simp [cut, List.filter_filter]
theorem sees_join (o m : Lb) (x : It) (h : sees o x = true) : sees (max o.1 m.1, o.2 ||| m.2) x = true := L.below_trans h (L.below_j1 _ _ _ _)
/-- What a place tells. -/
theorem ats_get (o : Lb) : ∀ (l : List It) (k j : Nat) (hj : j < (ats o k l).length), ∃ hi : (ats o k l)[j] - k < l.length, k ≤ (ats o k l)[j] ∧ sees o l[(ats o k l)[j] - k] = true ∧ (cut o l)[j]? = some l[(ats o k l)[j] - k]
  | [], _, _, hj => by simp [ats] at hj
  | x :: r, k, j, hj => by
    by_cases hx : sees o x = true
    · have e : ats o k (x :: r) = k :: ats o (k + 1) r := by rw [ats, if_pos hx]
      have hc : cut o (x :: r) = x :: cut o r := by simp [cut, hx]
      cases j with
      | zero => simp only [e, hc, List.getElem_cons_zero, Nat.sub_self]; exact ⟨by simp, Nat.le_refl _, hx, rfl⟩
      | succ j =>
        simp only [e, hc, List.getElem_cons_succ]
        obtain ⟨hi, h1, h2, h3⟩ := ats_get o r (k + 1) j (by rw [e] at hj; simpa using hj)
        have e2 : (ats o (k + 1) r)[j]'(by rw [e] at hj; simpa using hj) - k = ((ats o (k + 1) r)[j]'(by rw [e] at hj; simpa using hj) - (k + 1)) + 1 := by omega
        refine ⟨by rw [e2]; simpa using hi, by omega, ?_, ?_⟩
        · simp only [e2, List.getElem_cons_succ]; exact h2
        · simp only [e2, List.getElem_cons_succ, List.getElem?_cons_succ]; exact h3
    · have e : ats o k (x :: r) = ats o (k + 1) r := by rw [ats, if_neg hx]
      have hc : cut o (x :: r) = cut o r := by simp [cut, hx]
      simp only [e, hc]
      obtain ⟨hi, h1, h2, h3⟩ := ats_get o r (k + 1) j (by rw [e] at hj; exact hj)
      have e2 : (ats o (k + 1) r)[j]'(by rw [e] at hj; exact hj) - k = ((ats o (k + 1) r)[j]'(by rw [e] at hj; exact hj) - (k + 1)) + 1 := by omega
      refine ⟨by rw [e2]; simpa using hi, by omega, ?_, ?_⟩
      · simp only [e2, List.getElem_cons_succ]; exact h2
      · simp only [e2, List.getElem_cons_succ]; exact h3
theorem ats_ge (o : Lb) : ∀ (l : List It) (k : Nat), ∀ a ∈ ats o k l, k ≤ a
  | [], _, _, h => by simp [ats] at h
  | x :: r, k, a, h => by
    rw [ats] at h
    split at h
    · rcases List.mem_cons.1 h with rfl | h
      · exact Nat.le_refl _
      · have := ats_ge o r (k + 1) a h; omega
    · have := ats_ge o r (k + 1) a h; omega
/-- The places rise. -/
theorem ats_rise (o : Lb) : ∀ (l : List It) (k : Nat), (ats o k l).Pairwise (· < ·)
  | [], _ => .nil
  | x :: r, k => by
    rw [ats]
    split
    · exact List.pairwise_cons.2 ⟨fun a h => by have := ats_ge o r (k + 1) a h; omega, ats_rise o r (k + 1)⟩
    · exact ats_rise o r (k + 1)
theorem ats_lt (o : Lb) {l : List It} {k i j : Nat} (hj : j < (ats o k l).length) (hij : i < j) : (ats o k l)[i]'(by omega) < (ats o k l)[j] :=
  List.pairwise_iff_getElem.1 (ats_rise o l k) i j (by omega) hj hij
/-- Who reads more sees each place, too. -/
theorem ats_more (o m : Lb) : ∀ (l : List It) (k : Nat), ∀ a ∈ ats o k l, a ∈ ats (max o.1 m.1, o.2 ||| m.2) k l
  | [], _, _, h => h
  | x :: r, k, a, h => by
    rw [ats] at h ⊢
    by_cases hx : sees o x = true
    · rw [if_pos hx] at h
      rw [if_pos (sees_join o m x hx)]
      rcases List.mem_cons.1 h with rfl | h
      · exact List.mem_cons_self
      · exact List.mem_cons_of_mem _ (ats_more o m r (k + 1) a h)
    · rw [if_neg hx] at h
      have := ats_more o m r (k + 1) a h
      split
      · exact List.mem_cons_of_mem _ this
      · exact this
/-- What lies ahead of where an item is put in, to stand ahead of line k, is seen as k lines. -/
theorem cut_ahead (o : Lb) : ∀ (l : List It) (s k : Nat) (hk : k < (ats o s l).length), cut o (l.take ((ats o s l)[k] - s + 1)) = (cut o l).take (k + 1)
  | [], _, _, hk => by simp [ats] at hk
  | x :: r, s, k, hk => by
    by_cases hx : sees o x = true
    · have e : ats o s (x :: r) = s :: ats o (s + 1) r := by rw [ats, if_pos hx]
      have hc : ∀ q, cut o (x :: q) = x :: cut o q := fun q => by simp [cut, hx]
      cases k with
      | zero => simp only [e, List.getElem_cons_zero, Nat.sub_self, Nat.zero_add, List.take_succ_cons, List.take_zero, hc]; rfl
      | succ k =>
        have hk' : k < (ats o (s + 1) r).length := by rw [e] at hk; simpa using hk
        have hg := (ats_get o r (s + 1) k hk').2.1
        have ih := cut_ahead o r (s + 1) k hk'
        simp only [e, List.getElem_cons_succ]
        rw [show (ats o (s + 1) r)[k] - s + 1 = ((ats o (s + 1) r)[k] - (s + 1) + 1) + 1 by omega, List.take_succ_cons, hc, hc, ih, List.take_succ_cons]
    · have e : ats o s (x :: r) = ats o (s + 1) r := by rw [ats, if_neg hx]
      have hc : ∀ q, cut o (x :: q) = cut o q := fun q => by simp [cut, hx]
      have hk' : k < (ats o (s + 1) r).length := by rw [e] at hk; exact hk
      have hg := (ats_get o r (s + 1) k hk').2.1
      have ih := cut_ahead o r (s + 1) k hk'
      simp only [e]
      rw [show (ats o (s + 1) r)[k] - s + 1 = ((ats o (s + 1) r)[k] - (s + 1) + 1) + 1 by omega, List.take_succ_cons, hc, hc, ih]
end Go.Proofs.YtfndiggpnkjacaaDoor.V
