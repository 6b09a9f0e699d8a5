/-
  Plain functions on lists of bytes and numbers that the walks of packages text and label are held against. Nothing of the program stands in it; no condition.
-/
import Derived.Lib.ItoaMem
namespace Go.Proofs.YtbilhdfoajahkaaDoor.P

/-- The digits of a list read on from n: none at the first byte that is no digit, or above 2^31 - 1. -/
def numGo : List UInt8 → Nat → Option Nat
  | [], n => some n
  | c :: r, n => if c.toNat < 48 ∨ 57 < c.toNat then none else if 2147483647 < 10 * n + (c.toNat - 48) then none else numGo r (10 * n + (c.toNat - 48))
/-- A text's number. -/
def number (l : List UInt8) : Option Nat := if l = [] ∨ (l.head? = some 48 ∧ 1 < l.length) then none else numGo l 0
/-- May a text be a name? -/
def name (l : List UInt8) : Bool := decide (1 ≤ l.length) && decide (l.length ≤ 64) && l.all fun c => decide (33 ≤ c.toNat) && decide (c.toNat ≤ 126)

theorem numGo_bad {l : List UInt8} {n k : Nat} (hk : k < l.length) (h : l[k].toNat < 48 ∨ 57 < l[k].toNat) : numGo (l.drop k) n = none := by
  rw [List.drop_eq_getElem_cons hk, numGo, if_pos h]
theorem numGo_big {l : List UInt8} {n k : Nat} (hk : k < l.length) (h : ¬ (l[k].toNat < 48 ∨ 57 < l[k].toNat)) (hb : 2147483647 < 10 * n + (l[k].toNat - 48)) : numGo (l.drop k) n = none := by
  rw [List.drop_eq_getElem_cons hk, numGo, if_neg h, if_pos hb]
theorem numGo_on {l : List UInt8} {n k : Nat} (hk : k < l.length) (h : ¬ (l[k].toNat < 48 ∨ 57 < l[k].toNat)) (hb : ¬ 2147483647 < 10 * n + (l[k].toNat - 48)) :
    numGo (l.drop k) n = numGo (l.drop (k + 1)) (10 * n + (l[k].toNat - 48)) := by
  rw [List.drop_eq_getElem_cons hk, numGo, if_neg h, if_neg hb]
theorem numGo_end {l : List UInt8} {n : Nat} : numGo (l.drop l.length) n = some n := by simp [numGo]
/-- A number's text. -/
def decimal (n : Int) : List UInt8 := if n < 0 ∨ 2147483647 < n then [63] else Lib.decDigits n.toNat
/-- The lines of bytes: what of the open line was read, and what is left; each line with whether it is bare. -/
def lines : List UInt8 → List UInt8 → List (List UInt8 × Bool)
  | cur, [] => if cur = [] then [] else [(cur, true)]
  | cur, c :: r => if c = 10 then (cur, false) :: lines [] r else lines (cur ++ [c]) r
/-- The parts of a text between blanks. -/
def words : List UInt8 → List UInt8 → List (List UInt8)
  | cur, [] => [cur]
  | cur, c :: r => if c = 32 then cur :: words [] r else words (cur ++ [c]) r
end Go.Proofs.YtbilhdfoajahkaaDoor.P
