/-
  Plain functions on lists of bytes and numbers that the walks of packages text and label are held against. Nothing of the program stands in it; no condition.
  The contract of text.Number: it returns, whatever text it is handed, what the plain function says, and leaves the world as it was.
-/
import Derived.Lib.ItoaMem
import Derived.Test.YtddakaeacgojmaaDoorChecked
import Derived.WalkKit
import Derived.WalkSpells
import Derived.WalkLawsBesides
import Derived.Lib.Hide
import Derived.Lib.Strings
import Derived.Lib.RabinKarpLaws
import Derived.Outline
namespace Go.Proofs.YtddakaeacgojmaaDoor.P

/-- The digits of a list read on from n: none at the first byte that is no digit, or above 2^31 - 1. -/
def numGo : List UInt8 → Nat → Option Nat
  | [], n => some n
  | c :: r, n => if c.toNat < 48 ∨ 57 < c.toNat then none else if 2147483647 < 10 * n + (c.toNat - 48) then none else numGo r (10 * n + (c.toNat - 48))
/-- A text's number. -/
def number (l : List UInt8) : Option Nat := if l = [] ∨ (l.head? = some 48 ∧ 1 < l.length) then none else numGo l 0
/-- May a text be a name? -/
def name (l : List UInt8) : Bool := decide (1 ≤ l.length) && decide (l.length ≤ 64) && l.all fun c => decide (33 ≤ c.toNat) && decide (c.toNat ≤ 126)

theorem numGo_bad {l : List UInt8} {n k : Nat} (hk : k < l.length) (h : l[k].toNat < 48 ∨ 57 < l[k].toNat) : numGo (l.drop k) n = none := by
  rw [List.drop_eq_getElem_cons hk, numGo, if_pos h]
theorem numGo_big {l : List UInt8} {n k : Nat} (hk : k < l.length) (h : ¬ (l[k].toNat < 48 ∨ 57 < l[k].toNat)) (hb : 2147483647 < 10 * n + (l[k].toNat - 48)) : numGo (l.drop k) n = none := by
  rw [List.drop_eq_getElem_cons hk, numGo, if_neg h, if_pos hb]
theorem numGo_on {l : List UInt8} {n k : Nat} (hk : k < l.length) (h : ¬ (l[k].toNat < 48 ∨ 57 < l[k].toNat)) (hb : ¬ 2147483647 < 10 * n + (l[k].toNat - 48)) :
    numGo (l.drop k) n = numGo (l.drop (k + 1)) (10 * n + (l[k].toNat - 48)) := by
  rw [List.drop_eq_getElem_cons hk, numGo, if_neg h, if_neg hb]
theorem numGo_end {l : List UInt8} {n : Nat} : numGo (l.drop l.length) n = some n := by simp [numGo]
/-- A number's text. -/
def decimal (n : Int) : List UInt8 := if n < 0 ∨ 2147483647 < n then [63] else Lib.decDigits n.toNat
/-- The lines of bytes: what of the open line was read, and what is left; each line with whether it is bare. -/
def lines : List UInt8 → List UInt8 → List (List UInt8 × Bool)
  | cur, [] => if cur = [] then [] else [(cur, true)]
  | cur, c :: r => if c = 10 then (cur, false) :: lines [] r else lines (cur ++ [c]) r
/-- The parts of a text between blanks. -/
def words : List UInt8 → List UInt8 → List (List UInt8)
  | cur, [] => [cur]
  | cur, c :: r => if c = 32 then cur :: words [] r else words (cur ++ [c]) r
end Go.Proofs.YtddakaeacgojmaaDoor.P

namespace Go.Proofs.YtddakaeacgojmaaDoor.T
open Go.RowKit

def numVal (o : Option Nat) : Value := match o with
  | some n => .tuple #[.int .i64 n, .bool true]
  | none => .tuple #[.int .i64 0, .bool false]
theorem numVal_none : numVal none = .tuple #[.int .i64 0, .bool false] := rfl
theorem numVal_some (n : Nat) : numVal (some n) = .tuple #[.int .i64 n, .bool true] := rfl

theorem ret_of {a b : Value} (h : a = b) : Ending.returned a = .returned b := by rw [h]

theorem byte (s : ByteArray) (k : Nat) (hk : k < s.size) (h : k < s.data.toList.length) : s.data.toList[k] = s[k]'hk := by
  rw [Array.getElem_toList]; rfl
theorem num_bad (s : ByteArray) (k n : Nat) (hk : k < s.size) (h : (s[k].toNat : Int) < 48 ∨ 57 < (s[k].toNat : Int)) : P.numGo (s.data.toList.drop k) n = none := by
  have hl : k < s.data.toList.length := by rw [← Lib.size_eq]; exact hk
  refine P.numGo_bad hl ?_
  rw [byte s k hk hl]; omega
theorem num_big (s : ByteArray) (k n : Nat) (hk : k < s.size) (h1 : 48 ≤ (s[k].toNat : Int)) (h2 : (s[k].toNat : Int) ≤ 57) (hb : (2147483647 - ((s[k].toNat : Int) - 48)) / 10 < (n : Int)) : P.numGo (s.data.toList.drop k) n = none := by
  have hl : k < s.data.toList.length := by rw [← Lib.size_eq]; exact hk
  refine P.numGo_big hl ?_ ?_ <;> rw [byte s k hk hl] <;> omega
theorem num_on (s : ByteArray) (k n : Nat) (hk : k < s.size) (h1 : 48 ≤ (s[k].toNat : Int)) (h2 : (s[k].toNat : Int) ≤ 57) (hb : (n : Int) ≤ (2147483647 - ((s[k].toNat : Int) - 48)) / 10) :
    P.numGo (s.data.toList.drop k) n = P.numGo (s.data.toList.drop (k + 1)) (10 * n + (s[k].toNat - 48)) ∧ 10 * n + (s[k].toNat - 48) ≤ 2147483647 := by
  have hl : k < s.data.toList.length := by rw [← Lib.size_eq]; exact hk
  have e := byte s k hk hl
  refine ⟨?_, by omega⟩
  rw [P.numGo_on hl (by rw [e]; omega) (by rw [e]; omega), e]
theorem num_end (s : ByteArray) (n : Nat) : P.numGo (s.data.toList.drop s.size) n = some n := by
  rw [Lib.size_eq]; exact P.numGo_end

theorem number_nil (s : ByteArray) (h : s.size = 0) : P.number s.data.toList = none := by
  have : s.data.toList = [] := List.eq_nil_of_length_eq_zero (by rw [← Lib.size_eq]; exact h)
  rw [P.number, if_pos (.inl this)]
theorem number_zero (s : ByteArray) (h : 1 < s.size) (h0 : s[0].toNat = 48) : P.number s.data.toList = none := by
  have hl : 0 < s.data.toList.length := by rw [← Lib.size_eq]; omega
  rw [P.number, if_pos]
  refine .inr ⟨?_, by rw [← Lib.size_eq]; exact h⟩
  rw [List.head?_eq_getElem?, List.getElem?_eq_getElem hl, byte s 0 (by omega) hl]
  congr 1
  exact UInt8.toNat_inj.1 h0
theorem number_go (s : ByteArray) (h : 0 < s.size) (h0 : s.size = 1 ∨ ¬ s[0].toNat = 48) : P.number s.data.toList = P.numGo s.data.toList 0 := by
  have hl : 0 < s.data.toList.length := by rw [← Lib.size_eq]; omega
  rw [P.number, if_neg]
  rintro (e | ⟨e, e2⟩)
  · rw [e] at hl; simp at hl
  · rw [← Lib.size_eq] at e2
    rw [List.head?_eq_getElem?, List.getElem?_eq_getElem hl, byte s 0 (by omega) hl] at e
    rcases h0 with h0 | h0
    · omega
    · apply h0; injection e with e; rw [e]; rfl

set_option maxHeartbeats 1000000 in
theorem number_loop (s : ByteArray) (w : World) (hs : s.size ≤ maxLen) (h : 0 < s.size) (h0 : s.size = 1 ∨ ¬ s[0].toNat = 48) :
    Calls Tryd.prog 67 #[.string s] w fun e w' => e = .returned (numVal (P.number s.data.toList)) ∧ w = w' := by
  unfold maxLen at hs
  have e1 : s.toList.isEmpty = false := by
    rw [Lib.toList_data, List.isEmpty_eq_false_iff]; intro e; rw [Lib.size_eq, e] at h; simp at h
  have e2 : ¬ s.toList = [] := by intro e; rw [e] at e1; simp at e1
  have Hgo := Lib.hid (number_go s h h0)
  have hz : (s.size = 1 ∧ ((s[0].toNat : Int) == 48) = true) ∨ ((s[0].toNat : Int) == 48) = false := by
    by_cases e : s[0].toNat = 48
    · rcases h0 with h0 | h0
      · exact .inl ⟨h0, by simp [e]⟩
      · exact absurd e h0
    · exact .inr (beq_eq_false_iff_ne.2 (by omega))
  clear h0
  rcases hz with ⟨h1, hz⟩ | hz
  · have h2 : ¬ 1 < (s.size : Int) := by omega
    clear h1
    go_enter Tryd.func67, Tryd.ntmps67
    go_wp2
    go_loop [4, 21] (fun t i => ∃ k n : Nat, k ≤ s.size ∧ i = .int .i64 k ∧ t = .int .i64 n ∧ n ≤ 2147483647 ∧ Hid (P.numGo s.data.toList 0 = P.numGo (s.data.toList.drop k) n)) (fun _ i => s.size - (intOf i).toNat)
    case atStart => exact ⟨0, 0, Nat.zero_le _, rfl, rfl, by omega, Lib.hid rfl⟩
    case round =>
      obtain ⟨k, n, hk, rfl, rfl, hn, HR⟩ := hrel
      by_cases hlt : k < s.size
      · go_wp2
        · go_ret2
          exact ⟨ret_of (by rw [Hgo.out, HR.out, num_bad s k n hlt (by omega)]; rfl), rfl⟩
        · go_ret2
          exact ⟨ret_of (by rw [Hgo.out, HR.out, num_big s k n hlt (by omega) (by omega) (by assumption)]; rfl), rfl⟩
        · have hon := num_on s k n hlt (by omega) (by omega) (by assumption)
          go_round
          case rel => exact ⟨k + 1, 10 * n + (s[k].toNat - 48), by omega, by go_num, by go_num, hon.2, Lib.hid (HR.out.trans hon.1)⟩
          case measure => simp [intOf]; omega
        · go_ret2
          exact ⟨ret_of (by rw [Hgo.out, HR.out, num_bad s k n hlt (by omega)]; rfl), rfl⟩
      · go_wp2
        go_ret2
        obtain rfl : k = s.size := by omega
        exact ⟨ret_of (by rw [Hgo.out, HR.out, num_end]; rfl), rfl⟩
  · skip
    go_enter Tryd.func67, Tryd.ntmps67
    go_wp2
    go_loop [4, 21] (fun t i => ∃ k n : Nat, k ≤ s.size ∧ i = .int .i64 k ∧ t = .int .i64 n ∧ n ≤ 2147483647 ∧ Hid (P.numGo s.data.toList 0 = P.numGo (s.data.toList.drop k) n)) (fun _ i => s.size - (intOf i).toNat)
    case atStart => exact ⟨0, 0, Nat.zero_le _, rfl, rfl, by omega, Lib.hid rfl⟩
    case round =>
      obtain ⟨k, n, hk, rfl, rfl, hn, HR⟩ := hrel
      by_cases hlt : k < s.size
      · go_wp2
        · go_ret2
          exact ⟨ret_of (by rw [Hgo.out, HR.out, num_bad s k n hlt (by omega)]; rfl), rfl⟩
        · go_ret2
          exact ⟨ret_of (by rw [Hgo.out, HR.out, num_big s k n hlt (by omega) (by omega) (by assumption)]; rfl), rfl⟩
        · have hon := num_on s k n hlt (by omega) (by omega) (by assumption)
          go_round
          case rel => exact ⟨k + 1, 10 * n + (s[k].toNat - 48), by omega, by go_num, by go_num, hon.2, Lib.hid (HR.out.trans hon.1)⟩
          case measure => simp [intOf]; omega
        · go_ret2
          exact ⟨ret_of (by rw [Hgo.out, HR.out, num_bad s k n hlt (by omega)]; rfl), rfl⟩
      · go_wp2
        go_ret2
        obtain rfl : k = s.size := by omega
        exact ⟨ret_of (by rw [Hgo.out, HR.out, num_end]; rfl), rfl⟩

theorem number_any (s : ByteArray) (w : World) (hs : s.size ≤ maxLen) :
    Calls Tryd.prog 67 #[.string s] w fun e w' => e = .returned (numVal (P.number s.data.toList)) ∧ w = w' := by
  by_cases h : 0 < s.size
  · by_cases h0 : s.size = 1 ∨ ¬ s[0].toNat = 48
    · exact number_loop s w hs h h0
    · have Hn := Lib.hid (number_zero s (by omega) (by omega))
      have e1 : s.toList.isEmpty = false := by
        rw [Lib.toList_data, List.isEmpty_eq_false_iff]; intro e; rw [Lib.size_eq, e] at h; simp at h
      have e2 : ¬ s.toList = [] := by intro e; rw [e] at e1; simp at e1
      have hz : ((s[0].toNat : Int) == 48) = true := beq_iff_eq.2 (by omega)
      have h2 : 1 < (s.size : Int) := by omega
      clear h0
      unfold maxLen at hs
      go_enter Tryd.func67, Tryd.ntmps67
      go_wp2
      go_ret2
      exact ⟨ret_of (by rw [Hn.out]; rfl), rfl⟩
  · have h0 : s.size = 0 := by omega
    have Hn := Lib.hid (number_nil s h0)
    have e1 : s.toList = [] := by rw [Lib.toList_data]; exact List.eq_nil_of_length_eq_zero (by rw [← Lib.size_eq]; exact h0)
    clear h0
    go_enter Tryd.func67, Tryd.ntmps67
    go_wp2
    go_ret2
    exact ⟨ret_of (by rw [Hn.out]; rfl), rfl⟩

end Go.Proofs.YtddakaeacgojmaaDoor.T
