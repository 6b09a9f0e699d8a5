/-
  Plain facts on numbers and their texts: the text of a number up to 2^31 - 1 is read as that number; what is read as a number is that number's text; reading without a bound and asking at the end comes to the same.
  Small facts on texts as bytes; the contracts of text.Number and text.Decimal in closed form.
  The contract of text.Name: it returns, whatever text it is handed, what the plain function says, and leaves the world as it was.
  The contracts of the reference's Number, Name and Decimal: they come to the same plain functions as the program's own.
  The contract of the reference's Decimal, by induction over the number.
  The contract of the reference's Lines: for all bytes of at most 2^22.
  The contracts of the reference's Right and Join: for all lines of a bulk of at most 2^22.
  What the laws of layer 5 ask of the functions that they call, in one form each.
  A range over the items that are seen, with their places: the iterator's contract.
  The contract of view's Cut.
  A region of a loop's body over a function, walked as a region of any other code: without its fence.
  The contract of view's Of.
  The contract of intern's Counts.
-/
import Derived.Test.YtcnnbchaelboeaaGca
import Derived.Deep.RegionWith
import Derived.Test.YtcnnbchaelboeaaGcb
import Derived.RangeFuncNested
import Derived.RangeFuncBox
import Derived.RangeFuncBound
import Derived.RangeFuncCalls
import Derived.RangeFuncLeaves
import Derived.Shelf.Abstract
import Derived.Shelf.RegionOpen
import Derived.WalkKit
import Derived.OwnWalkIn
import Derived.TacticsInMore
import Derived.LoopNIn
import Derived.LoopIn
import Derived.Maps.AppendAt
import Derived.Deep.RegionHeld
import Derived.Lib.Hide
import Derived.Deep.AppendLies
namespace Go.Proofs.Ytcnnbchaelboeaa.P

/-- The digits of a list read on from n, without a bound. -/
def valGo : List UInt8 → Nat → Option Nat
  | [], n => some n
  | c :: r, n => if c.toNat < 48 ∨ 57 < c.toNat then none else valGo r (10 * n + (c.toNat - 48))
/-- Asked at the end. -/
def upTo (o : Option Nat) : Option Nat := o.bind fun m => if 2147483647 < m then none else some m

theorem valGo_ge : ∀ (l : List UInt8) (n m : Nat), valGo l n = some m → n * 10 ^ l.length ≤ m
  | [], n, m, h => by simp [valGo] at h; simp; omega
  | c :: r, n, m, h => by
    rw [valGo] at h
    split at h
    · cases h
    · have := valGo_ge r _ m h
      rw [List.length_cons, Nat.pow_succ]
      have e : (10 * n) * 10 ^ r.length ≤ (10 * n + (c.toNat - 48)) * 10 ^ r.length := Nat.mul_le_mul_right _ (by omega)
      have e2 : n * (10 ^ r.length * 10) = (10 * n) * 10 ^ r.length := by rw [Nat.mul_comm (10 ^ r.length) 10, ← Nat.mul_assoc, Nat.mul_comm n 10]
      omega
theorem valGo_le (l : List UInt8) (n m : Nat) (h : valGo l n = some m) : n ≤ m := by
  have h1 := valGo_ge l n m h
  have h2 : n * 1 ≤ n * 10 ^ l.length := Nat.mul_le_mul_left _ (Nat.pow_pos (by omega))
  omega

theorem numGo_val : ∀ (l : List UInt8) (n : Nat), n ≤ 2147483647 → numGo l n = upTo (valGo l n)
  | [], n, h => by simp [numGo, valGo, upTo]; omega
  | c :: r, n, h => by
    rw [numGo, valGo]
    split
    · rfl
    · split
      · next hb =>
        cases e : valGo r (10 * n + (c.toNat - 48)) with
        | none => rfl
        | some m =>
          have := valGo_le _ _ _ e
          simp [upTo]; omega
      · next hb => exact numGo_val r _ (by omega)

/-- Too long: more than ten digits without a 0 ahead. -/
theorem number_long (l : List UInt8) (h : 10 < l.length) : number l = none := by
  rw [number]
  split
  · rfl
  · next hc =>
    match l, h, hc with
    | c :: r, h, hc =>
      rw [numGo_val _ _ (by omega)]
      cases e : valGo (c :: r) 0 with
      | none => rfl
      | some m =>
        have hne : c ≠ 48 := fun e => hc (.inr ⟨by rw [e]; rfl, by simp at h ⊢; omega⟩)
        rw [valGo] at e
        split at e
        · cases e
        · next hd =>
          have h1 := valGo_ge r _ m e
          have hc48 : c.toNat ≠ 48 := fun e => hne (UInt8.toNat_inj.1 e)
          have h2 : 1 * 10 ^ 10 ≤ (10 * 0 + (c.toNat - 48)) * 10 ^ r.length :=
            Nat.mul_le_mul (by omega) (Nat.pow_le_pow_right (by omega) (by simp at h; omega))
          simp [upTo]; omega
theorem number_val (l : List UInt8) (h0 : l ≠ []) (h : ¬ (1 < l.length ∧ l.head? = some 48)) : number l = upTo (valGo l 0) := by
  rw [number, if_neg (by rintro (e | e); exact h0 e; exact h ⟨e.2, e.1⟩), numGo_val _ _ (by omega)]

theorem numGo_snoc : ∀ (l : List UInt8) (c : UInt8) (n : Nat), numGo (l ++ [c]) n = (numGo l n).bind fun m => numGo [c] m
  | [], c, n => by simp [numGo]
  | x :: r, c, n => by
    rw [List.cons_append, numGo, numGo]
    split
    · rfl
    · split
      · rfl
      · exact numGo_snoc r c _

theorem digit (d : Nat) (h : d < 10) : (UInt8.ofNat (48 + d)).toNat = 48 + d := by
  rw [UInt8.toNat_ofNat']; omega
theorem digit_of (c : UInt8) (h : 48 ≤ c.toNat) (h2 : c.toNat ≤ 57) : UInt8.ofNat (48 + (c.toNat - 48)) = c := by
  rw [show 48 + (c.toNat - 48) = c.toNat by omega]; simp

theorem numGo_dec (u : Nat) (h : u ≤ 2147483647) : numGo (Lib.decDigits u) 0 = some u := by
  induction u using Nat.strongRecOn with
  | ind u ih =>
    rw [Lib.decDigits]
    split
    · next hu => rw [numGo, digit u hu, if_neg (by omega), if_neg (by omega), numGo]; congr 1; omega
    · next hu =>
      rw [numGo_snoc, ih (u / 10) (by omega) (by omega)]
      show numGo [_] (u / 10) = _
      rw [numGo, digit _ (by omega), if_neg (by omega), if_neg (by omega), numGo]
      congr 1; omega
theorem dec_ne (u : Nat) : Lib.decDigits u ≠ [] := by
  rw [Lib.decDigits]; split <;> simp
theorem dec_head (u : Nat) : 1 ≤ u → (Lib.decDigits u).head? ≠ some 48 := by
  induction u using Nat.strongRecOn with
  | ind u ih =>
    intro hu1
    rw [Lib.decDigits]
    split
    · next hu =>
      simp only [List.head?_cons, ne_eq, Option.some.injEq]
      intro e
      have := congrArg UInt8.toNat e
      rw [digit u hu] at this
      simp at this; omega
    · next hu =>
      have hne := dec_ne (u / 10)
      have := ih (u / 10) (by omega) (by omega)
      cases e : Lib.decDigits (u / 10) with
      | nil => exact absurd e hne
      | cons x r => rw [e] at this; simpa using this
theorem number_dec (u : Nat) (h : u ≤ 2147483647) : number (Lib.decDigits u) = some u := by
  rw [number, if_neg, numGo_dec u h]
  rintro (e | ⟨e1, e2⟩)
  · exact dec_ne u e
  · rcases Nat.eq_zero_or_pos u with h0 | h0
    · subst h0; rw [Lib.decDigits_one (by omega)] at e2; simp at e2
    · exact dec_head u h0 e1

theorem numGo_le (l : List UInt8) (n m : Nat) (hn : n ≤ 2147483647) (h : numGo l n = some m) : n ≤ m ∧ m ≤ 2147483647 := by
  rw [numGo_val l n hn] at h
  cases e : valGo l n with
  | none => rw [e] at h; cases h
  | some k =>
    rw [e] at h
    have := valGo_le l n k e
    simp only [upTo, Option.bind_some] at h
    split at h
    · cases h
    · injection h with h; omega

theorem dec_numGo (l : List UInt8) : ∀ n, l ≠ [] → (l.head? = some 48 → l.length = 1) → numGo l 0 = some n → Lib.decDigits n = l := by
  induction hl : l.length generalizing l with
  | zero => intro n h; exact absurd (List.eq_nil_of_length_eq_zero hl) h
  | succ k ih =>
    intro n hne hz h
    obtain ⟨i, c, rfl⟩ : ∃ i c, l = i ++ [c] := ⟨l.dropLast, l.getLast hne, (List.dropLast_concat_getLast hne).symm⟩
    rw [numGo_snoc] at h
    cases em : numGo i 0 with
    | none => rw [em] at h; cases h
    | some m =>
      rw [em] at h
      simp only [Option.bind_some, numGo] at h
      split at h
      · cases h
      · next hd =>
        split at h
        · cases h
        · next hb =>
          injection h with h
          subst h
          by_cases hi : i = []
          · subst hi
            simp only [numGo, Option.some.injEq] at em
            subst em
            rw [Lib.decDigits_one (by omega), show 48 + (10 * 0 + (c.toNat - 48)) = 48 + (c.toNat - 48) by omega, digit_of c (by omega) (by omega)]
            rfl
          · have hih := ih i (by simp at hl; omega) m hi (fun e => by
              have : (i ++ [c]).head? = some 48 := by
                cases i with
                | nil => exact absurd rfl hi
                | cons x r => simpa using e
              have := hz this
              have hik : i.length = k := by simp at hl; omega
              exact absurd (List.eq_nil_of_length_eq_zero (by omega)) hi) em
            have hm : 1 ≤ m := by
              rcases Nat.eq_zero_or_pos m with h0 | h0
              · subst h0
                rw [Lib.decDigits_one (by omega)] at hih
                have : (i ++ [c]).head? = some 48 := by rw [← hih]; rfl
                have := hz this
                have hik : i.length = k := by simp at hl; omega
                exact absurd (List.eq_nil_of_length_eq_zero (by omega)) hi
              · exact h0
            rw [Lib.decDigits, dif_neg (by omega), show (10 * m + (c.toNat - 48)) / 10 = m by omega, show (10 * m + (c.toNat - 48)) % 10 = c.toNat - 48 by omega, hih, digit_of c (by omega) (by omega)]
theorem dec_number (l : List UInt8) (n : Nat) (h : number l = some n) : Lib.decDigits n = l ∧ n ≤ 2147483647 := by
  rw [number] at h
  split at h
  · cases h
  · next hc =>
    refine ⟨dec_numGo l n (fun e => hc (.inl e)) (fun e => ?_) h, (numGo_le l 0 n (by omega) h).2⟩
    have : ¬ 1 < l.length := fun e2 => hc (.inr ⟨e, e2⟩)
    cases l with
    | nil => simp at e
    | cons x r => simp at this ⊢; omega

theorem decimal_in (n : Int) (h0 : 0 ≤ n) (h1 : n ≤ 2147483647) : decimal n = Lib.decDigits n.toNat := by rw [decimal, if_neg (by omega)]
theorem decimal_out (n : Int) (h : n < 0 ∨ 2147483647 < n) : decimal n = [63] := by rw [decimal, if_pos h]
theorem number_decimal (n : Int) (h0 : 0 ≤ n) (h1 : n ≤ 2147483647) : number (decimal n) = some n.toNat := by
  rw [decimal_in n h0 h1, number_dec _ (by omega)]
theorem number_untold (n : Int) (h : n < 0 ∨ 2147483647 < n) : number (decimal n) = none := by
  rw [decimal_out n h]; decide
theorem decimal_number (l : List UInt8) (n : Nat) (h : number l = some n) : decimal n = l := by
  have := dec_number l n h
  rw [decimal_in n (by omega) (by omega)]
  simpa using this.1
theorem decimal_length (n : Int) : (decimal n).length ≤ 10 := by
  by_cases h : n < 0 ∨ 2147483647 < n
  · rw [decimal_out n h]; decide
  · rw [decimal_in n (by omega) (by omega)]
    rcases Nat.lt_or_ge 10 (Lib.decDigits n.toNat).length with hl | hl
    · have := number_long _ hl
      rw [number_dec _ (by omega)] at this
      cases this
    · exact hl
end Go.Proofs.Ytcnnbchaelboeaa.P

namespace Go.Proofs.Ytcnnbchaelboeaa.T
open Go.RowKit

theorem list_data (l : List UInt8) : (⟨l.toArray⟩ : ByteArray).data.toList = l := by simp
theorem list_size (l : List UInt8) : (⟨l.toArray⟩ : ByteArray).size = l.length := by simp [ByteArray.size]
theorem str_eta (s : ByteArray) : (⟨s.data.toList.toArray⟩ : ByteArray) = s := by cases s; simp

end Go.Proofs.Ytcnnbchaelboeaa.T

namespace Go.Proofs.Ytcnnbchaelboeaa.T
open Go.RowKit

/-- May a text be a name? -/
theorem name_long (s : ByteArray) (h : s.size < 1 ∨ 64 < s.size) : P.name s.data.toList = false := by
  unfold P.name; rw [← Lib.size_eq]
  rcases h with h | h
  · rw [decide_eq_false (by omega)]; rfl
  · rw [decide_eq_false (p := s.size ≤ 64) (by omega), Bool.and_false]; rfl
theorem name_all (s : ByteArray) (h1 : 1 ≤ s.size) (h2 : s.size ≤ 64) : P.name s.data.toList = s.data.toList.all fun c => decide (33 ≤ c.toNat) && decide (c.toNat ≤ 126) := by
  unfold P.name; rw [← Lib.size_eq, decide_eq_true h1, decide_eq_true h2]; rfl
theorem all_bad (s : ByteArray) (k : Nat) (hk : k < s.size) (h : (s[k].toNat : Int) < 33 ∨ 126 < (s[k].toNat : Int)) : (s.data.toList.all fun c => decide (33 ≤ c.toNat) && decide (c.toNat ≤ 126)) = false := by
  have hl : k < s.data.toList.length := by rw [← Lib.size_eq]; exact hk
  rw [List.all_eq_false]
  refine ⟨s.data.toList[k], List.getElem_mem hl, ?_⟩
  rw [byte s k hk hl]
  simp only [Bool.and_eq_true, decide_eq_true_eq, not_and]
  omega

end Go.Proofs.Ytcnnbchaelboeaa.T

namespace Go.Proofs.Ytcnnbchaelboeaa.T
open Go.RowKit

theorem val_bad (s : ByteArray) (k n : Nat) (hk : k < s.size) (h : (s[k].toNat : Int) < 48 ∨ 57 < (s[k].toNat : Int)) : P.valGo (s.data.toList.drop k) n = none := by
  have hl : k < s.data.toList.length := by rw [← Lib.size_eq]; exact hk
  rw [List.drop_eq_getElem_cons hl, P.valGo, if_pos (by rw [byte s k hk hl]; omega)]
theorem val_on (s : ByteArray) (k n : Nat) (hk : k < s.size) (h1 : 48 ≤ (s[k].toNat : Int)) (h2 : (s[k].toNat : Int) ≤ 57) :
    P.valGo (s.data.toList.drop k) n = P.valGo (s.data.toList.drop (k + 1)) (10 * n + (s[k].toNat - 48)) := by
  have hl : k < s.data.toList.length := by rw [← Lib.size_eq]; exact hk
  have e := byte s k hk hl
  rw [List.drop_eq_getElem_cons hl, P.valGo, if_neg (by rw [e]; omega), e]
theorem val_end (s : ByteArray) (n : Nat) : P.valGo (s.data.toList.drop s.size) n = some n := by
  rw [Lib.size_eq, List.drop_length, P.valGo]
theorem pow_bound {n d k : Nat} (h : n < 10 ^ k) (hd : d < 10) (hk : k < 10) : 10 * n + d < 10 ^ (k + 1) ∧ 10 * n + d ≤ 9999999999 := by
  have h1 : 10 * n + d < 10 ^ (k + 1) := by rw [Nat.pow_succ]; omega
  have h2 : 10 ^ (k + 1) ≤ 10 ^ 10 := Nat.pow_le_pow_right (by omega) (by omega)
  omega
theorem number_val (s : ByteArray) (h : 0 < s.size) (h0 : s.size ≤ 1 ∨ ¬ s[0].toNat = 48) : P.number s.data.toList = P.upTo (P.valGo s.data.toList 0) := by
  rw [number_go s h (by rcases h0 with h0 | h0; exact .inl (by omega); exact .inr h0), P.numGo_val _ _ (by omega)]
theorem upTo_none : P.upTo none = none := rfl
theorem upTo_big (n : Nat) (h : 2147483647 < n) : P.upTo (some n) = none := by simp [P.upTo, h]
theorem upTo_in (n : Nat) (h : n ≤ 2147483647) : P.upTo (some n) = some n := by simp [P.upTo]; omega

end Go.Proofs.Ytcnnbchaelboeaa.T

namespace Go.Proofs.Ytcnnbchaelboeaa.T
open Go.RowKit

theorem bcell {W w1 : World} (hb : Below W.heap.size W w1) (b o : Nat) (h : b < W.heap.size) : w1.cell? ⟨b, o, none⟩ = W.cell? ⟨b, o, none⟩ := hb.cell (p := ⟨b, o, none⟩) h
theorem dec_small (m : Nat) (h : m < 10) : Lib.decDigits m = [UInt8.ofNat (48 + m)] := Lib.decDigits_one h
theorem dec_big (m : Nat) (h : ¬ m < 10) : Lib.decDigits m = Lib.decDigits (m / 10) ++ [UInt8.ofNat (48 + m % 10)] := by
  conv => lhs; rw [Lib.decDigits, dif_neg h]
theorem str_append (l r : List UInt8) : (⟨l.toArray⟩ : ByteArray) ++ ⟨r.toArray⟩ = ⟨(l ++ r).toArray⟩ := by
  apply ByteArray.ext
  simp

end Go.Proofs.Ytcnnbchaelboeaa.T

namespace Go.Proofs.Ytcnnbchaelboeaa.T
open Go.RowKit

theorem lines_nl {l cur : List UInt8} {k : Nat} (hk : k < l.length) (h : l[k].toNat = 10) : P.lines cur (l.drop k) = (cur, false) :: P.lines [] (l.drop (k + 1)) := by
  rw [List.drop_eq_getElem_cons hk, P.lines, if_pos (UInt8.toNat_inj.1 h)]
theorem lines_more {l cur : List UInt8} {k : Nat} (hk : k < l.length) (h : ¬ l[k].toNat = 10) : P.lines cur (l.drop k) = P.lines (cur ++ [l[k]]) (l.drop (k + 1)) := by
  rw [List.drop_eq_getElem_cons hk, P.lines, if_neg (fun e => h (by rw [e]; rfl))]

end Go.Proofs.Ytcnnbchaelboeaa.T

namespace Go.Proofs.Ytcnnbchaelboeaa.T
open Go.RowKit

end Go.Proofs.Ytcnnbchaelboeaa.T

namespace Go.Proofs.Ytcnnbchaelboeaa.V
set_option linter.unusedVariables false
set_option linter.unusedSimpArgs false
open Go.RowKit
open T
open I (It Lb ItemsIn ItemsAt ItemsOk itCells itCells_snoc itCells_at items_cells own_at own_below alloc1)

/-- A row of a call's own stays when a cell of a block of another type is stored. -/
theorem own_stored {w : World} {base g i : Nat} {u : Value} {e e' : TypeId} {size n : Nat} {v : Value} {xs : List Value} {cs : Array Value} (h : w.ownsRow base e size v n xs) (hg : w.heap[g]? = some (.cells cs e' (0, 0))) (hne : e' ≠ e) : (w.setCell ⟨g, i, none⟩ u).ownsRow base e size v n xs :=
  h.kept (grown_set w ⟨g, i, none⟩ u) (own_ne h fun cs' he => by rw [hg] at he; injection he with he; injection he with _ he; exact hne he)
def LvC (fn : FuncId) : Prop := ∀ W : World, Calls Try.prog fn #[] W fun e w' => e = .returned (.bool true) ∧ Below W.heap.size W w'
theorem LvC.at {fn : FuncId} (h : LvC fn) (W : World) : Calls Try.prog fn #[] W fun e w' => e = .returned (.bool true) ∧ Below W.heap.size W w' := h W
/-- same, of two views of the same lines and places. -/
def SvC (fn : FuncId) (ls : List (List UInt8 × Bool)) (ts : List Int) : Prop := ∀ (W : World) (LA TA LB TB : Option Addr) (lc tc lc' tc' : Nat), LinesIn W LA ls → IntsIn W TA ts → LinesIn W LB ls → IntsIn W TB ts →
  Calls Try.prog fn #[.agg #[.slice LA ls.length lc, .slice TA ts.length tc], .agg #[.slice LB ls.length lc', .slice TB ts.length tc']] W fun e w' => e = .returned (.bool true) ∧ Below W.heap.size W w'
theorem SvC.at {fn : FuncId} {ls : List (List UInt8 × Bool)} {ts : List Int} (h : SvC fn ls ts) (W : World) {LA TA LB TB : Option Addr} {lc tc lc' tc' : Nat} (h1 : LinesIn W LA ls) (h2 : IntsIn W TA ts) (h3 : LinesIn W LB ls) (h4 : IntsIn W TB ts) :
  Calls Try.prog fn #[.agg #[.slice LA ls.length lc, .slice TA ts.length tc], .agg #[.slice LB ls.length lc', .slice TB ts.length tc']] W fun e w' => e = .returned (.bool true) ∧ Below W.heap.size W w' := h W LA TA LB TB lc tc lc' tc' h1 h2 h3 h4
def BsEnd (W : World) (b : List UInt8) (e : Ending) (w' : World) : Prop := ∃ A cap, e = .returned (.slice A b.length cap) ∧ BytesIn w' A b ∧ Below W.heap.size W w'
/-- Text, of a view. -/
def TxC (fn : FuncId) (ls : List (List UInt8 × Bool)) (b : List UInt8) : Prop := ∀ (W : World) (LA TA : Option Addr) (lc tn tc : Nat), LinesIn W LA ls → Calls Try.prog fn #[.agg #[.slice LA ls.length lc, .slice TA tn tc]] W (BsEnd W b)
theorem TxC.at {fn : FuncId} {ls : List (List UInt8 × Bool)} {b : List UInt8} (h : TxC fn ls b) (W : World) {LA TA : Option Addr} {lc tn tc : Nat} (h1 : LinesIn W LA ls) : Calls Try.prog fn #[.agg #[.slice LA ls.length lc, .slice TA tn tc]] W (BsEnd W b) := h W LA TA lc tn tc h1
/-- Join, of lines. -/
def JnC (fn : FuncId) (ls : List (List UInt8 × Bool)) (b : List UInt8) : Prop := ∀ (W : World) (LA : Option Addr) (lc : Nat), LinesIn W LA ls → Calls Try.prog fn #[.slice LA ls.length lc] W (BsEnd W b)
theorem JnC.at {fn : FuncId} {ls : List (List UInt8 × Bool)} {b : List UInt8} (h : JnC fn ls b) (W : World) {LA : Option Addr} {lc : Nat} (h1 : LinesIn W LA ls) : Calls Try.prog fn #[.slice LA ls.length lc] W (BsEnd W b) := h W LA lc h1
def NsEnd (W : World) (ds : List Int) (e : Ending) (w' : World) : Prop := ∃ A cap, e = .returned (.slice A ds.length cap) ∧ IntsIn w' A ds ∧ Below W.heap.size W w'
/-- IDs, of a view. -/
def IdC (fn : FuncId) (A : Option Addr) (n cap : Nat) (l : List It) (ts ds : List Int) : Prop := ∀ (W : World) (LA TA : Option Addr) (ln lc tc : Nat), ItemsIn W A l → IntsIn W TA ts → Calls Try.prog fn #[.slice A n cap, .agg #[.slice LA ln lc, .slice TA ts.length tc]] W (NsEnd W ds)
theorem IdC.at {fn : FuncId} {A : Option Addr} {n cap : Nat} {l : List It} {ts ds : List Int} (h : IdC fn A n cap l ts ds) (W : World) {LA TA : Option Addr} {ln lc tc : Nat} (h1 : ItemsIn W A l) (h2 : IntsIn W TA ts) :
    Calls Try.prog fn #[.slice A n cap, .agg #[.slice LA ln lc, .slice TA ts.length tc]] W (NsEnd W ds) := h W LA TA ln lc tc h1 h2
/-- Ints, of the same numbers. -/
def InC (fn : FuncId) (ds : List Int) : Prop := ∀ (W : World) (A B : Option Addr) (c c' : Nat), IntsIn W A ds → IntsIn W B ds → Calls Try.prog fn #[.slice A ds.length c, .slice B ds.length c'] W fun e w' => e = .returned (.bool true) ∧ Below W.heap.size W w'
theorem InC.at {fn : FuncId} {ds : List Int} (h : InC fn ds) (W : World) {A B : Option Addr} {c c' : Nat} (h1 : IntsIn W A ds) (h2 : IntsIn W B ds) : Calls Try.prog fn #[.slice A ds.length c, .slice B ds.length c'] W fun e w' => e = .returned (.bool true) ∧ Below W.heap.size W w' := h W A B c c' h1 h2
def IsEnd (W : World) (c : List It) (e : Ending) (w' : World) : Prop := ∃ A cap, e = .returned (.slice A c.length cap) ∧ ItemsIn w' A c ∧ Below W.heap.size W w'
/-- Cut. -/
def CuC (fn : FuncId) (A : Option Addr) (n cap : Nat) (f0 : Int) (f1 : Nat) (l c : List It) : Prop := ∀ W : World, ItemsIn W A l → Calls Try.prog fn #[.slice A n cap, .agg #[.int .i64 f0, .int .u64 (f1 : Int)]] W (IsEnd W c)
theorem CuC.at {fn : FuncId} {A : Option Addr} {n cap : Nat} {f0 : Int} {f1 : Nat} {l c : List It} (h : CuC fn A n cap f0 f1 l c) (W : World) (h1 : ItemsIn W A l) : Calls Try.prog fn #[.slice A n cap, .agg #[.int .i64 f0, .int .u64 (f1 : Int)]] W (IsEnd W c) := h W h1
/-- sameItems, of the same items. -/
def SiC (fn : FuncId) (ds : List It) : Prop := ∀ (W : World) (A B : Option Addr) (c c' : Nat), ItemsIn W A ds → ItemsIn W B ds → Calls Try.prog fn #[.slice A ds.length c, .slice B ds.length c'] W fun e w' => e = .returned (.bool true) ∧ Below W.heap.size W w'
theorem SiC.at {fn : FuncId} {ds : List It} (h : SiC fn ds) (W : World) {A B : Option Addr} {c c' : Nat} (h1 : ItemsIn W A ds) (h2 : ItemsIn W B ds) : Calls Try.prog fn #[.slice A ds.length c, .slice B ds.length c'] W fun e w' => e = .returned (.bool true) ∧ Below W.heap.size W w' := h W A B c c' h1 h2

/-- sameItems, of any items. -/
def SgC (fn : FuncId) (xs ys : List It) (b : Bool) : Prop := ∀ (W : World) (A B : Option Addr) (c c' : Nat), ItemsIn W A xs → ItemsIn W B ys → Calls Try.prog fn #[.slice A xs.length c, .slice B ys.length c'] W fun e w' => e = .returned (.bool b) ∧ Below W.heap.size W w'
theorem SgC.at {fn : FuncId} {xs ys : List It} {b : Bool} (h : SgC fn xs ys b) (W : World) {A B : Option Addr} {c c' : Nat} (h1 : ItemsIn W A xs) (h2 : ItemsIn W B ys) : Calls Try.prog fn #[.slice A xs.length c, .slice B ys.length c'] W fun e w' => e = .returned (.bool b) ∧ Below W.heap.size W w' := h W A B c c' h1 h2
/-- The first place that is n, counted from a number on. -/
def fnd (n : Int) : Nat → List Int → Option Nat
  | _, [] => none
  | k, x :: r => if x = n then some k else fnd n (k + 1) r
def fndK (o : Option Nat) : Int := match o with | some i => (i : Int) | none => 0
theorem fnd_drop {n : Int} {ts : List Int} {j : Nat} (hj : j < ts.length) : fnd n j (ts.drop j) = if ts[j] = n then some j else fnd n (j + 1) (ts.drop (j + 1)) := by
  rw [List.drop_eq_getElem_cons hj, fnd]
/-- Is i no place where an item can be put in? -/
def aftNo (ts : List Int) (n : Int) : Bool := decide (n < 0) || decide ((ts.length : Int) < n) || (decide (0 < n) && (decide (ts.getD (n - 1).toNat 0 < 0) || decide (1073741824 ≤ ts.getD (n - 1).toNat 0)))
/-- Where an item is put in ahead of line n, and an error. -/
def aftK (ts : List Int) (n : Int) : Int := if aftNo ts n = true then 0 else if 0 < n then ts.getD (n - 1).toNat 0 + 1 else 0
def aftE (ts : List Int) (n : Int) : Int := if aftNo ts n = true then 2 else 0
def FdC (fn : FuncId) (ts : List Int) (n k : Int) (b : Bool) : Prop := ∀ (W : World) (LA TA : Option Addr) (ln lc tc : Nat), IntsIn W TA ts → Calls Try.prog fn #[.agg #[.slice LA ln lc, .slice TA ts.length tc], .int .i64 n] W fun e w' => e = .returned (.tuple #[.int .i64 k, .bool b]) ∧ Below W.heap.size W w'
theorem FdC.at {fn : FuncId} {ts : List Int} {n k : Int} {b : Bool} (h : FdC fn ts n k b) (W : World) {LA TA : Option Addr} {ln lc tc : Nat} (h1 : IntsIn W TA ts) : Calls Try.prog fn #[.agg #[.slice LA ln lc, .slice TA ts.length tc], .int .i64 n] W fun e w' => e = .returned (.tuple #[.int .i64 k, .bool b]) ∧ Below W.heap.size W w' := h W LA TA ln lc tc h1
def AfC (fn : FuncId) (ts : List Int) (n k r : Int) : Prop := ∀ (W : World) (LA TA : Option Addr) (ln lc tc : Nat), IntsIn W TA ts → Calls Try.prog fn #[.agg #[.slice LA ln lc, .slice TA ts.length tc], .int .i64 n] W fun e w' => e = .returned (.tuple #[.int .i64 k, .int .i64 r]) ∧ Below W.heap.size W w'
theorem AfC.at {fn : FuncId} {ts : List Int} {n k r : Int} (h : AfC fn ts n k r) (W : World) {LA TA : Option Addr} {ln lc tc : Nat} (h1 : IntsIn W TA ts) : Calls Try.prog fn #[.agg #[.slice LA ln lc, .slice TA ts.length tc], .int .i64 n] W fun e w' => e = .returned (.tuple #[.int .i64 k, .int .i64 r]) ∧ Below W.heap.size W w' := h W LA TA ln lc tc h1
end Go.Proofs.Ytcnnbchaelboeaa.V

namespace Go.Proofs.Ytcnnbchaelboeaa.V
set_option linter.unusedVariables false
set_option linter.unusedSimpArgs false
open Go.RowKit Go.Shelf
open T
open I (It Lb ItemsIn ItemsAt ItemsOk itCells itCells_snoc itCells_at items_cells own_at own_below alloc1)
attribute [local go_sem] Oper.semAt_some

/-- The items that are seen, with their places. -/
def prs (o : Lb) : Nat → List It → List (Nat × It)
  | _, [] => []
  | k, x :: r => if sees o x = true then (k, x) :: prs o (k + 1) r else prs o (k + 1) r
theorem prs_snoc (o : Lb) (x : It) : ∀ (l : List It) (k : Nat), prs o k (l ++ [x]) = prs o k l ++ (if sees o x = true then [(k + l.length, x)] else [])
  | [], k => by simp [prs]
  | y :: r, k => by
    rw [List.cons_append, prs, prs, prs_snoc o x r (k + 1), List.length_cons, show k + 1 + r.length = k + (r.length + 1) by omega]
    split <;> rfl
theorem prs_take {o : Lb} {l : List It} {k : Nat} (hk : k < l.length) : prs o 0 (l.take (k + 1)) = prs o 0 (l.take k) ++ (if sees o l[k] = true then [(k, l[k])] else []) := by
  rw [List.take_succ_eq_append_getElem hk, prs_snoc, Nat.zero_add, List.length_take, Nat.min_eq_left (by omega)]
theorem prs_le (o : Lb) : ∀ (l : List It) (k : Nat), (prs o k l).length ≤ l.length
  | [], _ => Nat.le_refl _
  | x :: r, k => by
    rw [prs]
    have := prs_le o r (k + 1)
    split <;> simp <;> omega
def itV (x : It) : Value := .agg #[.int .i64 x.id, .int .i64 x.lv, .int .u64 (x.ct : Int), .bool x.an, .string ⟨x.tx.toArray⟩, .bool x.ba]
/-- What lies below n₀ stays, and the blocks from za on, below zb. -/
def KpZ (n₀ za zb : Nat) (W W' : World) : Prop := Below n₀ W W' ∧ ∀ k, za ≤ k → k < zb → W'.heap[k]? = W.heap[k]?
theorem KpZ.t {n₀ za zb : Nat} {A B C : World} (h : KpZ n₀ za zb A B) (k : KpZ n₀ za zb B C) : KpZ n₀ za zb A C := ⟨h.1.trans k.1, fun i h1 h2 => (k.2 i h1 h2).trans (h.2 i h1 h2)⟩
theorem KpZ.b {n₀ za zb : Nat} {w : World} (hn : n₀ ≤ w.heap.size) (hz : zb ≤ w.heap.size) (W : World) (l : Nat) (o o' : Obj) (hl : w.heap.size ≤ l) (h : W.heap[l]? = some o) (h1 : o.isCells = false) (h2 : o.isWalk = false) : KpZ n₀ za zb W (W.putObj l o') :=
  ⟨belowK_b hn W l o o' hl h h1 h2, fun k _ hk => by
    have := (belowK_b (n₀ := w.heap.size) (Nat.le_refl _) W l o o' hl h h1 h2).block k (by omega)
    exact this⟩
theorem KpZ.of {n₀ za zb : Nat} {W W' : World} (h : Below W.heap.size W W') (hn : n₀ ≤ W.heap.size) (hz : zb ≤ W.heap.size) : KpZ n₀ za zb W W' := ⟨h.mono hn, fun k _ hk => h.block k (by omega)⟩
theorem KpZ.refl (n₀ za zb : Nat) (W : World) : KpZ n₀ za zb W W := ⟨Below.refl _ _, fun _ _ _ => rfl⟩
end Go.Proofs.Ytcnnbchaelboeaa.V

namespace Go.Proofs.Ytcnnbchaelboeaa.V
set_option linter.unusedVariables false
set_option linter.unusedSimpArgs false
open Go.RowKit Go.Shelf
open T
open I (It Lb ItemsIn ItemsAt ItemsOk itCells itCells_snoc itCells_at items_cells own_at own_below alloc1)
attribute [local go_sem] Oper.semAt_some

theorem prs_cut (o : Lb) : ∀ (l : List It) (k : Nat), (prs o k l).map (·.2) = cut o l
  | [], _ => rfl
  | x :: r, k => by
    rw [prs]
    by_cases hx : sees o x = true
    · rw [if_pos hx, List.map_cons, prs_cut o r (k + 1)]; simp [cut, hx]
    · rw [if_neg hx, prs_cut o r (k + 1)]; simp [cut, hx]
/-- Behind an append whose row is stored into a box ahead of it: what lies below n₀ stays, and the blocks from za on, below zb. -/
theorem appendedZ {W w1 : World} {n₀ za zb r₀ B : Nat} {t e : TypeId} {size : Nat} {v v' : Value} {k m : Nat} {xs ys : List Value} {tmp : Obj}
    (hv : Boxed W B t v) (hte : t ≠ e) (hrow : W.ownsRow r₀ e size v k xs) (hr₀ : r₀ ≤ W.heap.size) (hB : n₀ ≤ B) (hBz : B < za) (hnr : n₀ ≤ r₀) (hzr : zb ≤ r₀)
    (hown' : w1.ownsRow r₀ e size v' m ys) (hgrow : (W.alloc tmp).grownBy w1 v.ownBlock) :
    Boxed w1 B t v ∧ Boxed (w1.setCell ⟨B, 0, none⟩ v') B t v' ∧ (w1.setCell ⟨B, 0, none⟩ v').ownsRow r₀ e size v' m ys ∧ KeepsOthers W (w1.setCell ⟨B, 0, none⟩ v') ∧ KpZ n₀ za zb W (w1.setCell ⟨B, 0, none⟩ v') := by
  have hv1 : Boxed w1 B t v := (hv.alloc tmp).kept hgrow (hv.not_row hte hrow)
  obtain ⟨-, h2, -, h4, -⟩ := hv.appended hte (own_more hrow (Nat.zero_le r₀)) (Nat.zero_le _) (Nat.zero_le _) (own_more hown' (Nat.zero_le r₀)) hgrow
  have hblk : ∀ i, i < W.heap.size → i < r₀ → i ≠ B → (w1.setCell ⟨B, 0, none⟩ v').heap[i]? = W.heap[i]? := fun i hi hr hne => by
    rw [L.blk_far (g := i) (g' := B) hne v', hgrow.block i (by simp; omega) (fun e' => by have := own_base hrow i e'.symm; omega)]
    exact (alloc1 W tmp).block i hi
  refine ⟨hv1, h2, hown'.kept (grown_set w1 ⟨B, 0, none⟩ v') (own_ne hown' fun cs he => ?_), h4, ⟨?_, fun i h1 h2 => hblk i (by omega) (by omega) (by omega)⟩⟩
  · rw [show w1.heap[B]? = _ from hv1] at he
    injection he with he; injection he with _ he; exact hte he
  · refine (((Below.refl n₀ W).alloc (by omega) tmp).grown hgrow (by simp; omega) fun j ej => ?_).setCell (p := ⟨B, 0, none⟩) hB v'
    have := own_base hrow j ej
    omega
theorem boxed_le {W W' : World} {n : Nat} (h : n ≤ W.heap.size) {row : Option Nat} (hg : W.grownBy W' row) : n ≤ W'.heap.size := Nat.le_trans h hg.size
end Go.Proofs.Ytcnnbchaelboeaa.V

namespace Go.Proofs.Ytcnnbchaelboeaa.V
set_option linter.unusedVariables false
set_option linter.unusedSimpArgs false

def notDefer (o : Oper) : Bool := match o.op with
  | .defer _ => false
  | _ => true
theorem notDefer_out {o : Oper} (h : notDefer o = true) : ∀ c, o.op ≠ .defer c := fun c e => by
  unfold notDefer at h
  rw [e] at h
  cases h
theorem rows_round {n l : Nat} {P : Program} {row : String} {args : Array Value} {w : World} {R : Value → World → Prop} (h : Rows P row args w R) : RowsIn (Fence.wide.inRound l) n P row args w R := by
  intro c cs _
  obtain ⟨v, w', hR, hs⟩ := h c cs
  exact ⟨v, w', hR, stepsIn_wide.2 hs⟩
theorem op_round {n l : Nat} {P : Program} {o : Oper} {a : Act} {w : World} {K : Act → World → Prop} {Q : Exit → Act → World → Prop} (hd : notDefer o = true) (h : o.wp P a w K Q) : o.wpIn (Fence.wide.inRound l) n P a w K Q := by
  unfold Oper.wpIn
  refine ⟨fun _ _ => trivial, ?_⟩
  rw [Oper.semAt_plain _ _ _ (notDefer_out hd)]
  unfold Oper.wp at h
  generalize (execOp a.eval o).run P w = r at *
  cases r with
  | ok x w' =>
    cases x <;> simp only [Oper.upon, Oper.uponIn] at h ⊢
    case value u => exact h
    case skip => exact h
    case defer d => exact h
    case enter f args => exact ⟨fun h => by simp [Fence.wide] at h, callsIn_wide.2 h⟩
    case row row args => exact ⟨fun h => by simp [Fence.wide] at h, rows_round h⟩
  | halt x w' =>
    cases x <;> simp only [Oper.upon, Oper.uponIn] at h ⊢
    case panic u => exact h
theorem any_round {n l : Nat} {P : Program} {md : Region.Mode} {ops : Array Oper} {Q : Exit → Act → World → Prop} (hd : ops.all notDefer = true) (hq : ¬ LetsOut Q) :
    ∀ (fuel : Nat) (listed : Array Bool) (a : Act) (w : World), wpAny P md ops Q fuel listed a w → wpAnyIn (Fence.wide.inRound l) n P md ops Q fuel listed a w
  | 0, _, _, _, h => h
  | fuel + 1, listed, a, w, h => ⟨h.1, fun i hi => by
    have h2 := h.2 i hi
    unfold wpOp at h2
    unfold wpOpIn
    cases ho : ops[i]? with
    | none => rw [ho] at h2; exact any_round hd hq fuel _ _ _ h2
    | some o =>
      rw [ho] at h2
      simp only at h2 ⊢
      split
      · rename_i hw
        simp only [hw, if_true] at h2
        rcases h2 with h2 | h2
        · exact Oper.wpIn_mono (fun a' w' h' => any_round hd hq fuel _ _ _ h') (op_round (Array.all_eq_true'.1 hd o (Array.mem_of_getElem? ho)) h2)
        · exact absurd h2.2 hq
      · rename_i hw
        simp only [hw] at h2
        exact ⟨fun _ _ => trivial, any_round hd hq fuel _ _ _ h2⟩⟩
/-- A region of a round that draws its order, as one outside of it. -/
theorem region_round {n l id : Nat} {P : Program} {ops : Array Oper} {Q : Exit → Act → World → Prop} {a : Act} {w : World} (S : World → Prop) (hm : P.follows .mixedOrders = true) (hd : ops.all notDefer = true) (hq : ¬ LetsOut Q) (hS : S w.drew)
    (h : S w.drew → wpAnyH P .any ops Q S ops.size (Array.replicate ops.size false) a w.drew) : (Code.region id ops true).wpIn (Fence.wide.inRound l) n P Q a w :=
  wpIn_region_any hm (any_round hd hq _ _ _ _ (wpAny_of_held _ _ _ _ (h hS)))
end Go.Proofs.Ytcnnbchaelboeaa.V

namespace Go.Proofs.Ytcnnbchaelboeaa.V
set_option linter.unusedVariables false
set_option linter.unusedSimpArgs false
open Go.RowKit Go.Shelf
open T
open I (It Lb ItemsIn ItemsAt ItemsOk itCells itCells_snoc itCells_at items_cells own_at own_below alloc1)
attribute [local go_sem] Oper.semAt_some

def lastBa (pre : List (Nat × It)) : Bool := (pre.getLast?.map (·.2.ba)).getD false
theorem lastBa_snoc (pre : List (Nat × It)) (x : Nat × It) : lastBa (pre ++ [x]) = x.2.ba := by simp [lastBa]
theorem blk_grown {W W' : World} {row : Option Nat} {i : Nat} {o : Obj} (h : W.heap[i]? = some o) (hg : W.grownBy W' row) (hr : row ≠ some i) : W'.heap[i]? = some o := (hg.block i (L.blk_lt h) (fun e => hr e.symm)).trans h
theorem row_cells {W : World} {row : Option Nat} {i : Nat} {cs : Array Value} {t : TypeId} {f : Nat × Nat} (h : W.heap[i]? = some (.cells cs t f)) (hr : ∀ r, row = some r → ∃ o : Obj, W.heap[r]? = some o ∧ o.isCells = false) : row ≠ some i := fun e => by
  obtain ⟨o, ho, hc⟩ := hr i e
  rw [h] at ho; cases ho; cases hc
theorem own_walk {W W' : World} {row : Option Nat} {base : Nat} {e : TypeId} {size n : Nat} {v : Value} {xs : List Value} (h : W.ownsRow base e size v n xs) (hg : W.grownBy W' row) (hr : ∀ r, row = some r → ∃ o : Obj, W.heap[r]? = some o ∧ o.isCells = false) : W'.ownsRow base e size v n xs := by
  refine h.kept hg ?_
  rcases h.2 with ⟨rfl, _⟩ | ⟨g, cap, cur, rfl, _, hgb, _⟩
  · exact .inl rfl
  · exact .inr fun e' => row_cells hgb hr e'.symm
section
variable {b : Nat} {hx : ByteArray} {ub tb vl : Value} {nl : Nat} {ls : List (List UInt8 × Bool)} {vt : Value} {nt : Nat} {ts : List Int} {bb : Bool} {W W' : World}
/-- A row is in no block of another type. -/
theorem own_type {base : Nat} {e t : TypeId} {size n g : Nat} {v : Value} {xs : List Value} {cs : Array Value} {f : Nat × Nat} (h : W.ownsRow base e size v n xs) (hg : W.heap[g]? = some (.cells cs t f)) (hne : t ≠ e) : v.ownBlock ≠ some g := by
  rcases h.2 with ⟨rfl, _⟩ | ⟨g', cap, cur, rfl, _, hgb, _⟩
  · simp [Value.ownBlock]
  · intro e'
    simp only [Value.ownBlock, Option.some.injEq] at e'
    subst e'
    rw [hg] at hgb
    injection hgb with e1
    injection e1 with _ e2
    exact hne e2
theorem own_apart2 {base base' : Nat} {e e' : TypeId} {size size' n n' : Nat} {v v' : Value} {xs xs' : List Value} (h : W.ownsRow base e size v n xs) (h' : W.ownsRow base' e' size' v' n' xs') (hne : e' ≠ e) : v'.ownBlock = none ∨ v'.ownBlock ≠ v.ownBlock := by
  rcases h'.2 with ⟨rfl, _⟩ | ⟨g', cap, cur, rfl, _, hgb, _⟩
  · exact .inl rfl
  · exact .inr fun e1 => own_type h hgb hne e1.symm
/-- What a round keeps. -/
def Kf (b : Nat) (A W : World) : Prop := (KeepsOthers A W ∧ KpZ b (b + 5) (b + 7) A W) ∧ b + 7 ≤ W.heap.size
theorem Kf.below {A : World} (h : Kf b A W) (hb : Below W.heap.size W W') : Kf b A W' :=
  ⟨⟨h.1.1.trans (KeepsOthers.of_grownBy (grown_of hb none) (fun j o e => by cases e)), h.1.2.t (KpZ.of hb (by have := h.2; omega) h.2)⟩, Nat.le_trans h.2 hb.size⟩
theorem Kf.grown {A : World} {e : TypeId} {size n r : Nat} {v : Value} {xs : List Value} (h : Kf b A W) (ho : W.ownsRow r e size v n xs) (hr : b + 7 ≤ r) (hg : W.grownBy W' v.ownBlock) : Kf b A W' := by
  have hf : ∀ j, v.ownBlock = some j → b + 7 ≤ j := fun j ej => by have := own_base ho j ej; omega
  refine ⟨⟨h.1.1.trans (KeepsOthers.of_grownBy hg (fun j o e ho' => ?_)), h.1.2.t ⟨(Below.refl b W).grown hg (by have := h.2; omega) (fun j ej => by have := hf j ej; omega), fun k h1 h2 => hg.block k (by have := h.2; omega) (fun ej => by have := hf k ej.symm; omega)⟩⟩, Nat.le_trans h.2 hg.size⟩
  rcases ho.2 with ⟨rfl, _⟩ | ⟨g', cap, cur, rfl, _, hgb, _⟩
  · cases e
  · simp only [Value.ownBlock, Option.some.injEq] at e
    subst e
    rw [hgb] at ho'; cases ho'; rfl
theorem Kf.setc {A : World} {p : Addr} (h : Kf b A W) (hp : b ≤ p.block) (hp' : p.block < b + 5) (u : Value) : Kf b A (W.setCell p u) :=
  ⟨⟨h.1.1.trans (KeepsOthers.setCell _ _ _), h.1.2.t ⟨(Below.refl b W).setCell hp u, fun k h1 h2 => Below.heap_setCell W p u k (by omega)⟩⟩, by have := h.2; simpa using this⟩
theorem Kf.set {A : World} {i : Nat} (h : Kf b A W) (u : Value) : Kf b A (W.setCell ⟨b + 1 + 1 + 1, i, none⟩ u) := h.setc (p := ⟨b + 1 + 1 + 1, i, none⟩) (by show b ≤ b + 1 + 1 + 1; omega) (by show b + 1 + 1 + 1 < b + 5; omega) u
end
theorem alloc_old {w : World} {i : Nat} {x : Obj} (o : Obj) (h : w.heap[i]? = some x) : (w.alloc o).heap[i]? = some x := by rw [Below.heap_alloc _ _ _ (L.blk_lt h)]; exact h
theorem alloc_at {w : World} {n : Nat} (o : Obj) (h : w.heap.size = n) : (w.alloc o).heap[n]? = some o := by subst h; exact heap_alloc_new w o
theorem seven (w : World) (o0 o1 o2 o3 o4 o5 o6 : Obj) : ∃ W : World, W = ((((((w.alloc o0).alloc o1).alloc o2).alloc o3).alloc o4).alloc o5).alloc o6 ∧ W.heap[w.heap.size + 1]? = some o1 ∧ W.heap[w.heap.size + 2]? = some o2 ∧ W.heap[w.heap.size + 3]? = some o3 ∧ W.heap[w.heap.size + 4]? = some o4 ∧ W.heap[w.heap.size + 5]? = some o5 ∧ W.heap[w.heap.size + 6]? = some o6 ∧ Below w.heap.size w W ∧ W.heap.size = w.heap.size + 7 := by
  refine ⟨_, rfl, ?_, ?_, ?_, ?_, ?_, ?_, ?_, ?_⟩
  · exact alloc_old _ (alloc_old _ (alloc_old _ (alloc_old _ (alloc_old _ (alloc_at _ (by simp))))))
  · exact alloc_old _ (alloc_old _ (alloc_old _ (alloc_old _ (alloc_at _ (by simp)))))
  · exact alloc_old _ (alloc_old _ (alloc_old _ (alloc_at _ (by simp))))
  · exact alloc_old _ (alloc_old _ (alloc_at _ (by simp)))
  · exact alloc_old _ (alloc_at _ (by simp))
  · exact alloc_at _ (by simp)
  · exact ((((((alloc1 _ _).alloc (by simp) _).alloc (by simp; omega) _).alloc (by simp; omega) _).alloc (by simp; omega) _).alloc (by simp; omega) _).alloc (by simp; omega) _
  · simp

theorem nil_or_snoc {α : Type} (l : List α) : l = [] ∨ ∃ p x, l = p ++ [x] := by
  rcases List.eq_nil_or_concat l with h | ⟨p, x, h⟩
  · exact .inl h
  · exact .inr ⟨p, x, by simpa using h⟩
theorem prs_ats (o : Lb) : ∀ (l : List It) (k : Nat), (prs o k l).map (·.1) = ats o k l
  | [], _ => rfl
  | x :: r, k => by
    rw [prs, ats]
    split
    · rw [List.map_cons, prs_ats o r (k + 1)]
    · exact prs_ats o r (k + 1)
theorem prs_atI (o : Lb) (l : List It) : (prs o 0 l).map (fun p => (p.1 : Int)) = atI o l := by
  rw [atI, ← prs_ats, List.map_map]; rfl
/-- A row of at least one element, its block. -/
theorem own_cells {W : World} {base : Nat} {e : TypeId} {size n : Nat} {v : Value} {xs : List Value} (h : W.ownsRow base e size v n xs) (hn : 0 < n) : ∃ g cap cur, v = .slice (some ⟨g, 0, none⟩) n cap ∧ base ≤ g ∧ W.heap[g]? = some (.cells cur e (0, 0)) ∧ n ≤ cap ∧ cap ≤ maxLen ∧ cur.size = cap * size ∧ cur.toList.take (n * size) = xs := by
  rcases h.2 with ⟨_, h0⟩ | h
  · omega
  · exact h
/-- A cell of a row of one's own is stored. -/
theorem own_put {W : World} {base g j : Nat} {e : TypeId} {size n cap : Nat} {xs : List Value} {u : Value} (h : W.ownsRow base e size (.slice (some ⟨g, 0, none⟩) n cap) n xs) (hj : j < n * size) : (W.setCell ⟨g, j, none⟩ u).ownsRow base e size (.slice (some ⟨g, 0, none⟩) n cap) n (xs.set j u) := by
  refine ⟨by rw [List.length_set]; exact h.1, .inr ?_⟩
  rcases h.2 with ⟨h0, _⟩ | ⟨g', cap', cur, hv, hb, hg, h1, h2, h3, h4⟩
  · cases h0
  · cases hv
    exact ⟨g, cap, cur.setIfInBounds j u, rfl, hb, L.blk_set hg j u, h1, h2, by simpa using h3, by rw [Array.toList_setIfInBounds, List.take_set, h4]⟩
end Go.Proofs.Ytcnnbchaelboeaa.V

namespace Go.Proofs.Ytcnnbchaelboeaa.N
set_option linter.unusedVariables false
set_option linter.unusedSimpArgs false
open Go.RowKit
open T
open V (grown_of IntsIn numCells numCells_snoc ints_own drawn_below own_put own_cells own_type own_apart2)
open I (alloc1 own_at own_below)

def asI (cs : List (Int × Nat)) : List (Int × Int) := cs.map fun p => (p.1, (p.2 : Int))
theorem asI_snoc (cs : List (Int × Nat)) (p : Int × Nat) : asI (cs ++ [p]) = asI cs ++ [(p.1, (p.2 : Int))] := by simp [asI]
theorem asI_length (cs : List (Int × Nat)) : (asI cs).length = cs.length := by simp [asI]
/-- A row of pairs. -/
def PsEnd (W : World) (ps : List (Int × Int)) (e : Ending) (w' : World) : Prop := ∃ A cap, e = .returned (.slice A ps.length cap) ∧ w'.ownsRow W.heap.size 44 2 (.slice A ps.length cap) ps.length (prCells ps) ∧ Below W.heap.size W w'
/-- What a walk through ordered numbers holds: of those ahead of place i. -/
theorem Cn.le {l : List Int} {cs : List (Int × Nat)} (h : Cn l cs) : cs.length ≤ tot cs := by
  have : ∀ ds : List (Int × Nat), (∀ p ∈ ds, 0 < p.2) → ds.length ≤ tot ds := fun ds => by
    induction ds with
    | nil => intro _; exact Nat.le_refl _
    | cons p r ih =>
      intro hp
      have h1 := ih (fun q hq => hp q (by simp [hq]))
      have h2 := hp p (by simp)
      simp only [tot, List.map_cons, List.sum_cons, List.length_cons] at h1 ⊢
      omega
  exact this cs fun p hp => by
    rw [(h.mem p hp).2]
    exact List.count_pos_iff.2 (h.mem p hp).1
structure CnI (s : List Int) (i : Nat) (cs : List (Int × Nat)) : Prop where
  cn : Cn (s.take i) cs
  tot : tot cs = i
  last : ∀ j (hj : j < s.length), j + 1 = i → ∃ c0 c, cs = c0 ++ [(s[j], c)]
theorem CnI.start (s : List Int) : CnI s 0 [] := ⟨by rw [List.take_zero]; exact Cn.nil, rfl, fun j _ e => by omega⟩
theorem CnI.new {s : List Int} {i : Nat} {cs : List (Int × Nat)} (h : CnI s i cs) (hs : s.Pairwise (· ≤ ·)) (hi : i < s.length) (hn : ∀ j (hj : j < s.length), j + 1 = i → ¬ s[j] = s[i]) : CnI s (i + 1) (cs ++ [(s[i], 1)]) := by
  refine ⟨?_, by rw [tot_snoc, h.tot], fun j hj e => ⟨cs, 1, by have e' : j = i := (by omega); subst e'; rfl⟩⟩
  rw [List.take_succ_eq_append_getElem hi]
  refine h.cn.new fun x hx => ?_
  obtain ⟨q, hq, rfl⟩ := List.mem_iff_getElem.1 hx
  simp only [List.length_take] at hq
  rw [List.getElem_take]
  have h1 : s[i - 1] ≤ s[i] := List.pairwise_iff_getElem.1 hs (i - 1) i (by omega) hi (by omega)
  have h2 := hn (i - 1) (by omega) (by omega)
  have h3 : s[q] ≤ s[i - 1] := by
    by_cases e : q = i - 1
    · subst e; exact Int.le_refl _
    · exact List.pairwise_iff_getElem.1 hs q (i - 1) (by omega) (by omega) (by omega)
  omega
theorem CnI.again {s : List Int} {i : Nat} {c0 : List (Int × Nat)} {c : Nat} (hi : i < s.length) (h : CnI s i (c0 ++ [(s[i], c)])) : CnI s (i + 1) (c0 ++ [(s[i], c + 1)]) := by
  refine ⟨?_, by have := h.tot; rw [tot_snoc] at this ⊢; simp only at this ⊢; omega, fun j hj e => ⟨c0, c + 1, by have e' : j = i := (by omega); subst e'; rfl⟩⟩
  rw [List.take_succ_eq_append_getElem hi]
  exact h.cn.again
/-- How often each number of a row is there. -/
def CnR (l : List Int) (ps : List (Int × Int)) : Prop := ∃ cs, ps = asI cs ∧ Cn l cs ∧ tot cs = l.length

end Go.Proofs.Ytcnnbchaelboeaa.N
