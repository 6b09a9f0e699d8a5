/-
  The contract of the reference's Same on two rows of the same lines; and what the laws on lines ask of the functions that they call, in one form each.
-/
import Derived.Test.YtbilhdfoajahkaaDoorTextG
import Derived.Deep.QuietTactic
import Derived.BigQuiet
namespace Go.Proofs.YtbilhdfoajahkaaDoor.T
open Go.RowKit

set_option maxHeartbeats 1000000 in
set_option maxRecDepth 100000 in
theorem same_any (A A' : Option Addr) (cap cap' : Nat) (xs : List (List UInt8 × Bool)) (w : World) (hb : xs.length ≤ 4194305) (hA : LinesIn w A xs) (hA' : LinesIn w A' xs) :
    Calls Tryd.prog 16 #[.slice A xs.length cap, .slice A' xs.length cap'] w fun e w' => e = .returned (.bool true) ∧ Below w.heap.size w w' := by
  have HA := Lib.hid hA
  have HB := Lib.hid hA'
  clear hA hA'
  have hne : ((xs.length : Int) != (xs.length : Int)) = false := by simp
  go_enter Tryd.func16, Tryd.ntmps16
  go_wp2_with fail
  go_loopg [5] xs.length (fun n i wr => ∃ k : Nat, k ≤ xs.length ∧ i = .int .i64 k ∧ xs.length - k ≤ n ∧ ∃ q, wr = w.drewN q)
  case atStart => exact ⟨0, Nat.zero_le _, rfl, by omega, 0, rfl⟩
  case round =>
    obtain ⟨k, hk, rfl, hn, q, rfl⟩ := hrel
    by_cases hlt : k < xs.length
    · obtain ⟨bk, off, hAe, hbk, hL⟩ := HA.out (by omega)
      obtain ⟨bk', off', hAe', hbk', hL'⟩ := HB.out (by omega)
      subst hAe hAe'
      obtain ⟨c0, c1⟩ := hL k hlt
      obtain ⟨d0, d1⟩ := hL' k hlt
      have h0k : (0 : Int) ≤ (k : Int) := Int.natCast_nonneg _
      have h1k : (k : Int) < (xs.length : Int) := by omega
      clear hL hL'
      generalize xs[k].2 = b at *
      generalize xs[k].1 = t at *
      go_wp2_with fail
      go_quiet (fail)
      go_wp2_with fail
      go_roundg (xs.length - (k + 1))
      case measure => omega
      case rel => exact ⟨k + 1, by omega, by go_num, Nat.le_refl _, _, rfl⟩
    · obtain rfl : k = xs.length := by omega
      go_wp2_with fail
      go_ret
      exact ⟨rfl, below_drewN (Below.refl _ _) q⟩

/-- text.Lines of the bytes l is the lines xs, wherever they lie. -/
def LinesOf (l : List UInt8) (xs : List (List UInt8 × Bool)) : Prop := ∀ (A : Option Addr) (cap : Nat) (w : World), BytesIn w A l → l.length ≤ cap →
  Calls Tryd.prog 17 #[.slice A l.length cap] w fun e w' => ∃ A' cap', e = .returned (.slice A' xs.length cap') ∧ LinesIn w' A' xs ∧ Below w.heap.size w w'
theorem LinesOf.call {l : List UInt8} {xs : List (List UInt8 × Bool)} (h : LinesOf l xs) (A : Option Addr) (cap : Nat) (w : World) (hA : BytesIn w A l) (hc : l.length ≤ cap) :
    Calls Tryd.prog 17 #[.slice A l.length cap] w fun e w' => ∃ A' cap', e = .returned (.slice A' xs.length cap') ∧ LinesIn w' A' xs ∧ Below w.heap.size w w' := h A cap w hA hc
theorem linesOf (l : List UInt8) (hl : l.length ≤ 4194304) : LinesOf l (P.lines [] l) := fun A cap w hA hc => lines_in A cap l w hA hc hl
def JoinOf (xs : List (List UInt8 × Bool)) (l : List UInt8) : Prop := ∀ (A : Option Addr) (cap : Nat) (w : World), LinesIn w A xs →
  Calls Tryd.prog 19 #[.slice A xs.length cap] w fun e w' => ∃ A' cap', e = .returned (.slice A' l.length cap') ∧ l.length ≤ cap' ∧ BytesIn w' A' l ∧ Below w.heap.size w w'
theorem JoinOf.call {l : List UInt8} {xs : List (List UInt8 × Bool)} (h : JoinOf xs l) (A : Option Addr) (cap : Nat) (w : World) (hA : LinesIn w A xs) :
    Calls Tryd.prog 19 #[.slice A xs.length cap] w fun e w' => ∃ A' cap', e = .returned (.slice A' l.length cap') ∧ l.length ≤ cap' ∧ BytesIn w' A' l ∧ Below w.heap.size w w' := h A cap w hA
theorem joinOf (xs : List (List UInt8 × Bool)) (hb : P.bulk xs ≤ 4194304) : JoinOf xs (P.join xs) := fun A cap w hA => join_in A cap xs w hb hA
def RightOf (xs : List (List UInt8 × Bool)) (r : Bool) : Prop := ∀ (A : Option Addr) (cap : Nat) (w : World), LinesIn w A xs →
  Calls Tryd.prog 21 #[.slice A xs.length cap] w fun e w' => e = .returned (.bool r) ∧ Below w.heap.size w w'
theorem RightOf.call {xs : List (List UInt8 × Bool)} {r : Bool} (h : RightOf xs r) (A : Option Addr) (cap : Nat) (w : World) (hA : LinesIn w A xs) :
    Calls Tryd.prog 21 #[.slice A xs.length cap] w fun e w' => e = .returned (.bool r) ∧ Below w.heap.size w w' := h A cap w hA
theorem rightOf (xs : List (List UInt8 × Bool)) (hb : P.bulk xs ≤ 4194304) : RightOf xs (P.right xs) := fun A cap w hA => right_any A cap xs w hb hA
def SameOf (xs : List (List UInt8 × Bool)) : Prop := ∀ (A A' : Option Addr) (cap cap' : Nat) (w : World), LinesIn w A xs → LinesIn w A' xs →
  Calls Tryd.prog 16 #[.slice A xs.length cap, .slice A' xs.length cap'] w fun e w' => e = .returned (.bool true) ∧ Below w.heap.size w w'
theorem SameOf.call {xs : List (List UInt8 × Bool)} (h : SameOf xs) (A A' : Option Addr) (cap cap' : Nat) (w : World) (hA : LinesIn w A xs) (hA' : LinesIn w A' xs) :
    Calls Tryd.prog 16 #[.slice A xs.length cap, .slice A' xs.length cap'] w fun e w' => e = .returned (.bool true) ∧ Below w.heap.size w w' := h A A' cap cap' w hA hA'
theorem sameOf (xs : List (List UInt8 × Bool)) (hb : xs.length ≤ 4194305) : SameOf xs := fun A A' cap cap' w hA hA' => same_any A A' cap cap' xs w hb hA hA'
end Go.Proofs.YtbilhdfoajahkaaDoor.T
