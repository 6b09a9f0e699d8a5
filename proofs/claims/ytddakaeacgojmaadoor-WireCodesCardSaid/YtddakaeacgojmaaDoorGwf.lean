/-
  The contract of text.Join: a new row of bytes, those of the lines.
  Rows of bytes in memory, wherever they lie, those of no byte too: as a text, and text.Lines of them. What a region's walk may be told anew on its way.
  The contracts of text.has and text.Right.
  The contract of the reference's Same on two rows of the same lines; and what the laws on lines ask of the functions that they call, in one form each.
  Small facts on texts as bytes; the contracts of text.Number and text.Decimal in closed form.
  The contracts of the reference's Number, Name and Decimal: they come to the same plain functions as the program's own.
  The contract of the reference's Decimal, by induction over the number.
  The contract of the reference's Lines: for all bytes of at most 2^22.
  The contracts of the reference's Right and Join: for all lines of a bulk of at most 2^22.
  What the laws on lines ask of the reference's functions, in one form each.
  What TextOwn asks besides: bytes appended to a row of the call's own, wherever they lie; rows by their block; lines that lie in another block than one that is stored into.
  Layer 21: bytes.Cut at a newline; copied.
-/
import Derived.Test.YtddakaeacgojmaaDoorGwe
import Derived.Deep.RegionHeld
import Derived.Deep.QuietTactic
import Derived.BigQuiet
import Derived.Test.YtddakaeacgojmaaDoorGwc
import Derived.Deep.RegionWith
import Derived.Laws.AppendOwnNone
import Derived.Laws.OwnMore
import Derived.Laws.Closers25b
import Derived.Test.YtddakaeacgojmaaDoorGwb
namespace Go.Proofs.YtddakaeacgojmaaDoor.T
open Go.RowKit

def byteCells (l : List UInt8) : List Value := l.map fun c => .int .u8 (c.toNat : Int)
theorem byteCells_append (l r : List UInt8) : byteCells (l ++ r) = byteCells l ++ byteCells r := by simp [byteCells]
theorem byteCells_str (t : List UInt8) : Lib.strCells ⟨t.toArray⟩ = byteCells t := by simp [Lib.strCells, byteCells]
theorem infoByte : (Tryd.prog.info? 5).map (fun i => (i.zero, i.size, i.bytes)) = some (some (.int .u8 0), 1, 1) := by kernel_rfl
theorem own_lt {w : World} {base : Nat} {e : TypeId} {size n : Nat} {v : Value} {xs : List Value} (h : w.ownsRow base e size v n xs) : ∀ k, v.ownBlock = some k → k < w.heap.size := by
  intro k hk
  rcases h.2 with ⟨rfl, _⟩ | ⟨g, cap, cur, rfl, hg, hh, _⟩
  · simp [Value.ownBlock] at hk
  · simp [Value.ownBlock] at hk
    subst hk
    rcases Nat.lt_or_ge g w.heap.size with hlt | hge
    · exact hlt
    · rw [Array.getElem?_eq_none hge] at hh; cases hh
theorem box_kept {wr w1 : World} {base : Nat} {e : TypeId} {size n : Nat} {v : Value} {xs : List Value} {a b : Value} {T : TypeId} (h : wr.ownsRow base e size v n xs) (hg : (wr.alloc (.cells #[a, b] T)).grownBy w1 v.ownBlock) :
    w1.cell? ⟨wr.heap.size, 0, none⟩ = some a ∧ w1.cell? ⟨wr.heap.size, 1, none⟩ = some b := by
  have hne : some wr.heap.size ≠ v.ownBlock := fun he => by have := own_lt h _ he.symm; omega
  have hb := heap_alloc_new wr (.cells #[a, b] T)
  exact ⟨hg.cell (a := ⟨wr.heap.size, 0, none⟩) (cell_of_row _ _ 0 _ _ _ hb) hne, hg.cell (a := ⟨wr.heap.size, 1, none⟩) (cell_of_row _ _ 1 _ _ _ hb) hne⟩
theorem join_step {xs : List (List UInt8 × Bool)} {k : Nat} (hk : k < xs.length) : P.join (xs.drop k) = xs[k].1 ++ (if !xs[k].2 || decide (k + 1 < xs.length) then [10] else []) ++ P.join (xs.drop (k + 1)) := by
  rw [drop_line hk, P.join]
  congr 3
  cases h : (xs.drop (k + 1)).isEmpty with
  | true =>
    have := List.isEmpty_iff.1 h
    have := congrArg List.length this
    simp at this
    rw [decide_eq_false (by omega)]; rfl
  | false =>
    rw [decide_eq_true]; rfl
    have : ¬ xs.drop (k + 1) = [] := fun e => by rw [e] at h; cases h
    rcases Nat.lt_or_ge (k + 1) xs.length with h' | h'
    · exact h'
    · exact absurd (List.drop_eq_nil_of_le h') this

end Go.Proofs.YtddakaeacgojmaaDoor.T

namespace Go.Proofs.YtddakaeacgojmaaDoor.T
open Go.RowKit

/-- A slice's bytes, wherever it lies. -/
def BytesIn (w : World) (A : Option Addr) (l : List UInt8) : Prop :=
  0 < l.length → ∃ bk off, A = some ⟨bk, off, none⟩ ∧ bk < w.heap.size ∧ BytesAt w bk off l
theorem BytesIn.below {w w' : World} {A : Option Addr} {l : List UInt8} (h : BytesIn w A l) (hb : Below w.heap.size w w') : BytesIn w' A l := fun hp => by
  obtain ⟨bk, off, e, hlt, hl⟩ := h hp
  exact ⟨bk, off, e, Nat.lt_of_lt_of_le hlt hb.size, hl.below hb hlt⟩
theorem bytes_of_own {w : World} {base : Nat} {v : Value} {l : List UInt8} (h : w.ownsRow base 5 1 v l.length (byteCells l)) :
    ∃ A cap, v = .slice A l.length cap ∧ l.length ≤ cap ∧ BytesIn w A l := by
  obtain ⟨A, cap, hv, hc, hA⟩ := own_form h
  refine ⟨A, cap, hv, hc, fun hp => ?_⟩
  obtain ⟨g, rfl, _, hlt, hcells⟩ := hA hp
  exact ⟨g, 0, rfl, hlt, fun j hj => by rw [Nat.zero_add]; exact hcells _ _ (by simp [byteCells, List.getElem?_eq_getElem hj])⟩
theorem conv_none (w : World) (A : Option Addr) (cap : Nat) :
    (convert 26 9 (.slice A 0 cap)).run Tryd.prog w = .ok (.string ⟨#[]⟩) w := by
  rw [run_convert_bytes_string w 26 9 5 _ 0 cap Tryd.underlying26 Tryd.underlying5 Tryd.underlying9]
  cases A <;> simp [Conv.bytesToString, loadCells]
  all_goals rfl
theorem conv_in {w : World} {A : Option Addr} {l : List UInt8} (cap : Nat) (h : BytesIn w A l) :
    (convert 26 9 (.slice A l.length cap)).run Tryd.prog w = .ok (.string ⟨l.toArray⟩) w := by
  by_cases hp : 0 < l.length
  · obtain ⟨bk, off, rfl, _, hb⟩ := h hp
    exact conv_bytes w bk off l.length cap l rfl hb
  · obtain rfl : l = [] := List.length_eq_zero_iff.1 (by omega)
    exact conv_none w A cap
section
variable {P : Program} {md : Region.Mode} {ops : Array Oper} {Q : Exit → Act → World → Prop} {S S' : World → Prop}
/-- On its way a region's walk may be asked for more behind each operation. -/
theorem wpAnyH_more (h : ∀ w, S' w → S w) : ∀ (fuel : Nat) (listed : Array Bool) (a : Act) (w : World), wpAnyH P md ops Q S' fuel listed a w → wpAnyH P md ops Q S fuel listed a w
  | 0, _, _, _, H => H
  | fuel + 1, _, _, _, H => ⟨H.1, fun i hi => wpOp_mono (fun a' w' h' => ⟨h _ h'.1, wpAnyH_more h fuel _ a' w' h'.2⟩) (H.2 i hi)⟩
end
/-- All that is there stays as it is. -/
def Keeps (w : World) : World → Prop := fun w' => Below w.heap.size w w'
theorem Keeps.b {a b : World} (h : Keeps a b) : Below a.heap.size a b := h
theorem keeps_drew (w : World) : Keeps w w.drew := (Below.refl _ _).drew
theorem Keeps.trans {a b c : World} (h : Keeps a b) (h' : Keeps b c) : Keeps a c := Below.trans h (Below.mono h' (Below.size h))
end Go.Proofs.YtddakaeacgojmaaDoor.T

namespace Go.Proofs.YtddakaeacgojmaaDoor.T
open Go.RowKit

/-- Is there a byte 10? -/
def hasNl (l : List UInt8) : Bool := l.contains 10
theorem has_at {s : ByteArray} {k : Nat} (hk : k < s.size) (h : (s[k].toNat : Int) = 10) : hasNl s.data.toList = true := by
  unfold hasNl
  have hl : k < s.data.toList.length := by rw [← Lib.size_eq]; exact hk
  rw [List.contains_iff_mem]
  have : s.data.toList[k] = 10 := by rw [byte s k hk hl]; exact UInt8.toNat_inj.1 (show s[k].toNat = 10 by omega)
  rw [← this]; exact List.getElem_mem hl
theorem has_none {s : ByteArray} (h : ∀ j (hj : j < s.size), ¬ (s[j].toNat : Int) = 10) : hasNl s.data.toList = false := by
  unfold hasNl
  rw [← Bool.not_eq_true, List.contains_iff_mem]
  intro hm
  obtain ⟨j, hj, e⟩ := List.getElem_of_mem hm
  have hj' : j < s.size := by rw [Lib.size_eq]; exact hj
  rw [byte s j hj' hj] at e
  exact h j hj' (by rw [e]; rfl)

theorem right_step {xs : List (List UInt8 × Bool)} {k : Nat} (hk : k < xs.length) : P.right (xs.drop k) = (!(hasNl xs[k].1) && !(xs[k].2 && (decide (k + 1 < xs.length) || xs[k].1.isEmpty)) && P.right (xs.drop (k + 1))) := by
  unfold hasNl
  rw [drop_line hk, P.right]
  congr 4
  cases h : (xs.drop (k + 1)).isEmpty with
  | true =>
    have := List.isEmpty_iff.1 h
    have := congrArg List.length this
    simp at this
    rw [decide_eq_false (by omega)]; rfl
  | false =>
    rw [decide_eq_true]; rfl
    have : ¬ xs.drop (k + 1) = [] := fun e => by rw [e] at h; cases h
    rcases Nat.lt_or_ge (k + 1) xs.length with h' | h'
    · exact h'
    · exact absurd (List.drop_eq_nil_of_le h') this
end Go.Proofs.YtddakaeacgojmaaDoor.T

namespace Go.Proofs.YtddakaeacgojmaaDoor.T
open Go.RowKit

end Go.Proofs.YtddakaeacgojmaaDoor.T

namespace Go.Proofs.YtddakaeacgojmaaDoor.T
open Go.RowKit

theorem list_data (l : List UInt8) : (⟨l.toArray⟩ : ByteArray).data.toList = l := by simp
theorem list_size (l : List UInt8) : (⟨l.toArray⟩ : ByteArray).size = l.length := by simp [ByteArray.size]
theorem str_eta (s : ByteArray) : (⟨s.data.toList.toArray⟩ : ByteArray) = s := by cases s; simp

theorem number_is (s : ByteArray) (b : Nat) (w : World) (hs : s.size ≤ maxLen) (h : P.number s.data.toList = some b) :
    Calls Tryd.prog 67 #[.string s] w fun e w' => e = .returned (.tuple #[.int .i64 b, .bool true]) ∧ w = w' := by
  have := number_any s w hs
  rwa [h, numVal_some] at this
theorem number_not (s : ByteArray) (w : World) (hs : s.size ≤ maxLen) (h : P.number s.data.toList = none) :
    Calls Tryd.prog 67 #[.string s] w fun e w' => e = .returned (.tuple #[.int .i64 0, .bool false]) ∧ w = w' := by
  have := number_any s w hs
  rwa [h, numVal_none] at this

def Dec (n : Int) (s : ByteArray) : Prop := ∀ w : World, Tab w → Calls Tryd.prog 43 #[.int .i64 n] w fun e w' => e = .returned (.string s) ∧ Below w.heap.size w w'
def Num (s : ByteArray) (n : Int) (is : Bool) : Prop := ∀ w : World, Calls Tryd.prog 67 #[.string s] w fun e w' => e = .returned (.tuple #[.int .i64 n, .bool is]) ∧ w = w'
theorem Dec.call {n : Int} {s : ByteArray} (h : Dec n s) (w : World) (ht : Tab w) : Calls Tryd.prog 43 #[.int .i64 n] w fun e w' => e = .returned (.string s) ∧ Below w.heap.size w w' := h w ht
theorem Num.call {n : Int} {s : ByteArray} {is : Bool} (h : Num s n is) (w : World) : Calls Tryd.prog 67 #[.string s] w fun e w' => e = .returned (.tuple #[.int .i64 n, .bool is]) ∧ w = w' := h w
theorem dec_is (n : Int) (h0 : -9223372036854775808 ≤ n) (h1 : n ≤ 9223372036854775807) : Dec n ⟨(P.decimal n).toArray⟩ := fun w ht => decimal_any n w h0 h1 ht
end Go.Proofs.YtddakaeacgojmaaDoor.T

namespace Go.Proofs.YtddakaeacgojmaaDoor.T
open Go.RowKit

theorem val_bad (s : ByteArray) (k n : Nat) (hk : k < s.size) (h : (s[k].toNat : Int) < 48 ∨ 57 < (s[k].toNat : Int)) : P.valGo (s.data.toList.drop k) n = none := by
  have hl : k < s.data.toList.length := by rw [← Lib.size_eq]; exact hk
  rw [List.drop_eq_getElem_cons hl, P.valGo, if_pos (by rw [byte s k hk hl]; omega)]
theorem val_on (s : ByteArray) (k n : Nat) (hk : k < s.size) (h1 : 48 ≤ (s[k].toNat : Int)) (h2 : (s[k].toNat : Int) ≤ 57) :
    P.valGo (s.data.toList.drop k) n = P.valGo (s.data.toList.drop (k + 1)) (10 * n + (s[k].toNat - 48)) := by
  have hl : k < s.data.toList.length := by rw [← Lib.size_eq]; exact hk
  have e := byte s k hk hl
  rw [List.drop_eq_getElem_cons hl, P.valGo, if_neg (by rw [e]; omega), e]
theorem val_end (s : ByteArray) (n : Nat) : P.valGo (s.data.toList.drop s.size) n = some n := by
  rw [Lib.size_eq, List.drop_length, P.valGo]
theorem pow_bound {n d k : Nat} (h : n < 10 ^ k) (hd : d < 10) (hk : k < 10) : 10 * n + d < 10 ^ (k + 1) ∧ 10 * n + d ≤ 9999999999 := by
  have h1 : 10 * n + d < 10 ^ (k + 1) := by rw [Nat.pow_succ]; omega
  have h2 : 10 ^ (k + 1) ≤ 10 ^ 10 := Nat.pow_le_pow_right (by omega) (by omega)
  omega
theorem number_val (s : ByteArray) (h : 0 < s.size) (h0 : s.size ≤ 1 ∨ ¬ s[0].toNat = 48) : P.number s.data.toList = P.upTo (P.valGo s.data.toList 0) := by
  rw [number_go s h (by rcases h0 with h0 | h0; exact .inl (by omega); exact .inr h0), P.numGo_val _ _ (by omega)]
theorem upTo_none : P.upTo none = none := rfl
theorem upTo_big (n : Nat) (h : 2147483647 < n) : P.upTo (some n) = none := by simp [P.upTo, h]
theorem upTo_in (n : Nat) (h : n ≤ 2147483647) : P.upTo (some n) = some n := by simp [P.upTo]; omega

set_option maxHeartbeats 1000000 in
theorem refNumber_any (s : ByteArray) (w : World) :
    Calls Tryd.prog 40 #[.string s] w fun e w' => e = .returned (numVal (P.number s.data.toList)) ∧ w = w' := by
  by_cases h0 : s.size = 0
  · have Hn := Lib.hid (number_nil s h0)
    have h0' : ((s.size : Int) == 0) = true := beq_iff_eq.2 (by omega)
    clear h0
    go_enter Tryd.func40, Tryd.ntmps40
    go_wp2
    go_ret2
    exact ⟨ret_of (by rw [Hn.out]; rfl), rfl⟩
  have h0' : ((s.size : Int) == 0) = false := beq_eq_false_iff_ne.2 (by omega)
  by_cases h10 : 10 < s.size
  · have Hn := Lib.hid (P.number_long s.data.toList (by rw [← Lib.size_eq]; exact h10))
    clear h0
    go_enter Tryd.func40, Tryd.ntmps40
    go_wp2
    go_ret2
    exact ⟨ret_of (by rw [Hn.out]; rfl), rfl⟩
  have hpos : 0 < s.size := by omega
  clear h0
  by_cases h1 : 1 < s.size
  · by_cases hz : s[0].toNat = 48
    · have Hn := Lib.hid (number_zero s h1 hz)
      have hz' : ((s[0].toNat : Int) == 48) = true := beq_iff_eq.2 (by omega)
      clear hz
      go_enter Tryd.func40, Tryd.ntmps40
      go_wp2
      go_ret2
      exact ⟨ret_of (by rw [Hn.out]; rfl), rfl⟩
    · have Hn := Lib.hid (number_val s hpos (.inr hz))
      have hz' : ((s[0].toNat : Int) == 48) = false := beq_eq_false_iff_ne.2 (by omega)
      clear hz
      go_enter Tryd.func40, Tryd.ntmps40
      go_wp2
      go_loop [4, 5] (fun t i => ∃ k n : Nat, k ≤ s.size ∧ i = .int .i64 k ∧ t = .int .i64 n ∧ n ≤ 9999999999 ∧ Hid (n < 10 ^ k) ∧ Hid (P.valGo s.data.toList 0 = P.valGo (s.data.toList.drop k) n)) (fun _ i => s.size - (intOf i).toNat)
      case atStart => exact ⟨0, 0, Nat.zero_le _, rfl, rfl, by omega, Lib.hid (by decide), Lib.hid rfl⟩
      case round =>
        obtain ⟨k, n, hk, rfl, rfl, hn, HP, HR⟩ := hrel
        by_cases hlt : k < s.size
        · go_wp2
          · go_ret2
            exact ⟨ret_of (by rw [Hn.out, HR.out, val_bad s k n hlt (by omega), upTo_none]; rfl), rfl⟩
          · have hon := val_on s k n hlt (by omega) (by omega)
            have hpb := pow_bound (d := s[k].toNat - 48) HP.out (by omega) (by omega)
            go_round
            case rel => exact ⟨k + 1, 10 * n + (s[k].toNat - 48), by omega, by go_num, by go_num, hpb.2, Lib.hid hpb.1, Lib.hid (HR.out.trans hon)⟩
            case measure => simp [intOf]; omega
          · go_ret2
            exact ⟨ret_of (by rw [Hn.out, HR.out, val_bad s k n hlt (by omega), upTo_none]; rfl), rfl⟩
        · obtain rfl : s.size = k := by omega
          by_cases hb : 2147483647 < n
          · go_wp2
            go_ret2
            exact ⟨ret_of (by rw [Hn.out, HR.out, val_end, upTo_big n hb]; rfl), rfl⟩
          · go_wp2
            go_ret2
            exact ⟨ret_of (by rw [Hn.out, HR.out, val_end, upTo_in n (by omega)]; rfl), rfl⟩
  · have Hn := Lib.hid (number_val s hpos (.inl (by omega)))
    go_enter Tryd.func40, Tryd.ntmps40
    go_wp2
    go_loop [4, 5] (fun t i => ∃ k n : Nat, k ≤ s.size ∧ i = .int .i64 k ∧ t = .int .i64 n ∧ n ≤ 9999999999 ∧ Hid (n < 10 ^ k) ∧ Hid (P.valGo s.data.toList 0 = P.valGo (s.data.toList.drop k) n)) (fun _ i => s.size - (intOf i).toNat)
    case atStart => exact ⟨0, 0, Nat.zero_le _, rfl, rfl, by omega, Lib.hid (by decide), Lib.hid rfl⟩
    case round =>
      obtain ⟨k, n, hk, rfl, rfl, hn, HP, HR⟩ := hrel
      by_cases hlt : k < s.size
      · go_wp2
        · go_ret2
          exact ⟨ret_of (by rw [Hn.out, HR.out, val_bad s k n hlt (by omega), upTo_none]; rfl), rfl⟩
        · have hon := val_on s k n hlt (by omega) (by omega)
          have hpb := pow_bound (d := s[k].toNat - 48) HP.out (by omega) (by omega)
          go_round
          case rel => exact ⟨k + 1, 10 * n + (s[k].toNat - 48), by omega, by go_num, by go_num, hpb.2, Lib.hid hpb.1, Lib.hid (HR.out.trans hon)⟩
          case measure => simp [intOf]; omega
        · go_ret2
          exact ⟨ret_of (by rw [Hn.out, HR.out, val_bad s k n hlt (by omega), upTo_none]; rfl), rfl⟩
      · obtain rfl : s.size = k := by omega
        by_cases hb : 2147483647 < n
        · go_wp2
          go_ret2
          exact ⟨ret_of (by rw [Hn.out, HR.out, val_end, upTo_big n hb]; rfl), rfl⟩
        · go_wp2
          go_ret2
          exact ⟨ret_of (by rw [Hn.out, HR.out, val_end, upTo_in n (by omega)]; rfl), rfl⟩

theorem refName_any (s : ByteArray) (w : World) (hs : s.size ≤ maxLen) :
    Calls Tryd.prog 48 #[.string s] w fun e w' => e = .returned (.bool (P.name s.data.toList)) ∧ w = w' := by
  unfold maxLen at hs
  by_cases h1 : s.size < 1
  · have Hn := Lib.hid (name_long s (.inl h1))
    go_enter Tryd.func48, Tryd.ntmps48
    go_wp2
    go_ret
    exact ⟨ret_of (by rw [Hn.out]; rfl), rfl⟩
  by_cases h2 : 64 < s.size
  · have Hn := Lib.hid (name_long s (.inr h2))
    go_enter Tryd.func48, Tryd.ntmps48
    go_wp2
    go_ret
    exact ⟨ret_of (by rw [Hn.out]; rfl), rfl⟩
  have Hn := Lib.hid (name_all s (by omega) (by omega))
  go_enter Tryd.func48, Tryd.ntmps48
  go_wp2
  go_loop [3] (fun i => ∃ k : Nat, k ≤ s.size ∧ i = .int .i64 k ∧ Hid (∀ j (hj : j < s.data.toList.length), j < k → 33 ≤ s.data.toList[j].toNat ∧ s.data.toList[j].toNat ≤ 126)) (fun i => s.size - (intOf i).toNat)
  case atStart => exact ⟨0, Nat.zero_le _, rfl, Lib.hid (fun j _ h => absurd h (by omega))⟩
  case round =>
    obtain ⟨k, hk, rfl, HR⟩ := hrel
    by_cases hlt : k < s.size
    · go_wp2
      · go_ret
        exact ⟨ret_of (by rw [Hn.out, all_bad s k hlt (by omega)]; rfl), rfl⟩
      · have hlo : 33 ≤ (s[k].toNat : Int) := by omega
        have hhi : (s[k].toNat : Int) ≤ 126 := by omega
        go_round
        case rel =>
          refine ⟨k + 1, by omega, by go_num, Lib.hid (fun j hj hjk => ?_)⟩
          by_cases e : j = k
          · subst e; rw [byte s j hlt hj]; omega
          · exact HR.out j hj (by omega)
        case measure => simp [intOf]; omega
      · go_ret
        exact ⟨ret_of (by rw [Hn.out, all_bad s k hlt (by omega)]; rfl), rfl⟩
    · go_wp2
      go_ret
      have hall : (s.data.toList.all fun c => decide (33 ≤ c.toNat) && decide (c.toNat ≤ 126)) = true := by
        rw [List.all_eq_true]
        intro c hc
        obtain ⟨j, hj, rfl⟩ := List.getElem_of_mem hc
        have := HR.out j hj (by rw [← Lib.size_eq] at hj; omega)
        rw [decide_eq_true this.1, decide_eq_true this.2]; rfl
      exact ⟨ret_of (by rw [Hn.out, hall]; rfl), rfl⟩
end Go.Proofs.YtddakaeacgojmaaDoor.T

namespace Go.Proofs.YtddakaeacgojmaaDoor.T
open Go.RowKit

theorem bcell {W w1 : World} (hb : Below W.heap.size W w1) (b o : Nat) (h : b < W.heap.size) : w1.cell? ⟨b, o, none⟩ = W.cell? ⟨b, o, none⟩ := hb.cell (p := ⟨b, o, none⟩) h
theorem conv_one (c : UInt8) (W : World) (a : Nat) (h : W.cell? ⟨a, 0, none⟩ = some (.int .u8 (c.toNat : Int))) : (convert 26 9 (.slice (some ⟨a, 0, none⟩) 1 1)).run Tryd.prog W = .ok (.string ⟨#[c]⟩) W :=
  conv_bytes W a 0 1 1 [c] rfl (fun j hj => by
    match j, hj with
    | 0, _ => simpa using h)
theorem dec_small (m : Nat) (h : m < 10) : Lib.decDigits m = [UInt8.ofNat (48 + m)] := Lib.decDigits_one h
theorem dec_big (m : Nat) (h : ¬ m < 10) : Lib.decDigits m = Lib.decDigits (m / 10) ++ [UInt8.ofNat (48 + m % 10)] := by
  conv => lhs; rw [Lib.decDigits, dif_neg h]
theorem str_append (l r : List UInt8) : (⟨l.toArray⟩ : ByteArray) ++ ⟨r.toArray⟩ = ⟨(l ++ r).toArray⟩ := by
  apply ByteArray.ext
  simp

set_option maxHeartbeats 1000000 in
set_option maxRecDepth 100000 in
theorem refDecimal_in : ∀ (m : Nat) (w : World), m ≤ 2147483647 →
    Calls Tryd.prog 27 #[.int .i64 m] w fun e w' => e = .returned (.string ⟨(Lib.decDigits m).toArray⟩) ∧ Below w.heap.size w w' := by
  intro m
  induction m using Nat.strongRecOn with
  | ind m ih =>
    intro w hm
    have IH := Lib.hid ih
    clear ih
    by_cases h : m < 10
    · have HD := Lib.hid (dec_small m h)
      have hd := P.digit m h
      generalize UInt8.ofNat (48 + m) = c at *
      have hcv := conv_one c
      have hd' : (c.toNat : Int) = 48 + (m : Int) := by omega
      clear hd
      rw [hd'] at hcv
      clear hd'
      go_enter Tryd.func27, Tryd.ntmps27
      go_wp2_with fail
      go_ret
      exact ⟨ret_of (by rw [HD.out]; rfl), (Below.refl _ _).alloc (Nat.le_refl _) _⟩
    · have HD := Lib.hid (dec_big m h)
      have hd := P.digit (m % 10) (by omega)
      have ihq := IH.out (m / 10) (by omega)
      clear IH
      generalize UInt8.ofNat (48 + m % 10) = c at *
      have hln : (Lib.decDigits (m / 10)).length ≤ 10 := by
        have := P.decimal_length ((m / 10 : Nat) : Int)
        rwa [P.decimal_in _ (by omega) (by omega), Int.toNat_natCast] at this
      generalize Lib.decDigits (m / 10) = l at *
      have hadd : (⟨l.toArray⟩ : ByteArray).size + (⟨#[c]⟩ : ByteArray).size ≤ 9223372036854775807 := by
        rw [list_size]; show l.length + 1 ≤ _; omega
      have hcv := conv_one c
      have hd' : (c.toNat : Int) = IntKind.u8.wrap (IntKind.i64.wrap (48 + (m : Int).tmod 10)) := by
        rw [Int.tmod_eq_emod_of_nonneg (by omega), IntWalk.i64_in _ (by omega), IntKind.wrap_u8]; omega
      clear hd
      rw [hd'] at hcv
      clear hd'
      have IQ : Hid (∀ w : World, Calls Tryd.prog 27 #[.int .i64 (IntKind.i64.wrap ((m : Int) / 10))] w fun e w' => e = .returned (.string ⟨l.toArray⟩) ∧ Below w.heap.size w w') := Lib.hid fun w => by
        have := ihq w (by omega)
        rwa [show ((m / 10 : Nat) : Int) = IntKind.i64.wrap ((m : Int) / 10) by rw [IntWalk.i64_in _ (by omega)]; omega] at this
      clear ihq
      go_enter Tryd.func27, Tryd.ntmps27
      go_wp2_with fail
      go_region_with (go_at_call 27; with_reducible refine (IQ.out _).mono ?_; rintro e w' ⟨rfl, hbq⟩; have hbc := bcell hbq; have hbz := hbq.size)
      all_goals
        go_wp2_with fail
        go_ret
        refine ⟨ret_of (by rw [HD.out, ← str_append]; rfl), ?_⟩
        first
          | exact (((Below.refl w.heap.size w).drew).trans (hbq.mono (Nat.le_refl _))).alloc hbz _
          | exact (((Below.refl w.heap.size w).drew.alloc (Nat.le_refl _) _)).trans (hbq.mono (by simp))
          | exact (((Below.refl w.heap.size w).alloc (Nat.le_refl _) _).drew).trans (hbq.mono (by simp))

theorem refDecimal_any (n : Int) (w : World) :
    Calls Tryd.prog 27 #[.int .i64 n] w fun e w' => e = .returned (.string ⟨(P.decimal n).toArray⟩) ∧ Below w.heap.size w w' := by
  by_cases h0 : n < 0
  · have HD := Lib.hid (P.decimal_out n (.inl h0))
    go_enter Tryd.func27, Tryd.ntmps27
    go_wp2_with fail
    go_ret
    exact ⟨ret_of (by rw [HD.out]; rfl), Below.refl _ _⟩
  by_cases h1 : 2147483647 < n
  · have HD := Lib.hid (P.decimal_out n (.inr h1))
    go_enter Tryd.func27, Tryd.ntmps27
    go_wp2_with fail
    go_ret
    exact ⟨ret_of (by rw [HD.out]; rfl), Below.refl _ _⟩
  · obtain ⟨m, rfl⟩ := Int.eq_ofNat_of_zero_le (show 0 ≤ n by omega)
    rw [P.decimal_in _ (by omega) (by omega), Int.toNat_natCast]
    exact refDecimal_in m w (by omega)
end Go.Proofs.YtddakaeacgojmaaDoor.T

namespace Go.Proofs.YtddakaeacgojmaaDoor.T
open Go.RowKit

theorem lines_nl {l cur : List UInt8} {k : Nat} (hk : k < l.length) (h : l[k].toNat = 10) : P.lines cur (l.drop k) = (cur, false) :: P.lines [] (l.drop (k + 1)) := by
  rw [List.drop_eq_getElem_cons hk, P.lines, if_pos (UInt8.toNat_inj.1 h)]
theorem lines_more {l cur : List UInt8} {k : Nat} (hk : k < l.length) (h : ¬ l[k].toNat = 10) : P.lines cur (l.drop k) = P.lines (cur ++ [l[k]]) (l.drop (k + 1)) := by
  rw [List.drop_eq_getElem_cons hk, P.lines, if_neg (fun e => h (by rw [e]; rfl))]

end Go.Proofs.YtddakaeacgojmaaDoor.T

namespace Go.Proofs.YtddakaeacgojmaaDoor.T
open Go.RowKit

end Go.Proofs.YtddakaeacgojmaaDoor.T

namespace Go.Proofs.YtddakaeacgojmaaDoor.T
open Go.RowKit

end Go.Proofs.YtddakaeacgojmaaDoor.T

namespace Go.Proofs.YtddakaeacgojmaaDoor.T
open Go.RowKit

theorem own_at {w : World} {base : Nat} {e : TypeId} {size n cap : Nat} {A : Option Addr} {xs : List Value} (h : w.ownsRow base e size (.slice A n cap) n xs) (hn : 0 < n) :
    ∃ g, A = some ⟨g, 0, none⟩ ∧ base ≤ g ∧ g < w.heap.size ∧ ∀ j u, xs[j]? = some u → w.cell? ⟨g, j, none⟩ = some u := by
  obtain ⟨A', cap', hv, _, hA⟩ := own_form h
  obtain ⟨g, hg, r⟩ := hA hn
  exact ⟨g, by rw [← hg]; exact (Value.slice.inj hv).1, r⟩
theorem byteCells_length (l : List UInt8) : (byteCells l).length = l.length := by simp [byteCells]
theorem byteCells_set (l : List UInt8) (k : Nat) (c : UInt8) : byteCells (l.set k c) = (byteCells l).set k (.int .u8 (c.toNat : Int)) := by simp [byteCells, List.map_set]

theorem bits_byte (op : BinOp) (a b : Int) : ∃ c : UInt8, bits op .u8 a b = (c.toNat : Int) := by
  have h0 := bits_lo_u8 op a b
  have h1 := bits_hi_u8 op a b
  refine ⟨UInt8.ofNat (bits op .u8 a b).toNat, ?_⟩
  rw [UInt8.toNat_ofNat_of_lt' (by show (bits op .u8 a b).toNat < 256; omega)]
  omega
/-- Bytes, wherever they lie, appended to a row of the call's own. -/
theorem append_bytes {P : Program} {w : World} {ops : Array Oper} {rest : List Oper} {o : Oper} {a : Act} {Q : Exit → Act → World → Prop} (hgd : o.guard = none) (s x : Operand) (t : TypeId)
    (ho : o.op = .call { callee := .builtin .append, args := #[s, x], argTypes := #[t, t] })
    (base : Nat) (e : TypeId) (i : TypeInfo) (z : Value) (ht : P.underlying t = some (.slice e)) (hi : P.info? e = some i) (hz : i.zero = some z)
    (hsize : i.size = 1) (hby : i.bytes = 1) (hzs : z.cells.size = 1)
    (v : Value) (n : Nat) (xs : List Value) (hs : a.eval s = v) (hown : w.ownsRow base e 1 v n xs)
    (A : Option Addr) (cap : Nat) (l : List UInt8) (hx : a.eval x = .slice A l.length cap) (hA : BytesIn w A l) (hn : A = none → cap = 0)
    (h63 : n + l.length ≤ maxLen) (hbytes : (n + l.length) * 1 ≤ 140737488355328) (hbase : base ≤ w.heap.size)
    (h : ∀ v' w', w'.ownsRow base e 1 v' (n + l.length) (xs ++ byteCells l) → w.grownBy w' v.ownBlock → wpList P ops Q rest (a.put o.dst v') w') : wpList P ops Q (o :: rest) a w := by
  cases A with
  | none =>
    have hl : l = [] := by
      rcases Nat.eq_zero_or_pos l.length with h0 | hp
      · exact List.length_eq_zero_iff.1 h0
      · obtain ⟨_, _, h0, _⟩ := hA hp; cases h0
    subst hl
    obtain rfl := hn rfl
    refine wpList_append_own_none hgd s x t ho base e i 1 ht hi v n xs hs hown hx (h v w (by simpa [byteCells] using hown) ⟨rfl, rfl, rfl, Nat.le_refl _, fun _ _ _ => rfl⟩)
  | some ad =>
    refine wpList_append_own w hgd s x t ho base e i z 1 1 ht hi hz hsize hby hzs (by decide) v n xs hs hown ad l.length cap (byteCells l) hx (by simp [byteCells]) (fun j u hu => ?_) (fun u hu => ?_) h63 hbytes hbase (fun v' w' h1 h2 _ => h v' w' h1 h2)
    · have hj : j < l.length := by have := (List.getElem?_eq_some_iff.1 hu).1; rwa [byteCells_length] at this
      obtain ⟨bk, off, he, _, hB⟩ := hA (by omega)
      obtain rfl := Option.some.inj he
      rw [show (⟨bk, off, none⟩ : Addr).add j = ⟨bk, off + j, none⟩ by simp [Addr.add], hB j hj, ← hu]
      simp [byteCells, List.getElem?_eq_getElem hj]
    · obtain ⟨c, _, rfl⟩ := List.mem_map.1 hu; rfl

theorem own_below {w w' : World} {base : Nat} {e : TypeId} {size n : Nat} {v : Value} {xs : List Value} (h : w.ownsRow base e size v n xs) (hb : Below w.heap.size w w') : w'.ownsRow base e size v n xs := by
  refine h.kept (row := none) ⟨hb.os, hb.tape, hb.output, hb.size, fun k hk _ => hb.block k hk⟩ ?_
  cases v.ownBlock with
  | none => exact .inl rfl
  | some k => exact .inr (by simp)
/-- Lines in another block than g. -/
def LinesOff (w : World) (A : Option Addr) (xs : List (List UInt8 × Bool)) (g : Option Nat) : Prop :=
  0 < xs.length → ∃ bk off, A = some ⟨bk, off, none⟩ ∧ some bk ≠ g ∧ bk < w.heap.size ∧ LinesAt w bk off xs
theorem LinesOff.set {w : World} {A : Option Addr} {xs : List (List UInt8 × Bool)} {g j : Nat} {u : Value} (h : LinesOff w A xs (some g)) : LinesOff (w.setCell ⟨g, j, none⟩ u) A xs (some g) := fun hp => by
  obtain ⟨bk, off, e, hne, hlt, hl⟩ := h hp
  have hne' : g ≠ bk := fun e => hne (by rw [e])
  refine ⟨bk, off, e, hne, by simpa using hlt, fun i hi => ⟨?_, ?_⟩⟩
  · rw [World.cell?_setCell_far _ _ _ _ (by exact hne')]; exact (hl i hi).1
  · rw [World.cell?_setCell_far _ _ _ _ (by exact hne')]; exact (hl i hi).2
theorem LinesOff.lines {w : World} {A : Option Addr} {xs : List (List UInt8 × Bool)} {g : Option Nat} (h : LinesOff w A xs g) : LinesIn w A xs := fun hp => by
  obtain ⟨bk, off, e, _, hlt, hl⟩ := h hp
  exact ⟨bk, off, e, hlt, hl⟩

end Go.Proofs.YtddakaeacgojmaaDoor.T

namespace Go.Proofs.YtddakaeacgojmaaDoor.Wr
set_option linter.unusedVariables false
set_option linter.unusedSimpArgs false
open Go.RowKit
open T L

/-- Bytes, wherever they lie. -/
structure Bz (w : World) (A : Option Addr) (cap : Nat) (l : List UInt8) : Prop where
  fit : l.length ≤ cap
  at' : (A = none ∧ cap = 0) ∨ ∃ bk off, A = some ⟨bk, off, none⟩ ∧ BytesAt w bk off l ∧ (0 < l.length → bk < w.heap.size)
theorem Bz.in {w : World} {A : Option Addr} {cap : Nat} {l : List UInt8} (h : Bz w A cap l) : BytesIn w A l := fun hp => by
  rcases h.at' with ⟨_, h2⟩ | ⟨bk, off, h1, h2, h3⟩
  · have := h.fit; omega
  · exact ⟨bk, off, h1, h3 hp, h2⟩
theorem Bz.none {w : World} {A : Option Addr} {cap : Nat} {l : List UInt8} (h : Bz w A cap l) : A = Option.none → cap = 0 := fun e => by
  rcases h.at' with ⟨_, h2⟩ | ⟨bk, off, h1, h2, h3⟩
  · exact h2
  · rw [h1] at e; cases e
theorem Bz.below {w w' : World} {A : Option Addr} {cap : Nat} {l : List UInt8} (h : Bz w A cap l) (hb : Below w.heap.size w w') : Bz w' A cap l := by
  refine ⟨h.fit, ?_⟩
  rcases h.at' with h1 | ⟨bk, off, h1, h2, h3⟩
  · exact .inl h1
  · refine .inr ⟨bk, off, h1, ?_, fun hp => Nat.lt_of_lt_of_le (h3 hp) hb.size⟩
    intro j hj
    exact (h2.below hb (h3 (by omega))) j hj
theorem nums_at {w : World} {bk off : Nat} {l : List UInt8} (h : BytesAt w bk off l) : ∀ i, i < l.length → w.cell? ⟨bk, off + i, none⟩ = some (.int .u8 ((l.map fun c => (c.toNat : Int)).getD i 0)) := by
  intro i hi
  rw [h i hi]
  simp [List.getD, List.getElem?_eq_getElem hi]
theorem bytes_nums (l : List UInt8) : Lib.bytesOf (l.map fun c => (c.toNat : Int)) = l := by
  unfold Lib.bytesOf
  rw [List.map_map]
  conv => rhs; rw [← List.map_id l]
  exact List.map_congr_left fun c _ => by simp

/-- The answer of Cut at a newline. -/
def CutEnd (A : Option Addr) (cap : Nat) (l : List UInt8) (e : Ending) (w' : World) : Prop := match split 10 l with
  | some (h, t) => ∃ A' c', e = .returned (.tuple #[.slice A h.length cap, .slice A' t.length c', .bool true]) ∧ Bz w' A cap h ∧ Bz w' A' c' t
  | none => e = .returned (.tuple #[.slice A l.length cap, .slice none 0 0, .bool false])
theorem below_drewN (w : World) (q : Nat) : Below w.heap.size w (w.drewN q) := ⟨rfl, rfl, rfl, Nat.le_refl _, fun _ _ => rfl⟩
theorem cut_bytes (A : Option Addr) (cap b2 d : Nat) (l : List UInt8) (w : World) (h : Bz w A cap l) (hl : l.length ≤ 4611686018427387904) (hs : w.cell? ⟨b2, 0, none⟩ = some (.int .u8 10)) :
    Calls Tryd.prog 33 #[.slice A l.length cap, .slice (some ⟨b2, 0, none⟩) 1 d] w fun e w' => CutEnd A cap l e w' ∧ Below w.heap.size w w' := by
  rcases h.at' with ⟨rfl, rfl⟩ | ⟨bk, off, rfl, hB, hlt⟩
  · obtain rfl : l = [] := List.length_eq_zero_iff.1 (by have := h.fit; omega)
    refine (Tryd.bytes_Cut_of none (some ⟨b2, 0, none⟩) 0 0 1 d (-1) w (by omega) (by omega) (fun h => by omega) (by omega) ((Tryd.bytes_Index_one_nil b2 0 d 10 w hs).mono fun e w' g => ⟨g.1, 0, g.2⟩)).mono ?_
    rintro e w' ⟨rfl, q, rfl⟩
    exact ⟨rfl, below_drewN w q⟩
  · have hi := Tryd.bytes_Index_one bk off l.length cap b2 0 d (l.map fun c => (c.toNat : Int)) 10 w (by simp) (nums_at hB) hs
    rw [bytes_nums] at hi
    rcases split_index 10 l with ⟨h1, h2⟩ | ⟨o, h1, h2, h3⟩
    · have hi2 : Calls Tryd.prog 49 #[.slice (some ⟨bk, off, none⟩) l.length cap, .slice (some ⟨b2, 0, none⟩) 1 d] w fun e w' => e = .returned (.int .i64 (-1)) ∧ ∃ q, w' = w.drewN q :=
        hi.mono fun e w' g => ⟨g.1.trans (by rw [show (10 : Int).toNat.toUInt8 = 10 from rfl, h1]), 0, g.2⟩
      refine (Tryd.bytes_Cut_of (some ⟨bk, off, none⟩) (some ⟨b2, 0, none⟩) l.length cap 1 d (-1) w h.fit (by omega) (fun h => by omega) hl hi2).mono ?_
      rintro e w' ⟨rfl, q, rfl⟩
      refine ⟨?_, below_drewN w q⟩
      unfold CutEnd
      rw [h2]
      rfl
    · have hi2 : Calls Tryd.prog 49 #[.slice (some ⟨bk, off, none⟩) l.length cap, .slice (some ⟨b2, 0, none⟩) 1 d] w fun e w' => e = .returned (.int .i64 (o : Int)) ∧ ∃ q, w' = w.drewN q :=
        hi.mono fun e w' g => ⟨g.1.trans (by rw [show (10 : Int).toNat.toUInt8 = 10 from rfl, h1]), 0, g.2⟩
      refine (Tryd.bytes_Cut_of (some ⟨bk, off, none⟩) (some ⟨b2, 0, none⟩) l.length cap 1 d o w h.fit (by omega) (fun h => by omega) hl hi2).mono ?_
      rintro e w' ⟨rfl, q, rfl⟩
      refine ⟨?_, below_drewN w q⟩
      unfold CutEnd
      rw [h3]
      have hf := h.fit
      have h4 : (l.take o).length = o := by simp; omega
      have h5 : (l.drop (o + 1)).length = l.length - (o + 1) := by simp
      refine ⟨if cap = o + 1 then some ⟨bk, off, none⟩ else some ⟨bk, off + (o + 1), none⟩, cap - (o + 1), ?_, ⟨by omega, .inr ⟨bk, off, rfl, ?_, fun hp => hlt (by omega)⟩⟩, ⟨by omega, ?_⟩⟩
      · rw [h4, h5]; unfold Lib.cutV Lib.fromV
        rw [if_pos (by omega)]
        rfl
      · have := (hB.sub (i := 0) (n := o))
        simp only [List.drop_zero, Nat.add_zero] at this
        exact fun j hj => this j hj
      · by_cases hc : cap = o + 1
        · rw [if_pos hc]
          have he : l.drop (o + 1) = [] := List.length_eq_zero_iff.1 (by omega)
          rw [he]
          exact .inr ⟨bk, off, rfl, fun j hj => absurd hj (by simp), fun hp => absurd hp (by simp)⟩
        · rw [if_neg hc]
          refine .inr ⟨bk, off + (o + 1), rfl, ?_, fun hp => hlt (by omega)⟩
          have := hB.sub (i := o + 1) (n := l.length)
          rw [List.take_of_length_le (by omega)] at this
          exact fun j hj => this j hj

/-- A copy, in memory of its own. -/
def CpEnd (base : Nat) (l : List UInt8) (e : Ending) (w' : World) : Prop := ∃ A' c', e = .returned (.slice A' l.length c') ∧ w'.ownsRow base 5 1 (.slice A' l.length c') l.length (byteCells l)
theorem copied_any (A : Option Addr) (cap : Nat) (l : List UInt8) (w : World) (h : Bz w A cap l) (hl : l.length ≤ 140737488355328) :
    Calls Tryd.prog 36 #[.slice A l.length cap] w fun e w' => CpEnd w.heap.size l e w' ∧ Below w.heap.size w w' := by
  obtain ⟨i0, hi0, hz0, hz1, hz2⟩ := info_parts infoByte
  have hw0 : w.ownsRow w.heap.size 5 1 (.slice none 0 0) 0 [] := ⟨rfl, .inl ⟨rfl, rfl⟩⟩
  have hin := Lib.hid h.in
  have hno := Lib.hid h.none
  have HL := Lib.hid hl
  clear h
  generalize hn : l.length = n at *
  go_enter Tryd.func36, Tryd.ntmps36
  go_wp2_with (at_builtin; subst hn; refine append_bytes rfl (.const (.slice none 0 0)) (.tmp 3) 26 rfl w.heap.size 5 i0 _ Tryd.underlying26 hi0 hz0 hz1 hz2 rfl (.slice none 0 0) 0 (byteCells []) rfl hw0 A cap l rfl hin.out hno.out (by have := HL.out; simp only [maxLen]; omega) (by have := HL.out; omega) (Nat.le_refl _) ?_)
  intro v w1 hown hg1
  have hbe1 : Below w.heap.size w w1 := (Below.refl w.heap.size w).grown hg1 (by simp) (own_base hw0)
  rw [show byteCells [] ++ byteCells l = byteCells l from rfl] at hown
  obtain ⟨A', c', rfl, _, _⟩ := T.own_form hown
  have HO := Lib.hid hown
  clear hown hg1 hw0
  go_wp2_with fail
  go_ret
  exact ⟨⟨A', c', ret_of rfl, HO.out⟩, hbe1⟩
end Go.Proofs.YtddakaeacgojmaaDoor.Wr
