/-
  The contracts of label's Cats and Of.
  The contract of label's Of.
  Plain facts on numbers and their texts: the text of a number up to 2^31 - 1 is read as that number; what is read as a number is that number's text; reading without a bound and asking at the end comes to the same.
  The same.
  The contract of label's Print.
  The contract of strings.Cut at a separator of one byte: for every text, whatever its length.
  The contract of label's numbers: for every text of at most 2^22 bytes.
  The contract of label's Parse: for every text of at most 2^22 bytes.
  The contract of label's Parse, from the call of Of on: for every text of at most 2^22 bytes.
  The contract of label's Parse, whole, for every text of at most 2^22 bytes; and of layer 2's live: it returns true.
  Plain facts: the text of a right label is read as that label; of a label that may not be, nothing is read.
  The contracts of the reference's Has, Right and Below for labels.
  The contract of text.Name: it returns, whatever text it is handed, what the plain function says, and leaves the world as it was.
-/
import Derived.Test.YtbfohfmipfapdaaDoorGua
import Derived.Lib.IndexLaws
namespace Go.Proofs.YtbfohfmipfapdaaDoor.L
open Go.RowKit
open T

/-- The categories of a label, from k on up to 64. -/
def catsTo (c k : Nat) : List Nat := (List.range k).filter fun i => c.testBit i
def intCells (xs : List Nat) : List Value := xs.map fun n : Nat => .int .i64 (n : Int)
theorem intCells_snoc (xs : List Nat) (n : Nat) : intCells (xs ++ [n]) = intCells xs ++ [.int .i64 (n : Int)] := by simp [intCells]
theorem catsTo_yes {c k : Nat} (h : c.testBit k = true) : catsTo c (k + 1) = catsTo c k ++ [k] := by simp [catsTo, List.range_succ, h]
theorem catsTo_no {c k : Nat} (h : c.testBit k = false) : catsTo c (k + 1) = catsTo c k := by simp [catsTo, List.range_succ, h]
theorem catsTo_len (c k : Nat) : (catsTo c k).length ≤ k := by
  have := List.length_filter_le (fun i => c.testBit i) (List.range k)
  simpa [catsTo] using this
theorem and_bit (c k : Nat) : (c &&& 2 ^ k = 0) ↔ c.testBit k = false := by
  rw [nat_bit, Nat.testBit_eq_decide_div_mod_eq]
  have hp := Nat.pow_pos (n := k) (show 0 < 2 by omega)
  rcases Nat.mod_two_eq_zero_or_one (c / 2 ^ k) with h | h <;> rw [h] <;> simp
theorem infoInt : (Tryd.prog.info? 3).map (fun i => (i.zero, i.size, i.bytes)) = some (some (.int .i64 0), 1, 8) := by kernel_rfl

set_option maxHeartbeats 1000000 in
set_option maxRecDepth 100000 in
theorem cats_any (l : Int) (c : Nat) (w : World) (hc : c < 18446744073709551616) :
    Calls Tryd.prog 41 #[lab l c] w fun e w' => ∃ v, e = .returned v ∧ w'.ownsRow w.heap.size 3 1 v (catsTo c 64).length (intCells (catsTo c 64)) ∧ Below w.heap.size w w' := by
  obtain ⟨i0, hi0, hz0, hz1, hz2⟩ := info_parts infoInt
  go_enter Tryd.func41, Tryd.ntmps41
  go_wp2_with fail
  go_loopg [3, 5] 64 (fun n v i wr => ∃ k : Nat, k ≤ 64 ∧ i = .int .i64 k ∧ 64 - k ≤ n ∧ wr.ownsRow (w.heap.size + 1) 3 1 v (catsTo c k).length (intCells (catsTo c k)) ∧ wr.heap[w.heap.size]? = some (.cells #[.int .i64 l, .int .u64 (c : Int)] 25 (0, 0)) ∧ Below w.heap.size w wr)
  case atStart => exact ⟨0, by omega, rfl, by omega, ⟨by simp [catsTo, intCells], .inl ⟨rfl, by simp [catsTo]⟩⟩, heap_alloc_new w _, (Below.refl _ _).alloc (Nat.le_refl _) _⟩
  case round =>
    obtain ⟨k, hk, rfl, hn, hown, hb0, hbel⟩ := hrel
    have c1 : wr.cell? ⟨w.heap.size, 1, none⟩ = some (.int .u64 (c : Int)) := blk_cell hb0 1
    have hwr : w.heap.size + 1 ≤ wr.heap.size := blk_lt hb0
    have HB0 := Lib.hid hb0
    clear hb0
    by_cases hlt : k < 64
    · have hpb : 2 ^ k < 18446744073709551616 := Nat.pow_lt_pow_right (a := 2) (n := 64) (by omega) hlt
      have hand := u64_and_nat c (2 ^ k) hc hpb
      have HB := Lib.hid (fun w => bit_any k w hlt)
      have hlen := catsTo_len c k
      by_cases hbit : c.testBit k
      · have hne : ((c &&& 2 ^ k : Nat) : Int) ≠ 0 := by
          intro e
          have := (and_bit c k).1 (by omega)
          rw [hbit] at this; cases this
        have HC := Lib.hid (catsTo_yes hbit)
        clear hpb hbit
        generalize c &&& 2 ^ k = y at *
        generalize 2 ^ k = p at *
        generalize catsTo c k = xs at *
        have hne' : ((y : Int) != 0) = true := by simpa using hne
        clear hne
        go_wp2_with fail
        go_quiet ((go_at_call 46; exact Calls.quiet_of_same ((HB.out _).mono fun _ _ h => ⟨h.1, h.2.symm⟩)))
        go_wp2_with (at_builtin; refine wpList_append_own _ rfl (.tmp 14) (.tmp 16) 61 rfl (w.heap.size + 1) 3 i0 _ 1 8 Tryd.underlying61 hi0 hz0 hz1 hz2 rfl (by decide) _ xs.length (intCells xs) rfl ?ho ⟨wr.heap.size, 0, none⟩ 1 1 [.int .i64 (k : Int)] rfl rfl ?c1 ?c2 ?c3 ?c4 ?c5 ?_)
        case ho => exact hown.alloc _
        case c1 => exact cell_one_new _ _ _
        case c2 => intro u hu; simp at hu; rcases hu with rfl; rfl
        case c3 => simp only [maxLen]; omega
        case c4 => omega
        case c5 => show w.heap.size + 1 ≤ (wr.alloc _).heap.size; simp; omega
        intro v' w2 hown1 hg1 _
        have hbel1 : Below w.heap.size w w2 := (below_drewN (hbel.alloc hbel.size _) _).grown hg1 (by show w.heap.size ≤ (wr.alloc _).heap.size; simp; omega) (fun k hk => by have := own_base hown k hk; omega)
        have hb2 : w2.heap[w.heap.size]? = some (.cells #[.int .i64 l, .int .u64 (c : Int)] 25 (0, 0)) := by
          rw [hg1.block w.heap.size (by show w.heap.size < (wr.alloc _).heap.size; simp; omega) (fun e => by have := own_base hown _ e.symm; omega)]
          exact (Below.heap_alloc wr _ _ (by omega)).trans HB0.out
        have HB2 := Lib.hid hb2
        rw [← intCells_snoc] at hown1
        have hl1 : (xs ++ [k]).length = xs.length + 1 := by simp
        rw [← hl1, ← HC.out] at hown1
        clear hl1 hown hb2
        go_wp2_with fail
        go_roundg (64 - (k + 1))
        case measure => omega
        case rel => exact ⟨k + 1, by omega, by go_num, Nat.le_refl _, hown1, HB2.out, hbel1⟩
      · have hbit' : c.testBit k = false := by simpa using hbit
        have hne' : (((c &&& 2 ^ k : Nat) : Int) != 0) = false := by
          have := (and_bit c k).2 hbit'
          rw [this]; rfl
        have HC := Lib.hid (catsTo_no hbit')
        clear hpb hbit hbit'
        generalize c &&& 2 ^ k = y at *
        generalize 2 ^ k = p at *
        go_wp2_with fail
        go_quiet ((go_at_call 46; exact Calls.quiet_of_same ((HB.out _).mono fun _ _ h => ⟨h.1, h.2.symm⟩)))
        go_wp2_with fail
        go_roundg (64 - (k + 1))
        case measure => omega
        case rel => exact ⟨k + 1, by omega, by go_num, Nat.le_refl _, by rw [HC.out]; exact hown, HB0.out, below_drewN hbel _⟩
    · obtain rfl : k = 64 := by omega
      have hown' := own_more hown (Nat.le_succ w.heap.size)
      clear hown
      go_wp2_with fail
      go_ret
      exact ⟨_, rfl, hown', hbel⟩
end Go.Proofs.YtbfohfmipfapdaaDoor.L

namespace Go.Proofs.YtbfohfmipfapdaaDoor.L
open Go.RowKit
open T

/-- The categories of a list of numbers, beside those that are there; none if one is no category. -/
def ofGo : List Int → Nat → Option Nat
  | [], c => some c
  | x :: r, c => if x < 0 ∨ 63 < x then none else ofGo r (c ||| 2 ^ x.toNat)
def ofAll (l : Int) (xs : List Int) : Option Nat := if rightB l then ofGo xs 0 else none
def ofVal (l : Int) (o : Option Nat) : Value := match o with
  | some c => .tuple #[lab l c, .int .i64 0]
  | none => .tuple #[lab 0 0, .int .i64 2]
theorem ofVal_none (l : Int) : ofVal l none = .tuple #[lab 0 0, .int .i64 2] := rfl
theorem ofVal_some (l : Int) (c : Nat) : ofVal l (some c) = .tuple #[lab l c, .int .i64 0] := rfl

/-- A row of numbers in memory. -/
def IntsAt (w : World) (bk off : Nat) (xs : List Int) : Prop := ∀ j (h : j < xs.length), w.cell? ⟨bk, off + j, none⟩ = some (.int .i64 xs[j])
theorem IntsAt.below {w w' : World} {bk off B : Nat} {xs : List Int} (h : IntsAt w bk off xs) (hb : Below B w w') (hB : bk < B) : IntsAt w' bk off xs :=
  fun j hj => (hb.cell (p := ⟨bk, off + j, none⟩) hB).trans (h j hj)

theorem of_bad {xs : List Int} {k c : Nat} (hk : k < xs.length) (h : xs[k] < 0 ∨ 63 < xs[k]) : ofGo (xs.drop k) c = none := by
  rw [List.drop_eq_getElem_cons hk, ofGo, if_pos h]
theorem of_on {xs : List Int} {k c : Nat} (hk : k < xs.length) (h : ¬ (xs[k] < 0 ∨ 63 < xs[k])) : ofGo (xs.drop k) c = ofGo (xs.drop (k + 1)) (c ||| 2 ^ xs[k].toNat) := by
  rw [List.drop_eq_getElem_cons hk, ofGo, if_neg h]
theorem of_end {xs : List Int} {c : Nat} : ofGo (xs.drop xs.length) c = some c := by rw [List.drop_length, ofGo]
theorem or_small {a b : Nat} (ha : a < 18446744073709551616) (hb : b < 18446744073709551616) : a ||| b < 18446744073709551616 := Nat.or_lt_two_pow (n := 64) ha hb

def Rt (l : Int) (b : Bool) : Prop := ∀ w : World, Calls Tryd.prog 31 #[.agg #[.int .i64 l, .int .u64 0]] w fun e w' => e = .returned (.bool b) ∧ Below w.heap.size w w'
theorem Rt.call {l : Int} {b : Bool} (h : Rt l b) (w : World) : Calls Tryd.prog 31 #[.agg #[.int .i64 l, .int .u64 0]] w fun e w' => e = .returned (.bool b) ∧ Below w.heap.size w w' := h w
theorem rt_is (l : Int) : Rt l (rightB l) := fun w => right_any l 0 w

/-- What the result's own block reads as. -/
theorem res_cells {wf : World} {g : Nat} {l : Int} {c : Int} (h : wf.heap[g]? = some (.cells #[.int .i64 l, .int .u64 c] 25 (0, 0))) :
    wf.cell? ⟨g, 0, none⟩ = some (.int .i64 l) ∧ wf.cell? ⟨g, 1, none⟩ = some (.int .u64 c) := ⟨blk_cell h 0, blk_cell h 1⟩
theorem two_blocks (w : World) (a b : Obj) : ((w.alloc a).alloc b).heap[w.heap.size]? = some a ∧ ((w.alloc a).alloc b).heap[w.heap.size + 1]? = some b := by
  refine ⟨?_, ?_⟩
  · rw [Below.heap_alloc _ _ _ (by simp)]; exact heap_alloc_new w _
  · have := heap_alloc_new (w.alloc a) b
    rwa [World.size_alloc] at this

end Go.Proofs.YtbfohfmipfapdaaDoor.L

namespace Go.Proofs.YtbfohfmipfapdaaDoor.P

/-- The digits of a list read on from n, without a bound. -/
def valGo : List UInt8 → Nat → Option Nat
  | [], n => some n
  | c :: r, n => if c.toNat < 48 ∨ 57 < c.toNat then none else valGo r (10 * n + (c.toNat - 48))
/-- Asked at the end. -/
def upTo (o : Option Nat) : Option Nat := o.bind fun m => if 2147483647 < m then none else some m

theorem valGo_ge : ∀ (l : List UInt8) (n m : Nat), valGo l n = some m → n * 10 ^ l.length ≤ m
  | [], n, m, h => by simp [valGo] at h; simp; omega
  | c :: r, n, m, h => by
    rw [valGo] at h
    split at h
    · cases h
    · have := valGo_ge r _ m h
      rw [List.length_cons, Nat.pow_succ]
      have e : (10 * n) * 10 ^ r.length ≤ (10 * n + (c.toNat - 48)) * 10 ^ r.length := Nat.mul_le_mul_right _ (by omega)
      have e2 : n * (10 ^ r.length * 10) = (10 * n) * 10 ^ r.length := by rw [Nat.mul_comm (10 ^ r.length) 10, ← Nat.mul_assoc, Nat.mul_comm n 10]
      omega
theorem valGo_le (l : List UInt8) (n m : Nat) (h : valGo l n = some m) : n ≤ m := by
  have h1 := valGo_ge l n m h
  have h2 : n * 1 ≤ n * 10 ^ l.length := Nat.mul_le_mul_left _ (Nat.pow_pos (by omega))
  omega

theorem numGo_val : ∀ (l : List UInt8) (n : Nat), n ≤ 2147483647 → numGo l n = upTo (valGo l n)
  | [], n, h => by simp [numGo, valGo, upTo]; omega
  | c :: r, n, h => by
    rw [numGo, valGo]
    split
    · rfl
    · split
      · next hb =>
        cases e : valGo r (10 * n + (c.toNat - 48)) with
        | none => rfl
        | some m =>
          have := valGo_le _ _ _ e
          simp [upTo]; omega
      · next hb => exact numGo_val r _ (by omega)

/-- Too long: more than ten digits without a 0 ahead. -/
theorem number_long (l : List UInt8) (h : 10 < l.length) : number l = none := by
  rw [number]
  split
  · rfl
  · next hc =>
    match l, h, hc with
    | c :: r, h, hc =>
      rw [numGo_val _ _ (by omega)]
      cases e : valGo (c :: r) 0 with
      | none => rfl
      | some m =>
        have hne : c ≠ 48 := fun e => hc (.inr ⟨by rw [e]; rfl, by simp at h ⊢; omega⟩)
        rw [valGo] at e
        split at e
        · cases e
        · next hd =>
          have h1 := valGo_ge r _ m e
          have hc48 : c.toNat ≠ 48 := fun e => hne (UInt8.toNat_inj.1 e)
          have h2 : 1 * 10 ^ 10 ≤ (10 * 0 + (c.toNat - 48)) * 10 ^ r.length :=
            Nat.mul_le_mul (by omega) (Nat.pow_le_pow_right (by omega) (by simp at h; omega))
          simp [upTo]; omega
theorem number_val (l : List UInt8) (h0 : l ≠ []) (h : ¬ (1 < l.length ∧ l.head? = some 48)) : number l = upTo (valGo l 0) := by
  rw [number, if_neg (by rintro (e | e); exact h0 e; exact h ⟨e.2, e.1⟩), numGo_val _ _ (by omega)]

theorem numGo_snoc : ∀ (l : List UInt8) (c : UInt8) (n : Nat), numGo (l ++ [c]) n = (numGo l n).bind fun m => numGo [c] m
  | [], c, n => by simp [numGo]
  | x :: r, c, n => by
    rw [List.cons_append, numGo, numGo]
    split
    · rfl
    · split
      · rfl
      · exact numGo_snoc r c _

theorem digit (d : Nat) (h : d < 10) : (UInt8.ofNat (48 + d)).toNat = 48 + d := by
  rw [UInt8.toNat_ofNat']; omega
theorem digit_of (c : UInt8) (h : 48 ≤ c.toNat) (h2 : c.toNat ≤ 57) : UInt8.ofNat (48 + (c.toNat - 48)) = c := by
  rw [show 48 + (c.toNat - 48) = c.toNat by omega]; simp

theorem numGo_dec (u : Nat) (h : u ≤ 2147483647) : numGo (Lib.decDigits u) 0 = some u := by
  induction u using Nat.strongRecOn with
  | ind u ih =>
    rw [Lib.decDigits]
    split
    · next hu => rw [numGo, digit u hu, if_neg (by omega), if_neg (by omega), numGo]; congr 1; omega
    · next hu =>
      rw [numGo_snoc, ih (u / 10) (by omega) (by omega)]
      show numGo [_] (u / 10) = _
      rw [numGo, digit _ (by omega), if_neg (by omega), if_neg (by omega), numGo]
      congr 1; omega
theorem dec_ne (u : Nat) : Lib.decDigits u ≠ [] := by
  rw [Lib.decDigits]; split <;> simp
theorem dec_head (u : Nat) : 1 ≤ u → (Lib.decDigits u).head? ≠ some 48 := by
  induction u using Nat.strongRecOn with
  | ind u ih =>
    intro hu1
    rw [Lib.decDigits]
    split
    · next hu =>
      simp only [List.head?_cons, ne_eq, Option.some.injEq]
      intro e
      have := congrArg UInt8.toNat e
      rw [digit u hu] at this
      simp at this; omega
    · next hu =>
      have hne := dec_ne (u / 10)
      have := ih (u / 10) (by omega) (by omega)
      cases e : Lib.decDigits (u / 10) with
      | nil => exact absurd e hne
      | cons x r => rw [e] at this; simpa using this
theorem number_dec (u : Nat) (h : u ≤ 2147483647) : number (Lib.decDigits u) = some u := by
  rw [number, if_neg, numGo_dec u h]
  rintro (e | ⟨e1, e2⟩)
  · exact dec_ne u e
  · rcases Nat.eq_zero_or_pos u with h0 | h0
    · subst h0; rw [Lib.decDigits_one (by omega)] at e2; simp at e2
    · exact dec_head u h0 e1

theorem numGo_le (l : List UInt8) (n m : Nat) (hn : n ≤ 2147483647) (h : numGo l n = some m) : n ≤ m ∧ m ≤ 2147483647 := by
  rw [numGo_val l n hn] at h
  cases e : valGo l n with
  | none => rw [e] at h; cases h
  | some k =>
    rw [e] at h
    have := valGo_le l n k e
    simp only [upTo, Option.bind_some] at h
    split at h
    · cases h
    · injection h with h; omega

theorem dec_numGo (l : List UInt8) : ∀ n, l ≠ [] → (l.head? = some 48 → l.length = 1) → numGo l 0 = some n → Lib.decDigits n = l := by
  induction hl : l.length generalizing l with
  | zero => intro n h; exact absurd (List.eq_nil_of_length_eq_zero hl) h
  | succ k ih =>
    intro n hne hz h
    obtain ⟨i, c, rfl⟩ : ∃ i c, l = i ++ [c] := ⟨l.dropLast, l.getLast hne, (List.dropLast_concat_getLast hne).symm⟩
    rw [numGo_snoc] at h
    cases em : numGo i 0 with
    | none => rw [em] at h; cases h
    | some m =>
      rw [em] at h
      simp only [Option.bind_some, numGo] at h
      split at h
      · cases h
      · next hd =>
        split at h
        · cases h
        · next hb =>
          injection h with h
          subst h
          by_cases hi : i = []
          · subst hi
            simp only [numGo, Option.some.injEq] at em
            subst em
            rw [Lib.decDigits_one (by omega), show 48 + (10 * 0 + (c.toNat - 48)) = 48 + (c.toNat - 48) by omega, digit_of c (by omega) (by omega)]
            rfl
          · have hih := ih i (by simp at hl; omega) m hi (fun e => by
              have : (i ++ [c]).head? = some 48 := by
                cases i with
                | nil => exact absurd rfl hi
                | cons x r => simpa using e
              have := hz this
              have hik : i.length = k := by simp at hl; omega
              exact absurd (List.eq_nil_of_length_eq_zero (by omega)) hi) em
            have hm : 1 ≤ m := by
              rcases Nat.eq_zero_or_pos m with h0 | h0
              · subst h0
                rw [Lib.decDigits_one (by omega)] at hih
                have : (i ++ [c]).head? = some 48 := by rw [← hih]; rfl
                have := hz this
                have hik : i.length = k := by simp at hl; omega
                exact absurd (List.eq_nil_of_length_eq_zero (by omega)) hi
              · exact h0
            rw [Lib.decDigits, dif_neg (by omega), show (10 * m + (c.toNat - 48)) / 10 = m by omega, show (10 * m + (c.toNat - 48)) % 10 = c.toNat - 48 by omega, hih, digit_of c (by omega) (by omega)]
theorem dec_number (l : List UInt8) (n : Nat) (h : number l = some n) : Lib.decDigits n = l ∧ n ≤ 2147483647 := by
  rw [number] at h
  split at h
  · cases h
  · next hc =>
    refine ⟨dec_numGo l n (fun e => hc (.inl e)) (fun e => ?_) h, (numGo_le l 0 n (by omega) h).2⟩
    have : ¬ 1 < l.length := fun e2 => hc (.inr ⟨e, e2⟩)
    cases l with
    | nil => simp at e
    | cons x r => simp at this ⊢; omega

theorem decimal_in (n : Int) (h0 : 0 ≤ n) (h1 : n ≤ 2147483647) : decimal n = Lib.decDigits n.toNat := by rw [decimal, if_neg (by omega)]
theorem decimal_out (n : Int) (h : n < 0 ∨ 2147483647 < n) : decimal n = [63] := by rw [decimal, if_pos h]
theorem number_decimal (n : Int) (h0 : 0 ≤ n) (h1 : n ≤ 2147483647) : number (decimal n) = some n.toNat := by
  rw [decimal_in n h0 h1, number_dec _ (by omega)]
theorem number_untold (n : Int) (h : n < 0 ∨ 2147483647 < n) : number (decimal n) = none := by
  rw [decimal_out n h]; decide
theorem decimal_number (l : List UInt8) (n : Nat) (h : number l = some n) : decimal n = l := by
  have := dec_number l n h
  rw [decimal_in n (by omega) (by omega)]
  simpa using this.1
theorem decimal_length (n : Int) : (decimal n).length ≤ 10 := by
  by_cases h : n < 0 ∨ 2147483647 < n
  · rw [decimal_out n h]; decide
  · rw [decimal_in n (by omega) (by omega)]
    rcases Nat.lt_or_ge 10 (Lib.decDigits n.toNat).length with hl | hl
    · have := number_long _ hl
      rw [number_dec _ (by omega)] at this
      cases this
    · exact hl
end Go.Proofs.YtbfohfmipfapdaaDoor.P



namespace Go.Proofs.YtbfohfmipfapdaaDoor.L
open Go.RowKit
open T

/-- A label's text. -/
def catsText (xs : List Nat) : List UInt8 := Lib.join (xs.map fun n : Nat => P.decimal (n : Int)) [44]
def print (l : Int) (c : Nat) : List UInt8 := if catsTo c 64 = [] then P.decimal l else P.decimal l ++ [58] ++ catsText (catsTo c 64)

theorem own_form {w : World} {base : Nat} {e : TypeId} {size n : Nat} {v : Value} {xs : List Value} (h : w.ownsRow base e size v n xs) :
    ∃ A cap, v = .slice A n cap ∧ n ≤ cap ∧ (0 < n → ∃ g, A = some ⟨g, 0, none⟩ ∧ base ≤ g ∧ g < w.heap.size ∧ ∀ j u, xs[j]? = some u → w.cell? ⟨g, j, none⟩ = some u) := by
  rcases h.2 with ⟨rfl, rfl⟩ | ⟨g, cap, cur, rfl, hg, hh, hnc, _, _, hx⟩
  · exact ⟨none, 0, rfl, Nat.le_refl _, fun h => absurd h (by omega)⟩
  · refine ⟨_, cap, rfl, hnc, fun _ => ⟨g, rfl, hg, blk_lt hh, fun j u hu => ?_⟩⟩
    rw [← hx] at hu
    have hu' : cur.toList[j]? = some u := by
      rw [List.getElem?_take] at hu
      split at hu
      · exact hu
      · cases hu
    rw [blk_cell hh j]
    simpa using hu'

theorem join_len (xs : List Nat) : (catsText xs).length ≤ 11 * xs.length := by
  unfold catsText Lib.join
  induction xs with
  | nil => simp
  | cons x r ih =>
    have := P.decimal_length (x : Int)
    cases r with
    | nil => simp; omega
    | cons y r =>
      rw [List.map_cons, List.map_cons, List.intercalate_cons_cons] 
      simp at ih ⊢
      omega

/-- The texts of categories, as strings. -/
def decStrs (xs : List Nat) : List ByteArray := xs.map fun n : Nat => (⟨(P.decimal (n : Int)).toArray⟩ : ByteArray)
def decCells (xs : List Nat) : List Value := xs.map fun n : Nat => .string ⟨(P.decimal (n : Int)).toArray⟩
theorem decStrs_data (xs : List Nat) : (decStrs xs).map (·.data.toList) = xs.map fun n : Nat => P.decimal (n : Int) := by
  unfold decStrs
  rw [List.map_map]
  exact List.map_congr_left fun _ _ => rfl
theorem dec_take {xs : List Nat} {k : Nat} (hk : k < xs.length) : decCells (xs.take (k + 1)) = decCells (xs.take k) ++ [.string ⟨(P.decimal ((xs[k] : Nat) : Int)).toArray⟩] := by
  unfold decCells
  rw [List.take_succ_eq_append_getElem hk, List.map_append]
  rfl
theorem cat (l r : List UInt8) : (⟨l.toArray⟩ : ByteArray) ++ ⟨r.toArray⟩ = ⟨(l ++ r).toArray⟩ := by
  apply ByteArray.ext
  simp

set_option maxHeartbeats 1000000 in
set_option maxRecDepth 100000 in
theorem print_any (l : Int) (c : Nat) (w : World) (h0 : -9223372036854775808 ≤ l) (h1 : l ≤ 9223372036854775807) (hc : c < 18446744073709551616) (ht : Tab w) :
    Calls Tryd.prog 37 #[lab l c] w fun e w' => e = .returned (.string ⟨(print l c).toArray⟩) ∧ Below w.heap.size w w' := by
  obtain ⟨i0, hi0, hz0, hz1, hz2⟩ := info_parts infoStr
  have HC := Lib.hid (fun w => cats_any l c w hc)
  have HD := Lib.hid (fun (n : Int) (a : -9223372036854775808 ≤ n) (b : n ≤ 9223372036854775807) (w : World) (ht : Tab w) => decimal_any n w a b ht)
  have HT := Lib.hid ht
  have hlen := catsTo_len c 64
  have HX : Hid (∀ j (h : j < (catsTo c 64).length), (catsTo c 64)[j] < 64) := Lib.hid fun j h => by
    have := List.getElem_mem h
    unfold catsTo at this
    rw [List.mem_filter, List.mem_range] at this
    exact this.1
  have HP := Lib.hid (show print l c = if catsTo c 64 = [] then P.decimal l else P.decimal l ++ [58] ++ catsText (catsTo c 64) from rfl)
  generalize print l c = res at *
  generalize catsTo c 64 = xs at *
  clear hc ht
  go_enter Tryd.func37, Tryd.ntmps37
  go_wp2_with fail
  with_reducible refine (HC.out _).mono ?_
  rintro e w1 ⟨v, rfl, hown, hb1⟩
  obtain ⟨A, cap, hv, hcap, hA⟩ := own_form hown
  subst hv
  have hbel : Below w.heap.size w w1 := ((Below.refl _ _).alloc (Nat.le_refl _) _).trans (hb1.mono (by simp))
  have HK0 := Lib.hid ((hb1.block w.heap.size (by simp)).trans (heap_alloc_new w _))
  have hw1 : w.heap.size < w1.heap.size := blk_lt HK0.out
  have HA := Lib.hid hA
  have HT1 := Lib.hid (HT.out.later hbel)
  clear hA hown hb1 HC HT
  go_wp2_with fail
  go_loopg [3, 10] xs.length (fun n v i wr => ∃ k : Nat, k ≤ xs.length ∧ i = .int .i64 k ∧ xs.length - k ≤ n ∧ wr.ownsRow w1.heap.size 9 1 v k (decCells (xs.take k)) ∧ Below w1.heap.size w1 wr)
  case atStart => exact ⟨0, Nat.zero_le _, rfl, by omega, ⟨by simp [decCells], .inl ⟨rfl, rfl⟩⟩, Below.refl _ _⟩
  case round =>
    obtain ⟨k, hk, rfl, hn, hown, hbw⟩ := hrel
    by_cases hlt : k < xs.length
    · obtain ⟨g, hAe, hg0, hg1, hcells⟩ := HA.out (by omega)
      subst hAe
      have hcell : wr.cell? ⟨g, k, none⟩ = some (.int .i64 ((xs[k] : Nat) : Int)) := (hbw.cell (p := ⟨g, k, none⟩) hg1).trans (hcells k _ (by simp [intCells, List.getElem?_eq_getElem hlt]))
      have hx := HX.out k hlt
      have HTk := Lib.hid (dec_take hlt)
      have HTr := Lib.hid (HT1.out.later hbw)
      clear hcells
      generalize xs[k] = x at *
      go_wp2_with fail
      with_reducible refine (HD.out (x : Int) (by omega) (by omega) _ HTr.out).mono ?_
      rintro e w2 ⟨rfl, hb2⟩
      have hbw2 : Below w1.heap.size w1 w2 := hbw.trans (hb2.mono hbw.size)
      have hown2 : w2.ownsRow w1.heap.size 9 1 u3 k (decCells (xs.take k)) := hown.kept (row := none) ⟨hb2.os, hb2.tape, hb2.output, hb2.size, fun i hi _ => hb2.block i hi⟩ (by
        rcases hh : u3.ownBlock with _ | b
        · exact .inl rfl
        · exact .inr (by simp))
      generalize P.decimal (x : Int) = ds at *
      clear hcell hown hb2
      go_wp2_with (at_builtin; refine wpList_append_own _ rfl (.tmp 14) (.tmp 17) 59 rfl w1.heap.size 9 i0 _ 1 16 Tryd.underlying59 hi0 hz0 hz1 hz2 rfl (by decide) _ k (decCells (xs.take k)) rfl ?ho ⟨w2.heap.size, 0, none⟩ 1 1 [.string ⟨ds.toArray⟩] rfl rfl ?c1 ?c2 ?c3 ?c4 ?c5 ?_)
      case ho => exact hown2.alloc _
      case c1 => exact cell_one_new _ _ _
      case c2 => intro u hu; simp at hu; rcases hu with rfl; rfl
      case c3 => simp only [maxLen]; omega
      case c4 => omega
      case c5 => have := hbw2.size; simp; omega
      intro v' w3 hown3 hg3 _
      have hbw3 : Below w1.heap.size w1 w3 := (hbw2.alloc hbw2.size _).grown hg3 (by have := hbw2.size; simp; omega) (own_base hown2)
      rw [← HTk.out] at hown3
      clear hown2
      go_wp2_with fail
      go_roundg (xs.length - (k + 1))
      case measure => omega
      case rel => exact ⟨k + 1, by omega, by go_num, Nat.le_refl _, hown3, hbw3⟩
    · obtain rfl : k = xs.length := by omega
      rw [List.take_length] at hown
      obtain ⟨A', cap', hv', hcap', hA'⟩ := own_form hown
      subst hv'
      have c0 : wr.cell? ⟨w.heap.size, 0, none⟩ = some (.int .i64 l) := blk_cell ((hbw.block _ hw1).trans HK0.out) 0
      have HTr := Lib.hid (HT1.out.later hbw)
      have hbr : Below w.heap.size w wr := hbel.trans (hbw.mono (by omega))
      clear hown
      go_wp2_with fail
      with_reducible refine (HD.out l h0 h1 _ HTr.out).mono ?_
      rintro e w2 ⟨rfl, hb2⟩
      have hb02 : Below w.heap.size w w2 := hbr.trans (hb2.mono hbr.size)
      by_cases hx0 : xs.length = 0
      · have hb0 : ((xs.length : Int) == 0) = true := beq_iff_eq.2 (by omega)
        have HQ := Lib.hid (show res = P.decimal l by rw [HP.out, if_pos (List.eq_nil_of_length_eq_zero hx0)])
        clear hx0 c0
        go_wp2_with fail
        go_ret
        exact ⟨ret_of (by rw [HQ.out]; rfl), hb02⟩
      · have hb0 : ((xs.length : Int) == 0) = false := beq_eq_false_iff_ne.2 (by omega)
        have HQ := Lib.hid (show res = P.decimal l ++ [58] ++ catsText xs by rw [HP.out, if_neg (fun e => hx0 (by rw [e]; rfl))])
        obtain ⟨g, hAe, hg0, hg1, hcells⟩ := hA' (by omega)
        subst hAe
        have hdl := P.decimal_length l
        have hjl := join_len xs
        have hlx : xs.length = (decStrs xs).length := by simp [decStrs]
        have hjoin := Tryd.strings_Join g 0 cap' (decStrs xs) ⟨#[44]⟩ w2 (fun j x hj => by
            rw [Nat.zero_add, hb2.cell (p := ⟨g, j, none⟩) hg1]
            refine hcells j _ ?_
            have : (decCells xs)[j]? = ((decStrs xs)[j]?).map Value.string := by
              simp only [decCells, decStrs, List.getElem?_map, Option.map_map]; rfl
            rw [this, hj]; rfl) (by have := hb2.size; omega) (by omega) (by omega) (by
            rw [decStrs_data]
            show (catsText xs).length ≤ _
            omega)
        rw [decStrs_data, ← hlx] at hjoin
        have HJ : Hid (Calls Tryd.prog 38 #[.slice (some ⟨g, 0, none⟩) xs.length cap', .string ⟨#[44]⟩] w2 fun e w' => e = .returned (.string ⟨(catsText xs).toArray⟩) ∧ Below w2.heap.size w2 w') := Lib.hid hjoin
        clear hjoin hcells c0 hlx hA' hx0
        generalize catsText xs = js at *
        generalize P.decimal l = ds at *
        have ha1 : (⟨ds.toArray⟩ : ByteArray).size + (⟨#[58]⟩ : ByteArray).size ≤ 9223372036854775807 := by
          show ds.toArray.size + 1 ≤ _; simp; omega
        have ha2 : ((⟨ds.toArray⟩ : ByteArray) ++ ⟨#[58]⟩).size + (⟨js.toArray⟩ : ByteArray).size ≤ 9223372036854775807 := by
          rw [ByteArray.size_append]; show ds.toArray.size + 1 + js.toArray.size ≤ _; simp; omega
        go_wp2_with fail
        with_reducible refine (HJ.out).mono ?_
        rintro e w3 ⟨rfl, hb3⟩
        have hb03 : Below w.heap.size w w3 := hb02.trans (hb3.mono hb02.size)
        go_wp2_with fail
        go_ret
        exact ⟨ret_of (by rw [HQ.out, ← cat, ← cat]; rfl), hb03⟩
end Go.Proofs.YtbfohfmipfapdaaDoor.L

namespace Go.Proofs.YtbfohfmipfapdaaDoor.L
open Go.RowKit
open T

/-- A text cut at the first byte c. -/
def split (c : UInt8) : List UInt8 → Option (List UInt8 × List UInt8)
  | [] => none
  | x :: r => if x = c then some ([], r) else (split c r).map fun p => (x :: p.1, p.2)
theorem split_index (c : UInt8) : ∀ l : List UInt8, (Lib.indexByte l c = -1 ∧ split c l = none) ∨ ∃ o : Nat, Lib.indexByte l c = o ∧ o < l.length ∧ split c l = some (l.take o, l.drop (o + 1))
  | [] => .inl ⟨rfl, rfl⟩
  | x :: r => by
    by_cases h : x = c
    · refine .inr ⟨0, ?_, by simp, by simp [split, h]⟩
      simp [Lib.indexByte, h]
    · rcases split_index c r with ⟨h1, h2⟩ | ⟨o, h1, h2, h3⟩
      · exact .inl ⟨by simp [Lib.indexByte, h, h1], by simp [split, h, h2]⟩
      · exact .inr ⟨o + 1, by simp [Lib.indexByte, h, h1], by simpa using h2, by simp [split, h, h3]⟩

def cutVal (s : List UInt8) (o : Option (List UInt8 × List UInt8)) : Value := match o with
  | some p => .tuple #[.string ⟨p.1.toArray⟩, .string ⟨p.2.toArray⟩, .bool true]
  | none => .tuple #[.string ⟨s.toArray⟩, .string ⟨#[]⟩, .bool false]

theorem extract_take (s : ByteArray) (o : Nat) : s.extract 0 o = ⟨(s.data.toList.take o).toArray⟩ := by
  rw [Lib.extract_eq]; simp
theorem extract_drop (s : ByteArray) (o : Nat) : s.extract o s.size = ⟨(s.data.toList.drop o).toArray⟩ := by
  rw [Lib.extract_eq, List.take_of_length_le]
  rw [List.length_drop, Lib.size_eq]; exact Nat.le_refl _

/-- A text's parts between bytes c. -/
def partsGo (c : UInt8) : List UInt8 → List UInt8 → List (List UInt8)
  | cur, [] => [cur]
  | cur, x :: r => if x = c then cur :: partsGo c [] r else partsGo c (cur ++ [x]) r
theorem parts_none {c : UInt8} : ∀ {l cur : List UInt8}, split c l = none → partsGo c cur l = [cur ++ l]
  | [], cur, _ => by simp [partsGo]
  | x :: r, cur, h => by
    rw [split] at h
    split at h
    · cases h
    · next hx =>
      rw [Option.map_eq_none_iff] at h
      rw [partsGo, if_neg hx, parts_none h]
      simp
theorem parts_some {c : UInt8} : ∀ {l cur a b : List UInt8}, split c l = some (a, b) → partsGo c cur l = (cur ++ a) :: partsGo c [] b
  | [], cur, a, b, h => by simp [split] at h
  | x :: r, cur, a, b, h => by
    rw [split] at h
    split at h
    · next hx => simp at h; rw [partsGo, if_pos hx, h.1, h.2]; simp
    · next hx =>
      rw [Option.map_eq_some_iff] at h
      obtain ⟨⟨a', b'⟩, h1, h2⟩ := h
      simp at h2
      rw [partsGo, if_neg hx, parts_some h1, ← h2.1, ← h2.2]
      simp
theorem split_len {c : UInt8} {l a b : List UInt8} (h : split c l = some (a, b)) : b.length < l.length ∧ a.length < l.length := by
  rcases split_index c l with ⟨_, h2⟩ | ⟨o, _, h2, h3⟩
  · rw [h] at h2; cases h2
  · rw [h] at h3
    injection h3 with h3
    injection h3 with ha hb
    subst ha hb
    simp; omega

/-- The numbers of a text's parts between commas; none if one is no number. -/
def numsOf : List (List UInt8) → Option (List Nat)
  | [] => some []
  | p :: r => (P.number p).bind fun n => (numsOf r).map (n :: ·)
def nums (l : List UInt8) : Option (List Nat) := numsOf (partsGo 44 [] l)
theorem nums_none {l : List UInt8} (h : split 44 l = none) : nums l = (P.number l).map fun n => [n] := by
  unfold nums
  rw [parts_none h, numsOf, numsOf, List.nil_append]
  cases P.number l <;> rfl
theorem nums_some {l a b : List UInt8} (h : split 44 l = some (a, b)) : nums l = (P.number a).bind fun n => (nums b).map (n :: ·) := by
  unfold nums
  rw [parts_some h, numsOf, List.nil_append]
end Go.Proofs.YtbfohfmipfapdaaDoor.L

namespace Go.Proofs.YtbfohfmipfapdaaDoor.L
open Go.RowKit
open T

def NumsPost (o : Option (List Nat)) (w : World) (e : Ending) (w' : World) : Prop :=
  (∃ xs v, o = some xs ∧ e = .returned (.tuple #[v, .bool true]) ∧ w'.ownsRow w.heap.size 3 1 v xs.length (intCells xs) ∧ Below w.heap.size w w') ∨
  (o = none ∧ e = .returned (.tuple #[.slice none 0 0, .bool false]) ∧ Below w.heap.size w w')

theorem size_list (l : List UInt8) : (⟨l.toArray⟩ : ByteArray).size = l.length := by simp [ByteArray.size]

def Rel (w : World) (s0 : ByteArray) (n : Nat) (sv v mv : Value) (wr : World) : Prop :=
  (∃ (s : ByteArray) (acc : List Nat), sv = .string s ∧ mv = .bool true ∧ acc.length + s.size ≤ s0.size ∧ s.size + 1 ≤ n ∧ wr.ownsRow w.heap.size 3 1 v acc.length (intCells acc) ∧ Below w.heap.size w wr ∧ nums s0.data.toList = (nums s.data.toList).map (acc ++ ·)) ∨
  (∃ (s : ByteArray) (acc : List Nat), sv = .string s ∧ mv = .bool false ∧ wr.ownsRow w.heap.size 3 1 v acc.length (intCells acc) ∧ Below w.heap.size w wr ∧ nums s0.data.toList = some acc)

theorem step_none {s0 s : ByteArray} {acc : List Nat} (hr : nums s0.data.toList = (nums s.data.toList).map (acc ++ ·)) (hsp : split 44 s.data.toList = none) (hn : P.number s.data.toList = none) : nums s0.data.toList = none := by
  rw [hr, nums_none hsp, hn]; rfl
theorem step_last {s0 s : ByteArray} {acc : List Nat} {n : Nat} (hr : nums s0.data.toList = (nums s.data.toList).map (acc ++ ·)) (hsp : split 44 s.data.toList = none) (hn : P.number s.data.toList = some n) : nums s0.data.toList = some (acc ++ [n]) := by
  rw [hr, nums_none hsp, hn]; rfl
theorem step_bad {s0 s : ByteArray} {acc : List Nat} {a b : List UInt8} (hr : nums s0.data.toList = (nums s.data.toList).map (acc ++ ·)) (hsp : split 44 s.data.toList = some (a, b)) (hn : P.number a = none) : nums s0.data.toList = none := by
  rw [hr, nums_some hsp, hn]; rfl
theorem step_more {s0 s : ByteArray} {acc : List Nat} {a b : List UInt8} {n : Nat} (hr : nums s0.data.toList = (nums s.data.toList).map (acc ++ ·)) (hsp : split 44 s.data.toList = some (a, b)) (hn : P.number a = some n) : nums s0.data.toList = (nums b).map ((acc ++ [n]) ++ ·) := by
  rw [hr, nums_some hsp, hn]
  cases nums b <;> simp

end Go.Proofs.YtbfohfmipfapdaaDoor.L

namespace Go.Proofs.YtbfohfmipfapdaaDoor.L
open Go.RowKit
open T

/-- A text's label. -/
def parseRest (l : List UInt8) (n : Nat) (o : Option (List Nat)) : Option (Nat × Nat) :=
  o.bind fun xs => (ofAll n (xs.map fun x : Nat => (x : Int))).bind fun c => if print n c = l then some (n, c) else none
def parse (l : List UInt8) : Option (Nat × Nat) :=
  match split 58 l with
  | none => (P.number l).bind fun n => parseRest l n (some [])
  | some p => (P.number p.1).bind fun n => parseRest l n (nums p.2)
def parseVal (o : Option (Nat × Nat)) : Value := match o with
  | some p => .tuple #[lab (p.1 : Int) p.2, .bool true]
  | none => .tuple #[lab 0 0, .bool false]

def Pr (l : Int) (c : Nat) (s : ByteArray) : Prop := ∀ w : World, Tab w → Calls Tryd.prog 37 #[lab l c] w fun e w' => e = .returned (.string s) ∧ Below w.heap.size w w'
theorem Pr.call {l : Int} {c : Nat} {s : ByteArray} (h : Pr l c s) (w : World) (ht : Tab w) : Calls Tryd.prog 37 #[lab l c] w fun e w' => e = .returned (.string s) ∧ Below w.heap.size w w' := h w ht

end Go.Proofs.YtbfohfmipfapdaaDoor.L

namespace Go.Proofs.YtbfohfmipfapdaaDoor.L
open Go.RowKit
open T

end Go.Proofs.YtbfohfmipfapdaaDoor.L

namespace Go.Proofs.YtbfohfmipfapdaaDoor.L
open Go.RowKit
open T

theorem ofGo_small : ∀ (xs : List Int) (c d : Nat), c < 18446744073709551616 → ofGo xs c = some d → d < 18446744073709551616
  | [], c, d, hc, h => by simp [ofGo] at h; omega
  | x :: r, c, d, hc, h => by
    rw [ofGo] at h
    split at h
    · cases h
    · next hx => exact ofGo_small r _ d (or_small hc (Nat.pow_lt_pow_right (a := 2) (n := 64) (by omega) (by omega))) h
theorem ofAll_small {l : Int} {xs : List Int} {c : Nat} (h : ofAll l xs = some c) : c < 18446744073709551616 := by
  unfold ofAll at h
  split at h
  · exact ofGo_small xs 0 c (by omega) h
  · cases h
theorem parts_len (c : UInt8) : ∀ l cur : List UInt8, (partsGo c cur l).length ≤ l.length + 1
  | [], cur => by simp [partsGo]
  | x :: r, cur => by
    rw [partsGo]
    split
    · have := parts_len c r []; simp; omega
    · have := parts_len c r (cur ++ [x]); simp; omega
theorem numsOf_len : ∀ (ps : List (List UInt8)) (xs : List Nat), numsOf ps = some xs → xs.length = ps.length
  | [], xs, h => by simp [numsOf] at h; simp [← h]
  | p :: r, xs, h => by
    rw [numsOf, Option.bind_eq_some_iff] at h
    obtain ⟨n, _, h⟩ := h
    rw [Option.map_eq_some_iff] at h
    obtain ⟨ys, hy, rfl⟩ := h
    simp [numsOf_len r ys hy]
theorem nums_len {l : List UInt8} {xs : List Nat} (h : nums l = some xs) : xs.length ≤ l.length + 1 := by
  rw [numsOf_len _ _ h]; exact parts_len 44 l []

theorem pr_is (n : Nat) (c : Nat) (hn : n ≤ 2147483647) (hc : c < 18446744073709551616) : Pr n c ⟨(print n c).toArray⟩ := fun w ht => print_any n c w (by omega) (by omega) hc ht
theorem eta (s : ByteArray) : (⟨s.data.toList.toArray⟩ : ByteArray) = s := by cases s; simp
theorem str_ne {l : List UInt8} {s : ByteArray} (h : ¬ l = s.data.toList) : ((⟨l.toArray⟩ : ByteArray).toList == s.toList) = false := by
  rw [Lib.toList_data, Lib.toList_data]; exact beq_eq_false_iff_ne.2 h

theorem dec_digit (n : Nat) (h : n < 10) : P.decimal (n : Int) = [UInt8.ofNat (48 + n)] := by
  rw [P.decimal_in _ (by omega) (by omega), Int.toNat_natCast, Lib.decDigits_one h]
theorem print_live : print 3 129 = [51, 58, 48, 44, 55] := by
  have hc : catsTo 129 64 = [0, 7] := by decide
  unfold print
  rw [hc, if_neg (by simp)]
  unfold catsText Lib.join
  rw [show ((3 : Int)) = ((3 : Nat) : Int) from rfl, dec_digit 3 (by omega)]
  simp only [List.map_cons, List.map_nil]
  rw [dec_digit 0 (by omega), dec_digit 7 (by omega)]
  decide
theorem of_live : ofAll 3 [0, 7] = some 129 := by decide
theorem of_live2 : ofAll 3 [7, 0] = some 129 := by decide
theorem parse_live : parse [51, 58, 48, 44, 55] = some (3, 129) := by
  have h1 : split 58 [51, 58, 48, 44, 55] = some ([51], [48, 44, 55]) := by decide
  have h2 : P.number [51] = some 3 := by decide
  have h3 : nums [48, 44, 55] = some [0, 7] := by decide
  have h4 : ofAll ((3 : Nat) : Int) ([0, 7].map fun x : Nat => (x : Int)) = some 129 := of_live
  have h5 : print ((3 : Nat) : Int) 129 = [51, 58, 48, 44, 55] := print_live
  unfold parse
  rw [h1]
  simp only [h2, Option.bind_some, parseRest, h3, h4, h5, if_true]
theorem parse_dead : parse [51, 58, 55, 44, 48] = none := by
  have h1 : split 58 [51, 58, 55, 44, 48] = some ([51], [55, 44, 48]) := by decide
  have h2 : P.number [51] = some 3 := by decide
  have h3 : nums [55, 44, 48] = some [7, 0] := by decide
  have h4 : ofAll ((3 : Nat) : Int) ([7, 0].map fun x : Nat => (x : Int)) = some 129 := of_live2
  have h5 : print ((3 : Nat) : Int) 129 = [51, 58, 48, 44, 55] := print_live
  unfold parse
  rw [h1]
  simp only [h2, Option.bind_some, parseRest, h3, h4, h5]
  decide
end Go.Proofs.YtbfohfmipfapdaaDoor.L

namespace Go.Proofs.YtbfohfmipfapdaaDoor.L
open T

/-- Digits and the sign for a number that has no text. -/
theorem dec_no (n : Int) (c : UInt8) (hc : c = 58 ∨ c = 44) : ∀ x ∈ P.decimal n, x ≠ c := by
  have hd : ∀ u : Nat, ∀ x ∈ Lib.decDigits u, 48 ≤ x.toNat ∧ x.toNat ≤ 57 := by
    intro u
    induction u using Nat.strongRecOn with
    | ind u ih =>
      intro x hx
      rw [Lib.decDigits] at hx
      split at hx
      · next h =>
        rw [List.mem_singleton.1 hx, P.digit u h]; omega
      · next h =>
        rw [List.mem_append] at hx
        rcases hx with hx | hx
        · exact ih (u / 10) (by omega) x hx
        · rw [List.mem_singleton.1 hx, P.digit _ (by omega)]; omega
  intro x hx e
  subst e
  unfold P.decimal at hx
  split at hx
  · simp at hx; rcases hc with h | h <;> rw [hx] at h <;> exact absurd h (by decide)
  · have := hd _ x hx
    rcases hc with h | h <;> rw [h] at this <;> simp at this
theorem split_no {c : UInt8} : ∀ {l : List UInt8}, (∀ x ∈ l, x ≠ c) → split c l = none
  | [], _ => rfl
  | x :: r, h => by
    rw [split, if_neg (h x (by simp)), split_no (fun y hy => h y (by simp [hy]))]; rfl
theorem split_at {c : UInt8} : ∀ {l r : List UInt8}, (∀ x ∈ l, x ≠ c) → split c (l ++ c :: r) = some (l, r)
  | [], r, _ => by simp [split]
  | x :: t, r, h => by
    rw [List.cons_append, split, if_neg (h x (by simp)), split_at (fun y hy => h y (by simp [hy]))]; rfl
theorem nums_text : ∀ (xs : List Nat), xs ≠ [] → (∀ x ∈ xs, x ≤ 2147483647) → nums (catsText xs) = some xs
  | [x], _, h => by
    unfold catsText Lib.join
    simp only [List.map_cons, List.map_nil]
    have e : [44].intercalate [P.decimal (x : Int)] = P.decimal (x : Int) := by simp
    rw [e, nums_none (split_no (dec_no _ 44 (.inr rfl))), P.number_decimal _ (by omega) (by have := h x (by simp); omega)]
    simp
  | x :: y :: r, _, h => by
    have ih := nums_text (y :: r) (by simp) (fun z hz => h z (by simp [hz]))
    have e : catsText (x :: y :: r) = P.decimal (x : Int) ++ 44 :: catsText (y :: r) := by
      unfold catsText Lib.join
      rw [List.map_cons, List.map_cons, List.intercalate_cons_cons]
      simp
    rw [e, nums_some (split_at (dec_no _ 44 (.inr rfl))), P.number_decimal _ (by omega) (by have := h x (by simp); omega), ih]
    simp

/-- The categories put together again. -/
theorem ofGo_cats (xs : List Nat) : ∀ c, (∀ x ∈ xs, x < 64) → ofGo (xs.map fun x : Nat => (x : Int)) c = some (xs.foldl (fun a x => a ||| 2 ^ x) c) := by
  induction xs with
  | nil => intro c _; rfl
  | cons x r ih =>
    intro c h
    have hx := h x (by simp)
    rw [List.map_cons, ofGo, if_neg (by omega), Int.toNat_natCast, ih _ (fun y hy => h y (by simp [hy]))]
    rfl
theorem fold_bit (xs : List Nat) : ∀ (c i : Nat), (xs.foldl (fun a x => a ||| 2 ^ x) c).testBit i = (c.testBit i || decide (i ∈ xs)) := by
  induction xs with
  | nil => intro c i; simp
  | cons x r ih =>
    intro c i
    rw [List.foldl_cons, ih, Nat.testBit_or, Nat.testBit_two_pow]
    by_cases e : x = i
    · subst e; simp
    · have : ¬ i = x := fun h => e h.symm
      simp [e, this]
theorem cats_back (c : Nat) (hc : c < 18446744073709551616) : (catsTo c 64).foldl (fun a x => a ||| 2 ^ x) 0 = c := by
  apply Nat.eq_of_testBit_eq
  intro i
  rw [fold_bit]
  simp only [Nat.zero_testBit, Bool.false_or]
  unfold catsTo
  by_cases hi : i < 64
  · cases hb : c.testBit i with
    | true => simp [List.mem_filter, hi, hb]
    | false => simp [List.mem_filter, hb]
  · rw [Nat.testBit_lt_two_pow (Nat.lt_of_lt_of_le hc (Nat.pow_le_pow_right (n := 2) (by omega) (show 64 ≤ i by omega)))]
    simp [List.mem_filter]; omega
theorem cats_small (c : Nat) : ∀ x ∈ catsTo c 64, x < 64 := fun x hx => by
  unfold catsTo at hx
  rw [List.mem_filter, List.mem_range] at hx
  exact hx.1

theorem parse_print (l : Int) (c : Nat) (hc : c < 18446744073709551616) (h : rightB l = true) : parse (print l c) = some (l.toNat, c) := by
  have hr := h
  unfold rightB at h
  rw [Bool.and_eq_true, decide_eq_true_iff, decide_eq_true_iff] at h
  obtain ⟨n, rfl⟩ := Int.eq_ofNat_of_zero_le h.1
  have hnum : P.number (P.decimal (n : Int)) = some n := by
    have := P.number_decimal (n : Int) (by omega) (by omega)
    rwa [Int.toNat_natCast] at this
  have hof : ofAll (n : Int) ((catsTo c 64).map fun x : Nat => (x : Int)) = some c := by
    rw [ofAll, hr, if_pos rfl, ofGo_cats _ 0 (cats_small c), cats_back c hc]
  rw [Int.toNat_natCast]
  unfold parse
  by_cases he : catsTo c 64 = []
  · have hp : print (n : Int) c = P.decimal (n : Int) := by rw [print, if_pos he]
    have hsp : split 58 (print (n : Int) c) = none := by rw [hp]; exact split_no (dec_no _ 58 (.inl rfl))
    rw [he] at hof
    rw [hsp]
    show (P.number (print (n : Int) c)).bind _ = _
    rw [hp, hnum]
    show parseRest _ n (some []) = _
    rw [parseRest, Option.bind_some]
    simp only [hof, Option.bind_some]
    rw [← hp, if_pos rfl]
  · have hp : print (n : Int) c = P.decimal (n : Int) ++ 58 :: catsText (catsTo c 64) := by rw [print, if_neg he]; simp
    have hsp : split 58 (print (n : Int) c) = some (P.decimal (n : Int), catsText (catsTo c 64)) := by rw [hp]; exact split_at (dec_no _ 58 (.inl rfl))
    have hns := nums_text (catsTo c 64) he (fun x hx => by have := cats_small c x hx; omega)
    rw [hsp]
    show (P.number (P.decimal (n : Int))).bind _ = _
    rw [hnum]
    show parseRest _ n (nums (catsText (catsTo c 64))) = _
    rw [hns, parseRest, Option.bind_some, hof, Option.bind_some, if_pos rfl]

theorem parse_not (l : Int) (c : Nat) (h : rightB l = false) : parse (print l c) = none := by
  have key : ∀ (o : Option (List Nat)), (P.number (P.decimal l)).bind (fun n => parseRest (print l c) n o) = none := by
    intro o
    by_cases hl : l < 0 ∨ 2147483647 < l
    · rw [P.number_untold l hl]; rfl
    · obtain ⟨n, rfl⟩ := Int.eq_ofNat_of_zero_le (show 0 ≤ l by omega)
      have hnum := P.number_decimal (n : Int) (by omega) (by omega)
      rw [Int.toNat_natCast] at hnum
      rw [hnum, Option.bind_some, parseRest]
      cases o with
      | none => rfl
      | some xs =>
        rw [Option.bind_some, ofAll, h]; rfl
  unfold parse
  by_cases he : catsTo c 64 = []
  · have hp : print l c = P.decimal l := by rw [print, if_pos he]
    have hsp : split 58 (print l c) = none := by rw [hp]; exact split_no (dec_no _ 58 (.inl rfl))
    rw [hsp]
    have := key (some [])
    rwa [← hp] at this
  · have hp : print l c = P.decimal l ++ 58 :: catsText (catsTo c 64) := by rw [print, if_neg he]; simp
    have hsp : split 58 (print l c) = some (P.decimal l, catsText (catsTo c 64)) := by rw [hp]; exact split_at (dec_no _ 58 (.inl rfl))
    rw [hsp]
    exact key _
theorem print_parse {l : List UInt8} {n c : Nat} (h : parse l = some (n, c)) : print n c = l ∧ c < 18446744073709551616 ∧ n ≤ 15 := by
  have key : ∀ (m : Nat) (o : Option (List Nat)), parseRest l m o = some (n, c) → print n c = l ∧ c < 18446744073709551616 ∧ n ≤ 15 := by
    intro m o hr
    rw [parseRest, Option.bind_eq_some_iff] at hr
    obtain ⟨xs, _, hr⟩ := hr
    rw [Option.bind_eq_some_iff] at hr
    obtain ⟨c', hc', hr⟩ := hr
    split at hr
    · next hp =>
      injection hr with hr
      injection hr with h1 h2
      subst h1 h2
      refine ⟨hp, ofAll_small hc', ?_⟩
      unfold ofAll at hc'
      split at hc'
      · next hb => unfold rightB at hb; rw [Bool.and_eq_true, decide_eq_true_iff, decide_eq_true_iff] at hb; omega
      · cases hc'
    · cases hr
  unfold parse at h
  split at h
  · rw [Option.bind_eq_some_iff] at h
    obtain ⟨m, _, h⟩ := h
    exact key m _ h
  · rw [Option.bind_eq_some_iff] at h
    obtain ⟨m, _, h⟩ := h
    exact key m _ h
theorem print_len (l : Int) (c : Nat) : (print l c).length ≤ 1000 := by
  have h1 := P.decimal_length l
  have h2 := join_len (catsTo c 64)
  have h3 := catsTo_len c 64
  unfold print
  split
  · omega
  · simp; omega
end Go.Proofs.YtbfohfmipfapdaaDoor.L

namespace Go.Proofs.YtbfohfmipfapdaaDoor.L
open Go.RowKit
open T

theorem refRight_any (l : Int) (c : Nat) (w : World) :
    Calls Tryd.prog 33 #[lab l c] w fun e w' => e = .returned (.bool (rightB l)) ∧ Below w.heap.size w w' := by
  by_cases h0 : 0 ≤ l
  · have HR := Lib.hid (show rightB l = decide (l < 16) by unfold rightB; rw [decide_eq_true h0]; simp; omega)
    go_enter Tryd.func33, Tryd.ntmps33
    go_wp2_with fail
    go_ret
    exact ⟨ret_of (by rw [HR.out]; rfl), (Below.refl _ _).alloc (Nat.le_refl _) _⟩
  · have HR := Lib.hid (show rightB l = false by unfold rightB; rw [decide_eq_false h0]; rfl)
    go_enter Tryd.func33, Tryd.ntmps33
    go_wp2_with fail
    go_ret
    exact ⟨ret_of (by rw [HR.out]; rfl), (Below.refl _ _).alloc (Nat.le_refl _) _⟩

theorem has_bit (c k : Nat) : (((c : Int) / 2 ^ k).tmod 2 == 1) = c.testBit k := by
  have e : (c : Int) / 2 ^ k = ((c / 2 ^ k : Nat) : Int) := by simp
  rw [e, Nat.testBit_eq_decide_div_mod_eq]
  generalize c / 2 ^ k = y
  rw [Int.tmod_eq_emod_of_nonneg (by omega), Bool.eq_iff_iff]
  simp
  omega
theorem has_any (l : Int) (c k : Nat) (w : World) (hk : k < 64) :
    Calls Tryd.prog 30 #[lab l c, .int .i64 k] w fun e w' => e = .returned (.bool (c.testBit k)) ∧ Below w.heap.size w w' := by
  have HB := Lib.hid (has_bit c k)
  go_enter Tryd.func30, Tryd.ntmps30
  go_wp2_with fail
  go_ret
  exact ⟨ret_of (by rw [← HB.out]; rfl), (Below.refl _ _).alloc (Nat.le_refl _) _⟩
def Hs (l : Int) (c k : Nat) (b : Bool) : Prop := ∀ w : World, Calls Tryd.prog 30 #[lab l c, .int .i64 k] w fun e w' => e = .returned (.bool b) ∧ Below w.heap.size w w'
theorem Hs.call {l : Int} {c k : Nat} {b : Bool} (h : Hs l c k b) (w : World) : Calls Tryd.prog 30 #[lab l c, .int .i64 k] w fun e w' => e = .returned (.bool b) ∧ Below w.heap.size w w' := h w
theorem hs_is {l : Int} {c k : Nat} {b : Bool} (hk : k < 64) (h : c.testBit k = b) : Hs l c k b := fun w => by
  have := has_any l c k w hk
  rwa [h] at this

/-- Two labels in boxes of the call's own. -/
abbrev Held2 (w : World) (l : Int) (c : Nat) (m : Int) (d : Nat) (w' : World) : Prop :=
  w'.cell? ⟨w.heap.size, 0, none⟩ = some (.int .i64 l) ∧ w'.cell? ⟨w.heap.size, 1, none⟩ = some (.int .u64 (c : Int)) ∧ w'.cell? ⟨w.heap.size + 1, 0, none⟩ = some (.int .i64 m) ∧ w'.cell? ⟨w.heap.size + 1, 1, none⟩ = some (.int .u64 (d : Int)) ∧ w.heap.size + 2 ≤ w'.heap.size ∧ Below w.heap.size w w'
theorem held2_below {w W W' : World} {l m : Int} {c d : Nat} (h : Held2 w l c m d W) (hb : Below W.heap.size W W') : Held2 w l c m d W' := by
  obtain ⟨h1, h2, h3, h4, h7, h8⟩ := h
  have hs := hb.size
  exact ⟨(bcell hb _ _ (by omega)).trans h1, (bcell hb _ _ (by omega)).trans h2, (bcell hb _ _ (by omega)).trans h3, (bcell hb _ _ (by omega)).trans h4, by omega, h8.trans (hb.mono h8.size)⟩
theorem held2_start (w : World) (l m : Int) (c d : Nat) : Held2 w l c m d ((w.alloc (.cells #[.int .i64 l, .int .u64 (c : Int)] 25)).alloc (.cells #[.int .i64 m, .int .u64 (d : Int)] 25)) := by
  obtain ⟨b0, b1⟩ := two_blocks w (.cells #[.int .i64 l, .int .u64 (c : Int)] 25) (.cells #[.int .i64 m, .int .u64 (d : Int)] 25)
  exact ⟨blk_cell b0 0, blk_cell b0 1, blk_cell b1 0, blk_cell b1 1, by rw [World.size_alloc, World.size_alloc]; omega, ((Below.refl _ _).alloc (Nat.le_refl _) _).alloc (by simp) _⟩
theorem held2_end {w W : World} {l m : Int} {c d : Nat} (h : Held2 w l c m d W) : Below w.heap.size w W := h.2.2.2.2.2

theorem sub_of_bits {c d : Nat} (hc : c < 18446744073709551616) (h : ∀ i, i < 64 → c.testBit i = true → d.testBit i = true) : c ||| d = d := by
  apply Nat.eq_of_testBit_eq
  intro i
  rw [Nat.testBit_or]
  by_cases hi : i < 64
  · cases hb : c.testBit i with
    | false => simp
    | true => rw [h i hi hb]; rfl
  · rw [Nat.testBit_lt_two_pow (Nat.lt_of_lt_of_le hc (Nat.pow_le_pow_right (n := 2) (by omega) (show 64 ≤ i by omega)))]; simp
theorem bit_of_sub {c d : Nat} (h : c ||| d = d) {i : Nat} (hi : c.testBit i = true) : d.testBit i = true := by
  rw [← h, Nat.testBit_or, hi]; rfl

set_option maxHeartbeats 1000000 in
theorem refBelow_any (l m : Int) (c d : Nat) (w : World) (hc : c < 18446744073709551616) :
    Calls Tryd.prog 17 #[lab l c, lab m d] w fun e w' => e = .returned (.bool (belowB l c m d)) ∧ Below w.heap.size w w' := by
  by_cases h1 : l ≤ m
  · go_enter Tryd.func17, Tryd.ntmps17
    go_wp2_with fail
    go_loopg [5] 64 (fun n i wr => ∃ k : Nat, k ≤ 64 ∧ i = .int .i64 k ∧ 64 - k ≤ n ∧ Held2 w l c m d wr ∧ Hid (∀ i, i < k → c.testBit i = true → d.testBit i = true))
    case atStart => exact ⟨0, by omega, rfl, by omega, held2_start w l m c d, Lib.hid fun i hi => absurd hi (by omega)⟩
    case round =>
      obtain ⟨k, hk, rfl, hn, hH, HR⟩ := hrel
      by_cases hlt : k < 64
      · cases hcb : c.testBit k with
        | false =>
          have HC := Lib.hid (hs_is (l := l) hlt hcb)
          have HN : Hid (∀ i, i < k + 1 → c.testBit i = true → d.testBit i = true) := Lib.hid fun i hi hb => by
            by_cases e : i = k
            · subst e; rw [hcb] at hb; cases hb
            · exact HR.out i (by omega) hb
          clear hcb
          go_wp2_with fail
          with_reducible refine (HC.out.call _).mono ?_
          rintro r w1 ⟨rfl, hb1⟩
          replace hH := held2_below hH hb1
          go_wp2_with fail
          go_roundg (64 - (k + 1))
          case measure => omega
          case rel => exact ⟨k + 1, by omega, by go_num, Nat.le_refl _, hH, HN⟩
        | true =>
          have HC := Lib.hid (hs_is (l := l) hlt hcb)
          cases hdb : d.testBit k with
          | false =>
            have HD := Lib.hid (hs_is (l := m) hlt hdb)
            have HF := Lib.hid (show belowB l c m d = false by
              unfold belowB
              rw [beq_eq_false_iff_ne.2 (fun e => by have := bit_of_sub e hcb; rw [hdb] at this; cases this), Bool.and_false])
            clear hcb hdb
            go_wp2_with fail
            with_reducible refine (HC.out.call _).mono ?_
            rintro r w1 ⟨rfl, hb1⟩
            replace hH := held2_below hH hb1
            go_wp2_with fail
            with_reducible refine (HD.out.call _).mono ?_
            rintro r w2 ⟨rfl, hb2⟩
            replace hH := held2_below hH hb2
            go_wp2_with fail
            go_ret
            exact ⟨ret_of (by rw [HF.out]; rfl), held2_end hH⟩
          | true =>
            have HD := Lib.hid (hs_is (l := m) hlt hdb)
            have HN : Hid (∀ i, i < k + 1 → c.testBit i = true → d.testBit i = true) := Lib.hid fun i hi hb => by
              by_cases e : i = k
              · subst e; exact hdb
              · exact HR.out i (by omega) hb
            clear hcb hdb
            go_wp2_with fail
            with_reducible refine (HC.out.call _).mono ?_
            rintro r w1 ⟨rfl, hb1⟩
            replace hH := held2_below hH hb1
            go_wp2_with fail
            with_reducible refine (HD.out.call _).mono ?_
            rintro r w2 ⟨rfl, hb2⟩
            replace hH := held2_below hH hb2
            go_wp2_with fail
            go_roundg (64 - (k + 1))
            case measure => omega
            case rel => exact ⟨k + 1, by omega, by go_num, Nat.le_refl _, hH, HN⟩
      · obtain rfl : k = 64 := by omega
        have HF := Lib.hid (show belowB l c m d = true by
          unfold belowB
          rw [decide_eq_true h1, sub_of_bits hc HR.out, beq_self_eq_true]; rfl)
        go_wp2_with fail
        go_ret
        exact ⟨ret_of (by rw [HF.out]; rfl), held2_end hH⟩
  · have HF := Lib.hid (show belowB l c m d = false by unfold belowB; rw [decide_eq_false h1]; rfl)
    go_enter Tryd.func17, Tryd.ntmps17
    go_wp2_with fail
    go_ret
    exact ⟨ret_of (by rw [HF.out]; rfl), held2_end (held2_start w l m c d)⟩
end Go.Proofs.YtbfohfmipfapdaaDoor.L

namespace Go.Proofs.YtbfohfmipfapdaaDoor.T
open Go.RowKit

/-- May a text be a name? -/
theorem name_long (s : ByteArray) (h : s.size < 1 ∨ 64 < s.size) : P.name s.data.toList = false := by
  unfold P.name; rw [← Lib.size_eq]
  rcases h with h | h
  · rw [decide_eq_false (by omega)]; rfl
  · rw [decide_eq_false (p := s.size ≤ 64) (by omega), Bool.and_false]; rfl
theorem name_all (s : ByteArray) (h1 : 1 ≤ s.size) (h2 : s.size ≤ 64) : P.name s.data.toList = s.data.toList.all fun c => decide (33 ≤ c.toNat) && decide (c.toNat ≤ 126) := by
  unfold P.name; rw [← Lib.size_eq, decide_eq_true h1, decide_eq_true h2]; rfl
theorem all_bad (s : ByteArray) (k : Nat) (hk : k < s.size) (h : (s[k].toNat : Int) < 33 ∨ 126 < (s[k].toNat : Int)) : (s.data.toList.all fun c => decide (33 ≤ c.toNat) && decide (c.toNat ≤ 126)) = false := by
  have hl : k < s.data.toList.length := by rw [← Lib.size_eq]; exact hk
  rw [List.all_eq_false]
  refine ⟨s.data.toList[k], List.getElem_mem hl, ?_⟩
  rw [byte s k hk hl]
  simp only [Bool.and_eq_true, decide_eq_true_eq, not_and]
  omega

set_option maxHeartbeats 400000 in
theorem name_any (s : ByteArray) (w : World) (hs : s.size ≤ maxLen) :
    Calls Tryd.prog 32 #[.string s] w fun e w' => e = .returned (.bool (P.name s.data.toList)) ∧ w = w' := by
  unfold maxLen at hs
  by_cases h1 : s.size < 1
  · have Hn := Lib.hid (name_long s (.inl h1))
    go_enter Tryd.func32, Tryd.ntmps32
    go_wp2
    go_ret
    exact ⟨ret_of (by rw [Hn.out]; rfl), rfl⟩
  by_cases h2 : 64 < s.size
  · have Hn := Lib.hid (name_long s (.inr h2))
    go_enter Tryd.func32, Tryd.ntmps32
    go_wp2
    go_ret
    exact ⟨ret_of (by rw [Hn.out]; rfl), rfl⟩
  have Hn := Lib.hid (name_all s (by omega) (by omega))
  go_enter Tryd.func32, Tryd.ntmps32
  go_wp2
  go_loop [14] (fun i => ∃ k : Nat, k ≤ s.size ∧ i = .int .i64 k ∧ Hid (∀ j (hj : j < s.data.toList.length), j < k → 33 ≤ s.data.toList[j].toNat ∧ s.data.toList[j].toNat ≤ 126)) (fun i => s.size - (intOf i).toNat)
  case atStart => exact ⟨0, Nat.zero_le _, rfl, Lib.hid (fun j _ h => absurd h (by omega))⟩
  case round =>
    obtain ⟨k, hk, rfl, HR⟩ := hrel
    by_cases hlt : k < s.size
    · go_wp2
      · go_ret
        exact ⟨ret_of (by rw [Hn.out, all_bad s k hlt (by omega)]; rfl), rfl⟩
      · have hlo : 33 ≤ (s[k].toNat : Int) := by omega
        have hhi : (s[k].toNat : Int) ≤ 126 := by omega
        go_round
        case rel =>
          refine ⟨k + 1, by omega, by go_num, Lib.hid (fun j hj hjk => ?_)⟩
          by_cases e : j = k
          · subst e; rw [byte s j hlt hj]; omega
          · exact HR.out j hj (by omega)
        case measure => simp [intOf]; omega
      · go_ret
        exact ⟨ret_of (by rw [Hn.out, all_bad s k hlt (by omega)]; rfl), rfl⟩
    · go_wp2
      go_ret
      have hall : (s.data.toList.all fun c => decide (33 ≤ c.toNat) && decide (c.toNat ≤ 126)) = true := by
        rw [List.all_eq_true]
        intro c hc
        obtain ⟨j, hj, rfl⟩ := List.getElem_of_mem hc
        have := HR.out j hj (by rw [← Lib.size_eq] at hj; omega)
        rw [decide_eq_true this.1, decide_eq_true this.2]; rfl
      exact ⟨ret_of (by rw [Hn.out, hall]; rfl), rfl⟩
end Go.Proofs.YtbfohfmipfapdaaDoor.T
