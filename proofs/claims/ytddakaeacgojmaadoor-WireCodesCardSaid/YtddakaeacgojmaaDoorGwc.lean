/-
  The contract of text.Decimal, where the library's table of powers of ten holds what its text lays.
  What the proofs of this program's rows share: the listed table read off a row's condition, the arguments read again behind a call that left what was there as it was, and a start for the witness.
  The contracts of label's bit, Right, Join, Meet and Below.
  Rows of a call's own: small facts.
  The contract of label's Top.
  The contracts of label's Cats and Of.
  The contract of label's Of.
  Plain facts on numbers and their texts: the text of a number up to 2^31 - 1 is read as that number; what is read as a number is that number's text; reading without a bound and asking at the end comes to the same.
  The shelf.
  The contract of label's Print.
  The contract of strings.Cut at a separator of one byte: for every text, whatever its length.
-/
import Derived.Test.YtddakaeacgojmaaDoorGwa
import Derived.Test.YtddakaeacgojmaaDoorGwb
import Derived.Test.YtddakaeacgojmaaDoorRows
import Derived.WalkKit
import Derived.ProofKit
import Derived.OpenShut
import Derived.Deep.DeepHandedRow
import Derived.Lib.LaidTab
import Derived.Stop.LaidErr
import Derived.Carry
import Derived.Laws.BitsAllLaws
import Derived.Laws.BitsLemmas
import Derived.Deep.RegionWith
import Derived.Deep.LoopGhost
import Derived.Deep.QuietTactic
import Derived.BigQuiet
import Derived.Laws.Rows
import Derived.Lib.IndexLaws
namespace Go.Proofs.YtddakaeacgojmaaDoor.T
open Go.RowKit

/-- The library's table of powers of ten, as it was laid. -/
def Tab (w : World) : Prop := Lib.TabIs Tryd.prog w "internal/strconv.uint64pow10" .u64 Lib.pow10Tab
theorem gPow : Tryd.prog.globalNamed "internal/strconv.uint64pow10" = some 3 := by kernel_rfl
theorem Tab.below {B : Nat} {w w' : World} (h : Tab w) (hb : Below B w w') (hB : 3 < B) : Tab w' := var?_below hb gPow hB h
theorem Tab.size {w : World} (h : Tab w) : 3 < w.heap.size := by
  have hc := Lib.TabIs.cell h gPow 0 (by decide)
  rcases Nat.lt_or_ge 3 w.heap.size with hlt | hge
  · exact hlt
  · simp [World.cell?, Array.getElem?_eq_none hge] at hc
theorem Tab.later {w w' : World} (h : Tab w) (hb : Below w.heap.size w w') : Tab w' := Tab.below h hb (Tab.size h)
theorem Tab.alloc {w : World} (h : Tab w) (o : Obj) : Tab (w.alloc o) := Tab.later h ((Below.refl _ _).alloc (Nat.le_refl _) o)

theorem below_grow (w : World) (k : Nat) (os : Array Obj) : Below w.heap.size w (Sort.grow (w.drewN k) os) :=
  ⟨rfl, rfl, rfl, by simp [Sort.grow], fun i hi => by simp only [Sort.grow]; rw [Array.getElem?_append_left (by simpa using hi)]; rfl⟩

theorem decimal_any (n : Int) (w : World) (h0 : -9223372036854775808 ≤ n) (h1 : n ≤ 9223372036854775807) (ht : Tab w) :
    Calls Tryd.prog 43 #[.int .i64 n] w fun e w' => e = .returned (.string ⟨(P.decimal n).toArray⟩) ∧ Below w.heap.size w w' := by
  by_cases hn : n < 0
  · have Hd := Lib.hid (show P.decimal n = [63] by rw [P.decimal, if_pos (.inl hn)])
    go_enter Tryd.func43, Tryd.ntmps43
    go_wp2_with fail
    go_ret
    exact ⟨ret_of (by rw [Hd.out]; rfl), Below.refl _ _⟩
  by_cases hm : 2147483647 < n
  · have Hd := Lib.hid (show P.decimal n = [63] by rw [P.decimal, if_pos (.inr hm)])
    go_enter Tryd.func43, Tryd.ntmps43
    go_wp2_with fail
    go_ret
    exact ⟨ret_of (by rw [Hd.out]; rfl), Below.refl _ _⟩
  have Hd := Lib.hid (show P.decimal n = Lib.itoa n by rw [P.decimal, if_neg (by omega), Lib.itoa, if_neg hn])
  have Ht := Lib.hid ht
  go_enter Tryd.func43, Tryd.ntmps43
  go_wp2_with fail
  refine (Tryd.strconv_Itoa n h0 h1 _ Ht.out).mono ?_
  rintro e w' ⟨rfl, k, os, rfl⟩
  go_wp2_with fail
  go_ret
  exact ⟨ret_of (by rw [Hd.out]; rfl), below_grow _ _ _⟩

end Go.Proofs.YtddakaeacgojmaaDoor.T

namespace Go.Proofs.YtddakaeacgojmaaDoor.R
open Go.ChangeShapes Go.WideShapes Go.ChangeAt Go.RowKit

theorem own : ownKnob Tryd.prog.godebug = none := by kernel_rfl
theorem laidOut : laidOutB Tryd.prog = true := by kernel_rfl

abbrev listed : List (String × DataW Unit) := Rows.wireCodesRow.laid

theorem typePow : (Tryd.prog.globals[3]?).map (·.type) = some 124 := by kernel_rfl
theorem cellsPow : Tryd.prog.cellsOf 124 = 20 := by kernel_rfl
theorem cellsU64 : Tryd.prog.cellsOf 23 = 1 := by kernel_rfl
theorem tab_of {W : World} (h : laidMetH Tryd.prog listed W) : T.Tab W := by
  have h1 : laidMet Tryd.prog listed W := h
  exact Lib.tabIs_of_head (rest := _) T.gPow typePow Tryd.underlying124 Tryd.underlying23 cellsU64 cellsPow h1.tail.tail

/-- Arguments of types that can be read, read again behind a call that left all that was there as it was. -/
theorem again {H : Type} {enc : TypeId × Value → H} {W W' : World} (hb : Below W.heap.size W W') :
    ∀ {ts : List TypeId} {vs : List Value} {ds : List (DataW H)} {p : List MemPlace}, (∀ t ∈ ts, Tryd.prog.readableRec t = true ∧ t < Tryd.prog.types.size) →
      DataW.TrodAll enc Tryd.prog W 0 (fun _ => true) true ts vs ds p → (∀ x ∈ p, x.block < W.heap.size) →
      DataW.TrodAll enc Tryd.prog W' 0 (fun b => decide (b < W.heap.size)) true ts vs ds p
  | [], vs, ds, p, _, h, _ => by
    obtain ⟨rfl, rfl, rfl⟩ := trodAll_nil h
    exact trodAll_mk0
  | t :: ts, vs, ds, p, hr, h, hlt => by
    obtain ⟨v0, vs0, d0, ds0, p0, q0, rfl, rfl, rfl, h0, r0⟩ := trodAll_cons h
    exact trodAll_cons_mk (Below.trod laidOut (hr t (by simp)).1 (hr t (by simp)).2 h0 hb (fun x hx => hlt x (by simp [hx])))
      (again hb (fun u hu => hr u (by simp [hu])) r0 (fun x hx => hlt x (by simp [hx])))

/-- A block's cells put in place. -/
def fill (cs : List Value) : Obj → Obj
  | .cells _ t frozen => .cells cs.toArray t frozen
  | o => o
def nums32 : List Int := [0, 1, 28, 2, 29, 14, 24, 3, 30, 22, 20, 15, 25, 17, 4, 8, 31, 27, 13, 23, 21, 19, 16, 7, 26, 12, 18, 6, 11, 5, 10, 9]
def nums64 : List Int := [0, 1, 56, 2, 57, 49, 28, 3, 61, 58, 42, 50, 38, 29, 17, 4, 62, 47, 59, 36, 45, 43, 51, 22, 53, 39, 33, 30, 24, 18, 12, 5, 63, 55, 48, 27, 60, 41, 37, 16, 46, 35, 44, 21, 52, 32, 23, 11, 54, 26, 40, 15, 34, 20, 31, 10, 25, 14, 19, 9, 13, 8, 7, 6]
/-- A world for the witness: the settled one, the listed tables holding what their initialisers lay. -/
noncomputable def laidWorld (os : Os) : World :=
  { World.holding Tryd.prog os ⟨#[], #[], []⟩ with heap := (((World.holding Tryd.prog os ⟨#[], #[], []⟩).heap.modify 3 (fill (Lib.pow10Tab.map (Value.int .u64)))).modify 4 (fill (nums32.map (Value.int .u8)))).modify 5 (fill (nums64.map (Value.int .u8))) }
end Go.Proofs.YtddakaeacgojmaaDoor.R

namespace Go.Proofs.YtddakaeacgojmaaDoor.L
open Go.RowKit
open T

/-- A label's value: its level and its categories. -/
abbrev lab (l : Int) (c : Nat) : Value := .agg #[.int .i64 l, .int .u64 (c : Int)]

theorem bit_any (c : Nat) (w : World) (hc : c < 64) :
    Calls Tryd.prog 70 #[.int .i64 c] w fun e w' => e = .returned (.int .u64 ((2 ^ c : Nat) : Int)) ∧ w = w' := by
  have hp : 2 ^ c < 18446744073709551616 := Nat.pow_lt_pow_right (a := 2) (n := 64) (by omega) hc
  have HW := Lib.hid (show IntKind.u64.wrap (2 ^ c) = ((2 ^ c : Nat) : Int) by
    rw [show (2 : Int) ^ c = ((2 ^ c : Nat) : Int) by simp]
    generalize 2 ^ c = x at hp
    exact IntWalk.u64_in _ (by omega))
  clear hp
  go_enter Tryd.func70, Tryd.ntmps70
  go_wp2_with fail
  go_ret
  exact ⟨ret_of (by rw [← HW.out]; rfl), rfl⟩

/-- May a label be? -/
def rightB (l : Int) : Bool := decide (0 ≤ l) && decide (l ≤ 15)
theorem right_any (l : Int) (c : Nat) (w : World) :
    Calls Tryd.prog 28 #[lab l c] w fun e w' => e = .returned (.bool (rightB l)) ∧ Below w.heap.size w w' := by
  by_cases h0 : 0 ≤ l
  · have HR := Lib.hid (show rightB l = decide (l ≤ 15) by unfold rightB; rw [decide_eq_true h0]; rfl)
    go_enter Tryd.func28, Tryd.ntmps28
    go_wp2_with fail
    go_ret
    exact ⟨ret_of (by rw [HR.out]; rfl), (Below.refl _ _).alloc (Nat.le_refl _) _⟩
  · have HR := Lib.hid (show rightB l = false by unfold rightB; rw [decide_eq_false h0]; rfl)
    go_enter Tryd.func28, Tryd.ntmps28
    go_wp2_with fail
    go_ret
    exact ⟨ret_of (by rw [HR.out]; rfl), (Below.refl _ _).alloc (Nat.le_refl _) _⟩

theorem three (w : World) (a b c : Obj) : Below w.heap.size w (((w.alloc a).alloc b).alloc c) :=
  (((Below.refl _ _).alloc (Nat.le_refl _) _).alloc (by simp) _).alloc (by simp; omega) _
/-- Does one label lie below the other? -/
def belowB (l : Int) (c : Nat) (m : Int) (d : Nat) : Bool := decide (l ≤ m) && (c ||| d == d)
theorem bcell {W w1 : World} (hb : Below W.heap.size W w1) (b o : Nat) (h : b < W.heap.size) : w1.cell? ⟨b, o, none⟩ = W.cell? ⟨b, o, none⟩ := hb.cell (p := ⟨b, o, none⟩) h
theorem two_drew (w w' : World) (a b : Obj) (hb : Below ((w.alloc a).alloc b).drew.heap.size ((w.alloc a).alloc b).drew w') : Below w.heap.size w w' :=
  ((((Below.refl _ _).alloc (Nat.le_refl _) _).alloc (by simp) _).drew).trans (hb.mono (by simp; omega))
end Go.Proofs.YtddakaeacgojmaaDoor.L

namespace Go.Proofs.YtddakaeacgojmaaDoor.T
open Go.RowKit

theorem own_base {w : World} {base : Nat} {e : TypeId} {size n : Nat} {v : Value} {xs : List Value} (h : w.ownsRow base e size v n xs) : ∀ k, v.ownBlock = some k → base ≤ k := by
  intro k hk
  rcases h.2 with ⟨rfl, _⟩ | ⟨g, cap, cur, rfl, hg, _⟩
  · simp [Value.ownBlock] at hk
  · simp [Value.ownBlock] at hk; omega

theorem own_more {w : World} {base base' : Nat} {e : TypeId} {size n : Nat} {v : Value} {xs : List Value} (h : w.ownsRow base e size v n xs) (hb : base' ≤ base) : w.ownsRow base' e size v n xs := by
  refine ⟨h.1, ?_⟩
  rcases h.2 with hv | ⟨g, cap, cur, hv, hg, hr⟩
  · exact .inl hv
  · exact .inr ⟨g, cap, cur, hv, Nat.le_trans hb hg, hr⟩

theorem infoStr : (Tryd.prog.info? 9).map (fun i => (i.zero, i.size, i.bytes)) = some (some (.string ⟨#[]⟩), 1, 16) := by kernel_rfl
end Go.Proofs.YtddakaeacgojmaaDoor.T

namespace Go.Proofs.YtddakaeacgojmaaDoor.L
open Go.RowKit
open T

theorem blk_cell {w : World} {g : Nat} {t : TypeId} {cs : Array Value} (h : w.heap[g]? = some (.cells cs t (0, 0))) (i : Nat) : w.cell? ⟨g, i, none⟩ = cs[i]? := cell_of_row w g i cs t (0, 0) h
theorem blk_free {w : World} {g : Nat} {t : TypeId} {cs : Array Value} (h : w.heap[g]? = some (.cells cs t (0, 0))) (i : Nat) : w.frozen? ⟨g, i, none⟩ = false := by simp [World.frozen?, h]
theorem blk_set {w : World} {g : Nat} {t : TypeId} {cs : Array Value} (h : w.heap[g]? = some (.cells cs t (0, 0))) (i : Nat) (u : Value) : (w.setCell ⟨g, i, none⟩ u).heap[g]? = some (.cells (cs.setIfInBounds i u) t (0, 0)) := by
  simp [World.setCell, Array.getElem?_modify, h]
theorem blk_far {w : World} {g g' i : Nat} (hne : g ≠ g') (u : Value) : (w.setCell ⟨g', i, none⟩ u).heap[g]? = w.heap[g]? := Below.heap_setCell w ⟨g', i, none⟩ u g hne
theorem blk_lt {w : World} {g : Nat} {o : Obj} (h : w.heap[g]? = some o) : g < w.heap.size := by
  rcases Nat.lt_or_ge g w.heap.size with hlt | hge
  · exact hlt
  · rw [Array.getElem?_eq_none hge] at h; cases h

/-- All categories below k. -/
theorem ones_or (k : Nat) : (2 ^ k - 1) ||| 2 ^ k = 2 ^ (k + 1) - 1 := by
  have h := nat_join k (2 ^ k) (2 ^ k - 1) (Nat.mod_self _) (by have := Nat.pow_pos (n := k) (show 0 < 2 by omega); omega)
  rw [Nat.or_comm, h, Nat.pow_succ]
  have := Nat.pow_pos (n := k) (show 0 < 2 by omega)
  omega

end Go.Proofs.YtddakaeacgojmaaDoor.L

namespace Go.Proofs.YtddakaeacgojmaaDoor.L
open Go.RowKit
open T

/-- The categories of a label, from k on up to 64. -/
def catsTo (c k : Nat) : List Nat := (List.range k).filter fun i => c.testBit i
def intCells (xs : List Nat) : List Value := xs.map fun n : Nat => .int .i64 (n : Int)
theorem intCells_snoc (xs : List Nat) (n : Nat) : intCells (xs ++ [n]) = intCells xs ++ [.int .i64 (n : Int)] := by simp [intCells]
theorem catsTo_yes {c k : Nat} (h : c.testBit k = true) : catsTo c (k + 1) = catsTo c k ++ [k] := by simp [catsTo, List.range_succ, h]
theorem catsTo_no {c k : Nat} (h : c.testBit k = false) : catsTo c (k + 1) = catsTo c k := by simp [catsTo, List.range_succ, h]
theorem catsTo_len (c k : Nat) : (catsTo c k).length ≤ k := by
  have := List.length_filter_le (fun i => c.testBit i) (List.range k)
  simpa [catsTo] using this
theorem and_bit (c k : Nat) : (c &&& 2 ^ k = 0) ↔ c.testBit k = false := by
  rw [nat_bit, Nat.testBit_eq_decide_div_mod_eq]
  have hp := Nat.pow_pos (n := k) (show 0 < 2 by omega)
  rcases Nat.mod_two_eq_zero_or_one (c / 2 ^ k) with h | h <;> rw [h] <;> simp
theorem infoInt : (Tryd.prog.info? 3).map (fun i => (i.zero, i.size, i.bytes)) = some (some (.int .i64 0), 1, 8) := by kernel_rfl

set_option maxHeartbeats 1000000 in
set_option maxRecDepth 100000 in
theorem cats_any (l : Int) (c : Nat) (w : World) (hc : c < 18446744073709551616) :
    Calls Tryd.prog 54 #[lab l c] w fun e w' => ∃ v, e = .returned v ∧ w'.ownsRow w.heap.size 3 1 v (catsTo c 64).length (intCells (catsTo c 64)) ∧ Below w.heap.size w w' := by
  obtain ⟨i0, hi0, hz0, hz1, hz2⟩ := info_parts infoInt
  go_enter Tryd.func54, Tryd.ntmps54
  go_wp2_with fail
  go_loopg [3, 5] 64 (fun n v i wr => ∃ k : Nat, k ≤ 64 ∧ i = .int .i64 k ∧ 64 - k ≤ n ∧ wr.ownsRow (w.heap.size + 1) 3 1 v (catsTo c k).length (intCells (catsTo c k)) ∧ wr.heap[w.heap.size]? = some (.cells #[.int .i64 l, .int .u64 (c : Int)] 25 (0, 0)) ∧ Below w.heap.size w wr)
  case atStart => exact ⟨0, by omega, rfl, by omega, ⟨by simp [catsTo, intCells], .inl ⟨rfl, by simp [catsTo]⟩⟩, heap_alloc_new w _, (Below.refl _ _).alloc (Nat.le_refl _) _⟩
  case round =>
    obtain ⟨k, hk, rfl, hn, hown, hb0, hbel⟩ := hrel
    have c1 : wr.cell? ⟨w.heap.size, 1, none⟩ = some (.int .u64 (c : Int)) := blk_cell hb0 1
    have hwr : w.heap.size + 1 ≤ wr.heap.size := blk_lt hb0
    have HB0 := Lib.hid hb0
    clear hb0
    by_cases hlt : k < 64
    · have hpb : 2 ^ k < 18446744073709551616 := Nat.pow_lt_pow_right (a := 2) (n := 64) (by omega) hlt
      have hand := u64_and_nat c (2 ^ k) hc hpb
      have HB := Lib.hid (fun w => bit_any k w hlt)
      have hlen := catsTo_len c k
      by_cases hbit : c.testBit k
      · have hne : ((c &&& 2 ^ k : Nat) : Int) ≠ 0 := by
          intro e
          have := (and_bit c k).1 (by omega)
          rw [hbit] at this; cases this
        have HC := Lib.hid (catsTo_yes hbit)
        clear hpb hbit
        generalize c &&& 2 ^ k = y at *
        generalize 2 ^ k = p at *
        generalize catsTo c k = xs at *
        have hne' : ((y : Int) != 0) = true := by simpa using hne
        clear hne
        go_wp2_with fail
        go_quiet ((go_at_call 70; exact Calls.quiet_of_same ((HB.out _).mono fun _ _ h => ⟨h.1, h.2.symm⟩)))
        go_wp2_with (at_builtin; refine wpList_append_own _ rfl (.tmp 14) (.tmp 16) 80 rfl (w.heap.size + 1) 3 i0 _ 1 8 Tryd.underlying80 hi0 hz0 hz1 hz2 rfl (by decide) _ xs.length (intCells xs) rfl ?ho ⟨wr.heap.size, 0, none⟩ 1 1 [.int .i64 (k : Int)] rfl rfl ?c1 ?c2 ?c3 ?c4 ?c5 ?_)
        case ho => exact hown.alloc _
        case c1 => exact cell_one_new _ _ _
        case c2 => intro u hu; simp at hu; rcases hu with rfl; rfl
        case c3 => simp only [maxLen]; omega
        case c4 => omega
        case c5 => show w.heap.size + 1 ≤ (wr.alloc _).heap.size; simp; omega
        intro v' w2 hown1 hg1 _
        have hbel1 : Below w.heap.size w w2 := (below_drewN (hbel.alloc hbel.size _) _).grown hg1 (by show w.heap.size ≤ (wr.alloc _).heap.size; simp; omega) (fun k hk => by have := own_base hown k hk; omega)
        have hb2 : w2.heap[w.heap.size]? = some (.cells #[.int .i64 l, .int .u64 (c : Int)] 25 (0, 0)) := by
          rw [hg1.block w.heap.size (by show w.heap.size < (wr.alloc _).heap.size; simp; omega) (fun e => by have := own_base hown _ e.symm; omega)]
          exact (Below.heap_alloc wr _ _ (by omega)).trans HB0.out
        have HB2 := Lib.hid hb2
        rw [← intCells_snoc] at hown1
        have hl1 : (xs ++ [k]).length = xs.length + 1 := by simp
        rw [← hl1, ← HC.out] at hown1
        clear hl1 hown hb2
        go_wp2_with fail
        go_roundg (64 - (k + 1))
        case measure => omega
        case rel => exact ⟨k + 1, by omega, by go_num, Nat.le_refl _, hown1, HB2.out, hbel1⟩
      · have hbit' : c.testBit k = false := by simpa using hbit
        have hne' : (((c &&& 2 ^ k : Nat) : Int) != 0) = false := by
          have := (and_bit c k).2 hbit'
          rw [this]; rfl
        have HC := Lib.hid (catsTo_no hbit')
        clear hpb hbit hbit'
        generalize c &&& 2 ^ k = y at *
        generalize 2 ^ k = p at *
        go_wp2_with fail
        go_quiet ((go_at_call 70; exact Calls.quiet_of_same ((HB.out _).mono fun _ _ h => ⟨h.1, h.2.symm⟩)))
        go_wp2_with fail
        go_roundg (64 - (k + 1))
        case measure => omega
        case rel => exact ⟨k + 1, by omega, by go_num, Nat.le_refl _, by rw [HC.out]; exact hown, HB0.out, below_drewN hbel _⟩
    · obtain rfl : k = 64 := by omega
      have hown' := own_more hown (Nat.le_succ w.heap.size)
      clear hown
      go_wp2_with fail
      go_ret
      exact ⟨_, rfl, hown', hbel⟩
end Go.Proofs.YtddakaeacgojmaaDoor.L

namespace Go.Proofs.YtddakaeacgojmaaDoor.L
open Go.RowKit
open T

/-- The categories of a list of numbers, beside those that are there; none if one is no category. -/
def ofGo : List Int → Nat → Option Nat
  | [], c => some c
  | x :: r, c => if x < 0 ∨ 63 < x then none else ofGo r (c ||| 2 ^ x.toNat)
def ofAll (l : Int) (xs : List Int) : Option Nat := if rightB l then ofGo xs 0 else none
def ofVal (l : Int) (o : Option Nat) : Value := match o with
  | some c => .tuple #[lab l c, .int .i64 0]
  | none => .tuple #[lab 0 0, .int .i64 2]
theorem ofVal_none (l : Int) : ofVal l none = .tuple #[lab 0 0, .int .i64 2] := rfl
theorem ofVal_some (l : Int) (c : Nat) : ofVal l (some c) = .tuple #[lab l c, .int .i64 0] := rfl

/-- A row of numbers in memory. -/
def IntsAt (w : World) (bk off : Nat) (xs : List Int) : Prop := ∀ j (h : j < xs.length), w.cell? ⟨bk, off + j, none⟩ = some (.int .i64 xs[j])
theorem IntsAt.below {w w' : World} {bk off B : Nat} {xs : List Int} (h : IntsAt w bk off xs) (hb : Below B w w') (hB : bk < B) : IntsAt w' bk off xs :=
  fun j hj => (hb.cell (p := ⟨bk, off + j, none⟩) hB).trans (h j hj)

theorem of_bad {xs : List Int} {k c : Nat} (hk : k < xs.length) (h : xs[k] < 0 ∨ 63 < xs[k]) : ofGo (xs.drop k) c = none := by
  rw [List.drop_eq_getElem_cons hk, ofGo, if_pos h]
theorem of_on {xs : List Int} {k c : Nat} (hk : k < xs.length) (h : ¬ (xs[k] < 0 ∨ 63 < xs[k])) : ofGo (xs.drop k) c = ofGo (xs.drop (k + 1)) (c ||| 2 ^ xs[k].toNat) := by
  rw [List.drop_eq_getElem_cons hk, ofGo, if_neg h]
theorem of_end {xs : List Int} {c : Nat} : ofGo (xs.drop xs.length) c = some c := by rw [List.drop_length, ofGo]
theorem or_small {a b : Nat} (ha : a < 18446744073709551616) (hb : b < 18446744073709551616) : a ||| b < 18446744073709551616 := Nat.or_lt_two_pow (n := 64) ha hb

def Rt (l : Int) (b : Bool) : Prop := ∀ w : World, Calls Tryd.prog 28 #[.agg #[.int .i64 l, .int .u64 0]] w fun e w' => e = .returned (.bool b) ∧ Below w.heap.size w w'
theorem Rt.call {l : Int} {b : Bool} (h : Rt l b) (w : World) : Calls Tryd.prog 28 #[.agg #[.int .i64 l, .int .u64 0]] w fun e w' => e = .returned (.bool b) ∧ Below w.heap.size w w' := h w
theorem rt_is (l : Int) : Rt l (rightB l) := fun w => right_any l 0 w

/-- What the result's own block reads as. -/
theorem res_cells {wf : World} {g : Nat} {l : Int} {c : Int} (h : wf.heap[g]? = some (.cells #[.int .i64 l, .int .u64 c] 25 (0, 0))) :
    wf.cell? ⟨g, 0, none⟩ = some (.int .i64 l) ∧ wf.cell? ⟨g, 1, none⟩ = some (.int .u64 c) := ⟨blk_cell h 0, blk_cell h 1⟩
theorem two_blocks (w : World) (a b : Obj) : ((w.alloc a).alloc b).heap[w.heap.size]? = some a ∧ ((w.alloc a).alloc b).heap[w.heap.size + 1]? = some b := by
  refine ⟨?_, ?_⟩
  · rw [Below.heap_alloc _ _ _ (by simp)]; exact heap_alloc_new w _
  · have := heap_alloc_new (w.alloc a) b
    rwa [World.size_alloc] at this

theorem of_not (l : Int) (A : Option Addr) (n cap : Nat) (w : World) (h : rightB l = false) :
    Calls Tryd.prog 69 #[.int .i64 l, .slice A n cap] w fun e w' => e = .returned (.tuple #[lab 0 0, .int .i64 2]) ∧ Below w.heap.size w w' := by
  have HR := Lib.hid (rt_is l)
  rw [h] at HR
  clear h
  go_enter Tryd.func69, Tryd.ntmps69
  go_wp2_with fail
  with_reducible refine (HR.out.call _).mono ?_
  rintro e w1 ⟨rfl, hb1⟩
  have HK0 := Lib.hid ((hb1.block w.heap.size (by simp; omega)).trans (two_blocks w _ _).1)
  have hbel : Below w.heap.size w w1 := (((Below.refl _ _).alloc (Nat.le_refl _) _).alloc (by simp) _).trans (hb1.mono (by simp; omega))
  have d0 := (res_cells HK0.out).1
  have d1 := (res_cells HK0.out).2
  have e0 := blk_free HK0.out 0
  have e1 := blk_free HK0.out 1
  clear hb1
  go_wp2_with fail
  have hfin := blk_set (blk_set HK0.out 0 (.int .i64 0)) 1 (.int .u64 0)
  have hbf := (hbel.setCell (p := ⟨w.heap.size, 0, none⟩) (Nat.le_refl _) (.int .i64 0)).setCell (p := ⟨w.heap.size, 1, none⟩) (Nat.le_refl _) (.int .u64 0)
  clear d0 d1 e0 e1
  generalize (w1.setCell ⟨w.heap.size, 0, none⟩ (.int .i64 0)).setCell ⟨w.heap.size, 1, none⟩ (.int .u64 0) = wf at *
  have q0 : wf.cell? ⟨w.heap.size, 0, none⟩ = some (.int .i64 0) := blk_cell hfin 0
  have q1 : wf.cell? ⟨w.heap.size, 1, none⟩ = some (.int .u64 0) := blk_cell hfin 1
  exact bodyPost_ret (v := .tuple #[lab 0 0, .int .i64 2]) (by simp [results, Tryd.results69, go_sem, q0, q1]) rfl ⟨rfl, hbf⟩

set_option maxHeartbeats 1000000 in
set_option maxRecDepth 100000 in
theorem of_yes (l : Int) (A : Option Addr) (cap : Nat) (xs : List Int) (w : World) (h : rightB l = true) (hlen : xs.length ≤ maxLen) (hA : 0 < xs.length → ∃ bk off, A = some ⟨bk, off, none⟩ ∧ bk < w.heap.size ∧ IntsAt w bk off xs) :
    Calls Tryd.prog 69 #[.int .i64 l, .slice A xs.length cap] w fun e w' => e = .returned (ofVal l (ofGo xs 0)) ∧ Below w.heap.size w w' := by
  have HR := Lib.hid (rt_is l)
  rw [h] at HR
  clear h
  unfold maxLen at hlen
  have HA := Lib.hid hA
  clear hA
  go_enter Tryd.func69, Tryd.ntmps69
  go_wp2_with fail
  with_reducible refine (HR.out.call _).mono ?_
  rintro e w1 ⟨rfl, hb1⟩
  have HK0 := Lib.hid ((hb1.block w.heap.size (by simp; omega)).trans (two_blocks w _ _).1)
  have HK1 := Lib.hid ((hb1.block (w.heap.size + 1) (by simp)).trans (two_blocks w _ _).2)
  have hbel : Below w.heap.size w w1 := (((Below.refl _ _).alloc (Nat.le_refl _) _).alloc (by simp) _).trans (hb1.mono (by simp; omega))
  clear hb1
  go_wp2_with fail
  go_loopg [17] xs.length (fun n i wr => ∃ k c : Nat, k ≤ xs.length ∧ i = .int .i64 k ∧ xs.length - k ≤ n ∧ c < 18446744073709551616 ∧ Hid (ofGo xs 0 = ofGo (xs.drop k) c) ∧ Hid (wr.heap[w.heap.size]? = some (.cells #[.int .i64 0, .int .u64 0] 25 (0, 0))) ∧ Hid (wr.heap[w.heap.size + 1]? = some (.cells #[.int .i64 l, .int .u64 (c : Int)] 25 (0, 0))) ∧ Below w.heap.size w wr)
  case atStart => exact ⟨0, 0, Nat.zero_le _, rfl, by omega, by omega, Lib.hid rfl, HK0, HK1, hbel⟩
  case round =>
    clear HK0 HK1 hbel
    obtain ⟨k, c, hk, rfl, hn, hc, HO, HK0, HK1, hbel⟩ := hrel
    by_cases hlt : k < xs.length
    · obtain ⟨bk, off, hAe, hbk, hI⟩ := HA.out (by omega)
      subst hAe
      have hcell := hI.below hbel hbk k hlt
      by_cases hbad : xs[k] < 0 ∨ 63 < xs[k]
      · have HN := Lib.hid (HO.out.trans (of_bad hlt hbad))
        have d0 := (res_cells HK0.out).1
        have d1 := (res_cells HK0.out).2
        have e0 := blk_free HK0.out 0
        have e1 := blk_free HK0.out 1
        generalize xs[k] = x at *
        rcases hbad with hx | hx
        · go_wp2_with fail
          have hfin := blk_set (blk_set HK0.out 0 (.int .i64 0)) 1 (.int .u64 0)
          have hbf := (hbel.setCell (p := ⟨w.heap.size, 0, none⟩) (Nat.le_refl _) (.int .i64 0)).setCell (p := ⟨w.heap.size, 1, none⟩) (Nat.le_refl _) (.int .u64 0)
          clear d0 d1 e0 e1
          generalize (wr.setCell ⟨w.heap.size, 0, none⟩ (.int .i64 0)).setCell ⟨w.heap.size, 1, none⟩ (.int .u64 0) = wf at *
          have q0 : wf.cell? ⟨w.heap.size, 0, none⟩ = some (.int .i64 0) := blk_cell hfin 0
          have q1 : wf.cell? ⟨w.heap.size, 1, none⟩ = some (.int .u64 0) := blk_cell hfin 1
          exact bodyPost_ret (v := .tuple #[.agg #[.int .i64 0, .int .u64 0], .int .i64 2]) (by simp [results, Tryd.results69, go_sem, q0, q1]) rfl ⟨ret_of (by rw [HN.out]; rfl), hbf⟩
        · go_wp2_with fail
          have hfin := blk_set (blk_set HK0.out 0 (.int .i64 0)) 1 (.int .u64 0)
          have hbf := (hbel.setCell (p := ⟨w.heap.size, 0, none⟩) (Nat.le_refl _) (.int .i64 0)).setCell (p := ⟨w.heap.size, 1, none⟩) (Nat.le_refl _) (.int .u64 0)
          clear d0 d1 e0 e1
          generalize (wr.setCell ⟨w.heap.size, 0, none⟩ (.int .i64 0)).setCell ⟨w.heap.size, 1, none⟩ (.int .u64 0) = wf at *
          have q0 : wf.cell? ⟨w.heap.size, 0, none⟩ = some (.int .i64 0) := blk_cell hfin 0
          have q1 : wf.cell? ⟨w.heap.size, 1, none⟩ = some (.int .u64 0) := blk_cell hfin 1
          exact bodyPost_ret (v := .tuple #[.agg #[.int .i64 0, .int .u64 0], .int .i64 2]) (by simp [results, Tryd.results69, go_sem, q0, q1]) rfl ⟨ret_of (by rw [HN.out]; rfl), hbf⟩
      · have HN := Lib.hid (HO.out.trans (of_on hlt hbad))
        have hx0 : 0 ≤ xs[k] := by omega
        have hx1 : xs[k] ≤ 63 := by omega
        generalize xs[k] = x at *
        obtain ⟨m, rfl⟩ := Int.eq_ofNat_of_zero_le hx0
        rw [Int.toNat_natCast] at HN
        have hm : m < 64 := by omega
        have hpb : 2 ^ m < 18446744073709551616 := Nat.pow_lt_pow_right (a := 2) (n := 64) (by omega) hm
        have hor := u64_or_nat c (2 ^ m) hc hpb
        have hcy := or_small hc hpb
        have HB := Lib.hid (fun w => bit_any m w hm)
        have c1 := (res_cells HK1.out).2
        have f1 := blk_free HK1.out 1
        clear hpb
        generalize c ||| 2 ^ m = y at *
        generalize 2 ^ m = p at *
        go_wp2_with fail
        go_region_with (go_at_call 70; with_reducible refine (HB.out _).mono ?_; rintro e w' ⟨rfl, rfl⟩)
        all_goals
          go_wp2_with fail
          go_roundg (xs.length - (k + 1))
          case measure => omega
          case rel =>
            refine ⟨k + 1, y, by omega, by go_num, Nat.le_refl _, hcy, HN, ?_, ?_, (hbel.setCell (p := ⟨w.heap.size + 1, 1, none⟩) (Nat.le_succ _) _).drew⟩
            · exact Lib.hid ((blk_far (by omega) _).trans HK0.out)
            · exact Lib.hid (blk_set HK1.out 1 _)
    · obtain rfl : k = xs.length := by omega
      have HN := Lib.hid (HO.out.trans of_end)
      have d0 := (res_cells HK0.out).1
      have d1 := (res_cells HK0.out).2
      have e0 := blk_free HK0.out 0
      have e1 := blk_free HK0.out 1
      have c0 := (res_cells HK1.out).1
      have c1 := (res_cells HK1.out).2
      go_wp2_with fail
      clear c0 c1
      have hfin := blk_set (blk_set HK0.out 0 (.int .i64 l)) 1 (.int .u64 (c : Int))
      have hbf := (hbel.setCell (p := ⟨w.heap.size, 0, none⟩) (Nat.le_refl _) (.int .i64 l)).setCell (p := ⟨w.heap.size, 1, none⟩) (Nat.le_refl _) (.int .u64 (c : Int))
      clear d0 d1 e0 e1
      generalize (wr.setCell ⟨w.heap.size, 0, none⟩ (.int .i64 l)).setCell ⟨w.heap.size, 1, none⟩ (.int .u64 (c : Int)) = wf at *
      have q0 : wf.cell? ⟨w.heap.size, 0, none⟩ = some (.int .i64 l) := blk_cell hfin 0
      have q1 : wf.cell? ⟨w.heap.size, 1, none⟩ = some (.int .u64 (c : Int)) := blk_cell hfin 1
      exact bodyPost_ret (v := .tuple #[.agg #[.int .i64 l, .int .u64 (c : Int)], .int .i64 0]) (by simp [results, Tryd.results69, go_sem, q0, q1]) rfl ⟨ret_of (by rw [HN.out]; rfl), hbf⟩

theorem of_any (l : Int) (A : Option Addr) (cap : Nat) (xs : List Int) (w : World) (hlen : xs.length ≤ maxLen) (hA : 0 < xs.length → ∃ bk off, A = some ⟨bk, off, none⟩ ∧ bk < w.heap.size ∧ IntsAt w bk off xs) :
    Calls Tryd.prog 69 #[.int .i64 l, .slice A xs.length cap] w fun e w' => e = .returned (ofVal l (ofAll l xs)) ∧ Below w.heap.size w w' := by
  unfold ofAll
  cases h : rightB l with
  | false => exact of_not l A _ cap w h
  | true => exact of_yes l A cap xs w h hlen hA
end Go.Proofs.YtddakaeacgojmaaDoor.L

namespace Go.Proofs.YtddakaeacgojmaaDoor.P

/-- The digits of a list read on from n, without a bound. -/
def valGo : List UInt8 → Nat → Option Nat
  | [], n => some n
  | c :: r, n => if c.toNat < 48 ∨ 57 < c.toNat then none else valGo r (10 * n + (c.toNat - 48))
/-- Asked at the end. -/
def upTo (o : Option Nat) : Option Nat := o.bind fun m => if 2147483647 < m then none else some m

theorem valGo_ge : ∀ (l : List UInt8) (n m : Nat), valGo l n = some m → n * 10 ^ l.length ≤ m
  | [], n, m, h => by simp [valGo] at h; simp; omega
  | c :: r, n, m, h => by
    rw [valGo] at h
    split at h
    · cases h
    · have := valGo_ge r _ m h
      rw [List.length_cons, Nat.pow_succ]
      have e : (10 * n) * 10 ^ r.length ≤ (10 * n + (c.toNat - 48)) * 10 ^ r.length := Nat.mul_le_mul_right _ (by omega)
      have e2 : n * (10 ^ r.length * 10) = (10 * n) * 10 ^ r.length := by rw [Nat.mul_comm (10 ^ r.length) 10, ← Nat.mul_assoc, Nat.mul_comm n 10]
      omega
theorem valGo_le (l : List UInt8) (n m : Nat) (h : valGo l n = some m) : n ≤ m := by
  have h1 := valGo_ge l n m h
  have h2 : n * 1 ≤ n * 10 ^ l.length := Nat.mul_le_mul_left _ (Nat.pow_pos (by omega))
  omega

theorem numGo_val : ∀ (l : List UInt8) (n : Nat), n ≤ 2147483647 → numGo l n = upTo (valGo l n)
  | [], n, h => by simp [numGo, valGo, upTo]; omega
  | c :: r, n, h => by
    rw [numGo, valGo]
    split
    · rfl
    · split
      · next hb =>
        cases e : valGo r (10 * n + (c.toNat - 48)) with
        | none => rfl
        | some m =>
          have := valGo_le _ _ _ e
          simp [upTo]; omega
      · next hb => exact numGo_val r _ (by omega)

/-- Too long: more than ten digits without a 0 ahead. -/
theorem number_long (l : List UInt8) (h : 10 < l.length) : number l = none := by
  rw [number]
  split
  · rfl
  · next hc =>
    match l, h, hc with
    | c :: r, h, hc =>
      rw [numGo_val _ _ (by omega)]
      cases e : valGo (c :: r) 0 with
      | none => rfl
      | some m =>
        have hne : c ≠ 48 := fun e => hc (.inr ⟨by rw [e]; rfl, by simp at h ⊢; omega⟩)
        rw [valGo] at e
        split at e
        · cases e
        · next hd =>
          have h1 := valGo_ge r _ m e
          have hc48 : c.toNat ≠ 48 := fun e => hne (UInt8.toNat_inj.1 e)
          have h2 : 1 * 10 ^ 10 ≤ (10 * 0 + (c.toNat - 48)) * 10 ^ r.length :=
            Nat.mul_le_mul (by omega) (Nat.pow_le_pow_right (by omega) (by simp at h; omega))
          simp [upTo]; omega
theorem number_val (l : List UInt8) (h0 : l ≠ []) (h : ¬ (1 < l.length ∧ l.head? = some 48)) : number l = upTo (valGo l 0) := by
  rw [number, if_neg (by rintro (e | e); exact h0 e; exact h ⟨e.2, e.1⟩), numGo_val _ _ (by omega)]

theorem numGo_snoc : ∀ (l : List UInt8) (c : UInt8) (n : Nat), numGo (l ++ [c]) n = (numGo l n).bind fun m => numGo [c] m
  | [], c, n => by simp [numGo]
  | x :: r, c, n => by
    rw [List.cons_append, numGo, numGo]
    split
    · rfl
    · split
      · rfl
      · exact numGo_snoc r c _

theorem digit (d : Nat) (h : d < 10) : (UInt8.ofNat (48 + d)).toNat = 48 + d := by
  rw [UInt8.toNat_ofNat']; omega
theorem digit_of (c : UInt8) (h : 48 ≤ c.toNat) (h2 : c.toNat ≤ 57) : UInt8.ofNat (48 + (c.toNat - 48)) = c := by
  rw [show 48 + (c.toNat - 48) = c.toNat by omega]; simp

theorem numGo_dec (u : Nat) (h : u ≤ 2147483647) : numGo (Lib.decDigits u) 0 = some u := by
  induction u using Nat.strongRecOn with
  | ind u ih =>
    rw [Lib.decDigits]
    split
    · next hu => rw [numGo, digit u hu, if_neg (by omega), if_neg (by omega), numGo]; congr 1; omega
    · next hu =>
      rw [numGo_snoc, ih (u / 10) (by omega) (by omega)]
      show numGo [_] (u / 10) = _
      rw [numGo, digit _ (by omega), if_neg (by omega), if_neg (by omega), numGo]
      congr 1; omega
theorem dec_ne (u : Nat) : Lib.decDigits u ≠ [] := by
  rw [Lib.decDigits]; split <;> simp
theorem dec_head (u : Nat) : 1 ≤ u → (Lib.decDigits u).head? ≠ some 48 := by
  induction u using Nat.strongRecOn with
  | ind u ih =>
    intro hu1
    rw [Lib.decDigits]
    split
    · next hu =>
      simp only [List.head?_cons, ne_eq, Option.some.injEq]
      intro e
      have := congrArg UInt8.toNat e
      rw [digit u hu] at this
      simp at this; omega
    · next hu =>
      have hne := dec_ne (u / 10)
      have := ih (u / 10) (by omega) (by omega)
      cases e : Lib.decDigits (u / 10) with
      | nil => exact absurd e hne
      | cons x r => rw [e] at this; simpa using this
theorem number_dec (u : Nat) (h : u ≤ 2147483647) : number (Lib.decDigits u) = some u := by
  rw [number, if_neg, numGo_dec u h]
  rintro (e | ⟨e1, e2⟩)
  · exact dec_ne u e
  · rcases Nat.eq_zero_or_pos u with h0 | h0
    · subst h0; rw [Lib.decDigits_one (by omega)] at e2; simp at e2
    · exact dec_head u h0 e1

theorem numGo_le (l : List UInt8) (n m : Nat) (hn : n ≤ 2147483647) (h : numGo l n = some m) : n ≤ m ∧ m ≤ 2147483647 := by
  rw [numGo_val l n hn] at h
  cases e : valGo l n with
  | none => rw [e] at h; cases h
  | some k =>
    rw [e] at h
    have := valGo_le l n k e
    simp only [upTo, Option.bind_some] at h
    split at h
    · cases h
    · injection h with h; omega

theorem dec_numGo (l : List UInt8) : ∀ n, l ≠ [] → (l.head? = some 48 → l.length = 1) → numGo l 0 = some n → Lib.decDigits n = l := by
  induction hl : l.length generalizing l with
  | zero => intro n h; exact absurd (List.eq_nil_of_length_eq_zero hl) h
  | succ k ih =>
    intro n hne hz h
    obtain ⟨i, c, rfl⟩ : ∃ i c, l = i ++ [c] := ⟨l.dropLast, l.getLast hne, (List.dropLast_concat_getLast hne).symm⟩
    rw [numGo_snoc] at h
    cases em : numGo i 0 with
    | none => rw [em] at h; cases h
    | some m =>
      rw [em] at h
      simp only [Option.bind_some, numGo] at h
      split at h
      · cases h
      · next hd =>
        split at h
        · cases h
        · next hb =>
          injection h with h
          subst h
          by_cases hi : i = []
          · subst hi
            simp only [numGo, Option.some.injEq] at em
            subst em
            rw [Lib.decDigits_one (by omega), show 48 + (10 * 0 + (c.toNat - 48)) = 48 + (c.toNat - 48) by omega, digit_of c (by omega) (by omega)]
            rfl
          · have hih := ih i (by simp at hl; omega) m hi (fun e => by
              have : (i ++ [c]).head? = some 48 := by
                cases i with
                | nil => exact absurd rfl hi
                | cons x r => simpa using e
              have := hz this
              have hik : i.length = k := by simp at hl; omega
              exact absurd (List.eq_nil_of_length_eq_zero (by omega)) hi) em
            have hm : 1 ≤ m := by
              rcases Nat.eq_zero_or_pos m with h0 | h0
              · subst h0
                rw [Lib.decDigits_one (by omega)] at hih
                have : (i ++ [c]).head? = some 48 := by rw [← hih]; rfl
                have := hz this
                have hik : i.length = k := by simp at hl; omega
                exact absurd (List.eq_nil_of_length_eq_zero (by omega)) hi
              · exact h0
            rw [Lib.decDigits, dif_neg (by omega), show (10 * m + (c.toNat - 48)) / 10 = m by omega, show (10 * m + (c.toNat - 48)) % 10 = c.toNat - 48 by omega, hih, digit_of c (by omega) (by omega)]
theorem dec_number (l : List UInt8) (n : Nat) (h : number l = some n) : Lib.decDigits n = l ∧ n ≤ 2147483647 := by
  rw [number] at h
  split at h
  · cases h
  · next hc =>
    refine ⟨dec_numGo l n (fun e => hc (.inl e)) (fun e => ?_) h, (numGo_le l 0 n (by omega) h).2⟩
    have : ¬ 1 < l.length := fun e2 => hc (.inr ⟨e, e2⟩)
    cases l with
    | nil => simp at e
    | cons x r => simp at this ⊢; omega

theorem decimal_in (n : Int) (h0 : 0 ≤ n) (h1 : n ≤ 2147483647) : decimal n = Lib.decDigits n.toNat := by rw [decimal, if_neg (by omega)]
theorem decimal_out (n : Int) (h : n < 0 ∨ 2147483647 < n) : decimal n = [63] := by rw [decimal, if_pos h]
theorem number_decimal (n : Int) (h0 : 0 ≤ n) (h1 : n ≤ 2147483647) : number (decimal n) = some n.toNat := by
  rw [decimal_in n h0 h1, number_dec _ (by omega)]
theorem number_untold (n : Int) (h : n < 0 ∨ 2147483647 < n) : number (decimal n) = none := by
  rw [decimal_out n h]; decide
theorem decimal_number (l : List UInt8) (n : Nat) (h : number l = some n) : decimal n = l := by
  have := dec_number l n h
  rw [decimal_in n (by omega) (by omega)]
  simpa using this.1
theorem decimal_length (n : Int) : (decimal n).length ≤ 10 := by
  by_cases h : n < 0 ∨ 2147483647 < n
  · rw [decimal_out n h]; decide
  · rw [decimal_in n (by omega) (by omega)]
    rcases Nat.lt_or_ge 10 (Lib.decDigits n.toNat).length with hl | hl
    · have := number_long _ hl
      rw [number_dec _ (by omega)] at this
      cases this
    · exact hl
end Go.Proofs.YtddakaeacgojmaaDoor.P



namespace Go.Proofs.YtddakaeacgojmaaDoor.L
open Go.RowKit
open T

/-- A label's text. -/
def catsText (xs : List Nat) : List UInt8 := Lib.join (xs.map fun n : Nat => P.decimal (n : Int)) [44]
def print (l : Int) (c : Nat) : List UInt8 := if catsTo c 64 = [] then P.decimal l else P.decimal l ++ [58] ++ catsText (catsTo c 64)

theorem own_form {w : World} {base : Nat} {e : TypeId} {size n : Nat} {v : Value} {xs : List Value} (h : w.ownsRow base e size v n xs) :
    ∃ A cap, v = .slice A n cap ∧ n ≤ cap ∧ (0 < n → ∃ g, A = some ⟨g, 0, none⟩ ∧ base ≤ g ∧ g < w.heap.size ∧ ∀ j u, xs[j]? = some u → w.cell? ⟨g, j, none⟩ = some u) := by
  rcases h.2 with ⟨rfl, rfl⟩ | ⟨g, cap, cur, rfl, hg, hh, hnc, _, _, hx⟩
  · exact ⟨none, 0, rfl, Nat.le_refl _, fun h => absurd h (by omega)⟩
  · refine ⟨_, cap, rfl, hnc, fun _ => ⟨g, rfl, hg, blk_lt hh, fun j u hu => ?_⟩⟩
    rw [← hx] at hu
    have hu' : cur.toList[j]? = some u := by
      rw [List.getElem?_take] at hu
      split at hu
      · exact hu
      · cases hu
    rw [blk_cell hh j]
    simpa using hu'

theorem join_len (xs : List Nat) : (catsText xs).length ≤ 11 * xs.length := by
  unfold catsText Lib.join
  induction xs with
  | nil => simp
  | cons x r ih =>
    have := P.decimal_length (x : Int)
    cases r with
    | nil => simp; omega
    | cons y r =>
      rw [List.map_cons, List.map_cons, List.intercalate_cons_cons] 
      simp at ih ⊢
      omega

/-- The texts of categories, as strings. -/
def decStrs (xs : List Nat) : List ByteArray := xs.map fun n : Nat => (⟨(P.decimal (n : Int)).toArray⟩ : ByteArray)
def decCells (xs : List Nat) : List Value := xs.map fun n : Nat => .string ⟨(P.decimal (n : Int)).toArray⟩
theorem decStrs_data (xs : List Nat) : (decStrs xs).map (·.data.toList) = xs.map fun n : Nat => P.decimal (n : Int) := by
  unfold decStrs
  rw [List.map_map]
  exact List.map_congr_left fun _ _ => rfl
theorem dec_take {xs : List Nat} {k : Nat} (hk : k < xs.length) : decCells (xs.take (k + 1)) = decCells (xs.take k) ++ [.string ⟨(P.decimal ((xs[k] : Nat) : Int)).toArray⟩] := by
  unfold decCells
  rw [List.take_succ_eq_append_getElem hk, List.map_append]
  rfl
theorem cat (l r : List UInt8) : (⟨l.toArray⟩ : ByteArray) ++ ⟨r.toArray⟩ = ⟨(l ++ r).toArray⟩ := by
  apply ByteArray.ext
  simp

set_option maxHeartbeats 1000000 in
set_option maxRecDepth 100000 in
theorem print_any (l : Int) (c : Nat) (w : World) (h0 : -9223372036854775808 ≤ l) (h1 : l ≤ 9223372036854775807) (hc : c < 18446744073709551616) (ht : Tab w) :
    Calls Tryd.prog 42 #[lab l c] w fun e w' => e = .returned (.string ⟨(print l c).toArray⟩) ∧ Below w.heap.size w w' := by
  obtain ⟨i0, hi0, hz0, hz1, hz2⟩ := info_parts infoStr
  have HC := Lib.hid (fun w => cats_any l c w hc)
  have HD := Lib.hid (fun (n : Int) (a : -9223372036854775808 ≤ n) (b : n ≤ 9223372036854775807) (w : World) (ht : Tab w) => decimal_any n w a b ht)
  have HT := Lib.hid ht
  have hlen := catsTo_len c 64
  have HX : Hid (∀ j (h : j < (catsTo c 64).length), (catsTo c 64)[j] < 64) := Lib.hid fun j h => by
    have := List.getElem_mem h
    unfold catsTo at this
    rw [List.mem_filter, List.mem_range] at this
    exact this.1
  have HP := Lib.hid (show print l c = if catsTo c 64 = [] then P.decimal l else P.decimal l ++ [58] ++ catsText (catsTo c 64) from rfl)
  generalize print l c = res at *
  generalize catsTo c 64 = xs at *
  clear hc ht
  go_enter Tryd.func42, Tryd.ntmps42
  go_wp2_with fail
  with_reducible refine (HC.out _).mono ?_
  rintro e w1 ⟨v, rfl, hown, hb1⟩
  obtain ⟨A, cap, hv, hcap, hA⟩ := own_form hown
  subst hv
  have hbel : Below w.heap.size w w1 := ((Below.refl _ _).alloc (Nat.le_refl _) _).trans (hb1.mono (by simp))
  have HK0 := Lib.hid ((hb1.block w.heap.size (by simp)).trans (heap_alloc_new w _))
  have hw1 : w.heap.size < w1.heap.size := blk_lt HK0.out
  have HA := Lib.hid hA
  have HT1 := Lib.hid (HT.out.later hbel)
  clear hA hown hb1 HC HT
  go_wp2_with fail
  go_loopg [3, 10] xs.length (fun n v i wr => ∃ k : Nat, k ≤ xs.length ∧ i = .int .i64 k ∧ xs.length - k ≤ n ∧ wr.ownsRow w1.heap.size 9 1 v k (decCells (xs.take k)) ∧ Below w1.heap.size w1 wr)
  case atStart => exact ⟨0, Nat.zero_le _, rfl, by omega, ⟨by simp [decCells], .inl ⟨rfl, rfl⟩⟩, Below.refl _ _⟩
  case round =>
    obtain ⟨k, hk, rfl, hn, hown, hbw⟩ := hrel
    by_cases hlt : k < xs.length
    · obtain ⟨g, hAe, hg0, hg1, hcells⟩ := HA.out (by omega)
      subst hAe
      have hcell : wr.cell? ⟨g, k, none⟩ = some (.int .i64 ((xs[k] : Nat) : Int)) := (hbw.cell (p := ⟨g, k, none⟩) hg1).trans (hcells k _ (by simp [intCells, List.getElem?_eq_getElem hlt]))
      have hx := HX.out k hlt
      have HTk := Lib.hid (dec_take hlt)
      have HTr := Lib.hid (HT1.out.later hbw)
      clear hcells
      generalize xs[k] = x at *
      go_wp2_with fail
      with_reducible refine (HD.out (x : Int) (by omega) (by omega) _ HTr.out).mono ?_
      rintro e w2 ⟨rfl, hb2⟩
      have hbw2 : Below w1.heap.size w1 w2 := hbw.trans (hb2.mono hbw.size)
      have hown2 : w2.ownsRow w1.heap.size 9 1 u3 k (decCells (xs.take k)) := hown.kept (row := none) ⟨hb2.os, hb2.tape, hb2.output, hb2.size, fun i hi _ => hb2.block i hi⟩ (by
        rcases hh : u3.ownBlock with _ | b
        · exact .inl rfl
        · exact .inr (by simp))
      generalize P.decimal (x : Int) = ds at *
      clear hcell hown hb2
      go_wp2_with (at_builtin; refine wpList_append_own _ rfl (.tmp 14) (.tmp 17) 60 rfl w1.heap.size 9 i0 _ 1 16 Tryd.underlying60 hi0 hz0 hz1 hz2 rfl (by decide) _ k (decCells (xs.take k)) rfl ?ho ⟨w2.heap.size, 0, none⟩ 1 1 [.string ⟨ds.toArray⟩] rfl rfl ?c1 ?c2 ?c3 ?c4 ?c5 ?_)
      case ho => exact hown2.alloc _
      case c1 => exact cell_one_new _ _ _
      case c2 => intro u hu; simp at hu; rcases hu with rfl; rfl
      case c3 => simp only [maxLen]; omega
      case c4 => omega
      case c5 => have := hbw2.size; simp; omega
      intro v' w3 hown3 hg3 _
      have hbw3 : Below w1.heap.size w1 w3 := (hbw2.alloc hbw2.size _).grown hg3 (by have := hbw2.size; simp; omega) (own_base hown2)
      rw [← HTk.out] at hown3
      clear hown2
      go_wp2_with fail
      go_roundg (xs.length - (k + 1))
      case measure => omega
      case rel => exact ⟨k + 1, by omega, by go_num, Nat.le_refl _, hown3, hbw3⟩
    · obtain rfl : k = xs.length := by omega
      rw [List.take_length] at hown
      obtain ⟨A', cap', hv', hcap', hA'⟩ := own_form hown
      subst hv'
      have c0 : wr.cell? ⟨w.heap.size, 0, none⟩ = some (.int .i64 l) := blk_cell ((hbw.block _ hw1).trans HK0.out) 0
      have HTr := Lib.hid (HT1.out.later hbw)
      have hbr : Below w.heap.size w wr := hbel.trans (hbw.mono (by omega))
      clear hown
      go_wp2_with fail
      with_reducible refine (HD.out l h0 h1 _ HTr.out).mono ?_
      rintro e w2 ⟨rfl, hb2⟩
      have hb02 : Below w.heap.size w w2 := hbr.trans (hb2.mono hbr.size)
      by_cases hx0 : xs.length = 0
      · have hb0 : ((xs.length : Int) == 0) = true := beq_iff_eq.2 (by omega)
        have HQ := Lib.hid (show res = P.decimal l by rw [HP.out, if_pos (List.eq_nil_of_length_eq_zero hx0)])
        clear hx0 c0
        go_wp2_with fail
        go_ret
        exact ⟨ret_of (by rw [HQ.out]; rfl), hb02⟩
      · have hb0 : ((xs.length : Int) == 0) = false := beq_eq_false_iff_ne.2 (by omega)
        have HQ := Lib.hid (show res = P.decimal l ++ [58] ++ catsText xs by rw [HP.out, if_neg (fun e => hx0 (by rw [e]; rfl))])
        obtain ⟨g, hAe, hg0, hg1, hcells⟩ := hA' (by omega)
        subst hAe
        have hdl := P.decimal_length l
        have hjl := join_len xs
        have hlx : xs.length = (decStrs xs).length := by simp [decStrs]
        have hjoin := Tryd.strings_Join g 0 cap' (decStrs xs) ⟨#[44]⟩ w2 (fun j x hj => by
            rw [Nat.zero_add, hb2.cell (p := ⟨g, j, none⟩) hg1]
            refine hcells j _ ?_
            have : (decCells xs)[j]? = ((decStrs xs)[j]?).map Value.string := by
              simp only [decCells, decStrs, List.getElem?_map, Option.map_map]; rfl
            rw [this, hj]; rfl) (by have := hb2.size; omega) (by omega) (by omega) (by
            rw [decStrs_data]
            show (catsText xs).length ≤ _
            omega)
        rw [decStrs_data, ← hlx] at hjoin
        have HJ : Hid (Calls Tryd.prog 45 #[.slice (some ⟨g, 0, none⟩) xs.length cap', .string ⟨#[44]⟩] w2 fun e w' => e = .returned (.string ⟨(catsText xs).toArray⟩) ∧ Below w2.heap.size w2 w') := Lib.hid hjoin
        clear hjoin hcells c0 hlx hA' hx0
        generalize catsText xs = js at *
        generalize P.decimal l = ds at *
        have ha1 : (⟨ds.toArray⟩ : ByteArray).size + (⟨#[58]⟩ : ByteArray).size ≤ 9223372036854775807 := by
          show ds.toArray.size + 1 ≤ _; simp; omega
        have ha2 : ((⟨ds.toArray⟩ : ByteArray) ++ ⟨#[58]⟩).size + (⟨js.toArray⟩ : ByteArray).size ≤ 9223372036854775807 := by
          rw [ByteArray.size_append]; show ds.toArray.size + 1 + js.toArray.size ≤ _; simp; omega
        go_wp2_with fail
        with_reducible refine (HJ.out).mono ?_
        rintro e w3 ⟨rfl, hb3⟩
        have hb03 : Below w.heap.size w w3 := hb02.trans (hb3.mono hb02.size)
        go_wp2_with fail
        go_ret
        exact ⟨ret_of (by rw [HQ.out, ← cat, ← cat]; rfl), hb03⟩
end Go.Proofs.YtddakaeacgojmaaDoor.L

namespace Go.Proofs.YtddakaeacgojmaaDoor.L
open Go.RowKit
open T

/-- A text cut at the first byte c. -/
def split (c : UInt8) : List UInt8 → Option (List UInt8 × List UInt8)
  | [] => none
  | x :: r => if x = c then some ([], r) else (split c r).map fun p => (x :: p.1, p.2)
theorem split_index (c : UInt8) : ∀ l : List UInt8, (Lib.indexByte l c = -1 ∧ split c l = none) ∨ ∃ o : Nat, Lib.indexByte l c = o ∧ o < l.length ∧ split c l = some (l.take o, l.drop (o + 1))
  | [] => .inl ⟨rfl, rfl⟩
  | x :: r => by
    by_cases h : x = c
    · refine .inr ⟨0, ?_, by simp, by simp [split, h]⟩
      simp [Lib.indexByte, h]
    · rcases split_index c r with ⟨h1, h2⟩ | ⟨o, h1, h2, h3⟩
      · exact .inl ⟨by simp [Lib.indexByte, h, h1], by simp [split, h, h2]⟩
      · exact .inr ⟨o + 1, by simp [Lib.indexByte, h, h1], by simpa using h2, by simp [split, h, h3]⟩

def cutVal (s : List UInt8) (o : Option (List UInt8 × List UInt8)) : Value := match o with
  | some p => .tuple #[.string ⟨p.1.toArray⟩, .string ⟨p.2.toArray⟩, .bool true]
  | none => .tuple #[.string ⟨s.toArray⟩, .string ⟨#[]⟩, .bool false]

theorem extract_take (s : ByteArray) (o : Nat) : s.extract 0 o = ⟨(s.data.toList.take o).toArray⟩ := by
  rw [Lib.extract_eq]; simp
theorem extract_drop (s : ByteArray) (o : Nat) : s.extract o s.size = ⟨(s.data.toList.drop o).toArray⟩ := by
  rw [Lib.extract_eq, List.take_of_length_le]
  rw [List.length_drop, Lib.size_eq]; exact Nat.le_refl _

set_option maxHeartbeats 1000000 in
theorem lite_any (s : ByteArray) (c : UInt8) (w : World) (hs : s.size ≤ maxLen) :
    Calls Tryd.prog 76 #[.string s, .string ⟨#[c]⟩] w fun e w' => e = .returned (cutVal s.data.toList (split c s.data.toList)) ∧ ∃ n, w' = w.drewN n := by
  have HI := Lib.hid (Tryd.stringslite_Index_one s c)
  unfold maxLen at hs
  rcases split_index c s.data.toList with ⟨h1, h2⟩ | ⟨o, h1, h2, h3⟩
  · rw [h1] at HI
    have HS := Lib.hid h2
    clear h1 h2
    go_enter Tryd.func76, Tryd.ntmps76
    go_wp2_with fail
    with_reducible refine (HI.out _).mono ?_
    rintro e w' ⟨rfl, rfl⟩
    go_wp2_with fail
    go_ret3
    exact ⟨ret_of (by rw [HS.out]; show _ = Value.tuple #[.string ⟨s.data.toList.toArray⟩, _, _]; cases s; simp), 0, rfl⟩
  · rw [h1] at HI
    rw [← Lib.size_eq] at h2
    have HS := Lib.hid h3
    clear h1 h3
    have hw1 : IntKind.i64.wrap ((o : Int) + 1) = (o : Int) + 1 := IntWalk.i64_in _ (by omega)
    have hn : ((o : Int) + 1).toNat = o + 1 := by omega
    go_enter Tryd.func76, Tryd.ntmps76
    go_wp2_with fail
    with_reducible refine (HI.out _).mono ?_
    rintro e w' ⟨rfl, rfl⟩
    go_wp2_with fail
    go_quiet (fail)
    go_wp2_with fail
    go_ret3
    exact ⟨ret_of (by rw [HS.out]; show Value.tuple #[.string (s.extract 0 o), .string (s.extract (o + 1) s.size), .bool true] = _; rw [extract_take, extract_drop]; rfl), nq, rfl⟩

/-- strings.Cut at one byte. -/
theorem cutc (s : ByteArray) (c : UInt8) (w : World) (hs : s.size ≤ maxLen) :
    Calls Tryd.prog 66 #[.string s, .string ⟨#[c]⟩] w fun e w' => e = .returned (cutVal s.data.toList (split c s.data.toList)) ∧ Below w.heap.size w w' := by
  have HL := Lib.hid (fun w => lite_any s c w hs)
  cases hsp : split c s.data.toList with
  | none =>
    rw [hsp] at HL
    go_enter Tryd.func66, Tryd.ntmps66
    go_wp2_with fail
    with_reducible refine (HL.out _).mono ?_
    rintro e w' ⟨rfl, n, rfl⟩
    simp only [cutVal]
    go_wp2_with fail
    go_ret3
    exact ⟨rfl, below_drewN (Below.refl _ _) n⟩
  | some q =>
    rw [hsp] at HL
    go_enter Tryd.func66, Tryd.ntmps66
    go_wp2_with fail
    with_reducible refine (HL.out _).mono ?_
    rintro e w' ⟨rfl, n, rfl⟩
    simp only [cutVal]
    go_wp2_with fail
    go_ret3
    exact ⟨rfl, below_drewN (Below.refl _ _) n⟩

/-- A text's parts between bytes c. -/
def partsGo (c : UInt8) : List UInt8 → List UInt8 → List (List UInt8)
  | cur, [] => [cur]
  | cur, x :: r => if x = c then cur :: partsGo c [] r else partsGo c (cur ++ [x]) r
theorem parts_none {c : UInt8} : ∀ {l cur : List UInt8}, split c l = none → partsGo c cur l = [cur ++ l]
  | [], cur, _ => by simp [partsGo]
  | x :: r, cur, h => by
    rw [split] at h
    split at h
    · cases h
    · next hx =>
      rw [Option.map_eq_none_iff] at h
      rw [partsGo, if_neg hx, parts_none h]
      simp
theorem parts_some {c : UInt8} : ∀ {l cur a b : List UInt8}, split c l = some (a, b) → partsGo c cur l = (cur ++ a) :: partsGo c [] b
  | [], cur, a, b, h => by simp [split] at h
  | x :: r, cur, a, b, h => by
    rw [split] at h
    split at h
    · next hx => simp at h; rw [partsGo, if_pos hx, h.1, h.2]; simp
    · next hx =>
      rw [Option.map_eq_some_iff] at h
      obtain ⟨⟨a', b'⟩, h1, h2⟩ := h
      simp at h2
      rw [partsGo, if_neg hx, parts_some h1, ← h2.1, ← h2.2]
      simp
theorem split_len {c : UInt8} {l a b : List UInt8} (h : split c l = some (a, b)) : b.length < l.length ∧ a.length < l.length := by
  rcases split_index c l with ⟨_, h2⟩ | ⟨o, _, h2, h3⟩
  · rw [h] at h2; cases h2
  · rw [h] at h3
    injection h3 with h3
    injection h3 with ha hb
    subst ha hb
    simp; omega

/-- The numbers of a text's parts between commas; none if one is no number. -/
def numsOf : List (List UInt8) → Option (List Nat)
  | [] => some []
  | p :: r => (P.number p).bind fun n => (numsOf r).map (n :: ·)
def nums (l : List UInt8) : Option (List Nat) := numsOf (partsGo 44 [] l)
theorem nums_none {l : List UInt8} (h : split 44 l = none) : nums l = (P.number l).map fun n => [n] := by
  unfold nums
  rw [parts_none h, numsOf, numsOf, List.nil_append]
  cases P.number l <;> rfl
theorem nums_some {l a b : List UInt8} (h : split 44 l = some (a, b)) : nums l = (P.number a).bind fun n => (nums b).map (n :: ·) := by
  unfold nums
  rw [parts_some h, numsOf, List.nil_append]
end Go.Proofs.YtddakaeacgojmaaDoor.L
