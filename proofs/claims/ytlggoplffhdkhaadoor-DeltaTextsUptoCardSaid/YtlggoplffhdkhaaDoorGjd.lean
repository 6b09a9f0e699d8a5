/-
  The contracts of label's Cats and Of.
  The contract of label's Of.
  The contracts of the reference's Has, Right and Below for labels.
  Rows of bytes in memory, and the contract of text.cut.
  The contracts of text.Words and text.Lines.
  Plain facts on lines: the bytes of the lines of bytes are the bytes; the lines of the bytes of right lines are the lines.
  Rows of lines in memory.
  The contract of text.Join: a new row of bytes, those of the lines.
  Rows of bytes in memory, wherever they lie, those of no byte too: as a text, and text.Lines of them. What a region's walk may be told anew on its way.
  Rows of numbers in memory; the contracts of the reference's Ints and of the law's sameItems (layer 5).
-/
import Derived.Test.YtlggoplffhdkhaaDoorGjc
import Derived.Laws.BytesArg
import Derived.Deep.LoopGhost
import Derived.Lib.ConvBytes
import Derived.Test.YtlggoplffhdkhaaDoorGja
import Derived.Lib.AppendStr
import Derived.Deep.RegionHeld
import Derived.Deep.QuietTactic
import Derived.BigQuiet
import Derived.StillTailTactics
namespace Go.Proofs.YtlggoplffhdkhaaDoor.L
open Go.RowKit
open T

/-- The categories of a label, from k on up to 64. -/
def catsTo (c k : Nat) : List Nat := (List.range k).filter fun i => c.testBit i
def intCells (xs : List Nat) : List Value := xs.map fun n : Nat => .int .i64 (n : Int)
theorem intCells_snoc (xs : List Nat) (n : Nat) : intCells (xs ++ [n]) = intCells xs ++ [.int .i64 (n : Int)] := by simp [intCells]
theorem catsTo_yes {c k : Nat} (h : c.testBit k = true) : catsTo c (k + 1) = catsTo c k ++ [k] := by simp [catsTo, List.range_succ, h]
theorem catsTo_no {c k : Nat} (h : c.testBit k = false) : catsTo c (k + 1) = catsTo c k := by simp [catsTo, List.range_succ, h]
theorem catsTo_len (c k : Nat) : (catsTo c k).length ≤ k := by
  have := List.length_filter_le (fun i => c.testBit i) (List.range k)
  simpa [catsTo] using this
theorem and_bit (c k : Nat) : (c &&& 2 ^ k = 0) ↔ c.testBit k = false := by
  rw [nat_bit, Nat.testBit_eq_decide_div_mod_eq]
  have hp := Nat.pow_pos (n := k) (show 0 < 2 by omega)
  rcases Nat.mod_two_eq_zero_or_one (c / 2 ^ k) with h | h <;> rw [h] <;> simp
theorem infoInt : (Tryd.prog.info? 3).map (fun i => (i.zero, i.size, i.bytes)) = some (some (.int .i64 0), 1, 8) := by kernel_rfl

set_option maxHeartbeats 1000000 in
set_option maxRecDepth 100000 in
theorem cats_any (l : Int) (c : Nat) (w : World) (hc : c < 18446744073709551616) :
    Calls Tryd.prog 67 #[lab l c] w fun e w' => ∃ v, e = .returned v ∧ w'.ownsRow w.heap.size 3 1 v (catsTo c 64).length (intCells (catsTo c 64)) ∧ Below w.heap.size w w' := by
  obtain ⟨i0, hi0, hz0, hz1, hz2⟩ := info_parts infoInt
  go_enter Tryd.func67, Tryd.ntmps67
  go_wp2_with fail
  go_loopg [3, 5] 64 (fun n v i wr => ∃ k : Nat, k ≤ 64 ∧ i = .int .i64 k ∧ 64 - k ≤ n ∧ wr.ownsRow (w.heap.size + 1) 3 1 v (catsTo c k).length (intCells (catsTo c k)) ∧ wr.heap[w.heap.size]? = some (.cells #[.int .i64 l, .int .u64 (c : Int)] 37 (0, 0)) ∧ Below w.heap.size w wr)
  case atStart => exact ⟨0, by omega, rfl, by omega, ⟨by simp [catsTo, intCells], .inl ⟨rfl, by simp [catsTo]⟩⟩, heap_alloc_new w _, (Below.refl _ _).alloc (Nat.le_refl _) _⟩
  case round =>
    obtain ⟨k, hk, rfl, hn, hown, hb0, hbel⟩ := hrel
    have c1 : wr.cell? ⟨w.heap.size, 1, none⟩ = some (.int .u64 (c : Int)) := blk_cell hb0 1
    have hwr : w.heap.size + 1 ≤ wr.heap.size := blk_lt hb0
    have HB0 := Lib.hid hb0
    clear hb0
    by_cases hlt : k < 64
    · have hpb : 2 ^ k < 18446744073709551616 := Nat.pow_lt_pow_right (a := 2) (n := 64) (by omega) hlt
      have hand := u64_and_nat c (2 ^ k) hc hpb
      have HB := Lib.hid (fun w => bit_any k w hlt)
      have hlen := catsTo_len c k
      by_cases hbit : c.testBit k
      · have hne : ((c &&& 2 ^ k : Nat) : Int) ≠ 0 := by
          intro e
          have := (and_bit c k).1 (by omega)
          rw [hbit] at this; cases this
        have HC := Lib.hid (catsTo_yes hbit)
        clear hpb hbit
        generalize c &&& 2 ^ k = y at *
        generalize 2 ^ k = p at *
        generalize catsTo c k = xs at *
        have hne' : ((y : Int) != 0) = true := by simpa using hne
        clear hne
        go_wp2_with fail
        go_quiet ((go_at_call 78; exact Calls.quiet_of_same ((HB.out _).mono fun _ _ h => ⟨h.1, h.2.symm⟩)))
        go_wp2_with (at_builtin; refine wpList_append_own _ rfl (.tmp 14) (.tmp 16) 80 rfl (w.heap.size + 1) 3 i0 _ 1 8 Tryd.underlying80 hi0 hz0 hz1 hz2 rfl (by decide) _ xs.length (intCells xs) rfl ?ho ⟨wr.heap.size, 0, none⟩ 1 1 [.int .i64 (k : Int)] rfl rfl ?c1 ?c2 ?c3 ?c4 ?c5 ?_)
        case ho => exact hown.alloc _
        case c1 => exact cell_one_new _ _ _
        case c2 => intro u hu; simp at hu; rcases hu with rfl; rfl
        case c3 => simp only [maxLen]; omega
        case c4 => omega
        case c5 => show w.heap.size + 1 ≤ (wr.alloc _).heap.size; simp; omega
        intro v' w2 hown1 hg1 _
        have hbel1 : Below w.heap.size w w2 := (below_drewN (hbel.alloc hbel.size _) _).grown hg1 (by show w.heap.size ≤ (wr.alloc _).heap.size; simp; omega) (fun k hk => by have := own_base hown k hk; omega)
        have hb2 : w2.heap[w.heap.size]? = some (.cells #[.int .i64 l, .int .u64 (c : Int)] 37 (0, 0)) := by
          rw [hg1.block w.heap.size (by show w.heap.size < (wr.alloc _).heap.size; simp; omega) (fun e => by have := own_base hown _ e.symm; omega)]
          exact (Below.heap_alloc wr _ _ (by omega)).trans HB0.out
        have HB2 := Lib.hid hb2
        rw [← intCells_snoc] at hown1
        have hl1 : (xs ++ [k]).length = xs.length + 1 := by simp
        rw [← hl1, ← HC.out] at hown1
        clear hl1 hown hb2
        go_wp2_with fail
        go_roundg (64 - (k + 1))
        case measure => omega
        case rel => exact ⟨k + 1, by omega, by go_num, Nat.le_refl _, hown1, HB2.out, hbel1⟩
      · have hbit' : c.testBit k = false := by simpa using hbit
        have hne' : (((c &&& 2 ^ k : Nat) : Int) != 0) = false := by
          have := (and_bit c k).2 hbit'
          rw [this]; rfl
        have HC := Lib.hid (catsTo_no hbit')
        clear hpb hbit hbit'
        generalize c &&& 2 ^ k = y at *
        generalize 2 ^ k = p at *
        go_wp2_with fail
        go_quiet ((go_at_call 78; exact Calls.quiet_of_same ((HB.out _).mono fun _ _ h => ⟨h.1, h.2.symm⟩)))
        go_wp2_with fail
        go_roundg (64 - (k + 1))
        case measure => omega
        case rel => exact ⟨k + 1, by omega, by go_num, Nat.le_refl _, by rw [HC.out]; exact hown, HB0.out, below_drewN hbel _⟩
    · obtain rfl : k = 64 := by omega
      have hown' := own_more hown (Nat.le_succ w.heap.size)
      clear hown
      go_wp2_with fail
      go_ret
      exact ⟨_, rfl, hown', hbel⟩
end Go.Proofs.YtlggoplffhdkhaaDoor.L

namespace Go.Proofs.YtlggoplffhdkhaaDoor.L
open Go.RowKit
open T

/-- The categories of a list of numbers, beside those that are there; none if one is no category. -/
def ofGo : List Int → Nat → Option Nat
  | [], c => some c
  | x :: r, c => if x < 0 ∨ 63 < x then none else ofGo r (c ||| 2 ^ x.toNat)
def ofAll (l : Int) (xs : List Int) : Option Nat := if rightB l then ofGo xs 0 else none
def ofVal (l : Int) (o : Option Nat) : Value := match o with
  | some c => .tuple #[lab l c, .int .i64 0]
  | none => .tuple #[lab 0 0, .int .i64 2]
theorem ofVal_none (l : Int) : ofVal l none = .tuple #[lab 0 0, .int .i64 2] := rfl
theorem ofVal_some (l : Int) (c : Nat) : ofVal l (some c) = .tuple #[lab l c, .int .i64 0] := rfl

/-- A row of numbers in memory. -/
def IntsAt (w : World) (bk off : Nat) (xs : List Int) : Prop := ∀ j (h : j < xs.length), w.cell? ⟨bk, off + j, none⟩ = some (.int .i64 xs[j])
theorem IntsAt.below {w w' : World} {bk off B : Nat} {xs : List Int} (h : IntsAt w bk off xs) (hb : Below B w w') (hB : bk < B) : IntsAt w' bk off xs :=
  fun j hj => (hb.cell (p := ⟨bk, off + j, none⟩) hB).trans (h j hj)

theorem of_bad {xs : List Int} {k c : Nat} (hk : k < xs.length) (h : xs[k] < 0 ∨ 63 < xs[k]) : ofGo (xs.drop k) c = none := by
  rw [List.drop_eq_getElem_cons hk, ofGo, if_pos h]
theorem of_on {xs : List Int} {k c : Nat} (hk : k < xs.length) (h : ¬ (xs[k] < 0 ∨ 63 < xs[k])) : ofGo (xs.drop k) c = ofGo (xs.drop (k + 1)) (c ||| 2 ^ xs[k].toNat) := by
  rw [List.drop_eq_getElem_cons hk, ofGo, if_neg h]
theorem of_end {xs : List Int} {c : Nat} : ofGo (xs.drop xs.length) c = some c := by rw [List.drop_length, ofGo]
theorem or_small {a b : Nat} (ha : a < 18446744073709551616) (hb : b < 18446744073709551616) : a ||| b < 18446744073709551616 := Nat.or_lt_two_pow (n := 64) ha hb

def Rt (l : Int) (b : Bool) : Prop := ∀ w : World, Calls Tryd.prog 61 #[.agg #[.int .i64 l, .int .u64 0]] w fun e w' => e = .returned (.bool b) ∧ Below w.heap.size w w'
theorem Rt.call {l : Int} {b : Bool} (h : Rt l b) (w : World) : Calls Tryd.prog 61 #[.agg #[.int .i64 l, .int .u64 0]] w fun e w' => e = .returned (.bool b) ∧ Below w.heap.size w w' := h w
theorem rt_is (l : Int) : Rt l (rightB l) := fun w => right_any l 0 w

/-- What the result's own block reads as. -/
theorem res_cells {wf : World} {g : Nat} {l : Int} {c : Int} (h : wf.heap[g]? = some (.cells #[.int .i64 l, .int .u64 c] 37 (0, 0))) :
    wf.cell? ⟨g, 0, none⟩ = some (.int .i64 l) ∧ wf.cell? ⟨g, 1, none⟩ = some (.int .u64 c) := ⟨blk_cell h 0, blk_cell h 1⟩
theorem two_blocks (w : World) (a b : Obj) : ((w.alloc a).alloc b).heap[w.heap.size]? = some a ∧ ((w.alloc a).alloc b).heap[w.heap.size + 1]? = some b := by
  refine ⟨?_, ?_⟩
  · rw [Below.heap_alloc _ _ _ (by simp)]; exact heap_alloc_new w _
  · have := heap_alloc_new (w.alloc a) b
    rwa [World.size_alloc] at this

theorem of_not (l : Int) (A : Option Addr) (n cap : Nat) (w : World) (h : rightB l = false) :
    Calls Tryd.prog 81 #[.int .i64 l, .slice A n cap] w fun e w' => e = .returned (.tuple #[lab 0 0, .int .i64 2]) ∧ Below w.heap.size w w' := by
  have HR := Lib.hid (rt_is l)
  rw [h] at HR
  clear h
  go_enter Tryd.func81, Tryd.ntmps81
  go_wp2_with fail
  with_reducible refine (HR.out.call _).mono ?_
  rintro e w1 ⟨rfl, hb1⟩
  have HK0 := Lib.hid ((hb1.block w.heap.size (by simp; omega)).trans (two_blocks w _ _).1)
  have hbel : Below w.heap.size w w1 := (((Below.refl _ _).alloc (Nat.le_refl _) _).alloc (by simp) _).trans (hb1.mono (by simp; omega))
  have d0 := (res_cells HK0.out).1
  have d1 := (res_cells HK0.out).2
  have e0 := blk_free HK0.out 0
  have e1 := blk_free HK0.out 1
  clear hb1
  go_wp2_with fail
  have hfin := blk_set (blk_set HK0.out 0 (.int .i64 0)) 1 (.int .u64 0)
  have hbf := (hbel.setCell (p := ⟨w.heap.size, 0, none⟩) (Nat.le_refl _) (.int .i64 0)).setCell (p := ⟨w.heap.size, 1, none⟩) (Nat.le_refl _) (.int .u64 0)
  clear d0 d1 e0 e1
  generalize (w1.setCell ⟨w.heap.size, 0, none⟩ (.int .i64 0)).setCell ⟨w.heap.size, 1, none⟩ (.int .u64 0) = wf at *
  have q0 : wf.cell? ⟨w.heap.size, 0, none⟩ = some (.int .i64 0) := blk_cell hfin 0
  have q1 : wf.cell? ⟨w.heap.size, 1, none⟩ = some (.int .u64 0) := blk_cell hfin 1
  exact bodyPost_ret (v := .tuple #[lab 0 0, .int .i64 2]) (by simp [results, Tryd.results81, go_sem, q0, q1]) rfl ⟨rfl, hbf⟩

set_option maxHeartbeats 1000000 in
set_option maxRecDepth 100000 in
theorem of_yes (l : Int) (A : Option Addr) (cap : Nat) (xs : List Int) (w : World) (h : rightB l = true) (hlen : xs.length ≤ maxLen) (hA : 0 < xs.length → ∃ bk off, A = some ⟨bk, off, none⟩ ∧ bk < w.heap.size ∧ IntsAt w bk off xs) :
    Calls Tryd.prog 81 #[.int .i64 l, .slice A xs.length cap] w fun e w' => e = .returned (ofVal l (ofGo xs 0)) ∧ Below w.heap.size w w' := by
  have HR := Lib.hid (rt_is l)
  rw [h] at HR
  clear h
  unfold maxLen at hlen
  have HA := Lib.hid hA
  clear hA
  go_enter Tryd.func81, Tryd.ntmps81
  go_wp2_with fail
  with_reducible refine (HR.out.call _).mono ?_
  rintro e w1 ⟨rfl, hb1⟩
  have HK0 := Lib.hid ((hb1.block w.heap.size (by simp; omega)).trans (two_blocks w _ _).1)
  have HK1 := Lib.hid ((hb1.block (w.heap.size + 1) (by simp)).trans (two_blocks w _ _).2)
  have hbel : Below w.heap.size w w1 := (((Below.refl _ _).alloc (Nat.le_refl _) _).alloc (by simp) _).trans (hb1.mono (by simp; omega))
  clear hb1
  go_wp2_with fail
  go_loopg [17] xs.length (fun n i wr => ∃ k c : Nat, k ≤ xs.length ∧ i = .int .i64 k ∧ xs.length - k ≤ n ∧ c < 18446744073709551616 ∧ Hid (ofGo xs 0 = ofGo (xs.drop k) c) ∧ Hid (wr.heap[w.heap.size]? = some (.cells #[.int .i64 0, .int .u64 0] 37 (0, 0))) ∧ Hid (wr.heap[w.heap.size + 1]? = some (.cells #[.int .i64 l, .int .u64 (c : Int)] 37 (0, 0))) ∧ Below w.heap.size w wr)
  case atStart => exact ⟨0, 0, Nat.zero_le _, rfl, by omega, by omega, Lib.hid rfl, HK0, HK1, hbel⟩
  case round =>
    clear HK0 HK1 hbel
    obtain ⟨k, c, hk, rfl, hn, hc, HO, HK0, HK1, hbel⟩ := hrel
    by_cases hlt : k < xs.length
    · obtain ⟨bk, off, hAe, hbk, hI⟩ := HA.out (by omega)
      subst hAe
      have hcell := hI.below hbel hbk k hlt
      by_cases hbad : xs[k] < 0 ∨ 63 < xs[k]
      · have HN := Lib.hid (HO.out.trans (of_bad hlt hbad))
        have d0 := (res_cells HK0.out).1
        have d1 := (res_cells HK0.out).2
        have e0 := blk_free HK0.out 0
        have e1 := blk_free HK0.out 1
        generalize xs[k] = x at *
        rcases hbad with hx | hx
        · go_wp2_with fail
          have hfin := blk_set (blk_set HK0.out 0 (.int .i64 0)) 1 (.int .u64 0)
          have hbf := (hbel.setCell (p := ⟨w.heap.size, 0, none⟩) (Nat.le_refl _) (.int .i64 0)).setCell (p := ⟨w.heap.size, 1, none⟩) (Nat.le_refl _) (.int .u64 0)
          clear d0 d1 e0 e1
          generalize (wr.setCell ⟨w.heap.size, 0, none⟩ (.int .i64 0)).setCell ⟨w.heap.size, 1, none⟩ (.int .u64 0) = wf at *
          have q0 : wf.cell? ⟨w.heap.size, 0, none⟩ = some (.int .i64 0) := blk_cell hfin 0
          have q1 : wf.cell? ⟨w.heap.size, 1, none⟩ = some (.int .u64 0) := blk_cell hfin 1
          exact bodyPost_ret (v := .tuple #[.agg #[.int .i64 0, .int .u64 0], .int .i64 2]) (by simp [results, Tryd.results81, go_sem, q0, q1]) rfl ⟨ret_of (by rw [HN.out]; rfl), hbf⟩
        · go_wp2_with fail
          have hfin := blk_set (blk_set HK0.out 0 (.int .i64 0)) 1 (.int .u64 0)
          have hbf := (hbel.setCell (p := ⟨w.heap.size, 0, none⟩) (Nat.le_refl _) (.int .i64 0)).setCell (p := ⟨w.heap.size, 1, none⟩) (Nat.le_refl _) (.int .u64 0)
          clear d0 d1 e0 e1
          generalize (wr.setCell ⟨w.heap.size, 0, none⟩ (.int .i64 0)).setCell ⟨w.heap.size, 1, none⟩ (.int .u64 0) = wf at *
          have q0 : wf.cell? ⟨w.heap.size, 0, none⟩ = some (.int .i64 0) := blk_cell hfin 0
          have q1 : wf.cell? ⟨w.heap.size, 1, none⟩ = some (.int .u64 0) := blk_cell hfin 1
          exact bodyPost_ret (v := .tuple #[.agg #[.int .i64 0, .int .u64 0], .int .i64 2]) (by simp [results, Tryd.results81, go_sem, q0, q1]) rfl ⟨ret_of (by rw [HN.out]; rfl), hbf⟩
      · have HN := Lib.hid (HO.out.trans (of_on hlt hbad))
        have hx0 : 0 ≤ xs[k] := by omega
        have hx1 : xs[k] ≤ 63 := by omega
        generalize xs[k] = x at *
        obtain ⟨m, rfl⟩ := Int.eq_ofNat_of_zero_le hx0
        rw [Int.toNat_natCast] at HN
        have hm : m < 64 := by omega
        have hpb : 2 ^ m < 18446744073709551616 := Nat.pow_lt_pow_right (a := 2) (n := 64) (by omega) hm
        have hor := u64_or_nat c (2 ^ m) hc hpb
        have hcy := or_small hc hpb
        have HB := Lib.hid (fun w => bit_any m w hm)
        have c1 := (res_cells HK1.out).2
        have f1 := blk_free HK1.out 1
        clear hpb
        generalize c ||| 2 ^ m = y at *
        generalize 2 ^ m = p at *
        go_wp2_with fail
        go_region_with (go_at_call 78; with_reducible refine (HB.out _).mono ?_; rintro e w' ⟨rfl, rfl⟩)
        all_goals
          go_wp2_with fail
          go_roundg (xs.length - (k + 1))
          case measure => omega
          case rel =>
            refine ⟨k + 1, y, by omega, by go_num, Nat.le_refl _, hcy, HN, ?_, ?_, (hbel.setCell (p := ⟨w.heap.size + 1, 1, none⟩) (Nat.le_succ _) _).drew⟩
            · exact Lib.hid ((blk_far (by omega) _).trans HK0.out)
            · exact Lib.hid (blk_set HK1.out 1 _)
    · obtain rfl : k = xs.length := by omega
      have HN := Lib.hid (HO.out.trans of_end)
      have d0 := (res_cells HK0.out).1
      have d1 := (res_cells HK0.out).2
      have e0 := blk_free HK0.out 0
      have e1 := blk_free HK0.out 1
      have c0 := (res_cells HK1.out).1
      have c1 := (res_cells HK1.out).2
      go_wp2_with fail
      clear c0 c1
      have hfin := blk_set (blk_set HK0.out 0 (.int .i64 l)) 1 (.int .u64 (c : Int))
      have hbf := (hbel.setCell (p := ⟨w.heap.size, 0, none⟩) (Nat.le_refl _) (.int .i64 l)).setCell (p := ⟨w.heap.size, 1, none⟩) (Nat.le_refl _) (.int .u64 (c : Int))
      clear d0 d1 e0 e1
      generalize (wr.setCell ⟨w.heap.size, 0, none⟩ (.int .i64 l)).setCell ⟨w.heap.size, 1, none⟩ (.int .u64 (c : Int)) = wf at *
      have q0 : wf.cell? ⟨w.heap.size, 0, none⟩ = some (.int .i64 l) := blk_cell hfin 0
      have q1 : wf.cell? ⟨w.heap.size, 1, none⟩ = some (.int .u64 (c : Int)) := blk_cell hfin 1
      exact bodyPost_ret (v := .tuple #[.agg #[.int .i64 l, .int .u64 (c : Int)], .int .i64 0]) (by simp [results, Tryd.results81, go_sem, q0, q1]) rfl ⟨ret_of (by rw [HN.out]; rfl), hbf⟩

theorem of_any (l : Int) (A : Option Addr) (cap : Nat) (xs : List Int) (w : World) (hlen : xs.length ≤ maxLen) (hA : 0 < xs.length → ∃ bk off, A = some ⟨bk, off, none⟩ ∧ bk < w.heap.size ∧ IntsAt w bk off xs) :
    Calls Tryd.prog 81 #[.int .i64 l, .slice A xs.length cap] w fun e w' => e = .returned (ofVal l (ofAll l xs)) ∧ Below w.heap.size w w' := by
  unfold ofAll
  cases h : rightB l with
  | false => exact of_not l A _ cap w h
  | true => exact of_yes l A cap xs w h hlen hA
end Go.Proofs.YtlggoplffhdkhaaDoor.L

namespace Go.Proofs.YtlggoplffhdkhaaDoor.L
open Go.RowKit
open T

theorem refRight_any (l : Int) (c : Nat) (w : World) :
    Calls Tryd.prog 52 #[lab l c] w fun e w' => e = .returned (.bool (rightB l)) ∧ Below w.heap.size w w' := by
  by_cases h0 : 0 ≤ l
  · have HR := Lib.hid (show rightB l = decide (l < 16) by unfold rightB; rw [decide_eq_true h0]; simp; omega)
    go_enter Tryd.func52, Tryd.ntmps52
    go_wp2_with fail
    go_ret
    exact ⟨ret_of (by rw [HR.out]; rfl), (Below.refl _ _).alloc (Nat.le_refl _) _⟩
  · have HR := Lib.hid (show rightB l = false by unfold rightB; rw [decide_eq_false h0]; rfl)
    go_enter Tryd.func52, Tryd.ntmps52
    go_wp2_with fail
    go_ret
    exact ⟨ret_of (by rw [HR.out]; rfl), (Below.refl _ _).alloc (Nat.le_refl _) _⟩

theorem has_bit (c k : Nat) : (((c : Int) / 2 ^ k).tmod 2 == 1) = c.testBit k := by
  have e : (c : Int) / 2 ^ k = ((c / 2 ^ k : Nat) : Int) := by simp
  rw [e, Nat.testBit_eq_decide_div_mod_eq]
  generalize c / 2 ^ k = y
  rw [Int.tmod_eq_emod_of_nonneg (by omega), Bool.eq_iff_iff]
  simp
  omega
theorem has_any (l : Int) (c k : Nat) (w : World) (hk : k < 64) :
    Calls Tryd.prog 68 #[lab l c, .int .i64 k] w fun e w' => e = .returned (.bool (c.testBit k)) ∧ Below w.heap.size w w' := by
  have HB := Lib.hid (has_bit c k)
  go_enter Tryd.func68, Tryd.ntmps68
  go_wp2_with fail
  go_ret
  exact ⟨ret_of (by rw [← HB.out]; rfl), (Below.refl _ _).alloc (Nat.le_refl _) _⟩
def Hs (l : Int) (c k : Nat) (b : Bool) : Prop := ∀ w : World, Calls Tryd.prog 68 #[lab l c, .int .i64 k] w fun e w' => e = .returned (.bool b) ∧ Below w.heap.size w w'
theorem Hs.call {l : Int} {c k : Nat} {b : Bool} (h : Hs l c k b) (w : World) : Calls Tryd.prog 68 #[lab l c, .int .i64 k] w fun e w' => e = .returned (.bool b) ∧ Below w.heap.size w w' := h w
theorem hs_is {l : Int} {c k : Nat} {b : Bool} (hk : k < 64) (h : c.testBit k = b) : Hs l c k b := fun w => by
  have := has_any l c k w hk
  rwa [h] at this

/-- Two labels in boxes of the call's own. -/
abbrev Held2 (w : World) (l : Int) (c : Nat) (m : Int) (d : Nat) (w' : World) : Prop :=
  w'.cell? ⟨w.heap.size, 0, none⟩ = some (.int .i64 l) ∧ w'.cell? ⟨w.heap.size, 1, none⟩ = some (.int .u64 (c : Int)) ∧ w'.cell? ⟨w.heap.size + 1, 0, none⟩ = some (.int .i64 m) ∧ w'.cell? ⟨w.heap.size + 1, 1, none⟩ = some (.int .u64 (d : Int)) ∧ w.heap.size + 2 ≤ w'.heap.size ∧ Below w.heap.size w w'
theorem held2_below {w W W' : World} {l m : Int} {c d : Nat} (h : Held2 w l c m d W) (hb : Below W.heap.size W W') : Held2 w l c m d W' := by
  obtain ⟨h1, h2, h3, h4, h7, h8⟩ := h
  have hs := hb.size
  exact ⟨(bcell hb _ _ (by omega)).trans h1, (bcell hb _ _ (by omega)).trans h2, (bcell hb _ _ (by omega)).trans h3, (bcell hb _ _ (by omega)).trans h4, by omega, h8.trans (hb.mono h8.size)⟩
theorem held2_start (w : World) (l m : Int) (c d : Nat) : Held2 w l c m d ((w.alloc (.cells #[.int .i64 l, .int .u64 (c : Int)] 37)).alloc (.cells #[.int .i64 m, .int .u64 (d : Int)] 37)) := by
  obtain ⟨b0, b1⟩ := two_blocks w (.cells #[.int .i64 l, .int .u64 (c : Int)] 37) (.cells #[.int .i64 m, .int .u64 (d : Int)] 37)
  exact ⟨blk_cell b0 0, blk_cell b0 1, blk_cell b1 0, blk_cell b1 1, by rw [World.size_alloc, World.size_alloc]; omega, ((Below.refl _ _).alloc (Nat.le_refl _) _).alloc (by simp) _⟩
theorem held2_end {w W : World} {l m : Int} {c d : Nat} (h : Held2 w l c m d W) : Below w.heap.size w W := h.2.2.2.2.2

theorem sub_of_bits {c d : Nat} (hc : c < 18446744073709551616) (h : ∀ i, i < 64 → c.testBit i = true → d.testBit i = true) : c ||| d = d := by
  apply Nat.eq_of_testBit_eq
  intro i
  rw [Nat.testBit_or]
  by_cases hi : i < 64
  · cases hb : c.testBit i with
    | false => simp
    | true => rw [h i hi hb]; rfl
  · rw [Nat.testBit_lt_two_pow (Nat.lt_of_lt_of_le hc (Nat.pow_le_pow_right (n := 2) (by omega) (show 64 ≤ i by omega)))]; simp
theorem bit_of_sub {c d : Nat} (h : c ||| d = d) {i : Nat} (hi : c.testBit i = true) : d.testBit i = true := by
  rw [← h, Nat.testBit_or, hi]; rfl

end Go.Proofs.YtlggoplffhdkhaaDoor.L

namespace Go.Proofs.YtlggoplffhdkhaaDoor.T
open Go.RowKit

/-- A row of bytes in memory: the cells from an address on hold the bytes of a list. -/
def BytesAt (w : World) (bk off : Nat) (l : List UInt8) : Prop := ∀ j (h : j < l.length), w.cell? ⟨bk, off + j, none⟩ = some (.int .u8 (l[j].toNat : Int))
theorem BytesAt.below {w w' : World} {bk off B : Nat} {l : List UInt8} (h : BytesAt w bk off l) (hb : Below B w w') (hB : bk < B) : BytesAt w' bk off l :=
  fun j hj => (hb.cell (p := ⟨bk, off + j, none⟩) hB).trans (h j hj)
theorem BytesAt.sub {w : World} {bk off i n : Nat} {l : List UInt8} (h : BytesAt w bk off l) : BytesAt w bk (off + i) ((l.drop i).take n) := by
  intro j hj
  have hj' : j < n ∧ j < l.length - i := by simp at hj; omega
  have := h (i + j) (by omega)
  rw [Nat.add_assoc]
  simpa using this

theorem strOfNums_bytes (m : List UInt8) : strOfNums (m.map fun c => (c.toNat : Int)) = ⟨m.toArray⟩ := by
  unfold strOfNums
  congr 1
  congr 1
  rw [List.map_map]
  conv => rhs; rw [← List.map_id m]
  exact List.map_congr_left fun c _ => by simp
theorem conv_bytes (w : World) (bk off len cap : Nat) (m : List UInt8) (hlen : m.length = len) (h : BytesAt w bk off m) :
    (convert 43 9 (.slice (some ⟨bk, off, none⟩) len cap)).run Tryd.prog w = .ok (.string ⟨m.toArray⟩) w := by
  have hc := run_convert_bytes_arg (P := Tryd.prog) w 43 5 Tryd.underlying43 Tryd.underlying5 bk off len cap (m.map fun c => (c.toNat : Int)) (by simpa using hlen)
    (fun i hi => by
      have hi' : i < m.length := by omega
      rw [h i hi']
      simp [List.getElem?_eq_getElem hi']) 9 Tryd.underlying9
  rw [hc, strOfNums_bytes]

set_option maxRecDepth 100000 in
theorem cut_any (bk off cap i j : Nat) (l : List UInt8) (w : World) (h : BytesAt w bk off l) (hij : i ≤ j) (hj : j ≤ l.length) (hn : l.length ≤ cap) :
    Calls Tryd.prog 58 #[.slice (some ⟨bk, off, none⟩) l.length cap, .int .i64 i, .int .i64 j] w fun e w' => e = .returned (.string ⟨((l.drop i).take (j - i)).toArray⟩) ∧ w = w' := by
  obtain ⟨n, hnl⟩ : ∃ n, n = l.length := ⟨_, rfl⟩
  rw [← hnl] at hj hn ⊢
  by_cases e : j = i
  · subst e
    have hcv := conv_bytes w bk off 0 0 [] rfl (fun j hj => absurd hj (by simp))
    have He := Lib.hid (show (l.drop j).take (j - j) = [] by simp)
    clear hnl h hij
    go_enter Tryd.func58, Tryd.ntmps58
    go_wp2
    go_ret
    exact ⟨ret_of (by rw [He.out]; rfl), rfl⟩
  · have hcv := conv_bytes w bk (off + i) (j - i) (j - i) ((l.drop i).take (j - i)) (by simp; omega) h.sub
    generalize (l.drop i).take (j - i) = m at hcv ⊢
    clear hnl h
    go_enter Tryd.func58, Tryd.ntmps58
    go_wp2
    go_ret
    exact ⟨rfl, rfl⟩
end Go.Proofs.YtlggoplffhdkhaaDoor.T

namespace Go.Proofs.YtlggoplffhdkhaaDoor.T
open Go.RowKit

/-- The cells of lines: each a text and whether it is bare. -/
def lineCells (xs : List (List UInt8 × Bool)) : List Value := xs.flatMap fun x => [.string ⟨x.1.toArray⟩, .bool x.2]
theorem lineCells_snoc (xs : List (List UInt8 × Bool)) (t : List UInt8) (b : Bool) : lineCells (xs ++ [(t, b)]) = lineCells xs ++ [.string ⟨t.toArray⟩, .bool b] := by simp [lineCells]
theorem lineCells_length (xs : List (List UInt8 × Bool)) : (lineCells xs).length = xs.length * 2 := by
  induction xs with
  | nil => rfl
  | cons x r ih => simp [lineCells] at ih ⊢; omega
theorem infoLine : (Tryd.prog.info? 39).map (fun i => (i.zero, i.size, i.bytes)) = some (some (.agg #[.string ⟨#[]⟩, .bool false]), 2, 24) := by kernel_rfl

theorem lines_at {l : List UInt8} {i j : Nat} (hj : j < l.length) (h : l[j].toNat = 10) :
    P.lines ((l.drop i).take (j - i)) (l.drop j) = ((l.drop i).take (j - i), false) :: P.lines [] (l.drop (j + 1)) := by
  rw [List.drop_eq_getElem_cons hj, P.lines, if_pos (UInt8.toNat_inj.1 h)]
theorem lines_on {l : List UInt8} {i j : Nat} (hij : i ≤ j) (hj : j < l.length) (h : ¬ l[j].toNat = 10) :
    P.lines ((l.drop i).take (j - i)) (l.drop j) = P.lines ((l.drop i).take (j + 1 - i)) (l.drop (j + 1)) := by
  rw [List.drop_eq_getElem_cons hj, P.lines, if_neg (fun e => h (by rw [e]; rfl))]
  congr 1
  rw [show j + 1 - i = (j - i) + 1 by omega, List.take_succ_eq_append_getElem (by simp; omega)]
  simp [show i + (j - i) = j by omega]
theorem lines_end {l : List UInt8} {i : Nat} (hi : i < l.length) : P.lines ((l.drop i).take (l.length - i)) (l.drop l.length) = [((l.drop i).take (l.length - i), true)] := by
  rw [List.drop_length, P.lines, if_neg]
  intro e
  have := congrArg List.length e
  simp at this; omega

set_option maxHeartbeats 400000 in
set_option maxRecDepth 100000 in
theorem lines_anyB (bk off cap : Nat) (l : List UInt8) (w : World) (h : BytesAt w bk off l) (hbk : bk < w.heap.size) (hn : l.length ≤ cap) (hl : l.length ≤ 4000000000) :
    Calls Tryd.prog 40 #[.slice (some ⟨bk, off, none⟩) l.length cap] w fun e w' => ∃ v, e = .returned v ∧ w'.ownsRow w.heap.size 39 2 v (P.lines [] l).length (lineCells (P.lines [] l)) ∧ Below w.heap.size w w' := by
  obtain ⟨i0, hi0, hz0, hz1, hz2⟩ := info_parts infoLine
  have H := Lib.hid h
  clear h
  go_enter Tryd.func40, Tryd.ntmps40
  go_wp2_with fail
  go_step3
  go_wp2_with fail
  go_step3
  go_wp2_with fail
  go_loopg [3, 4] l.length (fun k v fr wr => ∃ (i : Nat) (xs : List (List UInt8 × Bool)), i ≤ l.length ∧ fr = .int .i64 i ∧ l.length - i ≤ k ∧ xs.length ≤ i ∧ wr.ownsRow w.heap.size 39 2 v xs.length (lineCells xs) ∧ Below w.heap.size w wr ∧ Hid (P.lines [] l = xs ++ P.lines [] (l.drop i)))
  case atStart => exact ⟨0, [], Nat.zero_le _, rfl, by omega, by simp, ⟨by simp [lineCells], .inl ⟨rfl, rfl⟩⟩, Below.refl _ _, Lib.hid rfl⟩
  case round =>
    obtain ⟨i, xs, hi, rfl, hk, hxs, hown, hbel, HR⟩ := hrel
    obtain ⟨wo, rfl⟩ : ∃ wo : World, wo = wr := ⟨_, rfl⟩
    have HB := Lib.hid (H.out.below hbel hbk)
    go_wp2_with fail
    go_loop [3, 4, 5] (fun a b e => ∃ j : Nat, u3 = a ∧ b = .int .i64 i ∧ i ≤ j ∧ j ≤ l.length ∧ e = .int .i64 j ∧ Hid (P.lines [] (l.drop i) = P.lines ((l.drop i).take (j - i)) (l.drop j))) (fun _ _ e => l.length - (intOf e).toNat)
    case atStart => exact ⟨i, rfl, rfl, Nat.le_refl _, hi, rfl, Lib.hid (by simp)⟩
    case round =>
      obtain ⟨j, rfl, rfl, hij, hj, rfl, HJ⟩ := hrel
      by_cases hlt : j < l.length
      · have hne : ((j : Int) == (l.length : Int)) = false := beq_eq_false_iff_ne.2 (by omega)
        have hcell := HB.out j hlt
        by_cases h10 : (l[j].toNat : Int) = 10
        · have hb10 : ((l[j].toNat : Int) == 10) = true := by simp [h10]
          have Hat := Lib.hid (lines_at (i := i) hlt (by omega))
          clear h10
          go_wp2_with fail
          with_reducible refine (cut_any bk off cap i j l _ HB.out hij hj hn).mono ?_
          rintro e w' ⟨rfl, rfl⟩
          generalize (l.drop i).take (j - i) = m at *
          go_wp2_with (at_builtin; refine wpList_append_own _ rfl (.tmp 18) (.tmp 24) 61 rfl w.heap.size 39 i0 _ 2 24 Tryd.underlying61 hi0 hz0 hz1 hz2 rfl (by decide) _ xs.length (lineCells xs) rfl (hown.alloc _) ⟨wo.heap.size, 0, none⟩ 1 1 [.string ⟨m.toArray⟩, .bool false] rfl rfl ?c1 ?c2 ?c3 ?c4 ?c5 ?_)
          case c1 => exact cell_two_new _ _ _ _
          case c2 => intro u hu; simp at hu; rcases hu with rfl | rfl <;> rfl
          case c3 => simp only [maxLen]; omega
          case c4 => omega
          case c5 => have := hbel.size; simp; omega
          intro v' w1 hown1 hg1 _
          have hbel1 : Below w.heap.size w w1 := (hbel.alloc hbel.size _).grown hg1 (by have := hbel.size; simp; omega) (own_base hown)
          rw [← lineCells_snoc] at hown1
          have hl1 : (xs ++ [(m, false)]).length = xs.length + 1 := by simp
          rw [← hl1] at hown1
          have HR1 := Lib.hid (HR.out.trans (by rw [HJ.out, Hat.out] : xs ++ P.lines [] (l.drop i) = xs ++ (m, false) :: P.lines [] (l.drop (j + 1))))
          clear hl1 hown HB hcell
          go_wp2_with fail
          go_roundg (l.length - (j + 1))
          case rel => exact ⟨j + 1, xs ++ [(m, false)], by omega, by go_num, Nat.le_refl _, by simp; omega, hown1, hbel1, Lib.hid (by rw [HR1.out]; simp)⟩
          case measure => omega
        · have hb10 : ((l[j].toNat : Int) == 10) = false := by simp [h10]
          have Hon := Lib.hid (lines_on hij hlt (fun e => h10 (by omega)))
          clear h10
          go_wp2_with fail
          go_round
          case rel => exact ⟨j + 1, rfl, rfl, by omega, by omega, by go_num, Lib.hid (HJ.out.trans Hon.out)⟩
          case measure => simp [intOf]; omega
      · have hne : ((j : Int) == (l.length : Int)) = true := beq_iff_eq.2 (by omega)
        have HE := Lib.hid (show P.lines [] (l.drop i) = P.lines ((l.drop i).take (l.length - i)) (l.drop l.length) by
          have := HJ.out
          rwa [show j = l.length by omega] at this)
        by_cases hil : i < l.length
        · have HL := Lib.hid (lines_end hil)
          go_wp2_with fail
          with_reducible refine (cut_any bk off cap i l.length l _ HB.out hi (Nat.le_refl _) hn).mono ?_
          rintro e w' ⟨rfl, rfl⟩
          generalize (l.drop i).take (l.length - i) = m at *
          have hne' : ((l.length : Int) == 0) = false := beq_eq_false_iff_ne.2 (by omega)
          go_wp2_with (at_builtin; refine wpList_append_own _ rfl (.tmp 32) (.tmp 39) 61 rfl w.heap.size 39 i0 _ 2 24 Tryd.underlying61 hi0 hz0 hz1 hz2 rfl (by decide) _ xs.length (lineCells xs) rfl (hown.alloc _) ⟨wo.heap.size, 0, none⟩ 1 1 [.string ⟨m.toArray⟩, .bool true] rfl rfl ?c1 ?c2 ?c3 ?c4 ?c5 ?_)
          case c1 => exact cell_two_new _ _ _ _
          case c2 => intro u hu; simp at hu; rcases hu with rfl | rfl <;> rfl
          case c3 => simp only [maxLen]; omega
          case c4 => omega
          case c5 => have := hbel.size; simp; omega
          intro v' w1 hown1 hg1 _
          have hbel1 : Below w.heap.size w w1 := (hbel.alloc hbel.size _).grown hg1 (by have := hbel.size; simp; omega) (own_base hown)
          rw [← lineCells_snoc] at hown1
          have hl1 : (xs ++ [(m, true)]).length = xs.length + 1 := by simp
          rw [← hl1] at hown1
          have HR1 := Lib.hid (HR.out.trans (by rw [HE.out, HL.out] : xs ++ P.lines [] (l.drop i) = xs ++ [(m, true)]))
          clear hl1 hown HB
          go_wp2_with fail
          rw [Exit.noGoto_ret]
          go_ret
          exact ⟨_, rfl, by rw [HR1.out]; exact hown1, hbel1⟩
        · have HR1 := Lib.hid (show P.lines [] l = xs by
            have e1 := HR.out
            rw [show i = l.length by omega, List.drop_length] at e1
            simpa [P.lines] using e1)
          go_wp2_with fail
          go_ret
          exact ⟨_, rfl, by rw [HR1.out]; exact hown, hbel⟩

theorem lines_any (bk off cap : Nat) (l : List UInt8) (w : World) (h : BytesAt w bk off l) (hbk : bk < w.heap.size) (hn : l.length ≤ cap) (hl : l.length ≤ 4194304) :
    Calls Tryd.prog 40 #[.slice (some ⟨bk, off, none⟩) l.length cap] w fun e w' => ∃ v, e = .returned v ∧ w'.ownsRow w.heap.size 39 2 v (P.lines [] l).length (lineCells (P.lines [] l)) ∧ Below w.heap.size w w' := lines_anyB bk off cap l w h hbk hn (by omega)
/-- No bytes: no lines, whatever the slice's address. -/
theorem lines_none (A : Option Addr) (cap : Nat) (w : World) :
    Calls Tryd.prog 40 #[.slice A 0 cap] w fun e w' => e = .returned (.slice none 0 0) ∧ w = w' := by
  go_enter Tryd.func40, Tryd.ntmps40
  go_wp2_with fail
  go_step3
  go_wp2_with fail
  go_step3
  go_wp2_with fail
  refine wp_loop_rounds 1 ?_
  rw [rounds_succ]
  go_wp2_with fail
  refine wp_loop_rounds 1 ?_
  rw [rounds_succ]
  go_wp2_with fail
  first | go_ret | (rw [Exit.noGoto_ret]; go_ret)
  exact ⟨rfl, rfl⟩

/-- The cells of texts. -/
def strCells (xs : List (List UInt8)) : List Value := xs.map fun x => .string ⟨x.toArray⟩
theorem strCells_snoc (xs : List (List UInt8)) (t : List UInt8) : strCells (xs ++ [t]) = strCells xs ++ [.string ⟨t.toArray⟩] := by simp [strCells]

theorem words_at {l : List UInt8} {i j : Nat} (hj : j < l.length) (h : l[j].toNat = 32) :
    P.words ((l.drop i).take (j - i)) (l.drop j) = (l.drop i).take (j - i) :: P.words [] (l.drop (j + 1)) := by
  rw [List.drop_eq_getElem_cons hj, P.words, if_pos (UInt8.toNat_inj.1 h)]
theorem words_on {l : List UInt8} {i j : Nat} (hij : i ≤ j) (hj : j < l.length) (h : ¬ l[j].toNat = 32) :
    P.words ((l.drop i).take (j - i)) (l.drop j) = P.words ((l.drop i).take (j + 1 - i)) (l.drop (j + 1)) := by
  rw [List.drop_eq_getElem_cons hj, P.words, if_neg (fun e => h (by rw [e]; rfl))]
  congr 1
  rw [show j + 1 - i = (j - i) + 1 by omega, List.take_succ_eq_append_getElem (by simp; omega)]
  simp [show i + (j - i) = j by omega]
theorem words_end {l : List UInt8} {i : Nat} : P.words ((l.drop i).take (l.length - i)) (l.drop l.length) = [(l.drop i).take (l.length - i)] := by
  rw [List.drop_length, P.words]

/-- A text as bytes: a new row that holds them. -/
theorem conv_str (s : ByteArray) (w : World) : ∃ (cap : Nat) (w1 : World), (convert 9 43 (.string s)).run Tryd.prog w = .ok (.slice (some ⟨w.heap.size, 0, none⟩) s.size cap) w1 ∧ Below w.heap.size w w1 ∧ w.heap.size < w1.heap.size ∧ s.size ≤ cap ∧ BytesAt w1 w.heap.size 0 s.data.toList := by
  refine ⟨_, _, Lib.run_convert_string_bytes w 9 43 5 s Tryd.underlying9 Tryd.underlying43 Tryd.underlying5, ⟨rfl, rfl, rfl, ?_, fun k hk => Lib.bytesWorld_at_old w _ s k hk⟩, ?_, grownCap_ge _ _ _ _, ?_⟩
  · rw [Lib.bytesWorld_size]; omega
  · rw [Lib.bytesWorld_size]; omega
  · intro j hj
    have hj' : j < s.size := by rw [Lib.size_eq]; exact hj
    rw [Nat.zero_add, Lib.bytesWorld_cell w _ s j hj']
    simp [List.getElem?_eq_getElem hj]

end Go.Proofs.YtlggoplffhdkhaaDoor.T

namespace Go.Proofs.YtlggoplffhdkhaaDoor.P

/-- The bytes of lines. -/
def join : List (List UInt8 × Bool) → List UInt8
  | [] => []
  | (t, b) :: r => t ++ (if !b || !r.isEmpty then [10] else []) ++ join r
/-- May lines be those of bytes? -/
def right : List (List UInt8 × Bool) → Bool
  | [] => true
  | (t, b) :: r => !(t.contains 10) && !(b && (!r.isEmpty || t.isEmpty)) && right r

theorem join_lines : ∀ (l cur : List UInt8), join (lines cur l) = cur ++ l
  | [], cur => by
    rw [lines]
    split
    · next h => simp [h, join]
    · simp [join]
  | c :: r, cur => by
    rw [lines]
    split
    · next h => rw [join, join_lines r [], h]; simp
    · rw [join_lines r (cur ++ [c])]; simp
theorem right_lines : ∀ (l cur : List UInt8), (10 : UInt8) ∉ cur → right (lines cur l) = true
  | [], cur, h => by
    rw [lines]
    split
    · rfl
    · next hc => simp [right, h, hc]
  | c :: r, cur, h => by
    rw [lines]
    split
    · rw [right, right_lines r [] (by simp)]; simp [h]
    · next hc => exact right_lines r (cur ++ [c]) (by simp [h]; exact fun e => hc e.symm)
theorem lines_text (r : List UInt8) : ∀ (t cur : List UInt8), (10 : UInt8) ∉ t → lines cur (t ++ 10 :: r) = (cur ++ t, false) :: lines [] r
  | [], cur, _ => by simp [lines]
  | c :: t, cur, h => by
    have hc : ¬ c = 10 := fun e => h (by simp [e])
    rw [List.cons_append, lines, if_neg hc, lines_text r t _ (fun e => h (by simp [e]))]; simp
theorem lines_open : ∀ (t cur : List UInt8), (10 : UInt8) ∉ t → lines cur t = if cur ++ t = [] then [] else [(cur ++ t, true)]
  | [], cur, _ => by simp [lines]
  | c :: t, cur, h => by
    have hc : ¬ c = 10 := fun e => h (by simp [e])
    rw [lines, if_neg hc, lines_open t _ (fun e => h (by simp [e]))]; simp
theorem lines_join : ∀ (xs : List (List UInt8 × Bool)), right xs = true → lines [] (join xs) = xs
  | [], _ => rfl
  | (t, b) :: r, h => by
    rw [right, Bool.and_eq_true, Bool.and_eq_true] at h
    obtain ⟨⟨h1, h2⟩, h3⟩ := h
    have ht : (10 : UInt8) ∉ t := by simpa using h1
    have ih := lines_join r h3
    cases b with
    | false =>
      rw [join, show t ++ (if !false || !r.isEmpty then [10] else []) ++ join r = t ++ 10 :: join r by simp, lines_text _ _ _ ht, ih]; rfl
    | true =>
      simp at h2
      obtain ⟨h2, h4⟩ := h2
      subst h2
      rw [join, show t ++ (if !true || !([] : List (List UInt8 × Bool)).isEmpty then [10] else []) ++ join [] = t by simp [join], lines_open _ _ ht, if_neg (by simpa using h4)]; rfl
/-- How many bytes lines make at the most. -/
def bulk : List (List UInt8 × Bool) → Nat
  | [] => 0
  | (t, _) :: r => t.length + 1 + bulk r
theorem join_length : ∀ xs : List (List UInt8 × Bool), (join xs).length ≤ bulk xs
  | [] => Nat.le_refl _
  | (t, b) :: r => by
    have := join_length r
    rw [join, bulk]
    simp only [List.length_append]
    split <;> simp <;> omega
theorem length_bulk : ∀ xs : List (List UInt8 × Bool), xs.length ≤ bulk xs
  | [] => Nat.le_refl _
  | (t, b) :: r => by have := length_bulk r; rw [bulk, List.length_cons]; omega
theorem lines_bulk : ∀ (l cur : List UInt8), bulk (lines cur l) ≤ cur.length + l.length + 1
  | [], cur => by
    rw [lines]
    split
    · simp [bulk]
    · simp [bulk]
  | c :: r, cur => by
    rw [lines]
    split
    · rw [bulk]
      match r with
      | [] => simp [lines, bulk]
      | d :: r' => have := lines_bulk (d :: r') []; simp at this ⊢; omega
    · have := lines_bulk r (cur ++ [c]); simp at this ⊢; omega
end Go.Proofs.YtlggoplffhdkhaaDoor.P

namespace Go.Proofs.YtlggoplffhdkhaaDoor.T
open Go.RowKit

/-- Lines in memory: two cells each, from an address on. -/
def LinesAt (w : World) (bk off : Nat) (xs : List (List UInt8 × Bool)) : Prop :=
  ∀ j (h : j < xs.length), w.cell? ⟨bk, off + j * 2, none⟩ = some (.string ⟨xs[j].1.toArray⟩) ∧ w.cell? ⟨bk, off + j * 2 + 1, none⟩ = some (.bool xs[j].2)
/-- A slice's lines, wherever it lies. -/
def LinesIn (w : World) (A : Option Addr) (xs : List (List UInt8 × Bool)) : Prop :=
  0 < xs.length → ∃ bk off, A = some ⟨bk, off, none⟩ ∧ bk < w.heap.size ∧ LinesAt w bk off xs
theorem LinesAt.below {w w' : World} {bk off B : Nat} {xs : List (List UInt8 × Bool)} (h : LinesAt w bk off xs) (hb : Below B w w') (hB : bk < B) : LinesAt w' bk off xs :=
  fun j hj => ⟨(hb.cell (p := ⟨bk, off + j * 2, none⟩) hB).trans (h j hj).1, (hb.cell (p := ⟨bk, off + j * 2 + 1, none⟩) hB).trans (h j hj).2⟩
theorem LinesIn.below {w w' : World} {A : Option Addr} {xs : List (List UInt8 × Bool)} (h : LinesIn w A xs) (hb : Below w.heap.size w w') : LinesIn w' A xs := fun hp => by
  obtain ⟨bk, off, e, hlt, hl⟩ := h hp
  exact ⟨bk, off, e, Nat.lt_of_lt_of_le hlt hb.size, hl.below hb hlt⟩
theorem lineCells_at : ∀ (xs : List (List UInt8 × Bool)) (j : Nat) (h : j < xs.length), (lineCells xs)[j * 2]? = some (.string ⟨xs[j].1.toArray⟩) ∧ (lineCells xs)[j * 2 + 1]? = some (.bool xs[j].2)
  | x :: r, 0, _ => by simp [lineCells]
  | x :: r, j + 1, h => by
    have ih := lineCells_at r j (by simpa using h)
    have e : lineCells (x :: r) = .string ⟨x.1.toArray⟩ :: .bool x.2 :: lineCells r := by simp [lineCells]
    rw [e, show (j + 1) * 2 = j * 2 + 1 + 1 by omega]
    simpa using ih
theorem lines_of_own {w : World} {base : Nat} {v : Value} {xs : List (List UInt8 × Bool)} (h : w.ownsRow base 39 2 v xs.length (lineCells xs)) :
    ∃ A cap, v = .slice A xs.length cap ∧ xs.length ≤ cap ∧ LinesIn w A xs := by
  obtain ⟨A, cap, hv, hc, hA⟩ := own_form h
  refine ⟨A, cap, hv, hc, fun hp => ?_⟩
  obtain ⟨g, rfl, _, hlt, hcells⟩ := hA hp
  exact ⟨g, 0, rfl, hlt, fun j hj => ⟨by rw [Nat.zero_add]; exact hcells _ _ (lineCells_at xs j hj).1, by rw [Nat.zero_add]; exact hcells _ _ (lineCells_at xs j hj).2⟩⟩

theorem drop_line {xs : List (List UInt8 × Bool)} {k : Nat} (hk : k < xs.length) : xs.drop k = (xs[k].1, xs[k].2) :: xs.drop (k + 1) := List.drop_eq_getElem_cons hk
theorem text_len {xs : List (List UInt8 × Bool)} {k : Nat} (hk : k < xs.length) : xs[k].1.length + 1 ≤ P.bulk xs := by
  induction xs generalizing k with
  | nil => simp at hk
  | cons x r ih =>
    obtain ⟨t, b⟩ := x
    cases k with
    | zero => simp [P.bulk]
    | succ k => have := ih (k := k) (by simpa using hk); rw [P.bulk]; simp; omega
end Go.Proofs.YtlggoplffhdkhaaDoor.T

namespace Go.Proofs.YtlggoplffhdkhaaDoor.T
open Go.RowKit

def byteCells (l : List UInt8) : List Value := l.map fun c => .int .u8 (c.toNat : Int)
theorem byteCells_append (l r : List UInt8) : byteCells (l ++ r) = byteCells l ++ byteCells r := by simp [byteCells]
theorem byteCells_str (t : List UInt8) : Lib.strCells ⟨t.toArray⟩ = byteCells t := by simp [Lib.strCells, byteCells]
theorem infoByte : (Tryd.prog.info? 5).map (fun i => (i.zero, i.size, i.bytes)) = some (some (.int .u8 0), 1, 1) := by kernel_rfl
theorem own_lt {w : World} {base : Nat} {e : TypeId} {size n : Nat} {v : Value} {xs : List Value} (h : w.ownsRow base e size v n xs) : ∀ k, v.ownBlock = some k → k < w.heap.size := by
  intro k hk
  rcases h.2 with ⟨rfl, _⟩ | ⟨g, cap, cur, rfl, hg, hh, _⟩
  · simp [Value.ownBlock] at hk
  · simp [Value.ownBlock] at hk
    subst hk
    rcases Nat.lt_or_ge g w.heap.size with hlt | hge
    · exact hlt
    · rw [Array.getElem?_eq_none hge] at hh; cases hh
theorem box_kept {wr w1 : World} {base : Nat} {e : TypeId} {size n : Nat} {v : Value} {xs : List Value} {a b : Value} {T : TypeId} (h : wr.ownsRow base e size v n xs) (hg : (wr.alloc (.cells #[a, b] T)).grownBy w1 v.ownBlock) :
    w1.cell? ⟨wr.heap.size, 0, none⟩ = some a ∧ w1.cell? ⟨wr.heap.size, 1, none⟩ = some b := by
  have hne : some wr.heap.size ≠ v.ownBlock := fun he => by have := own_lt h _ he.symm; omega
  have hb := heap_alloc_new wr (.cells #[a, b] T)
  exact ⟨hg.cell (a := ⟨wr.heap.size, 0, none⟩) (cell_of_row _ _ 0 _ _ _ hb) hne, hg.cell (a := ⟨wr.heap.size, 1, none⟩) (cell_of_row _ _ 1 _ _ _ hb) hne⟩
theorem join_step {xs : List (List UInt8 × Bool)} {k : Nat} (hk : k < xs.length) : P.join (xs.drop k) = xs[k].1 ++ (if !xs[k].2 || decide (k + 1 < xs.length) then [10] else []) ++ P.join (xs.drop (k + 1)) := by
  rw [drop_line hk, P.join]
  congr 3
  cases h : (xs.drop (k + 1)).isEmpty with
  | true =>
    have := List.isEmpty_iff.1 h
    have := congrArg List.length this
    simp at this
    rw [decide_eq_false (by omega)]; rfl
  | false =>
    rw [decide_eq_true]; rfl
    have : ¬ xs.drop (k + 1) = [] := fun e => by rw [e] at h; cases h
    rcases Nat.lt_or_ge (k + 1) xs.length with h' | h'
    · exact h'
    · exact absurd (List.drop_eq_nil_of_le h') this

set_option maxHeartbeats 1000000 in
set_option maxRecDepth 100000 in
theorem join_any (A : Option Addr) (cap : Nat) (xs : List (List UInt8 × Bool)) (w : World) (hb : P.bulk xs ≤ 70368744177664) (hA : LinesIn w A xs) :
    Calls Tryd.prog 35 #[.slice A xs.length cap] w fun e w' => ∃ v, e = .returned v ∧ w'.ownsRow w.heap.size 5 1 v (P.join xs).length (byteCells (P.join xs)) ∧ Below w.heap.size w w' := by
  obtain ⟨i0, hi0, hz0, hz1, hz2⟩ := info_parts infoByte
  have hlen := P.length_bulk xs
  have hjl := P.join_length xs
  have HA := Lib.hid hA
  clear hA
  go_enter Tryd.func35, Tryd.ntmps35
  go_wp2_with fail
  go_loopg [3, 8] xs.length (fun n v i wr => ∃ (k : Nat) (pre : List UInt8), k ≤ xs.length ∧ i = .int .i64 k ∧ xs.length - k ≤ n ∧ wr.ownsRow w.heap.size 5 1 v pre.length (byteCells pre) ∧ Hid (P.join xs = pre ++ P.join (xs.drop k)) ∧ Below w.heap.size w wr)
  case atStart => exact ⟨0, [], Nat.zero_le _, rfl, by omega, ⟨by simp [byteCells], .inl ⟨rfl, rfl⟩⟩, Lib.hid rfl, Below.refl _ _⟩
  case round =>
    obtain ⟨k, pre, hk, rfl, hn, hown, HR, hbel⟩ := hrel
    by_cases hlt : k < xs.length
    · obtain ⟨bk, off, hAe, hbk, hL⟩ := HA.out (by omega)
      subst hAe
      obtain ⟨c0, c1⟩ := hL.below hbel hbk k hlt
      have hbkr : bk < wr.heap.size := Nat.lt_of_lt_of_le hbk hbel.size
      have h0k : (0 : Int) ≤ (k : Int) := Int.natCast_nonneg _
      have h1k : (k : Int) < (xs.length : Int) := by omega
      have HS := Lib.hid (HR.out.trans (congrArg (pre ++ ·) (join_step hlt)))
      have hpl : pre.length + xs[k].1.length + 1 ≤ 70368744177665 := by
        have h1 := congrArg List.length HS.out
        simp only [List.length_append] at h1
        omega
      clear hL HR
      generalize xs[k].2 = b at *
      generalize xs[k].1 = t at *
      have hsz : (⟨t.toArray⟩ : ByteArray).size = t.length := by simp [ByteArray.size]
      have hw : IntKind.i64.wrap ((xs.length : Int) - 1) = (xs.length : Int) - 1 := IntWalk.i64_in _ (by omega)
      have hbel1 := hbel.alloc hbel.size (.cells #[.string ⟨t.toArray⟩, .bool b] 39)
      cases b with
      | false =>
        have HS := Lib.hid (show P.join xs = pre ++ (t ++ [10] ++ P.join (xs.drop (k + 1))) from HS.out)
        go_wp2_with (at_builtin; refine Lib.wpList_append_own_string _ rfl (.tmp 13) (.tmp 15) 43 9 rfl w.heap.size 5 i0 Tryd.underlying43 Tryd.underlying9 hi0 hz0 hz1 hz2 _ pre.length (byteCells pre) rfl (hown.alloc _) ⟨t.toArray⟩ rfl ?c3 ?c4 ?c5 ?_)
        case c3 => (try simp only [hsz]); simp only [maxLen]; omega
        case c4 => (try simp only [hsz]); omega
        case c5 => have := hbel.size; simp; omega
        intro v' w1 hown1 hg1 _
        have hbel2 : Below w.heap.size w w1 := hbel1.grown hg1 (by have := hbel.size; simp; omega) (own_base hown)
        obtain ⟨q0, q1⟩ := box_kept hown hg1
        try simp only [hsz] at hown1
        rw [byteCells_str, ← byteCells_append, ← List.length_append] at hown1
        clear hown hg1 c0 c1 hsz
        go_wp2_with (at_builtin; refine wpList_append_own _ rfl (.tmp 27) (.tmp 28) 43 rfl w.heap.size 5 i0 _ 1 1 Tryd.underlying43 hi0 hz0 hz1 hz2 rfl (by decide) _ (pre ++ t).length (byteCells (pre ++ t)) rfl (hown1.alloc _) ⟨w1.heap.size, 0, none⟩ 1 1 [.int .u8 10] rfl rfl ?d1 ?d2 ?d3 ?d4 ?d5 ?_)
        case d1 => exact cell_one_new _ _ _
        case d2 => intro u hu; simp at hu; rcases hu with rfl; rfl
        case d3 => rw [List.length_append]; simp only [maxLen]; omega
        case d4 => rw [List.length_append]; omega
        case d5 => have := hbel2.size; simp; omega
        intro v'' w2 hown2 hg2 _
        have hbel3 : Below w.heap.size w w2 := (hbel2.alloc hbel2.size _).grown hg2 (by have := hbel2.size; simp; omega) (own_base hown1)
        have hown3 : w2.ownsRow w.heap.size 5 1 v'' (pre ++ t ++ [10]).length (byteCells (pre ++ t ++ [10])) := by
          have e : (pre ++ t ++ [10]).length = pre.length + t.length + 1 := by rw [List.length_append, List.length_append]; rfl
          rw [byteCells_append (pre ++ t), e]; exact hown2
        clear hown1 hown2 hg2 q0 q1
        go_wp2_with fail
        go_roundg (xs.length - (k + 1))
        case measure => omega
        case rel => exact ⟨k + 1, pre ++ t ++ [10], by omega, by go_num, Nat.le_refl _, hown3, Lib.hid (HS.out.trans (by simp)), hbel3⟩
      | true =>
        by_cases hk1 : k + 1 < xs.length
        · have hk2 : (k : Int) < (xs.length : Int) - 1 := by omega
          have HS := Lib.hid (show P.join xs = pre ++ (t ++ [10] ++ P.join (xs.drop (k + 1))) by rw [HS.out, decide_eq_true hk1]; rfl)
          go_wp2_with (at_builtin; refine Lib.wpList_append_own_string _ rfl (.tmp 13) (.tmp 15) 43 9 rfl w.heap.size 5 i0 Tryd.underlying43 Tryd.underlying9 hi0 hz0 hz1 hz2 _ pre.length (byteCells pre) rfl (hown.alloc _) ⟨t.toArray⟩ rfl ?c3 ?c4 ?c5 ?_)
          case c3 => (try simp only [hsz]); simp only [maxLen]; omega
          case c4 => (try simp only [hsz]); omega
          case c5 => have := hbel.size; simp; omega
          intro v' w1 hown1 hg1 _
          have hbel2 : Below w.heap.size w w1 := hbel1.grown hg1 (by have := hbel.size; simp; omega) (own_base hown)
          obtain ⟨q0, q1⟩ := box_kept hown hg1
          try simp only [hsz] at hown1
          rw [byteCells_str, ← byteCells_append, ← List.length_append] at hown1
          clear hown hg1 c0 c1 hsz
          go_wp2_with (at_builtin; refine wpList_append_own _ rfl (.tmp 27) (.tmp 28) 43 rfl w.heap.size 5 i0 _ 1 1 Tryd.underlying43 hi0 hz0 hz1 hz2 rfl (by decide) _ (pre ++ t).length (byteCells (pre ++ t)) rfl (hown1.alloc _) ⟨w1.heap.size, 0, none⟩ 1 1 [.int .u8 10] rfl rfl ?d1 ?d2 ?d3 ?d4 ?d5 ?_)
          case d1 => exact cell_one_new _ _ _
          case d2 => intro u hu; simp at hu; rcases hu with rfl; rfl
          case d3 => rw [List.length_append]; simp only [maxLen]; omega
          case d4 => rw [List.length_append]; omega
          case d5 => have := hbel2.size; simp; omega
          intro v'' w2 hown2 hg2 _
          have hbel3 : Below w.heap.size w w2 := (hbel2.alloc hbel2.size _).grown hg2 (by have := hbel2.size; simp; omega) (own_base hown1)
          have hown3 : w2.ownsRow w.heap.size 5 1 v'' (pre ++ t ++ [10]).length (byteCells (pre ++ t ++ [10])) := by
            have e : (pre ++ t ++ [10]).length = pre.length + t.length + 1 := by rw [List.length_append, List.length_append]; rfl
            rw [byteCells_append (pre ++ t), e]; exact hown2
          clear hown1 hown2 hg2 q0 q1
          go_wp2_with fail
          go_roundg (xs.length - (k + 1))
          case measure => omega
          case rel => exact ⟨k + 1, pre ++ t ++ [10], by omega, by go_num, Nat.le_refl _, hown3, Lib.hid (HS.out.trans (by simp)), hbel3⟩
        · have hk2 : ¬ (k : Int) < (xs.length : Int) - 1 := by omega
          have HS := Lib.hid (show P.join xs = pre ++ (t ++ [] ++ P.join (xs.drop (k + 1))) by rw [HS.out, decide_eq_false hk1]; rfl)
          go_wp2_with (at_builtin; refine Lib.wpList_append_own_string _ rfl (.tmp 13) (.tmp 15) 43 9 rfl w.heap.size 5 i0 Tryd.underlying43 Tryd.underlying9 hi0 hz0 hz1 hz2 _ pre.length (byteCells pre) rfl (hown.alloc _) ⟨t.toArray⟩ rfl ?c3 ?c4 ?c5 ?_)
          case c3 => (try simp only [hsz]); simp only [maxLen]; omega
          case c4 => (try simp only [hsz]); omega
          case c5 => have := hbel.size; simp; omega
          intro v' w1 hown1 hg1 _
          have hbel2 : Below w.heap.size w w1 := hbel1.grown hg1 (by have := hbel.size; simp; omega) (own_base hown)
          obtain ⟨q0, q1⟩ := box_kept hown hg1
          try simp only [hsz] at hown1
          rw [byteCells_str, ← byteCells_append, ← List.length_append] at hown1
          clear hown hg1 c0 c1 hsz
          go_wp2_with fail
          clear q0 q1
          go_roundg (xs.length - (k + 1))
          case measure => omega
          case rel => exact ⟨k + 1, pre ++ t, by omega, by go_num, Nat.le_refl _, hown1, Lib.hid (HS.out.trans (by simp)), hbel2⟩
    · obtain rfl : k = xs.length := by omega
      have HN := Lib.hid (HR.out.trans (by rw [List.drop_length, P.join, List.append_nil] : _ = pre))
      go_wp2_with fail
      go_ret
      exact ⟨_, rfl, by rw [HN.out]; exact hown, hbel⟩
end Go.Proofs.YtlggoplffhdkhaaDoor.T

namespace Go.Proofs.YtlggoplffhdkhaaDoor.T
open Go.RowKit

/-- A slice's bytes, wherever it lies. -/
def BytesIn (w : World) (A : Option Addr) (l : List UInt8) : Prop :=
  0 < l.length → ∃ bk off, A = some ⟨bk, off, none⟩ ∧ bk < w.heap.size ∧ BytesAt w bk off l
theorem BytesIn.below {w w' : World} {A : Option Addr} {l : List UInt8} (h : BytesIn w A l) (hb : Below w.heap.size w w') : BytesIn w' A l := fun hp => by
  obtain ⟨bk, off, e, hlt, hl⟩ := h hp
  exact ⟨bk, off, e, Nat.lt_of_lt_of_le hlt hb.size, hl.below hb hlt⟩
theorem bytes_of_own {w : World} {base : Nat} {v : Value} {l : List UInt8} (h : w.ownsRow base 5 1 v l.length (byteCells l)) :
    ∃ A cap, v = .slice A l.length cap ∧ l.length ≤ cap ∧ BytesIn w A l := by
  obtain ⟨A, cap, hv, hc, hA⟩ := own_form h
  refine ⟨A, cap, hv, hc, fun hp => ?_⟩
  obtain ⟨g, rfl, _, hlt, hcells⟩ := hA hp
  exact ⟨g, 0, rfl, hlt, fun j hj => by rw [Nat.zero_add]; exact hcells _ _ (by simp [byteCells, List.getElem?_eq_getElem hj])⟩
theorem conv_none (w : World) (A : Option Addr) (cap : Nat) :
    (convert 43 9 (.slice A 0 cap)).run Tryd.prog w = .ok (.string ⟨#[]⟩) w := by
  rw [run_convert_bytes_string w 43 9 5 _ 0 cap Tryd.underlying43 Tryd.underlying5 Tryd.underlying9]
  cases A <;> simp [Conv.bytesToString, loadCells]
  all_goals rfl
theorem conv_in {w : World} {A : Option Addr} {l : List UInt8} (cap : Nat) (h : BytesIn w A l) :
    (convert 43 9 (.slice A l.length cap)).run Tryd.prog w = .ok (.string ⟨l.toArray⟩) w := by
  by_cases hp : 0 < l.length
  · obtain ⟨bk, off, rfl, _, hb⟩ := h hp
    exact conv_bytes w bk off l.length cap l rfl hb
  · obtain rfl : l = [] := List.length_eq_zero_iff.1 (by omega)
    exact conv_none w A cap
theorem lines_inB (A : Option Addr) (cap : Nat) (l : List UInt8) (w : World) (h : BytesIn w A l) (hn : l.length ≤ cap) (hl : l.length ≤ 4000000000) :
    Calls Tryd.prog 40 #[.slice A l.length cap] w fun e w' => ∃ A' cap', e = .returned (.slice A' (P.lines [] l).length cap') ∧ LinesIn w' A' (P.lines [] l) ∧ Below w.heap.size w w' := by
  by_cases hp : 0 < l.length
  · obtain ⟨bk, off, rfl, hbk, hb⟩ := h hp
    refine (lines_anyB bk off cap l w hb hbk hn hl).mono ?_
    rintro e w' ⟨v, rfl, hown, hbel⟩
    obtain ⟨A', cap', rfl, _, hA⟩ := lines_of_own hown
    exact ⟨A', cap', rfl, hA, hbel⟩
  · obtain rfl : l = [] := List.length_eq_zero_iff.1 (by omega)
    refine (lines_none A cap w).mono ?_
    rintro e w' ⟨rfl, rfl⟩
    exact ⟨none, 0, rfl, fun h => absurd h (by simp [P.lines]), Below.refl _ _⟩
theorem lines_in (A : Option Addr) (cap : Nat) (l : List UInt8) (w : World) (h : BytesIn w A l) (hn : l.length ≤ cap) (hl : l.length ≤ 4194304) :
    Calls Tryd.prog 40 #[.slice A l.length cap] w fun e w' => ∃ A' cap', e = .returned (.slice A' (P.lines [] l).length cap') ∧ LinesIn w' A' (P.lines [] l) ∧ Below w.heap.size w w' := lines_inB A cap l w h hn (by omega)
theorem join_in (A : Option Addr) (cap : Nat) (xs : List (List UInt8 × Bool)) (w : World) (hb : P.bulk xs ≤ 70368744177664) (hA : LinesIn w A xs) :
    Calls Tryd.prog 35 #[.slice A xs.length cap] w fun e w' => ∃ A' cap', e = .returned (.slice A' (P.join xs).length cap') ∧ (P.join xs).length ≤ cap' ∧ BytesIn w' A' (P.join xs) ∧ Below w.heap.size w w' := by
  refine (join_any A cap xs w hb hA).mono ?_
  rintro e w' ⟨v, rfl, hown, hbel⟩
  obtain ⟨A', cap', rfl, hc, hA⟩ := bytes_of_own hown
  exact ⟨A', cap', rfl, hc, hA, hbel⟩

section
variable {P : Program} {md : Region.Mode} {ops : Array Oper} {Q : Exit → Act → World → Prop} {S S' : World → Prop}
/-- On its way a region's walk may be asked for more behind each operation. -/
theorem wpAnyH_more (h : ∀ w, S' w → S w) : ∀ (fuel : Nat) (listed : Array Bool) (a : Act) (w : World), wpAnyH P md ops Q S' fuel listed a w → wpAnyH P md ops Q S fuel listed a w
  | 0, _, _, _, H => H
  | fuel + 1, _, _, _, H => ⟨H.1, fun i hi => wpOp_mono (fun a' w' h' => ⟨h _ h'.1, wpAnyH_more h fuel _ a' w' h'.2⟩) (H.2 i hi)⟩
end
/-- All that is there stays as it is. -/
def Keeps (w : World) : World → Prop := fun w' => Below w.heap.size w w'
theorem Keeps.b {a b : World} (h : Keeps a b) : Below a.heap.size a b := h
theorem keeps_drew (w : World) : Keeps w w.drew := (Below.refl _ _).drew
theorem Keeps.trans {a b c : World} (h : Keeps a b) (h' : Keeps b c) : Keeps a c := Below.trans h (Below.mono h' (Below.size h))
end Go.Proofs.YtlggoplffhdkhaaDoor.T

namespace Go.Proofs.YtlggoplffhdkhaaDoor.V
set_option linter.unusedVariables false
set_option linter.unusedSimpArgs false
open Go.RowKit
open T
open I (It Lb ItemsIn ItemsAt ItemsOk itCells itCells_snoc itCells_at items_cells items_own own_at own_below infoItem alloc1)

/-- A slice's numbers, wherever it lies. -/
def IntsIn (w : World) (A : Option Addr) (xs : List Int) : Prop :=
  0 < xs.length → ∃ bk off, A = some ⟨bk, off, none⟩ ∧ bk < w.heap.size ∧ L.IntsAt w bk off xs
theorem IntsIn.below {w w' : World} {A : Option Addr} {xs : List Int} (h : IntsIn w A xs) (hb : Below w.heap.size w w') : IntsIn w' A xs := fun hp => by
  obtain ⟨bk, off, e, hlt, hl⟩ := h hp
  exact ⟨bk, off, e, Nat.lt_of_lt_of_le hlt hb.size, hl.below hb hlt⟩
/-- The cells of numbers. -/
def numCells (xs : List Int) : List Value := xs.map fun n => .int .i64 n
theorem numCells_snoc (xs : List Int) (n : Int) : numCells (xs ++ [n]) = numCells xs ++ [.int .i64 n] := by simp [numCells]
theorem ints_own {w : World} {base : Nat} {A : Option Addr} {cap : Nat} {xs : List Int} (h : w.ownsRow base 3 1 (.slice A xs.length cap) xs.length (numCells xs)) : IntsIn w A xs := by
  intro hp
  obtain ⟨g, hA, _, hlt, hc⟩ := own_at h hp
  refine ⟨g, 0, hA, hlt, fun j hj => ?_⟩
  rw [Nat.zero_add]
  exact hc j _ (by simp [numCells, List.getElem?_eq_getElem hj])
theorem drawn_below (w : World) (q : Nat) : Below w.heap.size w (w.drewN q) := below_drewN (Below.refl _ _) q
theorem ext_to {α : Type} {xs ys : List α} (hl : xs.length = ys.length) (h : ∀ j (hj : j < xs.length) (hj' : j < ys.length), j < xs.length → xs[j] = ys[j]) : xs = ys := List.ext_getElem hl fun j hj hj' => h j hj hj' hj
theorem ext_no {α : Type} {xs ys : List α} {k : Nat} (hk : k < xs.length) (hk' : k < ys.length) (h : ¬ xs[k] = ys[k]) : ¬ xs = ys := fun e => h (by subst e; rfl)
theorem ext_step {α : Type} {xs ys : List α} {k : Nat} (hk : k < xs.length) (hk' : k < ys.length) (h : xs[k] = ys[k]) (H : ∀ j (hj : j < xs.length) (hj' : j < ys.length), j < k → xs[j] = ys[j]) : ∀ j (hj : j < xs.length) (hj' : j < ys.length), j < k + 1 → xs[j] = ys[j] := fun j hj hj' hjk => by
  by_cases e : j = k
  · subst e; exact h
  · exact H j hj hj' (by omega)

theorem it_ne {a0 a1 b0 b1 : Int} {a2 b2 : Nat} {a3 a5 b3 b5 : Bool} {a4 b4 : List UInt8} (h : ¬ (⟨a0, a1, a2, a3, a4, a5⟩ : It) = ⟨b0, b1, b2, b3, b4, b5⟩) :
    a0 ≠ b0 ∨ (a0 = b0 ∧ a1 ≠ b1) ∨ (a0 = b0 ∧ a1 = b1 ∧ (a2 : Int) ≠ (b2 : Int)) ∨ (a0 = b0 ∧ a1 = b1 ∧ a2 = b2 ∧ a3 ≠ b3) ∨ (a0 = b0 ∧ a1 = b1 ∧ a2 = b2 ∧ a3 = b3 ∧ (⟨a4.toArray⟩ : ByteArray).toList ≠ (⟨b4.toArray⟩ : ByteArray).toList) ∨ (a0 = b0 ∧ a1 = b1 ∧ a2 = b2 ∧ a3 = b3 ∧ (⟨a4.toArray⟩ : ByteArray) = ⟨b4.toArray⟩ ∧ a5 ≠ b5) := by
  by_cases h0 : a0 = b0
  · by_cases h1 : a1 = b1
    · by_cases h2 : a2 = b2
      · by_cases h3 : a3 = b3
        · by_cases h4 : a4 = b4
          · by_cases h5 : a5 = b5
            · exact absurd (by rw [h0, h1, h2, h3, h4, h5]) h
            · exact .inr (.inr (.inr (.inr (.inr ⟨h0, h1, h2, h3, by rw [h4], h5⟩))))
          · refine .inr (.inr (.inr (.inr (.inl ⟨h0, h1, h2, h3, fun e => h4 ?_⟩))))
            simpa [Lib.toList_data] using e
        · exact .inr (.inr (.inr (.inl ⟨h0, h1, h2, h3⟩)))
      · exact .inr (.inr (.inl ⟨h0, h1, by omega⟩))
    · exact .inr (.inl ⟨h0, h1⟩)
  · exact .inl h0

end Go.Proofs.YtlggoplffhdkhaaDoor.V
