/-
  The contract of label's Of.
-/
import Derived.Test.YtbilhdfoajahkaaDoorLabelD
namespace Go.Proofs.YtbilhdfoajahkaaDoor.L
open Go.RowKit
open T

/-- The categories of a list of numbers, beside those that are there; none if one is no category. -/
def ofGo : List Int → Nat → Option Nat
  | [], c => some c
  | x :: r, c => if x < 0 ∨ 63 < x then none else ofGo r (c ||| 2 ^ x.toNat)
def ofAll (l : Int) (xs : List Int) : Option Nat := if rightB l then ofGo xs 0 else none
def ofVal (l : Int) (o : Option Nat) : Value := match o with
  | some c => .tuple #[lab l c, .int .i64 0]
  | none => .tuple #[lab 0 0, .int .i64 2]
theorem ofVal_none (l : Int) : ofVal l none = .tuple #[lab 0 0, .int .i64 2] := rfl
theorem ofVal_some (l : Int) (c : Nat) : ofVal l (some c) = .tuple #[lab l c, .int .i64 0] := rfl

/-- A row of numbers in memory. -/
def IntsAt (w : World) (bk off : Nat) (xs : List Int) : Prop := ∀ j (h : j < xs.length), w.cell? ⟨bk, off + j, none⟩ = some (.int .i64 xs[j])
theorem IntsAt.below {w w' : World} {bk off B : Nat} {xs : List Int} (h : IntsAt w bk off xs) (hb : Below B w w') (hB : bk < B) : IntsAt w' bk off xs :=
  fun j hj => (hb.cell (p := ⟨bk, off + j, none⟩) hB).trans (h j hj)

theorem of_bad {xs : List Int} {k c : Nat} (hk : k < xs.length) (h : xs[k] < 0 ∨ 63 < xs[k]) : ofGo (xs.drop k) c = none := by
  rw [List.drop_eq_getElem_cons hk, ofGo, if_pos h]
theorem of_on {xs : List Int} {k c : Nat} (hk : k < xs.length) (h : ¬ (xs[k] < 0 ∨ 63 < xs[k])) : ofGo (xs.drop k) c = ofGo (xs.drop (k + 1)) (c ||| 2 ^ xs[k].toNat) := by
  rw [List.drop_eq_getElem_cons hk, ofGo, if_neg h]
theorem of_end {xs : List Int} {c : Nat} : ofGo (xs.drop xs.length) c = some c := by rw [List.drop_length, ofGo]
theorem or_small {a b : Nat} (ha : a < 18446744073709551616) (hb : b < 18446744073709551616) : a ||| b < 18446744073709551616 := Nat.or_lt_two_pow (n := 64) ha hb

def Rt (l : Int) (b : Bool) : Prop := ∀ w : World, Calls Tryd.prog 32 #[.agg #[.int .i64 l, .int .u64 0]] w fun e w' => e = .returned (.bool b) ∧ Below w.heap.size w w'
theorem Rt.call {l : Int} {b : Bool} (h : Rt l b) (w : World) : Calls Tryd.prog 32 #[.agg #[.int .i64 l, .int .u64 0]] w fun e w' => e = .returned (.bool b) ∧ Below w.heap.size w w' := h w
theorem rt_is (l : Int) : Rt l (rightB l) := fun w => right_any l 0 w

/-- What the result's own block reads as. -/
theorem res_cells {wf : World} {g : Nat} {l : Int} {c : Int} (h : wf.heap[g]? = some (.cells #[.int .i64 l, .int .u64 c] 40 (0, 0))) :
    wf.cell? ⟨g, 0, none⟩ = some (.int .i64 l) ∧ wf.cell? ⟨g, 1, none⟩ = some (.int .u64 c) := ⟨blk_cell h 0, blk_cell h 1⟩
theorem two_blocks (w : World) (a b : Obj) : ((w.alloc a).alloc b).heap[w.heap.size]? = some a ∧ ((w.alloc a).alloc b).heap[w.heap.size + 1]? = some b := by
  refine ⟨?_, ?_⟩
  · rw [Below.heap_alloc _ _ _ (by simp)]; exact heap_alloc_new w _
  · have := heap_alloc_new (w.alloc a) b
    rwa [World.size_alloc] at this

theorem of_not (l : Int) (A : Option Addr) (n cap : Nat) (w : World) (h : rightB l = false) :
    Calls Tryd.prog 43 #[.int .i64 l, .slice A n cap] w fun e w' => e = .returned (.tuple #[lab 0 0, .int .i64 2]) ∧ Below w.heap.size w w' := by
  have HR := Lib.hid (rt_is l)
  rw [h] at HR
  clear h
  go_enter Tryd.func43, Tryd.ntmps43
  go_wp2_with fail
  with_reducible refine (HR.out.call _).mono ?_
  rintro e w1 ⟨rfl, hb1⟩
  have HK0 := Lib.hid ((hb1.block w.heap.size (by simp; omega)).trans (two_blocks w _ _).1)
  have hbel : Below w.heap.size w w1 := (((Below.refl _ _).alloc (Nat.le_refl _) _).alloc (by simp) _).trans (hb1.mono (by simp; omega))
  have d0 := (res_cells HK0.out).1
  have d1 := (res_cells HK0.out).2
  have e0 := blk_free HK0.out 0
  have e1 := blk_free HK0.out 1
  clear hb1
  go_wp2_with fail
  have hfin := blk_set (blk_set HK0.out 0 (.int .i64 0)) 1 (.int .u64 0)
  have hbf := (hbel.setCell (p := ⟨w.heap.size, 0, none⟩) (Nat.le_refl _) (.int .i64 0)).setCell (p := ⟨w.heap.size, 1, none⟩) (Nat.le_refl _) (.int .u64 0)
  clear d0 d1 e0 e1
  generalize (w1.setCell ⟨w.heap.size, 0, none⟩ (.int .i64 0)).setCell ⟨w.heap.size, 1, none⟩ (.int .u64 0) = wf at *
  have q0 : wf.cell? ⟨w.heap.size, 0, none⟩ = some (.int .i64 0) := blk_cell hfin 0
  have q1 : wf.cell? ⟨w.heap.size, 1, none⟩ = some (.int .u64 0) := blk_cell hfin 1
  exact bodyPost_ret (v := .tuple #[lab 0 0, .int .i64 2]) (by simp [results, Tryd.results43, go_sem, q0, q1]) rfl ⟨rfl, hbf⟩

set_option maxHeartbeats 1000000 in
set_option maxRecDepth 100000 in
theorem of_yes (l : Int) (A : Option Addr) (cap : Nat) (xs : List Int) (w : World) (h : rightB l = true) (hlen : xs.length ≤ maxLen) (hA : 0 < xs.length → ∃ bk off, A = some ⟨bk, off, none⟩ ∧ bk < w.heap.size ∧ IntsAt w bk off xs) :
    Calls Tryd.prog 43 #[.int .i64 l, .slice A xs.length cap] w fun e w' => e = .returned (ofVal l (ofGo xs 0)) ∧ Below w.heap.size w w' := by
  have HR := Lib.hid (rt_is l)
  rw [h] at HR
  clear h
  unfold maxLen at hlen
  have HA := Lib.hid hA
  clear hA
  go_enter Tryd.func43, Tryd.ntmps43
  go_wp2_with fail
  with_reducible refine (HR.out.call _).mono ?_
  rintro e w1 ⟨rfl, hb1⟩
  have HK0 := Lib.hid ((hb1.block w.heap.size (by simp; omega)).trans (two_blocks w _ _).1)
  have HK1 := Lib.hid ((hb1.block (w.heap.size + 1) (by simp)).trans (two_blocks w _ _).2)
  have hbel : Below w.heap.size w w1 := (((Below.refl _ _).alloc (Nat.le_refl _) _).alloc (by simp) _).trans (hb1.mono (by simp; omega))
  clear hb1
  go_wp2_with fail
  go_loopg [17] xs.length (fun n i wr => ∃ k c : Nat, k ≤ xs.length ∧ i = .int .i64 k ∧ xs.length - k ≤ n ∧ c < 18446744073709551616 ∧ Hid (ofGo xs 0 = ofGo (xs.drop k) c) ∧ Hid (wr.heap[w.heap.size]? = some (.cells #[.int .i64 0, .int .u64 0] 40 (0, 0))) ∧ Hid (wr.heap[w.heap.size + 1]? = some (.cells #[.int .i64 l, .int .u64 (c : Int)] 40 (0, 0))) ∧ Below w.heap.size w wr)
  case atStart => exact ⟨0, 0, Nat.zero_le _, rfl, by omega, by omega, Lib.hid rfl, HK0, HK1, hbel⟩
  case round =>
    clear HK0 HK1 hbel
    obtain ⟨k, c, hk, rfl, hn, hc, HO, HK0, HK1, hbel⟩ := hrel
    by_cases hlt : k < xs.length
    · obtain ⟨bk, off, hAe, hbk, hI⟩ := HA.out (by omega)
      subst hAe
      have hcell := hI.below hbel hbk k hlt
      by_cases hbad : xs[k] < 0 ∨ 63 < xs[k]
      · have HN := Lib.hid (HO.out.trans (of_bad hlt hbad))
        have d0 := (res_cells HK0.out).1
        have d1 := (res_cells HK0.out).2
        have e0 := blk_free HK0.out 0
        have e1 := blk_free HK0.out 1
        generalize xs[k] = x at *
        rcases hbad with hx | hx
        · go_wp2_with fail
          have hfin := blk_set (blk_set HK0.out 0 (.int .i64 0)) 1 (.int .u64 0)
          have hbf := (hbel.setCell (p := ⟨w.heap.size, 0, none⟩) (Nat.le_refl _) (.int .i64 0)).setCell (p := ⟨w.heap.size, 1, none⟩) (Nat.le_refl _) (.int .u64 0)
          clear d0 d1 e0 e1
          generalize (wr.setCell ⟨w.heap.size, 0, none⟩ (.int .i64 0)).setCell ⟨w.heap.size, 1, none⟩ (.int .u64 0) = wf at *
          have q0 : wf.cell? ⟨w.heap.size, 0, none⟩ = some (.int .i64 0) := blk_cell hfin 0
          have q1 : wf.cell? ⟨w.heap.size, 1, none⟩ = some (.int .u64 0) := blk_cell hfin 1
          exact bodyPost_ret (v := .tuple #[.agg #[.int .i64 0, .int .u64 0], .int .i64 2]) (by simp [results, Tryd.results43, go_sem, q0, q1]) rfl ⟨ret_of (by rw [HN.out]; rfl), hbf⟩
        · go_wp2_with fail
          have hfin := blk_set (blk_set HK0.out 0 (.int .i64 0)) 1 (.int .u64 0)
          have hbf := (hbel.setCell (p := ⟨w.heap.size, 0, none⟩) (Nat.le_refl _) (.int .i64 0)).setCell (p := ⟨w.heap.size, 1, none⟩) (Nat.le_refl _) (.int .u64 0)
          clear d0 d1 e0 e1
          generalize (wr.setCell ⟨w.heap.size, 0, none⟩ (.int .i64 0)).setCell ⟨w.heap.size, 1, none⟩ (.int .u64 0) = wf at *
          have q0 : wf.cell? ⟨w.heap.size, 0, none⟩ = some (.int .i64 0) := blk_cell hfin 0
          have q1 : wf.cell? ⟨w.heap.size, 1, none⟩ = some (.int .u64 0) := blk_cell hfin 1
          exact bodyPost_ret (v := .tuple #[.agg #[.int .i64 0, .int .u64 0], .int .i64 2]) (by simp [results, Tryd.results43, go_sem, q0, q1]) rfl ⟨ret_of (by rw [HN.out]; rfl), hbf⟩
      · have HN := Lib.hid (HO.out.trans (of_on hlt hbad))
        have hx0 : 0 ≤ xs[k] := by omega
        have hx1 : xs[k] ≤ 63 := by omega
        generalize xs[k] = x at *
        obtain ⟨m, rfl⟩ := Int.eq_ofNat_of_zero_le hx0
        rw [Int.toNat_natCast] at HN
        have hm : m < 64 := by omega
        have hpb : 2 ^ m < 18446744073709551616 := Nat.pow_lt_pow_right (a := 2) (n := 64) (by omega) hm
        have hor := u64_or_nat c (2 ^ m) hc hpb
        have hcy := or_small hc hpb
        have HB := Lib.hid (fun w => bit_any m w hm)
        have c1 := (res_cells HK1.out).2
        have f1 := blk_free HK1.out 1
        clear hpb
        generalize c ||| 2 ^ m = y at *
        generalize 2 ^ m = p at *
        go_wp2_with fail
        go_region_with (go_at_call 54; with_reducible refine (HB.out _).mono ?_; rintro e w' ⟨rfl, rfl⟩)
        all_goals
          go_wp2_with fail
          go_roundg (xs.length - (k + 1))
          case measure => omega
          case rel =>
            refine ⟨k + 1, y, by omega, by go_num, Nat.le_refl _, hcy, HN, ?_, ?_, (hbel.setCell (p := ⟨w.heap.size + 1, 1, none⟩) (Nat.le_succ _) _).drew⟩
            · exact Lib.hid ((blk_far (by omega) _).trans HK0.out)
            · exact Lib.hid (blk_set HK1.out 1 _)
    · obtain rfl : k = xs.length := by omega
      have HN := Lib.hid (HO.out.trans of_end)
      have d0 := (res_cells HK0.out).1
      have d1 := (res_cells HK0.out).2
      have e0 := blk_free HK0.out 0
      have e1 := blk_free HK0.out 1
      have c0 := (res_cells HK1.out).1
      have c1 := (res_cells HK1.out).2
      go_wp2_with fail
      clear c0 c1
      have hfin := blk_set (blk_set HK0.out 0 (.int .i64 l)) 1 (.int .u64 (c : Int))
      have hbf := (hbel.setCell (p := ⟨w.heap.size, 0, none⟩) (Nat.le_refl _) (.int .i64 l)).setCell (p := ⟨w.heap.size, 1, none⟩) (Nat.le_refl _) (.int .u64 (c : Int))
      clear d0 d1 e0 e1
      generalize (wr.setCell ⟨w.heap.size, 0, none⟩ (.int .i64 l)).setCell ⟨w.heap.size, 1, none⟩ (.int .u64 (c : Int)) = wf at *
      have q0 : wf.cell? ⟨w.heap.size, 0, none⟩ = some (.int .i64 l) := blk_cell hfin 0
      have q1 : wf.cell? ⟨w.heap.size, 1, none⟩ = some (.int .u64 (c : Int)) := blk_cell hfin 1
      exact bodyPost_ret (v := .tuple #[.agg #[.int .i64 l, .int .u64 (c : Int)], .int .i64 0]) (by simp [results, Tryd.results43, go_sem, q0, q1]) rfl ⟨ret_of (by rw [HN.out]; rfl), hbf⟩

theorem of_any (l : Int) (A : Option Addr) (cap : Nat) (xs : List Int) (w : World) (hlen : xs.length ≤ maxLen) (hA : 0 < xs.length → ∃ bk off, A = some ⟨bk, off, none⟩ ∧ bk < w.heap.size ∧ IntsAt w bk off xs) :
    Calls Tryd.prog 43 #[.int .i64 l, .slice A xs.length cap] w fun e w' => e = .returned (ofVal l (ofAll l xs)) ∧ Below w.heap.size w w' := by
  unfold ofAll
  cases h : rightB l with
  | false => exact of_not l A _ cap w h
  | true => exact of_yes l A cap xs w h hlen hA
end Go.Proofs.YtbilhdfoajahkaaDoor.L
