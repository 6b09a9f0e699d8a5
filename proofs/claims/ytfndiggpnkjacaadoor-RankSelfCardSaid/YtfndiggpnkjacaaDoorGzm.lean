/-
  An argument that is lines, with what room it has (as ArgLnZ, with less under it).
  slices.Equal and the reference's Same on any two rows of lines (as ScI, with less under it).
  A label read out of an argument; small facts for arguments of structs.
  An argument that is items, opened: its value, and what its cells hold.
  An argument that is a slice of integers, opened: its value, and what its cells hold.
  How long an argument's slices can be, by the reach of the form.
  An argument that is a view, opened; how much items and a text in the place of anchors can hold together.
  An argument that is a slice of slices of lines, opened.
  An argument that is a slice of likenesses, opened: its value, and what its cells hold.
-/
import Derived.Test.YtfndiggpnkjacaaDoorGzl
import Derived.SizedLaws
import Derived.Lib.SmallJoins
import Derived.Test.YtfndiggpnkjacaaDoorGzi
import Derived.Test.YtfndiggpnkjacaaDoorGzb
import Derived.Laws.StructEq
import Derived.Test.YtfndiggpnkjacaaDoorGza
import Derived.Deep.Slices
import Derived.Deep.Strs
import Derived.Test.YtfndiggpnkjacaaDoorGzg
import Derived.Laws.Cover2
namespace Go.Proofs.YtfndiggpnkjacaaDoor.RZ
open Go.ChangeShapes Go.WideShapes Go.ChangeAt Go.RowKit Go.Deep Go.Joins
section
variable {H : Type} {enc : TypeId × Value → H} {w : World} {base : Nat} {spare : Nat → Bool} {held : Bool}
set_option maxRecDepth 100000 in
theorem lines_readY {fuel : Nat} {cs : List Value} {x : DataW H × List MemPlace} (hf : DataW.trod enc Tryd.prog w base spare held fuel 22 cs = some x) :
    ∃ (A : Option Addr) (cap : Nat) (xs : List Mg.Ln), cs = [.slice A xs.length cap] ∧ xs.length ≤ cap ∧ cap ≤ maxLen ∧ T.LinesIn w A xs ∧ (∀ y ∈ xs, y.1.length ≤ maxLen) ∧ (A = none → cap = 0) := by
  rcases Deep.open_slice_pairs Tryd.underlying22 Tryd.underlying44 R.cellsLine rfl rfl R.cellsStr R.cellsBool hf with ⟨hcs, hx⟩ | ⟨a, len', cap', m, n, V0, V1, D0, D1, P0, P1, hcs, _, hl, hm, hmm, hx, hcell⟩
  · exact ⟨none, 0, [], hcs, Nat.le_refl _, Nat.zero_le _, fun h => absurd h (by simp), fun y hy => by simp at hy, fun _ => rfl⟩
  · have hle : len' ≤ m := by rw [hmm]; split <;> omega
    have each : ∀ i, i < len' → w.cell? (a.add (i * 2)) = some (.string ⟨(R.textOf (V0 i)).toArray⟩) ∧ w.cell? (a.add (i * 2 + 1)) = some (.bool (R.bareOf (V1 i))) ∧ (R.textOf (V0 i)).length ≤ maxLen := by
      intro i hi
      obtain ⟨c0, c1, t0, t1⟩ := hcell i (by omega)
      obtain ⟨s, hs, hd, hz⟩ := DataW.trod_string Tryd.underlying9 t0
      obtain ⟨b, hb, _⟩ := DataW.trod_bool Tryd.underlying4 t1
      simp only [List.cons.injEq, and_true] at hs hb
      rw [hs] at c0
      rw [hb] at c1
      refine ⟨by rw [c0, hs]; simp [R.textOf], by rw [c1, hb]; rfl, ?_⟩
      rw [hs]
      show s.data.toList.length ≤ maxLen
      rw [← Lib.size_eq]
      exact hz
    have htl : ((List.range len').map fun i => (R.textOf (V0 i), R.bareOf (V1 i))).length = len' := by simp
    refine ⟨some a, cap', (List.range len').map fun i => (R.textOf (V0 i), R.bareOf (V1 i)), by rw [htl, hcs], by rw [htl]; exact hl, hm, fun hp => ?_, fun y hy => ?_, fun e => by cases e⟩
    · rw [htl] at hp
      obtain ⟨bk, off, spot⟩ := a
      have hspot : spot = none := by simpa [Addr.add] using World.cell?_spot (each 0 hp).1
      subst hspot
      have h0 := (each 0 hp).1
      refine ⟨bk, off, rfl, World.block_lt_of_cell? w _ h0, fun j hj => ?_⟩
      rw [htl] at hj
      have := each j hj
      rw [add_plain, add_plain, ← Nat.add_assoc] at this
      simp only [List.getElem_map, List.getElem_range]
      exact ⟨this.1, this.2.1⟩
    · obtain ⟨i, hi, rfl⟩ := List.mem_map.1 hy
      exact (each i (List.mem_range.1 hi)).2.2
set_option maxRecDepth 100000 in
theorem lines_argY {r : Reach} {b0 : Nat} {v : Value} {d : DataW H} {p : List MemPlace} (hv : Value.okWide Tryd.prog w r b0 22 v) (h : DataW.Trod enc Tryd.prog w base spare held 22 v d p) :
    ∃ (A : Option Addr) (cap : Nat) (xs : List Mg.Ln), v = .slice A xs.length cap ∧ xs.length ≤ maxLen ∧ xs.length ≤ cap ∧ T.LinesIn w A xs ∧ (∀ y ∈ xs, y.1.length ≤ maxLen) ∧ (A = none → cap = 0) := by
  obtain ⟨a0, len, cap, rfl⟩ := okWide_slice Tryd.underlying22 hv
  obtain ⟨fuel, hf⟩ := h
  obtain ⟨A, cap', xs, hcs, h1, h2, h3, h4, h5⟩ := lines_readY hf
  simp only [Value.cells, List.cons.injEq, Value.slice.injEq, and_true] at hcs
  obtain ⟨rfl, rfl, rfl⟩ := hcs
  exact ⟨_, _, xs, rfl, Nat.le_trans h1 h2, h1, h3, h4, h5⟩
end
end Go.Proofs.YtfndiggpnkjacaaDoor.RZ

namespace Go.Proofs.YtfndiggpnkjacaaDoor.Mg
set_option linter.unusedVariables false
set_option linter.unusedSimpArgs false
open Go.RowKit
open T
open V (grown_of IntsIn numCells numCells_snoc ints_own drawn_below)
open I (alloc1 own_at own_below)

abbrev lnV (x : Ln) : Value := .agg #[.string ⟨x.1.toArray⟩, .bool x.2]
theorem ln_eql (w : World) (x y : Ln) : (binOp .eql 44 (lnV x) (lnV y)).run Tryd.prog w = .ok (.bool (decide (x = y))) w := by
  have u3 := Tryd.underlying9
  have u4 := Tryd.underlying4
  have hS : Tryd.prog.underlying 44 = some (.struct (Tryd.prog.fieldsOf 44)) := by kernel_rfl
  have hp : Tryd.prog.stoodInHeld 44 = false := by kernel_rfl
  have z3 : Tryd.prog.cellsOf 9 = 1 := by kernel_rfl
  simp only [lnV]
  rw [run_eql_struct, show (10000 : Nat) = 9999 + 1 from rfl, run_equalIn_agg w 9999 44 _ _ hS hp]
  simp only [Program.fieldsOf, Tryd.underlying44]
  go_simp
  obtain ⟨a, b⟩ := x
  obtain ⟨c, d⟩ := y
  by_cases h1 : a = c <;> by_cases h2 : b = d <;> simp [h1, h2]
theorem ln_neq (w : World) (x y : Ln) : (binOp .neq 44 (lnV x) (lnV y)).run Tryd.prog w = .ok (.bool (!decide (x = y))) w := by
  have h := ln_eql w x y
  simp only [binOp, Sem.run_bind] at h ⊢
  cases hr : (Op.equal 44 (lnV x) (lnV y)).run Tryd.prog w with
  | ok v w' =>
    rw [hr] at h
    simp only [Result.andThen_ok, Sem.run_pure, Result.ok.injEq, Value.bool.injEq] at h
    obtain ⟨rfl, rfl⟩ := h
    simp only [Result.andThen_ok, Sem.run_pure]
  | _ => rw [hr] at h; simp at h
theorem take_eq_succ {xs ys : List Ln} {k : Nat} (h1 : k < xs.length) (h2 : k < ys.length) (h : xs.take k = ys.take k) (he : xs[k] = ys[k]) : xs.take (k + 1) = ys.take (k + 1) := by
  rw [List.take_succ_eq_append_getElem h1, List.take_succ_eq_append_getElem h2, h, he]
theorem ne_of_at {xs ys : List Ln} {k : Nat} (h1 : k < xs.length) (h2 : k < ys.length) (he : xs[k] ≠ ys[k]) : xs ≠ ys := fun e => by
  subst e; exact he rfl

set_option maxHeartbeats 1000000 in
set_option maxRecDepth 100000 in
theorem rsame_gen (A B : Option Addr) (c c' : Nat) (xs ys : List Ln) (w : World) (h1 : xs.length ≤ maxLen) (h2 : ys.length ≤ maxLen) (hA : LinesIn w A xs) (hB : LinesIn w B ys) :
    Calls Tryd.prog 23 #[.slice A xs.length c, .slice B ys.length c'] w fun e w' => e = .returned (.bool (decide (xs = ys))) ∧ Below w.heap.size w w' := by
  unfold maxLen at h1 h2
  have HA := Lib.hid hA
  have HB := Lib.hid hB
  clear hA hB
  by_cases hl : xs.length = ys.length
  · have hne : ((xs.length : Int) != (ys.length : Int)) = false := by simp [hl]
    have HL := Lib.hid hl
    clear hl
    go_enter Tryd.func23, Tryd.ntmps23
    go_wp2_with fail
    go_loopg [5] xs.length (fun n i wr => ∃ k : Nat, k ≤ xs.length ∧ i = .int .i64 k ∧ xs.length - k ≤ n ∧ Hid (xs.take k = ys.take k) ∧ ∃ q, wr = w.drewN q)
    case atStart => exact ⟨0, Nat.zero_le _, rfl, by omega, Lib.hid rfl, 0, rfl⟩
    case round =>
      obtain ⟨k, hk, rfl, hn, HT, q, rfl⟩ := hrel
      by_cases hlt : k < xs.length
      · have hlt2 : k < ys.length := by have := HL.out; omega
        obtain ⟨bk, off, hAe, hbk, hL⟩ := HA.out (by omega)
        obtain ⟨bk', off', hAe', hbk', hL'⟩ := HB.out (by omega)
        subst hAe hAe'
        obtain ⟨c0, c1⟩ := hL k hlt
        obtain ⟨d0, d1⟩ := hL' k hlt2
        have h0k : (0 : Int) ≤ (k : Int) := Int.natCast_nonneg _
        have h1k : (k : Int) < (xs.length : Int) := by omega
        have h2k : (k : Int) < (ys.length : Int) := by omega
        have HTK := Lib.hid (take_eq_succ hlt hlt2 HT.out)
        have HNE := Lib.hid (ne_of_at hlt hlt2)
        have hq0 := fun W => ln_neq W xs[k] ys[k]
        clear hL hL'
        by_cases he : xs[k] = ys[k]
        · have HTE := Lib.hid (HTK.out he)
          rw [decide_eq_true he] at hq0
          simp only [lnV] at hq0
          clear he HNE HTK
          generalize xs[k].2 = b at *
          generalize xs[k].1 = t at *
          generalize ys[k].2 = b' at *
          generalize ys[k].1 = t' at *
          have hq : ∀ W, (binOp .neq 44 (.agg #[.string ⟨t.toArray⟩, .bool b]) (.agg #[.string ⟨t'.toArray⟩, .bool b'])).run Tryd.prog W = .ok (.bool false) W := hq0
          clear hq0
          go_wp2_with fail
          go_quiet (fail)
          clear hq
          go_wp2_with fail
          go_roundg (xs.length - (k + 1))
          case measure => omega
          case rel => exact ⟨k + 1, by omega, by go_num, Nat.le_refl _, HTE, _, rfl⟩
        · have HTE := Lib.hid (HNE.out he)
          rw [decide_eq_false he] at hq0
          simp only [lnV] at hq0
          clear he HNE HTK
          generalize xs[k].2 = b at *
          generalize xs[k].1 = t at *
          generalize ys[k].2 = b' at *
          generalize ys[k].1 = t' at *
          have hq : ∀ W, (binOp .neq 44 (.agg #[.string ⟨t.toArray⟩, .bool b]) (.agg #[.string ⟨t'.toArray⟩, .bool b'])).run Tryd.prog W = .ok (.bool true) W := hq0
          clear hq0
          go_wp2_with fail
          go_quiet (fail)
          clear hq
          have hd := decide_eq_false HTE.out
          go_wp2_with fail
          go_ret
          exact ⟨by rw [hd]; rfl, below_drewN (below_drewN (Below.refl _ _) q) _⟩
      · obtain rfl : k = xs.length := by omega
        have hT := HT.out
        rw [List.take_length, HL.out, List.take_length] at hT
        have hd := decide_eq_true hT
        clear hT HT
        go_wp2_with fail
        go_ret
        exact ⟨by rw [hd]; rfl, below_drewN (Below.refl _ _) q⟩
  · have hne : ((xs.length : Int) != (ys.length : Int)) = true := by simp [bne]; omega
    have hd := decide_eq_false (fun e : xs = ys => hl (by rw [e]))
    clear hl
    go_enter Tryd.func23, Tryd.ntmps23
    go_wp2_with fail
    go_ret
    exact ⟨by rw [hd]; rfl, Below.refl _ _⟩

end Go.Proofs.YtfndiggpnkjacaaDoor.Mg

namespace Go.Proofs.YtfndiggpnkjacaaDoor.RP
open Go.ChangeShapes Go.WideShapes Go.ChangeAt Go.RowKit Go.Deep Go.Joins

theorem cInt : Tryd.prog.cellsOf 3 = 1 := by kernel_rfl
theorem cU64 : Tryd.prog.cellsOf 66 = 1 := by kernel_rfl
theorem cStr : Tryd.prog.cellsOf 9 = 1 := by kernel_rfl
theorem cBool : Tryd.prog.cellsOf 4 = 1 := by kernel_rfl
section
variable {H : Type} {enc : TypeId × Value → H} {w : World} {base : Nat} {spare : Nat → Bool} {held : Bool} {fuel : Nat} {cs : List Value} {x : DataW H × List MemPlace}
theorem list2 {α : Type} {l : List α} (h : l.length = 2) : ∃ a b, l = [a, b] := by
  match l, h with
  | [a, b], _ => exact ⟨a, b, rfl⟩
theorem list3 {α : Type} {l : List α} (h : l.length = 3) : ∃ a b c, l = [a, b, c] := by
  match l, h with
  | [a, b, c], _ => exact ⟨a, b, c, rfl⟩
theorem list4 {α : Type} {l : List α} (h : l.length = 4) : ∃ a b c d, l = [a, b, c, d] := by
  match l, h with
  | [a, b, c, d], _ => exact ⟨a, b, c, d, rfl⟩
theorem list9 {α : Type} {l : List α} (h : l.length = 9) : ∃ a b c d e f g i j, l = [a, b, c, d, e, f, g, i, j] := by
  match l, h with
  | [a, b, c, d, e, f, g, i, j], _ => exact ⟨a, b, c, d, e, f, g, i, j, rfl⟩
end
end Go.Proofs.YtfndiggpnkjacaaDoor.RP

namespace Go.Proofs.YtfndiggpnkjacaaDoor.RI
open Go.ChangeShapes Go.WideShapes Go.ChangeAt Go.RowKit Go.Deep Go.Joins

theorem cLine : Tryd.prog.cellsOf 44 = 2 := by kernel_rfl
section
variable {H : Type} {enc : TypeId × Value → H} {w : World} {base : Nat} {spare : Nat → Bool} {held : Bool} {fuel : Nat} {cs : List Value} {x : DataW H × List MemPlace}
theorem list6 {α : Type} {l : List α} (h : l.length = 6) : ∃ a b c d e f, l = [a, b, c, d, e, f] := by
  match l, h with
  | [a, b, c, d, e, f], _ => exact ⟨a, b, c, d, e, f, rfl⟩
theorem line_read (h : DataW.trod enc Tryd.prog w base spare held fuel 44 cs = some x) : ∃ (s : ByteArray) (t : Bool), cs = [.string s, .bool t] ∧ s.size ≤ maxLen := by
  obtain ⟨y0, y1, n, -, hl, h0, h1⟩ := trod_struct2 Tryd.underlying44 h
  dsimp only at h0 h1
  rw [cLine] at hl
  rw [RP.cStr] at h0
  rw [RP.cBool] at h1
  obtain ⟨a, b, rfl⟩ := RP.list2 hl
  obtain ⟨s, e0, -, z0⟩ := DataW.trod_string Tryd.underlying9 h0
  obtain ⟨t, e1, -⟩ := DataW.trod_bool Tryd.underlying4 h1
  have e0' : a = .string s := by injection e0
  have e1' : b = .bool t := by injection e1
  exact ⟨s, t, by rw [e0', e1'], z0⟩
instance : Inhabited I.It := ⟨⟨0, 0, 0, false, [], false⟩⟩
end
end Go.Proofs.YtfndiggpnkjacaaDoor.RI

namespace Go.Proofs.YtfndiggpnkjacaaDoor.R
open Go.ChangeShapes Go.WideShapes Go.ChangeAt Go.RowKit

set_option maxRecDepth 100000 in
theorem cellsInt : Tryd.prog.cellsOf 3 = 1 := by kernel_rfl
set_option maxRecDepth 100000 in
theorem ints_arg {H : Type} {enc : TypeId × Value → H} {W : World} {r : Reach} {b0 base : Nat} {sp : Nat → Bool} {held : Bool} {v : Value} {d : DataW H} {p : List MemPlace}
    (hv : Value.okWide Tryd.prog W r b0 46 v) (h : DataW.Trod enc Tryd.prog W base sp held 46 v d p) :
    ∃ (A : Option Addr) (cap : Nat) (xs : List Int), v = .slice A xs.length cap ∧ xs.length ≤ maxLen ∧ (0 < xs.length → ∃ bk off, A = some ⟨bk, off, none⟩ ∧ bk < W.heap.size ∧ L.IntsAt W bk off xs) := by
  obtain ⟨a0, len, cap, rfl⟩ := okWide_slice Tryd.underlying46 hv
  obtain ⟨fuel, hf⟩ := h
  rcases open_ints Tryd.underlying46 Tryd.underlying3 cellsInt hf with ⟨hcs, hx⟩ | ⟨a, len', cap', zs, hcs, _, hl, hm, hz, hx, hcell, hwz⟩
  · simp only [Value.cells, List.cons.injEq, Value.slice.injEq, and_true] at hcs
    obtain ⟨rfl, rfl, rfl⟩ := hcs
    exact ⟨none, 0, [], rfl, Nat.zero_le _, fun h => absurd h (by simp)⟩
  · simp only [Value.cells, List.cons.injEq, Value.slice.injEq, and_true] at hcs
    obtain ⟨rfl, rfl, rfl⟩ := hcs
    have hle : len ≤ zs.length := by rw [hz]; split <;> omega
    have htl : (zs.take len).length = len := by rw [List.length_take]; omega
    refine ⟨some a, cap, zs.take len, by rw [htl], by rw [htl]; omega, fun hp => ?_⟩
    rw [htl] at hp
    obtain ⟨bk, off, rfl, hc⟩ := ints_at hcell (by omega)
    have h0 := hc 0 (by omega)
    refine ⟨bk, off, rfl, World.block_lt_of_cell? W ⟨bk, off + 0, none⟩ h0, fun j hj => ?_⟩
    rw [htl] at hj
    rw [hc j (by omega), List.getElem_take, List.getD_eq_getElem?_getD, List.getElem?_eq_getElem (by omega)]
    rfl
end Go.Proofs.YtfndiggpnkjacaaDoor.R

namespace Go.Proofs.YtfndiggpnkjacaaDoor.RZ
set_option linter.unusedVariables false
set_option linter.unusedSimpArgs false
open Go.ChangeShapes Go.WideShapes Go.ChangeAt Go.RowKit Go.Joins
section
variable {H : Type} {enc : TypeId × Value → H} {w : World} {base : Nat} {spare : Nat → Bool} {held : Bool}
theorem slice_shape {t e : TypeId} {A : Option Addr} {n cap : Nat} {d : DataW H} {p : List MemPlace} (hu : Tryd.prog.underlying t = some (.slice e)) (h : DataW.Trod enc Tryd.prog w base spare held t (.slice A n cap) d p) :
    (n = 0 ∧ d = .nil) ∨ ∃ es sp, d = .slice es sp ∧ es.length = n := by
  obtain ⟨fuel, hf⟩ := h
  rcases Deep.open_slice hu hf with ⟨hcs, hx⟩ | ⟨a, len, cap', m, k, D, Pl, hcs, _, _, _, _, hx, _⟩
  · simp only [Value.cells, List.cons.injEq, Value.slice.injEq, and_true] at hcs
    obtain ⟨rfl, rfl, rfl⟩ := hcs
    injection hx with h1 h2
    exact .inl ⟨rfl, h1⟩
  · simp only [Value.cells, List.cons.injEq, Value.slice.injEq, and_true] at hcs
    obtain ⟨rfl, rfl, rfl⟩ := hcs
    injection hx with h1 h2
    exact .inr ⟨_, _, h1, by simp⟩
theorem slice_size {ts : List TypeId} {ds : List (DataW H)} (hs : (DataW.weightsEach Tryd.prog ts ds).all (· ≤ reachBytes) = true) {j : Nat} {t e : TypeId} {A : Option Addr} {n cap : Nat} {d : DataW H} {p : List MemPlace} (ht : ts[j]? = some t) (hd : ds[j]? = some d) (hu : Tryd.prog.underlying t = some (.slice e)) (h : DataW.Trod enc Tryd.prog w base spare held t (.slice A n cap) d p) :
    n * Tryd.prog.bytesOf e ≤ reachBytes := by
  rcases slice_shape hu h with ⟨rfl, -⟩ | ⟨es, sp, rfl, rfl⟩
  · simp
  · exact Nat.le_trans (Nat.mul_le_mul_right _ (Nat.le_add_right _ _)) (sized_slice hs ht hd hu)
theorem bytesInt : Tryd.prog.bytesOf 3 = 8 := by kernel_rfl
theorem ints_size {ts : List TypeId} {ds : List (DataW H)} (hs : (DataW.weightsEach Tryd.prog ts ds).all (· ≤ reachBytes) = true) {j : Nat} {A : Option Addr} {n cap : Nat} {d : DataW H} {p : List MemPlace} (ht : ts[j]? = some 46) (hd : ds[j]? = some d) (h : DataW.Trod enc Tryd.prog w base spare held 46 (.slice A n cap) d p) : n * 8 ≤ 140737488351232 := by
  have := slice_size hs ht hd Tryd.underlying46 h
  rw [bytesInt] at this
  exact this
end
end Go.Proofs.YtfndiggpnkjacaaDoor.RZ

namespace Go.Proofs.YtfndiggpnkjacaaDoor.RZ
open Go.ChangeShapes Go.WideShapes Go.ChangeAt Go.RowKit Go.Joins
section
variable {H : Type} {enc : TypeId × Value → H} {w : World} {base : Nat} {spare : Nat → Bool} {held : Bool}
set_option maxRecDepth 100000 in
theorem ints_read {fuel : Nat} {cs : List Value} {x : DataW H × List MemPlace} (hf : DataW.trod enc Tryd.prog w base spare held fuel 46 cs = some x) :
    ∃ (A : Option Addr) (cap : Nat) (xs : List Int), cs = [.slice A xs.length cap] ∧ V.IntsIn w A xs := by
  rcases open_ints Tryd.underlying46 Tryd.underlying3 R.cellsInt hf with ⟨hcs, hx⟩ | ⟨a, len', cap', zs, hcs, _, hl, hm, hz, hx, hcell, hwz⟩
  · exact ⟨none, 0, [], hcs, fun h => absurd h (by simp)⟩
  · have hle : len' ≤ zs.length := by rw [hz]; split <;> omega
    have htl : (zs.take len').length = len' := by rw [List.length_take]; omega
    refine ⟨some a, cap', zs.take len', by rw [htl, hcs], fun hp => ?_⟩
    rw [htl] at hp
    obtain ⟨bk, off, rfl, hc⟩ := ints_at hcell (by omega)
    have h0 := hc 0 (by omega)
    refine ⟨bk, off, rfl, World.block_lt_of_cell? w ⟨bk, off + 0, none⟩ h0, fun j hj => ?_⟩
    rw [htl] at hj
    rw [hc j (by omega), List.getElem_take, List.getD_eq_getElem?_getD, List.getElem?_eq_getElem (by omega)]
    rfl
theorem cLines : Tryd.prog.cellsOf 22 = 1 := by kernel_rfl
theorem cInts : Tryd.prog.cellsOf 46 = 1 := by kernel_rfl
end
end Go.Proofs.YtfndiggpnkjacaaDoor.RZ

namespace Go.Proofs.YtfndiggpnkjacaaDoor.RZ
open Go.ChangeShapes Go.WideShapes Go.ChangeAt Go.RowKit Go.Deep Go.Joins
section
variable {H : Type} {enc : TypeId × Value → H} {w : World} {base : Nat} {spare : Nat → Bool} {held : Bool}
set_option maxRecDepth 100000 in
theorem lines_readC {fuel : Nat} {cs : List Value} {x : DataW H × List MemPlace} (hf : DataW.trod enc Tryd.prog w base spare held fuel 22 cs = some x) :
    ∃ (A : Option Addr) (cap : Nat) (xs : List N.Ln), cs = [.slice A xs.length cap] ∧ xs.length ≤ cap ∧ cap ≤ maxLen ∧ T.LinesIn w A xs ∧ ∀ y ∈ xs, y.1.length ≤ maxLen := by
  rcases Deep.open_slice_pairs Tryd.underlying22 Tryd.underlying44 R.cellsLine rfl rfl R.cellsStr R.cellsBool hf with ⟨hcs, hx⟩ | ⟨a, len', cap', m, n, V0, V1, D0, D1, P0, P1, hcs, _, hl, hm, hmm, hx, hcell⟩
  · exact ⟨none, 0, [], hcs, Nat.le_refl _, Nat.zero_le _, fun h => absurd h (by simp), fun y hy => by simp at hy⟩
  · have hle : len' ≤ m := by rw [hmm]; split <;> omega
    have each : ∀ i, i < len' → w.cell? (a.add (i * 2)) = some (.string ⟨(R.textOf (V0 i)).toArray⟩) ∧ w.cell? (a.add (i * 2 + 1)) = some (.bool (R.bareOf (V1 i))) ∧ (R.textOf (V0 i)).length ≤ maxLen := by
      intro i hi
      obtain ⟨c0, c1, t0, t1⟩ := hcell i (by omega)
      obtain ⟨s, hs, hd, hz⟩ := DataW.trod_string Tryd.underlying9 t0
      obtain ⟨b, hb, _⟩ := DataW.trod_bool Tryd.underlying4 t1
      simp only [List.cons.injEq, and_true] at hs hb
      rw [hs] at c0
      rw [hb] at c1
      refine ⟨by rw [c0, hs]; simp [R.textOf], by rw [c1, hb]; rfl, ?_⟩
      rw [hs]
      show s.data.toList.length ≤ maxLen
      rw [← Lib.size_eq]
      exact hz
    have htl : ((List.range len').map fun i => (R.textOf (V0 i), R.bareOf (V1 i))).length = len' := by simp
    refine ⟨some a, cap', (List.range len').map fun i => (R.textOf (V0 i), R.bareOf (V1 i)), by rw [htl, hcs], by rw [htl]; exact hl, hm, fun hp => ?_, fun y hy => ?_⟩
    · rw [htl] at hp
      obtain ⟨bk, off, spot⟩ := a
      have hspot : spot = none := by simpa [Addr.add] using World.cell?_spot (each 0 hp).1
      subst hspot
      have h0 := (each 0 hp).1
      refine ⟨bk, off, rfl, World.block_lt_of_cell? w _ h0, fun j hj => ?_⟩
      rw [htl] at hj
      have := each j hj
      rw [add_plain, add_plain, ← Nat.add_assoc] at this
      simp only [List.getElem_map, List.getElem_range]
      exact ⟨this.1, this.2.1⟩
    · obtain ⟨i, hi, rfl⟩ := List.mem_map.1 hy
      exact (each i (List.mem_range.1 hi)).2.2
set_option maxRecDepth 100000 in
theorem lists_arg {r : Reach} {b0 : Nat} {v : Value} {d : DataW H} {p : List MemPlace} (hv : Value.okWide Tryd.prog w r b0 30 v) (h : DataW.Trod enc Tryd.prog w base spare held 30 v d p) :
    ∃ (A : Option Addr) (cap : Nat) (ls : List (List N.Ln)), v = .slice A ls.length cap ∧ ls.length ≤ maxLen ∧ N.ListsIn w A ls ∧ (∀ l ∈ ls, l.length ≤ maxLen) ∧ ∀ l ∈ ls, ∀ y ∈ l, y.1.length ≤ maxLen := by
  obtain ⟨a0, len, cap, rfl⟩ := okWide_slice Tryd.underlying30 hv
  obtain ⟨fuel, hf⟩ := h
  rcases open_slice1 Tryd.underlying30 cLines hf with ⟨hcs, hx⟩ | ⟨a, len', cap', m, n, V, D, Pl, hcs, _, hl, hm, hmm, hx, hcell⟩
  · simp only [Value.cells, List.cons.injEq, Value.slice.injEq, and_true] at hcs
    obtain ⟨rfl, rfl, rfl⟩ := hcs
    exact ⟨none, 0, [], rfl, Nat.zero_le _, fun h => absurd h (by simp), fun l hl => by simp at hl, fun l hl => by simp at hl⟩
  · simp only [Value.cells, List.cons.injEq, Value.slice.injEq, and_true] at hcs
    obtain ⟨rfl, rfl, rfl⟩ := hcs
    have hle : len ≤ m := by rw [hmm]; split <;> omega
    obtain ⟨f, hf⟩ := choose_lt (n := len) (p := fun i (l : List N.Ln) => (∃ A c, w.cell? (a.add i) = some (.slice A l.length c) ∧ T.LinesIn w A l ∧ l.length ≤ c) ∧ l.length ≤ maxLen ∧ ∀ y ∈ l, y.1.length ≤ maxLen) (fun i hi => by
      obtain ⟨c1, c2⟩ := hcell i (by omega)
      obtain ⟨A, c, xs, hvv, h1, h2, h3, h4⟩ := lines_readC c2
      injection hvv with hv1
      exact ⟨xs, ⟨A, c, by rw [c1, hv1], h3, h1⟩, Nat.le_trans h1 h2, h4⟩)
    have htl : ((List.range len).map f).length = len := by simp
    refine ⟨some a, cap, (List.range len).map f, by rw [htl], by rw [htl]; omega, fun hp => ?_, fun l hl => ?_, fun l hl => ?_⟩
    · rw [htl] at hp
      obtain ⟨bk, off, spot⟩ := a
      obtain ⟨⟨A0, c0, h0, -⟩, -⟩ := hf 0 hp
      have hspot : spot = none := by simpa [Addr.add] using World.cell?_spot h0
      subst hspot
      refine ⟨bk, off, rfl, World.block_lt_of_cell? w _ h0, fun j hj => ?_⟩
      rw [htl] at hj
      obtain ⟨⟨A, c, h1, h2, h3⟩, -⟩ := hf j hj
      rw [add_plain] at h1
      simp only [List.getElem_map, List.getElem_range]
      exact ⟨A, c, h1, h2, h3⟩
    · obtain ⟨i, hi, rfl⟩ := List.mem_map.1 hl
      exact (hf i (List.mem_range.1 hi)).2.1
    · obtain ⟨i, hi, rfl⟩ := List.mem_map.1 hl
      exact (hf i (List.mem_range.1 hi)).2.2
end
end Go.Proofs.YtfndiggpnkjacaaDoor.RZ

namespace Go.Proofs.YtfndiggpnkjacaaDoor.RL
open Go.ChangeShapes Go.WideShapes Go.ChangeAt Go.RowKit Go.Deep Go.Joins
open Rk (Kx LksIn LksAt KOk)
open Fp (fV)

theorem cLk : Tryd.prog.cellsOf 37 = 2 := by kernel_rfl
theorem lkInt : Tryd.prog.cellsOf 3 = 1 := by kernel_rfl
theorem lkFl : Tryd.prog.cellsOf 27 = 1 := by kernel_rfl
theorem lk2 {α : Type} {l : List α} (h : l.length = 2) : ∃ a b, l = [a, b] := by
  match l, h with
  | [a, b], _ => exact ⟨a, b, rfl⟩
theorem fk_lt {b : Nat} (h : (Lit.float .f64 b).wf = true) : b < 2 ^ 64 := by simpa [Lit.wf] using h
theorem trod_fk {H : Type} {enc : TypeId × Value → H} {P : Program} {w : World} {base : Nat} {sp : Nat → Bool} {held : Bool} {fuel : Nat} {t : TypeId} {v : Value} {x : DataW H × List MemPlace} (ht : P.underlying t = some (.float .f64)) (h : DataW.trod enc P w base sp held fuel t [v] = some x) :
    ∃ b, v = .float .f64 b ∧ (Lit.float .f64 b).wf = true := by
  cases fuel with
  | zero => simp [DataW.trod] at h
  | succ n =>
    unfold DataW.trod at h
    rw [ht] at h
    split at h <;> simp_all
section
variable {H : Type} {enc : TypeId × Value → H} {w : World} {base : Nat} {spare : Nat → Bool} {held : Bool} {fuel : Nat} {cs : List Value} {x : DataW H × List MemPlace}
/-- A likeness's two cells. -/
theorem lk_read (hl : cs.length = 2) (h : DataW.trod enc Tryd.prog w base spare held fuel 37 cs = some x) : ∃ u : Kx, cs = [.int .i64 u.1, fV u.2.toNat] ∧ -9223372036854775808 ≤ u.1 ∧ u.1 ≤ 9223372036854775807 := by
  obtain ⟨y0, y1, n, -, -, h0, h1⟩ := trod_struct2 Tryd.underlying37 h
  dsimp only at h0 h1
  rw [lkInt] at h0
  rw [lkFl] at h1
  obtain ⟨a, b, rfl⟩ := lk2 hl
  obtain ⟨l, e0, -, w0⟩ := DataW.trod_int Tryd.underlying3 h0
  have e0' : a = .int .i64 l := by injection e0
  obtain ⟨k, e1, w1⟩ := trod_fk (v := b) Tryd.underlying27 h1
  exact ⟨(l, UInt64.ofNat k), by rw [e0', e1]; unfold fV; rw [UInt64.toNat_ofNat_of_lt' (fk_lt w1)], (bounds_i64 w0).1, (bounds_i64 w0).2⟩
theorem lks_read (h : DataW.trod enc Tryd.prog w base spare held fuel 32 cs = some x) : ∃ (A : Option Addr) (cap : Nat) (us : List Kx), cs = [.slice A us.length cap] ∧ us.length ≤ maxLen ∧ us.length ≤ cap ∧ LksIn w A us ∧ KOk us ∧ (A = none → cap = 0) := by
  rcases open_slice Tryd.underlying32 h with ⟨hcs, hx⟩ | ⟨a, len, cap, m, n, D, Pl, hcs, _, hl, hm, hmm, hx, hcell⟩
  · exact ⟨none, 0, [], hcs, Nat.zero_le _, Nat.zero_le _, fun h => absurd h (by simp), fun x hx => (by cases hx), fun _ => rfl⟩
  have hle : len ≤ m := by rw [hmm]; split <;> omega
  obtain ⟨f, hf⟩ := choose_lt (n := len) (p := fun i (u : Kx) => (w.cell? (a.add (i * 2 + 0)) = some (.int .i64 u.1) ∧ w.cell? (a.add (i * 2 + 1)) = some (fV u.2.toNat)) ∧ (-9223372036854775808 ≤ u.1 ∧ u.1 ≤ 9223372036854775807)) (fun i hi => by
    obtain ⟨cs', c1, c2⟩ := hcell i (by omega)
    rw [cLk] at c1
    obtain ⟨_, hlen, hat⟩ := World.cells?_some c1
    obtain ⟨u, rfl, hu⟩ := lk_read (by simpa using hlen) c2
    have q0 := hat 0 (by omega)
    have q1 := hat 1 (by omega)
    rw [Go.Deep.add_add] at q0 q1
    exact ⟨u, ⟨q0, q1⟩, hu⟩)
  have htl : ((List.range len).map f).length = len := by simp
  refine ⟨some a, cap, (List.range len).map f, by rw [htl, hcs], by rw [htl]; omega, by rw [htl]; omega, fun hp => ?_, fun u hu => ?_, fun h => (by cases h)⟩
  · rw [htl] at hp
    obtain ⟨bk, off, spot⟩ := a
    have hspot : spot = none := by simpa [Addr.add] using World.cell?_spot (hf 0 hp).1.1
    subst hspot
    have h0 := (hf 0 hp).1.1
    refine ⟨bk, off, rfl, World.block_lt_of_cell? w _ h0, fun j hj => ?_⟩
    rw [htl] at hj
    have := (hf j hj).1
    simp only [add_plain, ← Nat.add_assoc, Nat.add_zero] at this
    simp only [List.getElem_map, List.getElem_range]
    exact this
  · obtain ⟨i, hi, rfl⟩ := List.mem_map.1 hu
    exact (hf i (List.mem_range.1 hi)).2
set_option maxRecDepth 100000 in
theorem lks_arg {r : Reach} {b0 : Nat} {v : Value} {d : DataW H} {p : List MemPlace} (hv : Value.okWide Tryd.prog w r b0 32 v) (h : DataW.Trod enc Tryd.prog w base spare held 32 v d p) :
    ∃ (A : Option Addr) (cap : Nat) (us : List Kx), v = .slice A us.length cap ∧ us.length ≤ maxLen ∧ us.length ≤ cap ∧ LksIn w A us ∧ KOk us ∧ (A = none → cap = 0) := by
  obtain ⟨a0, len, cap, rfl⟩ := okWide_slice Tryd.underlying32 hv
  obtain ⟨fuel, hf⟩ := h
  obtain ⟨A, cap', us, hcs, r⟩ := lks_read hf
  simp only [Value.cells, List.cons.injEq, Value.slice.injEq, and_true] at hcs
  obtain ⟨rfl, rfl, rfl⟩ := hcs
  exact ⟨_, _, us, rfl, r⟩
end
end Go.Proofs.YtfndiggpnkjacaaDoor.RL
