/-
  The contract of text.Join: a new row of bytes, those of the lines.
  Rows of bytes in memory, wherever they lie, those of no byte too: as a text, and text.Lines of them. What a region's walk may be told anew on its way.
  Rows of numbers in memory; the contracts of the reference's Ints and of the law's sameItems (layer 5).
  The contract of the reference's Cut (layer 5).
  The contract of the reference's IDs (layer 5).
  The contract of the reference's Of (layer 5): a view while it is built.
  The contract of the reference's Of (layer 5).
  The contracts of text.has and text.Right.
  The contract of the reference's Same on two rows of the same lines; and what the laws on lines ask of the functions that they call, in one form each.
  Plain facts on numbers and their texts: the text of a number up to 2^31 - 1 is read as that number; what is read as a number is that number's text; reading without a bound and asking at the end comes to the same.
  Small facts on texts as bytes; the contracts of text.Number and text.Decimal in closed form.
  The contract of text.Name: it returns, whatever text it is handed, what the plain function says, and leaves the world as it was.
  The contracts of the reference's Number, Name and Decimal: they come to the same plain functions as the program's own.
  The contract of the reference's Decimal, by induction over the number.
  The contract of the reference's Lines: for all bytes of at most 2^22.
  The contracts of the reference's Right and Join: for all lines of a bulk of at most 2^22.
  What the laws of layer 5 ask of the functions that they call, in one form each.
  A range over the items that are seen, with their places: the iterator's contract.
  Which commits one sees, in plain words: their places, and one's own numbers beside them.
-/
import Derived.Test.YtlkfmaeillnhhaaGia
import Derived.Deep.RegionHeld
import Derived.Deep.QuietTactic
import Derived.BigQuiet
import Derived.StillTailTactics
import Derived.Deep.DeepCutAuto
import Derived.Deep.AppendLies
import Derived.Deep.DrawnRows
import Derived.BigRegion
import Derived.Deep.RegionWith
import Derived.RangeFuncNested
import Derived.RangeFuncBox
import Derived.RangeFuncBound
import Derived.RangeFuncCalls
import Derived.RangeFuncLeaves
import Derived.Shelf.Abstract
import Derived.Shelf.RegionOpen
import Derived.WalkKit
import Derived.OwnWalkIn
import Derived.TacticsInMore
import Derived.LoopNIn
import Derived.LoopIn
import Derived.Maps.AppendAt
namespace Go.Proofs.Ytlkfmaeillnhhaa.T
open Go.RowKit

def byteCells (l : List UInt8) : List Value := l.map fun c => .int .u8 (c.toNat : Int)
theorem byteCells_append (l r : List UInt8) : byteCells (l ++ r) = byteCells l ++ byteCells r := by simp [byteCells]
theorem byteCells_str (t : List UInt8) : Lib.strCells ⟨t.toArray⟩ = byteCells t := by simp [Lib.strCells, byteCells]
theorem infoByte : (Try.prog.info? 5).map (fun i => (i.zero, i.size, i.bytes)) = some (some (.int .u8 0), 1, 1) := by kernel_rfl
theorem own_lt {w : World} {base : Nat} {e : TypeId} {size n : Nat} {v : Value} {xs : List Value} (h : w.ownsRow base e size v n xs) : ∀ k, v.ownBlock = some k → k < w.heap.size := by
  intro k hk
  rcases h.2 with ⟨rfl, _⟩ | ⟨g, cap, cur, rfl, hg, hh, _⟩
  · simp [Value.ownBlock] at hk
  · simp [Value.ownBlock] at hk
    subst hk
    rcases Nat.lt_or_ge g w.heap.size with hlt | hge
    · exact hlt
    · rw [Array.getElem?_eq_none hge] at hh; cases hh
theorem box_kept {wr w1 : World} {base : Nat} {e : TypeId} {size n : Nat} {v : Value} {xs : List Value} {a b : Value} {T : TypeId} (h : wr.ownsRow base e size v n xs) (hg : (wr.alloc (.cells #[a, b] T)).grownBy w1 v.ownBlock) :
    w1.cell? ⟨wr.heap.size, 0, none⟩ = some a ∧ w1.cell? ⟨wr.heap.size, 1, none⟩ = some b := by
  have hne : some wr.heap.size ≠ v.ownBlock := fun he => by have := own_lt h _ he.symm; omega
  have hb := heap_alloc_new wr (.cells #[a, b] T)
  exact ⟨hg.cell (a := ⟨wr.heap.size, 0, none⟩) (cell_of_row _ _ 0 _ _ _ hb) hne, hg.cell (a := ⟨wr.heap.size, 1, none⟩) (cell_of_row _ _ 1 _ _ _ hb) hne⟩
theorem join_step {xs : List (List UInt8 × Bool)} {k : Nat} (hk : k < xs.length) : P.join (xs.drop k) = xs[k].1 ++ (if !xs[k].2 || decide (k + 1 < xs.length) then [10] else []) ++ P.join (xs.drop (k + 1)) := by
  rw [drop_line hk, P.join]
  congr 3
  cases h : (xs.drop (k + 1)).isEmpty with
  | true =>
    have := List.isEmpty_iff.1 h
    have := congrArg List.length this
    simp at this
    rw [decide_eq_false (by omega)]; rfl
  | false =>
    rw [decide_eq_true]; rfl
    have : ¬ xs.drop (k + 1) = [] := fun e => by rw [e] at h; cases h
    rcases Nat.lt_or_ge (k + 1) xs.length with h' | h'
    · exact h'
    · exact absurd (List.drop_eq_nil_of_le h') this

end Go.Proofs.Ytlkfmaeillnhhaa.T

namespace Go.Proofs.Ytlkfmaeillnhhaa.T
open Go.RowKit

/-- A slice's bytes, wherever it lies. -/
def BytesIn (w : World) (A : Option Addr) (l : List UInt8) : Prop :=
  0 < l.length → ∃ bk off, A = some ⟨bk, off, none⟩ ∧ bk < w.heap.size ∧ BytesAt w bk off l
theorem BytesIn.below {w w' : World} {A : Option Addr} {l : List UInt8} (h : BytesIn w A l) (hb : Below w.heap.size w w') : BytesIn w' A l := fun hp => by
  obtain ⟨bk, off, e, hlt, hl⟩ := h hp
  exact ⟨bk, off, e, Nat.lt_of_lt_of_le hlt hb.size, hl.below hb hlt⟩
theorem bytes_of_own {w : World} {base : Nat} {v : Value} {l : List UInt8} (h : w.ownsRow base 5 1 v l.length (byteCells l)) :
    ∃ A cap, v = .slice A l.length cap ∧ l.length ≤ cap ∧ BytesIn w A l := by
  obtain ⟨A, cap, hv, hc, hA⟩ := own_form h
  refine ⟨A, cap, hv, hc, fun hp => ?_⟩
  obtain ⟨g, rfl, _, hlt, hcells⟩ := hA hp
  exact ⟨g, 0, rfl, hlt, fun j hj => by rw [Nat.zero_add]; exact hcells _ _ (by simp [byteCells, List.getElem?_eq_getElem hj])⟩
section
variable {P : Program} {md : Region.Mode} {ops : Array Oper} {Q : Exit → Act → World → Prop} {S S' : World → Prop}
/-- On its way a region's walk may be asked for more behind each operation. -/
theorem wpAnyH_more (h : ∀ w, S' w → S w) : ∀ (fuel : Nat) (listed : Array Bool) (a : Act) (w : World), wpAnyH P md ops Q S' fuel listed a w → wpAnyH P md ops Q S fuel listed a w
  | 0, _, _, _, H => H
  | fuel + 1, _, _, _, H => ⟨H.1, fun i hi => wpOp_mono (fun a' w' h' => ⟨h _ h'.1, wpAnyH_more h fuel _ a' w' h'.2⟩) (H.2 i hi)⟩
end
/-- All that is there stays as it is. -/
def Keeps (w : World) : World → Prop := fun w' => Below w.heap.size w w'
theorem Keeps.b {a b : World} (h : Keeps a b) : Below a.heap.size a b := h
theorem keeps_drew (w : World) : Keeps w w.drew := (Below.refl _ _).drew
theorem Keeps.trans {a b c : World} (h : Keeps a b) (h' : Keeps b c) : Keeps a c := Below.trans h (Below.mono h' (Below.size h))
end Go.Proofs.Ytlkfmaeillnhhaa.T

namespace Go.Proofs.Ytlkfmaeillnhhaa.V
set_option linter.unusedVariables false
set_option linter.unusedSimpArgs false
open Go.RowKit
open T
open I (It Lb ItemsIn ItemsAt ItemsOk itCells itCells_snoc itCells_at items_cells own_at own_below alloc1)

/-- A slice's numbers, wherever it lies. -/
def IntsIn (w : World) (A : Option Addr) (xs : List Int) : Prop :=
  0 < xs.length → ∃ bk off, A = some ⟨bk, off, none⟩ ∧ bk < w.heap.size ∧ L.IntsAt w bk off xs
theorem IntsIn.below {w w' : World} {A : Option Addr} {xs : List Int} (h : IntsIn w A xs) (hb : Below w.heap.size w w') : IntsIn w' A xs := fun hp => by
  obtain ⟨bk, off, e, hlt, hl⟩ := h hp
  exact ⟨bk, off, e, Nat.lt_of_lt_of_le hlt hb.size, hl.below hb hlt⟩
/-- The cells of numbers. -/
def numCells (xs : List Int) : List Value := xs.map fun n => .int .i64 n
theorem numCells_snoc (xs : List Int) (n : Int) : numCells (xs ++ [n]) = numCells xs ++ [.int .i64 n] := by simp [numCells]
theorem ints_own {w : World} {base : Nat} {A : Option Addr} {cap : Nat} {xs : List Int} (h : w.ownsRow base 3 1 (.slice A xs.length cap) xs.length (numCells xs)) : IntsIn w A xs := by
  intro hp
  obtain ⟨g, hA, _, hlt, hc⟩ := own_at h hp
  refine ⟨g, 0, hA, hlt, fun j hj => ?_⟩
  rw [Nat.zero_add]
  exact hc j _ (by simp [numCells, List.getElem?_eq_getElem hj])
theorem drawn_below (w : World) (q : Nat) : Below w.heap.size w (w.drewN q) := below_drewN (Below.refl _ _) q
theorem ext_to {α : Type} {xs ys : List α} (hl : xs.length = ys.length) (h : ∀ j (hj : j < xs.length) (hj' : j < ys.length), j < xs.length → xs[j] = ys[j]) : xs = ys := List.ext_getElem hl fun j hj hj' => h j hj hj' hj
theorem ext_no {α : Type} {xs ys : List α} {k : Nat} (hk : k < xs.length) (hk' : k < ys.length) (h : ¬ xs[k] = ys[k]) : ¬ xs = ys := fun e => h (by subst e; rfl)
theorem ext_step {α : Type} {xs ys : List α} {k : Nat} (hk : k < xs.length) (hk' : k < ys.length) (h : xs[k] = ys[k]) (H : ∀ j (hj : j < xs.length) (hj' : j < ys.length), j < k → xs[j] = ys[j]) : ∀ j (hj : j < xs.length) (hj' : j < ys.length), j < k + 1 → xs[j] = ys[j] := fun j hj hj' hjk => by
  by_cases e : j = k
  · subst e; exact h
  · exact H j hj hj' (by omega)

set_option maxHeartbeats 1000000 in
set_option maxRecDepth 100000 in
theorem rints_any (A A' : Option Addr) (cap cap' : Nat) (xs ys : List Int) (w : World) (hx : xs.length ≤ maxLen) (hA : IntsIn w A xs) (hA' : IntsIn w A' ys) :
    Calls Try.prog 14 #[.slice A xs.length cap, .slice A' ys.length cap'] w fun e w' => e = .returned (.bool (decide (xs = ys))) ∧ Below w.heap.size w w' := by
  unfold maxLen at hx
  have HA := Lib.hid hA
  have HB := Lib.hid hA'
  clear hA hA'
  by_cases hl : xs.length = ys.length
  · have hne : ((xs.length : Int) != (xs.length : Int)) = false := by simp
    rw [← hl]
    have HL := Lib.hid hl
    clear hl
    go_enter Try.func14, Try.ntmps14
    go_wp2_with fail
    go_loopg [5] xs.length (fun n i wr => ∃ k : Nat, k ≤ xs.length ∧ i = .int .i64 k ∧ xs.length - k ≤ n ∧ (∃ q, wr = w.drewN q) ∧ Hid (∀ j (hj : j < xs.length) (hj' : j < ys.length), j < k → xs[j] = ys[j]))
    case atStart => exact ⟨0, Nat.zero_le _, rfl, by omega, ⟨0, rfl⟩, Lib.hid fun j hj hj' h => absurd h (by omega)⟩
    case round =>
      obtain ⟨k, hk, rfl, hn, ⟨q, rfl⟩, HJ⟩ := hrel
      by_cases hlt : k < xs.length
      · obtain ⟨bk, off, hAe, hbk, hL⟩ := HA.out (by omega)
        obtain ⟨bk', off', hAe', hbk', hL'⟩ := HB.out (by have := HL.out; omega)
        subst hAe hAe'
        have c0 := hL k hlt
        have hky : k < ys.length := by have := HL.out; omega
        have d0 := hL' k hky
        have h0k : (0 : Int) ≤ (k : Int) := Int.natCast_nonneg _
        have h1k : (k : Int) < (xs.length : Int) := by omega
        have HY := Lib.hid (fun (h : xs[k] = ys[k]) => ext_step hlt hky h HJ.out)
        have HN := Lib.hid (fun (h : ¬ xs[k] = ys[k]) => ext_no hlt hky h)
        clear hL hL'
        generalize xs[k] = x0 at *
        generalize ys[k] = y0 at *
        by_cases he : x0 = y0
        · have HY2 := Lib.hid (HY.out he)
          subst he
          clear HY HN
          go_wp2_with fail
          go_quiet (fail)
          go_wp2_with fail
          go_roundg (xs.length - (k + 1))
          case measure => omega
          case rel => exact ⟨k + 1, by omega, by go_num, Nat.le_refl _, ⟨_, rfl⟩, HY2⟩
        · have HN2 := Lib.hid (decide_eq_false (HN.out he))
          have hnx : (x0 != y0) = true := by simpa using he
          clear HY HN he
          go_wp2_with fail
          go_quiet (fail)
          go_wp2_with fail
          go_ret
          exact ⟨ret_of (by rw [HN2.out]; rfl), below_drewN (drawn_below _ _) _⟩
      · obtain rfl : k = xs.length := by omega
        have HY := Lib.hid (decide_eq_true (ext_to HL.out HJ.out))
        go_wp2_with fail
        go_ret
        exact ⟨ret_of (by rw [HY.out]; rfl), drawn_below _ _⟩
  · have hne : ((xs.length : Int) != (ys.length : Int)) = true := by simp; omega
    have HN := Lib.hid (decide_eq_false (fun e : xs = ys => hl (by rw [e])))
    clear hl
    generalize xs.length = n1 at *
    generalize ys.length = n2 at *
    go_enter Try.func14, Try.ntmps14
    go_wp2_with fail
    go_ret
    exact ⟨ret_of (by rw [HN.out]; rfl), Below.refl _ _⟩

theorem it_ne {a0 a1 b0 b1 : Int} {a2 b2 : Nat} {a3 a5 b3 b5 : Bool} {a4 b4 : List UInt8} (h : ¬ (⟨a0, a1, a2, a3, a4, a5⟩ : It) = ⟨b0, b1, b2, b3, b4, b5⟩) :
    a0 ≠ b0 ∨ (a0 = b0 ∧ a1 ≠ b1) ∨ (a0 = b0 ∧ a1 = b1 ∧ (a2 : Int) ≠ (b2 : Int)) ∨ (a0 = b0 ∧ a1 = b1 ∧ a2 = b2 ∧ a3 ≠ b3) ∨ (a0 = b0 ∧ a1 = b1 ∧ a2 = b2 ∧ a3 = b3 ∧ (⟨a4.toArray⟩ : ByteArray).toList ≠ (⟨b4.toArray⟩ : ByteArray).toList) ∨ (a0 = b0 ∧ a1 = b1 ∧ a2 = b2 ∧ a3 = b3 ∧ (⟨a4.toArray⟩ : ByteArray) = ⟨b4.toArray⟩ ∧ a5 ≠ b5) := by
  by_cases h0 : a0 = b0
  · by_cases h1 : a1 = b1
    · by_cases h2 : a2 = b2
      · by_cases h3 : a3 = b3
        · by_cases h4 : a4 = b4
          · by_cases h5 : a5 = b5
            · exact absurd (by rw [h0, h1, h2, h3, h4, h5]) h
            · exact .inr (.inr (.inr (.inr (.inr ⟨h0, h1, h2, h3, by rw [h4], h5⟩))))
          · refine .inr (.inr (.inr (.inr (.inl ⟨h0, h1, h2, h3, fun e => h4 ?_⟩))))
            simpa [Lib.toList_data] using e
        · exact .inr (.inr (.inr (.inl ⟨h0, h1, h2, h3⟩)))
      · exact .inr (.inr (.inl ⟨h0, h1, by omega⟩))
    · exact .inr (.inl ⟨h0, h1⟩)
  · exact .inl h0

end Go.Proofs.Ytlkfmaeillnhhaa.V

namespace Go.Proofs.Ytlkfmaeillnhhaa.V
set_option linter.unusedVariables false
set_option linter.unusedSimpArgs false
open Go.RowKit
open T
open I (It Lb ItemsIn ItemsAt ItemsOk itCells itCells_snoc itCells_at items_cells own_at own_below alloc1)

/-- An item's cells. -/
structure ItAt (w : World) (bk o : Nat) (y : It) : Prop where
  lt : bk < w.heap.size
  c0 : w.cell? ⟨bk, o, none⟩ = some (.int .i64 y.id)
  c1 : w.cell? ⟨bk, o + 1, none⟩ = some (.int .i64 y.lv)
  c2 : w.cell? ⟨bk, o + 2, none⟩ = some (.int .u64 (y.ct : Int))
  c3 : w.cell? ⟨bk, o + 3, none⟩ = some (.bool y.an)
  c4 : w.cell? ⟨bk, o + 4, none⟩ = some (.string ⟨y.tx.toArray⟩)
  c5 : w.cell? ⟨bk, o + 5, none⟩ = some (.bool y.ba)
theorem ItAt.below {w w' : World} {bk o : Nat} {y : It} (h : ItAt w bk o y) (hb : Below w.heap.size w w') : ItAt w' bk o y :=
  ⟨Nat.lt_of_lt_of_le h.lt hb.size, (hb.cell (p := ⟨bk, _, none⟩) h.lt).trans h.c0, (hb.cell (p := ⟨bk, _, none⟩) h.lt).trans h.c1, (hb.cell (p := ⟨bk, _, none⟩) h.lt).trans h.c2, (hb.cell (p := ⟨bk, _, none⟩) h.lt).trans h.c3, (hb.cell (p := ⟨bk, _, none⟩) h.lt).trans h.c4, (hb.cell (p := ⟨bk, _, none⟩) h.lt).trans h.c5⟩
theorem it_at {w : World} {bk off k : Nat} {xs : List It} (h : ItemsAt w bk off xs) (hb : bk < w.heap.size) (hk : k < xs.length) : ItAt w bk (off + k * 6) xs[k] := by
  obtain ⟨c0, c1, c2, c3, c4, c5⟩ := h k hk
  exact ⟨hb, c0, c1, c2, c3, c4, c5⟩
theorem lab_cells {w : World} {g : Nat} {l : Int} {k : Nat} (h : w.heap[g]? = some (.cells #[.int .i64 l, .int .u64 (k : Int)] 25 (0, 0))) :
    w.cell? ⟨g, 0, none⟩ = some (.int .i64 l) ∧ w.cell? ⟨g, 1, none⟩ = some (.int .u64 (k : Int)) := ⟨L.blk_cell h 0, L.blk_cell h 1⟩
theorem own_base_le {w : World} {base base' : Nat} {e : TypeId} {size n : Nat} {v : Value} {xs : List Value} (h : w.ownsRow base e size v n xs) (hb : base' ≤ base) : w.ownsRow base' e size v n xs := own_more h hb
def RbC (l m : Int) (c d : Nat) (b : Bool) : Prop := ∀ w : World, Calls Try.prog 18 #[L.lab l c, L.lab m d] w fun e w' => e = .returned (.bool b) ∧ Below w.heap.size w w'
theorem RbC.call {l m : Int} {c d : Nat} {b : Bool} (h : RbC l m c d b) (w : World) : Calls Try.prog 18 #[L.lab l c, L.lab m d] w fun e w' => e = .returned (.bool b) ∧ Below w.heap.size w w' := h w
theorem rb_is (o : Lb) (y : It) (hc : y.ct < 18446744073709551616) : RbC y.lv o.1 y.ct o.2 (sees o y) := fun w => L.refBelow_any y.lv o.1 y.ct o.2 w hc
theorem cut_take {o : Lb} {l : List It} {k : Nat} (hk : k < l.length) : cut o (l.take (k + 1)) = cut o (l.take k) ++ (if sees o l[k] = true then [l[k]] else []) := by
  rw [List.take_succ_eq_append_getElem hk, cut_snoc]
theorem cut_le (o : Lb) (l : List It) : (cut o l).length ≤ l.length := List.length_filter_le _ _

end Go.Proofs.Ytlkfmaeillnhhaa.V

namespace Go.Proofs.Ytlkfmaeillnhhaa.V
set_option linter.unusedVariables false
set_option linter.unusedSimpArgs false
open Go.RowKit
open T
open I (It Lb ItemsIn ItemsAt ItemsOk itCells itCells_snoc itCells_at items_cells own_at own_below alloc1)

/-- The ID at a place; 0 where none is. -/
def idAt (l : List It) (a : Int) : Int := if 0 ≤ a then ((l[a.toNat]?).map (·.id)).getD 0 else 0
def ids (l : List It) (t : List Int) : List Int := t.map (idAt l)
theorem idAt_step {l : List It} {j : Nat} (hj : j < l.length) (a : Int) : idAt (l.take (j + 1)) a = if (j : Int) = a then l[j].id else idAt (l.take j) a := by
  unfold idAt
  by_cases h0 : 0 ≤ a
  · obtain ⟨n, rfl⟩ := Int.eq_ofNat_of_zero_le h0
    rw [if_pos h0, if_pos h0, Int.toNat_natCast, List.getElem?_take, List.getElem?_take]
    by_cases h1 : j = n
    · subst h1
      rw [if_pos rfl, if_pos (show j < j + 1 by omega), List.getElem?_eq_getElem hj]; rfl
    · rw [if_neg (show ¬ (j : Int) = (n : Int) by omega)]
      by_cases h2 : n < j
      · rw [if_pos (show n < j + 1 by omega), if_pos h2]
      · rw [if_neg (show ¬ n < j + 1 by omega), if_neg h2]
  · rw [if_neg h0, if_neg h0, if_neg (by omega)]
theorem idAt_none (a : Int) : idAt [] a = 0 := by unfold idAt; split <;> rfl
theorem ids_take {l : List It} {t : List Int} {k : Nat} (hk : k < t.length) : ids l (t.take (k + 1)) = ids l (t.take k) ++ [idAt l t[k]] := by
  unfold ids; rw [List.take_succ_eq_append_getElem hk, List.map_append]; rfl
end Go.Proofs.Ytlkfmaeillnhhaa.V

namespace Go.Proofs.Ytlkfmaeillnhhaa.V
set_option linter.unusedVariables false
set_option linter.unusedSimpArgs false
open Go.RowKit
open T
open I (It Lb ItemsIn ItemsAt ItemsOk itCells itCells_snoc itCells_at items_cells own_at own_below alloc1)

theorem own_ne {w : World} {base : Nat} {e : TypeId} {size n : Nat} {v : Value} {xs : List Value} (h : w.ownsRow base e size v n xs) {g : Nat} (hne : ∀ cs, w.heap[g]? ≠ some (.cells cs e (0, 0))) : v.ownBlock = none ∨ v.ownBlock ≠ some g := by
  rcases h.2 with ⟨rfl, _⟩ | ⟨g', cap, cur, rfl, hg, hh, _⟩
  · exact .inl rfl
  · refine .inr fun e' => ?_
    simp [Value.ownBlock] at e'
    subst e'
    exact hne _ hh
theorem own_ne' {w : World} {base : Nat} {e : TypeId} {size n : Nat} {v : Value} {xs : List Value} (h : w.ownsRow base e size v n xs) {g : Nat} (hne : ∀ cs, w.heap[g]? ≠ some (.cells cs e (0, 0))) : some g ≠ v.ownBlock := fun e' => by
  rcases own_ne h hne with h1 | h1
  · rw [h1] at e'; cases e'
  · exact h1 e'.symm
theorem own_apart {w : World} {base base' : Nat} {e e' : TypeId} {size size' n n' : Nat} {v v' : Value} {xs xs' : List Value} (hne : e ≠ e') (h : w.ownsRow base e size v n xs) (h' : w.ownsRow base' e' size' v' n' xs') : v.ownBlock = none ∨ v.ownBlock ≠ v'.ownBlock := by
  rcases h'.2 with ⟨rfl, _⟩ | ⟨g', cap, cur, rfl, hg, hh, _⟩
  · cases hv : v.ownBlock with
    | none => exact .inl rfl
    | some k => exact .inr (by simp [Value.ownBlock])
  · rcases own_ne h (g := g') (fun cs he => by rw [hh] at he; injection he with he; injection he with _ he; exact hne he.symm) with h1 | h1
    · exact .inl h1
    · exact .inr (by simpa [Value.ownBlock] using h1)
theorem grown_of {w w' : World} (hb : Below w.heap.size w w') (row : Option Nat) : w.grownBy w' row := ⟨hb.os, hb.tape, hb.output, hb.size, fun k hk _ => hb.block k hk⟩
theorem grown_set (w : World) (p : Addr) (u : Value) : w.grownBy (w.setCell p u) (some p.block) :=
  ⟨rfl, rfl, rfl, by simp [World.setCell], fun k _ hk => Below.heap_setCell _ _ _ _ (fun e => hk (by rw [e]))⟩
section
variable {w w' : World} {base vb : Nat} {vl va v' : Value} {ls ls' : List (List UInt8 × Bool)} {ts ts' : List Int}
end
def atI (o : Lb) (l : List It) : List Int := (ats o 0 l).map fun n : Nat => (n : Int)
theorem atI_take {o : Lb} {l : List It} {k : Nat} (hk : k < l.length) : atI o (l.take (k + 1)) = atI o (l.take k) ++ (if sees o l[k] = true then [(k : Int)] else []) := by
  unfold atI
  rw [List.take_succ_eq_append_getElem hk, ats_snoc, List.map_append, Nat.zero_add, List.length_take, Nat.min_eq_left (by omega)]
  split <;> rfl
theorem lst_take {o : Lb} {l : List It} {k : Nat} (hk : k < l.length) : lst o 0 (-1) (l.take (k + 1)) = if sees o l[k] = true then (k : Int) else lst o 0 (-1) (l.take k) := by
  rw [List.take_succ_eq_append_getElem hk, lst_snoc, Nat.zero_add, List.length_take, Nat.min_eq_left (by omega)]
theorem rln_take {o : Lb} {h : List UInt8} {z : Int} {l : List It} {k : Nat} (hk : k < l.length) : rln o h z 0 (l.take (k + 1)) = rln o h z 0 (l.take k) ++ (if sees o l[k] = true then [(txt h l[k], decide ((k : Int) = z) && l[k].ba)] else []) := by
  rw [List.take_succ_eq_append_getElem hk, rln_snoc, Nat.zero_add, List.length_take, Nat.min_eq_left (by omega)]
theorem rln_length (o : Lb) (h : List UInt8) (z : Int) : ∀ (l : List It) (k : Nat), (rln o h z k l).length = (cut o l).length
  | [], _ => rfl
  | x :: r, k => by
    rw [rln]
    by_cases hx : sees o x = true
    · rw [if_pos hx, List.length_cons, rln_length o h z r]; simp [cut, hx]
    · rw [if_neg hx, rln_length o h z r]; simp [cut, hx]
theorem lnCells_snoc (xs : List (List UInt8 × Bool)) (t : List UInt8) (b : Bool) : lineCells (xs ++ [(t, b)]) = lineCells xs ++ [.string ⟨t.toArray⟩, .bool b] := lineCells_snoc xs t b
end Go.Proofs.Ytlkfmaeillnhhaa.V

namespace Go.Proofs.Ytlkfmaeillnhhaa.V
set_option linter.unusedVariables false
set_option linter.unusedSimpArgs false
open Go.RowKit
open T
open I (It Lb ItemsIn ItemsAt ItemsOk itCells itCells_snoc itCells_at items_cells own_at own_below alloc1)

end Go.Proofs.Ytlkfmaeillnhhaa.V

namespace Go.Proofs.Ytlkfmaeillnhhaa.T
open Go.RowKit

/-- Is there a byte 10? -/
def hasNl (l : List UInt8) : Bool := l.contains 10
theorem has_at {s : ByteArray} {k : Nat} (hk : k < s.size) (h : (s[k].toNat : Int) = 10) : hasNl s.data.toList = true := by
  unfold hasNl
  have hl : k < s.data.toList.length := by rw [← Lib.size_eq]; exact hk
  rw [List.contains_iff_mem]
  have : s.data.toList[k] = 10 := by rw [byte s k hk hl]; exact UInt8.toNat_inj.1 (show s[k].toNat = 10 by omega)
  rw [← this]; exact List.getElem_mem hl
theorem has_none {s : ByteArray} (h : ∀ j (hj : j < s.size), ¬ (s[j].toNat : Int) = 10) : hasNl s.data.toList = false := by
  unfold hasNl
  rw [← Bool.not_eq_true, List.contains_iff_mem]
  intro hm
  obtain ⟨j, hj, e⟩ := List.getElem_of_mem hm
  have hj' : j < s.size := by rw [Lib.size_eq]; exact hj
  rw [byte s j hj' hj] at e
  exact h j hj' (by rw [e]; rfl)

theorem right_step {xs : List (List UInt8 × Bool)} {k : Nat} (hk : k < xs.length) : P.right (xs.drop k) = (!(hasNl xs[k].1) && !(xs[k].2 && (decide (k + 1 < xs.length) || xs[k].1.isEmpty)) && P.right (xs.drop (k + 1))) := by
  unfold hasNl
  rw [drop_line hk, P.right]
  congr 4
  cases h : (xs.drop (k + 1)).isEmpty with
  | true =>
    have := List.isEmpty_iff.1 h
    have := congrArg List.length this
    simp at this
    rw [decide_eq_false (by omega)]; rfl
  | false =>
    rw [decide_eq_true]; rfl
    have : ¬ xs.drop (k + 1) = [] := fun e => by rw [e] at h; cases h
    rcases Nat.lt_or_ge (k + 1) xs.length with h' | h'
    · exact h'
    · exact absurd (List.drop_eq_nil_of_le h') this
end Go.Proofs.Ytlkfmaeillnhhaa.T

namespace Go.Proofs.Ytlkfmaeillnhhaa.T
open Go.RowKit

end Go.Proofs.Ytlkfmaeillnhhaa.T

namespace Go.Proofs.Ytlkfmaeillnhhaa.P

/-- The digits of a list read on from n, without a bound. -/
def valGo : List UInt8 → Nat → Option Nat
  | [], n => some n
  | c :: r, n => if c.toNat < 48 ∨ 57 < c.toNat then none else valGo r (10 * n + (c.toNat - 48))
/-- Asked at the end. -/
def upTo (o : Option Nat) : Option Nat := o.bind fun m => if 2147483647 < m then none else some m

theorem valGo_ge : ∀ (l : List UInt8) (n m : Nat), valGo l n = some m → n * 10 ^ l.length ≤ m
  | [], n, m, h => by simp [valGo] at h; simp; omega
  | c :: r, n, m, h => by
    rw [valGo] at h
    split at h
    · cases h
    · have := valGo_ge r _ m h
      rw [List.length_cons, Nat.pow_succ]
      have e : (10 * n) * 10 ^ r.length ≤ (10 * n + (c.toNat - 48)) * 10 ^ r.length := Nat.mul_le_mul_right _ (by omega)
      have e2 : n * (10 ^ r.length * 10) = (10 * n) * 10 ^ r.length := by rw [Nat.mul_comm (10 ^ r.length) 10, ← Nat.mul_assoc, Nat.mul_comm n 10]
      omega
theorem valGo_le (l : List UInt8) (n m : Nat) (h : valGo l n = some m) : n ≤ m := by
  have h1 := valGo_ge l n m h
  have h2 : n * 1 ≤ n * 10 ^ l.length := Nat.mul_le_mul_left _ (Nat.pow_pos (by omega))
  omega

theorem numGo_val : ∀ (l : List UInt8) (n : Nat), n ≤ 2147483647 → numGo l n = upTo (valGo l n)
  | [], n, h => by simp [numGo, valGo, upTo]; omega
  | c :: r, n, h => by
    rw [numGo, valGo]
    split
    · rfl
    · split
      · next hb =>
        cases e : valGo r (10 * n + (c.toNat - 48)) with
        | none => rfl
        | some m =>
          have := valGo_le _ _ _ e
          simp [upTo]; omega
      · next hb => exact numGo_val r _ (by omega)

/-- Too long: more than ten digits without a 0 ahead. -/
theorem number_long (l : List UInt8) (h : 10 < l.length) : number l = none := by
  rw [number]
  split
  · rfl
  · next hc =>
    match l, h, hc with
    | c :: r, h, hc =>
      rw [numGo_val _ _ (by omega)]
      cases e : valGo (c :: r) 0 with
      | none => rfl
      | some m =>
        have hne : c ≠ 48 := fun e => hc (.inr ⟨by rw [e]; rfl, by simp at h ⊢; omega⟩)
        rw [valGo] at e
        split at e
        · cases e
        · next hd =>
          have h1 := valGo_ge r _ m e
          have hc48 : c.toNat ≠ 48 := fun e => hne (UInt8.toNat_inj.1 e)
          have h2 : 1 * 10 ^ 10 ≤ (10 * 0 + (c.toNat - 48)) * 10 ^ r.length :=
            Nat.mul_le_mul (by omega) (Nat.pow_le_pow_right (by omega) (by simp at h; omega))
          simp [upTo]; omega
theorem number_val (l : List UInt8) (h0 : l ≠ []) (h : ¬ (1 < l.length ∧ l.head? = some 48)) : number l = upTo (valGo l 0) := by
  rw [number, if_neg (by rintro (e | e); exact h0 e; exact h ⟨e.2, e.1⟩), numGo_val _ _ (by omega)]

theorem numGo_snoc : ∀ (l : List UInt8) (c : UInt8) (n : Nat), numGo (l ++ [c]) n = (numGo l n).bind fun m => numGo [c] m
  | [], c, n => by simp [numGo]
  | x :: r, c, n => by
    rw [List.cons_append, numGo, numGo]
    split
    · rfl
    · split
      · rfl
      · exact numGo_snoc r c _

theorem digit (d : Nat) (h : d < 10) : (UInt8.ofNat (48 + d)).toNat = 48 + d := by
  rw [UInt8.toNat_ofNat']; omega
theorem digit_of (c : UInt8) (h : 48 ≤ c.toNat) (h2 : c.toNat ≤ 57) : UInt8.ofNat (48 + (c.toNat - 48)) = c := by
  rw [show 48 + (c.toNat - 48) = c.toNat by omega]; simp

theorem numGo_dec (u : Nat) (h : u ≤ 2147483647) : numGo (Lib.decDigits u) 0 = some u := by
  induction u using Nat.strongRecOn with
  | ind u ih =>
    rw [Lib.decDigits]
    split
    · next hu => rw [numGo, digit u hu, if_neg (by omega), if_neg (by omega), numGo]; congr 1; omega
    · next hu =>
      rw [numGo_snoc, ih (u / 10) (by omega) (by omega)]
      show numGo [_] (u / 10) = _
      rw [numGo, digit _ (by omega), if_neg (by omega), if_neg (by omega), numGo]
      congr 1; omega
theorem dec_ne (u : Nat) : Lib.decDigits u ≠ [] := by
  rw [Lib.decDigits]; split <;> simp
theorem dec_head (u : Nat) : 1 ≤ u → (Lib.decDigits u).head? ≠ some 48 := by
  induction u using Nat.strongRecOn with
  | ind u ih =>
    intro hu1
    rw [Lib.decDigits]
    split
    · next hu =>
      simp only [List.head?_cons, ne_eq, Option.some.injEq]
      intro e
      have := congrArg UInt8.toNat e
      rw [digit u hu] at this
      simp at this; omega
    · next hu =>
      have hne := dec_ne (u / 10)
      have := ih (u / 10) (by omega) (by omega)
      cases e : Lib.decDigits (u / 10) with
      | nil => exact absurd e hne
      | cons x r => rw [e] at this; simpa using this
theorem number_dec (u : Nat) (h : u ≤ 2147483647) : number (Lib.decDigits u) = some u := by
  rw [number, if_neg, numGo_dec u h]
  rintro (e | ⟨e1, e2⟩)
  · exact dec_ne u e
  · rcases Nat.eq_zero_or_pos u with h0 | h0
    · subst h0; rw [Lib.decDigits_one (by omega)] at e2; simp at e2
    · exact dec_head u h0 e1

theorem numGo_le (l : List UInt8) (n m : Nat) (hn : n ≤ 2147483647) (h : numGo l n = some m) : n ≤ m ∧ m ≤ 2147483647 := by
  rw [numGo_val l n hn] at h
  cases e : valGo l n with
  | none => rw [e] at h; cases h
  | some k =>
    rw [e] at h
    have := valGo_le l n k e
    simp only [upTo, Option.bind_some] at h
    split at h
    · cases h
    · injection h with h; omega

theorem dec_numGo (l : List UInt8) : ∀ n, l ≠ [] → (l.head? = some 48 → l.length = 1) → numGo l 0 = some n → Lib.decDigits n = l := by
  induction hl : l.length generalizing l with
  | zero => intro n h; exact absurd (List.eq_nil_of_length_eq_zero hl) h
  | succ k ih =>
    intro n hne hz h
    obtain ⟨i, c, rfl⟩ : ∃ i c, l = i ++ [c] := ⟨l.dropLast, l.getLast hne, (List.dropLast_concat_getLast hne).symm⟩
    rw [numGo_snoc] at h
    cases em : numGo i 0 with
    | none => rw [em] at h; cases h
    | some m =>
      rw [em] at h
      simp only [Option.bind_some, numGo] at h
      split at h
      · cases h
      · next hd =>
        split at h
        · cases h
        · next hb =>
          injection h with h
          subst h
          by_cases hi : i = []
          · subst hi
            simp only [numGo, Option.some.injEq] at em
            subst em
            rw [Lib.decDigits_one (by omega), show 48 + (10 * 0 + (c.toNat - 48)) = 48 + (c.toNat - 48) by omega, digit_of c (by omega) (by omega)]
            rfl
          · have hih := ih i (by simp at hl; omega) m hi (fun e => by
              have : (i ++ [c]).head? = some 48 := by
                cases i with
                | nil => exact absurd rfl hi
                | cons x r => simpa using e
              have := hz this
              have hik : i.length = k := by simp at hl; omega
              exact absurd (List.eq_nil_of_length_eq_zero (by omega)) hi) em
            have hm : 1 ≤ m := by
              rcases Nat.eq_zero_or_pos m with h0 | h0
              · subst h0
                rw [Lib.decDigits_one (by omega)] at hih
                have : (i ++ [c]).head? = some 48 := by rw [← hih]; rfl
                have := hz this
                have hik : i.length = k := by simp at hl; omega
                exact absurd (List.eq_nil_of_length_eq_zero (by omega)) hi
              · exact h0
            rw [Lib.decDigits, dif_neg (by omega), show (10 * m + (c.toNat - 48)) / 10 = m by omega, show (10 * m + (c.toNat - 48)) % 10 = c.toNat - 48 by omega, hih, digit_of c (by omega) (by omega)]
theorem dec_number (l : List UInt8) (n : Nat) (h : number l = some n) : Lib.decDigits n = l ∧ n ≤ 2147483647 := by
  rw [number] at h
  split at h
  · cases h
  · next hc =>
    refine ⟨dec_numGo l n (fun e => hc (.inl e)) (fun e => ?_) h, (numGo_le l 0 n (by omega) h).2⟩
    have : ¬ 1 < l.length := fun e2 => hc (.inr ⟨e, e2⟩)
    cases l with
    | nil => simp at e
    | cons x r => simp at this ⊢; omega

theorem decimal_in (n : Int) (h0 : 0 ≤ n) (h1 : n ≤ 2147483647) : decimal n = Lib.decDigits n.toNat := by rw [decimal, if_neg (by omega)]
theorem decimal_out (n : Int) (h : n < 0 ∨ 2147483647 < n) : decimal n = [63] := by rw [decimal, if_pos h]
theorem number_decimal (n : Int) (h0 : 0 ≤ n) (h1 : n ≤ 2147483647) : number (decimal n) = some n.toNat := by
  rw [decimal_in n h0 h1, number_dec _ (by omega)]
theorem number_untold (n : Int) (h : n < 0 ∨ 2147483647 < n) : number (decimal n) = none := by
  rw [decimal_out n h]; decide
theorem decimal_number (l : List UInt8) (n : Nat) (h : number l = some n) : decimal n = l := by
  have := dec_number l n h
  rw [decimal_in n (by omega) (by omega)]
  simpa using this.1
theorem decimal_length (n : Int) : (decimal n).length ≤ 10 := by
  by_cases h : n < 0 ∨ 2147483647 < n
  · rw [decimal_out n h]; decide
  · rw [decimal_in n (by omega) (by omega)]
    rcases Nat.lt_or_ge 10 (Lib.decDigits n.toNat).length with hl | hl
    · have := number_long _ hl
      rw [number_dec _ (by omega)] at this
      cases this
    · exact hl
end Go.Proofs.Ytlkfmaeillnhhaa.P

namespace Go.Proofs.Ytlkfmaeillnhhaa.T
open Go.RowKit

theorem list_data (l : List UInt8) : (⟨l.toArray⟩ : ByteArray).data.toList = l := by simp
theorem list_size (l : List UInt8) : (⟨l.toArray⟩ : ByteArray).size = l.length := by simp [ByteArray.size]
theorem str_eta (s : ByteArray) : (⟨s.data.toList.toArray⟩ : ByteArray) = s := by cases s; simp

end Go.Proofs.Ytlkfmaeillnhhaa.T

namespace Go.Proofs.Ytlkfmaeillnhhaa.T
open Go.RowKit

/-- May a text be a name? -/
theorem name_long (s : ByteArray) (h : s.size < 1 ∨ 64 < s.size) : P.name s.data.toList = false := by
  unfold P.name; rw [← Lib.size_eq]
  rcases h with h | h
  · rw [decide_eq_false (by omega)]; rfl
  · rw [decide_eq_false (p := s.size ≤ 64) (by omega), Bool.and_false]; rfl
theorem name_all (s : ByteArray) (h1 : 1 ≤ s.size) (h2 : s.size ≤ 64) : P.name s.data.toList = s.data.toList.all fun c => decide (33 ≤ c.toNat) && decide (c.toNat ≤ 126) := by
  unfold P.name; rw [← Lib.size_eq, decide_eq_true h1, decide_eq_true h2]; rfl
theorem all_bad (s : ByteArray) (k : Nat) (hk : k < s.size) (h : (s[k].toNat : Int) < 33 ∨ 126 < (s[k].toNat : Int)) : (s.data.toList.all fun c => decide (33 ≤ c.toNat) && decide (c.toNat ≤ 126)) = false := by
  have hl : k < s.data.toList.length := by rw [← Lib.size_eq]; exact hk
  rw [List.all_eq_false]
  refine ⟨s.data.toList[k], List.getElem_mem hl, ?_⟩
  rw [byte s k hk hl]
  simp only [Bool.and_eq_true, decide_eq_true_eq, not_and]
  omega

end Go.Proofs.Ytlkfmaeillnhhaa.T

namespace Go.Proofs.Ytlkfmaeillnhhaa.T
open Go.RowKit

theorem val_bad (s : ByteArray) (k n : Nat) (hk : k < s.size) (h : (s[k].toNat : Int) < 48 ∨ 57 < (s[k].toNat : Int)) : P.valGo (s.data.toList.drop k) n = none := by
  have hl : k < s.data.toList.length := by rw [← Lib.size_eq]; exact hk
  rw [List.drop_eq_getElem_cons hl, P.valGo, if_pos (by rw [byte s k hk hl]; omega)]
theorem val_on (s : ByteArray) (k n : Nat) (hk : k < s.size) (h1 : 48 ≤ (s[k].toNat : Int)) (h2 : (s[k].toNat : Int) ≤ 57) :
    P.valGo (s.data.toList.drop k) n = P.valGo (s.data.toList.drop (k + 1)) (10 * n + (s[k].toNat - 48)) := by
  have hl : k < s.data.toList.length := by rw [← Lib.size_eq]; exact hk
  have e := byte s k hk hl
  rw [List.drop_eq_getElem_cons hl, P.valGo, if_neg (by rw [e]; omega), e]
theorem val_end (s : ByteArray) (n : Nat) : P.valGo (s.data.toList.drop s.size) n = some n := by
  rw [Lib.size_eq, List.drop_length, P.valGo]
theorem pow_bound {n d k : Nat} (h : n < 10 ^ k) (hd : d < 10) (hk : k < 10) : 10 * n + d < 10 ^ (k + 1) ∧ 10 * n + d ≤ 9999999999 := by
  have h1 : 10 * n + d < 10 ^ (k + 1) := by rw [Nat.pow_succ]; omega
  have h2 : 10 ^ (k + 1) ≤ 10 ^ 10 := Nat.pow_le_pow_right (by omega) (by omega)
  omega
theorem number_val (s : ByteArray) (h : 0 < s.size) (h0 : s.size ≤ 1 ∨ ¬ s[0].toNat = 48) : P.number s.data.toList = P.upTo (P.valGo s.data.toList 0) := by
  rw [number_go s h (by rcases h0 with h0 | h0; exact .inl (by omega); exact .inr h0), P.numGo_val _ _ (by omega)]
theorem upTo_none : P.upTo none = none := rfl
theorem upTo_big (n : Nat) (h : 2147483647 < n) : P.upTo (some n) = none := by simp [P.upTo, h]
theorem upTo_in (n : Nat) (h : n ≤ 2147483647) : P.upTo (some n) = some n := by simp [P.upTo]; omega

end Go.Proofs.Ytlkfmaeillnhhaa.T

namespace Go.Proofs.Ytlkfmaeillnhhaa.T
open Go.RowKit

theorem bcell {W w1 : World} (hb : Below W.heap.size W w1) (b o : Nat) (h : b < W.heap.size) : w1.cell? ⟨b, o, none⟩ = W.cell? ⟨b, o, none⟩ := hb.cell (p := ⟨b, o, none⟩) h
theorem dec_small (m : Nat) (h : m < 10) : Lib.decDigits m = [UInt8.ofNat (48 + m)] := Lib.decDigits_one h
theorem dec_big (m : Nat) (h : ¬ m < 10) : Lib.decDigits m = Lib.decDigits (m / 10) ++ [UInt8.ofNat (48 + m % 10)] := by
  conv => lhs; rw [Lib.decDigits, dif_neg h]
theorem str_append (l r : List UInt8) : (⟨l.toArray⟩ : ByteArray) ++ ⟨r.toArray⟩ = ⟨(l ++ r).toArray⟩ := by
  apply ByteArray.ext
  simp

end Go.Proofs.Ytlkfmaeillnhhaa.T

namespace Go.Proofs.Ytlkfmaeillnhhaa.T
open Go.RowKit

theorem lines_nl {l cur : List UInt8} {k : Nat} (hk : k < l.length) (h : l[k].toNat = 10) : P.lines cur (l.drop k) = (cur, false) :: P.lines [] (l.drop (k + 1)) := by
  rw [List.drop_eq_getElem_cons hk, P.lines, if_pos (UInt8.toNat_inj.1 h)]
theorem lines_more {l cur : List UInt8} {k : Nat} (hk : k < l.length) (h : ¬ l[k].toNat = 10) : P.lines cur (l.drop k) = P.lines (cur ++ [l[k]]) (l.drop (k + 1)) := by
  rw [List.drop_eq_getElem_cons hk, P.lines, if_neg (fun e => h (by rw [e]; rfl))]

end Go.Proofs.Ytlkfmaeillnhhaa.T

namespace Go.Proofs.Ytlkfmaeillnhhaa.T
open Go.RowKit

end Go.Proofs.Ytlkfmaeillnhhaa.T

namespace Go.Proofs.Ytlkfmaeillnhhaa.V
set_option linter.unusedVariables false
set_option linter.unusedSimpArgs false
open Go.RowKit
open T
open I (It Lb ItemsIn ItemsAt ItemsOk itCells itCells_snoc itCells_at items_cells own_at own_below alloc1)

/-- A row of a call's own stays when a cell of a block of another type is stored. -/
theorem own_stored {w : World} {base g i : Nat} {u : Value} {e e' : TypeId} {size n : Nat} {v : Value} {xs : List Value} {cs : Array Value} (h : w.ownsRow base e size v n xs) (hg : w.heap[g]? = some (.cells cs e' (0, 0))) (hne : e' ≠ e) : (w.setCell ⟨g, i, none⟩ u).ownsRow base e size v n xs :=
  h.kept (grown_set w ⟨g, i, none⟩ u) (own_ne h fun cs' he => by rw [hg] at he; injection he with he; injection he with _ he; exact hne he)
def LvC (fn : FuncId) : Prop := ∀ W : World, Calls Try.prog fn #[] W fun e w' => e = .returned (.bool true) ∧ Below W.heap.size W w'
theorem LvC.at {fn : FuncId} (h : LvC fn) (W : World) : Calls Try.prog fn #[] W fun e w' => e = .returned (.bool true) ∧ Below W.heap.size W w' := h W
/-- same, of two views of the same lines and places. -/
def SvC (fn : FuncId) (ls : List (List UInt8 × Bool)) (ts : List Int) : Prop := ∀ (W : World) (LA TA LB TB : Option Addr) (lc tc lc' tc' : Nat), LinesIn W LA ls → IntsIn W TA ts → LinesIn W LB ls → IntsIn W TB ts →
  Calls Try.prog fn #[.agg #[.slice LA ls.length lc, .slice TA ts.length tc], .agg #[.slice LB ls.length lc', .slice TB ts.length tc']] W fun e w' => e = .returned (.bool true) ∧ Below W.heap.size W w'
theorem SvC.at {fn : FuncId} {ls : List (List UInt8 × Bool)} {ts : List Int} (h : SvC fn ls ts) (W : World) {LA TA LB TB : Option Addr} {lc tc lc' tc' : Nat} (h1 : LinesIn W LA ls) (h2 : IntsIn W TA ts) (h3 : LinesIn W LB ls) (h4 : IntsIn W TB ts) :
  Calls Try.prog fn #[.agg #[.slice LA ls.length lc, .slice TA ts.length tc], .agg #[.slice LB ls.length lc', .slice TB ts.length tc']] W fun e w' => e = .returned (.bool true) ∧ Below W.heap.size W w' := h W LA TA LB TB lc tc lc' tc' h1 h2 h3 h4
def BsEnd (W : World) (b : List UInt8) (e : Ending) (w' : World) : Prop := ∃ A cap, e = .returned (.slice A b.length cap) ∧ BytesIn w' A b ∧ Below W.heap.size W w'
/-- Text, of a view. -/
def TxC (fn : FuncId) (ls : List (List UInt8 × Bool)) (b : List UInt8) : Prop := ∀ (W : World) (LA TA : Option Addr) (lc tn tc : Nat), LinesIn W LA ls → Calls Try.prog fn #[.agg #[.slice LA ls.length lc, .slice TA tn tc]] W (BsEnd W b)
theorem TxC.at {fn : FuncId} {ls : List (List UInt8 × Bool)} {b : List UInt8} (h : TxC fn ls b) (W : World) {LA TA : Option Addr} {lc tn tc : Nat} (h1 : LinesIn W LA ls) : Calls Try.prog fn #[.agg #[.slice LA ls.length lc, .slice TA tn tc]] W (BsEnd W b) := h W LA TA lc tn tc h1
/-- Join, of lines. -/
def JnC (fn : FuncId) (ls : List (List UInt8 × Bool)) (b : List UInt8) : Prop := ∀ (W : World) (LA : Option Addr) (lc : Nat), LinesIn W LA ls → Calls Try.prog fn #[.slice LA ls.length lc] W (BsEnd W b)
theorem JnC.at {fn : FuncId} {ls : List (List UInt8 × Bool)} {b : List UInt8} (h : JnC fn ls b) (W : World) {LA : Option Addr} {lc : Nat} (h1 : LinesIn W LA ls) : Calls Try.prog fn #[.slice LA ls.length lc] W (BsEnd W b) := h W LA lc h1
def NsEnd (W : World) (ds : List Int) (e : Ending) (w' : World) : Prop := ∃ A cap, e = .returned (.slice A ds.length cap) ∧ IntsIn w' A ds ∧ Below W.heap.size W w'
/-- IDs, of a view. -/
def IdC (fn : FuncId) (A : Option Addr) (n cap : Nat) (l : List It) (ts ds : List Int) : Prop := ∀ (W : World) (LA TA : Option Addr) (ln lc tc : Nat), ItemsIn W A l → IntsIn W TA ts → Calls Try.prog fn #[.slice A n cap, .agg #[.slice LA ln lc, .slice TA ts.length tc]] W (NsEnd W ds)
theorem IdC.at {fn : FuncId} {A : Option Addr} {n cap : Nat} {l : List It} {ts ds : List Int} (h : IdC fn A n cap l ts ds) (W : World) {LA TA : Option Addr} {ln lc tc : Nat} (h1 : ItemsIn W A l) (h2 : IntsIn W TA ts) :
    Calls Try.prog fn #[.slice A n cap, .agg #[.slice LA ln lc, .slice TA ts.length tc]] W (NsEnd W ds) := h W LA TA ln lc tc h1 h2
/-- Ints, of the same numbers. -/
def InC (fn : FuncId) (ds : List Int) : Prop := ∀ (W : World) (A B : Option Addr) (c c' : Nat), IntsIn W A ds → IntsIn W B ds → Calls Try.prog fn #[.slice A ds.length c, .slice B ds.length c'] W fun e w' => e = .returned (.bool true) ∧ Below W.heap.size W w'
theorem InC.at {fn : FuncId} {ds : List Int} (h : InC fn ds) (W : World) {A B : Option Addr} {c c' : Nat} (h1 : IntsIn W A ds) (h2 : IntsIn W B ds) : Calls Try.prog fn #[.slice A ds.length c, .slice B ds.length c'] W fun e w' => e = .returned (.bool true) ∧ Below W.heap.size W w' := h W A B c c' h1 h2
def IsEnd (W : World) (c : List It) (e : Ending) (w' : World) : Prop := ∃ A cap, e = .returned (.slice A c.length cap) ∧ ItemsIn w' A c ∧ Below W.heap.size W w'
/-- Cut. -/
def CuC (fn : FuncId) (A : Option Addr) (n cap : Nat) (f0 : Int) (f1 : Nat) (l c : List It) : Prop := ∀ W : World, ItemsIn W A l → Calls Try.prog fn #[.slice A n cap, .agg #[.int .i64 f0, .int .u64 (f1 : Int)]] W (IsEnd W c)
theorem CuC.at {fn : FuncId} {A : Option Addr} {n cap : Nat} {f0 : Int} {f1 : Nat} {l c : List It} (h : CuC fn A n cap f0 f1 l c) (W : World) (h1 : ItemsIn W A l) : Calls Try.prog fn #[.slice A n cap, .agg #[.int .i64 f0, .int .u64 (f1 : Int)]] W (IsEnd W c) := h W h1
/-- sameItems, of the same items. -/
def SiC (fn : FuncId) (ds : List It) : Prop := ∀ (W : World) (A B : Option Addr) (c c' : Nat), ItemsIn W A ds → ItemsIn W B ds → Calls Try.prog fn #[.slice A ds.length c, .slice B ds.length c'] W fun e w' => e = .returned (.bool true) ∧ Below W.heap.size W w'
theorem SiC.at {fn : FuncId} {ds : List It} (h : SiC fn ds) (W : World) {A B : Option Addr} {c c' : Nat} (h1 : ItemsIn W A ds) (h2 : ItemsIn W B ds) : Calls Try.prog fn #[.slice A ds.length c, .slice B ds.length c'] W fun e w' => e = .returned (.bool true) ∧ Below W.heap.size W w' := h W A B c c' h1 h2

/-- sameItems, of any items. -/
def SgC (fn : FuncId) (xs ys : List It) (b : Bool) : Prop := ∀ (W : World) (A B : Option Addr) (c c' : Nat), ItemsIn W A xs → ItemsIn W B ys → Calls Try.prog fn #[.slice A xs.length c, .slice B ys.length c'] W fun e w' => e = .returned (.bool b) ∧ Below W.heap.size W w'
theorem SgC.at {fn : FuncId} {xs ys : List It} {b : Bool} (h : SgC fn xs ys b) (W : World) {A B : Option Addr} {c c' : Nat} (h1 : ItemsIn W A xs) (h2 : ItemsIn W B ys) : Calls Try.prog fn #[.slice A xs.length c, .slice B ys.length c'] W fun e w' => e = .returned (.bool b) ∧ Below W.heap.size W w' := h W A B c c' h1 h2
/-- The first place that is n, counted from a number on. -/
def fnd (n : Int) : Nat → List Int → Option Nat
  | _, [] => none
  | k, x :: r => if x = n then some k else fnd n (k + 1) r
def fndK (o : Option Nat) : Int := match o with | some i => (i : Int) | none => 0
theorem fnd_drop {n : Int} {ts : List Int} {j : Nat} (hj : j < ts.length) : fnd n j (ts.drop j) = if ts[j] = n then some j else fnd n (j + 1) (ts.drop (j + 1)) := by
  rw [List.drop_eq_getElem_cons hj, fnd]
/-- Is i no place where an item can be put in? -/
def aftNo (ts : List Int) (n : Int) : Bool := decide (n < 0) || decide ((ts.length : Int) < n) || (decide (0 < n) && (decide (ts.getD (n - 1).toNat 0 < 0) || decide (1073741824 ≤ ts.getD (n - 1).toNat 0)))
/-- Where an item is put in ahead of line n, and an error. -/
def aftK (ts : List Int) (n : Int) : Int := if aftNo ts n = true then 0 else if 0 < n then ts.getD (n - 1).toNat 0 + 1 else 0
def aftE (ts : List Int) (n : Int) : Int := if aftNo ts n = true then 2 else 0
def FdC (fn : FuncId) (ts : List Int) (n k : Int) (b : Bool) : Prop := ∀ (W : World) (LA TA : Option Addr) (ln lc tc : Nat), IntsIn W TA ts → Calls Try.prog fn #[.agg #[.slice LA ln lc, .slice TA ts.length tc], .int .i64 n] W fun e w' => e = .returned (.tuple #[.int .i64 k, .bool b]) ∧ Below W.heap.size W w'
theorem FdC.at {fn : FuncId} {ts : List Int} {n k : Int} {b : Bool} (h : FdC fn ts n k b) (W : World) {LA TA : Option Addr} {ln lc tc : Nat} (h1 : IntsIn W TA ts) : Calls Try.prog fn #[.agg #[.slice LA ln lc, .slice TA ts.length tc], .int .i64 n] W fun e w' => e = .returned (.tuple #[.int .i64 k, .bool b]) ∧ Below W.heap.size W w' := h W LA TA ln lc tc h1
def AfC (fn : FuncId) (ts : List Int) (n k r : Int) : Prop := ∀ (W : World) (LA TA : Option Addr) (ln lc tc : Nat), IntsIn W TA ts → Calls Try.prog fn #[.agg #[.slice LA ln lc, .slice TA ts.length tc], .int .i64 n] W fun e w' => e = .returned (.tuple #[.int .i64 k, .int .i64 r]) ∧ Below W.heap.size W w'
theorem AfC.at {fn : FuncId} {ts : List Int} {n k r : Int} (h : AfC fn ts n k r) (W : World) {LA TA : Option Addr} {ln lc tc : Nat} (h1 : IntsIn W TA ts) : Calls Try.prog fn #[.agg #[.slice LA ln lc, .slice TA ts.length tc], .int .i64 n] W fun e w' => e = .returned (.tuple #[.int .i64 k, .int .i64 r]) ∧ Below W.heap.size W w' := h W LA TA ln lc tc h1
theorem rin_is (ds : List Int) (hd : ds.length ≤ maxLen) : InC 14 ds := fun W A B c c' h1 h2 =>
  (rints_any A B c c' ds ds W hd h1 h2).mono fun e w' h => ⟨by rw [h.1, decide_eq_true rfl], h.2⟩
end Go.Proofs.Ytlkfmaeillnhhaa.V

namespace Go.Proofs.Ytlkfmaeillnhhaa.V
set_option linter.unusedVariables false
set_option linter.unusedSimpArgs false
open Go.RowKit Go.Shelf
open T
open I (It Lb ItemsIn ItemsAt ItemsOk itCells itCells_snoc itCells_at items_cells own_at own_below alloc1)
attribute [local go_sem] Oper.semAt_some

/-- The items that are seen, with their places. -/
def prs (o : Lb) : Nat → List It → List (Nat × It)
  | _, [] => []
  | k, x :: r => if sees o x = true then (k, x) :: prs o (k + 1) r else prs o (k + 1) r
theorem prs_snoc (o : Lb) (x : It) : ∀ (l : List It) (k : Nat), prs o k (l ++ [x]) = prs o k l ++ (if sees o x = true then [(k + l.length, x)] else [])
  | [], k => by simp [prs]
  | y :: r, k => by
    rw [List.cons_append, prs, prs, prs_snoc o x r (k + 1), List.length_cons, show k + 1 + r.length = k + (r.length + 1) by omega]
    split <;> rfl
theorem prs_take {o : Lb} {l : List It} {k : Nat} (hk : k < l.length) : prs o 0 (l.take (k + 1)) = prs o 0 (l.take k) ++ (if sees o l[k] = true then [(k, l[k])] else []) := by
  rw [List.take_succ_eq_append_getElem hk, prs_snoc, Nat.zero_add, List.length_take, Nat.min_eq_left (by omega)]
theorem prs_le (o : Lb) : ∀ (l : List It) (k : Nat), (prs o k l).length ≤ l.length
  | [], _ => Nat.le_refl _
  | x :: r, k => by
    rw [prs]
    have := prs_le o r (k + 1)
    split <;> simp <;> omega
def itV (x : It) : Value := .agg #[.int .i64 x.id, .int .i64 x.lv, .int .u64 (x.ct : Int), .bool x.an, .string ⟨x.tx.toArray⟩, .bool x.ba]
/-- What lies below n₀ stays, and the blocks from za on, below zb. -/
def KpZ (n₀ za zb : Nat) (W W' : World) : Prop := Below n₀ W W' ∧ ∀ k, za ≤ k → k < zb → W'.heap[k]? = W.heap[k]?
theorem KpZ.t {n₀ za zb : Nat} {A B C : World} (h : KpZ n₀ za zb A B) (k : KpZ n₀ za zb B C) : KpZ n₀ za zb A C := ⟨h.1.trans k.1, fun i h1 h2 => (k.2 i h1 h2).trans (h.2 i h1 h2)⟩
theorem KpZ.b {n₀ za zb : Nat} {w : World} (hn : n₀ ≤ w.heap.size) (hz : zb ≤ w.heap.size) (W : World) (l : Nat) (o o' : Obj) (hl : w.heap.size ≤ l) (h : W.heap[l]? = some o) (h1 : o.isCells = false) (h2 : o.isWalk = false) : KpZ n₀ za zb W (W.putObj l o') :=
  ⟨belowK_b hn W l o o' hl h h1 h2, fun k _ hk => by
    have := (belowK_b (n₀ := w.heap.size) (Nat.le_refl _) W l o o' hl h h1 h2).block k (by omega)
    exact this⟩
theorem KpZ.of {n₀ za zb : Nat} {W W' : World} (h : Below W.heap.size W W') (hn : n₀ ≤ W.heap.size) (hz : zb ≤ W.heap.size) : KpZ n₀ za zb W W' := ⟨h.mono hn, fun k _ hk => h.block k (by omega)⟩
theorem KpZ.refl (n₀ za zb : Nat) (W : World) : KpZ n₀ za zb W W := ⟨Below.refl _ _, fun _ _ _ => rfl⟩
def BlC (l m : Int) (c d : Nat) (b : Bool) : Prop := ∀ w : World, Calls Try.prog 24 #[L.lab l c, L.lab m d] w fun e w' => e = .returned (.bool b) ∧ Below w.heap.size w w'
theorem BlC.call {l m : Int} {c d : Nat} {b : Bool} (h : BlC l m c d b) (n : Nat) (w : World) : CallsIn Fence.wide n Try.prog 24 #[L.lab l c, L.lab m d] w fun e w' => e = .returned (.bool b) ∧ Below w.heap.size w w' := callsIn_wide.2 (h w)

end Go.Proofs.Ytlkfmaeillnhhaa.V

namespace Go.Proofs.Ytlkfmaeillnhhaa.Rm
set_option linter.unusedVariables false
set_option linter.unusedSimpArgs false
open I (Lb)

/-- Does a label lie below another one? -/
def bl (o a : Lb) : Bool := L.belowB a.1 a.2 o.1 o.2
/-- The places of those that lie below o, counted from a number on. -/
def sn (o : Lb) : Nat → List Lb → List Nat
  | _, [] => []
  | k, x :: r => if bl o x = true then k :: sn o (k + 1) r else sn o (k + 1) r
theorem sn_snoc (o : Lb) (x : Lb) : ∀ (l : List Lb) (k : Nat), sn o k (l ++ [x]) = sn o k l ++ (if bl o x = true then [k + l.length] else [])
  | [], k => by simp [sn]
  | y :: r, k => by
    rw [List.cons_append, sn, sn, sn_snoc o x r (k + 1), List.length_cons, show k + 1 + r.length = k + (r.length + 1) by omega]
    split <;> rfl
theorem sn_take {o : Lb} {l : List Lb} {k : Nat} (hk : k < l.length) : sn o 0 (l.take (k + 1)) = sn o 0 (l.take k) ++ (if bl o l[k] = true then [k] else []) := by
  rw [List.take_succ_eq_append_getElem hk, sn_snoc, Nat.zero_add, List.length_take, Nat.min_eq_left (by omega)]
theorem sn_le (o : Lb) : ∀ (l : List Lb) (k : Nat), (sn o k l).length ≤ l.length
  | [], _ => Nat.le_refl _
  | x :: r, k => by
    rw [sn]
    have := sn_le o r (k + 1)
    split <;> simp <;> omega
theorem sn_mem (o : Lb) : ∀ (l : List Lb) (k n : Nat), n ∈ sn o k l ↔ ∃ (h : n - k < l.length), k ≤ n ∧ bl o l[n - k] = true
  | [], k, n => by simp [sn]
  | x :: r, k, n => by
    have ih := sn_mem o r (k + 1) n
    have e : (n ∈ sn o k (x :: r)) ↔ ((n = k ∧ bl o x = true) ∨ n ∈ sn o (k + 1) r) := by
      rw [sn]
      split
      · rename_i h; simp [h]
      · rename_i h; simp [h]
    rw [e, ih]
    constructor
    · rintro (⟨rfl, h⟩ | ⟨h1, h2, h3⟩)
      · exact ⟨by simp, Nat.le_refl _, by simpa using h⟩
      · have h4 : n - k = (n - (k + 1)) + 1 := by omega
        refine ⟨by rw [h4]; simpa using h1, by omega, ?_⟩
        simp only [h4, List.getElem_cons_succ]
        exact h3
    · rintro ⟨h1, h2, h3⟩
      by_cases hn : n = k
      · subst hn
        exact .inl ⟨rfl, by simpa using h3⟩
      · have h4 : n - k = (n - (k + 1)) + 1 := by omega
        refine .inr ⟨by rw [h4] at h1; simpa using h1, by omega, ?_⟩
        simp only [h4, List.getElem_cons_succ] at h3
        exact h3
theorem sn_lt (o : Lb) : ∀ (l : List Lb) (k : Nat), ∀ n ∈ sn o k l, k ≤ n ∧ n < k + l.length := fun l k n h => by
  obtain ⟨h1, h2, -⟩ := (sn_mem o l k n).1 h
  omega
theorem sn_up (o : Lb) : ∀ (l : List Lb) (k : Nat), (sn o k l).Pairwise (· < ·)
  | [], _ => List.Pairwise.nil
  | x :: r, k => by
    rw [sn]
    split
    · exact List.Pairwise.cons (fun n hn => by have := sn_lt o r (k + 1) n hn; omega) (sn_up o r (k + 1))
    · exact sn_up o r (k + 1)
theorem sn_app (o : Lb) : ∀ (l r : List Lb) (k : Nat), sn o k (l ++ r) = sn o k l ++ sn o (k + l.length) r
  | [], r, k => by simp [sn]
  | x :: l, r, k => by
    rw [List.cons_append, sn, sn, sn_app o l r (k + 1), List.length_cons, show k + 1 + l.length = k + (l.length + 1) by omega]
    split <;> rfl
theorem sn_all (o : Lb) : ∀ (l : List Lb) (k : Nat), (∀ x ∈ l, bl o x = true) → sn o k l = List.range' k l.length
  | [], _, _ => rfl
  | x :: r, k, h => by
    rw [sn, if_pos (h x (List.mem_cons_self ..)), sn_all o r (k + 1) (fun y hy => h y (List.mem_cons_of_mem _ hy)), List.length_cons, List.range'_succ]
theorem sn_map (o : Lb) : ∀ (l : List Lb) (k : Nat), (sn o k l).length = (l.filter (bl o)).length
  | [], _ => rfl
  | x :: r, k => by
    rw [sn, List.filter_cons]
    split <;> simp [sn_map o r (k + 1)]
/-- What stands at the j-th place that is seen is the j-th of those that are seen. -/
theorem sn_get (o : Lb) : ∀ (l : List Lb) (k j : Nat) (h : j < (sn o k l).length), ∃ (h1 : (sn o k l)[j] - k < l.length) (h2 : j < (l.filter (bl o)).length), l[(sn o k l)[j] - k] = (l.filter (bl o))[j]
  | x :: r, k, j, h => by
    by_cases hx : bl o x = true
    · have e : sn o k (x :: r) = k :: sn o (k + 1) r := by rw [sn, if_pos hx]
      have e2 : (x :: r).filter (bl o) = x :: r.filter (bl o) := by rw [List.filter_cons, if_pos hx]
      simp only [e, e2]
      cases j with
      | zero => simp
      | succ j =>
        have h' : j < (sn o (k + 1) r).length := by rw [e] at h; simpa using h
        obtain ⟨h1, h2, h3⟩ := sn_get o r (k + 1) j h'
        have h4 := (sn_lt o r (k + 1) _ (List.getElem_mem h')).1
        have h5 : (sn o (k + 1) r)[j] - k = (sn o (k + 1) r)[j] - (k + 1) + 1 := by omega
        simp only [List.getElem_cons_succ]
        refine ⟨by rw [h5]; simpa using h1, by simpa using h2, ?_⟩
        simp only [h5, List.getElem_cons_succ]
        exact h3
    · have e : sn o k (x :: r) = sn o (k + 1) r := by rw [sn, if_neg hx]
      have e2 : (x :: r).filter (bl o) = r.filter (bl o) := by rw [List.filter_cons, if_neg hx]
      simp only [e, e2]
      have h' : j < (sn o (k + 1) r).length := by rw [e] at h; exact h
      obtain ⟨h1, h2, h3⟩ := sn_get o r (k + 1) j h'
      have h4 := (sn_lt o r (k + 1) _ (List.getElem_mem h')).1
      have h5 : (sn o (k + 1) r)[j] - k = (sn o (k + 1) r)[j] - (k + 1) + 1 := by omega
      refine ⟨by rw [h5]; simpa using h1, h2, ?_⟩
      simp only [h5, List.getElem_cons_succ]
      exact h3
/-- One's own numbers beside places. -/
def enu : Nat → List Nat → List (Nat × Nat)
  | _, [] => []
  | k, x :: r => (k, x) :: enu (k + 1) r
theorem enu_snoc (x : Nat) : ∀ (l : List Nat) (k : Nat), enu k (l ++ [x]) = enu k l ++ [(k + l.length, x)]
  | [], k => by simp [enu]
  | y :: r, k => by rw [List.cons_append, enu, enu, enu_snoc x r (k + 1), List.length_cons, show k + 1 + r.length = k + (r.length + 1) by omega]; rfl
theorem enu_app : ∀ (l r : List Nat) (k : Nat), enu k (l ++ r) = enu k l ++ enu (k + l.length) r
  | [], r, k => by simp [enu]
  | y :: l, r, k => by rw [List.cons_append, enu, enu, enu_app l r (k + 1), List.length_cons, show k + 1 + l.length = k + (l.length + 1) by omega]; rfl
theorem enu_length : ∀ (l : List Nat) (k : Nat), (enu k l).length = l.length
  | [], _ => rfl
  | x :: r, k => by rw [enu, List.length_cons, enu_length r (k + 1), List.length_cons]
theorem enu_snd : ∀ (l : List Nat) (k : Nat), (enu k l).map (·.2) = l
  | [], _ => rfl
  | x :: r, k => by rw [enu, List.map_cons, enu_snd r (k + 1)]
/-- What the iterator tells. -/
def prs (o : Lb) (l : List Lb) : List (Nat × Nat) := enu 0 (sn o 0 l)
theorem prs_take {o : Lb} {l : List Lb} {k : Nat} (hk : k < l.length) : prs o (l.take (k + 1)) = prs o (l.take k) ++ (if bl o l[k] = true then [((sn o 0 (l.take k)).length, k)] else []) := by
  unfold prs
  rw [sn_take hk]
  split
  · rw [enu_snoc, Nat.zero_add]
  · simp
theorem prs_length (o : Lb) (l : List Lb) : (prs o l).length = (sn o 0 l).length := enu_length _ _
/-- The places as numbers. -/
def snI (o : Lb) (l : List Lb) : List Int := (sn o 0 l).map fun n : Nat => (n : Int)
theorem snI_length (o : Lb) (l : List Lb) : (snI o l).length = (sn o 0 l).length := by simp [snI]
/-- The commit of a number of one's own. -/
def full (s : List Nat) (k : Int) : Option Nat := if 0 ≤ k then s[k.toNat]? else none
/-- Where a place stands. -/
def own (s : List Nat) (n : Int) : Option Nat := s.findIdx? fun x : Nat => decide ((x : Int) = n)
def nm (o : Option Nat) : Int := match o with | some n => (n : Int) | none => 0
/-- How many are just a label. -/
def cnt (l : List Lb) (a : Lb) : Nat := l.count a
end Go.Proofs.Ytlkfmaeillnhhaa.Rm
