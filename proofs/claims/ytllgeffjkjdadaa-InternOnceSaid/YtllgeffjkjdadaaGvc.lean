/-
  Rows of numbers in memory; the contracts of the reference's Ints and of the law's sameItems (layer 5).
  The contract of the reference's Cut (layer 5).
  The contract of the reference's IDs (layer 5).
  The contract of the reference's Of (layer 5): a view while it is built.
-/
import Derived.Test.YtllgeffjkjdadaaGva
import Derived.Test.YtllgeffjkjdadaaGvb
import Derived.Deep.QuietTactic
import Derived.BigQuiet
import Derived.StillTailTactics
import Derived.Deep.DeepCutAuto
import Derived.Deep.AppendLies
import Derived.Deep.DrawnRows
import Derived.BigRegion
namespace Go.Proofs.Ytllgeffjkjdadaa.V
set_option linter.unusedVariables false
set_option linter.unusedSimpArgs false
open Go.RowKit
open T
open I (It Lb ItemsIn ItemsAt ItemsOk itCells itCells_snoc itCells_at items_cells items_own own_at own_below infoItem alloc1)

/-- A slice's numbers, wherever it lies. -/
def IntsIn (w : World) (A : Option Addr) (xs : List Int) : Prop :=
  0 < xs.length → ∃ bk off, A = some ⟨bk, off, none⟩ ∧ bk < w.heap.size ∧ L.IntsAt w bk off xs
theorem IntsIn.below {w w' : World} {A : Option Addr} {xs : List Int} (h : IntsIn w A xs) (hb : Below w.heap.size w w') : IntsIn w' A xs := fun hp => by
  obtain ⟨bk, off, e, hlt, hl⟩ := h hp
  exact ⟨bk, off, e, Nat.lt_of_lt_of_le hlt hb.size, hl.below hb hlt⟩
/-- The cells of numbers. -/
def numCells (xs : List Int) : List Value := xs.map fun n => .int .i64 n
theorem numCells_snoc (xs : List Int) (n : Int) : numCells (xs ++ [n]) = numCells xs ++ [.int .i64 n] := by simp [numCells]
theorem ints_own {w : World} {base : Nat} {A : Option Addr} {cap : Nat} {xs : List Int} (h : w.ownsRow base 3 1 (.slice A xs.length cap) xs.length (numCells xs)) : IntsIn w A xs := by
  intro hp
  obtain ⟨g, hA, _, hlt, hc⟩ := own_at h hp
  refine ⟨g, 0, hA, hlt, fun j hj => ?_⟩
  rw [Nat.zero_add]
  exact hc j _ (by simp [numCells, List.getElem?_eq_getElem hj])
theorem drawn_below (w : World) (q : Nat) : Below w.heap.size w (w.drewN q) := below_drewN (Below.refl _ _) q
theorem ext_to {α : Type} {xs ys : List α} (hl : xs.length = ys.length) (h : ∀ j (hj : j < xs.length) (hj' : j < ys.length), j < xs.length → xs[j] = ys[j]) : xs = ys := List.ext_getElem hl fun j hj hj' => h j hj hj' hj
theorem ext_no {α : Type} {xs ys : List α} {k : Nat} (hk : k < xs.length) (hk' : k < ys.length) (h : ¬ xs[k] = ys[k]) : ¬ xs = ys := fun e => h (by subst e; rfl)
theorem ext_step {α : Type} {xs ys : List α} {k : Nat} (hk : k < xs.length) (hk' : k < ys.length) (h : xs[k] = ys[k]) (H : ∀ j (hj : j < xs.length) (hj' : j < ys.length), j < k → xs[j] = ys[j]) : ∀ j (hj : j < xs.length) (hj' : j < ys.length), j < k + 1 → xs[j] = ys[j] := fun j hj hj' hjk => by
  by_cases e : j = k
  · subst e; exact h
  · exact H j hj hj' (by omega)

set_option maxHeartbeats 1000000 in
set_option maxRecDepth 100000 in
theorem rints_any (A A' : Option Addr) (cap cap' : Nat) (xs ys : List Int) (w : World) (hx : xs.length ≤ maxLen) (hA : IntsIn w A xs) (hA' : IntsIn w A' ys) :
    Calls Try.prog 21 #[.slice A xs.length cap, .slice A' ys.length cap'] w fun e w' => e = .returned (.bool (decide (xs = ys))) ∧ Below w.heap.size w w' := by
  unfold maxLen at hx
  have HA := Lib.hid hA
  have HB := Lib.hid hA'
  clear hA hA'
  by_cases hl : xs.length = ys.length
  · have hne : ((xs.length : Int) != (xs.length : Int)) = false := by simp
    rw [← hl]
    have HL := Lib.hid hl
    clear hl
    go_enter Try.func21, Try.ntmps21
    go_wp2_with fail
    go_loopg [5] xs.length (fun n i wr => ∃ k : Nat, k ≤ xs.length ∧ i = .int .i64 k ∧ xs.length - k ≤ n ∧ (∃ q, wr = w.drewN q) ∧ Hid (∀ j (hj : j < xs.length) (hj' : j < ys.length), j < k → xs[j] = ys[j]))
    case atStart => exact ⟨0, Nat.zero_le _, rfl, by omega, ⟨0, rfl⟩, Lib.hid fun j hj hj' h => absurd h (by omega)⟩
    case round =>
      obtain ⟨k, hk, rfl, hn, ⟨q, rfl⟩, HJ⟩ := hrel
      by_cases hlt : k < xs.length
      · obtain ⟨bk, off, hAe, hbk, hL⟩ := HA.out (by omega)
        obtain ⟨bk', off', hAe', hbk', hL'⟩ := HB.out (by have := HL.out; omega)
        subst hAe hAe'
        have c0 := hL k hlt
        have hky : k < ys.length := by have := HL.out; omega
        have d0 := hL' k hky
        have h0k : (0 : Int) ≤ (k : Int) := Int.natCast_nonneg _
        have h1k : (k : Int) < (xs.length : Int) := by omega
        have HY := Lib.hid (fun (h : xs[k] = ys[k]) => ext_step hlt hky h HJ.out)
        have HN := Lib.hid (fun (h : ¬ xs[k] = ys[k]) => ext_no hlt hky h)
        clear hL hL'
        generalize xs[k] = x0 at *
        generalize ys[k] = y0 at *
        by_cases he : x0 = y0
        · have HY2 := Lib.hid (HY.out he)
          subst he
          clear HY HN
          go_wp2_with fail
          go_quiet (fail)
          go_wp2_with fail
          go_roundg (xs.length - (k + 1))
          case measure => omega
          case rel => exact ⟨k + 1, by omega, by go_num, Nat.le_refl _, ⟨_, rfl⟩, HY2⟩
        · have HN2 := Lib.hid (decide_eq_false (HN.out he))
          have hnx : (x0 != y0) = true := by simpa using he
          clear HY HN he
          go_wp2_with fail
          go_quiet (fail)
          go_wp2_with fail
          go_ret
          exact ⟨ret_of (by rw [HN2.out]; rfl), below_drewN (drawn_below _ _) _⟩
      · obtain rfl : k = xs.length := by omega
        have HY := Lib.hid (decide_eq_true (ext_to HL.out HJ.out))
        go_wp2_with fail
        go_ret
        exact ⟨ret_of (by rw [HY.out]; rfl), drawn_below _ _⟩
  · have hne : ((xs.length : Int) != (ys.length : Int)) = true := by simp; omega
    have HN := Lib.hid (decide_eq_false (fun e : xs = ys => hl (by rw [e])))
    clear hl
    generalize xs.length = n1 at *
    generalize ys.length = n2 at *
    go_enter Try.func21, Try.ntmps21
    go_wp2_with fail
    go_ret
    exact ⟨ret_of (by rw [HN.out]; rfl), Below.refl _ _⟩

theorem it_ne {a0 a1 b0 b1 : Int} {a2 b2 : Nat} {a3 a5 b3 b5 : Bool} {a4 b4 : List UInt8} (h : ¬ (⟨a0, a1, a2, a3, a4, a5⟩ : It) = ⟨b0, b1, b2, b3, b4, b5⟩) :
    a0 ≠ b0 ∨ (a0 = b0 ∧ a1 ≠ b1) ∨ (a0 = b0 ∧ a1 = b1 ∧ (a2 : Int) ≠ (b2 : Int)) ∨ (a0 = b0 ∧ a1 = b1 ∧ a2 = b2 ∧ a3 ≠ b3) ∨ (a0 = b0 ∧ a1 = b1 ∧ a2 = b2 ∧ a3 = b3 ∧ (⟨a4.toArray⟩ : ByteArray).toList ≠ (⟨b4.toArray⟩ : ByteArray).toList) ∨ (a0 = b0 ∧ a1 = b1 ∧ a2 = b2 ∧ a3 = b3 ∧ (⟨a4.toArray⟩ : ByteArray) = ⟨b4.toArray⟩ ∧ a5 ≠ b5) := by
  by_cases h0 : a0 = b0
  · by_cases h1 : a1 = b1
    · by_cases h2 : a2 = b2
      · by_cases h3 : a3 = b3
        · by_cases h4 : a4 = b4
          · by_cases h5 : a5 = b5
            · exact absurd (by rw [h0, h1, h2, h3, h4, h5]) h
            · exact .inr (.inr (.inr (.inr (.inr ⟨h0, h1, h2, h3, by rw [h4], h5⟩))))
          · refine .inr (.inr (.inr (.inr (.inl ⟨h0, h1, h2, h3, fun e => h4 ?_⟩))))
            simpa [Lib.toList_data] using e
        · exact .inr (.inr (.inr (.inl ⟨h0, h1, h2, h3⟩)))
      · exact .inr (.inr (.inl ⟨h0, h1, by omega⟩))
    · exact .inr (.inl ⟨h0, h1⟩)
  · exact .inl h0

end Go.Proofs.Ytllgeffjkjdadaa.V

namespace Go.Proofs.Ytllgeffjkjdadaa.V
set_option linter.unusedVariables false
set_option linter.unusedSimpArgs false
open Go.RowKit
open T
open I (It Lb ItemsIn ItemsAt ItemsOk itCells itCells_snoc itCells_at items_cells items_own own_at own_below infoItem alloc1)

/-- An item's cells. -/
structure ItAt (w : World) (bk o : Nat) (y : It) : Prop where
  lt : bk < w.heap.size
  c0 : w.cell? ⟨bk, o, none⟩ = some (.int .i64 y.id)
  c1 : w.cell? ⟨bk, o + 1, none⟩ = some (.int .i64 y.lv)
  c2 : w.cell? ⟨bk, o + 2, none⟩ = some (.int .u64 (y.ct : Int))
  c3 : w.cell? ⟨bk, o + 3, none⟩ = some (.bool y.an)
  c4 : w.cell? ⟨bk, o + 4, none⟩ = some (.string ⟨y.tx.toArray⟩)
  c5 : w.cell? ⟨bk, o + 5, none⟩ = some (.bool y.ba)
theorem ItAt.below {w w' : World} {bk o : Nat} {y : It} (h : ItAt w bk o y) (hb : Below w.heap.size w w') : ItAt w' bk o y :=
  ⟨Nat.lt_of_lt_of_le h.lt hb.size, (hb.cell (p := ⟨bk, _, none⟩) h.lt).trans h.c0, (hb.cell (p := ⟨bk, _, none⟩) h.lt).trans h.c1, (hb.cell (p := ⟨bk, _, none⟩) h.lt).trans h.c2, (hb.cell (p := ⟨bk, _, none⟩) h.lt).trans h.c3, (hb.cell (p := ⟨bk, _, none⟩) h.lt).trans h.c4, (hb.cell (p := ⟨bk, _, none⟩) h.lt).trans h.c5⟩
theorem it_at {w : World} {bk off k : Nat} {xs : List It} (h : ItemsAt w bk off xs) (hb : bk < w.heap.size) (hk : k < xs.length) : ItAt w bk (off + k * 6) xs[k] := by
  obtain ⟨c0, c1, c2, c3, c4, c5⟩ := h k hk
  exact ⟨hb, c0, c1, c2, c3, c4, c5⟩
theorem lab_cells {w : World} {g : Nat} {l : Int} {k : Nat} (h : w.heap[g]? = some (.cells #[.int .i64 l, .int .u64 (k : Int)] 25 (0, 0))) :
    w.cell? ⟨g, 0, none⟩ = some (.int .i64 l) ∧ w.cell? ⟨g, 1, none⟩ = some (.int .u64 (k : Int)) := ⟨L.blk_cell h 0, L.blk_cell h 1⟩
theorem own_base_le {w : World} {base base' : Nat} {e : TypeId} {size n : Nat} {v : Value} {xs : List Value} (h : w.ownsRow base e size v n xs) (hb : base' ≤ base) : w.ownsRow base' e size v n xs := own_more h hb
theorem cut_take {o : Lb} {l : List It} {k : Nat} (hk : k < l.length) : cut o (l.take (k + 1)) = cut o (l.take k) ++ (if sees o l[k] = true then [l[k]] else []) := by
  rw [List.take_succ_eq_append_getElem hk, cut_snoc]
theorem cut_le (o : Lb) (l : List It) : (cut o l).length ≤ l.length := List.length_filter_le _ _

end Go.Proofs.Ytllgeffjkjdadaa.V

namespace Go.Proofs.Ytllgeffjkjdadaa.V
set_option linter.unusedVariables false
set_option linter.unusedSimpArgs false
open Go.RowKit
open T
open I (It Lb ItemsIn ItemsAt ItemsOk itCells itCells_snoc itCells_at items_cells items_own own_at own_below infoItem alloc1)

/-- The ID at a place; 0 where none is. -/
def idAt (l : List It) (a : Int) : Int := if 0 ≤ a then ((l[a.toNat]?).map (·.id)).getD 0 else 0
def ids (l : List It) (t : List Int) : List Int := t.map (idAt l)
theorem idAt_step {l : List It} {j : Nat} (hj : j < l.length) (a : Int) : idAt (l.take (j + 1)) a = if (j : Int) = a then l[j].id else idAt (l.take j) a := by
  unfold idAt
  by_cases h0 : 0 ≤ a
  · obtain ⟨n, rfl⟩ := Int.eq_ofNat_of_zero_le h0
    rw [if_pos h0, if_pos h0, Int.toNat_natCast, List.getElem?_take, List.getElem?_take]
    by_cases h1 : j = n
    · subst h1
      rw [if_pos rfl, if_pos (show j < j + 1 by omega), List.getElem?_eq_getElem hj]; rfl
    · rw [if_neg (show ¬ (j : Int) = (n : Int) by omega)]
      by_cases h2 : n < j
      · rw [if_pos (show n < j + 1 by omega), if_pos h2]
      · rw [if_neg (show ¬ n < j + 1 by omega), if_neg h2]
  · rw [if_neg h0, if_neg h0, if_neg (by omega)]
theorem idAt_none (a : Int) : idAt [] a = 0 := by unfold idAt; split <;> rfl
theorem ids_take {l : List It} {t : List Int} {k : Nat} (hk : k < t.length) : ids l (t.take (k + 1)) = ids l (t.take k) ++ [idAt l t[k]] := by
  unfold ids; rw [List.take_succ_eq_append_getElem hk, List.map_append]; rfl
theorem view_cells {w : World} {g : Nat} {u v : Value} (h : w.heap[g]? = some (.cells #[u, v] 29 (0, 0))) : w.cell? ⟨g, 0, none⟩ = some u ∧ w.cell? ⟨g, 1, none⟩ = some v := ⟨L.blk_cell h 0, L.blk_cell h 1⟩

end Go.Proofs.Ytllgeffjkjdadaa.V

namespace Go.Proofs.Ytllgeffjkjdadaa.V
set_option linter.unusedVariables false
set_option linter.unusedSimpArgs false
open Go.RowKit
open T
open I (It Lb ItemsIn ItemsAt ItemsOk itCells itCells_snoc itCells_at items_cells items_own own_at own_below infoItem alloc1)

theorem own_ne {w : World} {base : Nat} {e : TypeId} {size n : Nat} {v : Value} {xs : List Value} (h : w.ownsRow base e size v n xs) {g : Nat} (hne : ∀ cs, w.heap[g]? ≠ some (.cells cs e (0, 0))) : v.ownBlock = none ∨ v.ownBlock ≠ some g := by
  rcases h.2 with ⟨rfl, _⟩ | ⟨g', cap, cur, rfl, hg, hh, _⟩
  · exact .inl rfl
  · refine .inr fun e' => ?_
    simp [Value.ownBlock] at e'
    subst e'
    exact hne _ hh
theorem own_ne' {w : World} {base : Nat} {e : TypeId} {size n : Nat} {v : Value} {xs : List Value} (h : w.ownsRow base e size v n xs) {g : Nat} (hne : ∀ cs, w.heap[g]? ≠ some (.cells cs e (0, 0))) : some g ≠ v.ownBlock := fun e' => by
  rcases own_ne h hne with h1 | h1
  · rw [h1] at e'; cases e'
  · exact h1 e'.symm
theorem own_apart {w : World} {base base' : Nat} {e e' : TypeId} {size size' n n' : Nat} {v v' : Value} {xs xs' : List Value} (hne : e ≠ e') (h : w.ownsRow base e size v n xs) (h' : w.ownsRow base' e' size' v' n' xs') : v.ownBlock = none ∨ v.ownBlock ≠ v'.ownBlock := by
  rcases h'.2 with ⟨rfl, _⟩ | ⟨g', cap, cur, rfl, hg, hh, _⟩
  · cases hv : v.ownBlock with
    | none => exact .inl rfl
    | some k => exact .inr (by simp [Value.ownBlock])
  · rcases own_ne h (g := g') (fun cs he => by rw [hh] at he; injection he with he; injection he with _ he; exact hne he.symm) with h1 | h1
    · exact .inl h1
    · exact .inr (by simpa [Value.ownBlock] using h1)
theorem grown_of {w w' : World} (hb : Below w.heap.size w w') (row : Option Nat) : w.grownBy w' row := ⟨hb.os, hb.tape, hb.output, hb.size, fun k hk _ => hb.block k hk⟩
theorem grown_set (w : World) (p : Addr) (u : Value) : w.grownBy (w.setCell p u) (some p.block) :=
  ⟨rfl, rfl, rfl, by simp [World.setCell], fun k _ hk => Below.heap_setCell _ _ _ _ (fun e => hk (by rw [e]))⟩
/-- A view while it is built: its box, its lines, its places. -/
structure Vw (w : World) (base vb : Nat) (vl va : Value) (ls : List (List UInt8 × Bool)) (ts : List Int) : Prop where
  blk : w.heap[vb]? = some (.cells #[vl, va] 29 (0, 0))
  ls : w.ownsRow base 35 2 vl ls.length (lineCells ls)
  ts : w.ownsRow base 3 1 va ts.length (numCells ts)
section
variable {w w' : World} {base vb : Nat} {vl va v' : Value} {ls ls' : List (List UInt8 × Bool)} {ts ts' : List Int}
theorem Vw.below (h : Vw w base vb vl va ls ts) (hb : Below w.heap.size w w') : Vw w' base vb vl va ls ts :=
  ⟨(hb.block vb (L.blk_lt h.blk)).trans h.blk, own_below h.ls hb, own_below h.ts hb⟩
theorem Vw.noLine (h : Vw w base vb vl va ls ts) : ∀ cs, w.heap[vb]? ≠ some (.cells cs 35 (0, 0)) := fun cs e => by
  rw [h.blk] at e; injection e with e; injection e with _ e; exact absurd e (by decide)
theorem Vw.noInt (h : Vw w base vb vl va ls ts) : ∀ cs, w.heap[vb]? ≠ some (.cells cs 3 (0, 0)) := fun cs e => by
  rw [h.blk] at e; injection e with e; injection e with _ e; exact absurd e (by decide)
/-- Behind an append onto its lines that is stored. -/
theorem Vw.lined (h : Vw w base vb vl va ls ts) (hg : w.grownBy w' vl.ownBlock) (hn : w'.ownsRow base 35 2 v' ls'.length (lineCells ls')) : Vw (w'.setCell ⟨vb, 0, none⟩ v') base vb v' va ls' ts := by
  have hb : w'.heap[vb]? = some (.cells #[vl, va] 29 (0, 0)) := (hg.block vb (L.blk_lt h.blk) (own_ne' h.ls h.noLine)).trans h.blk
  have ht : w'.ownsRow base 3 1 va ts.length (numCells ts) := h.ts.kept hg (own_apart (by decide) h.ts h.ls)
  refine ⟨L.blk_set hb 0 v', hn.kept (grown_set w' ⟨vb, 0, none⟩ v') (own_ne hn fun cs e => ?_), ht.kept (grown_set w' ⟨vb, 0, none⟩ v') (own_ne ht fun cs e => ?_)⟩
  · rw [hb] at e; injection e with e; injection e with _ e; exact absurd e (by decide)
  · rw [hb] at e; injection e with e; injection e with _ e; exact absurd e (by decide)
/-- Behind an append onto its places that is stored. -/
theorem Vw.placed (h : Vw w base vb vl va ls ts) (hg : w.grownBy w' va.ownBlock) (hn : w'.ownsRow base 3 1 v' ts'.length (numCells ts')) : Vw (w'.setCell ⟨vb, 1, none⟩ v') base vb vl v' ls ts' := by
  have hb : w'.heap[vb]? = some (.cells #[vl, va] 29 (0, 0)) := (hg.block vb (L.blk_lt h.blk) (own_ne' h.ts h.noInt)).trans h.blk
  have ht : w'.ownsRow base 35 2 vl ls.length (lineCells ls) := h.ls.kept hg (own_apart (by decide) h.ls h.ts)
  refine ⟨L.blk_set hb 1 v', ht.kept (grown_set w' ⟨vb, 1, none⟩ v') (own_ne ht fun cs e => ?_), hn.kept (grown_set w' ⟨vb, 1, none⟩ v') (own_ne hn fun cs e => ?_)⟩
  · rw [hb] at e; injection e with e; injection e with _ e; exact absurd e (by decide)
  · rw [hb] at e; injection e with e; injection e with _ e; exact absurd e (by decide)
end
def atI (o : Lb) (l : List It) : List Int := (ats o 0 l).map fun n : Nat => (n : Int)
theorem atI_take {o : Lb} {l : List It} {k : Nat} (hk : k < l.length) : atI o (l.take (k + 1)) = atI o (l.take k) ++ (if sees o l[k] = true then [(k : Int)] else []) := by
  unfold atI
  rw [List.take_succ_eq_append_getElem hk, ats_snoc, List.map_append, Nat.zero_add, List.length_take, Nat.min_eq_left (by omega)]
  split <;> rfl
theorem lst_take {o : Lb} {l : List It} {k : Nat} (hk : k < l.length) : lst o 0 (-1) (l.take (k + 1)) = if sees o l[k] = true then (k : Int) else lst o 0 (-1) (l.take k) := by
  rw [List.take_succ_eq_append_getElem hk, lst_snoc, Nat.zero_add, List.length_take, Nat.min_eq_left (by omega)]
theorem rln_take {o : Lb} {h : List UInt8} {z : Int} {l : List It} {k : Nat} (hk : k < l.length) : rln o h z 0 (l.take (k + 1)) = rln o h z 0 (l.take k) ++ (if sees o l[k] = true then [(txt h l[k], decide ((k : Int) = z) && l[k].ba)] else []) := by
  rw [List.take_succ_eq_append_getElem hk, rln_snoc, Nat.zero_add, List.length_take, Nat.min_eq_left (by omega)]
theorem rln_length (o : Lb) (h : List UInt8) (z : Int) : ∀ (l : List It) (k : Nat), (rln o h z k l).length = (cut o l).length
  | [], _ => rfl
  | x :: r, k => by
    rw [rln]
    by_cases hx : sees o x = true
    · rw [if_pos hx, List.length_cons, rln_length o h z r]; simp [cut, hx]
    · rw [if_neg hx, rln_length o h z r]; simp [cut, hx]
theorem lnCells_snoc (xs : List (List UInt8 × Bool)) (t : List UInt8) (b : Bool) : lineCells (xs ++ [(t, b)]) = lineCells xs ++ [.string ⟨t.toArray⟩, .bool b] := lineCells_snoc xs t b
end Go.Proofs.Ytllgeffjkjdadaa.V
