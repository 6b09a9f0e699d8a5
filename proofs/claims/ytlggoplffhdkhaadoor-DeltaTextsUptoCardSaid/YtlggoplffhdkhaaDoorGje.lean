/-
  The contract of the reference's Cut (layer 5).
  The contract of the reference's IDs (layer 5).
  The contract of the reference's Of (layer 5): a view while it is built.
  Items in memory with their room; stretches of them; append of items; slices.Clone and slices.Index at items; the contracts of delta's cut, ends, missing and alike.
  The contracts of slices.Index at items, and of delta's ends, missing and alike.
  Parts in memory; the contracts of slices.Index at items, and of delta's Make.
-/
import Derived.Test.YtlggoplffhdkhaaDoorGjd
import Derived.Deep.DeepCutAuto
import Derived.Deep.AppendLies
import Derived.Deep.DrawnRows
import Derived.BigRegion
import Derived.Test.YtlggoplffhdkhaaDoorGjc
import Derived.Laws.AppendOwnNone
import Derived.Deep.QuietTactic
import Derived.Lib.SliceRun
import Derived.Deep.RegionHeld3
namespace Go.Proofs.YtlggoplffhdkhaaDoor.V
set_option linter.unusedVariables false
set_option linter.unusedSimpArgs false
open Go.RowKit
open T
open I (It Lb ItemsIn ItemsAt ItemsOk itCells itCells_snoc itCells_at items_cells items_own own_at own_below infoItem alloc1)

/-- An item's cells. -/
structure ItAt (w : World) (bk o : Nat) (y : It) : Prop where
  lt : bk < w.heap.size
  c0 : w.cell? ⟨bk, o, none⟩ = some (.int .i64 y.id)
  c1 : w.cell? ⟨bk, o + 1, none⟩ = some (.int .i64 y.lv)
  c2 : w.cell? ⟨bk, o + 2, none⟩ = some (.int .u64 (y.ct : Int))
  c3 : w.cell? ⟨bk, o + 3, none⟩ = some (.bool y.an)
  c4 : w.cell? ⟨bk, o + 4, none⟩ = some (.string ⟨y.tx.toArray⟩)
  c5 : w.cell? ⟨bk, o + 5, none⟩ = some (.bool y.ba)
theorem ItAt.below {w w' : World} {bk o : Nat} {y : It} (h : ItAt w bk o y) (hb : Below w.heap.size w w') : ItAt w' bk o y :=
  ⟨Nat.lt_of_lt_of_le h.lt hb.size, (hb.cell (p := ⟨bk, _, none⟩) h.lt).trans h.c0, (hb.cell (p := ⟨bk, _, none⟩) h.lt).trans h.c1, (hb.cell (p := ⟨bk, _, none⟩) h.lt).trans h.c2, (hb.cell (p := ⟨bk, _, none⟩) h.lt).trans h.c3, (hb.cell (p := ⟨bk, _, none⟩) h.lt).trans h.c4, (hb.cell (p := ⟨bk, _, none⟩) h.lt).trans h.c5⟩
theorem it_at {w : World} {bk off k : Nat} {xs : List It} (h : ItemsAt w bk off xs) (hb : bk < w.heap.size) (hk : k < xs.length) : ItAt w bk (off + k * 6) xs[k] := by
  obtain ⟨c0, c1, c2, c3, c4, c5⟩ := h k hk
  exact ⟨hb, c0, c1, c2, c3, c4, c5⟩
theorem lab_cells {w : World} {g : Nat} {l : Int} {k : Nat} (h : w.heap[g]? = some (.cells #[.int .i64 l, .int .u64 (k : Int)] 37 (0, 0))) :
    w.cell? ⟨g, 0, none⟩ = some (.int .i64 l) ∧ w.cell? ⟨g, 1, none⟩ = some (.int .u64 (k : Int)) := ⟨L.blk_cell h 0, L.blk_cell h 1⟩
theorem own_base_le {w : World} {base base' : Nat} {e : TypeId} {size n : Nat} {v : Value} {xs : List Value} (h : w.ownsRow base e size v n xs) (hb : base' ≤ base) : w.ownsRow base' e size v n xs := own_more h hb
theorem cut_take {o : Lb} {l : List It} {k : Nat} (hk : k < l.length) : cut o (l.take (k + 1)) = cut o (l.take k) ++ (if sees o l[k] = true then [l[k]] else []) := by
  rw [List.take_succ_eq_append_getElem hk, cut_snoc]
theorem cut_le (o : Lb) (l : List It) : (cut o l).length ≤ l.length := List.length_filter_le _ _

end Go.Proofs.YtlggoplffhdkhaaDoor.V

namespace Go.Proofs.YtlggoplffhdkhaaDoor.V
set_option linter.unusedVariables false
set_option linter.unusedSimpArgs false
open Go.RowKit
open T
open I (It Lb ItemsIn ItemsAt ItemsOk itCells itCells_snoc itCells_at items_cells items_own own_at own_below infoItem alloc1)

/-- The ID at a place; 0 where none is. -/
def idAt (l : List It) (a : Int) : Int := if 0 ≤ a then ((l[a.toNat]?).map (·.id)).getD 0 else 0
def ids (l : List It) (t : List Int) : List Int := t.map (idAt l)
theorem idAt_step {l : List It} {j : Nat} (hj : j < l.length) (a : Int) : idAt (l.take (j + 1)) a = if (j : Int) = a then l[j].id else idAt (l.take j) a := by
  unfold idAt
  by_cases h0 : 0 ≤ a
  · obtain ⟨n, rfl⟩ := Int.eq_ofNat_of_zero_le h0
    rw [if_pos h0, if_pos h0, Int.toNat_natCast, List.getElem?_take, List.getElem?_take]
    by_cases h1 : j = n
    · subst h1
      rw [if_pos rfl, if_pos (show j < j + 1 by omega), List.getElem?_eq_getElem hj]; rfl
    · rw [if_neg (show ¬ (j : Int) = (n : Int) by omega)]
      by_cases h2 : n < j
      · rw [if_pos (show n < j + 1 by omega), if_pos h2]
      · rw [if_neg (show ¬ n < j + 1 by omega), if_neg h2]
  · rw [if_neg h0, if_neg h0, if_neg (by omega)]
theorem idAt_none (a : Int) : idAt [] a = 0 := by unfold idAt; split <;> rfl
theorem ids_take {l : List It} {t : List Int} {k : Nat} (hk : k < t.length) : ids l (t.take (k + 1)) = ids l (t.take k) ++ [idAt l t[k]] := by
  unfold ids; rw [List.take_succ_eq_append_getElem hk, List.map_append]; rfl
end Go.Proofs.YtlggoplffhdkhaaDoor.V

namespace Go.Proofs.YtlggoplffhdkhaaDoor.V
set_option linter.unusedVariables false
set_option linter.unusedSimpArgs false
open Go.RowKit
open T
open I (It Lb ItemsIn ItemsAt ItemsOk itCells itCells_snoc itCells_at items_cells items_own own_at own_below infoItem alloc1)

theorem own_ne {w : World} {base : Nat} {e : TypeId} {size n : Nat} {v : Value} {xs : List Value} (h : w.ownsRow base e size v n xs) {g : Nat} (hne : ∀ cs, w.heap[g]? ≠ some (.cells cs e (0, 0))) : v.ownBlock = none ∨ v.ownBlock ≠ some g := by
  rcases h.2 with ⟨rfl, _⟩ | ⟨g', cap, cur, rfl, hg, hh, _⟩
  · exact .inl rfl
  · refine .inr fun e' => ?_
    simp [Value.ownBlock] at e'
    subst e'
    exact hne _ hh
theorem own_ne' {w : World} {base : Nat} {e : TypeId} {size n : Nat} {v : Value} {xs : List Value} (h : w.ownsRow base e size v n xs) {g : Nat} (hne : ∀ cs, w.heap[g]? ≠ some (.cells cs e (0, 0))) : some g ≠ v.ownBlock := fun e' => by
  rcases own_ne h hne with h1 | h1
  · rw [h1] at e'; cases e'
  · exact h1 e'.symm
theorem own_apart {w : World} {base base' : Nat} {e e' : TypeId} {size size' n n' : Nat} {v v' : Value} {xs xs' : List Value} (hne : e ≠ e') (h : w.ownsRow base e size v n xs) (h' : w.ownsRow base' e' size' v' n' xs') : v.ownBlock = none ∨ v.ownBlock ≠ v'.ownBlock := by
  rcases h'.2 with ⟨rfl, _⟩ | ⟨g', cap, cur, rfl, hg, hh, _⟩
  · cases hv : v.ownBlock with
    | none => exact .inl rfl
    | some k => exact .inr (by simp [Value.ownBlock])
  · rcases own_ne h (g := g') (fun cs he => by rw [hh] at he; injection he with he; injection he with _ he; exact hne he.symm) with h1 | h1
    · exact .inl h1
    · exact .inr (by simpa [Value.ownBlock] using h1)
theorem grown_of {w w' : World} (hb : Below w.heap.size w w') (row : Option Nat) : w.grownBy w' row := ⟨hb.os, hb.tape, hb.output, hb.size, fun k hk _ => hb.block k hk⟩
theorem grown_set (w : World) (p : Addr) (u : Value) : w.grownBy (w.setCell p u) (some p.block) :=
  ⟨rfl, rfl, rfl, by simp [World.setCell], fun k _ hk => Below.heap_setCell _ _ _ _ (fun e => hk (by rw [e]))⟩
section
variable {w w' : World} {base vb : Nat} {vl va v' : Value} {ls ls' : List (List UInt8 × Bool)} {ts ts' : List Int}
end
def atI (o : Lb) (l : List It) : List Int := (ats o 0 l).map fun n : Nat => (n : Int)
theorem atI_take {o : Lb} {l : List It} {k : Nat} (hk : k < l.length) : atI o (l.take (k + 1)) = atI o (l.take k) ++ (if sees o l[k] = true then [(k : Int)] else []) := by
  unfold atI
  rw [List.take_succ_eq_append_getElem hk, ats_snoc, List.map_append, Nat.zero_add, List.length_take, Nat.min_eq_left (by omega)]
  split <;> rfl
theorem lst_take {o : Lb} {l : List It} {k : Nat} (hk : k < l.length) : lst o 0 (-1) (l.take (k + 1)) = if sees o l[k] = true then (k : Int) else lst o 0 (-1) (l.take k) := by
  rw [List.take_succ_eq_append_getElem hk, lst_snoc, Nat.zero_add, List.length_take, Nat.min_eq_left (by omega)]
theorem rln_take {o : Lb} {h : List UInt8} {z : Int} {l : List It} {k : Nat} (hk : k < l.length) : rln o h z 0 (l.take (k + 1)) = rln o h z 0 (l.take k) ++ (if sees o l[k] = true then [(txt h l[k], decide ((k : Int) = z) && l[k].ba)] else []) := by
  rw [List.take_succ_eq_append_getElem hk, rln_snoc, Nat.zero_add, List.length_take, Nat.min_eq_left (by omega)]
theorem rln_length (o : Lb) (h : List UInt8) (z : Int) : ∀ (l : List It) (k : Nat), (rln o h z k l).length = (cut o l).length
  | [], _ => rfl
  | x :: r, k => by
    rw [rln]
    by_cases hx : sees o x = true
    · rw [if_pos hx, List.length_cons, rln_length o h z r]; simp [cut, hx]
    · rw [if_neg hx, rln_length o h z r]; simp [cut, hx]
theorem lnCells_snoc (xs : List (List UInt8 × Bool)) (t : List UInt8) (b : Bool) : lineCells (xs ++ [(t, b)]) = lineCells xs ++ [.string ⟨t.toArray⟩, .bool b] := lineCells_snoc xs t b
end Go.Proofs.YtlggoplffhdkhaaDoor.V

namespace Go.Proofs.YtlggoplffhdkhaaDoor.Dl
set_option linter.unusedVariables false
set_option linter.unusedSimpArgs false
open Go.RowKit Go.Maps
open T
open V (drawn_below grown_of)
open I (It ItemsIn ItemsAt itCells itCells_snoc itCells_at alloc1 own_at own_below items_of_own items_own infoItem ItemsIn.below)

/-- Items in memory, with their room. -/
structure Ix (w : World) (B : Option Addr) (c : Nat) (l : List It) : Prop where
  i : ItemsIn w B l
  r : l.length ≤ c
  z : B = none → c = 0
theorem Ix.below {w w' : World} {B : Option Addr} {c : Nat} {l : List It} (h : Ix w B c l) (hb : Below w.heap.size w w') : Ix w' B c l := ⟨h.i.below hb, h.r, h.z⟩
theorem it_at {w : World} {A : Option Addr} {l : List It} (h : ItemsIn w A l) {k : Nat} (hk : k < l.length) : ∃ bk off, A = some ⟨bk, off, none⟩ ∧ bk < w.heap.size ∧ w.cell? ⟨bk, off + k * 6, none⟩ = some (.int .i64 l[k].id) ∧ w.cell? ⟨bk, off + k * 6 + 1, none⟩ = some (.int .i64 l[k].lv) ∧ w.cell? ⟨bk, off + k * 6 + 2, none⟩ = some (.int .u64 (l[k].ct : Int)) ∧ w.cell? ⟨bk, off + k * 6 + 3, none⟩ = some (.bool l[k].an) ∧ w.cell? ⟨bk, off + k * 6 + 4, none⟩ = some (.string ⟨l[k].tx.toArray⟩) ∧ w.cell? ⟨bk, off + k * 6 + 5, none⟩ = some (.bool l[k].ba) := by
  obtain ⟨bk, off, e, h1, h2⟩ := h (by omega)
  exact ⟨bk, off, e, h1, h2 k hk⟩
theorem it_drop {w : World} {k off : Nat} {l : List It} (h : ItemsIn w (some ⟨k, off, none⟩) l) (n : Nat) : ItemsIn w (some ⟨k, off + n * 6, none⟩) (l.drop n) := fun hp => by
  rw [List.length_drop] at hp
  obtain ⟨bk, o, e, hlt, hI⟩ := h (by omega)
  obtain ⟨rfl, rfl⟩ : k = bk ∧ off = o := by injection e with e; injection e with e1 e2; exact ⟨e1, e2⟩
  refine ⟨k, off + n * 6, rfl, hlt, fun j hj => ?_⟩
  rw [List.length_drop] at hj
  rw [List.getElem_drop]
  have := hI (n + j) (by omega)
  rw [show off + (n + j) * 6 = off + n * 6 + j * 6 by omega] at this
  exact this
theorem it_take {w : World} {A : Option Addr} {l : List It} (h : ItemsIn w A l) (n : Nat) : ItemsIn w A (l.take n) := fun hp => by
  rw [List.length_take] at hp
  obtain ⟨bk, off, e, hlt, hl⟩ := h (by omega)
  refine ⟨bk, off, e, hlt, fun j hj => ?_⟩
  rw [List.length_take] at hj
  simp only [List.getElem_take]
  exact hl j (by omega)
/-- Where a[k:] lies, and what room it has. -/
def dropP (B : Option Addr) (c k : Nat) : Option Addr := if c = k then B else B.map fun ad => ad.add (k * 6)
theorem drop_is {B : Option Addr} {n c k : Nat} (hkn : k ≤ n) (hnc : n ≤ c) (hz : B = none → c = 0) (W : World) : Sem.run Tryd.prog (Instr.sliceAt 22 (.slice B n c) (some (.int .i64 (k : Int))) none none) W = .ok (.slice (dropP B c k) (n - k) (c - k)) W := by
  have h0k : (0 : Int) ≤ (k : Int) := by omega
  have hkn' : (k : Int) ≤ (n : Int) := by omega
  have hnc' : (n : Int) ≤ (c : Int) := by omega
  cases B with
  | none =>
    obtain rfl := hz rfl
    obtain rfl : n = 0 := by omega
    obtain rfl : k = 0 := by omega
    rw [show dropP none 0 0 = none from rfl]
    go_simp
  | some ad =>
    by_cases hc : c = k
    · subst hc
      obtain rfl : n = c := by omega
      rw [show dropP (some ad) n n = some ad from if_pos rfl, Nat.sub_self]
      go_simp
    · rw [show dropP (some ad) c k = some (ad.add (k * 6)) from if_neg hc]
      go_simp
theorem drop_ix {w : World} {B : Option Addr} {c : Nat} {l : List It} (h : Ix w B c l) {k : Nat} (hk : k ≤ l.length) : Ix w (dropP B c k) (c - k) (l.drop k) := by
  have hr := h.r
  refine ⟨fun hp => ?_, by rw [List.length_drop]; omega, fun e => ?_⟩
  · rw [List.length_drop] at hp
    obtain ⟨bk, off, he, -, -⟩ := h.i (by omega)
    subst he
    rw [show dropP (some ⟨bk, off, none⟩) c k = some ⟨bk, off + k * 6, none⟩ by rw [dropP, if_neg (by omega)]; simp [Addr.add]]
    exact it_drop h.i k (by rw [List.length_drop]; exact hp)
  · unfold dropP at e
    split at e
    · have := h.z e; omega
    · cases B with
      | none => have := h.z rfl; omega
      | some ad => cases e
/-- Where a[k:k+n:k+n] lies. -/
def cutP (B : Option Addr) (k n : Nat) : Option Addr := if n = 0 then B else B.map fun ad => ad.add (k * 6)
def cuti (l : List It) (k n : Nat) : List It := (l.drop k).take n
theorem cuti_len {l : List It} {k n : Nat} (h : k + n ≤ l.length) : (cuti l k n).length = n := by
  unfold cuti; rw [List.length_take, List.length_drop]; omega
theorem cut_in {w : World} {B : Option Addr} {c : Nat} {l : List It} (h : Ix w B c l) {k n : Nat} (hk : k + n ≤ l.length) : Ix w (cutP B k n) n (cuti l k n) := by
  have hr := h.r
  have hlen := cuti_len hk
  refine ⟨fun hp => ?_, by omega, fun e => ?_⟩
  · rw [hlen] at hp
    obtain ⟨bk, off, he, -, -⟩ := h.i (by omega)
    subst he
    rw [show cutP (some ⟨bk, off, none⟩) k n = some ⟨bk, off + k * 6, none⟩ by rw [cutP, if_neg (by omega)]; simp [Addr.add]]
    exact it_take (it_drop h.i k) n (by rw [show ((l.drop k).take n).length = n from hlen]; exact hp)
  · unfold cutP at e
    split at e
    · omega
    · cases B with
      | none => have := h.z rfl; omega
      | some ad => cases e
theorem cut_run {B : Option Addr} {c m k q : Nat} (hpq : k ≤ q) (hqn : q ≤ m) (hnc : m ≤ c) (hz : B = none → c = 0) (W : World) : Sem.run Tryd.prog (Instr.sliceAt 22 (.slice B m c) (some (.int .i64 (k : Int))) (some (.int .i64 (q : Int))) (some (.int .i64 (q : Int)))) W = .ok (.slice (cutP B k (q - k)) (q - k) (q - k)) W := by
  have h0p : (0 : Int) ≤ (k : Int) := by omega
  have h0q : (0 : Int) ≤ (q : Int) := by omega
  have hpq' : (k : Int) ≤ (q : Int) := by omega
  have hqc : (q : Int) ≤ (c : Int) := by omega
  cases B with
  | none =>
    obtain rfl := hz rfl
    obtain rfl : m = 0 := by omega
    obtain rfl : q = 0 := by omega
    obtain rfl : k = 0 := by omega
    rw [show cutP none 0 (0 - 0) = none from rfl]
    go_simp
  | some ad =>
    by_cases hpc : k = q
    · subst hpc
      rw [show cutP (some ad) k (k - k) = some ad by rw [Nat.sub_self]; rfl]
      rw [Nat.sub_self]; go_simp
    · have hcp : ¬ q = k := fun e => hpc e.symm
      rw [show cutP (some ad) k (q - k) = some (ad.add (k * 6)) by rw [cutP, if_neg (by omega)]; rfl]
      go_simp
set_option maxRecDepth 100000 in
set_option maxHeartbeats 2000000 in
theorem cut_any {B : Option Addr} {c m k n : Nat} (w : World) (hk : k + n ≤ m) (hc : m ≤ c) (hz : B = none → c = 0) (hl : c ≤ maxLen) :
    Calls Tryd.prog 26 #[.slice B m c, .int .i64 (k : Int), .int .i64 (n : Int)] w fun e w' => e = .returned (.slice (cutP B k n) n n) ∧ w' = w := by
  unfold maxLen at hl
  obtain ⟨q, hq⟩ : ∃ q, q = k + n := ⟨_, rfl⟩
  have hwr : IntKind.i64.wrap ((k : Int) + (n : Int)) = (q : Int) := by rw [IntKind.wrap_i64]; omega
  have hrun := fun W => cut_run (B := B) (c := c) (m := m) (k := k) (q := q) (by omega) (by omega) hc hz W
  have e1 : q - k = n := by omega
  rw [e1] at hrun
  obtain ⟨A2, hA2⟩ : ∃ A2, A2 = cutP B k n := ⟨_, rfl⟩
  rw [← hA2] at hrun ⊢
  clear hA2 hq e1 hk hc hz hl
  go_enter Tryd.func26, Tryd.ntmps26
  go_wp2_with fail
  go_ret
  exact ⟨rfl, rfl⟩
theorem itCells_app (a b : List It) : itCells (a ++ b) = itCells a ++ itCells b := by simp [itCells]
theorem itCells_length : ∀ xs : List It, (itCells xs).length = xs.length * 6
  | [] => rfl
  | x :: r => by
    have e : itCells (x :: r) = .int .i64 x.id :: .int .i64 x.lv :: .int .u64 (x.ct : Int) :: .bool x.an :: .string ⟨x.tx.toArray⟩ :: .bool x.ba :: itCells r := by simp [itCells]
    rw [e]; simp only [List.length_cons, itCells_length r]; omega
theorem itCells_one (a : List It) : ∀ u ∈ itCells a, u.oneCell' = true := by
  intro u hu
  simp only [itCells, List.mem_flatMap] at hu
  obtain ⟨x, _, hu⟩ := hu
  simp at hu
  rcases hu with rfl | rfl | rfl | rfl | rfl | rfl <;> rfl
theorem items_news {w : World} {bk off : Nat} {xs : List It} (h : ItemsAt w bk off xs) : ∀ j u, (itCells xs)[j]? = some u → w.cell? ((⟨bk, off, none⟩ : Addr).add j) = some u := by
  intro j u hu
  have hj : j < xs.length * 6 := by rw [← itCells_length]; exact (List.getElem?_eq_some_iff.1 hu).1
  have hq : j / 6 < xs.length := by omega
  obtain ⟨h0, h1, h2, h3, h4, h5⟩ := itCells_at xs (j / 6) hq
  obtain ⟨c0, c1, c2, c3, c4, c5⟩ := h (j / 6) hq
  have hd : j = j / 6 * 6 + j % 6 := by omega
  have hm : j % 6 < 6 := Nat.mod_lt _ (by omega)
  rw [show (⟨bk, off, none⟩ : Addr).add j = ⟨bk, off + j, none⟩ by simp [Addr.add]]
  have key : ∀ r, j % 6 = r → j = j / 6 * 6 + r := fun r hr => by omega
  match hr : j % 6, hm with
  | 0, _ => rw [key 0 hr, Nat.add_zero] at hu ⊢; rw [h0] at hu; rw [c0]; exact hu
  | 1, _ => rw [key 1 hr] at hu ⊢; rw [h1] at hu; rw [← Nat.add_assoc, c1]; exact hu
  | 2, _ => rw [key 2 hr] at hu ⊢; rw [h2] at hu; rw [← Nat.add_assoc, c2]; exact hu
  | 3, _ => rw [key 3 hr] at hu ⊢; rw [h3] at hu; rw [← Nat.add_assoc, c3]; exact hu
  | 4, _ => rw [key 4 hr] at hu ⊢; rw [h4] at hu; rw [← Nat.add_assoc, c4]; exact hu
  | 5, _ => rw [key 5 hr] at hu ⊢; rw [h5] at hu; rw [← Nat.add_assoc, c5]; exact hu
set_option maxRecDepth 100000 in
/-- append of a row of items onto a row of items that the call owns, wherever the items lie. -/
theorem wpList_append_items {w : World} {ops : Array Oper} {rest : List Oper} {o : Oper} {a : Act} {Q : Exit → Act → World → Prop} (hgd : o.guard = none) (s x : Operand)
    (ho : o.op = .call { callee := .builtin .append, args := #[s, x], argTypes := #[22, 22] })
    (base : Nat) (v : Value) (xs l : List It) (hs : a.eval s = v) (hown : w.ownsRow base 41 6 v xs.length (itCells xs))
    (LA : Option Addr) (lc : Nat) (hx : a.eval x = .slice LA l.length lc) (hL : Ix w LA lc l) (hsm : xs.length + l.length ≤ 2199023255552) (hbase : base ≤ w.heap.size)
    (h : ∀ v' w', w'.ownsRow base 41 6 v' (xs ++ l).length (itCells (xs ++ l)) → w.grownBy w' v.ownBlock → (v'.ownBlock = v.ownBlock ∨ v'.ownBlock = some w.heap.size) → wpList Tryd.prog ops Q rest (a.put o.dst v') w') :
    wpList Tryd.prog ops Q (o :: rest) a w := by
  obtain ⟨i0, hi0, hz0, hz1, hz2⟩ := info_parts infoItem
  have hlen : (itCells l).length = l.length * 6 := itCells_length l
  cases LA with
  | none =>
    have hl0 : l = [] := by
      rcases Nat.eq_zero_or_pos l.length with h0 | hp
      · exact List.length_eq_zero_iff.1 h0
      · obtain ⟨_, _, h0, _⟩ := hL.i hp; cases h0
    obtain rfl := hL.z rfl
    subst hl0
    refine wpList_append_own_none hgd s x _ ho base 41 i0 6 Tryd.underlying22 hi0 v _ _ hs hown hx (h v w (by simpa using hown) ⟨rfl, rfl, rfl, Nat.le_refl _, fun _ _ _ => rfl⟩ (.inl rfl))
  | some ad =>
    refine wpList_append_own_at w hgd s x _ ho base 41 i0 _ 6 56 Tryd.underlying22 hi0 hz0 hz1 hz2 rfl (by decide) v _ _ hs hown ad l.length lc (itCells l) hx hlen (fun j u hu => ?_) (itCells_one l) (by unfold maxLen; omega) (by omega) hbase (fun v' w' h1 h2 _ h4 => h v' w' (by rw [List.length_append, itCells_app]; exact h1) h2 h4)
    by_cases hp : 0 < l.length
    · obtain ⟨bk, off, e, _, hI⟩ := hL.i hp
      injection e with e
      subst e
      exact items_news hI j u hu
    · have := (List.getElem?_eq_some_iff.1 hu).1
      omega
set_option maxRecDepth 100000 in
set_option maxHeartbeats 2000000 in
theorem clone_any {A : Option Addr} {c : Nat} {l : List It} (w : World) (hA : Ix w A c l) (hl : l.length ≤ 1000000) :
    Calls Tryd.prog 25 #[.slice A l.length c] w fun e w' => ∃ C cc, e = .returned (.slice C l.length cc) ∧ w'.ownsRow w.heap.size 41 6 (.slice C l.length cc) l.length (itCells l) ∧ Below w.heap.size w w' ∧ (A = none → C = none) := by
  cases A with
  | none =>
    obtain rfl := hA.z rfl
    have hr := hA.r
    obtain rfl : l = [] := List.length_eq_zero_iff.1 (by omega)
    clear hA hl hr
    have hq := fun (w : World) (n c : Nat) => Lib.run_eql_slice_nil (P := Tryd.prog) w 22 41 none n c 0 0 Tryd.underlying22
    go_enter Tryd.func25, Tryd.ntmps25
    go_wp2_with fail
    go_ret
    exact ⟨none, 0, rfl, World.ownsRow_nil _ _ _ _, Below.refl _ _, fun _ => rfl⟩
  | some ad =>
    have HO0 : Hid ((w.alloc (.cells #[] 41)).ownsRow w.heap.size 41 6 (.slice (some ⟨w.heap.size, 0, none⟩) 0 0) ([] : List It).length (itCells [])) := Lib.hid (World.ownsRow_made (size := 6) (e := 41) w #[] 0 (Nat.le_refl _) (by unfold maxLen; omega) rfl)
    have HL0 := Lib.hid (hA.below (alloc1 w (.cells #[] 41)))
    have hs0 : w.heap.size ≤ (w.alloc (.cells #[] 41)).heap.size := by simp
    have hq := fun (w : World) (n c : Nat) => Lib.run_eql_slice_nil (P := Tryd.prog) w 22 41 (some ad) n c 0 0 Tryd.underlying22
    clear hA
    go_enter Tryd.func25, Tryd.ntmps25
    go_upto_region 3 with fail
    go_wp2_with (at_builtin; refine wpList_append_items (w := w.alloc (.cells #[] 41)) rfl (.tmp 5) (.tmp 6) rfl w.heap.size (.slice (some ⟨w.heap.size, 0, none⟩) 0 0) [] l rfl HO0.out _ c rfl HL0.out (by simp; omega) hs0 ?_; intro v1 w1 ho1 hg1 hat1; rw [List.nil_append] at ho1)
    have HB1 := Lib.hid ((alloc1 w (.cells #[] 41)).grown hg1 hs0 (fun k e => (World.ownsRow.lt HO0.out k e).1))
    obtain ⟨C, cc, rfl, -, -⟩ := own_form ho1
    have HO1 := Lib.hid ho1
    clear ho1 hg1 hat1
    go_wp2_with fail
    go_ret
    exact ⟨C, cc, rfl, HO1.out, HB1.out, fun e => by cases e⟩
end Go.Proofs.YtlggoplffhdkhaaDoor.Dl

namespace Go.Proofs.YtlggoplffhdkhaaDoor.Dl
set_option linter.unusedVariables false
set_option linter.unusedSimpArgs false
open Go.RowKit Go.Maps
open T
open V (drawn_below grown_of)
open I (It ItemsIn ItemsAt itCells itCells_snoc itCells_at alloc1 own_at own_below items_of_own items_own infoItem ItemsIn.below)

theorem idx_ne {y x : It} (h : y ≠ x) (r : List It) : (y :: r).idxOf x = r.idxOf x + 1 := by
  have e : (y == x) = false := beq_eq_false_iff_ne.2 h
  rw [List.idxOf_cons, e]; rfl
/-! The place behind the last one that is the same. -/
def beh (l : List It) (x : It) : Nat := l.length - l.reverse.idxOf x
theorem beh_snoc (l : List It) (y x : It) : beh (l ++ [y]) x = if x = y then l.length + 1 else beh l x := by
  unfold beh
  rw [List.reverse_append, List.reverse_singleton, List.singleton_append, List.length_append, List.length_singleton]
  by_cases e : x = y
  · subst e
    rw [if_pos rfl, List.idxOf_cons_self]; omega
  · rw [if_neg e, idx_ne (fun h => e h.symm)]; omega
theorem beh_rev : ∀ (r : List It) (x : It) (i : Nat), x ∈ r.reverse.drop i ↔ i < r.length - r.idxOf x
  | [], x, i => by simp
  | y :: r, x, i => by
    have ih := beh_rev r x i
    rw [List.reverse_cons, List.drop_append, List.length_reverse, List.mem_append, ih]
    have hle : r.idxOf x ≤ r.length := List.idxOf_le_length
    by_cases e : x = y
    · subst e
      rw [List.idxOf_cons_self]
      by_cases hi : i ≤ r.length
      · have : (List.drop (i - r.length) [x]) = [x] := by rw [show i - r.length = 0 by omega]; rfl
        rw [this]
        simp only [List.mem_singleton, or_true, List.length_cons, true_iff]; omega
      · have : (List.drop (i - r.length) [x]) = [] := List.drop_eq_nil_of_le (by simp; omega)
        rw [this]
        simp only [List.not_mem_nil, or_false, List.length_cons]; omega
    · rw [idx_ne (fun h => e h.symm)]
      have : x ∉ List.drop (i - r.length) [y] := fun h => e (by simpa using List.mem_of_mem_drop h)
      simp only [this, or_false, List.length_cons]; omega
theorem beh_iff (l : List It) (x : It) (i : Nat) : x ∈ l.drop i ↔ i < beh l x := by
  have := beh_rev l.reverse x i
  rw [List.reverse_reverse, List.length_reverse] at this
  exact this
theorem beh_le (l : List It) (x : It) : beh l x ≤ l.length := by unfold beh; omega
theorem it_takeS {l : List It} {k : Nat} (h : k < l.length) : l.take (k + 1) = l.take k ++ [l[k]] := List.take_succ_eq_append_getElem h
set_option maxRecDepth 100000 in
set_option maxHeartbeats 4000000 in
theorem ends_any (A : Option Addr) (c : Nat) (l : List It) (w : World) (hA : ItemsIn w A l) (hl : l.length ≤ 1000000) (hw : ∀ x ∈ l, Wi x) :
    Calls Tryd.prog 23 #[.slice A l.length c] w fun e w' => ∃ mb, e = .returned (.map (some mb)) ∧ MapIs w' mb l.length (fun x => (beh l x : Int)) ∧ Below w.heap.size w w' := by
  have HA := Lib.hid hA
  have HW := Lib.hid (fun (k : Nat) (hk : k < l.length) => hw l[k] (List.getElem_mem hk))
  have HBK := Lib.hid (fun (k : Nat) (hk : k < l.length) => show (fun x => (beh (l.take (k + 1)) x : Int)) = upd (fun x => (beh (l.take k) x : Int)) l[k] ((k : Int) + 1) by
    funext x
    rw [it_takeS hk, beh_snoc, upd, List.length_take]
    split
    · rw [Nat.min_eq_left (by omega)]; omega
    · rfl)
  have HM0 : Hid (MapIs (w.alloc (.map #[] 0)) w.heap.size 0 (fun x => (beh (l.take 0) x : Int))) := Lib.hid (by
    have h := MapIs.start w
    have e : (fun x => (beh (l.take 0) x : Int)) = fun _ => 0 := by funext x; simp [beh]
    rw [e]; exact h)
  have hmm0 := @run_makeMap Tryd.prog
  clear hA hw
  go_enter Tryd.func23, Tryd.ntmps23
  go_wp2_with fail
  go_loopg [4, 9] l.length (fun m at_ i wr => ∃ k : Nat, k ≤ l.length ∧ i = .int .i64 (k : Int) ∧ l.length - k ≤ m ∧ MapIs wr w.heap.size k (fun x => (beh (l.take k) x : Int)) ∧ Below w.heap.size w wr)
  case atStart => exact ⟨0, Nat.zero_le _, rfl, by omega, HM0.out, alloc1 _ _⟩
  case round =>
    obtain ⟨k, hk, rfl, hm, hmap, hbr⟩ := hrel
    by_cases hlt : k < l.length
    · obtain ⟨bk, off, hAe, hbk, g0, g1, g2, g3, g4, g5⟩ := it_at (HA.out.below hbr) hlt
      subst hAe
      have HX := Lib.hid (HW.out k hlt)
      have HB := Lib.hid (HBK.out k hlt)
      obtain ⟨x, hx⟩ : ∃ x, x = l[k]'hlt := ⟨_, rfl⟩
      rw [← hx] at g0 g1 g2 g3 g4 g5 HX HB
      have h0k : (0 : Int) ≤ (k : Int) := by omega
      have hki : (k : Int) < (l.length : Int) := by omega
      have hkz : (Lit.int .i64 ((k : Int) + 1)).wf = true := WalkArith.wf_i64 (by omega)
      have hw1 : IntKind.i64.wrap ((k : Int) + 1) = (k : Int) + 1 := by rw [IntKind.wrap_i64]; omega
      obtain ⟨W1, hW1⟩ : ∃ W : World, W = wr.alloc (.cells #[.int .i64 x.id, .int .i64 x.lv, .int .u64 (x.ct : Int), .bool x.an, .string ⟨x.tx.toArray⟩, .bool x.ba] 41) := ⟨_, rfl⟩
      have hb1 : Below wr.heap.size wr W1 := by rw [hW1]; exact alloc1 _ _
      have hx1 : W1.heap[wr.heap.size]? = some (.cells #[.int .i64 x.id, .int .i64 x.lv, .int .u64 (x.ct : Int), .bool x.an, .string ⟨x.tx.toArray⟩, .bool x.ba] 41 (0, 0)) := by rw [hW1]; exact heap_alloc_new wr _
      have HM1 := Lib.hid (hmap.kept (grown_of hb1 none) (by simp))
      have HB1 := Lib.hid (hbr.trans (hb1.mono hbr.size))
      have e0 := L.blk_cell hx1 0
      have e1 := L.blk_cell hx1 1
      have e2 := L.blk_cell hx1 2
      have e3 := L.blk_cell hx1 3
      have e4 := L.blk_cell hx1 4
      have e5 := L.blk_cell hx1 5
      simp only [List.getElem?_toArray, List.getElem?_cons_zero, List.getElem?_cons_succ] at e0 e1 e2 e3 e4 e5
      clear hx hbk hbr hb1 hx1 hmap
      go_upto_region 5 with fail
      rw [← hW1]
      clear hW1 g0 g1 g2 g3 g4 g5
      go_wp2_with (refine wpList_put W1 rfl (.tmp 14) (.tmp 15) (.tmp 17) _ rfl Tryd.underlying52 w.heap.size k _ rfl HM1.out (by unfold maxLen; omega) x HX.out ((k : Int) + 1) rfl rfl hkz ?_; intro w2 hm2 hg2)
      have HM2 := Lib.hid (HB.out ▸ hm2)
      have HB2 := Lib.hid (HB1.out.grown hg2 HB1.out.size (fun q e => by injection e with e; omega))
      clear hm2 hg2
      go_wp2_with fail
      go_roundg (l.length - (k + 1))
      case rel => exact ⟨k + 1, by omega, by go_num, Nat.le_refl _, HM2.out, HB2.out⟩
      case measure => omega
    · obtain rfl : k = l.length := by omega
      rw [List.take_length] at hmap
      go_wp2_with fail
      go_ret
      exact ⟨_, rfl, hmap, hbr⟩
/-! How many items a list begins with that are not among those from i on. -/
def mis (f : It → Int) (i : Int) (l : List It) : Nat := (l.takeWhile fun x => decide (f x ≤ i)).length
theorem mis_le (f : It → Int) (i : Int) (l : List It) : mis f i l ≤ l.length := (List.takeWhile_sublist _).length_le
theorem mis_drop {f : It → Int} {i : Int} {l : List It} {k : Nat} (hk : k < l.length) : mis f i (l.drop k) = if f l[k] ≤ i then mis f i (l.drop (k + 1)) + 1 else 0 := by
  unfold mis
  rw [List.drop_eq_getElem_cons hk, List.takeWhile_cons]
  by_cases h : f l[k] ≤ i
  · rw [decide_eq_true h, if_pos rfl, if_pos h]; rfl
  · rw [decide_eq_false h, if_neg (by decide), if_neg h]; rfl
set_option maxRecDepth 100000 in
set_option maxHeartbeats 4000000 in
theorem missing_any (A : Option Addr) (c : Nat) (l : List It) (mb n : Nat) (f : It → Int) (i : Nat) (w : World) (hA : ItemsIn w A l) (hl : l.length ≤ 1000000) (hw : ∀ x ∈ l, Wi x) (hm : MapIs w mb n f) :
    Calls Tryd.prog 24 #[.slice A l.length c, .map (some mb), .int .i64 (i : Int)] w fun e w' => e = .returned (.int .i64 (mis f i l : Int)) ∧ w' = w := by
  have HA := Lib.hid hA
  have HW := Lib.hid (fun (k : Nat) (hk : k < l.length) => hw l[k] (List.getElem_mem hk))
  have HM := Lib.hid hm
  have HD := Lib.hid (fun (k : Nat) (hk : k < l.length) => mis_drop (f := f) (i := (i : Int)) hk)
  obtain ⟨mi, hmi⟩ : ∃ mi : Nat → Nat, ∀ k, mis f i (l.drop k) = mi k := ⟨fun k => mis f i (l.drop k), fun _ => rfl⟩
  have HM0 : Hid (mi 0 = mis f i l) := Lib.hid (by rw [← hmi, List.drop_zero])
  have HME : Hid (mi l.length = 0) := Lib.hid (by rw [← hmi, List.drop_length]; rfl)
  simp only [hmi] at HD
  generalize mis f i l = r at *
  clear hA hw hm hmi
  go_enter Tryd.func24, Tryd.ntmps24
  go_wp2_with fail
  go_loopg [7] l.length (fun m n wr => ∃ k : Nat, k ≤ l.length ∧ n = .int .i64 (k : Int) ∧ l.length - k ≤ m ∧ wr = w ∧ Hid (r = k + mi k))
  case atStart => exact ⟨0, Nat.zero_le _, rfl, by omega, rfl, Lib.hid (by rw [HM0.out]; omega)⟩
  case round =>
    obtain ⟨k, hk, rfl, hmm, rfl, HR⟩ := hrel
    by_cases hlt : k < l.length
    · obtain ⟨bk, off, hAe, hbk, g0, g1, g2, g3, g4, g5⟩ := it_at HA.out hlt
      subst hAe
      have HDK := Lib.hid (HD.out k hlt)
      have hlook := HM.out.look Tryd.underlying52 (HW.out k hlt)
      simp only [itV] at hlook
      have h0k : (0 : Int) ≤ (k : Int) := by omega
      have hki : (k : Int) < (l.length : Int) := by omega
      obtain ⟨x, hx⟩ : ∃ x, x = l[k]'hlt := ⟨_, rfl⟩
      rw [← hx] at g0 g1 g2 g3 g4 g5 hlook HDK
      clear hx hbk
      generalize f x = v at *
      by_cases hv : v ≤ (i : Int)
      · have HV := Lib.hid (HDK.out.trans (if_pos hv))
        clear HDK
        go_wp2_with fail
        go_roundg (l.length - (k + 1))
        case rel => exact ⟨k + 1, by omega, by go_num, Nat.le_refl _, rfl, Lib.hid (by rw [HR.out, HV.out]; omega)⟩
        case measure => omega
      · have HV := Lib.hid (HDK.out.trans (if_neg hv))
        have hrk : r = k := by rw [HR.out, HV.out]; rfl
        have HRK := Lib.hid hrk
        clear HDK hrk
        go_wp2_with fail
        go_ret
        exact ⟨by rw [HRK.out]; rfl, rfl⟩
    · obtain rfl : k = l.length := by omega
      have hrk : r = l.length := by rw [HR.out, HME.out]; rfl
      have HRK := Lib.hid hrk
      clear hrk
      go_wp2_with fail
      go_ret
      exact ⟨by rw [HRK.out]; rfl, rfl⟩
/-! How many items both lists begin with. -/
def alk : List It → List It → Nat
  | x :: a, y :: b => if x = y then alk a b + 1 else 0
  | _, _ => 0
theorem alk_le : ∀ (a b : List It), alk a b ≤ a.length ∧ alk a b ≤ b.length ∧ a.take (alk a b) = b.take (alk a b)
  | [], b => by simp [alk]
  | x :: a, [] => by simp [alk]
  | x :: a, y :: b => by
    have ih := alk_le a b
    rw [alk]
    by_cases e : x = y
    · subst e
      rw [if_pos rfl]
      simp only [List.length_cons, List.take_succ_cons, ih.2.2]
      exact ⟨by omega, by omega, trivial⟩
    · rw [if_neg e]; simp
theorem alk_drop {a b : List It} {k : Nat} (ha : k < a.length) (hb : k < b.length) : alk (a.drop k) (b.drop k) = if a[k] = b[k] then alk (a.drop (k + 1)) (b.drop (k + 1)) + 1 else 0 := by
  rw [List.drop_eq_getElem_cons ha, List.drop_eq_getElem_cons hb, alk]
theorem alk_end {a b : List It} {k : Nat} (h : a.length ≤ k ∨ b.length ≤ k) : alk (a.drop k) (b.drop k) = 0 := by
  rcases h with h | h
  · rw [List.drop_eq_nil_of_le h]; simp [alk]
  · rw [List.drop_eq_nil_of_le h]; cases a.drop k <;> simp [alk]
set_option maxRecDepth 100000 in
set_option maxHeartbeats 4000000 in
theorem alike_any (A B : Option Addr) (ca cb : Nat) (a b : List It) (w : World) (hA : ItemsIn w A a) (hB : ItemsIn w B b) (ha : a.length ≤ 1000000) (hb : b.length ≤ 1000000) :
    Calls Tryd.prog 28 #[.slice A a.length ca, .slice B b.length cb] w fun e w' => e = .returned (.int .i64 (alk a b : Int)) ∧ Below w.heap.size w w' := by
  have HA := Lib.hid hA
  have HB := Lib.hid hB
  have HD := Lib.hid (fun (k : Nat) (h1 : k < a.length) (h2 : k < b.length) => alk_drop h1 h2)
  obtain ⟨mi, hmi⟩ : ∃ mi : Nat → Nat, ∀ k, alk (a.drop k) (b.drop k) = mi k := ⟨fun k => alk (a.drop k) (b.drop k), fun _ => rfl⟩
  have HM0 : Hid (mi 0 = alk a b) := Lib.hid (by rw [← hmi, List.drop_zero, List.drop_zero])
  obtain ⟨q, hq⟩ : ∃ q, q = min a.length b.length := ⟨_, rfl⟩
  have HME : Hid (mi q = 0) := Lib.hid (by rw [← hmi]; exact alk_end (by omega))
  simp only [hmi] at HD
  generalize alk a b = r at *
  have hq1 : q ≤ a.length := by omega
  have hq2 : q ≤ b.length := by omega
  have hmin : min (a.length : Int) (b.length : Int) = (q : Int) := by omega
  clear hA hB hmi hq
  go_enter Tryd.func28, Tryd.ntmps28
  go_wp2_with fail
  go_loopg [5] q (fun m n wr => ∃ k : Nat, k ≤ q ∧ n = .int .i64 (k : Int) ∧ q - k ≤ m ∧ Hid (Below w.heap.size w wr) ∧ Hid (r = k + mi k))
  case atStart => exact ⟨0, Nat.zero_le _, rfl, by omega, Lib.hid (Below.refl _ _), Lib.hid (by rw [HM0.out]; omega)⟩
  case round =>
    obtain ⟨k, hk, rfl, hmm, HBR, HR⟩ := hrel
    by_cases hlt : k < q
    · obtain ⟨bk, off, hAe, hbk, g0, g1, g2, g3, g4, g5⟩ := it_at (HA.out.below HBR.out) (show k < a.length by omega)
      obtain ⟨bk2, off2, hBe, hbk2, d0, d1, d2, d3, d4, d5⟩ := it_at (HB.out.below HBR.out) (show k < b.length by omega)
      subst hAe hBe
      have HDK := Lib.hid (HD.out k (by omega) (by omega))
      have h0k : (0 : Int) ≤ (k : Int) := by omega
      have hki : (k : Int) < (q : Int) := by omega
      have hka : (k : Int) < (a.length : Int) := by omega
      have hkb : (k : Int) < (b.length : Int) := by omega
      obtain ⟨x, hx⟩ : ∃ x, x = a[k]'(by omega) := ⟨_, rfl⟩
      obtain ⟨y, hy⟩ : ∃ y, y = b[k]'(by omega) := ⟨_, rfl⟩
      rw [← hx] at g0 g1 g2 g3 g4 g5 HDK
      rw [← hy] at d0 d1 d2 d3 d4 d5 HDK
      clear hx hy hbk hbk2
      by_cases hv : x = y
      · have qE := fun w => it_eql w x y
        rw [decide_eq_true hv] at qE
        simp only [itV] at qE
        have HV := Lib.hid (HDK.out.trans (if_pos hv))
        clear HDK hv
        go_wp2_with fail
        go_quiet (fail)
        go_wp2_with fail
        go_roundg (q - (k + 1))
        case rel => exact ⟨k + 1, by omega, by go_num, Nat.le_refl _, Lib.hid (HBR.out.trans ((drawn_below _ _).mono HBR.out.size)), Lib.hid (by rw [HR.out, HV.out]; omega)⟩
        case measure => omega
      · have qE := fun w => it_eql w x y
        rw [decide_eq_false hv] at qE
        simp only [itV] at qE
        have HV := Lib.hid (HDK.out.trans (if_neg hv))
        have hrk : r = k := by rw [HR.out, HV.out]; rfl
        have HRK := Lib.hid hrk
        clear HDK hv hrk
        go_wp2_with fail
        go_quiet (fail)
        go_wp2_with fail
        go_ret
        exact ⟨by rw [HRK.out]; rfl, HBR.out.trans ((drawn_below _ _).mono HBR.out.size)⟩
    · obtain rfl : k = q := by omega
      have hrk : r = k := by rw [HR.out, HME.out]; rfl
      have HRK := Lib.hid hrk
      clear hrk
      have hkk : ¬ (k : Int) < (k : Int) := by omega
      go_wp2_with fail
      go_quiet (fail)
      go_wp2_with fail
      go_ret
      exact ⟨by rw [HRK.out]; rfl, HBR.out.trans ((drawn_below _ _).mono HBR.out.size)⟩
end Go.Proofs.YtlggoplffhdkhaaDoor.Dl

namespace Go.Proofs.YtlggoplffhdkhaaDoor.Dl
set_option linter.unusedVariables false
set_option linter.unusedSimpArgs false
open Go.RowKit Go.Maps
open T
open V (drawn_below grown_of)
open I (It ItemsIn ItemsAt itCells itCells_snoc itCells_at alloc1 own_at own_below items_of_own items_own infoItem ItemsIn.below)

theorem infoPart : (Tryd.prog.info? 27).map (fun i => (i.zero, i.size, i.bytes)) = some (some (.agg #[.int .i64 0, .int .i64 0, .slice none 0 0]), 3, 40) := by kernel_rfl
/-- A part, and where its items lie. -/
structure Pq where
  p : Pt
  C : Option Addr
  cc : Nat
def pqCells (qs : List Pq) : List Value := qs.flatMap fun q => [.int .i64 q.p.at_, .int .i64 q.p.n, .slice q.C q.p.its.length q.cc]
theorem pqCells_snoc (qs : List Pq) (q : Pq) : pqCells (qs ++ [q]) = pqCells qs ++ [.int .i64 q.p.at_, .int .i64 q.p.n, .slice q.C q.p.its.length q.cc] := by simp [pqCells]
theorem pqCells_at : ∀ (qs : List Pq) (j : Nat) (h : j < qs.length), (pqCells qs)[j * 3]? = some (.int .i64 qs[j].p.at_) ∧ (pqCells qs)[j * 3 + 1]? = some (.int .i64 qs[j].p.n) ∧ (pqCells qs)[j * 3 + 2]? = some (.slice qs[j].C qs[j].p.its.length qs[j].cc)
  | x :: r, 0, _ => by simp [pqCells]
  | x :: r, j + 1, h => by
    have ih := pqCells_at r j (by simpa using h)
    have e : pqCells (x :: r) = .int .i64 x.p.at_ :: .int .i64 x.p.n :: .slice x.C x.p.its.length x.cc :: pqCells r := by simp [pqCells]
    rw [e, show (j + 1) * 3 = j * 3 + 1 + 1 + 1 by omega]
    simpa using ih
theorem pqCells_length : ∀ qs : List Pq, (pqCells qs).length = qs.length * 3
  | [] => rfl
  | x :: r => by
    have e : pqCells (x :: r) = .int .i64 x.p.at_ :: .int .i64 x.p.n :: .slice x.C x.p.its.length x.cc :: pqCells r := by simp [pqCells]
    rw [e]; simp only [List.length_cons, pqCells_length r]; omega
/-- Parts in a row of the call's own, their items in rows of its own. -/
structure Pw (W : World) (base : Nat) (v : Value) (qs : List Pq) : Prop where
  own : W.ownsRow base 27 3 v qs.length (pqCells qs)
  its : ∀ q ∈ qs, W.ownsRow base 41 6 (.slice q.C q.p.its.length q.cc) q.p.its.length (itCells q.p.its)
theorem Pw.nil (W : World) (base : Nat) : Pw W base (.slice none 0 0) [] := ⟨World.ownsRow_nil _ _ _ _, fun q hq => by cases hq⟩
theorem Pw.below {W W' : World} {base : Nat} {v : Value} {qs : List Pq} (h : Pw W base v qs) (hb : Below W.heap.size W W') : Pw W' base v qs := ⟨own_below h.own hb, fun q hq => own_below (h.its q hq) hb⟩
theorem Pw.add {W W' : World} {base : Nat} {v v' : Value} {qs : List Pq} (h : Pw W base v qs) {q : Pq} (hq : W.ownsRow base 41 6 (.slice q.C q.p.its.length q.cc) q.p.its.length (itCells q.p.its)) (hg : W.grownBy W' v.ownBlock) (ho : W'.ownsRow base 27 3 v' (qs.length + 1) (pqCells qs ++ [.int .i64 q.p.at_, .int .i64 q.p.n, .slice q.C q.p.its.length q.cc])) : Pw W' base v' (qs ++ [q]) := by
  refine ⟨by rw [List.length_append, pqCells_snoc]; exact ho, fun x hx => ?_⟩
  rcases List.mem_append.1 hx with hx | hx
  · exact (h.its x hx).kept hg (V.own_apart (by decide) (h.its x hx) h.own)
  · simp only [List.mem_singleton] at hx
    subst hx
    exact hq.kept hg (V.own_apart (by decide) hq h.own)
/-- Parts to be read. -/
def PtsIn (w : World) (A : Option Addr) (d : List Pt) : Prop := 0 < d.length → ∃ bk off, A = some ⟨bk, off, none⟩ ∧ bk < w.heap.size ∧ ∀ j (hj : j < d.length), w.cell? ⟨bk, off + j * 3, none⟩ = some (.int .i64 d[j].at_) ∧ w.cell? ⟨bk, off + j * 3 + 1, none⟩ = some (.int .i64 d[j].n) ∧ ∃ C cc, w.cell? ⟨bk, off + j * 3 + 2, none⟩ = some (.slice C d[j].its.length cc) ∧ Ix w C cc d[j].its
theorem PtsIn.below {w w' : World} {A : Option Addr} {d : List Pt} (h : PtsIn w A d) (hb : Below w.heap.size w w') : PtsIn w' A d := fun hp => by
  obtain ⟨bk, off, e, hlt, hI⟩ := h hp
  refine ⟨bk, off, e, Nat.lt_of_lt_of_le hlt hb.size, fun j hj => ?_⟩
  obtain ⟨c0, c1, C, cc, c2, c3⟩ := hI j hj
  exact ⟨(hb.cell (p := ⟨bk, _, none⟩) hlt).trans c0, (hb.cell (p := ⟨bk, _, none⟩) hlt).trans c1, C, cc, (hb.cell (p := ⟨bk, _, none⟩) hlt).trans c2, c3.below hb⟩
theorem own_ix {w : World} {base : Nat} {C : Option Addr} {cc : Nat} {l : List It} (h : w.ownsRow base 41 6 (.slice C l.length cc) l.length (itCells l)) : Ix w C cc l := by
  obtain ⟨A', c', hv, hc, -⟩ := own_form h
  injection hv with e1 _ e3
  subst e1 e3
  refine ⟨items_own h, hc, fun e => ?_⟩
  subst e
  rcases h.2 with ⟨h', _⟩ | ⟨g', cap', cur, h', _⟩
  · simp at h'; exact h'.2
  · simp at h'
theorem Pw.read {W : World} {base : Nat} {A : Option Addr} {n cap : Nat} {qs : List Pq} (h : Pw W base (.slice A n cap) qs) : PtsIn W A (qs.map (·.p)) := fun hp => by
  rw [List.length_map] at hp
  have h0 := h.own
  obtain ⟨A', c', hv, -, -⟩ := own_form h0
  injection hv with e1 e2 e3
  subst e2
  obtain ⟨g, hA, _, hlt, hc⟩ := own_at h0 hp
  refine ⟨g, 0, hA, hlt, fun j hj => ?_⟩
  rw [List.length_map] at hj
  obtain ⟨h0, h1, h2⟩ := pqCells_at qs j hj
  rw [Nat.zero_add, List.getElem_map]
  exact ⟨hc _ _ h0, hc _ _ h1, qs[j].C, qs[j].cc, hc _ _ h2, own_ix (h.its _ (List.getElem_mem hj))⟩
theorem pq_len {W : World} {base : Nat} {A : Option Addr} {n cap : Nat} {qs : List Pq} (h : Pw W base (.slice A n cap) qs) : n = qs.length := by
  obtain ⟨A', c', hv, -, -⟩ := own_form h.own
  injection hv
def PtEnd (w : World) (d : List Pt) (e : Ending) (w' : World) : Prop := ∃ A cap, e = .returned (.slice A d.length cap) ∧ PtsIn w' A d ∧ Below w.heap.size w w'

set_option maxRecDepth 100000 in
set_option maxHeartbeats 4000000 in
theorem index_any (A : Option Addr) (c : Nat) (l : List It) (v : It) (w : World) (hA : ItemsIn w A l) (hl : l.length ≤ 1000000) (hv : v ∈ l) :
    Calls Tryd.prog 27 #[.slice A l.length c, itV v] w fun e w' => e = .returned (.int .i64 (l.idxOf v : Int)) ∧ Below w.heap.size w w' := by
  have HA := Lib.hid hA
  have hr := List.idxOf_lt_length_iff.2 hv
  have HE : Hid (∃ h, l[l.idxOf v]'h = v) := Lib.hid ⟨hr, List.getElem_idxOf hr⟩
  have HN : Hid (∀ k (h : k < l.length), k < l.idxOf v → l[k] ≠ v) := Lib.hid (fun k h hk => by
    have := List.not_of_lt_findIdx (p := (· == v)) (xs := l) (i := k) hk
    simpa using this)
  obtain ⟨W0, hW0⟩ : ∃ W : World, W = w.alloc (.cells #[.int .i64 v.id, .int .i64 v.lv, .int .u64 (v.ct : Int), .bool v.an, .string ⟨v.tx.toArray⟩, .bool v.ba] 41) := ⟨_, rfl⟩
  have hb0 : Below w.heap.size w W0 := by rw [hW0]; exact alloc1 _ _
  have hx0 : W0.heap[w.heap.size]? = some (.cells #[.int .i64 v.id, .int .i64 v.lv, .int .u64 (v.ct : Int), .bool v.an, .string ⟨v.tx.toArray⟩, .bool v.ba] 41 (0, 0)) := by rw [hW0]; exact heap_alloc_new w _
  have HB0 := Lib.hid hb0
  have HX0 := Lib.hid hx0
  generalize l.idxOf v = r at *
  clear hA hb0 hx0 hv
  simp only [itV]
  go_enter Tryd.func27, Tryd.ntmps27
  go_upto_region 1 with fail
  rw [← hW0]
  obtain ⟨xb, hxb⟩ : ∃ q, q = w.heap.size := ⟨_, rfl⟩
  rw [← hxb] at HB0 HX0 ⊢
  have HXB := Lib.hid hxb
  clear hW0 hxb
  go_wp2_with fail
  go_loopg [5, 8] l.length (fun m n i wr => ∃ k : Nat, k ≤ r ∧ i = .int .i64 (k : Int) ∧ l.length - k ≤ m ∧ Hid (Below W0.heap.size W0 wr))
  case atStart => exact ⟨0, Nat.zero_le _, rfl, by omega, Lib.hid (Below.refl _ _)⟩
  case round =>
    obtain ⟨k, hk, rfl, hmm, HBR⟩ := hrel
    have hkl : k < l.length := by omega
    obtain ⟨bk, off, hAe, hbk, g0, g1, g2, g3, g4, g5⟩ := it_at ((HA.out.below (HXB.out ▸ HB0.out)).below HBR.out) hkl
    subst hAe
    have hx1 := (HBR.out.block _ (L.blk_lt HX0.out)).trans HX0.out
    have e0 := L.blk_cell hx1 0
    have e1 := L.blk_cell hx1 1
    have e2 := L.blk_cell hx1 2
    have e3 := L.blk_cell hx1 3
    have e4 := L.blk_cell hx1 4
    have e5 := L.blk_cell hx1 5
    simp only [List.getElem?_toArray, List.getElem?_cons_zero, List.getElem?_cons_succ] at e0 e1 e2 e3 e4 e5
    have h0k : (0 : Int) ≤ (k : Int) := by omega
    have hki : (k : Int) < (l.length : Int) := by omega
    by_cases hkr : k = r
    · subst hkr
      obtain ⟨_, hE⟩ := HE.out
      rw [hE] at g0 g1 g2 g3 g4 g5
      have qE := fun w => it_eql w v v
      rw [decide_eq_true rfl] at qE
      simp only [itV] at qE
      clear hx1 hbk hE
      go_wp2_with fail
      go_quiet (fail)
      go_wp2_with fail
      go_ret
      exact ⟨rfl, HXB.out ▸ (HB0.out.trans ((HBR.out.trans ((drawn_below _ _).mono HBR.out.size)).mono (by rw [HXB.out]; exact HB0.out.size)))⟩
    · have hne := HN.out k hkl (by omega)
      obtain ⟨x, hx⟩ : ∃ x, x = l[k]'hkl := ⟨_, rfl⟩
      rw [← hx] at g0 g1 g2 g3 g4 g5 hne
      have qE := fun w => it_eql w v x
      rw [decide_eq_false (fun e => hne e.symm)] at qE
      simp only [itV] at qE
      clear hx1 hbk hx hne
      go_wp2_with fail
      go_quiet (fail)
      go_wp2_with fail
      go_roundg (l.length - (k + 1))
      case rel => exact ⟨k + 1, by omega, by go_num, Nat.le_refl _, Lib.hid (HBR.out.trans ((drawn_below _ _).mono HBR.out.size))⟩
      case measure => omega
end Go.Proofs.YtlggoplffhdkhaaDoor.Dl
