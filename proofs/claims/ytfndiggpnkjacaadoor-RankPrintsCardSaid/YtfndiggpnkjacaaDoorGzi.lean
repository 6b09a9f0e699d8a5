/-
  The contract of intern's Counts.
  The contracts of the reference's count and Same.
  What must be whatever is asked of layer 7; a row's first 40 numbers.
  The reference's Table: the distance of what is left behind each two places.
  How many lines two texts have in common, and how much they are like each other: the program's and the reference's functions.
  The library's insertion sort at likenesses, laid.
  Likenesses in memory; which one comes first; sorted by the library.
-/
import Derived.Test.YtfndiggpnkjacaaDoorGzh
import Derived.Test.YtfndiggpnkjacaaDoorGzg
import Derived.BigQuiet
import Derived.StillTailTactics
import Derived.Test.YtfndiggpnkjacaaDoorGzf
import Derived.Shelf.SlSortCmp.InsertionK
import Derived.Shelf.SlGeneric
import Derived.Ground.SlsfProg
import Derived.Test.YtfndiggpnkjacaaDoorProg
import Derived.Lib.OwnBridge
import Derived.Deep.AppendLies
namespace Go.Proofs.YtfndiggpnkjacaaDoor.N
set_option linter.unusedVariables false
set_option linter.unusedSimpArgs false
open Go.RowKit
open T
open V (grown_of IntsIn numCells numCells_snoc ints_own drawn_below own_put own_cells own_type own_apart2)
open I (alloc1 own_at own_below)

def asI (cs : List (Int × Nat)) : List (Int × Int) := cs.map fun p => (p.1, (p.2 : Int))
theorem asI_snoc (cs : List (Int × Nat)) (p : Int × Nat) : asI (cs ++ [p]) = asI cs ++ [(p.1, (p.2 : Int))] := by simp [asI]
theorem asI_length (cs : List (Int × Nat)) : (asI cs).length = cs.length := by simp [asI]
/-- A row of pairs. -/
def PsEnd (W : World) (ps : List (Int × Int)) (e : Ending) (w' : World) : Prop := ∃ A cap, e = .returned (.slice A ps.length cap) ∧ w'.ownsRow W.heap.size 74 2 (.slice A ps.length cap) ps.length (prCells ps) ∧ Below W.heap.size W w'
/-- What a walk through ordered numbers holds: of those ahead of place i. -/
theorem Cn.le {l : List Int} {cs : List (Int × Nat)} (h : Cn l cs) : cs.length ≤ tot cs := by
  have : ∀ ds : List (Int × Nat), (∀ p ∈ ds, 0 < p.2) → ds.length ≤ tot ds := fun ds => by
    induction ds with
    | nil => intro _; exact Nat.le_refl _
    | cons p r ih =>
      intro hp
      have h1 := ih (fun q hq => hp q (by simp [hq]))
      have h2 := hp p (by simp)
      simp only [tot, List.map_cons, List.sum_cons, List.length_cons] at h1 ⊢
      omega
  exact this cs fun p hp => by
    rw [(h.mem p hp).2]
    exact List.count_pos_iff.2 (h.mem p hp).1
structure CnI (s : List Int) (i : Nat) (cs : List (Int × Nat)) : Prop where
  cn : Cn (s.take i) cs
  tot : tot cs = i
  last : ∀ j (hj : j < s.length), j + 1 = i → ∃ c0 c, cs = c0 ++ [(s[j], c)]
theorem CnI.start (s : List Int) : CnI s 0 [] := ⟨by rw [List.take_zero]; exact Cn.nil, rfl, fun j _ e => by omega⟩
theorem CnI.new {s : List Int} {i : Nat} {cs : List (Int × Nat)} (h : CnI s i cs) (hs : s.Pairwise (· ≤ ·)) (hi : i < s.length) (hn : ∀ j (hj : j < s.length), j + 1 = i → ¬ s[j] = s[i]) : CnI s (i + 1) (cs ++ [(s[i], 1)]) := by
  refine ⟨?_, by rw [tot_snoc, h.tot], fun j hj e => ⟨cs, 1, by have e' : j = i := (by omega); subst e'; rfl⟩⟩
  rw [List.take_succ_eq_append_getElem hi]
  refine h.cn.new fun x hx => ?_
  obtain ⟨q, hq, rfl⟩ := List.mem_iff_getElem.1 hx
  simp only [List.length_take] at hq
  rw [List.getElem_take]
  have h1 : s[i - 1] ≤ s[i] := List.pairwise_iff_getElem.1 hs (i - 1) i (by omega) hi (by omega)
  have h2 := hn (i - 1) (by omega) (by omega)
  have h3 : s[q] ≤ s[i - 1] := by
    by_cases e : q = i - 1
    · subst e; exact Int.le_refl _
    · exact List.pairwise_iff_getElem.1 hs q (i - 1) (by omega) (by omega) (by omega)
  omega
theorem CnI.again {s : List Int} {i : Nat} {c0 : List (Int × Nat)} {c : Nat} (hi : i < s.length) (h : CnI s i (c0 ++ [(s[i], c)])) : CnI s (i + 1) (c0 ++ [(s[i], c + 1)]) := by
  refine ⟨?_, by have := h.tot; rw [tot_snoc] at this ⊢; simp only at this ⊢; omega, fun j hj e => ⟨c0, c + 1, by have e' : j = i := (by omega); subst e'; rfl⟩⟩
  rw [List.take_succ_eq_append_getElem hi]
  exact h.cn.again
/-- How often each number of a row is there. -/
def CnR (l : List Int) (ps : List (Int × Int)) : Prop := ∃ cs, ps = asI cs ∧ Cn l cs ∧ tot cs = l.length

end Go.Proofs.YtfndiggpnkjacaaDoor.N

namespace Go.Proofs.YtfndiggpnkjacaaDoor.N
set_option linter.unusedVariables false
set_option linter.unusedSimpArgs false
open Go.RowKit
open T
open V (grown_of IntsIn numCells numCells_snoc ints_own drawn_below)
open I (alloc1 own_at own_below)

theorem count_take {l : List Int} {n : Int} {k : Nat} (hk : k < l.length) : (l.take (k + 1)).count n = (l.take k).count n + if l[k] = n then 1 else 0 := by
  rw [List.take_succ_eq_append_getElem hk, List.count_append, List.count_singleton]
  simp
theorem count_le (l : List Int) (n : Int) (k : Nat) : (l.take k).count n ≤ l.length := Nat.le_trans List.count_le_length (by rw [List.length_take]; omega)
/-- Pairs in memory, to be read. -/
def PrIn (w : World) (A : Option Addr) (ps : List (Int × Int)) : Prop :=
  0 < ps.length → ∃ bk off, A = some ⟨bk, off, none⟩ ∧ bk < w.heap.size ∧ ∀ j (h : j < ps.length), w.cell? ⟨bk, off + j * 2, none⟩ = some (.int .i64 ps[j].1) ∧ w.cell? ⟨bk, off + j * 2 + 1, none⟩ = some (.int .i64 ps[j].2)
theorem PrIn.below {w w' : World} {A : Option Addr} {ps : List (Int × Int)} (h : PrIn w A ps) (hb : Below w.heap.size w w') : PrIn w' A ps := fun hp => by
  obtain ⟨bk, off, e, hlt, hl⟩ := h hp
  exact ⟨bk, off, e, Nat.lt_of_lt_of_le hlt hb.size, fun j hj => ⟨(hb.cell (p := ⟨bk, off + j * 2, none⟩) hlt).trans (hl j hj).1, (hb.cell (p := ⟨bk, off + j * 2 + 1, none⟩) hlt).trans (hl j hj).2⟩⟩
theorem prCells_at : ∀ (ps : List (Int × Int)) (j : Nat) (h : j < ps.length), (prCells ps)[j * 2]? = some (.int .i64 ps[j].1) ∧ (prCells ps)[j * 2 + 1]? = some (.int .i64 ps[j].2)
  | [], j, h => by simp at h
  | p :: r, 0, _ => ⟨rfl, rfl⟩
  | p :: r, j + 1, h => by
    have := prCells_at r j (by simpa using h)
    rw [show (j + 1) * 2 = j * 2 + 2 by omega, show j * 2 + 2 + 1 = j * 2 + 1 + 2 by omega]
    exact this
theorem pr_own {w : World} {base : Nat} {A : Option Addr} {cap : Nat} {ps : List (Int × Int)} (h : w.ownsRow base 74 2 (.slice A ps.length cap) ps.length (prCells ps)) : PrIn w A ps := fun hp => by
  obtain ⟨g, hA, _, hlt, hc⟩ := own_at h hp
  refine ⟨g, 0, hA, hlt, fun j hj => ?_⟩
  obtain ⟨h0, h1⟩ := prCells_at ps j hj
  rw [Nat.zero_add]
  exact ⟨hc _ _ h0, hc _ _ h1⟩
theorem pair_eql (w : World) (a b c d : Int) : (Op.equal 74 (.agg #[.int .i64 a, .int .i64 b]) (.agg #[.int .i64 c, .int .i64 d])).run Tryd.prog w = .ok ((a == c) && (b == d)) w := by
  obtain ⟨i0, hi0, hz0, hz1, hz2⟩ := info_parts L.infoInt
  have hc : Tryd.prog.cellsOf 3 = 1 := by kernel_rfl
  have hk : Tryd.prog.plainKey 3 = true := by kernel_rfl
  rw [Op.equal, Op.maxDepth, show (10000 : Nat) = 9999 + 1 from rfl, run_equalIn_array w 9999 _ _ Tryd.underlying74 hi0, hc]
  have p0 : ∀ x y : Int, (part 3 #[.int .i64 x, .int .i64 y] 0).run Tryd.prog w = .ok (.int .i64 x) w := fun x y => run_part_plain w hk rfl
  have p1 : ∀ x y : Int, (part 3 #[.int .i64 x, .int .i64 y] 1).run Tryd.prog w = .ok (.int .i64 y) w := fun x y => run_part_plain w hk rfl
  have q' : ∀ (d : Nat) (x y : Int), (Op.equalIn (d + 1) 3 (.int .i64 x) (.int .i64 y)).run Tryd.prog w = .ok (x == y) w := fun d x y => by
    simp [Op.equalIn, run_underlying Tryd.underlying3]
  have q := q' 9998
  simp only [show List.range 2 = [0, 1] from rfl, Op.eqItems, Sem.run_bind, Nat.zero_mul, Nat.one_mul, p0, p1, q, Result.andThen_ok]
  cases h1 : a == c <;> cases h2 : b == d <;> simp [p1, q, h2]
theorem pair_eql' (w : World) (a b c d : Int) : (binOp .eql 74 (.agg #[.int .i64 a, .int .i64 b]) (.agg #[.int .i64 c, .int .i64 d])).run Tryd.prog w = .ok (.bool ((a == c) && (b == d))) w := by
  simp only [binOp, Sem.run_bind, pair_eql, Result.andThen_ok, Sem.run_pure]
theorem pair_neq (w : World) (a b c d : Int) : (binOp .neq 74 (.agg #[.int .i64 a, .int .i64 b]) (.agg #[.int .i64 c, .int .i64 d])).run Tryd.prog w = .ok (.bool (!((a == c) && (b == d)))) w := by
  simp only [binOp, Sem.run_bind, pair_eql, Result.andThen_ok, Sem.run_pure]
end Go.Proofs.YtfndiggpnkjacaaDoor.N

namespace Go.Proofs.YtfndiggpnkjacaaDoor.M
set_option linter.unusedVariables false
set_option linter.unusedSimpArgs false
open Go.RowKit
open T
open V (IntsIn numCells numCells_snoc ints_own drawn_below)
open I (alloc1 own_at own_below)
open N (prCells prCells_snoc prCells_length PrIn pr_own pair_eql')

/-- A call that tells true, and keeps what there was. -/
def Lv (fn : FuncId) : Prop := ∀ w : World, Calls Tryd.prog fn #[] w fun e w' => e = .returned (.bool true) ∧ Below w.heap.size w w'
theorem Lv.at {fn : FuncId} (h : Lv fn) (w : World) : Calls Tryd.prog fn #[] w fun e w' => e = .returned (.bool true) ∧ Below w.heap.size w w' := h w
theorem ints_of_block {w : World} {g : Nat} {cs : Array Value} {xs : List Int} (h : w.heap[g]? = some (.cells cs 3 (0, 0))) (hc : cs.toList = numCells xs) : IntsIn w (some ⟨g, 0, none⟩) xs := by
  have : Row w g xs := by unfold Row; rw [h, ← hc]
  exact this.ints
theorem way1 : way [1, 2, 3] [2, 4] = [2, 1, 2, 3] := by simp [way, ed]
theorem way2 : pairs [1, 2] [2] = [(1, 0)] := by simp [pairs, way, ed, told, prs]
theorem way3 : ed [1] [] = 1 := by simp [ed]
theorem two (w : World) (o0 o1 : Obj) : ∃ W : World, W = (w.alloc o0).alloc o1 ∧ W.heap[w.heap.size]? = some o0 ∧ W.heap[w.heap.size + 1]? = some o1 ∧ Below w.heap.size w W := by
  refine ⟨_, rfl, ?_, alloc_at _ (by simp), ((alloc1 _ _).alloc (by simp) _)⟩
  exact ((alloc1 (w.alloc o0) o1).block _ (by simp)).trans (alloc_at _ rfl)
theorem st_cells {w : World} {base : Nat} {A : Option Addr} {cap : Nat} {s : List Int} (h : w.ownsRow base 73 1 (.slice A s.length cap) s.length (numCells s)) (hp : 0 < s.length) :
    ∃ g, A = some ⟨g, 0, none⟩ ∧ base ≤ g ∧ g < w.heap.size ∧ ∀ j (hj : j < s.length), w.cell? ⟨g, j, none⟩ = some (.int .i64 s[j]) := by
  obtain ⟨g, hA, hg, hlt, hc⟩ := own_at h hp
  exact ⟨g, hA, hg, hlt, fun j hj => hc j _ (by simp [numCells, List.getElem?_eq_getElem hj])⟩

theorem ints_take {w : World} {A : Option Addr} {a : List Int} (h : IntsIn w A a) (k : Nat) : IntsIn w A (a.take k) := fun hp => by
  obtain ⟨bk, off, rfl, hlt, hI⟩ := h (by rw [List.length_take] at hp; omega)
  refine ⟨bk, off, rfl, hlt, fun j hj => ?_⟩
  rw [List.getElem_take]
  exact hI j (by rw [List.length_take] at hj; omega)
end Go.Proofs.YtfndiggpnkjacaaDoor.M

namespace Go.Proofs.YtfndiggpnkjacaaDoor.M
set_option linter.unusedVariables false
set_option linter.unusedSimpArgs false
open Go.RowKit
open T
open V (IntsIn numCells numCells_snoc ints_own drawn_below)
open I (alloc1 own_at own_below)

/-- A table's rows: their blocks, and what is in them. -/
structure Tb (w : World) (base G la lb : Nat) (gs : List Nat) (R : Nat → List Int) : Prop where
  len : gs.length = la + 1
  head : ∃ cs, w.heap[G]? = some (.cells cs 46 (0, 0))
  row : ∀ i (h : i < gs.length), w.cell? ⟨G, i, none⟩ = some (rowV (lb + 1) gs[i]) ∧ base ≤ gs[i] ∧ Row w gs[i] (R i) ∧ (R i).length = lb + 1
  apart : ∀ i j (hi : i < gs.length) (hj : j < gs.length), i ≠ j → gs[i] ≠ gs[j]
theorem Tb.draw {w : World} {base G la lb : Nat} {gs : List Nat} {R : Nat → List Int} (h : Tb w base G la lb gs R) (q : Nat) : Tb (w.drewN q) base G la lb gs R := ⟨h.len, h.head, h.row, h.apart⟩
theorem Tb.draw1 {w : World} {base G la lb : Nat} {gs : List Nat} {R : Nat → List Int} (h : Tb w base G la lb gs R) : Tb w.drew base G la lb gs R := ⟨h.len, h.head, h.row, h.apart⟩
theorem Tb.put {w : World} {base G la lb : Nat} {gs : List Nat} {R : Nat → List Int} (h : Tb w base G la lb gs R) {i : Nat} (hi : i < gs.length) (j : Nat) (z : Int) :
    Tb (w.setCell ⟨gs[i], j, none⟩ (.int .i64 z)) base G la lb gs (fun k => if k = i then (R i).set j z else R k) := by
  have hG : G ≠ gs[i] := fun e => by
    obtain ⟨cs, hc⟩ := h.head
    have := (h.row i hi).2.2.1
    unfold Row at this
    rw [← e, hc] at this
    injection this with this
    injection this with _ this
    exact absurd this (by decide)
  refine ⟨h.len, ?_, fun k hk => ?_, h.apart⟩
  · obtain ⟨cs, hc⟩ := h.head
    exact ⟨cs, (heap_setCell_other _ _ _ _ hG).trans hc⟩
  · obtain ⟨h1, h2, h3, h4⟩ := h.row k hk
    refine ⟨(World.cell?_of_block (a := ⟨G, k, none⟩) (heap_setCell_other _ _ _ _ hG)).trans h1, h2, ?_, ?_⟩
    · by_cases e : k = i
      · subst e; rw [if_pos rfl]; exact h3.set j z
      · rw [if_neg e]; exact (heap_setCell_other w ⟨gs[i], j, none⟩ gs[k] _ (h.apart k i hk hi e)).trans h3
    · by_cases e : k = i
      · subst e; rw [if_pos rfl, List.length_set]; exact h4
      · rw [if_neg e]; exact h4
/-- What has been worked out: all behind (z, y). -/
def Done (a b : List Int) (R : Nat → List Int) (z y : Int) : Prop := ∀ i j : Nat, i ≤ a.length → j ≤ b.length → (z < i ∨ z = i ∧ y < j) → (R i).getD j 0 = ((D a b i j : Nat) : Int)
theorem Done.put {a b : List Int} {R : Nat → List Int} {i j : Nat} (h : Done a b R i j) (hl : j < (R i).length) {z : Int} (hz : z = ((D a b i j : Nat) : Int)) : Done a b (fun k => if k = i then (R i).set j z else R k) i ((j : Int) - 1) := fun i' j' hi hj hc => by
  show (if i' = i then (R i).set j z else R i').getD j' 0 = _
  by_cases e : i' = i
  · subst e
    rw [if_pos rfl, getD_set hl]
    by_cases e2 : j' = j
    · subst e2; rw [if_pos rfl, hz]
    · rw [if_neg e2]; exact h _ _ hi hj (.inr ⟨rfl, by omega⟩)
  · rw [if_neg e]; exact h _ _ hi hj (.inl (by omega))
theorem Done.line {a b : List Int} {R : Nat → List Int} {z y : Int} (h : Done a b R z y) (hy : y < 0) : Done a b R (z - 1) b.length := fun i j hi hj hc => h i j hi hj (by omega)
def TabEnd (W : World) (a b : List Int) (e : Ending) (w' : World) : Prop := ∃ G cap gs R, e = .returned (.slice (some ⟨G, 0, none⟩) (a.length + 1) cap) ∧ W.heap.size ≤ G ∧ Tb w' W.heap.size G a.length b.length gs R ∧ (∀ i j : Nat, i ≤ a.length → j ≤ b.length → (R i).getD j 0 = ((D a b i j : Nat) : Int)) ∧ Below W.heap.size W w'
/-- The rows while they are laid: their blocks rise. -/
def Lays (w : World) (base lb : Nat) (gs : List Nat) : Prop := (∀ i (h : i < gs.length), base ≤ gs[i] ∧ gs[i] < w.heap.size ∧ Row w gs[i] (List.replicate (lb + 1) 0)) ∧ ∀ i j (hi : i < gs.length) (hj : j < gs.length), i < j → gs[i] < gs[j]
theorem Lays.nil (w : World) (base lb : Nat) : Lays w base lb [] := ⟨fun i h => by simp at h, fun i j hi => by simp at hi⟩
theorem Lays.kept {w w' : World} {base lb : Nat} {gs : List Nat} (h : Lays w base lb gs) (hb : Below w.heap.size w w') : Lays w' base lb gs :=
  ⟨fun i hi => by obtain ⟨h1, h2, h3⟩ := h.1 i hi; exact ⟨h1, Nat.lt_of_lt_of_le h2 hb.size, h3.kept hb⟩, h.2⟩
theorem Lays.grown {w w' : World} {base lb : Nat} {gs : List Nat} (h : Lays w base lb gs) {base' n size : Nat} {v : Value} {zs : List Value} (hown : w.ownsRow base' 46 size v n zs) (hg : w.grownBy w' v.ownBlock) : Lays w' base lb gs :=
  ⟨fun i hi => by obtain ⟨h1, h2, h3⟩ := h.1 i hi; exact ⟨h1, Nat.lt_of_lt_of_le h2 hg.size, h3.grown hown hg⟩, h.2⟩
theorem Lays.snoc {w : World} {base lb : Nat} {gs : List Nat} (h : Lays w base lb gs) {g : Nat} (h1 : base ≤ g) (h2 : ∀ i (hi : i < gs.length), gs[i] < g) (h3 : Row w g (List.replicate (lb + 1) 0)) : Lays w base lb (gs ++ [g]) := by
  refine ⟨fun i hi => ?_, fun i j hi hj hij => ?_⟩
  · by_cases e : i < gs.length
    · rw [List.getElem_append_left e]; exact h.1 i e
    · obtain rfl : i = gs.length := by simp at hi; omega
      rw [List.getElem_append_right (Nat.le_refl _)]
      simp only [Nat.sub_self, List.getElem_cons_zero]
      exact ⟨h1, h3.lt, h3⟩
  · by_cases e : j < gs.length
    · rw [List.getElem_append_left e, List.getElem_append_left (by omega)]; exact h.2 i j _ _ hij
    · obtain rfl : j = gs.length := by simp at hj; omega
      rw [List.getElem_append_left (by omega), List.getElem_append_right (Nat.le_refl _)]
      simp only [Nat.sub_self, List.getElem_cons_zero]
      exact h2 i _
theorem Lays.tb {w : World} {base base' la lb cap : Nat} {A : Option Addr} {gs : List Nat} (h : Lays w base lb gs) (hl : gs.length = la + 1) (hown : w.ownsRow base' 46 1 (.slice A gs.length cap) gs.length (gs.map (rowV (lb + 1)))) :
    ∃ G, A = some ⟨G, 0, none⟩ ∧ base' ≤ G ∧ Tb w base G la lb gs (fun _ => List.replicate (lb + 1) 0) := by
  rcases hown.2 with ⟨_, e⟩ | ⟨g, cap', cur, e, hb, hh, hc, hm, hs, ht⟩
  · omega
  · injection e with e1 e2 e3
    refine ⟨g, e1, hb, hl, ⟨cur, hh⟩, fun m hm => ?_, fun i j hi hj hne => ?_⟩
    · obtain ⟨h1, h2, h3⟩ := h.1 m hm
      refine ⟨?_, h1, h3, by simp⟩
      rw [cell_of_row w g m cur _ _ hh]
      have : (cur.toList.take (gs.length * 1))[m]? = (gs.map (rowV (lb + 1)))[m]? := by rw [ht]
      rw [Nat.mul_one, List.getElem?_take, if_pos hm, List.getElem?_map, List.getElem?_eq_getElem hm] at this
      simpa using this
    · rcases Nat.lt_or_gt_of_ne hne with q | q
      · exact Nat.ne_of_lt (h.2 i j hi hj q)
      · exact (Nat.ne_of_lt (h.2 j i hj hi q)).symm

set_option maxRecDepth 100000 in
set_option maxHeartbeats 8000000 in
theorem table_any (A B : Option Addr) (a b : List Int) (c c' : Nat) (w : World) (hA : IntsIn w A a) (hB : IntsIn w B b) (ha : a.length ≤ 400) (hb : b.length ≤ 400) :
    Calls Tryd.prog 26 #[.slice A a.length c, .slice B b.length c'] w (TabEnd w a b) := by
  obtain ⟨i0, hi0, hz0, hz1, hz2⟩ := info_parts infoRowI
  have HA := Lib.hid hA
  have HB := Lib.hid hB
  clear hA hB
  obtain ⟨la, hla⟩ : ∃ n, n = a.length := ⟨_, rfl⟩
  obtain ⟨lb, hlb⟩ : ∃ n, n = b.length := ⟨_, rfl⟩
  rw [← hla] at ha ⊢
  rw [← hlb] at hb ⊢
  have HLN := Lib.hid (And.intro hla hlb)
  clear hla hlb
  have hmk0 := (run_make_row' (P := Tryd.prog) 46 3 (.int .i64 0) 8 Tryd.underlying46 infoI rfl .i64 .i64 (lb + 1) (by omega) (by omega))
  rw [show ((lb + 1 : Nat) : Int) = (lb : Int) + 1 by omega] at hmk0
  have HMK := Lib.hid hmk0
  clear hmk0
  go_enter Tryd.func26, Tryd.ntmps26
  go_wp2_with fail
  obtain ⟨W0, hW0⟩ : ∃ W : World, W = w.alloc (.cells #[] 46) := ⟨_, rfl⟩
  have HB0 : Hid (Below w.heap.size w W0) := Lib.hid (by rw [hW0]; exact alloc1 _ _)
  have HO0 : Hid (W0.ownsRow w.heap.size 46 1 (.slice (some ⟨w.heap.size, 0, none⟩) 0 0) 0 []) := Lib.hid (by rw [hW0]; exact World.ownsRow_lit w #[] 0 (Nat.le_refl _) (by decide) rfl)
  rw [← hW0]
  clear hW0
  go_loopg [5, 6] (la + 1) (fun mm v i wr => ∃ gs : List Nat, i = .int .i64 (gs.length : Int) ∧ gs.length ≤ la + 1 ∧ la + 1 - gs.length ≤ mm ∧ wr.ownsRow w.heap.size 46 1 v gs.length (gs.map (rowV (lb + 1))) ∧ Hid (Lays wr w.heap.size lb gs) ∧ Hid (Below w.heap.size w wr))
  case atStart => exact ⟨[], rfl, by simp, by simp, HO0.out, Lib.hid (Lays.nil _ _ _), HB0⟩
  case round =>
    obtain ⟨gs, rfl, hgl, hmm, hown, HLY, HBW⟩ := hrel
    have HOW := Lib.hid hown
    have hso := HBW.out.size
    clear hown
    obtain ⟨k, hk⟩ : ∃ k, k = gs.length := ⟨_, rfl⟩
    have HK := Lib.hid hk
    rw [← hk] at hgl hmm HOW ⊢
    clear hk
    by_cases hlt : k ≤ la
    · have hmk := HMK.out
      obtain ⟨Wm, hWm⟩ : ∃ W : World, W = wr.alloc (.cells (madeCells #[.int .i64 0] (lb + 1)) 3) := ⟨_, rfl⟩
      have HRM : Hid (Row Wm wr.heap.size (List.replicate (lb + 1) 0)) := Lib.hid (by unfold Row; rw [hWm, made_row]; exact heap_alloc_new wr _)
      have HBM : Hid (Below wr.heap.size wr Wm) := Lib.hid (by rw [hWm]; exact alloc1 _ _)
      have HSM : Hid (Wm.heap.size = wr.heap.size + 1) := Lib.hid (by rw [hWm]; simp)
      have HOM := Lib.hid (own_below HOW.out HBM.out)
      rw [hWm] at HOM
      go_wp2_with (at_builtin; refine wpList_append_own _ rfl _ _ 48 rfl w.heap.size 46 i0 _ 1 24 Tryd.underlying48 hi0 hz0 hz1 hz2 rfl (by decide) _ k (gs.map (rowV (lb + 1))) rfl (HOM.out.alloc _) ⟨_, 0, none⟩ 1 1 [.slice (some ⟨wr.heap.size, 0, none⟩) (lb + 1) (lb + 1)] rfl rfl (World.news_of_block (alloc_at _ (by simp))) (by intro u hu; simp at hu; rcases hu with rfl; rfl) (by simp only [maxLen]; omega) (by omega) (by simp; omega) ?_; intro v' w4 hown4 hg4 _; have HO4 := Lib.hid hown4; have HG4 := Lib.hid hg4; clear hown4 hg4)
      rw [← hWm] at HG4 HOM
      clear hmk hWm
      have HLY4 : Hid (Lays w4 w.heap.size lb (gs ++ [wr.heap.size])) := Lib.hid ((((HLY.out.kept HBM.out).snoc hso (fun i hi => (HLY.out.1 i hi).2.1) HRM.out).kept (alloc1 _ _)).grown (HOM.out.alloc _) HG4.out)
      have HB4 : Hid (Below w.heap.size w w4) := Lib.hid (((HBW.out.trans (HBM.out.mono hso)).alloc (by have := HSM.out; omega) _).grown HG4.out (by have := HSM.out; simp; omega) (fun j ej => own_base HOM.out j ej))
      go_roundg (la + 1 - (k + 1))
      case measure => omega
      case rel =>
        refine ⟨gs ++ [wr.heap.size], by rw [List.length_append, ← HK.out]; go_num, by rw [List.length_append, ← HK.out]; simpa using hlt, by rw [List.length_append, ← HK.out]; exact Nat.le_refl _, ?_, HLY4, HB4⟩
        rw [List.length_append, ← HK.out, rowV_map]
        exact HO4.out
    · have hke : gs.length = la + 1 := by have := HK.out; omega
      obtain ⟨VA, vcap, rfl, -, -⟩ := own_form HOW.out
      have ho := HOW.out
      rw [HK.out] at ho
      obtain ⟨G, hVG, hGb, htb⟩ := HLY.out.tb hke ho
      subst hVG
      have HTB0 := Lib.hid htb
      have hk1 : k = la + 1 := by omega
      have HGS := Lib.hid hke
      clear ho htb HLY HOW hke hlt hmm
      have HK1 := Lib.hid hk1
      obtain ⟨L, hL⟩ : ∃ L, L = lb + 1 := ⟨_, rfl⟩
      have HL1 := Lib.hid hL
      have hkg : (la : Int) < (k : Int) := by omega
      have hkg2 : decide (k ≤ la) = false := decide_eq_false (by omega)
      clear hk1 hL
      obtain ⟨w1, hw1⟩ : ∃ W : World, W = wr := ⟨_, rfl⟩
      subst hw1
      go_wp2_with fail
      go_loopg [7] (la + 1) (fun mm s7 wr => ∃ (z : Int) (R : Nat → List Int), s7 = .int .i64 z ∧ -1 ≤ z ∧ z ≤ la ∧ (z + 1).toNat ≤ mm ∧ Hid (Tb wr w.heap.size G la lb gs R) ∧ Hid (Done a b R z lb) ∧ Hid (Below w.heap.size w wr))
      case atStart => exact ⟨_, _, rfl, by omega, by omega, by omega, HTB0, Lib.hid (fun i j hi hj hc => by have := HLN.out; omega), HBW⟩
      case round =>
        obtain ⟨z, R0, rfl, hz1', hz2', hmm, HTB1, HDN1, HBT1⟩ := hrel
        by_cases hzp : 0 ≤ z
        · obtain ⟨m, rfl⟩ : ∃ m : Nat, z = (m : Int) := ⟨z.toNat, by omega⟩
          have hml : m ≤ la := by omega
          obtain ⟨w2, hw2⟩ : ∃ W : World, W = wr := ⟨_, rfl⟩
          subst hw2
          go_wp2_with fail
          go_loopg [8] (lb + 1) (fun mm s8 wr => ∃ (y : Int) (R : Nat → List Int), s8 = .int .i64 y ∧ -1 ≤ y ∧ y ≤ lb ∧ (y + 1).toNat ≤ mm ∧ Hid (Tb wr w.heap.size G la lb gs R) ∧ Hid (Done a b R (m : Int) y) ∧ Hid (Below w.heap.size w wr))
          case atStart => exact ⟨_, _, rfl, by omega, by omega, by omega, HTB1, HDN1, HBT1⟩
          case round =>
            obtain ⟨y, R, rfl, hy1, hy2, hmm2, HTB, HDN, HBT⟩ := hrel
            by_cases hyp : 0 ≤ y
            · obtain ⟨n, rfl⟩ : ∃ n : Nat, y = (n : Int) := ⟨y.toNat, by omega⟩
              have hnl : n ≤ lb := by omega
              have hgm : m < gs.length := by rw [HGS.out]; omega
              obtain ⟨r0, hgb, hrw, hrl⟩ := HTB.out.row m hgm
              obtain ⟨g, hg⟩ : ∃ g, g = gs[m] := ⟨_, rfl⟩
              have HGE := Lib.hid hg
              rw [← hg] at r0 hgb hrw
              have HGB := Lib.hid hgb
              have cT := hrw.cellD (j := n) (by rw [hrl]; omega)
              have fT := hrw.free n
              simp only [rowV] at r0
              rw [← HL1.out] at r0
              have k0 : (0 : Int) ≤ (m : Int) := by omega
              have k1 : (m : Int) < (k : Int) := by have := HK1.out; omega
              have k2 : (0 : Int) ≤ (n : Int) := by omega
              have k3 : (n : Int) < (L : Int) := by have := HL1.out; omega
              generalize (R m).getD n 0 = vT at cT
              have HCL : Hid (∀ (W : World) (z : Int), z = ((D a b m n : Nat) : Int) → Tb W w.heap.size G la lb gs R → Below w.heap.size w W → ∃ R', Tb (W.setCell ⟨g, n, none⟩ (.int .i64 z)) w.heap.size G la lb gs R' ∧ Done a b R' (m : Int) ((n : Int) - 1) ∧ Below w.heap.size w (W.setCell ⟨g, n, none⟩ (.int .i64 z))) := Lib.hid (fun W z hz h1 h2 => ⟨_, by rw [HGE.out]; exact h1.put hgm n z, HDN.out.put (by rw [hrl]; omega) hz, set_grown _ _ _ _ h2 HGB.out⟩)
              by_cases hma : m = la
              · have HZA : Hid ((lb : Int) - (n : Int) = ((D a b m n : Nat) : Int)) := Lib.hid (by rw [hma, D_endA b (by have := HLN.out; omega)]; have := HLN.out; omega)
                clear hg hgb hrw hrl
                subst hma
                go_wp2_with fail
                obtain ⟨R', t1, t2, t3⟩ := HCL.out wr _ HZA.out HTB.out HBT.out
                go_roundg n
                case measure => omega
                case rel => exact ⟨_, R', rfl, by omega, by omega, by omega, Lib.hid t1, Lib.hid t2, Lib.hid t3⟩
              · have hb1 : ((m : Int) == (la : Int)) = false := beq_eq_false_iff_ne.2 (by omega)
                have hb2 : (m == la) = false := beq_eq_false_iff_ne.2 hma
                by_cases hnb : n = lb
                · have HZB : Hid ((la : Int) - (m : Int) = ((D a b m n : Nat) : Int)) := Lib.hid (by rw [hnb, D_endB a (by have := HLN.out; omega)]; have := HLN.out; omega)
                  clear hg hgb hrw hrl
                  subst hnb
                  go_wp2_with fail
                  obtain ⟨R', t1, t2, t3⟩ := HCL.out wr _ HZB.out HTB.out HBT.out
                  go_roundg n
                  case measure => omega
                  case rel => exact ⟨_, R', rfl, by omega, by omega, by omega, Lib.hid t1, Lib.hid t2, Lib.hid t3⟩
                · have hb3 : ((n : Int) == (lb : Int)) = false := beq_eq_false_iff_ne.2 (by omega)
                  have hb4 : (n == lb) = false := beq_eq_false_iff_ne.2 hnb
                  have hgm1 : m + 1 < gs.length := by rw [HGS.out]; omega
                  obtain ⟨s0, -, hrw1, hrl1⟩ := HTB.out.row (m + 1) hgm1
                  generalize gs[m + 1] = g1 at s0 hrw1
                  simp only [rowV] at s0
                  rw [← HL1.out] at s0
                  have c1 := hrw1.cellD (j := n) (by rw [hrl1]; omega)
                  have c2 := hrw1.cellD (j := n + 1) (by rw [hrl1]; omega)
                  have c3 := hrw.cellD (j := n + 1) (by rw [hrl]; omega)
                  have HV1 := Lib.hid (HDN.out (m + 1) n (by have := HLN.out; omega) (by have := HLN.out; omega) (.inl (by omega)))
                  have HV2 := Lib.hid (HDN.out (m + 1) (n + 1) (by have := HLN.out; omega) (by have := HLN.out; omega) (.inl (by omega)))
                  have HV3 := Lib.hid (HDN.out m (n + 1) (by have := HLN.out; omega) (by have := HLN.out; omega) (.inr ⟨rfl, by omega⟩))
                  generalize (R (m + 1)).getD n 0 = v1 at c1 HV1
                  generalize (R (m + 1)).getD (n + 1) 0 = v2 at c2 HV2
                  generalize (R m).getD (n + 1) 0 = v3 at c3 HV3
                  have hax : m < a.length := by have := HLN.out; omega
                  have hby : n < b.length := by have := HLN.out; omega
                  have l1 : 0 ≤ v1 ∧ v1 ≤ 800 := by have := HV1.out; have := (D_low a b (i := m + 1) (j := n) (by omega) (by omega)).2.2.1; have := HLN.out; omega
                  have l2 : 0 ≤ v2 ∧ v2 ≤ 800 := by have := HV2.out; have := (D_low a b (i := m + 1) (j := n + 1) (by omega) (by omega)).2.2.1; have := HLN.out; omega
                  have l3 : 0 ≤ v3 ∧ v3 ≤ 800 := by have := HV3.out; have := (D_low a b (i := m) (j := n + 1) (by omega) (by omega)).2.2.1; have := HLN.out; omega
                  have HEQ := Lib.hid (fun h : a[m] = b[n] => D_eq hax hby h)
                  have HNE := Lib.hid (fun h : ¬ a[m] = b[n] => D_ne hax hby h)
                  obtain ⟨bk, off, hAe, hbk, hI⟩ := (HA.out.below HBT.out) (by omega)
                  obtain ⟨bk', off', hBe, hbk', hI'⟩ := (HB.out.below HBT.out) (by omega)
                  subst hAe hBe
                  have d0 := hI m hax
                  have e0 := hI' n hby
                  generalize a[m] = p at d0 HEQ HNE
                  generalize b[n] = q at e0 HEQ HNE
                  have k4 : (m : Int) < (la : Int) := by omega
                  have k5 : (n : Int) < (lb : Int) := by omega
                  obtain ⟨m1, hm1⟩ : ∃ i, i = m + 1 := ⟨_, rfl⟩
                  obtain ⟨n1, hn1⟩ : ∃ i, i = n + 1 := ⟨_, rfl⟩
                  rw [← hm1] at s0
                  rw [← hn1] at c2 c3
                  have k6 : (0 : Int) ≤ (m1 : Int) := by omega
                  have k7 : (m1 : Int) < (k : Int) := by have := HK1.out; omega
                  have k8 : (0 : Int) ≤ (n1 : Int) := by omega
                  have k9 : (n1 : Int) < (L : Int) := by have := HL1.out; omega
                  have wm : IntKind.i64.wrap ((m : Int) + 1) = (m1 : Int) := by rw [IntKind.wrap_i64]; omega
                  have wn : IntKind.i64.wrap ((n : Int) + 1) = (n1 : Int) := by rw [IntKind.wrap_i64]; omega
                  obtain ⟨l11, l12⟩ := l1
                  obtain ⟨l21, l22⟩ := l2
                  obtain ⟨l31, l32⟩ := l3
                  have HF : Hid (∀ W : World, (∃ q, W = wr.drewN q) → W.cell? ⟨G, m, none⟩ = some (.slice (some ⟨g, 0, none⟩) L L) ∧ W.cell? ⟨G, m1, none⟩ = some (.slice (some ⟨g1, 0, none⟩) L L) ∧ W.cell? ⟨g, n, none⟩ = some (.int .i64 vT) ∧ W.cell? ⟨g1, n, none⟩ = some (.int .i64 v1) ∧ W.cell? ⟨g1, n1, none⟩ = some (.int .i64 v2) ∧ W.cell? ⟨g, n1, none⟩ = some (.int .i64 v3) ∧ W.frozen? ⟨g, n, none⟩ = false) := Lib.hid (fun W ⟨q, e⟩ => by subst e; exact ⟨r0, s0, cT, c1, c2, c3, fT⟩)
                  clear hI hI' hg hgb hrw hrl hrw1 hrl1 hax hby r0 s0 cT c1 c2 c3 fT hm1 hn1
                  by_cases hpq : p = q
                  · have HE2 := Lib.hid (HEQ.out hpq)
                    subst hpq
                    have hse : (p == p) = true := by simp
                    clear HEQ HNE
                    go_wp2_with fail
                    go_quiet (fail)
                    obtain ⟨wq, hwq⟩ : ∃ W : World, W = wr.drewN nq := ⟨_, rfl⟩
                    rw [← hwq]
                    obtain ⟨r0, s0, cT, c1, c2, c3, fT⟩ := HF.out wq ⟨_, hwq⟩
                    have HWQ := Lib.hid hwq
                    have HTQ : Hid (Tb wq w.heap.size G la lb gs R) := Lib.hid (by rw [hwq]; exact HTB.out.draw _)
                    have HBQ : Hid (Below w.heap.size w wq) := Lib.hid (by rw [hwq]; exact below_drewN HBT.out _)
                    clear hwq
                    go_wp2_with fail
                    go_still_tail 15, (by kernel_rfl)
                    change wpList _ _ _ _ _ (World.drew _)
                    clear wm wn
                    go_wp2_with fail
                    go_roundg n
                    case measure => omega
                    case rel => exact ⟨(n : Int) - 1, _, rfl, by omega, by omega, by omega, Lib.hid (by rw [HGE.out]; first | exact HTQ2.out.draw1.put hgm n _ | exact HTQ.out.draw1.put hgm n _ | exact HTB.out.put hgm n _ | exact (HTB.out.draw _).put hgm n _ | exact (HTB.out.draw _).draw1.put hgm n _ | exact HTB.out.draw1.put hgm n _), Lib.hid (HDN.out.put (by rw [(HTB.out.row m hgm).2.2.2]; omega) (by rw [HE2.out]; exact HV2.out)), Lib.hid (by first | exact set_grown _ _ _ _ HBQ2.out.drew HGB.out | exact set_grown _ _ _ _ HBQ.out.drew HGB.out | exact set_grown _ _ _ _ HBT.out HGB.out | exact set_grown _ _ _ _ (below_drewN HBT.out _) HGB.out | exact set_grown _ _ _ _ (below_drewN HBT.out _).drew HGB.out | exact set_grown _ _ _ _ HBT.out.drew HGB.out)⟩
                  · have HE2 := Lib.hid (HNE.out hpq)
                    have hse : (p == q) = false := beq_eq_false_iff_ne.2 hpq
                    have x1 : IntKind.i64.wrap (v1 + 1) = v1 + 1 := by rw [IntKind.wrap_i64]; omega
                    have x3 : IntKind.i64.wrap (v3 + 1) = v3 + 1 := by rw [IntKind.wrap_i64]; omega
                    clear HEQ HNE hpq
                    by_cases hlt : v1 < v3
                    · go_wp2_with fail
                      go_quiet (fail)
                      obtain ⟨wq, hwq⟩ : ∃ W : World, W = wr.drewN nq := ⟨_, rfl⟩
                      rw [← hwq]
                      obtain ⟨r0, s0, cT, c1, c2, c3, fT⟩ := HF.out wq ⟨_, hwq⟩
                      have HWQ := Lib.hid hwq
                      have HTQ : Hid (Tb wq w.heap.size G la lb gs R) := Lib.hid (by rw [hwq]; exact HTB.out.draw _)
                      have HBQ : Hid (Below w.heap.size w wq) := Lib.hid (by rw [hwq]; exact below_drewN HBT.out _)
                      clear hwq
                      go_wp2_with fail
                      go_quiet (fail)
                      clear r0 s0 cT c1 c2 c3 fT
                      obtain ⟨wq2, hwq2⟩ : ∃ W : World, W = wq.drewN nq := ⟨_, rfl⟩
                      rw [← hwq2]
                      obtain ⟨r0, s0, cT, c1, c2, c3, fT⟩ := HF.out wq2 ⟨_, by rw [hwq2, HWQ.out, drewN_add]⟩
                      have HTQ2 : Hid (Tb wq2 w.heap.size G la lb gs R) := Lib.hid (by rw [hwq2]; exact HTQ.out.draw _)
                      have HBQ2 : Hid (Below w.heap.size w wq2) := Lib.hid (by rw [hwq2]; exact below_drewN HBQ.out _)
                      clear hwq2
                      go_wp2_with fail
                      go_still_tail 15, (by kernel_rfl)
                      change wpList _ _ _ _ _ (World.drew _)
                      clear wm wn x1 x3
                      go_wp2_with fail
                      go_roundg n
                      case measure => omega
                      case rel => exact ⟨(n : Int) - 1, _, rfl, by omega, by omega, by omega, Lib.hid (by rw [HGE.out]; first | exact HTQ2.out.draw1.put hgm n _ | exact HTQ.out.draw1.put hgm n _ | exact HTB.out.put hgm n _ | exact (HTB.out.draw _).put hgm n _ | exact (HTB.out.draw _).draw1.put hgm n _ | exact HTB.out.draw1.put hgm n _), Lib.hid (HDN.out.put (by rw [(HTB.out.row m hgm).2.2.2]; omega) (by have := HE2.out; have := HV1.out; have := HV3.out; omega)), Lib.hid (by first | exact set_grown _ _ _ _ HBQ2.out.drew HGB.out | exact set_grown _ _ _ _ HBQ.out.drew HGB.out | exact set_grown _ _ _ _ HBT.out HGB.out | exact set_grown _ _ _ _ (below_drewN HBT.out _) HGB.out | exact set_grown _ _ _ _ (below_drewN HBT.out _).drew HGB.out | exact set_grown _ _ _ _ HBT.out.drew HGB.out)⟩
                    · have hld : decide (v1 < v3) = false := decide_eq_false hlt
                      go_wp2_with fail
                      go_quiet (fail)
                      obtain ⟨wq, hwq⟩ : ∃ W : World, W = wr.drewN nq := ⟨_, rfl⟩
                      rw [← hwq]
                      obtain ⟨r0, s0, cT, c1, c2, c3, fT⟩ := HF.out wq ⟨_, hwq⟩
                      have HWQ := Lib.hid hwq
                      have HTQ : Hid (Tb wq w.heap.size G la lb gs R) := Lib.hid (by rw [hwq]; exact HTB.out.draw _)
                      have HBQ : Hid (Below w.heap.size w wq) := Lib.hid (by rw [hwq]; exact below_drewN HBT.out _)
                      clear hwq
                      go_wp2_with fail
                      go_quiet (fail)
                      clear r0 s0 cT c1 c2 c3 fT
                      obtain ⟨wq2, hwq2⟩ : ∃ W : World, W = wq.drewN nq := ⟨_, rfl⟩
                      rw [← hwq2]
                      obtain ⟨r0, s0, cT, c1, c2, c3, fT⟩ := HF.out wq2 ⟨_, by rw [hwq2, HWQ.out, drewN_add]⟩
                      have HTQ2 : Hid (Tb wq2 w.heap.size G la lb gs R) := Lib.hid (by rw [hwq2]; exact HTQ.out.draw _)
                      have HBQ2 : Hid (Below w.heap.size w wq2) := Lib.hid (by rw [hwq2]; exact below_drewN HBQ.out _)
                      clear hwq2
                      go_wp2_with fail
                      go_still_tail 15, (by kernel_rfl)
                      change wpList _ _ _ _ _ (World.drew _)
                      clear wm wn x1 x3
                      go_wp2_with fail
                      go_roundg n
                      case measure => omega
                      case rel => exact ⟨(n : Int) - 1, _, rfl, by omega, by omega, by omega, Lib.hid (by rw [HGE.out]; first | exact HTQ2.out.draw1.put hgm n _ | exact HTQ.out.draw1.put hgm n _ | exact HTB.out.put hgm n _ | exact (HTB.out.draw _).put hgm n _ | exact (HTB.out.draw _).draw1.put hgm n _ | exact HTB.out.draw1.put hgm n _), Lib.hid (HDN.out.put (by rw [(HTB.out.row m hgm).2.2.2]; omega) (by have := HE2.out; have := HV1.out; have := HV3.out; omega)), Lib.hid (by first | exact set_grown _ _ _ _ HBQ2.out.drew HGB.out | exact set_grown _ _ _ _ HBQ.out.drew HGB.out | exact set_grown _ _ _ _ HBT.out HGB.out | exact set_grown _ _ _ _ (below_drewN HBT.out _) HGB.out | exact set_grown _ _ _ _ (below_drewN HBT.out _).drew HGB.out | exact set_grown _ _ _ _ HBT.out.drew HGB.out)⟩
            · have hye : y = -1 := by omega
              subst hye
              go_wp2_with fail
              go_roundg m
              case measure => omega
              case rel => exact ⟨(m : Int) - 1, R, rfl, by omega, by omega, by omega, HTB, Lib.hid (by have := HDN.out.line (by omega); rwa [← HLN.out.2] at this), HBT⟩
        · have hze : z = -1 := by omega
          subst hze
          go_wp2_with fail
          go_ret
          refine ⟨G, vcap, gs, R0, ret_of (by rw [← HLN.out.1, ← HK1.out]; rfl), hGb, by rw [← HLN.out.1, ← HLN.out.2]; exact HTB1.out, fun i j hi hj => HDN1.out i j hi hj (.inl (by omega)), HBT1.out⟩
end Go.Proofs.YtfndiggpnkjacaaDoor.M

namespace Go.Proofs.YtfndiggpnkjacaaDoor.Rk
set_option linter.unusedVariables false
set_option linter.unusedSimpArgs false
open Go.RowKit
open T
open V (grown_of IntsIn numCells numCells_snoc ints_own drawn_below)
open I (alloc1 own_at own_below)
open N (Ln)
open Fp (fV Gw ratio_any rratio_any nan_any)

/-- The row of two texts. -/
theorem two_in {w W0 : World} {A B : Option Addr} {a b : List Ln} {c c' : Nat} (hW0 : W0 = w.alloc (.cells #[.slice A a.length c, .slice B b.length c'] 22)) (hA : LinesIn w A a) (hB : LinesIn w B b) (hca : a.length ≤ c) (hcb : b.length ≤ c') : N.ListsIn W0 (some ⟨w.heap.size, 0, none⟩) [a, b] := fun _ => by
  have hB0 : Below w.heap.size w W0 := by rw [hW0]; exact alloc1 _ _
  have hX := heap_alloc_new w (.cells #[.slice A a.length c, .slice B b.length c'] 22)
  rw [← hW0] at hX
  refine ⟨w.heap.size, 0, rfl, L.blk_lt hX, fun j hj => ?_⟩
  match j, hj with
  | 0, _ => exact ⟨A, c, L.blk_cell hX 0, hA.below hB0, hca⟩
  | 1, _ => exact ⟨B, c', L.blk_cell hX 1, hB.below hB0, hcb⟩
set_option maxRecDepth 100000 in
set_option maxHeartbeats 4000000 in
theorem common_any (A B : Option Addr) (a b : List Ln) (c c' : Nat) (w : World) (hA : LinesIn w A a) (hB : LinesIn w B b) (ha : a.length ≤ 60) (hb : b.length ≤ 60) (hca : a.length ≤ c) (hcb : b.length ≤ c') (hta : ∀ y ∈ a, y.1.length ≤ maxLen) (htb : ∀ y ∈ b, y.1.length ≤ maxLen) :
    Calls Tryd.prog 24 #[.slice A a.length c, .slice B b.length c'] w fun e w' => e = .returned (.tuple #[.int .i64 (cn a b : Nat), .bool true]) ∧ Below w.heap.size w w' := by
  obtain ⟨W0, hW0⟩ : ∃ W : World, W = w.alloc (.cells #[.slice A a.length c, .slice B b.length c'] 22) := ⟨_, rfl⟩
  have HB0 := Lib.hid (show Below w.heap.size w W0 by rw [hW0]; exact alloc1 _ _)
  have HNA : Hid (Calls Tryd.prog 40 #[.slice (some ⟨w.heap.size, 0, none⟩) 2 2] W0 (N.NmEnd W0 [N.row [] a, N.row (N.known [] a) b])) := Lib.hid (by
    refine N.numbers_any (some ⟨w.heap.size, 0, none⟩) 2 [a, b] W0 (two_in hW0 hA hB hca hcb) (by simp) (fun l hl => by simp only [List.mem_cons, List.not_mem_nil, or_false] at hl; rcases hl with rfl | rfl <;> assumption) (fun l hl => by simp only [List.mem_cons, List.not_mem_nil, or_false] at hl; rcases hl with rfl | rfl <;> assumption))
  have HLX : Hid ((N.row [] a).length = a.length ∧ (N.row (N.known [] a) b).length = b.length) := Lib.hid ⟨N.row_length _ _, N.row_length _ _⟩
  have HMT : Hid (cn a b = (M.pairs (N.row [] a) (N.row (N.known [] a) b)).length) := Lib.hid rfl
  have HCL := Lib.hid (cn_le a b)
  generalize cn a b = n at *
  clear hA hB hta htb
  generalize N.row [] a = x at *
  generalize N.row (N.known [] a) b = y at *
  obtain ⟨la, hla⟩ : ∃ n, n = a.length := ⟨_, rfl⟩
  obtain ⟨lb, hlb⟩ : ∃ n, n = b.length := ⟨_, rfl⟩
  rw [← hla] at ha hca HLX hW0 HCL ⊢
  rw [← hlb] at hb hcb HLX hW0 HCL ⊢
  clear hla hlb
  go_enter Tryd.func24, Tryd.ntmps24
  go_wp2_with fail
  rw [← hW0]
  clear hW0
  with_reducible refine (HNA.out).mono ?_
  rintro e w1 ⟨NA, ncap, vs, rfl, hno, hrw, hb1⟩
  have hvl : vs.length = 2 := hrw.1
  match vs, hvl with
  | [v0, v1], _ =>
  have HO0 := Lib.hid (hrw.2 0 (by simp) (by simp))
  have HO1 := Lib.hid (hrw.2 1 (by simp) (by simp))
  simp only [List.getElem_cons_zero, List.getElem_cons_succ] at HO0 HO1
  obtain ⟨XA, xc, rfl, -, -⟩ := own_form HO0.out
  obtain ⟨YA, yc, rfl, -, -⟩ := own_form HO1.out
  obtain ⟨g, rfl, -, hg2, hgc⟩ := own_at hno (by simp)
  have d0 := hgc 0 _ rfl
  have d1 := hgc 1 _ rfl
  have HX1 := Lib.hid (ints_own HO0.out)
  have HY1 := Lib.hid (ints_own HO1.out)
  have HBW := Lib.hid (HB0.out.trans (hb1.mono HB0.out.size))
  have HG := Lib.hid hg2
  have HLO := Lib.hid (M.long_no XA YA x.length y.length xc yc w1.drew (by rw [HLX.out.1]; omega) (by rw [HLX.out.2]; omega))
  clear hno hrw hgc hvl HO0 HO1 hb1 hg2
  go_upto_region 2 with fail
  go_cut [17] (fun v w2 => v = .bool false ∧ w2 = w1.drew)
  case first =>
    go_region_with ((go_at_call 41; refine (HLO.out).mono ?_; rintro e w2 ⟨rfl, rfl⟩))
    all_goals
      go_wp2_with fail
      go_meet
      case rel => exact ⟨rfl, rfl⟩
  case rest =>
  obtain ⟨rfl, rfl⟩ := hcut
  obtain ⟨w2, hw2⟩ : ∃ W, W = w1.drew := ⟨_, rfl⟩
  have hb2 : Below w1.heap.size w1 w2 := by rw [hw2]; exact (Below.refl _ w1).drew
  replace d0 := (hb2.cell (p := ⟨g, 0, none⟩) HG.out).trans d0
  replace d1 := (hb2.cell (p := ⟨g, 1, none⟩) HG.out).trans d1
  replace HX1 := Lib.hid (HX1.out.below hb2)
  replace HY1 := Lib.hid (HY1.out.below hb2)
  replace HBW := Lib.hid (HBW.out.trans (hb2.mono HBW.out.size))
  rw [← hw2]
  clear hw2 hb2 HG HLO
  have HST := Lib.hid (M.pairs_any XA YA x y xc yc w2.drew (HX1.out.below ((Below.refl _ w2).drew)) (HY1.out.below ((Below.refl _ w2).drew)) (by rw [HLX.out.1]; omega) (by rw [HLX.out.2]; omega))
  generalize hps : M.pairs x y = ps at *
  have HLN := Lib.hid HMT.out
  clear HMT hps HX1 HY1
  go_wp2_with fail
  go_region_with ((go_at_call 42; refine (HST.out).mono ?_; rintro e w3 ⟨SA, sc, rfl, hso, hb2⟩; have HSB := Lib.hid hb2; clear hso hb2))
  all_goals
    go_wp2_with fail
    go_ret2
    exact ⟨by rw [HLN.out]; rfl, HBW.out.trans ((((Below.refl _ w2).drew).trans HSB.out).mono HBW.out.size)⟩
set_option maxRecDepth 100000 in
set_option maxHeartbeats 1000000 in
theorem cmn_any (A B : Option Addr) (a b : List Ln) (c c' : Nat) (w : World) (hA : LinesIn w A a) (hB : LinesIn w B b) (ha : a.length ≤ 60) (hb : b.length ≤ 60) (hca : a.length ≤ c) (hcb : b.length ≤ c') (hta : ∀ y ∈ a, y.1.length ≤ maxLen) (htb : ∀ y ∈ b, y.1.length ≤ maxLen) :
    Calls Tryd.prog 11 #[.slice A a.length c, .slice B b.length c'] w fun e w' => e = .returned (.int .i64 (cn a b : Nat)) ∧ Below w.heap.size w w' := by
  have HC := Lib.hid (common_any A B a b c c' w hA hB ha hb hca hcb hta htb)
  clear hA hB hta htb
  generalize cn a b = n at *
  go_enter Tryd.func11, Tryd.ntmps11
  go_wp2_with fail
  with_reducible refine (HC.out).mono ?_
  rintro e w1 ⟨rfl, hb1⟩
  go_wp2_with fail
  go_ret
  exact ⟨rfl, hb1⟩
set_option maxRecDepth 100000 in
set_option maxHeartbeats 1000000 in
theorem like_any (A B : Option Addr) (a b : List Ln) (c c' : Nat) (w : World) (hA : LinesIn w A a) (hB : LinesIn w B b) (ha : a.length ≤ 40) (hb : b.length ≤ 40) (hca : a.length ≤ c) (hcb : b.length ≤ c') (hta : ∀ y ∈ a, y.1.length ≤ maxLen) (htb : ∀ y ∈ b, y.1.length ≤ maxLen) :
    Calls Tryd.prog 14 #[.slice A a.length c, .slice B b.length c'] w fun e w' => ∃ r, e = .returned (fV r) ∧ Lw a b r ∧ Below w.heap.size w w' := by
  have HC := Lib.hid (common_any A B a b c c' w hA hB (by omega) (by omega) hca hcb hta htb)
  have HR := Lib.hid (fun (w : World) => ratio_any (cn a b : Nat) a.length b.length w)
  have HL : Hid (∀ r, Fp.Rt (cn a b : Nat) a.length b.length r → Lw a b r) := Lib.hid fun r h => Lw.of ha hb h
  clear hA hB hta htb
  generalize cn a b = n at *
  go_enter Tryd.func14, Tryd.ntmps14
  go_wp2_with fail
  with_reducible refine (HC.out).mono ?_
  rintro e w1 ⟨rfl, hb1⟩
  go_wp2_with fail
  with_reducible refine (HR.out w1).mono ?_
  rintro e w2 ⟨r, rfl, hr, hg⟩
  go_wp2_with fail
  go_ret
  exact ⟨r, rfl, HL.out r hr, hb1.trans (hg.below.mono hb1.size)⟩
end Go.Proofs.YtfndiggpnkjacaaDoor.Rk

namespace Go.Proofs.YtfndiggpnkjacaaDoor.Rk
set_option linter.unusedVariables false
set_option linter.unusedSimpArgs false
open Go.Shelf
def insLk_ren : Go.Shelf.Ren := ⟨fun | 20 => 55 | n => n, fun | 24 => 37 | 22 => 32 | 3 => 3 | 25 => 57 | 4 => 4 | 0 => 0 | n => n, fun | n => n⟩
theorem insLk : SlLaysF0.n20 Tryd.prog insLk_ren := {
  mixed := by kernel_rfl
  f20 := ⟨Tryd.f55.name, by decide, Tryd.func55.trans (congrArg some (by kernel_rfl))⟩
  t0 := Tryd.underlying0
  a0 := Tryd.isAgg0
  z0 := Tryd.sizeOf0
  v0 := Tryd.zeroValue0
  t3 := Tryd.underlying3
  a3 := Tryd.isAgg3
  z3 := Tryd.sizeOf3
  v3 := Tryd.zeroValue3
  t4 := Tryd.underlying4
  a4 := Tryd.isAgg4
  z4 := Tryd.sizeOf4
  v4 := Tryd.zeroValue4
  t22 := Tryd.underlying32
  a22 := Tryd.isAgg32
  z22 := Tryd.sizeOf32
  v22 := Tryd.zeroValue32
  t25 := Tryd.underlying57
  a25 := Tryd.isAgg57
  z25 := Tryd.sizeOf57
  v25 := Tryd.zeroValue57 }
end Go.Proofs.YtfndiggpnkjacaaDoor.Rk

namespace Go.Proofs.YtfndiggpnkjacaaDoor.Rk
set_option linter.unusedVariables false
set_option linter.unusedSimpArgs false
open Go.RowKit Go.Sort Go.Shelf
open T
open I (alloc1 own_at own_below)

open Fp (fV Gw isN ky isnan_any order_any)

def encK (x : Kx) : List Value := [.int .i64 x.1, fV x.2.toNat]
abbrev lkV (x : Kx) : Value := .agg #[.int .i64 x.1, fV x.2.toNat]
theorem u_lt (x : UInt64) : x.toNat < 2 ^ 64 := x.toNat_lt
set_option maxRecDepth 100000 in
set_option maxHeartbeats 4000000 in
/-- The way that All compares. -/
theorem lkc_any (x y : Kx) (w : World) : Calls Tryd.prog 34 #[lkV x, lkV y] w fun e w' => e = .returned (.int .i64 (cK x y)) ∧ Gw w w' := by
  obtain ⟨a, x⟩ := x
  obtain ⟨b, y⟩ := y
  have lx := u_lt x
  have ly := u_lt y
  obtain ⟨W0, hW0⟩ : ∃ W : World, W = w.alloc (.cells #[.int .i64 a, fV x.toNat] 37) := ⟨_, rfl⟩
  obtain ⟨W1, hW1⟩ : ∃ W : World, W = W0.alloc (.cells #[.int .i64 b, fV y.toNat] 37) := ⟨_, rfl⟩
  have HG := Lib.hid (show Gw w W1 by rw [hW1, hW0]; exact ((Gw.refl w).alloc _).alloc _)
  have hb1 : Below W0.heap.size W0 W1 := by rw [hW1]; exact alloc1 _ _
  have hs0 : W0.heap.size = w.heap.size + 1 := by rw [hW0]; simp
  have hx0 : W1.heap[w.heap.size]? = some (.cells #[.int .i64 a, fV x.toNat] 37 (0, 0)) := by
    rw [hb1.block _ (by omega), hW0]
    exact heap_alloc_new w _
  have hx1 : W1.heap[w.heap.size + 1]? = some (.cells #[.int .i64 b, fV y.toNat] 37 (0, 0)) := by
    rw [hW1, ← hs0]
    exact heap_alloc_new W0 _
  have x1 := L.blk_cell hx0 1
  have y1 := L.blk_cell hx1 1
  simp only [List.getElem?_toArray, List.getElem?_cons_zero, List.getElem?_cons_succ] at x1 y1
  have HC : Hid (cK (a, x) (b, y) = Fp.cmp (kz x) (kz y)) := Lib.hid rfl
  clear hb1 hs0 hx0 hx1
  generalize cK (a, x) (b, y) = v at *
  go_enter Tryd.func34, Tryd.ntmps34
  go_upto_region 1 with fail
  rw [← hW0, ← hW1]
  obtain ⟨xa, hxa⟩ : ∃ q, q = w.heap.size := ⟨_, rfl⟩
  rw [← hxa] at x1 y1
  simp only [← hxa]
  clear hW0 hW1 hxa
  have HV : Hid ((isN x.toNat = true ∨ isN y.toNat = true → v = Fp.cmp (ky x.toNat) (ky y.toNat)) ∧ (isN x.toNat = false → isN y.toNat = false → v = Fp.cmp (ky y.toNat) (ky x.toNat))) := Lib.hid (by
    rw [HC.out]
    refine ⟨fun h => ?_, fun nx ny => ?_⟩
    · unfold Fp.cmp
      cases nx : isN x.toNat
      · have ny : isN y.toNat = true := by simpa [nx] using h
        rw [kz_nan ny, Fp.ky_nan ny, if_pos (kz_lt nx), if_pos (Fp.ky_num nx)]
      · cases ny : isN y.toNat
        · have h1 := kz_lt ny
          have h2 := Fp.ky_num ny
          rw [kz_nan nx, Fp.ky_nan nx, if_neg (by omega), if_pos h1, if_neg (by omega), if_pos h2]
        · rw [kz_nan nx, kz_nan ny, Fp.ky_nan nx, Fp.ky_nan ny]
          simp
    · unfold Fp.cmp
      rw [kz_num nx, kz_num ny]
      split
      · rw [if_pos (by omega)]
      · split
        · rw [if_neg (by omega), if_pos (by omega)]
        · rw [if_neg (by omega), if_neg (by omega)])
  clear HC
  cases nx : isN x.toNat
  · cases ny : isN y.toNat
    · have hv := HV.out.2 nx ny
      have HHV := Lib.hid hv
      clear HV hv
      go_wp2_with (first | (go_at_call 32; refine (isnan_any _ _).mono ?_; rintro e w' ⟨rfl, rfl⟩; (try rw [nx]); (try rw [ny])) | (go_at_call 35; refine (order_any _ _ (by assumption) (by assumption) _).mono ?_; rintro e w' ⟨rfl, rfl⟩))
      go_ret
      exact ⟨by rw [HHV.out]; rfl, HG.out⟩
    · have hv := HV.out.1 (.inr ny)
      have HHV := Lib.hid hv
      clear HV hv
      go_wp2_with (first | (go_at_call 32; refine (isnan_any _ _).mono ?_; rintro e w' ⟨rfl, rfl⟩; (try rw [nx]); (try rw [ny])) | (go_at_call 35; refine (order_any _ _ (by assumption) (by assumption) _).mono ?_; rintro e w' ⟨rfl, rfl⟩))
      go_ret
      exact ⟨by rw [HHV.out]; rfl, HG.out⟩
  · have hv := HV.out.1 (.inl nx)
    have HHV := Lib.hid hv
    clear HV hv
    go_wp2_with (first | (go_at_call 32; refine (isnan_any _ _).mono ?_; rintro e w' ⟨rfl, rfl⟩; (try rw [nx])) | (go_at_call 35; refine (order_any _ _ (by assumption) (by assumption) _).mono ?_; rintro e w' ⟨rfl, rfl⟩))
    go_ret
    exact ⟨by rw [HHV.out]; rfl, HG.out⟩
theorem lk_lays (blk off size : Nat) (w : World) : CmpLays Tryd.prog 34 #[] encK 2 cK blk off size w := fun _ _ _ _ x y => lkc_any x y _

/-! Likenesses in memory. -/
def LksAt (w : World) (bk off : Nat) (l : List Kx) : Prop := ∀ j (h : j < l.length), w.cell? ⟨bk, off + j * 2, none⟩ = some (.int .i64 l[j].1) ∧ w.cell? ⟨bk, off + j * 2 + 1, none⟩ = some (fV l[j].2.toNat)
def LksIn (w : World) (A : Option Addr) (l : List Kx) : Prop := 0 < l.length → ∃ bk off, A = some ⟨bk, off, none⟩ ∧ bk < w.heap.size ∧ LksAt w bk off l
theorem LksAt.below {w w' : World} {n bk off : Nat} {l : List Kx} (h : LksAt w bk off l) (hb : Below n w w') (hk : bk < n) : LksAt w' bk off l := fun j hj => ⟨(hb.cell (p := ⟨bk, off + j * 2, none⟩) hk).trans (h j hj).1, (hb.cell (p := ⟨bk, off + j * 2 + 1, none⟩) hk).trans (h j hj).2⟩
theorem LksIn.below {w w' : World} {A : Option Addr} {l : List Kx} (h : LksIn w A l) (hb : Below w.heap.size w w') : LksIn w' A l := fun hp => by
  obtain ⟨bk, off, e, hlt, hl⟩ := h hp
  exact ⟨bk, off, e, Nat.lt_of_lt_of_le hlt hb.size, hl.below hb hlt⟩
def lkCells (l : List Kx) : List Value := l.flatMap encK
theorem lkCells_snoc (l : List Kx) (a : Kx) : lkCells (l ++ [a]) = lkCells l ++ [.int .i64 a.1, fV a.2.toNat] := by simp [lkCells, encK]
theorem lkCells_app (a b : List Kx) : lkCells (a ++ b) = lkCells a ++ lkCells b := by simp [lkCells]
theorem lkCells_len : ∀ l : List Kx, (lkCells l).length = l.length * 2
  | [] => rfl
  | a :: r => by
    have := lkCells_len r
    simp only [lkCells, encK, List.flatMap_cons, List.length_append, List.length_cons, List.length_nil] at this ⊢
    omega
theorem lkCells_one (a : List Kx) : ∀ u ∈ lkCells a, u.oneCell' = true := by
  intro u hu
  simp only [lkCells, encK, List.mem_flatMap, List.mem_cons, List.not_mem_nil, or_false] at hu
  obtain ⟨x, -, rfl | rfl⟩ := hu <;> rfl
theorem lkCells_at : ∀ (l : List Kx) (j : Nat) (h : j < l.length), (lkCells l)[j * 2]? = some (.int .i64 l[j].1) ∧ (lkCells l)[j * 2 + 1]? = some (fV l[j].2.toNat)
  | [], j, h => by simp at h
  | p :: r, 0, _ => ⟨rfl, rfl⟩
  | p :: r, j + 1, h => by
    have := lkCells_at r j (by simpa using h)
    rw [show (j + 1) * 2 = j * 2 + 2 by omega, show j * 2 + 2 + 1 = j * 2 + 1 + 2 by omega]
    exact this
theorem lks_own {w : World} {base : Nat} {A : Option Addr} {cap : Nat} {l : List Kx} (h : w.ownsRow base 37 2 (.slice A l.length cap) l.length (lkCells l)) : LksIn w A l := fun hp => by
  obtain ⟨g, hA, _, hlt, hc⟩ := own_at h hp
  refine ⟨g, 0, hA, hlt, fun j hj => ?_⟩
  obtain ⟨h0, h1⟩ := lkCells_at l j hj
  rw [Nat.zero_add]
  exact ⟨hc _ _ h0, hc _ _ h1⟩
theorem infoLk : (Tryd.prog.info? 37).map (fun i => (i.zero, i.size, i.bytes)) = some (some (.agg #[.int .i64 0, .float .f64 0]), 2, 16) := by kernel_rfl
theorem lks_news {w : World} {bk off : Nat} {xs : List Kx} (h : LksAt w bk off xs) : ∀ j u, (lkCells xs)[j]? = some u → w.cell? ((⟨bk, off, none⟩ : Addr).add j) = some u := by
  intro j u hu
  have hj : j < xs.length * 2 := by have := (List.getElem?_eq_some_iff.1 hu).1; rwa [lkCells_len] at this
  have hi : j / 2 < xs.length := by omega
  obtain ⟨c0, c1⟩ := h (j / 2) hi
  obtain ⟨e0, e1⟩ := lkCells_at xs (j / 2) hi
  rw [show (⟨bk, off, none⟩ : Addr).add j = ⟨bk, off + j, none⟩ by simp [Addr.add]]
  rcases Nat.mod_two_eq_zero_or_one j with hm | hm
  · rw [show j / 2 * 2 = j by omega] at c0 e0
    rw [c0, ← hu, e0]
  · rw [show off + j / 2 * 2 + 1 = off + j by omega] at c1
    rw [show j / 2 * 2 + 1 = j by omega] at e1
    rw [c1, ← hu, e1]
theorem flat_at (d : Array Kx) (i : Nat) (h : i < d.size) : (flatK encK 2 d)[i * 2]! = .int .i64 d[i].1 ∧ (flatK encK 2 d)[i * 2 + 1]! = fV d[i].2.toNat := by
  rw [get_flatK _ _ _ _ (by omega), get_flatK _ _ _ _ (by omega), show i * 2 / 2 = i by omega, show i * 2 % 2 = 0 by omega, show (i * 2 + 1) / 2 = i by omega, show (i * 2 + 1) % 2 = 1 by omega, getElem!_pos d i h]
  exact ⟨rfl, rfl⟩
theorem holds_lks {w : World} {g : Nat} {d : Array Kx} (h : HoldsK encK 2 w g 0 d) : LksAt w g 0 d.toList := fun j hj => by
  have hj' : j < d.size := by simpa using hj
  obtain ⟨e0, e1⟩ := flat_at d j hj'
  have c0 := (h (j * 2) (by rw [size_flatK]; omega)).1
  have c1 := (h (j * 2 + 1) (by rw [size_flatK]; omega)).1
  rw [e0] at c0
  rw [e1] at c1
  simp only [Nat.zero_add, Array.getElem_toList, id] at c0 c1 ⊢
  exact ⟨c0, c1⟩
theorem lks_holds {w : World} {g : Nat} {cs : Array Value} {ks : List Kx} (hx : w.heap[g]? = some (.cells cs 37 (0, 0))) (h : LksAt w g 0 ks) : HoldsK encK 2 w g 0 ks.toArray := fun t ht => by
  rw [size_flatK] at ht
  simp only [List.size_toArray] at ht
  have hi : t / 2 < ks.length := by omega
  obtain ⟨e0, e1⟩ := flat_at ks.toArray (t / 2) (by simpa using hi)
  obtain ⟨c0, c1⟩ := h (t / 2) hi
  refine ⟨?_, by simp [World.frozen?, hx]⟩
  simp only [Nat.zero_add, id, List.getElem_toArray] at c0 c1 e0 e1 ⊢
  rcases Nat.mod_two_eq_zero_or_one t with hm | hm
  · rw [show t = t / 2 * 2 by omega, e0]
    exact c0
  · rw [show t = t / 2 * 2 + 1 by omega, e1]
    exact c1

/-! Sorted by the library. -/
set_option maxHeartbeats 1000000 in
theorem ins_none (A : Option Addr) (cap : Nat) (fv : Value) (w : World) :
    Calls Tryd.prog 55 #[.slice A 0 cap, .int .i64 0, .int .i64 0, fv] w fun e w' => e = .returned (.tuple #[]) ∧ w' = w := by
  go_enter Tryd.func55, Tryd.ntmps55
  go_wp2_with fail
  refine wp_loop_rounds 1 ?_
  rw [rounds_succ]
  go_wp2_with fail
  go_end0
  exact ⟨rfl, rfl⟩
def SkC (A : Option Addr) (n cap : Nat) (w : World) (Q : World → Prop) : Prop := Calls Tryd.prog 55 #[.slice A n cap, .int .i64 0, .int .i64 (n : Int), .func (.func 34) #[] #[]] w fun e w' => e = .returned (.tuple #[]) ∧ Q w'
set_option maxHeartbeats 1000000 in
theorem stable_any (A : Option Addr) (n cap : Nat) (w : World) (Q : World → Prop) (hn : n < 20) (h : SkC A n cap w Q) :
    Calls Tryd.prog 45 #[.slice A n cap, .int .i64 (n : Int), .func (.func 34) #[] #[]] w fun e w' => e = .returned (.tuple #[]) ∧ Q w' := by
  have HC := Lib.hid h
  clear h
  have hm20 : (n : Int) < 20 := by omega
  go_enter Tryd.func45, Tryd.ntmps45
  go_wp2_with fail
  go_loopg [7, 8] 0 (fun q av bv wr => av = .int .i64 0 ∧ bv = .int .i64 20 ∧ wr = w)
  case atStart => exact ⟨rfl, rfl, rfl⟩
  case round =>
    obtain ⟨rfl, rfl, rfl⟩ := hrel
    go_wp2_with (go_at_call 55; refine Calls.mono HC.out ?_; rintro e w' ⟨rfl, HQ⟩)
    go_loopg [6] 0 (fun q av wr => av = .int .i64 20 ∧ Q wr)
    case atStart => exact ⟨rfl, HQ⟩
    case round =>
      clear HQ
      obtain ⟨rfl, HQ⟩ := hrel
      go_wp2_with fail
      go_end0
      exact ⟨rfl, HQ⟩
set_option maxHeartbeats 2000000 in
set_option maxRecDepth 100000 in
/-- slices.SortStableFunc at likenesses. -/
theorem sortk_any {w : World} {base : Nat} {A : Option Addr} {cap : Nat} {ws : List UInt64} (hrow : w.ownsRow base 37 2 (.slice A (nd ws).length cap) (nd ws).length (lkCells (nd ws))) (hlen : (nd ws).length < 20) :
    Calls Tryd.prog 33 #[.slice A (nd ws).length cap, .func (.func 34) #[] #[]] w fun e w' => e = .returned (.tuple #[]) ∧
      ∃ xs, Rd ws xs ∧ LksIn w' A xs ∧ Below base w w' := by
  have HC : Hid (SkC A (nd ws).length cap w fun w' => ∃ xs, Rd ws xs ∧ LksIn w' A xs ∧ Below base w w') := by
    by_cases h0 : (nd ws).length = 0
    · unfold SkC
      rw [h0]
      refine Calls.mono (ins_none A cap _ w) ?_
      rintro e w' ⟨rfl, rfl⟩
      have hw : ws = [] := List.length_eq_zero_iff.1 (by rw [← nd_len]; exact h0)
      subst hw
      exact ⟨rfl, [], Rd.nil, fun h => absurd h (by simp), Below.refl _ _⟩
    · obtain ⟨g, cap, cur, hv, hbg, hgb⟩ : ∃ g cap' cur, Value.slice A (nd ws).length cap = .slice (some ⟨g, 0, none⟩) (nd ws).length cap' ∧ base ≤ g ∧ w.heap[g]? = some (.cells cur 37 (0, 0)) := by
        rcases hrow.2 with ⟨_, hz⟩ | ⟨g, cap, cur, h1, h2, h3, _⟩
        · exact absurd hz h0
        · exact ⟨g, cap, cur, h1, h2, h3⟩
      injection hv with hA _ hc
      subst hA
      subst hc
      obtain ⟨bk, off, hA, hbk, hL⟩ := lks_own hrow (by omega)
      cases hA
      have hH : HoldsK encK 2 w g 0 (nd ws).toArray := lks_holds hgb hL
      have eg : ∀ args w, (callFunc 34 args).run Tryd.prog w = .ok (.enter 34 args) w := enters_of Tryd.func34 (by kernel_rfl) rfl
      have hcon := AnyQ.insertionSortCmpFunc (P := Tryd.prog) (ρ := insLk_ren) insLk 2 Tryd.isAgg37 Tryd.sizeOf37 encK (fun _ => rfl) (fun x v hv => by simp [encK] at hv; rcases hv with rfl | rfl <;> rfl) cK 34 #[] g 0 cap 0 (nd ws).length (nd ws).toArray w eg (lk_lays g 0 _ w) hH hbk (Nat.zero_le _) (by simp) (by simp only [List.size_toArray]; omega)
      unfold SkC
      simp only [List.size_toArray] at hcon
      refine Calls.mono hcon ?_
      rintro e w' ⟨rfl, n, os, hw⟩
      obtain ⟨hrd, hpm⟩ := sorted_rd ws
      have hsz : (insertionSort (ltOf cK) (nd ws).toArray 0 (nd ws).length).size = (nd ws).toArray.size := hpm.1
      generalize insertionSort (ltOf cK) (nd ws).toArray 0 (nd ws).length = d' at *
      refine ⟨rfl, d'.toList, hrd, fun _ => ⟨g, 0, rfl, ?_, ?_⟩, ?_⟩
      · rw [hw]
        simp [sortWorldK, putRowK, Sort.ahead]
        omega
      · rw [hw]
        exact holds_lks (holdsK_sortWorldK_c encK 2 w g 0 (nd ws).toArray d' n os hH hbk hsz)
      · rw [hw]
        unfold sortWorldK putRowK
        have h1 : Below base w (putRow id (Sort.ahead w n) g 0 (flatK encK 2 d')) := Lib.below_putRow (Below.refl _ _) hbg
        exact h1.trans ((T.below_grow _ 0 os).mono (by simp [Sort.ahead]; omega))
  have HS := Lib.hid (stable_any A (nd ws).length cap w _ hlen HC.out)
  clear hrow HC
  generalize (nd ws).length = n at *
  go_enter Tryd.func33, Tryd.ntmps33
  go_wp2_with (go_at_call 45; refine HS.out.mono ?_; rintro e w' ⟨rfl, xs, q1, q2, q3⟩)
  go_end0
  exact ⟨rfl, xs, q1, q2, q3⟩
end Go.Proofs.YtfndiggpnkjacaaDoor.Rk
