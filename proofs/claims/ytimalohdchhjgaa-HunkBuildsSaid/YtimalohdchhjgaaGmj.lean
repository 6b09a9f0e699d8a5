/-
  Of lists the first five count, and of each sixty lines.
  The contract of the reference's Numbers.
  The contract of the reference's Ends.
  What must be whatever is asked (layer 5), walked over what the code's functions come to.
  What must be whatever is asked of layer 6.
  The law InternNumbers.
  Lines and their numbers, in plain words: alike just if the numbers are.
-/
import Derived.Test.YtimalohdchhjgaaGmi
import Derived.Test.YtimalohdchhjgaaGmf
import Derived.Deep.AppendLies
import Derived.Deep.RegionLaw
import Derived.Deep.DeepCutAuto
import Derived.Deep.CutRange
import Derived.StillTailTactics
namespace Go.Proofs.Ytimalohdchhjgaa.N
set_option linter.unusedVariables false
set_option linter.unusedSimpArgs false
open Go.RowKit
open T
open V (grown_of IntsIn numCells numCells_snoc ints_own drawn_below)
open I (alloc1 own_at own_below)

def fewL (ls : List (List Ln)) : List (List Ln) := (ls.take 5).map (·.take 60)
theorem few_take {ls : List (List Ln)} {k : Nat} (hk : k < ls.length) (h5 : k < 5) : (ls.take (k + 1)).map (·.take 60) = (ls.take k).map (·.take 60) ++ [ls[k].take 60] := by
  rw [List.take_succ_eq_append_getElem hk, List.map_append]; rfl
/-- Slices of lists, as values. -/
def Lss (w : World) (vs : List Value) (ls : List (List Ln)) : Prop :=
  vs.length = ls.length ∧ ∀ j (h : j < ls.length) (h' : j < vs.length), ∃ A c, vs[j] = .slice A ls[j].length c ∧ LinesIn w A ls[j] ∧ ls[j].length ≤ c
theorem Lss.snoc {w : World} {vs : List Value} {ls : List (List Ln)} (h : Lss w vs ls) {A : Option Addr} {c : Nat} {l : List Ln} (hl : LinesIn w A l) (hc : l.length ≤ c) : Lss w (vs ++ [.slice A l.length c]) (ls ++ [l]) := by
  refine ⟨by simp [h.1], fun j hj hj' => ?_⟩
  by_cases e : j < ls.length
  · have e' : j < vs.length := by rw [h.1]; exact e
    rw [List.getElem_append_left e', List.getElem_append_left e]
    exact h.2 j e e'
  · obtain rfl : j = ls.length := by simp at hj; omega
    rw [List.getElem_append_right (by rw [h.1]; exact Nat.le_refl _), List.getElem_append_right (Nat.le_refl _)]
    exact ⟨A, c, by simp [h.1], by simpa using hl, by simpa using hc⟩
theorem lines_take {w : World} {A : Option Addr} {l : List Ln} (h : LinesIn w A l) (n : Nat) : LinesIn w A (l.take n) := fun hp => by
  rw [List.length_take] at hp
  obtain ⟨bk, off, e, hlt, hl⟩ := h (by omega)
  refine ⟨bk, off, e, hlt, fun j hj => ?_⟩
  rw [List.length_take] at hj
  have := hl j (by omega)
  simp only [List.getElem_take]
  exact this
theorem lists_of {w w' : World} {base : Nat} {A : Option Addr} {cap : Nat} {vs : List Value} {ls : List (List Ln)} (ho : w'.ownsRow base 37 1 (.slice A vs.length cap) vs.length vs) (h : Lss w vs ls) (hb : Below w.heap.size w w') : ListsIn w' A ls := fun hp => by
  obtain ⟨g, e, _, hg, hat⟩ := own_at ho (by rw [h.1]; exact hp)
  refine ⟨g, 0, e, hg, fun j hj => ?_⟩
  have hj' : j < vs.length := by rw [h.1]; exact hj
  obtain ⟨B, c, e2, hl, hc⟩ := h.2 j hj hj'
  refine ⟨B, c, ?_, hl.below hb, hc⟩
  rw [Nat.zero_add]
  exact hat j _ (by rw [List.getElem?_eq_getElem hj', e2])
theorem infoLns : (Try.prog.info? 37).map (fun i => (i.zero, i.size, i.bytes)) = some (some (.slice none 0 0), 1, 24) := by kernel_rfl

end Go.Proofs.Ytimalohdchhjgaa.N

namespace Go.Proofs.Ytimalohdchhjgaa.N
set_option linter.unusedVariables false
set_option linter.unusedSimpArgs false
open Go.RowKit
open T
open V (grown_of IntsIn numCells numCells_snoc ints_own drawn_below lines_own)
open I (alloc1 own_at own_below)

theorem own_lt {w : World} {base : Nat} {e : TypeId} {size n : Nat} {v : Value} {xs : List Value} (h : w.ownsRow base e size v n xs) : ∀ g, v.ownBlock = some g → g < w.heap.size := fun g e' => by
  rcases h.2 with ⟨rfl, _⟩ | ⟨g', cap, cur, rfl, _, hg, _⟩
  · cases e'
  · simp only [Value.ownBlock, Option.some.injEq] at e'; subst e'; exact L.blk_lt hg
/-- The place of the first line that is like x, or how many there are. -/
def pos (ks : List Ln) (x : Ln) : Nat := ks.idxOf x
theorem pos_in {ks : List Ln} {x : Ln} (h : x ∈ ks) : (add ks x).idxOf x = pos ks x := by unfold add pos; rw [if_pos h]
theorem pos_not {ks : List Ln} {x : Ln} (h : x ∉ ks) : (add ks x).idxOf x = pos ks x := by
  unfold add pos
  rw [if_neg h, List.idxOf_append, if_neg h, List.idxOf_eq_length h]
  simp
theorem pos_le (ks : List Ln) (x : Ln) : pos ks x ≤ ks.length := List.idxOf_le_length
theorem pos_is {ks : List Ln} {x : Ln} {n : Nat} (h : ∀ j (hj : j < ks.length), j < n → ¬ ks[j] = x) (hn : n ≤ ks.length) (hs : ∀ hn : n < ks.length, ks[n] = x) : pos ks x = n := by
  unfold pos
  by_cases e : n < ks.length
  · have := hs e
    have h1 : ks.idxOf x ≤ n := by
      refine Nat.le_of_not_lt fun hlt => ?_
      have := List.not_of_lt_findIdx (p := (· == x)) (xs := ks) (i := n) hlt
      simp [this, hs e] at this
    have h2 : ¬ ks.idxOf x < n := fun hlt => by
      have hm : x ∈ ks := by rw [← this]; exact List.getElem_mem e
      have hi := List.idxOf_lt_length_iff.2 hm
      exact h _ hi hlt (List.getElem_idxOf hi)
    omega
  · obtain rfl : n = ks.length := by omega
    refine List.idxOf_eq_length fun hm => ?_
    obtain ⟨j, hj, e2⟩ := List.mem_iff_getElem.1 hm
    exact h j hj hj e2
theorem ln_ne {a b : Ln} (h : ¬ a = b) : (⟨a.1.toArray⟩ : ByteArray).toList ≠ (⟨b.1.toArray⟩ : ByteArray).toList ∨ ((⟨a.1.toArray⟩ : ByteArray) = ⟨b.1.toArray⟩ ∧ a.2 ≠ b.2) := by
  obtain ⟨a1, a2⟩ := a
  obtain ⟨b1, b2⟩ := b
  by_cases h1 : a1 = b1
  · exact .inr ⟨by rw [h1], fun e => h (by simp only at e; rw [h1, e])⟩
  · exact .inl fun e => h1 (by simpa [Lib.toList_data] using e)

/-- The rows of a round: the lines that are known, the numbers so far, the rows that are done. -/
structure Rn (w : World) (r0 : Nat) (kv rv ov : Value) (kx : List Ln) (ys : List Int) (vs : List Value) (rs : List (List Int)) (W : World) : Prop where
  k : W.ownsRow w.heap.size 51 2 kv kx.length (lineCells kx)
  r : W.ownsRow r0 3 1 rv ys.length (numCells ys)
  o : W.ownsRow w.heap.size 73 1 ov vs.length vs
  rw : Rws W w.heap.size vs rs
  b : Below w.heap.size w W
  s : r0 ≤ W.heap.size
  s0 : w.heap.size ≤ r0
  sep : ∀ j (h : j < vs.length) (_ : j < rs.length) g, vs[j].ownBlock = some g → g < r0
theorem Rn.below {w : World} {r0 : Nat} {kv rv ov : Value} {kx : List Ln} {ys : List Int} {vs : List Value} {rs : List (List Int)} {W W' : World} (h : Rn w r0 kv rv ov kx ys vs rs W) (hb : Below W.heap.size W W') : Rn w r0 kv rv ov kx ys vs rs W' :=
  ⟨own_below h.k hb, own_below h.r hb, own_below h.o hb, h.rw.below hb, h.b.trans (hb.mono h.b.size), Nat.le_trans h.s hb.size, h.s0, h.sep⟩
theorem Rn.addK {w : World} {r0 : Nat} {kv kv' rv ov : Value} {kx kx' : List Ln} {ys : List Int} {vs : List Value} {rs : List (List Int)} {W W' : World} (h : Rn w r0 kv rv ov kx ys vs rs W) (hg : W.grownBy W' kv.ownBlock) (hk : W'.ownsRow w.heap.size 51 2 kv' kx'.length (lineCells kx')) : Rn w r0 kv' rv ov kx' ys vs rs W' :=
  ⟨hk, h.r.kept hg (V.own_apart (by decide) h.r h.k), h.o.kept hg (V.own_apart (by decide) h.o h.k), h.rw.kept hg (fun j a b => V.own_apart (by decide) (h.rw.2 j a b) h.k), h.b.grown hg h.b.size (own_base h.k), Nat.le_trans h.s hg.size, h.s0, h.sep⟩
theorem Rn.addR {w : World} {r0 : Nat} {kv rv rv' ov : Value} {kx : List Ln} {ys ys' : List Int} {vs : List Value} {rs : List (List Int)} {W W' : World} (h : Rn w r0 kv rv ov kx ys vs rs W) (hg : W.grownBy W' rv.ownBlock) (hk : W'.ownsRow r0 3 1 rv' ys'.length (numCells ys')) : Rn w r0 kv rv' ov kx ys' vs rs W' :=
  ⟨h.k.kept hg (V.own_apart (by decide) h.k h.r), hk, h.o.kept hg (V.own_apart (by decide) h.o h.r), h.rw.kept hg (fun j a b => by
    cases hv : (vs[j]).ownBlock with
    | none => exact .inl rfl
    | some g => exact .inr fun e => absurd (own_base h.r g e.symm) (Nat.not_le.2 (h.sep j b a g hv))), h.b.grown hg h.b.size (fun g e => Nat.le_trans h.s0 (own_base h.r g e)), Nat.le_trans h.s hg.size, h.s0, h.sep⟩

end Go.Proofs.Ytimalohdchhjgaa.N

namespace Go.Proofs.Ytimalohdchhjgaa.N
set_option linter.unusedVariables false
set_option linter.unusedSimpArgs false
open Go.RowKit
open T
open V (IntsIn numCells numCells_snoc ints_own drawn_below)
open I (alloc1 own_at own_below)

/-- Ends, of two rows whose capacities are told. -/
def EcC (fn : FuncId) (a b : List Int) : Prop := ∀ (W : World) (A B : Option Addr) (c c' : Nat), IntsIn W A a → IntsIn W B b → a.length ≤ c → b.length ≤ c' → Calls Try.prog fn #[.slice A a.length c, .slice B b.length c'] W fun e w' => e = .returned (.tuple #[.int .i64 (cpl a b : Nat), .int .i64 (csl a b : Nat)]) ∧ Below W.heap.size W w'

theorem ints_drop {w : World} {A : Option Addr} {a : List Int} (h : IntsIn w A a) (k : Nat) : IntsIn w (Option.map (fun x => x.add k) A) (a.drop k) := fun hp => by
  obtain ⟨bk, off, rfl, hlt, hI⟩ := h (by simp at hp; omega)
  refine ⟨bk, off + k, by simp [Addr.add], hlt, fun j hj => ?_⟩
  rw [List.getElem_drop, Nat.add_assoc]
  exact hI (k + j) (by simp at hj; omega)
theorem ints_gone {w : World} {A : Option Addr} {a : List Int} {k : Nat} (h : a.length ≤ k) : IntsIn w A (a.drop k) := fun hp => absurd hp (by simp; omega)

end Go.Proofs.Ytimalohdchhjgaa.N

namespace Go.Proofs.Ytimalohdchhjgaa.V
set_option linter.unusedVariables false
set_option linter.unusedSimpArgs false
open Go.RowKit
open T
open I (It Lb ItemsIn ItemsAt ItemsOk itCells itCells_snoc itCells_at items_cells own_at own_below alloc1)

def lvIts : List It := [⟨4, 0, 0, false, [97], false⟩, ⟨5, 1, 0, false, [98], false⟩, ⟨6, 0, 0, true, [], false⟩]
def lvLns : List (List UInt8 × Bool) := [([97], false), ([46, 46, 46], false)]
def lvCut : List It := [⟨4, 0, 0, false, [97], false⟩, ⟨6, 0, 0, true, [], false⟩]
theorem lvLns_is : lns [46, 46, 46] (cut (0, 0) lvIts) = lvLns := by decide
theorem lvCut_is : cut (0, 0) lvIts = lvCut := by decide
theorem lvAts_is : atI (0, 0) lvIts = [0, 2] := by decide
def lvIC : Array Value := #[.int .i64 4, .int .i64 0, .int .u64 0, .bool false, .string ⟨#[97]⟩, .bool false, .int .i64 5, .int .i64 1, .int .u64 0, .bool false, .string ⟨#[98]⟩, .bool false, .int .i64 6, .int .i64 0, .int .u64 0, .bool true, .string ⟨#[]⟩, .bool false]
theorem VoC.at0 {fn : FuncId} {A : Option Addr} {n cap : Nat} {hx : ByteArray} {l : List It} {ls : List (List UInt8 × Bool)} {ts : List Int} (h : VoC fn A n cap 0 0 hx l ls ts) (W : World) (h1 : ItemsIn W A l) :
    Calls Try.prog fn #[.slice A n cap, .agg #[.int .i64 0, .int .u64 0], .string hx] W (VoEnd W ls ts) := h W h1
theorem CuC.at0 {fn : FuncId} {A : Option Addr} {n cap : Nat} {l c : List It} (h : CuC fn A n cap 0 0 l c) (W : World) (h1 : ItemsIn W A l) : Calls Try.prog fn #[.slice A n cap, .agg #[.int .i64 0, .int .u64 0]] W (IsEnd W c) := h W h1
theorem ints_of_block {w : World} {g : Nat} {cs : Array Value} {xs : List Int} (h : w.heap[g]? = some (.cells cs 3 (0, 0))) (hc : cs.toList = numCells xs) : IntsIn w (some ⟨g, 0, none⟩) xs := fun hp => by
  refine ⟨g, 0, rfl, L.blk_lt h, fun j hj => ?_⟩
  rw [L.blk_cell h, Nat.zero_add]
  have : cs.toList[j]? = some (.int .i64 xs[j]) := by rw [hc]; simp [numCells, List.getElem?_eq_getElem hj]
  simpa using this
def I2C (fn : FuncId) (ds : List Int) (n : Nat) : Prop := ∀ (W : World) (A B : Option Addr) (c c' : Nat), IntsIn W A ds → IntsIn W B ds → Calls Try.prog fn #[.slice A ds.length c, .slice B n c'] W fun e w' => e = .returned (.bool true) ∧ Below W.heap.size W w'
theorem I2C.at {fn : FuncId} {ds : List Int} {n : Nat} (h : I2C fn ds n) (W : World) {A B : Option Addr} {c c' : Nat} (h1 : IntsIn W A ds) (h2 : IntsIn W B ds) : Calls Try.prog fn #[.slice A ds.length c, .slice B n c'] W fun e w' => e = .returned (.bool true) ∧ Below W.heap.size W w' := h W A B c c' h1 h2
end Go.Proofs.Ytimalohdchhjgaa.V

namespace Go.Proofs.Ytimalohdchhjgaa.N
set_option linter.unusedVariables false
set_option linter.unusedSimpArgs false
open Go.RowKit
open T
open V (grown_of IntsIn numCells numCells_snoc ints_own drawn_below ints_of_block I2C LvC)
open I (alloc1 own_at own_below)

def ll : List (List Ln) := [[([97], false), ([98], false), ([97], false)], [([99], false), ([98], false)]]
theorem ll_is : numsAll [] ll = [[0, 1, 0], [2, 1]] := by decide
theorem lines_of_block {w : World} {g : Nat} {cs : Array Value} {xs : List Ln} (h : w.heap[g]? = some (.cells cs 51 (0, 0))) (hc : cs.toList = lineCells xs) : LinesIn w (some ⟨g, 0, none⟩) xs := fun hp => by
  refine ⟨g, 0, rfl, L.blk_lt h, fun j hj => ?_⟩
  obtain ⟨h0, h1⟩ := lineCells_at xs j hj
  rw [← hc] at h0 h1
  rw [Nat.zero_add]
  exact ⟨(L.blk_cell h _).trans (by rw [← Array.getElem?_toList]; exact h0), (L.blk_cell h _).trans (by rw [← Array.getElem?_toList]; exact h1)⟩
theorem cn4 {ps : List (Int × Int)} (h : CnR [4] ps) : ps.length = 1 := by
  obtain ⟨cs, rfl, hc, -⟩ := h
  have h1 : Cn [4] [(4, 1)] := ⟨by simp, fun p hp => by simp at hp; subst hp; exact ⟨by simp, by decide⟩, fun n hn => by simp at hn; subst hn; exact ⟨(4, 1), by simp, rfl⟩⟩
  rw [hc.same h1]; rfl
theorem three (w : World) (o0 o1 o2 : Obj) : ∃ W : World, W = ((w.alloc o0).alloc o1).alloc o2 ∧ W.heap[w.heap.size]? = some o0 ∧ W.heap[w.heap.size + 1]? = some o1 ∧ W.heap[w.heap.size + 1 + 1]? = some o2 ∧ Below w.heap.size w W := by
  refine ⟨_, rfl, ?_, ?_, ?_, ?_⟩
  · exact V.alloc_old _ (V.alloc_old _ (V.alloc_at _ rfl))
  · exact V.alloc_old _ (V.alloc_at _ (by simp))
  · exact V.alloc_at _ (by simp)
  · exact ((alloc1 _ _).alloc (by simp) _).alloc (by simp; omega) _

end Go.Proofs.Ytimalohdchhjgaa.N

namespace Go.Proofs.Ytimalohdchhjgaa.N
set_option linter.unusedVariables false
set_option linter.unusedSimpArgs false
open Go.RowKit
open T
open V (grown_of IntsIn numCells numCells_snoc ints_own drawn_below LvC LvC.at)
open I (alloc1 own_at own_below)

/-- Rows of numbers in memory, to be read. -/
def RowsIn (w : World) (A : Option Addr) (rs : List (List Int)) : Prop :=
  0 < rs.length → ∃ bk, A = some ⟨bk, 0, none⟩ ∧ bk < w.heap.size ∧ ∀ j (h : j < rs.length), ∃ B c, w.cell? ⟨bk, j, none⟩ = some (.slice B rs[j].length c) ∧ IntsIn w B rs[j]
theorem RowsIn.below {w w' : World} {A : Option Addr} {rs : List (List Int)} (h : RowsIn w A rs) (hb : Below w.heap.size w w') : RowsIn w' A rs := fun hp => by
  obtain ⟨bk, e, hlt, hl⟩ := h hp
  refine ⟨bk, e, Nat.lt_of_lt_of_le hlt hb.size, fun j hj => ?_⟩
  obtain ⟨B, c, h1, h2⟩ := hl j hj
  exact ⟨B, c, (hb.cell (p := ⟨bk, j, none⟩) hlt).trans h1, h2.below hb⟩
theorem NmEnd.rows {W : World} {rs : List (List Int)} {e : Ending} {w' : World} (h : NmEnd W rs e w') : ∃ A cap, e = .returned (.slice A rs.length cap) ∧ RowsIn w' A rs ∧ Below W.heap.size W w' := by
  obtain ⟨A, cap, vs, rfl, ho, hr, hb⟩ := h
  refine ⟨A, cap, by rw [hr.1], fun hp => ?_, hb⟩
  obtain ⟨g, e, _, hg, hat⟩ := own_at ho (by rw [hr.1]; exact hp)
  refine ⟨g, e, hg, fun j hj => ?_⟩
  have hj' : j < vs.length := by rw [hr.1]; exact hj
  have hro := hr.2 j hj hj'
  obtain ⟨B, c, e2, -, -⟩ := own_form hro
  rw [e2] at hro
  exact ⟨B, c, hat j _ (by rw [List.getElem?_eq_getElem hj', e2]), ints_own hro⟩
theorem numsAll_rows : ∀ (ls : List (List Ln)) (ks : List Ln), ∀ r ∈ numsAll ks ls, ∃ l ∈ ls, r.length = l.length
  | [], _, r, h => by simp [numsAll] at h
  | l :: q, ks, r, h => by
    rw [numsAll, List.mem_cons] at h
    rcases h with rfl | h
    · exact ⟨l, by simp, row_length l ks⟩
    · obtain ⟨l', h1, h2⟩ := numsAll_rows q _ r h
      exact ⟨l', by simp [h1], h2⟩
theorem few_five (ls : List (List Ln)) : (fewL ls).length ≤ 5 := by unfold fewL; simp; omega
theorem few_sixty (ls : List (List Ln)) : ∀ l ∈ fewL ls, l.length ≤ 60 := fun l hl => by
  obtain ⟨q, _, rfl⟩ := List.mem_map.1 hl
  simp; omega
theorem few_lines {P : Ln → Prop} {ls : List (List Ln)} (h : ∀ l ∈ ls, ∀ y ∈ l, P y) : ∀ l ∈ fewL ls, ∀ y ∈ l, P y := fun l hl y hy => by
  obtain ⟨q, hq, rfl⟩ := List.mem_map.1 hl
  exact h q (List.mem_of_mem_take hq) y (List.mem_of_mem_take hy)

end Go.Proofs.Ytimalohdchhjgaa.N

namespace Go.Proofs.Ytimalohdchhjgaa.N
set_option linter.unusedVariables false
set_option linter.unusedSimpArgs false
open Go.RowKit
open T
open V (grown_of IntsIn numCells numCells_snoc ints_own drawn_below)
open I (alloc1 own_at own_below)

/-- Lines and their numbers: each number is the place of its line among those that are known. -/
structure Al (ks xs : List Ln) (ys : List Int) : Prop where
  len : ys.length = xs.length
  at_ : ∀ j (h : j < xs.length) (h' : j < ys.length), ys[j] = ((ks.idxOf xs[j] : Nat) : Int)
  mem : ∀ x ∈ xs, x ∈ ks
theorem Al.nil (ks : List Ln) : Al ks [] [] := ⟨rfl, fun j h => by simp at h, fun x hx => by simp at hx⟩
theorem mem_add (ks : List Ln) (x : Ln) : x ∈ add ks x := by unfold add; split <;> simp_all
theorem mem_add' {ks : List Ln} (x : Ln) {y : Ln} (h : y ∈ ks) : y ∈ add ks x := by unfold add; split <;> simp_all
theorem idx_add {ks : List Ln} (x : Ln) {y : Ln} (h : y ∈ ks) : (add ks x).idxOf y = ks.idxOf y := by
  unfold add
  split
  · rfl
  · rw [List.idxOf_append, if_pos h]
theorem Al.step {ks xs : List Ln} {ys : List Int} (h : Al ks xs ys) (x : Ln) : Al (add ks x) (xs ++ [x]) (ys ++ [(((add ks x).idxOf x : Nat) : Int)]) := by
  refine ⟨by simp [h.len], fun j hj hj' => ?_, fun y hy => ?_⟩
  · by_cases e : j < xs.length
    · have e' : j < ys.length := by rw [h.len]; exact e
      rw [List.getElem_append_left e', List.getElem_append_left e, h.at_ j e e', idx_add x (h.mem _ (List.getElem_mem e))]
    · obtain rfl : j = xs.length := by simp at hj; omega
      rw [List.getElem_append_right (by rw [h.len]; exact Nat.le_refl _), List.getElem_append_right (Nat.le_refl _)]
      simp [h.len]
  · rcases List.mem_append.1 hy with hy | hy
    · exact mem_add' x (h.mem y hy)
    · simp at hy; subst hy; exact mem_add ks y
theorem Al.alike {ks xs : List Ln} {ys : List Int} (h : Al ks xs ys) {i j : Nat} (hi : i < xs.length) (hj : j < xs.length) (hi' : i < ys.length) (hj' : j < ys.length) : ys[i] = ys[j] ↔ xs[i] = xs[j] := by
  rw [h.at_ i hi hi', h.at_ j hj hj']
  constructor
  · intro e
    have e' : ks.idxOf xs[i] = ks.idxOf xs[j] := by omega
    have mi := List.idxOf_lt_length_iff.2 (h.mem _ (List.getElem_mem hi))
    have mj := List.idxOf_lt_length_iff.2 (h.mem _ (List.getElem_mem hj))
    have ei := List.getElem_idxOf mi
    have ej := List.getElem_idxOf mj
    rw [← ei, ← ej]
    simp only [e']
  · intro e; rw [e]
theorem idx_le (ks : List Ln) (x : Ln) : (add ks x).idxOf x ≤ ks.length := by
  by_cases h : x ∈ ks
  · rw [idx_add x h]; exact List.idxOf_le_length
  · unfold add; rw [if_neg h, List.idxOf_append, if_neg h]; simp
theorem top_is (ks : List Ln) (x : Ln) : max ((ks.length : Nat) : Int) ((((add ks x).idxOf x : Nat) : Int) + 1) = (((add ks x).length : Nat) : Int) := by
  by_cases h : x ∈ ks
  · have h1 : ks.idxOf x < ks.length := List.idxOf_lt_length_iff.2 h
    rw [idx_add x h, show add ks x = ks by unfold add; rw [if_pos h]]
    omega
  · have h1 : (add ks x).idxOf x = ks.length := by unfold add; rw [if_neg h, List.idxOf_append, if_neg h]; simp
    rw [h1, show add ks x = ks ++ [x] by unfold add; rw [if_neg h]]
    rw [List.length_append, List.length_singleton]; omega
theorem nums_at : ∀ (ls : List (List Ln)) (ks : List Ln) (i : Nat) (h : i < ls.length) (h' : i < (numsAll ks ls).length), (numsAll ks ls)[i] = row (knownAll ks (ls.take i)) ls[i]
  | [], _, i, h, _ => by simp at h
  | l :: r, ks, 0, _, _ => by simp [numsAll, knownAll]
  | l :: r, ks, i + 1, h, h' => by
    have := nums_at r (known ks l) i (by simpa using h) (by simpa [numsAll] using h')
    simpa [numsAll, knownAll] using this
theorem row_at : ∀ (l ks : List Ln) (k : Nat) (h : k < l.length) (h' : k < (row ks l).length), (row ks l)[k] = (((add (known ks (l.take k)) l[k]).idxOf l[k] : Nat) : Int)
  | [], _, k, h, _ => by simp at h
  | x :: r, ks, 0, _, _ => by simp [row, known]
  | x :: r, ks, k + 1, h, h' => by
    have := row_at r (add ks x) k (by simpa using h) (by simpa [row] using h')
    simpa [row, known] using this
/-- What the law holds in memory: lines, and their numbers. -/
structure Am (w : World) (lv nv : Value) (xs : List Ln) (ys : List Int) (W : World) : Prop where
  l : W.ownsRow w.heap.size 51 2 lv xs.length (lineCells xs)
  n : W.ownsRow w.heap.size 3 1 nv ys.length (numCells ys)
  b : Below w.heap.size w W
theorem Am.below {w : World} {lv nv : Value} {xs : List Ln} {ys : List Int} {W W' : World} (h : Am w lv nv xs ys W) (hb : Below W.heap.size W W') : Am w lv nv xs ys W' := ⟨own_below h.l hb, own_below h.n hb, h.b.trans (hb.mono h.b.size)⟩
theorem Am.addL {w : World} {lv nv lv' : Value} {xs xs' : List Ln} {ys : List Int} {W W' : World} (h : Am w lv nv xs ys W) (hg : W.grownBy W' lv.ownBlock) (hk : W'.ownsRow w.heap.size 51 2 lv' xs'.length (lineCells xs')) : Am w lv' nv xs' ys W' := ⟨hk, h.n.kept hg (V.own_apart (by decide) h.n h.l), h.b.grown hg h.b.size (own_base h.l)⟩
theorem Am.addN {w : World} {lv nv nv' : Value} {xs : List Ln} {ys ys' : List Int} {W W' : World} (h : Am w lv nv xs ys W) (hg : W.grownBy W' nv.ownBlock) (hk : W'.ownsRow w.heap.size 3 1 nv' ys'.length (numCells ys')) : Am w lv nv' xs ys' W' := ⟨h.l.kept hg (V.own_apart (by decide) h.l h.n), hk, h.b.grown hg h.b.size (own_base h.n)⟩
end Go.Proofs.Ytimalohdchhjgaa.N
