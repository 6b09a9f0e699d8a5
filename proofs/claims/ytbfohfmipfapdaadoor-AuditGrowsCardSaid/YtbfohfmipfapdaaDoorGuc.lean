/-
  Entries of a log, in plain words: which may stand in it, which of them one sees, how many a label has, the text of those that one sees.
  An item, in plain words.
  What a row of a call's own is, by its address and its cells.
  Items in memory, wherever they lie.
  Plain facts on the order of labels.
  What one sees of items, in plain words; what the reference's loops come to.
  Rows of bytes in memory, and the contract of text.cut.
  The contracts of text.Words and text.Lines.
  Plain facts on lines: the bytes of the lines of bytes are the bytes; the lines of the bytes of right lines are the lines.
  Rows of lines in memory.
  The contract of text.Join: a new row of bytes, those of the lines.
  Rows of bytes in memory, wherever they lie, those of no byte too: as a text, and text.Lines of them. What a region's walk may be told anew on its way.
  Rows of numbers in memory; the contracts of the reference's Ints and of the law's sameItems (layer 5).
  The contract of the reference's Cut (layer 5).
  The contract of the reference's IDs (layer 5).
  The contract of the reference's Of (layer 5): a view while it is built.
-/
import Derived.Test.YtbfohfmipfapdaaDoorGub
import Derived.Test.YtbfohfmipfapdaaDoorGua
import Derived.Laws.BytesArg
import Derived.Deep.LoopGhost
import Derived.Lib.ConvBytes
import Derived.Lib.AppendStr
import Derived.Deep.RegionHeld
import Derived.Deep.QuietTactic
import Derived.BigQuiet
import Derived.StillTailTactics
import Derived.Deep.DeepCutAuto
import Derived.Deep.AppendLies
import Derived.Deep.DrawnRows
import Derived.BigRegion
namespace Go.Proofs.YtbfohfmipfapdaaDoor.Au
set_option linter.unusedVariables false
set_option linter.unusedSimpArgs false
open T

/-- An entry: who, the label's level and categories, what, which file, what came of it. -/
structure Et where
  us : ByteArray
  lv : Int
  ct : Nat
  ve : ByteArray
  fi : ByteArray
  oc : ByteArray
deriving DecidableEq, Inhabited
def nmB (s : ByteArray) : Bool := P.name s.data.toList
def okE (e : Et) : Bool := L.rightB e.lv && (nmB e.us && (nmB e.ve && (nmB e.fi && nmB e.oc)))
def ckE (e : Et) : Int := if okE e = true then 0 else 2
/-- The entries that may stand in a log. -/
def fine (l : List Et) : List Et := l.filter okE
def addE (l : List Et) (e : Et) : List Et := if okE e = true then l ++ [e] else l
def blE (o0 : Int) (o1 : Nat) (e : Et) : Bool := L.belowB e.lv e.ct o0 o1
def seen (o0 : Int) (o1 : Nat) (l : List Et) : List Et := l.filter (blE o0 o1)
def hasE (o0 : Int) (o1 : Nat) (e : Et) : Bool := decide (e.lv = o0) && decide (e.ct = o1)
def cnt (o0 : Int) (o1 : Nat) (l : List Et) : Nat := l.countP (hasE o0 o1)
/-- An entry's line with its number. -/
def ln (n : Int) (e : Et) : List UInt8 := P.decimal n ++ ([32] ++ (e.us.data.toList ++ ([32] ++ (L.print e.lv e.ct ++ ([32] ++ (e.ve.data.toList ++ ([32] ++ (e.fi.data.toList ++ ([32] ++ (e.oc.data.toList ++ [10]))))))))))
/-- The lines of the first k, numbered from 1 on. -/
def prt (s : List Et) : Nat → List UInt8
  | 0 => []
  | k + 1 => prt s k ++ ln ((k : Int) + 1) (s.getD k default)
def text (o0 : Int) (o1 : Nat) (l : List Et) : List UInt8 := prt (seen o0 o1 l) (seen o0 o1 l).length

theorem fine_take {l : List Et} {k : Nat} (h : k < l.length) : fine (l.take (k + 1)) = addE (fine (l.take k)) l[k] := by
  unfold fine addE
  rw [List.take_succ_eq_append_getElem h, List.filter_append]
  by_cases e : okE l[k] = true
  · rw [if_pos e, List.filter_cons_of_pos e]; rfl
  · rw [if_neg e, List.filter_cons_of_neg e]; simp
theorem fine_zero (l : List Et) : fine (l.take 0) = [] := by simp [fine]
theorem fine_len (l : List Et) (k : Nat) : (fine (l.take k)).length ≤ k := by
  have := List.length_filter_le okE (l.take k)
  rw [List.length_take] at this
  unfold fine; omega
theorem addE_len (l : List Et) (e : Et) : (addE l e).length ≤ l.length + 1 := by unfold addE; split <;> simp
theorem seen_len (o0 : Int) (o1 : Nat) (l : List Et) : (seen o0 o1 l).length ≤ l.length := List.length_filter_le _ _
theorem seen_snoc (o0 : Int) (o1 : Nat) (l : List Et) (e : Et) : seen o0 o1 (l ++ [e]) = if blE o0 o1 e = true then seen o0 o1 l ++ [e] else seen o0 o1 l := by
  unfold seen
  rw [List.filter_append]
  split
  · next h => rw [List.filter_cons_of_pos h]; rfl
  · next h => rw [List.filter_cons_of_neg h]; simp
theorem seen_take (o0 : Int) (o1 : Nat) {l : List Et} {k : Nat} (h : k < l.length) : seen o0 o1 (l.take (k + 1)) = if blE o0 o1 l[k] = true then seen o0 o1 (l.take k) ++ [l[k]] else seen o0 o1 (l.take k) := by
  rw [List.take_succ_eq_append_getElem h, seen_snoc]
theorem cnt_snoc (o0 : Int) (o1 : Nat) (l : List Et) (e : Et) : cnt o0 o1 (l ++ [e]) = if hasE o0 o1 e = true then cnt o0 o1 l + 1 else cnt o0 o1 l := by
  unfold cnt
  rw [List.countP_append, List.countP_cons, List.countP_nil]
  split <;> simp_all
theorem cnt_take (o0 : Int) (o1 : Nat) {l : List Et} {k : Nat} (h : k < l.length) : cnt o0 o1 (l.take (k + 1)) = if hasE o0 o1 l[k] = true then cnt o0 o1 (l.take k) + 1 else cnt o0 o1 (l.take k) := by
  rw [List.take_succ_eq_append_getElem h, cnt_snoc]
theorem cnt_le (o0 : Int) (o1 : Nat) (l : List Et) : cnt o0 o1 l ≤ l.length := List.countP_le_length
/-! What one may not see plays no part. -/
theorem few_fine (o0 : Int) (o1 : Nat) (l : List Et) : seen o0 o1 (fine (seen o0 o1 l)) = seen o0 o1 (fine l) := by
  unfold seen fine
  simp only [List.filter_filter]
  apply List.filter_congr
  intro x _
  cases okE x <;> cases blE o0 o1 x <;> rfl
theorem few_text (o0 : Int) (o1 : Nat) (l : List Et) : text o0 o1 (fine (seen o0 o1 l)) = text o0 o1 (fine l) := by
  unfold text; rw [few_fine]
theorem few_cnt {o0 a0 : Int} {o1 a1 : Nat} (h : L.belowB a0 a1 o0 o1 = true) (l : List Et) : cnt a0 a1 (fine (seen o0 o1 l)) = cnt a0 a1 (fine l) := by
  unfold cnt seen fine
  rw [List.countP_filter, List.countP_filter, List.countP_filter]
  apply List.countP_congr
  intro x _
  have hb : hasE a0 a1 x = true → blE o0 o1 x = true := fun e => by
    unfold hasE at e
    simp only [Bool.and_eq_true, decide_eq_true_eq] at e
    unfold blE
    rw [e.1, e.2]; exact h
  cases h1 : hasE a0 a1 x <;> cases h2 : okE x <;> simp_all
theorem okE_name {e : Et} (h : okE e = true) : nmB e.us = true ∧ nmB e.ve = true ∧ nmB e.fi = true ∧ nmB e.oc = true := by
  unfold okE at h
  simp only [Bool.and_eq_true] at h
  exact ⟨h.2.1, h.2.2.1, h.2.2.2.1, h.2.2.2.2⟩
theorem nm_size {s : ByteArray} (h : nmB s = true) : s.data.toList.length ≤ 64 := by
  rcases Nat.lt_or_ge 64 s.size with h1 | h1
  · have := name_long s (.inr h1)
    unfold nmB at h
    rw [this] at h; cases h
  · rw [← Lib.size_eq]; exact h1
theorem ln_len {e : Et} (h : okE e = true) (n : Int) : (ln n e).length ≤ 4096 := by
  obtain ⟨h1, h2, h3, h4⟩ := okE_name h
  have := nm_size h1; have := nm_size h2; have := nm_size h3; have := nm_size h4
  have := P.decimal_length n
  have := L.print_len e.lv e.ct
  unfold ln
  simp only [List.length_append, List.length_cons, List.length_nil]
  omega
theorem prt_len {s : List Et} (h : ∀ e ∈ s, okE e = true) : ∀ (k : Nat), k ≤ s.length → (prt s k).length ≤ k * 4096
  | 0, _ => by simp [prt]
  | k + 1, hk => by
    have ih := prt_len h k (by omega)
    have e : s.getD k default = s[k]'(by omega) := by rw [List.getD_eq_getElem?_getD, List.getElem?_eq_getElem (by omega)]; rfl
    have := ln_len (h _ (List.getElem_mem (show k < s.length by omega))) ((k : Int) + 1)
    rw [prt, List.length_append, e]
    omega
theorem prt_at {s : List Et} {k : Nat} (h : k < s.length) : prt s (k + 1) = prt s k ++ ln ((k : Int) + 1) s[k] := by
  rw [prt, List.getD_eq_getElem?_getD, List.getElem?_eq_getElem h]; rfl
theorem fine_ok {l : List Et} : ∀ e ∈ fine l, okE e = true := fun e h => (List.mem_filter.1 h).2
theorem seen_ok {o0 : Int} {o1 : Nat} {l : List Et} (h : ∀ e ∈ l, okE e = true) : ∀ e ∈ seen o0 o1 l, okE e = true := fun e he => h e (List.mem_filter.1 he).1
theorem add_ok {l : List Et} (h : ∀ e ∈ l, okE e = true) (x : Et) : ∀ e ∈ addE l x, okE e = true := fun e he => by
  unfold addE at he
  split at he
  · next hx =>
    rcases List.mem_append.1 he with he | he
    · exact h e he
    · rw [List.mem_singleton.1 he]; exact hx
  · exact h e he
end Go.Proofs.YtbfohfmipfapdaaDoor.Au

namespace Go.Proofs.YtbfohfmipfapdaaDoor.I
set_option linter.unusedVariables false
set_option linter.unusedSimpArgs false
/-- A label; an item. -/
abbrev Lb := Int × Nat
structure It where
  id : Int
  lv : Int
  ct : Nat
  an : Bool
  tx : List UInt8
  ba : Bool
deriving DecidableEq
def It.lb (x : It) : Lb := (x.lv, x.ct)
end Go.Proofs.YtbfohfmipfapdaaDoor.I

namespace Go.Proofs.YtbfohfmipfapdaaDoor.T
open Go.RowKit

theorem own_form {w : World} {base : Nat} {e : TypeId} {size n : Nat} {v : Value} {xs : List Value} (h : w.ownsRow base e size v n xs) :
    ∃ A cap, v = .slice A n cap ∧ n ≤ cap ∧ (0 < n → ∃ g, A = some ⟨g, 0, none⟩ ∧ base ≤ g ∧ g < w.heap.size ∧ ∀ j u, xs[j]? = some u → w.cell? ⟨g, j, none⟩ = some u) := by
  rcases h.2 with ⟨rfl, rfl⟩ | ⟨g, cap, cur, rfl, hg, hh, hnc, _, _, hx⟩
  · exact ⟨none, 0, rfl, Nat.le_refl _, fun h => absurd h (by omega)⟩
  · refine ⟨_, cap, rfl, hnc, fun _ => ⟨g, rfl, hg, ?_, fun j u hu => ?_⟩⟩
    · rcases Nat.lt_or_ge g w.heap.size with hlt | hge
      · exact hlt
      · rw [Array.getElem?_eq_none hge] at hh; cases hh
    · rw [← hx] at hu
      have hu' : cur.toList[j]? = some u := by
        rw [List.getElem?_take] at hu
        split at hu
        · exact hu
        · cases hu
      simp [World.cell?, hh]
      simpa using hu'
end Go.Proofs.YtbfohfmipfapdaaDoor.T

namespace Go.Proofs.YtbfohfmipfapdaaDoor.I
set_option linter.unusedVariables false
set_option linter.unusedSimpArgs false
open Go.RowKit
open T

/-- The cells of items. -/
def itCells (xs : List It) : List Value := xs.flatMap fun x => [.int .i64 x.id, .int .i64 x.lv, .int .u64 (x.ct : Int), .bool x.an, .string ⟨x.tx.toArray⟩, .bool x.ba]
theorem itCells_snoc (xs : List It) (x : It) : itCells (xs ++ [x]) = itCells xs ++ [.int .i64 x.id, .int .i64 x.lv, .int .u64 (x.ct : Int), .bool x.an, .string ⟨x.tx.toArray⟩, .bool x.ba] := by simp [itCells]
theorem alloc1 (W : World) (o : Obj) : Below W.heap.size W (W.alloc o) := (Below.refl _ _).alloc (Nat.le_refl _) o
/-- A row of items in memory: six cells each, from an address on. -/
def ItemsAt (w : World) (bk off : Nat) (xs : List It) : Prop :=
  ∀ j (h : j < xs.length), w.cell? ⟨bk, off + j * 6, none⟩ = some (.int .i64 xs[j].id) ∧ w.cell? ⟨bk, off + j * 6 + 1, none⟩ = some (.int .i64 xs[j].lv) ∧ w.cell? ⟨bk, off + j * 6 + 2, none⟩ = some (.int .u64 (xs[j].ct : Int)) ∧ w.cell? ⟨bk, off + j * 6 + 3, none⟩ = some (.bool xs[j].an) ∧ w.cell? ⟨bk, off + j * 6 + 4, none⟩ = some (.string ⟨xs[j].tx.toArray⟩) ∧ w.cell? ⟨bk, off + j * 6 + 5, none⟩ = some (.bool xs[j].ba)
/-- A slice's items, wherever it lies. -/
def ItemsIn (w : World) (A : Option Addr) (xs : List It) : Prop :=
  0 < xs.length → ∃ bk off, A = some ⟨bk, off, none⟩ ∧ bk < w.heap.size ∧ ItemsAt w bk off xs
theorem ItemsAt.below {w w' : World} {bk off B : Nat} {xs : List It} (h : ItemsAt w bk off xs) (hb : Below B w w') (hB : bk < B) : ItemsAt w' bk off xs := fun j hj => by
  obtain ⟨h0, h1, h2, h3, h4, h5⟩ := h j hj
  exact ⟨(hb.cell (p := ⟨bk, _, none⟩) hB).trans h0, (hb.cell (p := ⟨bk, _, none⟩) hB).trans h1, (hb.cell (p := ⟨bk, _, none⟩) hB).trans h2, (hb.cell (p := ⟨bk, _, none⟩) hB).trans h3, (hb.cell (p := ⟨bk, _, none⟩) hB).trans h4, (hb.cell (p := ⟨bk, _, none⟩) hB).trans h5⟩
theorem ItemsIn.below {w w' : World} {A : Option Addr} {xs : List It} (h : ItemsIn w A xs) (hb : Below w.heap.size w w') : ItemsIn w' A xs := fun hp => by
  obtain ⟨bk, off, e, hlt, hl⟩ := h hp
  exact ⟨bk, off, e, Nat.lt_of_lt_of_le hlt hb.size, hl.below hb hlt⟩
theorem itCells_at : ∀ (xs : List It) (j : Nat) (h : j < xs.length), (itCells xs)[j * 6]? = some (.int .i64 xs[j].id) ∧ (itCells xs)[j * 6 + 1]? = some (.int .i64 xs[j].lv) ∧ (itCells xs)[j * 6 + 2]? = some (.int .u64 (xs[j].ct : Int)) ∧ (itCells xs)[j * 6 + 3]? = some (.bool xs[j].an) ∧ (itCells xs)[j * 6 + 4]? = some (.string ⟨xs[j].tx.toArray⟩) ∧ (itCells xs)[j * 6 + 5]? = some (.bool xs[j].ba)
  | x :: r, 0, _ => by simp [itCells]
  | x :: r, j + 1, h => by
    have ih := itCells_at r j (by simpa using h)
    have e : itCells (x :: r) = .int .i64 x.id :: .int .i64 x.lv :: .int .u64 (x.ct : Int) :: .bool x.an :: .string ⟨x.tx.toArray⟩ :: .bool x.ba :: itCells r := by simp [itCells]
    rw [e, show (j + 1) * 6 = j * 6 + 1 + 1 + 1 + 1 + 1 + 1 by omega]
    simpa using ih
theorem items_cells {w wr : World} {bk off B k : Nat} {xs : List It} (h : ItemsAt w bk off xs) (hb : Below B w wr) (hB : bk < B) (hk : k < xs.length) :
    wr.cell? ⟨bk, off + k * 6, none⟩ = some (.int .i64 xs[k].id) ∧ wr.cell? ⟨bk, off + k * 6 + 1, none⟩ = some (.int .i64 xs[k].lv) ∧ wr.cell? ⟨bk, off + k * 6 + 2, none⟩ = some (.int .u64 (xs[k].ct : Int)) ∧ wr.cell? ⟨bk, off + k * 6 + 3, none⟩ = some (.bool xs[k].an) ∧ wr.cell? ⟨bk, off + k * 6 + 4, none⟩ = some (.string ⟨xs[k].tx.toArray⟩) ∧ wr.cell? ⟨bk, off + k * 6 + 5, none⟩ = some (.bool xs[k].ba) := h.below hb hB k hk
/-- What of items a call may rely on. -/
structure ItemsOk (l : List It) : Prop where
  len : l.length ≤ maxLen
  tx : ∀ x ∈ l, x.tx.length ≤ maxLen
  ct : ∀ x ∈ l, x.ct < 18446744073709551616
theorem own_at {w : World} {base : Nat} {e : TypeId} {size n cap : Nat} {A : Option Addr} {xs : List Value} (h : w.ownsRow base e size (.slice A n cap) n xs) (hn : 0 < n) :
    ∃ g, A = some ⟨g, 0, none⟩ ∧ base ≤ g ∧ g < w.heap.size ∧ ∀ j u, xs[j]? = some u → w.cell? ⟨g, j, none⟩ = some u := by
  obtain ⟨A', cap', hv, _, hA⟩ := own_form h
  obtain ⟨g, hg, r⟩ := hA hn
  exact ⟨g, by rw [← hg]; exact (Value.slice.inj hv).1, r⟩
theorem own_below {w w' : World} {base : Nat} {e : TypeId} {size n : Nat} {v : Value} {xs : List Value} (h : w.ownsRow base e size v n xs) (hb : Below w.heap.size w w') : w'.ownsRow base e size v n xs := by
  refine h.kept (row := none) ⟨hb.os, hb.tape, hb.output, hb.size, fun k hk _ => hb.block k hk⟩ ?_
  cases v.ownBlock with
  | none => exact .inl rfl
  | some k => exact .inr (by simp)
end Go.Proofs.YtbfohfmipfapdaaDoor.I

namespace Go.Proofs.YtbfohfmipfapdaaDoor.L

theorem sub_iff (c d : Nat) : c ||| d = d ↔ ∀ i, c.testBit i = true → d.testBit i = true := by
  constructor
  · intro h i hi
    rw [← h, Nat.testBit_or, hi]; rfl
  · intro h
    apply Nat.eq_of_testBit_eq
    intro i
    rw [Nat.testBit_or]
    cases hb : c.testBit i with
    | false => simp
    | true => rw [h i hb]; rfl
theorem below_iff (l m : Int) (c d : Nat) : belowB l c m d = true ↔ l ≤ m ∧ ∀ i, c.testBit i = true → d.testBit i = true := by
  unfold belowB
  rw [Bool.and_eq_true, decide_eq_true_iff, beq_iff_eq, sub_iff]
theorem below_meet (n l m : Int) (e c d : Nat) (h : belowB n e l c = true) : belowB n e m d = belowB n e (min l m) (c &&& d) := by
  rw [below_iff] at h
  rw [Bool.eq_iff_iff, below_iff, below_iff]
  constructor
  · rintro ⟨h1, h2⟩
    exact ⟨by omega, fun i hi => by rw [Nat.testBit_and, h.2 i hi, h2 i hi]; rfl⟩
  · rintro ⟨h1, h2⟩
    refine ⟨by omega, fun i hi => ?_⟩
    have := h2 i hi
    rw [Nat.testBit_and, Bool.and_eq_true] at this
    exact this.2
theorem below_join (l m n : Int) (c d e : Nat) : belowB (max l m) (c ||| d) n e = (belowB l c n e && belowB m d n e) := by
  rw [Bool.eq_iff_iff, Bool.and_eq_true, below_iff, below_iff, below_iff]
  constructor
  · rintro ⟨h1, h2⟩
    exact ⟨⟨by omega, fun i hi => h2 i (by rw [Nat.testBit_or, hi]; rfl)⟩, by omega, fun i hi => h2 i (by rw [Nat.testBit_or, hi, Bool.or_true])⟩
  · rintro ⟨⟨h1, h2⟩, h3, h4⟩
    refine ⟨by omega, fun i hi => ?_⟩
    rw [Nat.testBit_or, Bool.or_eq_true] at hi
    rcases hi with hi | hi
    · exact h2 i hi
    · exact h4 i hi
theorem and_of_or (c d : Nat) : c ||| d = d ↔ c &&& d = c := by
  rw [sub_iff]
  constructor
  · intro h
    apply Nat.eq_of_testBit_eq
    intro i
    rw [Nat.testBit_and]
    cases hb : c.testBit i with
    | false => rfl
    | true => rw [h i hb]; rfl
  · intro h i hi
    rw [← h, Nat.testBit_and, Bool.and_eq_true] at hi
    exact hi.2
theorem below_refl (l : Int) (c : Nat) : belowB l c l c = true := (below_iff _ _ _ _).2 ⟨Int.le_refl _, fun _ h => h⟩
theorem below_trans {l m n : Int} {c d e : Nat} (h : belowB l c m d = true) (h' : belowB m d n e = true) : belowB l c n e = true := by
  rw [below_iff] at h h' ⊢
  exact ⟨Int.le_trans h.1 h'.1, fun i hi => h'.2 i (h.2 i hi)⟩
theorem below_anti {l m : Int} {c d : Nat} (h : belowB l c m d = true) (h' : belowB m d l c = true) : l = m ∧ c = d := by
  rw [below_iff] at h h'
  refine ⟨Int.le_antisymm h.1 h'.1, Nat.eq_of_testBit_eq fun i => ?_⟩
  cases hb : c.testBit i with
  | true => rw [h.2 i hb]
  | false =>
    cases hd : d.testBit i with
    | true => rw [h'.2 i hd] at hb; cases hb
    | false => rfl
theorem below_j1 (l m : Int) (c d : Nat) : belowB l c (max l m) (c ||| d) = true := (below_iff _ _ _ _).2 ⟨by omega, fun i hi => by rw [Nat.testBit_or, hi]; rfl⟩
theorem below_j2 (l m : Int) (c d : Nat) : belowB m d (max l m) (c ||| d) = true := (below_iff _ _ _ _).2 ⟨by omega, fun i hi => by rw [Nat.testBit_or, hi, Bool.or_true]⟩
theorem below_m1 (l m : Int) (c d : Nat) : belowB (min l m) (c &&& d) l c = true := (below_iff _ _ _ _).2 ⟨by omega, fun i hi => by rw [Nat.testBit_and, Bool.and_eq_true] at hi; exact hi.1⟩
theorem below_m2 (l m : Int) (c d : Nat) : belowB (min l m) (c &&& d) m d = true := (below_iff _ _ _ _).2 ⟨by omega, fun i hi => by rw [Nat.testBit_and, Bool.and_eq_true] at hi; exact hi.2⟩
theorem below_bot {l : Int} (c : Nat) (h : 0 ≤ l) : belowB 0 0 l c = true := (below_iff _ _ _ _).2 ⟨h, fun i hi => by simp at hi⟩
theorem below_top {l : Int} {c : Nat} (h : l ≤ 15) (hc : c < 18446744073709551616) : belowB l c 15 18446744073709551615 = true := by
  refine (below_iff _ _ _ _).2 ⟨h, fun i hi => ?_⟩
  have hi64 : i < 64 := by
    rcases Nat.lt_or_ge i 64 with h | h
    · exact h
    · rw [Nat.testBit_lt_two_pow (Nat.lt_of_lt_of_le hc (Nat.pow_le_pow_right (n := 2) (by omega) h))] at hi
      cases hi
  rw [show 18446744073709551615 = 2 ^ 64 - 1 by rfl, Nat.testBit_two_pow_sub_one]
  simpa using hi64
end Go.Proofs.YtbfohfmipfapdaaDoor.L

namespace Go.Proofs.YtbfohfmipfapdaaDoor.V
set_option linter.unusedVariables false
set_option linter.unusedSimpArgs false
open I (It Lb)

/-- Does a label's reader see an item? -/
def sees (o : Lb) (x : It) : Bool := L.belowB x.lv x.ct o.1 o.2
def cut (o : Lb) (l : List It) : List It := l.filter (sees o)
/-- The places of the items that are seen, counted from a number on. -/
def ats (o : Lb) : Nat → List It → List Nat
  | _, [] => []
  | k, x :: r => if sees o x = true then k :: ats o (k + 1) r else ats o (k + 1) r
def txt (h : List UInt8) (x : It) : List UInt8 := if x.an = true then h else x.tx
/-- Lines of items: none is Bare but the last one. -/
def lns (h : List UInt8) : List It → List (List UInt8 × Bool)
  | [] => []
  | [x] => [(txt h x, x.ba)]
  | x :: y :: r => (txt h x, false) :: lns h (y :: r)
/-- The place of the last item that is seen. -/
def lst (o : Lb) : Nat → Int → List It → Int
  | _, z, [] => z
  | k, z, x :: r => lst o (k + 1) (if sees o x = true then (k : Int) else z) r
/-- The lines as the reference makes them, the last one's place being known. -/
def rln (o : Lb) (h : List UInt8) (last : Int) : Nat → List It → List (List UInt8 × Bool)
  | _, [] => []
  | k, x :: r => if sees o x = true then (txt h x, decide ((k : Int) = last) && x.ba) :: rln o h last (k + 1) r else rln o h last (k + 1) r
theorem cut_snoc (o : Lb) (l : List It) (x : It) : cut o (l ++ [x]) = cut o l ++ (if sees o x = true then [x] else []) := by
  unfold cut
  rw [List.filter_append]
  congr 1
  by_cases h : sees o x = true <;> simp [h]
theorem ats_snoc (o : Lb) (x : It) : ∀ (l : List It) (k : Nat), ats o k (l ++ [x]) = ats o k l ++ (if sees o x = true then [k + l.length] else [])
  | [], k => by simp [ats]
  | y :: r, k => by
    rw [List.cons_append, ats, ats, ats_snoc o x r (k + 1), List.length_cons, show k + 1 + r.length = k + (r.length + 1) by omega]
    split <;> rfl
theorem lst_snoc (o : Lb) (x : It) : ∀ (l : List It) (k : Nat) (z : Int), lst o k z (l ++ [x]) = if sees o x = true then ((k + l.length : Nat) : Int) else lst o k z l
  | [], k, z => by simp [lst]
  | y :: r, k, z => by
    rw [List.cons_append, lst, lst, lst_snoc o x r (k + 1), List.length_cons, show k + 1 + r.length = k + (r.length + 1) by omega]
theorem rln_snoc (o : Lb) (h : List UInt8) (last : Int) (x : It) : ∀ (l : List It) (k : Nat), rln o h last k (l ++ [x]) = rln o h last k l ++ (if sees o x = true then [(txt h x, decide (((k + l.length : Nat) : Int) = last) && x.ba)] else [])
  | [], k => by simp [rln]
  | y :: r, k => by
    rw [List.cons_append, rln, rln, rln_snoc o h last x r (k + 1), List.length_cons, show k + 1 + r.length = k + (r.length + 1) by omega]
    split <;> rfl
theorem lst_none (o : Lb) : ∀ (l : List It) (k : Nat) (z : Int), cut o l = [] → lst o k z l = z
  | [], _, _, _ => rfl
  | x :: r, k, z, h => by
    by_cases hx : sees o x = true
    · simp [cut, hx] at h
    · rw [lst, if_neg hx]
      exact lst_none o r (k + 1) z (by simpa [cut, hx] using h)
theorem lst_some (o : Lb) : ∀ (l : List It) (k : Nat) (z : Int), cut o l ≠ [] → (k : Int) ≤ lst o k z l
  | [], _, _, h => absurd rfl h
  | x :: r, k, z, h => by
    rw [lst]
    by_cases hr : cut o r = []
    · rw [lst_none o r _ _ hr]
      by_cases hx : sees o x = true
      · rw [if_pos hx]; exact Int.le_refl _
      · exact absurd (by simpa [cut, hx] using hr) h
    · have := lst_some o r (k + 1) (if sees o x = true then (k : Int) else z) hr
      omega
theorem rln_is (o : Lb) (h : List UInt8) : ∀ (l : List It) (k : Nat) (z : Int), z < (k : Int) → rln o h (lst o k z l) k l = lns h (cut o l)
  | [], _, _, _ => rfl
  | x :: r, k, z, hz => by
    rw [rln, lst]
    by_cases hx : sees o x = true
    · rw [if_pos hx, if_pos hx, rln_is o h r (k + 1) k (by omega)]
      have hc : cut o (x :: r) = x :: cut o r := by simp [cut, hx]
      rw [hc]
      by_cases hr : cut o r = []
      · rw [lst_none o r _ _ hr, hr, decide_eq_true rfl, Bool.true_and]; rfl
      · have := lst_some o r (k + 1) (k : Int) hr
        rw [decide_eq_false (by omega), Bool.false_and]
        cases hq : cut o r with
        | nil => exact absurd hq hr
        | cons y q => rfl
    · rw [if_neg hx, if_neg hx, rln_is o h r (k + 1) z (by omega)]
      have hc : cut o (x :: r) = cut o r := by simp [cut, hx]
      rw [hc]
theorem ats_length (o : Lb) : ∀ (l : List It) (k : Nat), (ats o k l).length = (cut o l).length
  | [], _ => rfl
  | x :: r, k => by
    rw [ats]
    by_cases hx : sees o x = true
    · rw [if_pos hx, List.length_cons, ats_length o r (k + 1)]; simp [cut, hx]
    · rw [if_neg hx, ats_length o r (k + 1)]; simp [cut, hx]
theorem lns_length (h : List UInt8) : ∀ l : List It, (lns h l).length = l.length
  | [] => rfl
  | [_] => rfl
  | _ :: y :: r => by rw [lns, List.length_cons, lns_length h (y :: r)]; rfl
theorem lns_text (h : List UInt8) : ∀ l : List It, (lns h l).map (·.1) = l.map (txt h)
  | [] => rfl
  | [_] => rfl
  | _ :: y :: r => by rw [lns, List.map_cons, lns_text h (y :: r)]; rfl
theorem lns_bare (h : List UInt8) : ∀ (l : List It) (j : Nat) (hj : j < (lns h l).length) (hj' : j < l.length), (lns h l)[j].2 = (decide (j + 1 = l.length) && l[j].ba)
  | [x], 0, _, _ => by simp [lns]
  | x :: y :: r, 0, _, _ => by simp [lns]
  | x :: y :: r, j + 1, hj, hj' => by
    have := lns_bare h (y :: r) j (by simpa [lns] using hj) (by simpa using hj')
    simp only [lns, List.getElem_cons_succ, List.length_cons] at this ⊢
    rw [this]
    congr 1
    simp
/-- The lines while items are gone through, none being Bare yet. -/
def bln (h : List UInt8) (l : List It) : List (List UInt8 × Bool) := l.map fun x => (txt h x, false)
theorem lns_snoc (h : List UInt8) (x : It) : ∀ l : List It, lns h (l ++ [x]) = bln h l ++ [(txt h x, x.ba)]
  | [] => rfl
  | [_] => rfl
  | y :: z :: r => by
    have := lns_snoc h x (z :: r)
    simp only [List.cons_append] at this ⊢
    rw [lns, this]
    rfl
theorem cut_cut (o : Lb) (l : List It) : cut o (cut o l) = cut o l := by simp [cut, List.filter_filter]
theorem sees_join (o m : Lb) (x : It) (h : sees o x = true) : sees (max o.1 m.1, o.2 ||| m.2) x = true := L.below_trans h (L.below_j1 _ _ _ _)
/-- What a place tells. -/
theorem ats_get (o : Lb) : ∀ (l : List It) (k j : Nat) (hj : j < (ats o k l).length), ∃ hi : (ats o k l)[j] - k < l.length, k ≤ (ats o k l)[j] ∧ sees o l[(ats o k l)[j] - k] = true ∧ (cut o l)[j]? = some l[(ats o k l)[j] - k]
  | [], _, _, hj => by simp [ats] at hj
  | x :: r, k, j, hj => by
    by_cases hx : sees o x = true
    · have e : ats o k (x :: r) = k :: ats o (k + 1) r := by rw [ats, if_pos hx]
      have hc : cut o (x :: r) = x :: cut o r := by simp [cut, hx]
      cases j with
      | zero => simp only [e, hc, List.getElem_cons_zero, Nat.sub_self]; exact ⟨by simp, Nat.le_refl _, hx, rfl⟩
      | succ j =>
        simp only [e, hc, List.getElem_cons_succ]
        obtain ⟨hi, h1, h2, h3⟩ := ats_get o r (k + 1) j (by rw [e] at hj; simpa using hj)
        have e2 : (ats o (k + 1) r)[j]'(by rw [e] at hj; simpa using hj) - k = ((ats o (k + 1) r)[j]'(by rw [e] at hj; simpa using hj) - (k + 1)) + 1 := by omega
        refine ⟨by rw [e2]; simpa using hi, by omega, ?_, ?_⟩
        · simp only [e2, List.getElem_cons_succ]; exact h2
        · simp only [e2, List.getElem_cons_succ, List.getElem?_cons_succ]; exact h3
    · have e : ats o k (x :: r) = ats o (k + 1) r := by rw [ats, if_neg hx]
      have hc : cut o (x :: r) = cut o r := by simp [cut, hx]
      simp only [e, hc]
      obtain ⟨hi, h1, h2, h3⟩ := ats_get o r (k + 1) j (by rw [e] at hj; exact hj)
      have e2 : (ats o (k + 1) r)[j]'(by rw [e] at hj; exact hj) - k = ((ats o (k + 1) r)[j]'(by rw [e] at hj; exact hj) - (k + 1)) + 1 := by omega
      refine ⟨by rw [e2]; simpa using hi, by omega, ?_, ?_⟩
      · simp only [e2, List.getElem_cons_succ]; exact h2
      · simp only [e2, List.getElem_cons_succ]; exact h3
theorem ats_ge (o : Lb) : ∀ (l : List It) (k : Nat), ∀ a ∈ ats o k l, k ≤ a
  | [], _, _, h => by simp [ats] at h
  | x :: r, k, a, h => by
    rw [ats] at h
    split at h
    · rcases List.mem_cons.1 h with rfl | h
      · exact Nat.le_refl _
      · have := ats_ge o r (k + 1) a h; omega
    · have := ats_ge o r (k + 1) a h; omega
/-- The places rise. -/
theorem ats_rise (o : Lb) : ∀ (l : List It) (k : Nat), (ats o k l).Pairwise (· < ·)
  | [], _ => .nil
  | x :: r, k => by
    rw [ats]
    split
    · exact List.pairwise_cons.2 ⟨fun a h => by have := ats_ge o r (k + 1) a h; omega, ats_rise o r (k + 1)⟩
    · exact ats_rise o r (k + 1)
theorem ats_lt (o : Lb) {l : List It} {k i j : Nat} (hj : j < (ats o k l).length) (hij : i < j) : (ats o k l)[i]'(by omega) < (ats o k l)[j] :=
  List.pairwise_iff_getElem.1 (ats_rise o l k) i j (by omega) hj hij
/-- Who reads more sees each place, too. -/
theorem ats_more (o m : Lb) : ∀ (l : List It) (k : Nat), ∀ a ∈ ats o k l, a ∈ ats (max o.1 m.1, o.2 ||| m.2) k l
  | [], _, _, h => h
  | x :: r, k, a, h => by
    rw [ats] at h ⊢
    by_cases hx : sees o x = true
    · rw [if_pos hx] at h
      rw [if_pos (sees_join o m x hx)]
      rcases List.mem_cons.1 h with rfl | h
      · exact List.mem_cons_self
      · exact List.mem_cons_of_mem _ (ats_more o m r (k + 1) a h)
    · rw [if_neg hx] at h
      have := ats_more o m r (k + 1) a h
      split
      · exact List.mem_cons_of_mem _ this
      · exact this
/-- What lies ahead of where an item is put in, to stand ahead of line k, is seen as k lines. -/
theorem cut_ahead (o : Lb) : ∀ (l : List It) (s k : Nat) (hk : k < (ats o s l).length), cut o (l.take ((ats o s l)[k] - s + 1)) = (cut o l).take (k + 1)
  | [], _, _, hk => by simp [ats] at hk
  | x :: r, s, k, hk => by
    by_cases hx : sees o x = true
    · have e : ats o s (x :: r) = s :: ats o (s + 1) r := by rw [ats, if_pos hx]
      have hc : ∀ q, cut o (x :: q) = x :: cut o q := fun q => by simp [cut, hx]
      cases k with
      | zero => simp only [e, List.getElem_cons_zero, Nat.sub_self, Nat.zero_add, List.take_succ_cons, List.take_zero, hc]; rfl
      | succ k =>
        have hk' : k < (ats o (s + 1) r).length := by rw [e] at hk; simpa using hk
        have hg := (ats_get o r (s + 1) k hk').2.1
        have ih := cut_ahead o r (s + 1) k hk'
        simp only [e, List.getElem_cons_succ]
        rw [show (ats o (s + 1) r)[k] - s + 1 = ((ats o (s + 1) r)[k] - (s + 1) + 1) + 1 by omega, List.take_succ_cons, hc, hc, ih, List.take_succ_cons]
    · have e : ats o s (x :: r) = ats o (s + 1) r := by rw [ats, if_neg hx]
      have hc : ∀ q, cut o (x :: q) = cut o q := fun q => by simp [cut, hx]
      have hk' : k < (ats o (s + 1) r).length := by rw [e] at hk; exact hk
      have hg := (ats_get o r (s + 1) k hk').2.1
      have ih := cut_ahead o r (s + 1) k hk'
      simp only [e]
      rw [show (ats o (s + 1) r)[k] - s + 1 = ((ats o (s + 1) r)[k] - (s + 1) + 1) + 1 by omega, List.take_succ_cons, hc, hc, ih]
end Go.Proofs.YtbfohfmipfapdaaDoor.V

namespace Go.Proofs.YtbfohfmipfapdaaDoor.T
open Go.RowKit

/-- A row of bytes in memory: the cells from an address on hold the bytes of a list. -/
def BytesAt (w : World) (bk off : Nat) (l : List UInt8) : Prop := ∀ j (h : j < l.length), w.cell? ⟨bk, off + j, none⟩ = some (.int .u8 (l[j].toNat : Int))
theorem BytesAt.below {w w' : World} {bk off B : Nat} {l : List UInt8} (h : BytesAt w bk off l) (hb : Below B w w') (hB : bk < B) : BytesAt w' bk off l :=
  fun j hj => (hb.cell (p := ⟨bk, off + j, none⟩) hB).trans (h j hj)
theorem BytesAt.sub {w : World} {bk off i n : Nat} {l : List UInt8} (h : BytesAt w bk off l) : BytesAt w bk (off + i) ((l.drop i).take n) := by
  intro j hj
  have hj' : j < n ∧ j < l.length - i := by simp at hj; omega
  have := h (i + j) (by omega)
  rw [Nat.add_assoc]
  simpa using this

theorem strOfNums_bytes (m : List UInt8) : strOfNums (m.map fun c => (c.toNat : Int)) = ⟨m.toArray⟩ := by
  unfold strOfNums
  congr 1
  congr 1
  rw [List.map_map]
  conv => rhs; rw [← List.map_id m]
  exact List.map_congr_left fun c _ => by simp
theorem conv_bytes (w : World) (bk off len cap : Nat) (m : List UInt8) (hlen : m.length = len) (h : BytesAt w bk off m) :
    (convert 35 9 (.slice (some ⟨bk, off, none⟩) len cap)).run Tryd.prog w = .ok (.string ⟨m.toArray⟩) w := by
  have hc := run_convert_bytes_arg (P := Tryd.prog) w 35 5 Tryd.underlying35 Tryd.underlying5 bk off len cap (m.map fun c => (c.toNat : Int)) (by simpa using hlen)
    (fun i hi => by
      have hi' : i < m.length := by omega
      rw [h i hi']
      simp [List.getElem?_eq_getElem hi']) 9 Tryd.underlying9
  rw [hc, strOfNums_bytes]

end Go.Proofs.YtbfohfmipfapdaaDoor.T

namespace Go.Proofs.YtbfohfmipfapdaaDoor.T
open Go.RowKit

/-- The cells of lines: each a text and whether it is bare. -/
def lineCells (xs : List (List UInt8 × Bool)) : List Value := xs.flatMap fun x => [.string ⟨x.1.toArray⟩, .bool x.2]
theorem lineCells_snoc (xs : List (List UInt8 × Bool)) (t : List UInt8) (b : Bool) : lineCells (xs ++ [(t, b)]) = lineCells xs ++ [.string ⟨t.toArray⟩, .bool b] := by simp [lineCells]
theorem lineCells_length (xs : List (List UInt8 × Bool)) : (lineCells xs).length = xs.length * 2 := by
  induction xs with
  | nil => rfl
  | cons x r ih => simp [lineCells] at ih ⊢; omega
theorem lines_at {l : List UInt8} {i j : Nat} (hj : j < l.length) (h : l[j].toNat = 10) :
    P.lines ((l.drop i).take (j - i)) (l.drop j) = ((l.drop i).take (j - i), false) :: P.lines [] (l.drop (j + 1)) := by
  rw [List.drop_eq_getElem_cons hj, P.lines, if_pos (UInt8.toNat_inj.1 h)]
theorem lines_on {l : List UInt8} {i j : Nat} (hij : i ≤ j) (hj : j < l.length) (h : ¬ l[j].toNat = 10) :
    P.lines ((l.drop i).take (j - i)) (l.drop j) = P.lines ((l.drop i).take (j + 1 - i)) (l.drop (j + 1)) := by
  rw [List.drop_eq_getElem_cons hj, P.lines, if_neg (fun e => h (by rw [e]; rfl))]
  congr 1
  rw [show j + 1 - i = (j - i) + 1 by omega, List.take_succ_eq_append_getElem (by simp; omega)]
  simp [show i + (j - i) = j by omega]
theorem lines_end {l : List UInt8} {i : Nat} (hi : i < l.length) : P.lines ((l.drop i).take (l.length - i)) (l.drop l.length) = [((l.drop i).take (l.length - i), true)] := by
  rw [List.drop_length, P.lines, if_neg]
  intro e
  have := congrArg List.length e
  simp at this; omega

/-- The cells of texts. -/
def strCells (xs : List (List UInt8)) : List Value := xs.map fun x => .string ⟨x.toArray⟩
theorem strCells_snoc (xs : List (List UInt8)) (t : List UInt8) : strCells (xs ++ [t]) = strCells xs ++ [.string ⟨t.toArray⟩] := by simp [strCells]

theorem words_at {l : List UInt8} {i j : Nat} (hj : j < l.length) (h : l[j].toNat = 32) :
    P.words ((l.drop i).take (j - i)) (l.drop j) = (l.drop i).take (j - i) :: P.words [] (l.drop (j + 1)) := by
  rw [List.drop_eq_getElem_cons hj, P.words, if_pos (UInt8.toNat_inj.1 h)]
theorem words_on {l : List UInt8} {i j : Nat} (hij : i ≤ j) (hj : j < l.length) (h : ¬ l[j].toNat = 32) :
    P.words ((l.drop i).take (j - i)) (l.drop j) = P.words ((l.drop i).take (j + 1 - i)) (l.drop (j + 1)) := by
  rw [List.drop_eq_getElem_cons hj, P.words, if_neg (fun e => h (by rw [e]; rfl))]
  congr 1
  rw [show j + 1 - i = (j - i) + 1 by omega, List.take_succ_eq_append_getElem (by simp; omega)]
  simp [show i + (j - i) = j by omega]
theorem words_end {l : List UInt8} {i : Nat} : P.words ((l.drop i).take (l.length - i)) (l.drop l.length) = [(l.drop i).take (l.length - i)] := by
  rw [List.drop_length, P.words]

/-- A text as bytes: a new row that holds them. -/
theorem conv_str (s : ByteArray) (w : World) : ∃ (cap : Nat) (w1 : World), (convert 9 35 (.string s)).run Tryd.prog w = .ok (.slice (some ⟨w.heap.size, 0, none⟩) s.size cap) w1 ∧ Below w.heap.size w w1 ∧ w.heap.size < w1.heap.size ∧ s.size ≤ cap ∧ BytesAt w1 w.heap.size 0 s.data.toList := by
  refine ⟨_, _, Lib.run_convert_string_bytes w 9 35 5 s Tryd.underlying9 Tryd.underlying35 Tryd.underlying5, ⟨rfl, rfl, rfl, ?_, fun k hk => Lib.bytesWorld_at_old w _ s k hk⟩, ?_, grownCap_ge _ _ _ _, ?_⟩
  · rw [Lib.bytesWorld_size]; omega
  · rw [Lib.bytesWorld_size]; omega
  · intro j hj
    have hj' : j < s.size := by rw [Lib.size_eq]; exact hj
    rw [Nat.zero_add, Lib.bytesWorld_cell w _ s j hj']
    simp [List.getElem?_eq_getElem hj]

end Go.Proofs.YtbfohfmipfapdaaDoor.T

namespace Go.Proofs.YtbfohfmipfapdaaDoor.P

/-- The bytes of lines. -/
def join : List (List UInt8 × Bool) → List UInt8
  | [] => []
  | (t, b) :: r => t ++ (if !b || !r.isEmpty then [10] else []) ++ join r
/-- May lines be those of bytes? -/
def right : List (List UInt8 × Bool) → Bool
  | [] => true
  | (t, b) :: r => !(t.contains 10) && !(b && (!r.isEmpty || t.isEmpty)) && right r

theorem join_lines : ∀ (l cur : List UInt8), join (lines cur l) = cur ++ l
  | [], cur => by
    rw [lines]
    split
    · next h => simp [h, join]
    · simp [join]
  | c :: r, cur => by
    rw [lines]
    split
    · next h => rw [join, join_lines r [], h]; simp
    · rw [join_lines r (cur ++ [c])]; simp
theorem right_lines : ∀ (l cur : List UInt8), (10 : UInt8) ∉ cur → right (lines cur l) = true
  | [], cur, h => by
    rw [lines]
    split
    · rfl
    · next hc => simp [right, h, hc]
  | c :: r, cur, h => by
    rw [lines]
    split
    · rw [right, right_lines r [] (by simp)]; simp [h]
    · next hc => exact right_lines r (cur ++ [c]) (by simp [h]; exact fun e => hc e.symm)
theorem lines_text (r : List UInt8) : ∀ (t cur : List UInt8), (10 : UInt8) ∉ t → lines cur (t ++ 10 :: r) = (cur ++ t, false) :: lines [] r
  | [], cur, _ => by simp [lines]
  | c :: t, cur, h => by
    have hc : ¬ c = 10 := fun e => h (by simp [e])
    rw [List.cons_append, lines, if_neg hc, lines_text r t _ (fun e => h (by simp [e]))]; simp
theorem lines_open : ∀ (t cur : List UInt8), (10 : UInt8) ∉ t → lines cur t = if cur ++ t = [] then [] else [(cur ++ t, true)]
  | [], cur, _ => by simp [lines]
  | c :: t, cur, h => by
    have hc : ¬ c = 10 := fun e => h (by simp [e])
    rw [lines, if_neg hc, lines_open t _ (fun e => h (by simp [e]))]; simp
theorem lines_join : ∀ (xs : List (List UInt8 × Bool)), right xs = true → lines [] (join xs) = xs
  | [], _ => rfl
  | (t, b) :: r, h => by
    rw [right, Bool.and_eq_true, Bool.and_eq_true] at h
    obtain ⟨⟨h1, h2⟩, h3⟩ := h
    have ht : (10 : UInt8) ∉ t := by simpa using h1
    have ih := lines_join r h3
    cases b with
    | false =>
      rw [join, show t ++ (if !false || !r.isEmpty then [10] else []) ++ join r = t ++ 10 :: join r by simp, lines_text _ _ _ ht, ih]; rfl
    | true =>
      simp at h2
      obtain ⟨h2, h4⟩ := h2
      subst h2
      rw [join, show t ++ (if !true || !([] : List (List UInt8 × Bool)).isEmpty then [10] else []) ++ join [] = t by simp [join], lines_open _ _ ht, if_neg (by simpa using h4)]; rfl
/-- How many bytes lines make at the most. -/
def bulk : List (List UInt8 × Bool) → Nat
  | [] => 0
  | (t, _) :: r => t.length + 1 + bulk r
theorem join_length : ∀ xs : List (List UInt8 × Bool), (join xs).length ≤ bulk xs
  | [] => Nat.le_refl _
  | (t, b) :: r => by
    have := join_length r
    rw [join, bulk]
    simp only [List.length_append]
    split <;> simp <;> omega
theorem length_bulk : ∀ xs : List (List UInt8 × Bool), xs.length ≤ bulk xs
  | [] => Nat.le_refl _
  | (t, b) :: r => by have := length_bulk r; rw [bulk, List.length_cons]; omega
theorem lines_bulk : ∀ (l cur : List UInt8), bulk (lines cur l) ≤ cur.length + l.length + 1
  | [], cur => by
    rw [lines]
    split
    · simp [bulk]
    · simp [bulk]
  | c :: r, cur => by
    rw [lines]
    split
    · rw [bulk]
      match r with
      | [] => simp [lines, bulk]
      | d :: r' => have := lines_bulk (d :: r') []; simp at this ⊢; omega
    · have := lines_bulk r (cur ++ [c]); simp at this ⊢; omega
end Go.Proofs.YtbfohfmipfapdaaDoor.P

namespace Go.Proofs.YtbfohfmipfapdaaDoor.T
open Go.RowKit

/-- Lines in memory: two cells each, from an address on. -/
def LinesAt (w : World) (bk off : Nat) (xs : List (List UInt8 × Bool)) : Prop :=
  ∀ j (h : j < xs.length), w.cell? ⟨bk, off + j * 2, none⟩ = some (.string ⟨xs[j].1.toArray⟩) ∧ w.cell? ⟨bk, off + j * 2 + 1, none⟩ = some (.bool xs[j].2)
/-- A slice's lines, wherever it lies. -/
def LinesIn (w : World) (A : Option Addr) (xs : List (List UInt8 × Bool)) : Prop :=
  0 < xs.length → ∃ bk off, A = some ⟨bk, off, none⟩ ∧ bk < w.heap.size ∧ LinesAt w bk off xs
theorem LinesAt.below {w w' : World} {bk off B : Nat} {xs : List (List UInt8 × Bool)} (h : LinesAt w bk off xs) (hb : Below B w w') (hB : bk < B) : LinesAt w' bk off xs :=
  fun j hj => ⟨(hb.cell (p := ⟨bk, off + j * 2, none⟩) hB).trans (h j hj).1, (hb.cell (p := ⟨bk, off + j * 2 + 1, none⟩) hB).trans (h j hj).2⟩
theorem LinesIn.below {w w' : World} {A : Option Addr} {xs : List (List UInt8 × Bool)} (h : LinesIn w A xs) (hb : Below w.heap.size w w') : LinesIn w' A xs := fun hp => by
  obtain ⟨bk, off, e, hlt, hl⟩ := h hp
  exact ⟨bk, off, e, Nat.lt_of_lt_of_le hlt hb.size, hl.below hb hlt⟩
theorem lineCells_at : ∀ (xs : List (List UInt8 × Bool)) (j : Nat) (h : j < xs.length), (lineCells xs)[j * 2]? = some (.string ⟨xs[j].1.toArray⟩) ∧ (lineCells xs)[j * 2 + 1]? = some (.bool xs[j].2)
  | x :: r, 0, _ => by simp [lineCells]
  | x :: r, j + 1, h => by
    have ih := lineCells_at r j (by simpa using h)
    have e : lineCells (x :: r) = .string ⟨x.1.toArray⟩ :: .bool x.2 :: lineCells r := by simp [lineCells]
    rw [e, show (j + 1) * 2 = j * 2 + 1 + 1 by omega]
    simpa using ih
theorem drop_line {xs : List (List UInt8 × Bool)} {k : Nat} (hk : k < xs.length) : xs.drop k = (xs[k].1, xs[k].2) :: xs.drop (k + 1) := List.drop_eq_getElem_cons hk
theorem text_len {xs : List (List UInt8 × Bool)} {k : Nat} (hk : k < xs.length) : xs[k].1.length + 1 ≤ P.bulk xs := by
  induction xs generalizing k with
  | nil => simp at hk
  | cons x r ih =>
    obtain ⟨t, b⟩ := x
    cases k with
    | zero => simp [P.bulk]
    | succ k => have := ih (k := k) (by simpa using hk); rw [P.bulk]; simp; omega
end Go.Proofs.YtbfohfmipfapdaaDoor.T

namespace Go.Proofs.YtbfohfmipfapdaaDoor.T
open Go.RowKit

def byteCells (l : List UInt8) : List Value := l.map fun c => .int .u8 (c.toNat : Int)
theorem byteCells_append (l r : List UInt8) : byteCells (l ++ r) = byteCells l ++ byteCells r := by simp [byteCells]
theorem byteCells_str (t : List UInt8) : Lib.strCells ⟨t.toArray⟩ = byteCells t := by simp [Lib.strCells, byteCells]
theorem infoByte : (Tryd.prog.info? 5).map (fun i => (i.zero, i.size, i.bytes)) = some (some (.int .u8 0), 1, 1) := by kernel_rfl
theorem own_lt {w : World} {base : Nat} {e : TypeId} {size n : Nat} {v : Value} {xs : List Value} (h : w.ownsRow base e size v n xs) : ∀ k, v.ownBlock = some k → k < w.heap.size := by
  intro k hk
  rcases h.2 with ⟨rfl, _⟩ | ⟨g, cap, cur, rfl, hg, hh, _⟩
  · simp [Value.ownBlock] at hk
  · simp [Value.ownBlock] at hk
    subst hk
    rcases Nat.lt_or_ge g w.heap.size with hlt | hge
    · exact hlt
    · rw [Array.getElem?_eq_none hge] at hh; cases hh
theorem box_kept {wr w1 : World} {base : Nat} {e : TypeId} {size n : Nat} {v : Value} {xs : List Value} {a b : Value} {T : TypeId} (h : wr.ownsRow base e size v n xs) (hg : (wr.alloc (.cells #[a, b] T)).grownBy w1 v.ownBlock) :
    w1.cell? ⟨wr.heap.size, 0, none⟩ = some a ∧ w1.cell? ⟨wr.heap.size, 1, none⟩ = some b := by
  have hne : some wr.heap.size ≠ v.ownBlock := fun he => by have := own_lt h _ he.symm; omega
  have hb := heap_alloc_new wr (.cells #[a, b] T)
  exact ⟨hg.cell (a := ⟨wr.heap.size, 0, none⟩) (cell_of_row _ _ 0 _ _ _ hb) hne, hg.cell (a := ⟨wr.heap.size, 1, none⟩) (cell_of_row _ _ 1 _ _ _ hb) hne⟩
theorem join_step {xs : List (List UInt8 × Bool)} {k : Nat} (hk : k < xs.length) : P.join (xs.drop k) = xs[k].1 ++ (if !xs[k].2 || decide (k + 1 < xs.length) then [10] else []) ++ P.join (xs.drop (k + 1)) := by
  rw [drop_line hk, P.join]
  congr 3
  cases h : (xs.drop (k + 1)).isEmpty with
  | true =>
    have := List.isEmpty_iff.1 h
    have := congrArg List.length this
    simp at this
    rw [decide_eq_false (by omega)]; rfl
  | false =>
    rw [decide_eq_true]; rfl
    have : ¬ xs.drop (k + 1) = [] := fun e => by rw [e] at h; cases h
    rcases Nat.lt_or_ge (k + 1) xs.length with h' | h'
    · exact h'
    · exact absurd (List.drop_eq_nil_of_le h') this

end Go.Proofs.YtbfohfmipfapdaaDoor.T

namespace Go.Proofs.YtbfohfmipfapdaaDoor.T
open Go.RowKit

/-- A slice's bytes, wherever it lies. -/
def BytesIn (w : World) (A : Option Addr) (l : List UInt8) : Prop :=
  0 < l.length → ∃ bk off, A = some ⟨bk, off, none⟩ ∧ bk < w.heap.size ∧ BytesAt w bk off l
theorem BytesIn.below {w w' : World} {A : Option Addr} {l : List UInt8} (h : BytesIn w A l) (hb : Below w.heap.size w w') : BytesIn w' A l := fun hp => by
  obtain ⟨bk, off, e, hlt, hl⟩ := h hp
  exact ⟨bk, off, e, Nat.lt_of_lt_of_le hlt hb.size, hl.below hb hlt⟩
theorem bytes_of_own {w : World} {base : Nat} {v : Value} {l : List UInt8} (h : w.ownsRow base 5 1 v l.length (byteCells l)) :
    ∃ A cap, v = .slice A l.length cap ∧ l.length ≤ cap ∧ BytesIn w A l := by
  obtain ⟨A, cap, hv, hc, hA⟩ := own_form h
  refine ⟨A, cap, hv, hc, fun hp => ?_⟩
  obtain ⟨g, rfl, _, hlt, hcells⟩ := hA hp
  exact ⟨g, 0, rfl, hlt, fun j hj => by rw [Nat.zero_add]; exact hcells _ _ (by simp [byteCells, List.getElem?_eq_getElem hj])⟩
theorem conv_none (w : World) (A : Option Addr) (cap : Nat) :
    (convert 35 9 (.slice A 0 cap)).run Tryd.prog w = .ok (.string ⟨#[]⟩) w := by
  rw [run_convert_bytes_string w 35 9 5 _ 0 cap Tryd.underlying35 Tryd.underlying5 Tryd.underlying9]
  cases A <;> simp [Conv.bytesToString, loadCells]
  all_goals rfl
theorem conv_in {w : World} {A : Option Addr} {l : List UInt8} (cap : Nat) (h : BytesIn w A l) :
    (convert 35 9 (.slice A l.length cap)).run Tryd.prog w = .ok (.string ⟨l.toArray⟩) w := by
  by_cases hp : 0 < l.length
  · obtain ⟨bk, off, rfl, _, hb⟩ := h hp
    exact conv_bytes w bk off l.length cap l rfl hb
  · obtain rfl : l = [] := List.length_eq_zero_iff.1 (by omega)
    exact conv_none w A cap
section
variable {P : Program} {md : Region.Mode} {ops : Array Oper} {Q : Exit → Act → World → Prop} {S S' : World → Prop}
/-- On its way a region's walk may be asked for more behind each operation. -/
theorem wpAnyH_more (h : ∀ w, S' w → S w) : ∀ (fuel : Nat) (listed : Array Bool) (a : Act) (w : World), wpAnyH P md ops Q S' fuel listed a w → wpAnyH P md ops Q S fuel listed a w
  | 0, _, _, _, H => H
  | fuel + 1, _, _, _, H => ⟨H.1, fun i hi => wpOp_mono (fun a' w' h' => ⟨h _ h'.1, wpAnyH_more h fuel _ a' w' h'.2⟩) (H.2 i hi)⟩
end
/-- All that is there stays as it is. -/
def Keeps (w : World) : World → Prop := fun w' => Below w.heap.size w w'
theorem Keeps.b {a b : World} (h : Keeps a b) : Below a.heap.size a b := h
theorem keeps_drew (w : World) : Keeps w w.drew := (Below.refl _ _).drew
theorem Keeps.trans {a b c : World} (h : Keeps a b) (h' : Keeps b c) : Keeps a c := Below.trans h (Below.mono h' (Below.size h))
end Go.Proofs.YtbfohfmipfapdaaDoor.T

namespace Go.Proofs.YtbfohfmipfapdaaDoor.V
set_option linter.unusedVariables false
set_option linter.unusedSimpArgs false
open Go.RowKit
open T
open I (It Lb ItemsIn ItemsAt ItemsOk itCells itCells_snoc itCells_at items_cells own_at own_below alloc1)

/-- A slice's numbers, wherever it lies. -/
def IntsIn (w : World) (A : Option Addr) (xs : List Int) : Prop :=
  0 < xs.length → ∃ bk off, A = some ⟨bk, off, none⟩ ∧ bk < w.heap.size ∧ L.IntsAt w bk off xs
theorem IntsIn.below {w w' : World} {A : Option Addr} {xs : List Int} (h : IntsIn w A xs) (hb : Below w.heap.size w w') : IntsIn w' A xs := fun hp => by
  obtain ⟨bk, off, e, hlt, hl⟩ := h hp
  exact ⟨bk, off, e, Nat.lt_of_lt_of_le hlt hb.size, hl.below hb hlt⟩
/-- The cells of numbers. -/
def numCells (xs : List Int) : List Value := xs.map fun n => .int .i64 n
theorem numCells_snoc (xs : List Int) (n : Int) : numCells (xs ++ [n]) = numCells xs ++ [.int .i64 n] := by simp [numCells]
theorem ints_own {w : World} {base : Nat} {A : Option Addr} {cap : Nat} {xs : List Int} (h : w.ownsRow base 3 1 (.slice A xs.length cap) xs.length (numCells xs)) : IntsIn w A xs := by
  intro hp
  obtain ⟨g, hA, _, hlt, hc⟩ := own_at h hp
  refine ⟨g, 0, hA, hlt, fun j hj => ?_⟩
  rw [Nat.zero_add]
  exact hc j _ (by simp [numCells, List.getElem?_eq_getElem hj])
theorem drawn_below (w : World) (q : Nat) : Below w.heap.size w (w.drewN q) := below_drewN (Below.refl _ _) q
theorem ext_to {α : Type} {xs ys : List α} (hl : xs.length = ys.length) (h : ∀ j (hj : j < xs.length) (hj' : j < ys.length), j < xs.length → xs[j] = ys[j]) : xs = ys := List.ext_getElem hl fun j hj hj' => h j hj hj' hj
theorem ext_no {α : Type} {xs ys : List α} {k : Nat} (hk : k < xs.length) (hk' : k < ys.length) (h : ¬ xs[k] = ys[k]) : ¬ xs = ys := fun e => h (by subst e; rfl)
theorem ext_step {α : Type} {xs ys : List α} {k : Nat} (hk : k < xs.length) (hk' : k < ys.length) (h : xs[k] = ys[k]) (H : ∀ j (hj : j < xs.length) (hj' : j < ys.length), j < k → xs[j] = ys[j]) : ∀ j (hj : j < xs.length) (hj' : j < ys.length), j < k + 1 → xs[j] = ys[j] := fun j hj hj' hjk => by
  by_cases e : j = k
  · subst e; exact h
  · exact H j hj hj' (by omega)

theorem it_ne {a0 a1 b0 b1 : Int} {a2 b2 : Nat} {a3 a5 b3 b5 : Bool} {a4 b4 : List UInt8} (h : ¬ (⟨a0, a1, a2, a3, a4, a5⟩ : It) = ⟨b0, b1, b2, b3, b4, b5⟩) :
    a0 ≠ b0 ∨ (a0 = b0 ∧ a1 ≠ b1) ∨ (a0 = b0 ∧ a1 = b1 ∧ (a2 : Int) ≠ (b2 : Int)) ∨ (a0 = b0 ∧ a1 = b1 ∧ a2 = b2 ∧ a3 ≠ b3) ∨ (a0 = b0 ∧ a1 = b1 ∧ a2 = b2 ∧ a3 = b3 ∧ (⟨a4.toArray⟩ : ByteArray).toList ≠ (⟨b4.toArray⟩ : ByteArray).toList) ∨ (a0 = b0 ∧ a1 = b1 ∧ a2 = b2 ∧ a3 = b3 ∧ (⟨a4.toArray⟩ : ByteArray) = ⟨b4.toArray⟩ ∧ a5 ≠ b5) := by
  by_cases h0 : a0 = b0
  · by_cases h1 : a1 = b1
    · by_cases h2 : a2 = b2
      · by_cases h3 : a3 = b3
        · by_cases h4 : a4 = b4
          · by_cases h5 : a5 = b5
            · exact absurd (by rw [h0, h1, h2, h3, h4, h5]) h
            · exact .inr (.inr (.inr (.inr (.inr ⟨h0, h1, h2, h3, by rw [h4], h5⟩))))
          · refine .inr (.inr (.inr (.inr (.inl ⟨h0, h1, h2, h3, fun e => h4 ?_⟩))))
            simpa [Lib.toList_data] using e
        · exact .inr (.inr (.inr (.inl ⟨h0, h1, h2, h3⟩)))
      · exact .inr (.inr (.inl ⟨h0, h1, by omega⟩))
    · exact .inr (.inl ⟨h0, h1⟩)
  · exact .inl h0

end Go.Proofs.YtbfohfmipfapdaaDoor.V

namespace Go.Proofs.YtbfohfmipfapdaaDoor.V
set_option linter.unusedVariables false
set_option linter.unusedSimpArgs false
open Go.RowKit
open T
open I (It Lb ItemsIn ItemsAt ItemsOk itCells itCells_snoc itCells_at items_cells own_at own_below alloc1)

/-- An item's cells. -/
structure ItAt (w : World) (bk o : Nat) (y : It) : Prop where
  lt : bk < w.heap.size
  c0 : w.cell? ⟨bk, o, none⟩ = some (.int .i64 y.id)
  c1 : w.cell? ⟨bk, o + 1, none⟩ = some (.int .i64 y.lv)
  c2 : w.cell? ⟨bk, o + 2, none⟩ = some (.int .u64 (y.ct : Int))
  c3 : w.cell? ⟨bk, o + 3, none⟩ = some (.bool y.an)
  c4 : w.cell? ⟨bk, o + 4, none⟩ = some (.string ⟨y.tx.toArray⟩)
  c5 : w.cell? ⟨bk, o + 5, none⟩ = some (.bool y.ba)
theorem ItAt.below {w w' : World} {bk o : Nat} {y : It} (h : ItAt w bk o y) (hb : Below w.heap.size w w') : ItAt w' bk o y :=
  ⟨Nat.lt_of_lt_of_le h.lt hb.size, (hb.cell (p := ⟨bk, _, none⟩) h.lt).trans h.c0, (hb.cell (p := ⟨bk, _, none⟩) h.lt).trans h.c1, (hb.cell (p := ⟨bk, _, none⟩) h.lt).trans h.c2, (hb.cell (p := ⟨bk, _, none⟩) h.lt).trans h.c3, (hb.cell (p := ⟨bk, _, none⟩) h.lt).trans h.c4, (hb.cell (p := ⟨bk, _, none⟩) h.lt).trans h.c5⟩
theorem it_at {w : World} {bk off k : Nat} {xs : List It} (h : ItemsAt w bk off xs) (hb : bk < w.heap.size) (hk : k < xs.length) : ItAt w bk (off + k * 6) xs[k] := by
  obtain ⟨c0, c1, c2, c3, c4, c5⟩ := h k hk
  exact ⟨hb, c0, c1, c2, c3, c4, c5⟩
theorem lab_cells {w : World} {g : Nat} {l : Int} {k : Nat} (h : w.heap[g]? = some (.cells #[.int .i64 l, .int .u64 (k : Int)] 25 (0, 0))) :
    w.cell? ⟨g, 0, none⟩ = some (.int .i64 l) ∧ w.cell? ⟨g, 1, none⟩ = some (.int .u64 (k : Int)) := ⟨L.blk_cell h 0, L.blk_cell h 1⟩
theorem own_base_le {w : World} {base base' : Nat} {e : TypeId} {size n : Nat} {v : Value} {xs : List Value} (h : w.ownsRow base e size v n xs) (hb : base' ≤ base) : w.ownsRow base' e size v n xs := own_more h hb
def RbC (l m : Int) (c d : Nat) (b : Bool) : Prop := ∀ w : World, Calls Tryd.prog 17 #[L.lab l c, L.lab m d] w fun e w' => e = .returned (.bool b) ∧ Below w.heap.size w w'
theorem RbC.call {l m : Int} {c d : Nat} {b : Bool} (h : RbC l m c d b) (w : World) : Calls Tryd.prog 17 #[L.lab l c, L.lab m d] w fun e w' => e = .returned (.bool b) ∧ Below w.heap.size w w' := h w
theorem rb_is (o : Lb) (y : It) (hc : y.ct < 18446744073709551616) : RbC y.lv o.1 y.ct o.2 (sees o y) := fun w => L.refBelow_any y.lv o.1 y.ct o.2 w hc
theorem cut_take {o : Lb} {l : List It} {k : Nat} (hk : k < l.length) : cut o (l.take (k + 1)) = cut o (l.take k) ++ (if sees o l[k] = true then [l[k]] else []) := by
  rw [List.take_succ_eq_append_getElem hk, cut_snoc]
theorem cut_le (o : Lb) (l : List It) : (cut o l).length ≤ l.length := List.length_filter_le _ _

end Go.Proofs.YtbfohfmipfapdaaDoor.V

namespace Go.Proofs.YtbfohfmipfapdaaDoor.V
set_option linter.unusedVariables false
set_option linter.unusedSimpArgs false
open Go.RowKit
open T
open I (It Lb ItemsIn ItemsAt ItemsOk itCells itCells_snoc itCells_at items_cells own_at own_below alloc1)

/-- The ID at a place; 0 where none is. -/
def idAt (l : List It) (a : Int) : Int := if 0 ≤ a then ((l[a.toNat]?).map (·.id)).getD 0 else 0
def ids (l : List It) (t : List Int) : List Int := t.map (idAt l)
theorem idAt_step {l : List It} {j : Nat} (hj : j < l.length) (a : Int) : idAt (l.take (j + 1)) a = if (j : Int) = a then l[j].id else idAt (l.take j) a := by
  unfold idAt
  by_cases h0 : 0 ≤ a
  · obtain ⟨n, rfl⟩ := Int.eq_ofNat_of_zero_le h0
    rw [if_pos h0, if_pos h0, Int.toNat_natCast, List.getElem?_take, List.getElem?_take]
    by_cases h1 : j = n
    · subst h1
      rw [if_pos rfl, if_pos (show j < j + 1 by omega), List.getElem?_eq_getElem hj]; rfl
    · rw [if_neg (show ¬ (j : Int) = (n : Int) by omega)]
      by_cases h2 : n < j
      · rw [if_pos (show n < j + 1 by omega), if_pos h2]
      · rw [if_neg (show ¬ n < j + 1 by omega), if_neg h2]
  · rw [if_neg h0, if_neg h0, if_neg (by omega)]
theorem idAt_none (a : Int) : idAt [] a = 0 := by unfold idAt; split <;> rfl
theorem ids_take {l : List It} {t : List Int} {k : Nat} (hk : k < t.length) : ids l (t.take (k + 1)) = ids l (t.take k) ++ [idAt l t[k]] := by
  unfold ids; rw [List.take_succ_eq_append_getElem hk, List.map_append]; rfl
end Go.Proofs.YtbfohfmipfapdaaDoor.V

namespace Go.Proofs.YtbfohfmipfapdaaDoor.V
set_option linter.unusedVariables false
set_option linter.unusedSimpArgs false
open Go.RowKit
open T
open I (It Lb ItemsIn ItemsAt ItemsOk itCells itCells_snoc itCells_at items_cells own_at own_below alloc1)

theorem own_ne {w : World} {base : Nat} {e : TypeId} {size n : Nat} {v : Value} {xs : List Value} (h : w.ownsRow base e size v n xs) {g : Nat} (hne : ∀ cs, w.heap[g]? ≠ some (.cells cs e (0, 0))) : v.ownBlock = none ∨ v.ownBlock ≠ some g := by
  rcases h.2 with ⟨rfl, _⟩ | ⟨g', cap, cur, rfl, hg, hh, _⟩
  · exact .inl rfl
  · refine .inr fun e' => ?_
    simp [Value.ownBlock] at e'
    subst e'
    exact hne _ hh
theorem own_ne' {w : World} {base : Nat} {e : TypeId} {size n : Nat} {v : Value} {xs : List Value} (h : w.ownsRow base e size v n xs) {g : Nat} (hne : ∀ cs, w.heap[g]? ≠ some (.cells cs e (0, 0))) : some g ≠ v.ownBlock := fun e' => by
  rcases own_ne h hne with h1 | h1
  · rw [h1] at e'; cases e'
  · exact h1 e'.symm
theorem own_apart {w : World} {base base' : Nat} {e e' : TypeId} {size size' n n' : Nat} {v v' : Value} {xs xs' : List Value} (hne : e ≠ e') (h : w.ownsRow base e size v n xs) (h' : w.ownsRow base' e' size' v' n' xs') : v.ownBlock = none ∨ v.ownBlock ≠ v'.ownBlock := by
  rcases h'.2 with ⟨rfl, _⟩ | ⟨g', cap, cur, rfl, hg, hh, _⟩
  · cases hv : v.ownBlock with
    | none => exact .inl rfl
    | some k => exact .inr (by simp [Value.ownBlock])
  · rcases own_ne h (g := g') (fun cs he => by rw [hh] at he; injection he with he; injection he with _ he; exact hne he.symm) with h1 | h1
    · exact .inl h1
    · exact .inr (by simpa [Value.ownBlock] using h1)
theorem grown_of {w w' : World} (hb : Below w.heap.size w w') (row : Option Nat) : w.grownBy w' row := ⟨hb.os, hb.tape, hb.output, hb.size, fun k hk _ => hb.block k hk⟩
theorem grown_set (w : World) (p : Addr) (u : Value) : w.grownBy (w.setCell p u) (some p.block) :=
  ⟨rfl, rfl, rfl, by simp [World.setCell], fun k _ hk => Below.heap_setCell _ _ _ _ (fun e => hk (by rw [e]))⟩
section
variable {w w' : World} {base vb : Nat} {vl va v' : Value} {ls ls' : List (List UInt8 × Bool)} {ts ts' : List Int}
end
def atI (o : Lb) (l : List It) : List Int := (ats o 0 l).map fun n : Nat => (n : Int)
theorem atI_take {o : Lb} {l : List It} {k : Nat} (hk : k < l.length) : atI o (l.take (k + 1)) = atI o (l.take k) ++ (if sees o l[k] = true then [(k : Int)] else []) := by
  unfold atI
  rw [List.take_succ_eq_append_getElem hk, ats_snoc, List.map_append, Nat.zero_add, List.length_take, Nat.min_eq_left (by omega)]
  split <;> rfl
theorem lst_take {o : Lb} {l : List It} {k : Nat} (hk : k < l.length) : lst o 0 (-1) (l.take (k + 1)) = if sees o l[k] = true then (k : Int) else lst o 0 (-1) (l.take k) := by
  rw [List.take_succ_eq_append_getElem hk, lst_snoc, Nat.zero_add, List.length_take, Nat.min_eq_left (by omega)]
theorem rln_take {o : Lb} {h : List UInt8} {z : Int} {l : List It} {k : Nat} (hk : k < l.length) : rln o h z 0 (l.take (k + 1)) = rln o h z 0 (l.take k) ++ (if sees o l[k] = true then [(txt h l[k], decide ((k : Int) = z) && l[k].ba)] else []) := by
  rw [List.take_succ_eq_append_getElem hk, rln_snoc, Nat.zero_add, List.length_take, Nat.min_eq_left (by omega)]
theorem rln_length (o : Lb) (h : List UInt8) (z : Int) : ∀ (l : List It) (k : Nat), (rln o h z k l).length = (cut o l).length
  | [], _ => rfl
  | x :: r, k => by
    rw [rln]
    by_cases hx : sees o x = true
    · rw [if_pos hx, List.length_cons, rln_length o h z r]; simp [cut, hx]
    · rw [if_neg hx, rln_length o h z r]; simp [cut, hx]
theorem lnCells_snoc (xs : List (List UInt8 × Bool)) (t : List UInt8) (b : Bool) : lineCells (xs ++ [(t, b)]) = lineCells xs ++ [.string ⟨t.toArray⟩, .bool b] := lineCells_snoc xs t b
end Go.Proofs.YtbfohfmipfapdaaDoor.V
