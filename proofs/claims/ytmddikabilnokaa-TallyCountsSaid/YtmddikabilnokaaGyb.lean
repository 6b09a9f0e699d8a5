/-
  Plain facts on lines: the bytes of the lines of bytes are the bytes; the lines of the bytes of right lines are the lines.
  Rows of lines in memory.
  The contract of text.Join: a new row of bytes, those of the lines.
  Rows of bytes in memory, wherever they lie, those of no byte too: as a text, and text.Lines of them. What a region's walk may be told anew on its way.
  Rows of numbers in memory; the contracts of the reference's Ints and of the law's sameItems (layer 5).
  How many lines each label has, in plain words.
  Labels in memory, labels compared, labels as keys of a map, a map from labels to numbers as a function.
  The contract of the reference's Cut (layer 5).
  How many lines one label has; how many more.
  The contract of the reference's IDs (layer 5).
  The contract of the reference's Of (layer 5): a view while it is built.
-/
import Derived.Test.YtmddikabilnokaaGya
import Derived.Lib.AppendStr
import Derived.Deep.RegionHeld
import Derived.Deep.QuietTactic
import Derived.BigQuiet
import Derived.StillTailTactics
import Derived.Laws.StructEq
import Derived.Maps.OwnSet
import Derived.Maps.OwnOps
import Derived.Maps.Views
import Derived.Maps.Range
import Derived.DeepKeys4
import Derived.WideKeyPair
import Derived.WideKeyEntry
import Derived.Deep.DeepCutAuto
import Derived.Deep.AppendLies
import Derived.Deep.DrawnRows
import Derived.BigRegion
namespace Go.Proofs.Ytmddikabilnokaa.P

/-- The bytes of lines. -/
def join : List (List UInt8 × Bool) → List UInt8
  | [] => []
  | (t, b) :: r => t ++ (if !b || !r.isEmpty then [10] else []) ++ join r
/-- May lines be those of bytes? -/
def right : List (List UInt8 × Bool) → Bool
  | [] => true
  | (t, b) :: r => !(t.contains 10) && !(b && (!r.isEmpty || t.isEmpty)) && right r

theorem join_lines : ∀ (l cur : List UInt8), join (lines cur l) = cur ++ l
  | [], cur => by
    rw [lines]
    split
    · next h => simp [h, join]
    · simp [join]
  | c :: r, cur => by
    rw [lines]
    split
    · next h => rw [join, join_lines r [], h]; simp
    · rw [join_lines r (cur ++ [c])]; simp
theorem right_lines : ∀ (l cur : List UInt8), (10 : UInt8) ∉ cur → right (lines cur l) = true
  | [], cur, h => by
    rw [lines]
    split
    · rfl
    · next hc => simp [right, h, hc]
  | c :: r, cur, h => by
    rw [lines]
    split
    · rw [right, right_lines r [] (by simp)]; simp [h]
    · next hc => exact right_lines r (cur ++ [c]) (by simp [h]; exact fun e => hc e.symm)
theorem lines_text (r : List UInt8) : ∀ (t cur : List UInt8), (10 : UInt8) ∉ t → lines cur (t ++ 10 :: r) = (cur ++ t, false) :: lines [] r
  | [], cur, _ => by simp [lines]
  | c :: t, cur, h => by
    have hc : ¬ c = 10 := fun e => h (by simp [e])
    rw [List.cons_append, lines, if_neg hc, lines_text r t _ (fun e => h (by simp [e]))]; simp
theorem lines_open : ∀ (t cur : List UInt8), (10 : UInt8) ∉ t → lines cur t = if cur ++ t = [] then [] else [(cur ++ t, true)]
  | [], cur, _ => by simp [lines]
  | c :: t, cur, h => by
    have hc : ¬ c = 10 := fun e => h (by simp [e])
    rw [lines, if_neg hc, lines_open t _ (fun e => h (by simp [e]))]; simp
theorem lines_join : ∀ (xs : List (List UInt8 × Bool)), right xs = true → lines [] (join xs) = xs
  | [], _ => rfl
  | (t, b) :: r, h => by
    rw [right, Bool.and_eq_true, Bool.and_eq_true] at h
    obtain ⟨⟨h1, h2⟩, h3⟩ := h
    have ht : (10 : UInt8) ∉ t := by simpa using h1
    have ih := lines_join r h3
    cases b with
    | false =>
      rw [join, show t ++ (if !false || !r.isEmpty then [10] else []) ++ join r = t ++ 10 :: join r by simp, lines_text _ _ _ ht, ih]; rfl
    | true =>
      simp at h2
      obtain ⟨h2, h4⟩ := h2
      subst h2
      rw [join, show t ++ (if !true || !([] : List (List UInt8 × Bool)).isEmpty then [10] else []) ++ join [] = t by simp [join], lines_open _ _ ht, if_neg (by simpa using h4)]; rfl
/-- How many bytes lines make at the most. -/
def bulk : List (List UInt8 × Bool) → Nat
  | [] => 0
  | (t, _) :: r => t.length + 1 + bulk r
theorem join_length : ∀ xs : List (List UInt8 × Bool), (join xs).length ≤ bulk xs
  | [] => Nat.le_refl _
  | (t, b) :: r => by
    have := join_length r
    rw [join, bulk]
    simp only [List.length_append]
    split <;> simp <;> omega
theorem length_bulk : ∀ xs : List (List UInt8 × Bool), xs.length ≤ bulk xs
  | [] => Nat.le_refl _
  | (t, b) :: r => by have := length_bulk r; rw [bulk, List.length_cons]; omega
theorem lines_bulk : ∀ (l cur : List UInt8), bulk (lines cur l) ≤ cur.length + l.length + 1
  | [], cur => by
    rw [lines]
    split
    · simp [bulk]
    · simp [bulk]
  | c :: r, cur => by
    rw [lines]
    split
    · rw [bulk]
      match r with
      | [] => simp [lines, bulk]
      | d :: r' => have := lines_bulk (d :: r') []; simp at this ⊢; omega
    · have := lines_bulk r (cur ++ [c]); simp at this ⊢; omega
end Go.Proofs.Ytmddikabilnokaa.P

namespace Go.Proofs.Ytmddikabilnokaa.T
open Go.RowKit

/-- Lines in memory: two cells each, from an address on. -/
def LinesAt (w : World) (bk off : Nat) (xs : List (List UInt8 × Bool)) : Prop :=
  ∀ j (h : j < xs.length), w.cell? ⟨bk, off + j * 2, none⟩ = some (.string ⟨xs[j].1.toArray⟩) ∧ w.cell? ⟨bk, off + j * 2 + 1, none⟩ = some (.bool xs[j].2)
/-- A slice's lines, wherever it lies. -/
def LinesIn (w : World) (A : Option Addr) (xs : List (List UInt8 × Bool)) : Prop :=
  0 < xs.length → ∃ bk off, A = some ⟨bk, off, none⟩ ∧ bk < w.heap.size ∧ LinesAt w bk off xs
theorem LinesAt.below {w w' : World} {bk off B : Nat} {xs : List (List UInt8 × Bool)} (h : LinesAt w bk off xs) (hb : Below B w w') (hB : bk < B) : LinesAt w' bk off xs :=
  fun j hj => ⟨(hb.cell (p := ⟨bk, off + j * 2, none⟩) hB).trans (h j hj).1, (hb.cell (p := ⟨bk, off + j * 2 + 1, none⟩) hB).trans (h j hj).2⟩
theorem LinesIn.below {w w' : World} {A : Option Addr} {xs : List (List UInt8 × Bool)} (h : LinesIn w A xs) (hb : Below w.heap.size w w') : LinesIn w' A xs := fun hp => by
  obtain ⟨bk, off, e, hlt, hl⟩ := h hp
  exact ⟨bk, off, e, Nat.lt_of_lt_of_le hlt hb.size, hl.below hb hlt⟩
theorem lineCells_at : ∀ (xs : List (List UInt8 × Bool)) (j : Nat) (h : j < xs.length), (lineCells xs)[j * 2]? = some (.string ⟨xs[j].1.toArray⟩) ∧ (lineCells xs)[j * 2 + 1]? = some (.bool xs[j].2)
  | x :: r, 0, _ => by simp [lineCells]
  | x :: r, j + 1, h => by
    have ih := lineCells_at r j (by simpa using h)
    have e : lineCells (x :: r) = .string ⟨x.1.toArray⟩ :: .bool x.2 :: lineCells r := by simp [lineCells]
    rw [e, show (j + 1) * 2 = j * 2 + 1 + 1 by omega]
    simpa using ih
theorem lines_of_own {w : World} {base : Nat} {v : Value} {xs : List (List UInt8 × Bool)} (h : w.ownsRow base 42 2 v xs.length (lineCells xs)) :
    ∃ A cap, v = .slice A xs.length cap ∧ xs.length ≤ cap ∧ LinesIn w A xs := by
  obtain ⟨A, cap, hv, hc, hA⟩ := own_form h
  refine ⟨A, cap, hv, hc, fun hp => ?_⟩
  obtain ⟨g, rfl, _, hlt, hcells⟩ := hA hp
  exact ⟨g, 0, rfl, hlt, fun j hj => ⟨by rw [Nat.zero_add]; exact hcells _ _ (lineCells_at xs j hj).1, by rw [Nat.zero_add]; exact hcells _ _ (lineCells_at xs j hj).2⟩⟩

theorem drop_line {xs : List (List UInt8 × Bool)} {k : Nat} (hk : k < xs.length) : xs.drop k = (xs[k].1, xs[k].2) :: xs.drop (k + 1) := List.drop_eq_getElem_cons hk
theorem text_len {xs : List (List UInt8 × Bool)} {k : Nat} (hk : k < xs.length) : xs[k].1.length + 1 ≤ P.bulk xs := by
  induction xs generalizing k with
  | nil => simp at hk
  | cons x r ih =>
    obtain ⟨t, b⟩ := x
    cases k with
    | zero => simp [P.bulk]
    | succ k => have := ih (k := k) (by simpa using hk); rw [P.bulk]; simp; omega
end Go.Proofs.Ytmddikabilnokaa.T

namespace Go.Proofs.Ytmddikabilnokaa.T
open Go.RowKit

def byteCells (l : List UInt8) : List Value := l.map fun c => .int .u8 (c.toNat : Int)
theorem byteCells_append (l r : List UInt8) : byteCells (l ++ r) = byteCells l ++ byteCells r := by simp [byteCells]
theorem byteCells_str (t : List UInt8) : Lib.strCells ⟨t.toArray⟩ = byteCells t := by simp [Lib.strCells, byteCells]
theorem infoByte : (Try.prog.info? 5).map (fun i => (i.zero, i.size, i.bytes)) = some (some (.int .u8 0), 1, 1) := by kernel_rfl
theorem own_lt {w : World} {base : Nat} {e : TypeId} {size n : Nat} {v : Value} {xs : List Value} (h : w.ownsRow base e size v n xs) : ∀ k, v.ownBlock = some k → k < w.heap.size := by
  intro k hk
  rcases h.2 with ⟨rfl, _⟩ | ⟨g, cap, cur, rfl, hg, hh, _⟩
  · simp [Value.ownBlock] at hk
  · simp [Value.ownBlock] at hk
    subst hk
    rcases Nat.lt_or_ge g w.heap.size with hlt | hge
    · exact hlt
    · rw [Array.getElem?_eq_none hge] at hh; cases hh
theorem box_kept {wr w1 : World} {base : Nat} {e : TypeId} {size n : Nat} {v : Value} {xs : List Value} {a b : Value} {T : TypeId} (h : wr.ownsRow base e size v n xs) (hg : (wr.alloc (.cells #[a, b] T)).grownBy w1 v.ownBlock) :
    w1.cell? ⟨wr.heap.size, 0, none⟩ = some a ∧ w1.cell? ⟨wr.heap.size, 1, none⟩ = some b := by
  have hne : some wr.heap.size ≠ v.ownBlock := fun he => by have := own_lt h _ he.symm; omega
  have hb := heap_alloc_new wr (.cells #[a, b] T)
  exact ⟨hg.cell (a := ⟨wr.heap.size, 0, none⟩) (cell_of_row _ _ 0 _ _ _ hb) hne, hg.cell (a := ⟨wr.heap.size, 1, none⟩) (cell_of_row _ _ 1 _ _ _ hb) hne⟩
theorem join_step {xs : List (List UInt8 × Bool)} {k : Nat} (hk : k < xs.length) : P.join (xs.drop k) = xs[k].1 ++ (if !xs[k].2 || decide (k + 1 < xs.length) then [10] else []) ++ P.join (xs.drop (k + 1)) := by
  rw [drop_line hk, P.join]
  congr 3
  cases h : (xs.drop (k + 1)).isEmpty with
  | true =>
    have := List.isEmpty_iff.1 h
    have := congrArg List.length this
    simp at this
    rw [decide_eq_false (by omega)]; rfl
  | false =>
    rw [decide_eq_true]; rfl
    have : ¬ xs.drop (k + 1) = [] := fun e => by rw [e] at h; cases h
    rcases Nat.lt_or_ge (k + 1) xs.length with h' | h'
    · exact h'
    · exact absurd (List.drop_eq_nil_of_le h') this

end Go.Proofs.Ytmddikabilnokaa.T

namespace Go.Proofs.Ytmddikabilnokaa.T
open Go.RowKit

/-- A slice's bytes, wherever it lies. -/
def BytesIn (w : World) (A : Option Addr) (l : List UInt8) : Prop :=
  0 < l.length → ∃ bk off, A = some ⟨bk, off, none⟩ ∧ bk < w.heap.size ∧ BytesAt w bk off l
theorem BytesIn.below {w w' : World} {A : Option Addr} {l : List UInt8} (h : BytesIn w A l) (hb : Below w.heap.size w w') : BytesIn w' A l := fun hp => by
  obtain ⟨bk, off, e, hlt, hl⟩ := h hp
  exact ⟨bk, off, e, Nat.lt_of_lt_of_le hlt hb.size, hl.below hb hlt⟩
theorem bytes_of_own {w : World} {base : Nat} {v : Value} {l : List UInt8} (h : w.ownsRow base 5 1 v l.length (byteCells l)) :
    ∃ A cap, v = .slice A l.length cap ∧ l.length ≤ cap ∧ BytesIn w A l := by
  obtain ⟨A, cap, hv, hc, hA⟩ := own_form h
  refine ⟨A, cap, hv, hc, fun hp => ?_⟩
  obtain ⟨g, rfl, _, hlt, hcells⟩ := hA hp
  exact ⟨g, 0, rfl, hlt, fun j hj => by rw [Nat.zero_add]; exact hcells _ _ (by simp [byteCells, List.getElem?_eq_getElem hj])⟩
section
variable {P : Program} {md : Region.Mode} {ops : Array Oper} {Q : Exit → Act → World → Prop} {S S' : World → Prop}
/-- On its way a region's walk may be asked for more behind each operation. -/
theorem wpAnyH_more (h : ∀ w, S' w → S w) : ∀ (fuel : Nat) (listed : Array Bool) (a : Act) (w : World), wpAnyH P md ops Q S' fuel listed a w → wpAnyH P md ops Q S fuel listed a w
  | 0, _, _, _, H => H
  | fuel + 1, _, _, _, H => ⟨H.1, fun i hi => wpOp_mono (fun a' w' h' => ⟨h _ h'.1, wpAnyH_more h fuel _ a' w' h'.2⟩) (H.2 i hi)⟩
end
/-- All that is there stays as it is. -/
def Keeps (w : World) : World → Prop := fun w' => Below w.heap.size w w'
theorem Keeps.b {a b : World} (h : Keeps a b) : Below a.heap.size a b := h
theorem keeps_drew (w : World) : Keeps w w.drew := (Below.refl _ _).drew
theorem Keeps.trans {a b c : World} (h : Keeps a b) (h' : Keeps b c) : Keeps a c := Below.trans h (Below.mono h' (Below.size h))
end Go.Proofs.Ytmddikabilnokaa.T

namespace Go.Proofs.Ytmddikabilnokaa.V
set_option linter.unusedVariables false
set_option linter.unusedSimpArgs false
open Go.RowKit
open T
open I (It Lb ItemsIn ItemsAt ItemsOk itCells itCells_snoc itCells_at items_cells items_own own_at own_below infoItem alloc1)

/-- A slice's numbers, wherever it lies. -/
def IntsIn (w : World) (A : Option Addr) (xs : List Int) : Prop :=
  0 < xs.length → ∃ bk off, A = some ⟨bk, off, none⟩ ∧ bk < w.heap.size ∧ L.IntsAt w bk off xs
theorem IntsIn.below {w w' : World} {A : Option Addr} {xs : List Int} (h : IntsIn w A xs) (hb : Below w.heap.size w w') : IntsIn w' A xs := fun hp => by
  obtain ⟨bk, off, e, hlt, hl⟩ := h hp
  exact ⟨bk, off, e, Nat.lt_of_lt_of_le hlt hb.size, hl.below hb hlt⟩
/-- The cells of numbers. -/
def numCells (xs : List Int) : List Value := xs.map fun n => .int .i64 n
theorem numCells_snoc (xs : List Int) (n : Int) : numCells (xs ++ [n]) = numCells xs ++ [.int .i64 n] := by simp [numCells]
theorem ints_own {w : World} {base : Nat} {A : Option Addr} {cap : Nat} {xs : List Int} (h : w.ownsRow base 3 1 (.slice A xs.length cap) xs.length (numCells xs)) : IntsIn w A xs := by
  intro hp
  obtain ⟨g, hA, _, hlt, hc⟩ := own_at h hp
  refine ⟨g, 0, hA, hlt, fun j hj => ?_⟩
  rw [Nat.zero_add]
  exact hc j _ (by simp [numCells, List.getElem?_eq_getElem hj])
theorem drawn_below (w : World) (q : Nat) : Below w.heap.size w (w.drewN q) := below_drewN (Below.refl _ _) q
theorem ext_to {α : Type} {xs ys : List α} (hl : xs.length = ys.length) (h : ∀ j (hj : j < xs.length) (hj' : j < ys.length), j < xs.length → xs[j] = ys[j]) : xs = ys := List.ext_getElem hl fun j hj hj' => h j hj hj' hj
theorem ext_no {α : Type} {xs ys : List α} {k : Nat} (hk : k < xs.length) (hk' : k < ys.length) (h : ¬ xs[k] = ys[k]) : ¬ xs = ys := fun e => h (by subst e; rfl)
theorem ext_step {α : Type} {xs ys : List α} {k : Nat} (hk : k < xs.length) (hk' : k < ys.length) (h : xs[k] = ys[k]) (H : ∀ j (hj : j < xs.length) (hj' : j < ys.length), j < k → xs[j] = ys[j]) : ∀ j (hj : j < xs.length) (hj' : j < ys.length), j < k + 1 → xs[j] = ys[j] := fun j hj hj' hjk => by
  by_cases e : j = k
  · subst e; exact h
  · exact H j hj hj' (by omega)

theorem it_ne {a0 a1 b0 b1 : Int} {a2 b2 : Nat} {a3 a5 b3 b5 : Bool} {a4 b4 : List UInt8} (h : ¬ (⟨a0, a1, a2, a3, a4, a5⟩ : It) = ⟨b0, b1, b2, b3, b4, b5⟩) :
    a0 ≠ b0 ∨ (a0 = b0 ∧ a1 ≠ b1) ∨ (a0 = b0 ∧ a1 = b1 ∧ (a2 : Int) ≠ (b2 : Int)) ∨ (a0 = b0 ∧ a1 = b1 ∧ a2 = b2 ∧ a3 ≠ b3) ∨ (a0 = b0 ∧ a1 = b1 ∧ a2 = b2 ∧ a3 = b3 ∧ (⟨a4.toArray⟩ : ByteArray).toList ≠ (⟨b4.toArray⟩ : ByteArray).toList) ∨ (a0 = b0 ∧ a1 = b1 ∧ a2 = b2 ∧ a3 = b3 ∧ (⟨a4.toArray⟩ : ByteArray) = ⟨b4.toArray⟩ ∧ a5 ≠ b5) := by
  by_cases h0 : a0 = b0
  · by_cases h1 : a1 = b1
    · by_cases h2 : a2 = b2
      · by_cases h3 : a3 = b3
        · by_cases h4 : a4 = b4
          · by_cases h5 : a5 = b5
            · exact absurd (by rw [h0, h1, h2, h3, h4, h5]) h
            · exact .inr (.inr (.inr (.inr (.inr ⟨h0, h1, h2, h3, by rw [h4], h5⟩))))
          · refine .inr (.inr (.inr (.inr (.inl ⟨h0, h1, h2, h3, fun e => h4 ?_⟩))))
            simpa [Lib.toList_data] using e
        · exact .inr (.inr (.inr (.inl ⟨h0, h1, h2, h3⟩)))
      · exact .inr (.inr (.inl ⟨h0, h1, by omega⟩))
    · exact .inr (.inl ⟨h0, h1⟩)
  · exact .inl h0

end Go.Proofs.Ytmddikabilnokaa.V

namespace Go.Proofs.Ytmddikabilnokaa.Ta
set_option linter.unusedVariables false
set_option linter.unusedSimpArgs false
open I (It Lb)

/-- The labels of the lines. -/
def lns (l : List It) : List Lb := (l.filter fun x => !x.an).map It.lb
theorem lns_app (l r : List It) : lns (l ++ r) = lns l ++ lns r := by simp [lns]
theorem lns_take {l : List It} {k : Nat} (h : k < l.length) : lns (l.take (k + 1)) = lns (l.take k) ++ (if l[k].an = true then [] else [l[k].lb]) := by
  rw [List.take_succ_eq_append_getElem h, lns_app]
  congr 1
  cases e : l[k].an <;> simp [lns, e]
theorem lns_le (l : List It) : (lns l).length ≤ l.length := by
  unfold lns
  rw [List.length_map]
  exact List.length_filter_le _ _
/-- Which of two labels comes first. -/
def lt (a b : Lb) : Prop := a.1 < b.1 ∨ a.1 = b.1 ∧ a.2 < b.2
instance (a b : Lb) : Decidable (lt a b) := by unfold lt; infer_instance
def ord (a b : Lb) : Int := if lt a b then -1 else if a = b then 0 else 1
theorem lt_irr (a : Lb) : ¬ lt a a := by unfold lt; omega
theorem lt_trans {a b c : Lb} (h : lt a b) (k : lt b c) : lt a c := by unfold lt at *; omega
theorem lt_tri {a b : Lb} (h : ¬ lt a b) (k : ¬ a = b) : lt b a := by
  obtain ⟨a1, a2⟩ := a
  obtain ⟨b1, b2⟩ := b
  simp only [lt, Prod.mk.injEq] at *
  omega
theorem lt_ne {a b : Lb} (h : lt a b) : ¬ a = b := fun e => by subst e; exact lt_irr _ h
theorem ord_lt {a b : Lb} : ord a b < 0 ↔ lt a b := by
  unfold ord
  by_cases h : lt a b
  · simp [h]
  · by_cases e : a = b <;> simp [h, e, lt_irr]
theorem ord_zero {a b : Lb} : ord a b = 0 ↔ a = b := by
  unfold ord
  split
  · rename_i h
    simp [lt_ne h]
  · split <;> simp [*]
theorem ord_turn (a b : Lb) : ord b a = - ord a b := by
  unfold ord
  by_cases h : lt a b
  · have h2 : ¬ lt b a := fun k => lt_irr _ (lt_trans h k)
    have h3 : ¬ b = a := fun e => lt_ne h e.symm
    simp [h, h2, h3]
  · by_cases e : a = b
    · subst e
      simp [lt_irr]
    · simp [h, lt_tri h e, e]
theorem ord_rng (a b : Lb) : -1 ≤ ord a b ∧ ord a b ≤ 1 := by
  unfold ord
  split
  · omega
  · split <;> omega
/-- The labels of lines, each once, in order. -/
structure Ks (ls ks : List Lb) : Prop where
  so : ks.Pairwise lt
  me : ∀ a, a ∈ ks ↔ a ∈ ls
theorem Ks.nd {ls ks : List Lb} (h : Ks ls ks) : ks.Nodup := h.so.imp fun h => lt_ne h
theorem Ks.uniq {ls ks ks' : List Lb} (h : Ks ls ks) (k : Ks ls ks') : ks = ks' :=
  List.Perm.eq_of_pairwise (le := lt) (fun a b _ _ h1 h2 => absurd (lt_trans h1 h2) (lt_irr _)) h.so k.so ((List.perm_ext_iff_of_nodup h.nd k.nd).2 fun a => (h.me a).trans (k.me a).symm)
theorem Ks.nil : Ks [] [] := ⟨List.Pairwise.nil, fun _ => Iff.rfl⟩
theorem Ks.has {ls ks : List Lb} {a : Lb} (h : Ks ls ks) (ha : a ∈ ks) : Ks (ls ++ [a]) ks := ⟨h.so, fun b => by
  rw [List.mem_append, List.mem_singleton, ← h.me]
  constructor
  · exact Or.inl
  · rintro (e | rfl)
    · exact e
    · exact ha⟩
theorem Ks.ins {ls ks : List Lb} {a : Lb} {k : Nat} (h : Ks ls ks) (h1 : ∀ j (hj : j < ks.length), j < k → lt ks[j] a) (h2 : ∀ (hk : k < ks.length), lt a ks[k]) : Ks (ls ++ [a]) (ks.take k ++ a :: ks.drop k) := by
  refine ⟨?_, fun b => ?_⟩
  · have hs := h.so
    rw [← List.take_append_drop k ks, List.pairwise_append] at hs
    obtain ⟨s1, s2, s3⟩ := hs
    have ht : ∀ x ∈ ks.take k, lt x a := fun x hx => by
      obtain ⟨j, hj, rfl⟩ := List.getElem_of_mem hx
      rw [List.getElem_take]
      rw [List.length_take] at hj
      exact h1 j (by omega) (by omega)
    have hd : ∀ x ∈ ks.drop k, lt a x := fun x hx => by
      obtain ⟨j, hj, rfl⟩ := List.getElem_of_mem hx
      rw [List.length_drop] at hj
      have hk : k < ks.length := by omega
      rw [List.getElem_drop]
      cases j with
      | zero => exact h2 hk
      | succ j => exact lt_trans (h2 hk) (List.pairwise_iff_getElem.1 h.so k (k + (j + 1)) hk (by omega) (by omega))
    rw [List.pairwise_append, List.pairwise_cons]
    refine ⟨s1, ⟨hd, s2⟩, fun x hx y hy => ?_⟩
    rcases List.mem_cons.1 hy with rfl | hy
    · exact ht x hx
    · exact s3 x hx y hy
  · have e : b ∈ ks.take k ++ ks.drop k ↔ b ∈ ls := by rw [List.take_append_drop]; exact h.me b
    rw [List.mem_append] at e
    rw [List.mem_append, List.mem_append, List.mem_cons, List.mem_singleton, ← e]
    constructor
    · rintro (h | h | h)
      · exact .inl (.inl h)
      · exact .inr h
      · exact .inl (.inr h)
    · rintro ((h | h) | h)
      · exact .inl h
      · exact .inr (.inr h)
      · exact .inr (.inl h)
theorem Ks.sorted {ls ks ks' : List Lb} (hnd : ks.Nodup) (hm : ∀ a, a ∈ ks ↔ a ∈ ls) (hp : ks'.Perm ks) (hs : ks'.Pairwise fun a b => ¬ lt b a) : Ks ls ks' := by
  refine ⟨?_, fun a => hp.mem_iff.trans (hm a)⟩
  have hn : ks'.Nodup := hp.nodup_iff.2 hnd
  exact (hs.and hn).imp fun ⟨h1, h2⟩ => lt_tri h1 fun e => h2 e.symm
/-- How many lines each has. -/
def cs (ls ks : List Lb) : List (Lb × Nat) := ks.map fun a => (a, ls.count a)
theorem cs_len (ls ks : List Lb) : (cs ls ks).length = ks.length := by simp [cs]
theorem sum_count : ∀ (ks ls : List Lb), ks.Nodup → (∀ a ∈ ls, a ∈ ks) → (ks.map fun a => ls.count a).sum = ls.length
  | [], ls, _, h => by
    cases ls with
    | nil => rfl
    | cons a r => exact absurd (h a List.mem_cons_self) (by simp)
  | a :: r, ls, hn, h => by
    obtain ⟨hn1, hn2⟩ := List.nodup_cons.1 hn
    have e := sum_count r (ls.filter fun x => !(x == a)) hn2 (fun b hb => by
      rw [List.mem_filter] at hb
      rcases List.mem_cons.1 (h b hb.1) with rfl | h2
      · simp at hb
      · exact h2)
    have e2 : (r.map fun b => (ls.filter fun x => !(x == a)).count b) = r.map fun b => ls.count b := List.map_congr_left fun b hb => by
      rw [List.count_filter]
      have : ¬ b = a := fun q => hn1 (q ▸ hb)
      simpa using this
    have e3 : ls.length = ls.count a + (ls.filter fun x => !(x == a)).length := by
      rw [List.count_eq_countP, List.length_eq_countP_add_countP (fun x => x == a), List.countP_eq_length_filter (p := fun x => decide ¬(x == a) = true)]
      congr 2
      exact List.filter_congr fun x _ => by cases x == a <;> rfl
    rw [e2] at e
    rw [List.map_cons, List.sum_cons, e, e3]
theorem Ks.sum {ls ks : List Lb} (h : Ks ls ks) : ((cs ls ks).map (·.2)).sum = ls.length := by
  unfold cs
  rw [List.map_map]
  exact sum_count ks ls h.nd fun a ha => (h.me a).2 ha
/-- The labels that have more lines than they may. -/
def ov (q : Int) (c : List (Lb × Nat)) : List Lb := (c.filter fun x => decide (q < (x.2 : Int))).map (·.1)
theorem ov_take (q : Int) {c : List (Lb × Nat)} {k : Nat} (h : k < c.length) : ov q (c.take (k + 1)) = ov q (c.take k) ++ (if q < (c[k].2 : Int) then [c[k].1] else []) := by
  rw [List.take_succ_eq_append_getElem h]
  unfold ov
  rw [List.filter_append, List.map_append]
  congr 1
  by_cases e : q < (c[k].2 : Int) <;> simp [e]
theorem ov_le (q : Int) (c : List (Lb × Nat)) : (ov q c).length ≤ c.length := by
  unfold ov
  rw [List.length_map]
  exact List.length_filter_le _ _
theorem cs_take (ls ks : List Lb) {k : Nat} (h : k < ks.length) : cs ls (ks.take (k + 1)) = cs ls (ks.take k) ++ [(ks[k], ls.count ks[k])] := by
  rw [List.take_succ_eq_append_getElem h]
  unfold cs
  rw [List.map_append]
  rfl
theorem count_take (a : Lb) {l : List It} {k : Nat} (h : k < l.length) : (lns (l.take (k + 1))).count a = (lns (l.take k)).count a + (if l[k].an = false ∧ l[k].lb = a then 1 else 0) := by
  rw [lns_take h, List.count_append]
  congr 1
  cases e : l[k].an
  · by_cases q : l[k].lb = a <;> simp [q]
  · simp
theorem Ks.len {ls ks : List Lb} (h : Ks ls ks) : ks.length ≤ ls.length := by
  have := h.sum
  have h2 : ∀ c ∈ (cs ls ks).map (·.2), 1 ≤ c := fun c hc => by
    simp only [cs, List.map_map, List.mem_map, Function.comp_apply] at hc
    obtain ⟨a, ha, rfl⟩ := hc
    exact List.count_pos_iff.2 ((h.me a).1 ha)
  have h3 : ∀ l : List Nat, (∀ c ∈ l, 1 ≤ c) → l.length ≤ l.sum := fun l => by
    induction l with
    | nil => intro _; exact Nat.le_refl _
    | cons a r ih =>
      intro H
      have h1 := H a List.mem_cons_self
      have h2 := ih fun c hc => H c (List.mem_cons_of_mem _ hc)
      rw [List.length_cons, List.sum_cons]
      omega
  have h4 := h3 _ h2
  rw [List.length_map, cs_len, this] at h4
  exact h4
end Go.Proofs.Ytmddikabilnokaa.Ta

namespace Go.Proofs.Ytmddikabilnokaa.Ta
set_option linter.unusedVariables false
set_option linter.unusedSimpArgs false
open Go.RowKit Go.Maps
open T
open I (It Lb ItemsIn ItemsAt itCells alloc1 own_at own_below)
open V (drawn_below)

/-! Labels in memory. -/
def LabsAt (w : World) (bk off : Nat) (l : List Lb) : Prop := ∀ j (h : j < l.length), w.cell? ⟨bk, off + j * 2, none⟩ = some (.int .i64 l[j].1) ∧ w.cell? ⟨bk, off + j * 2 + 1, none⟩ = some (.int .u64 (l[j].2 : Int))
def LabsIn (w : World) (A : Option Addr) (l : List Lb) : Prop := 0 < l.length → ∃ bk off, A = some ⟨bk, off, none⟩ ∧ bk < w.heap.size ∧ LabsAt w bk off l
theorem LabsAt.below {w w' : World} {n bk off : Nat} {l : List Lb} (h : LabsAt w bk off l) (hb : Below n w w') (hk : bk < n) : LabsAt w' bk off l := fun j hj => ⟨(hb.cell (p := ⟨bk, off + j * 2, none⟩) hk).trans (h j hj).1, (hb.cell (p := ⟨bk, off + j * 2 + 1, none⟩) hk).trans (h j hj).2⟩
theorem LabsIn.below {w w' : World} {A : Option Addr} {l : List Lb} (h : LabsIn w A l) (hb : Below w.heap.size w w') : LabsIn w' A l := fun hp => by
  obtain ⟨bk, off, e, hlt, hl⟩ := h hp
  exact ⟨bk, off, e, Nat.lt_of_lt_of_le hlt hb.size, hl.below hb hlt⟩
def lbCells (l : List Lb) : List Value := l.flatMap fun a => [.int .i64 a.1, .int .u64 (a.2 : Int)]
theorem lbCells_snoc (l : List Lb) (a : Lb) : lbCells (l ++ [a]) = lbCells l ++ [.int .i64 a.1, .int .u64 (a.2 : Int)] := by simp [lbCells]
theorem lbCells_len : ∀ l : List Lb, (lbCells l).length = l.length * 2
  | [] => rfl
  | a :: r => by
    have := lbCells_len r
    simp only [lbCells, List.flatMap_cons, List.length_append, List.length_cons, List.length_nil] at this ⊢
    omega
theorem lbCells_at : ∀ (l : List Lb) (j : Nat) (h : j < l.length), (lbCells l)[j * 2]? = some (.int .i64 l[j].1) ∧ (lbCells l)[j * 2 + 1]? = some (.int .u64 (l[j].2 : Int))
  | [], j, h => by simp at h
  | p :: r, 0, _ => ⟨rfl, rfl⟩
  | p :: r, j + 1, h => by
    have := lbCells_at r j (by simpa using h)
    rw [show (j + 1) * 2 = j * 2 + 2 by omega, show j * 2 + 2 + 1 = j * 2 + 1 + 2 by omega]
    exact this
theorem labs_own {w : World} {base : Nat} {A : Option Addr} {cap : Nat} {l : List Lb} (h : w.ownsRow base 25 2 (.slice A l.length cap) l.length (lbCells l)) : LabsIn w A l := fun hp => by
  obtain ⟨g, hA, _, hlt, hc⟩ := own_at h hp
  refine ⟨g, 0, hA, hlt, fun j hj => ?_⟩
  obtain ⟨h0, h1⟩ := lbCells_at l j hj
  rw [Nat.zero_add]
  exact ⟨hc _ _ h0, hc _ _ h1⟩
theorem infoLab : (Try.prog.info? 25).map (fun i => (i.zero, i.size, i.bytes)) = some (some (.agg #[.int .i64 0, .int .u64 0]), 2, 16) := by kernel_rfl

/-! Labels compared. -/
abbrev lbV (x : Lb) : Value := .agg #[.int .i64 x.1, .int .u64 (x.2 : Int)]
set_option maxRecDepth 100000 in
theorem lb_eql (w : World) (x y : Lb) : (binOp .eql 25 (lbV x) (lbV y)).run Try.prog w = .ok (.bool (decide (x = y))) w := by
  have u1 := Try.underlying3
  have u2 := Try.underlying23
  have hS : Try.prog.underlying 25 = some (.struct (Try.prog.fieldsOf 25)) := by kernel_rfl
  have hp : Try.prog.stoodInHeld 25 = false := by kernel_rfl
  have z1 : Try.prog.cellsOf 3 = 1 := by kernel_rfl
  have z2 : Try.prog.cellsOf 23 = 1 := by kernel_rfl
  simp only [lbV]
  rw [run_eql_struct, show (10000 : Nat) = 9998 + 1 + 1 from rfl]
  generalize (9998 : Nat) = d
  rw [run_equalIn_agg w (d + 1) 25 _ _ hS hp]
  simp only [Program.fieldsOf, Try.underlying25]
  clear hS
  go_simp
  obtain ⟨a1, a2⟩ := x
  obtain ⟨b1, b2⟩ := y
  by_cases h1 : a1 = b1 <;> by_cases h2 : a2 = b2 <;> simp_all <;> omega
theorem lb_neq (w : World) (x y : Lb) : (binOp .neq 25 (lbV x) (lbV y)).run Try.prog w = .ok (.bool (!decide (x = y))) w := by
  have h := lb_eql w x y
  simp only [binOp, Sem.run_bind] at h ⊢
  cases hr : (Op.equal 25 (lbV x) (lbV y)).run Try.prog w with
  | ok v w' =>
    rw [hr] at h
    simp only [Result.andThen_ok, Sem.run_pure, Result.ok.injEq, Value.bool.injEq] at h
    obtain ⟨rfl, rfl⟩ := h
    simp only [Result.andThen_ok, Sem.run_pure]
  | _ => rw [hr] at h; simp at h

/-! Labels as keys. -/
/-- A label whose numbers are those of a machine. -/
structure Wl (x : Lb) : Prop where
  lv : (Lit.int .i64 x.1).wf = true
  ct : (Lit.int .u64 (x.2 : Int)).wf = true
def lk (x : Lb) : Lit := .string (keyBytes [.int .i64 x.1, .int .u64 (x.2 : Int)])
theorem lbLaw : Keyed Try.prog 25 := Keyed.of_law (deep_law_laid (m := 2) (by kernel_rfl) (by omega) (of_decide_eq_true (by kernel_rfl)) (by kernel_rfl) (by kernel_rfl))
theorem typesSome3 : ∃ m, Try.prog.types.size = m + 1 + 1 + 1 := ⟨Try.prog.types.size - 3, of_decide_eq_true (by kernel_rfl)⟩
theorem lbKT : Try.prog.keyType 25 = true := by kernel_rfl
theorem kInt : Try.prog.cellsOf 3 = 1 := by kernel_rfl
theorem kU64 : Try.prog.cellsOf 23 = 1 := by kernel_rfl
theorem kLab : Try.prog.cellsOf 25 = 2 := by kernel_rfl
theorem kl_int (d : Nat) {n : Int} (h : (Lit.int .i64 n).wf = true) : Try.prog.keyLits (d + 1) 3 [.int .i64 n] = some [.int .i64 n] := by
  simp [Program.keyLits, Try.underlying3, h]
theorem kl_u64 (d : Nat) {n : Int} (h : (Lit.int .u64 n).wf = true) : Try.prog.keyLits (d + 1) 23 [.int .u64 n] = some [.int .u64 n] := by
  simp [Program.keyLits, Try.underlying23, h]
theorem lbKey {x : Lb} (h : Wl x) : keyOf Try.prog 25 (lbV x) = some (lk x) := by
  obtain ⟨m, hm⟩ := typesSome3
  unfold keyOf lbV
  simp only [Try.underlying25]
  rw [if_pos (by simp [lbKT, Value.formed, Try.underlying25, kLab]), hm]
  unfold Program.keyLits
  simp only [Try.underlying25, Value.cells]
  rw [if_pos ⟨by rw [kLab]; rfl, by kernel_rfl⟩]
  simp [kInt, kU64, kl_int _ h.lv, kl_u64 _ h.ct, lk]
theorem lbV_inj {x y : Lb} (h : lbV x = lbV y) : x = y := by
  obtain ⟨a1, a2⟩ := x
  obtain ⟨b1, b2⟩ := y
  simp only [lbV, Value.agg.injEq, Array.mk.injEq, List.cons.injEq, Value.int.injEq, and_true, true_and] at h
  obtain ⟨q1, q2⟩ := h
  subst q1
  have : a2 = b2 := by omega
  subst this
  rfl
theorem lk_inj {x y : Lb} (hx : Wl x) (hy : Wl y) (h : lk x = lk y) : x = y := by
  have e1 := lbKey hx
  have e2 := lbKey hy
  rw [h] at e1
  exact lbV_inj (lbLaw.inj e1 e2)
theorem kl_int_inv (d : Nat) {a : Value} {ls : List Lit} (h : Try.prog.keyLits (d + 1) 3 [a] = some ls) : ∃ n, a = .int .i64 n ∧ (Lit.int .i64 n).wf = true ∧ ls = [.int .i64 n] := by
  cases a <;> simp [Program.keyLits, Try.underlying3] at h
  rename_i q n
  obtain ⟨⟨rfl, h2⟩, rfl⟩ := h
  exact ⟨n, rfl, h2, rfl⟩
theorem kl_u64_inv (d : Nat) {a : Value} {ls : List Lit} (h : Try.prog.keyLits (d + 1) 23 [a] = some ls) : ∃ n, a = .int .u64 n ∧ (Lit.int .u64 n).wf = true ∧ ls = [.int .u64 n] := by
  cases a <;> simp [Program.keyLits, Try.underlying23] at h
  rename_i q n
  obtain ⟨⟨rfl, h2⟩, rfl⟩ := h
  exact ⟨n, rfl, h2, rfl⟩
theorem wf_u64 {n : Int} (h : (Lit.int .u64 n).wf = true) : 0 ≤ n := by
  simp [Lit.wf, IntKind.min, IntKind.signed, IntKind.bits] at h
  omega
set_option maxRecDepth 100000 in
/-- What reads as a key is a label's value. -/
theorem key_lb {key : Value} {kl : Lit} (h : keyOf Try.prog 25 key = some kl) : ∃ x : Lb, key = lbV x ∧ Wl x ∧ kl = lk x := by
  obtain ⟨m, hm⟩ := typesSome3
  unfold keyOf at h
  simp only [Try.underlying25] at h
  split at h
  · rename_i hf
    rw [hm] at h
    cases key with
    | agg cs =>
      have hsz : cs.size = 2 := by simpa [lbKT, Value.formed, Try.underlying25, kLab] using hf
      obtain ⟨l⟩ := cs
      match l, hsz with
      | [a, b], _ =>
        unfold Program.keyLits at h
        simp only [Try.underlying25, Value.cells] at h
        rw [if_pos ⟨by rw [kLab]; rfl, by kernel_rfl⟩] at h
        simp only [List.mapM_cons, List.mapM_nil, List.drop_zero, List.drop_succ_cons, kInt, kU64, List.take_succ_cons, List.take_zero] at h
        cases h1 : Try.prog.keyLits (m + 1 + 1 + 1) 3 [a] with
        | none => simp [h1] at h
        | some l1 =>
          cases h2 : Try.prog.keyLits (m + 1 + 1 + 1) 23 [b] with
          | none => simp [h1, h2] at h
          | some l2 =>
            obtain ⟨n, rfl, w1, rfl⟩ := kl_int_inv _ h1
            obtain ⟨k, rfl, w2, rfl⟩ := kl_u64_inv _ h2
            have hk := wf_u64 w2
            have ek : ((k.toNat : Nat) : Int) = k := by omega
            refine ⟨(n, k.toNat), by simp [lbV, ek], ⟨w1, by rw [ek]; exact w2⟩, ?_⟩
            simp [h1, h2] at h
            simp [lk, ek, ← h]
    | _ => simp [Value.formed, Try.underlying25] at hf
  · cases h
theorem zeroIn (w : World) : (zeroValue 3).run Try.prog w = .ok (.int .i64 0) w := by kernel_rfl
/-- Block mb is a map from labels to numbers that reads as f, of at most n entries; its keys are the labels that f tells of. -/
def MapIs (w : World) (mb n : Nat) (f : Lb → Nat) (D : DataW Unit) : Prop :=
  w.ownsMap Try.prog 25 (plainElem Try.prog 3) mb n D ∧ IsMap D ∧ ∀ k : Lb, Wl k → D.atKey (lk k) (.lit (.int .i64 0)) = .lit (.int .i64 (f k : Int)) ∧ has D (lk k) = decide (f k ≠ 0)
def upd (f : Lb → Nat) (k : Lb) (v : Nat) : Lb → Nat := fun x => if x = k then v else f x
theorem MapIs.start (w : World) : MapIs (w.alloc (.map #[] 0)) w.heap.size 0 (fun _ => 0) (.map []) :=
  ⟨World.ownsMap_made _ _ _ _, ⟨_, rfl⟩, fun _ _ => ⟨rfl, rfl⟩⟩
theorem MapIs.kept {w w' : World} {mb n : Nat} {f : Lb → Nat} {D : DataW Unit} {row : Option Nat} (h : MapIs w mb n f D) (hg : w.grownBy w' row) (hne : some mb ≠ row) : MapIs w' mb n f D := ⟨h.1.kept hg hne, h.2⟩
theorem MapIs.lt {w : World} {mb n : Nat} {f : Lb → Nat} {D : DataW Unit} (h : MapIs w mb n f D) : mb < w.heap.size := h.1.lt
theorem MapIs.notCells {w : World} {mb n : Nat} {f : Lb → Nat} {D : DataW Unit} (h : MapIs w mb n f D) {g : Nat} {cs : Array Value} {t : TypeId} {z : Nat × Nat} (hc : w.heap[g]? = some (.cells cs t z)) : g ≠ mb := by
  obtain ⟨⟨es, _, hb, _⟩, _, _⟩ := h
  rintro rfl
  rw [hb] at hc
  cases hc
theorem MapIs.look {w : World} {mb n : Nat} {f : Lb → Nat} {D : DataW Unit} (h : MapIs w mb n f D) {t : TypeId} (ht : Try.prog.underlying t = some (.map 25 3)) {x : Lb} (hx : Wl x) :
    (Instr.lookup t (.map (some mb)) (lbV x) false).run Try.prog w = .ok (.int .i64 (f x : Int)) w := by
  obtain ⟨h1, h2, h3⟩ := h
  obtain ⟨c, hrun, hat, hwc⟩ := h1.lookup_int lbLaw ht Try.underlying3 (zeroIn w) (lbKey hx)
  rw [(h3 x hx).1] at hat
  have e : (f x : Int) = c := by simpa only [DataW.lit.injEq, Lit.int.injEq, true_and] using hat
  rw [e]
  exact hrun
theorem MapIs.put {w : World} {mb n : Nat} {f : Lb → Nat} {D : DataW Unit} (h2 : IsMap D) (h3 : ∀ k : Lb, Wl k → D.atKey (lk k) (.lit (.int .i64 0)) = .lit (.int .i64 (f k : Int)) ∧ has D (lk k) = decide (f k ≠ 0)) {k : Lb} (hk : Wl k) {v : Nat} (hv : v ≠ 0)
    (h1 : w.ownsMap Try.prog 25 (plainElem Try.prog 3) mb n (D.put (lk k) (.lit (.int .i64 (v : Int))))) : MapIs w mb n (upd f k v) (D.put (lk k) (.lit (.int .i64 (v : Int)))) := by
  refine ⟨h1, h1.isMap, fun x hx => ?_⟩
  by_cases e : x = k
  · subst e
    rw [atKey_put_same (k := lk x) h2 trivial, upd, if_pos rfl, has_put_same (k := lk x) h2 trivial]
    exact ⟨rfl, by simp [hv]⟩
  · have hne : lk x ≠ lk k := fun q => e (lk_inj hx hk q)
    rw [atKey_put_other hne, (h3 x hx).1, upd, if_neg e, has_put_other hne, (h3 x hx).2]
    exact ⟨rfl, rfl⟩
/-- While the keys are told: no key twice; a key is on the list just where the map has it and it is no longer to come. -/
def Col (D : DataW Unit) (left : Lit → Bool) (ss : List Lb) : Prop := ss.Nodup ∧ (∀ x ∈ ss, Wl x) ∧ ∀ x, Wl x → (x ∈ ss ↔ (has D (lk x) = true ∧ left (lk x) = false))
theorem Col.start (D : DataW Unit) : Col D (has D) [] := ⟨List.nodup_nil, fun x h => by simp at h, fun x _ => by cases has D (lk x) <;> simp⟩
theorem Col.step {D : DataW Unit} {left : Lit → Bool} {ss : List Lb} (h : Col D left ss) {x : Lb} (hx : Wl x) {y : DataW Unit} (hlk : left (lk x) = true) (hat : ∀ zd, D.atKey (lk x) zd = y) : Col D (fun z => left z && !z.sameKey (lk x)) (ss ++ [x]) := by
  obtain ⟨h1, h2, h3⟩ := h
  have hhas : has D (lk x) = true := has_true_of_atKey hat
  have hnx : x ∉ ss := fun q => by have := ((h3 x hx).1 q).2; rw [hlk] at this; cases this
  refine ⟨?_, fun z hz => ?_, fun z hz => ?_⟩
  · rw [List.nodup_append]
    exact ⟨h1, by simp, fun a ha b hb => by
      rw [List.mem_singleton] at hb
      subst hb
      exact fun e => hnx (e ▸ ha)⟩
  · rcases List.mem_append.1 hz with hz | hz
    · exact h2 z hz
    · rw [List.mem_singleton] at hz
      subst hz
      exact hx
  · rw [List.mem_append, List.mem_singleton, h3 z hz]
    by_cases e : z = x
    · subst e
      have : (lk z).sameKey (lk z) = true := WideAt.sameKey_self trivial
      simp [hhas, this]
    · have : (lk z).sameKey (lk x) = false := by
        cases hs : (lk z).sameKey (lk x)
        · rfl
        · exact absurd (lk_inj hz hx (WideAt.sameKey_eq hs)) e
      simp [this, e]
/-- The keys of a map that reads as f. -/
def KeysAre (f : Lb → Nat) (ss : List Lb) : Prop := ss.Nodup ∧ (∀ x ∈ ss, Wl x) ∧ ∀ x, Wl x → (x ∈ ss ↔ f x ≠ 0)
theorem Col.all {w : World} {mb n : Nat} {f : Lb → Nat} {D : DataW Unit} {left : Lit → Bool} {ss : List Lb} (h : Col D left ss) (hm : MapIs w mb n f D) (hl : ∀ kl, left kl = false) : KeysAre f ss :=
  ⟨h.1, h.2.1, fun x hx => by rw [h.2.2 x hx, hl, (hm.2.2 x hx).2]; simp⟩
theorem MapIs.size {w : World} {mb n : Nat} {f : Lb → Nat} {D : DataW Unit} (h : MapIs w mb n f D) : Maps.size D ≤ n := by
  obtain ⟨⟨es, clock, hb, F, hs, rfl⟩, _, _⟩ := h
  simpa [Maps.size, length_sorted] using hs
end Go.Proofs.Ytmddikabilnokaa.Ta

namespace Go.Proofs.Ytmddikabilnokaa.V
set_option linter.unusedVariables false
set_option linter.unusedSimpArgs false
open Go.RowKit
open T
open I (It Lb ItemsIn ItemsAt ItemsOk itCells itCells_snoc itCells_at items_cells items_own own_at own_below infoItem alloc1)

/-- An item's cells. -/
structure ItAt (w : World) (bk o : Nat) (y : It) : Prop where
  lt : bk < w.heap.size
  c0 : w.cell? ⟨bk, o, none⟩ = some (.int .i64 y.id)
  c1 : w.cell? ⟨bk, o + 1, none⟩ = some (.int .i64 y.lv)
  c2 : w.cell? ⟨bk, o + 2, none⟩ = some (.int .u64 (y.ct : Int))
  c3 : w.cell? ⟨bk, o + 3, none⟩ = some (.bool y.an)
  c4 : w.cell? ⟨bk, o + 4, none⟩ = some (.string ⟨y.tx.toArray⟩)
  c5 : w.cell? ⟨bk, o + 5, none⟩ = some (.bool y.ba)
theorem ItAt.below {w w' : World} {bk o : Nat} {y : It} (h : ItAt w bk o y) (hb : Below w.heap.size w w') : ItAt w' bk o y :=
  ⟨Nat.lt_of_lt_of_le h.lt hb.size, (hb.cell (p := ⟨bk, _, none⟩) h.lt).trans h.c0, (hb.cell (p := ⟨bk, _, none⟩) h.lt).trans h.c1, (hb.cell (p := ⟨bk, _, none⟩) h.lt).trans h.c2, (hb.cell (p := ⟨bk, _, none⟩) h.lt).trans h.c3, (hb.cell (p := ⟨bk, _, none⟩) h.lt).trans h.c4, (hb.cell (p := ⟨bk, _, none⟩) h.lt).trans h.c5⟩
theorem it_at {w : World} {bk off k : Nat} {xs : List It} (h : ItemsAt w bk off xs) (hb : bk < w.heap.size) (hk : k < xs.length) : ItAt w bk (off + k * 6) xs[k] := by
  obtain ⟨c0, c1, c2, c3, c4, c5⟩ := h k hk
  exact ⟨hb, c0, c1, c2, c3, c4, c5⟩
theorem lab_cells {w : World} {g : Nat} {l : Int} {k : Nat} (h : w.heap[g]? = some (.cells #[.int .i64 l, .int .u64 (k : Int)] 25 (0, 0))) :
    w.cell? ⟨g, 0, none⟩ = some (.int .i64 l) ∧ w.cell? ⟨g, 1, none⟩ = some (.int .u64 (k : Int)) := ⟨L.blk_cell h 0, L.blk_cell h 1⟩
theorem own_base_le {w : World} {base base' : Nat} {e : TypeId} {size n : Nat} {v : Value} {xs : List Value} (h : w.ownsRow base e size v n xs) (hb : base' ≤ base) : w.ownsRow base' e size v n xs := own_more h hb
def RbC (l m : Int) (c d : Nat) (b : Bool) : Prop := ∀ w : World, Calls Try.prog 20 #[L.lab l c, L.lab m d] w fun e w' => e = .returned (.bool b) ∧ Below w.heap.size w w'
theorem RbC.call {l m : Int} {c d : Nat} {b : Bool} (h : RbC l m c d b) (w : World) : Calls Try.prog 20 #[L.lab l c, L.lab m d] w fun e w' => e = .returned (.bool b) ∧ Below w.heap.size w w' := h w
theorem rb_is (o : Lb) (y : It) (hc : y.ct < 18446744073709551616) : RbC y.lv o.1 y.ct o.2 (sees o y) := fun w => L.refBelow_any y.lv o.1 y.ct o.2 w hc
theorem cut_take {o : Lb} {l : List It} {k : Nat} (hk : k < l.length) : cut o (l.take (k + 1)) = cut o (l.take k) ++ (if sees o l[k] = true then [l[k]] else []) := by
  rw [List.take_succ_eq_append_getElem hk, cut_snoc]
theorem cut_le (o : Lb) (l : List It) : (cut o l).length ≤ l.length := List.length_filter_le _ _

set_option maxRecDepth 100000 in
set_option maxHeartbeats 2000000 in
theorem rcut_any (A : Option Addr) (cap : Nat) (l : List It) (o : Lb) (w : World) (hA : ItemsIn w A l) (hok : ItemsOk l) (hn : l.length * 56 ≤ 140737488355328) :
    Calls Try.prog 21 #[.slice A l.length cap, L.lab o.1 o.2] w fun e w' => (∃ v, e = .returned v ∧ w'.ownsRow w.heap.size 44 6 v (cut o l).length (itCells (cut o l))) ∧ Below w.heap.size w w' := by
  obtain ⟨i0, hi0, hz0, hz1, hz2⟩ := info_parts infoItem
  have HOK := Lib.hid hok
  obtain ⟨W0, hW0⟩ : ∃ W : World, W = w.alloc (.cells #[.int .i64 o.1, .int .u64 (o.2 : Int)] 25) := ⟨_, rfl⟩
  have hs0 : W0.heap.size = w.heap.size + 1 := by rw [hW0]; simp
  have HB0 := Lib.hid (show Below w.heap.size w W0 by rw [hW0]; exact alloc1 _ _)
  have HX0 := Lib.hid (show W0.heap[w.heap.size]? = some (.cells #[.int .i64 o.1, .int .u64 (o.2 : Int)] 25 (0, 0)) by rw [hW0]; exact heap_alloc_new w _)
  obtain ⟨W1, hW1⟩ : ∃ W : World, W = W0.alloc (.cells #[] 44) := ⟨_, rfl⟩
  have HO0 := Lib.hid (show W1.ownsRow W0.heap.size 44 6 (.slice (some ⟨W0.heap.size, 0, none⟩) 0 0) 0 [] by rw [hW1]; exact World.ownsRow_made W0 #[] 0 (Nat.le_refl _) (Nat.zero_le _) rfl)
  have HB1 := Lib.hid (show Below W0.heap.size W0 W1 by rw [hW1]; exact alloc1 _ _)
  have HA := Lib.hid (hA.below HB0.out)
  rw [hs0] at HO0
  have HS0 := Lib.hid hs0
  clear hs0
  clear hA hok
  obtain ⟨f0, f1⟩ := o
  simp only at hW0 HX0 ⊢
  go_enter Try.func21, Try.ntmps21
  go_wp2_with fail
  rw [← hW0, ← hW1]
  clear hW0 hW1
  go_loopg [5, 6] l.length (fun m v i wr => ∃ (k : Nat) (ys : List It), k ≤ l.length ∧ i = .int .i64 k ∧ l.length - k ≤ m ∧ wr.ownsRow W0.heap.size 44 6 v ys.length (itCells ys) ∧ Below W0.heap.size W0 wr ∧ Hid (ys = cut (f0, f1) (l.take k)))
  case atStart => exact ⟨0, [], Nat.zero_le _, rfl, by omega, by rw [HS0.out]; exact HO0.out, HB1.out, Lib.hid (by simp [cut])⟩
  case round =>
    obtain ⟨k, ys, hk, rfl, hm, hown, hbr, HY⟩ := hrel
    by_cases hlt : k < l.length
    · obtain ⟨bk, off, hAe, hbk, hI⟩ := HA.out (by omega)
      subst hAe
      have HI := Lib.hid ((it_at hI hbk hlt).below hbr)
      have HC := Lib.hid (rb_is (f0, f1) l[k] (HOK.out.ct _ (List.getElem_mem hlt)))
      have hyl : ys.length ≤ k := by rw [HY.out]; exact Nat.le_trans (cut_le _ _) (by rw [List.length_take]; omega)
      have HN := Lib.hid (cut_take (o := (f0, f1)) hlt)
      rw [← HY.out] at HN
      obtain ⟨x0, x1⟩ := lab_cells ((hbr.block _ (L.blk_lt HX0.out)).trans HX0.out)
      have h0k : (0 : Int) ≤ (k : Int) := by omega
      have hki : (k : Int) < (l.length : Int) := by omega
      have HOW := Lib.hid hown
      have HBR := Lib.hid hbr
      clear hI hown hbr HY
      generalize l[k] = y at *
      obtain ⟨b, hb⟩ : ∃ b, b = sees (f0, f1) y := ⟨_, rfl⟩
      rw [← hb] at HC HN
      clear hb
      have c1 := HI.out.c1
      have c2 := HI.out.c2
      go_wp2_with fail
      go_still_tail 6, (by kernel_rfl)
      change wpList _ _ _ _ _ (World.drew _)
      clear x0 x1 c1 c2
      go_wp2_with fail
      with_reducible refine (HC.out.call _).mono ?_
      rintro e w3 ⟨rfl, hb3'⟩
      have hb3 : Below wr.heap.size wr w3 := (Below.refl _ _).drew.trans hb3'
      replace HI := Lib.hid (HI.out.below hb3)
      replace HOW := Lib.hid (own_below HOW.out hb3)
      replace HBR := Lib.hid (HBR.out.trans (hb3.mono HBR.out.size))
      clear hb3 hb3' HC
      cases b with
      | false =>
        go_wp2_with fail
        go_roundg (l.length - (k + 1))
        case rel => exact ⟨k + 1, ys, by omega, by go_num, Nat.le_refl _, HOW.out, HBR.out, Lib.hid (by rw [HN.out]; simp)⟩
        case measure => omega
      | true =>
        obtain ⟨hlt3, c0, c1, c2, c3, c4, c5⟩ := HI.out
        obtain ⟨x, hx⟩ : ∃ x : ByteArray, x = ⟨y.tx.toArray⟩ := ⟨_, rfl⟩
        rw [← hx] at c4
        have HX := Lib.hid hx
        have hbs := HBR.out.size
        have HOA := Lib.hid (World.ownsRow.alloc HOW.out (.cells #[.int .i64 y.id, .int .i64 y.lv, .int .u64 (y.ct : Int), .bool y.an, .string x, .bool y.ba] 44))
        have HNW := Lib.hid (World.news_of_block (w := w3.alloc (.cells #[.int .i64 y.id, .int .i64 y.lv, .int .u64 (y.ct : Int), .bool y.an, .string x, .bool y.ba] 44)) (B := w3.heap.size) (heap_alloc_new w3 (.cells #[.int .i64 y.id, .int .i64 y.lv, .int .u64 (y.ct : Int), .bool y.an, .string x, .bool y.ba] 44)))
        have HB2 := Lib.hid (HBR.out.trans ((alloc1 w3 (.cells #[.int .i64 y.id, .int .i64 y.lv, .int .u64 (y.ct : Int), .bool y.an, .string x, .bool y.ba] 44)).mono hbs))
        clear hx HI hlt3
        go_wp2_with (at_builtin; refine wpList_append_own _ rfl (.tmp 21) (.tmp 26) 22 rfl W0.heap.size 44 i0 _ 6 56 Try.underlying22 hi0 hz0 hz1 hz2 rfl (by decide) _ ys.length (itCells ys) rfl HOA.out ⟨w3.heap.size, 0, none⟩ 1 1 [.int .i64 y.id, .int .i64 y.lv, .int .u64 (y.ct : Int), .bool y.an, .string x, .bool y.ba] rfl rfl HNW.out ?c2 ?c3 ?c4 ?c5 ?_)
        case c2 => first | exact ⟨rfl, rfl, rfl, rfl, rfl, rfl⟩ | (intro u hu; simp at hu; rcases hu with rfl | rfl | rfl | rfl | rfl | rfl <;> rfl)
        case c3 => simp only [maxLen]; omega
        case c4 => omega
        case c5 => first | omega | (simp; omega)
        intro v' w4 hown4 hg4 _
        have hbel4 : Below W0.heap.size W0 w4 := HB2.out.grown hg4 (by simp; omega) (own_base HOW.out)
        have e1 : itCells ys ++ [.int .i64 y.id, .int .i64 y.lv, .int .u64 (y.ct : Int), .bool y.an, .string x, .bool y.ba] = itCells (ys ++ [y]) := by rw [itCells_snoc, HX.out]
        rw [e1] at hown4
        have hl4 : (ys ++ [y]).length = ys.length + 1 := by simp
        rw [← hl4] at hown4
        clear e1 c0 c1 c2 c3 c4 c5 hg4
        go_wp2_with fail
        go_roundg (l.length - (k + 1))
        case rel => exact ⟨k + 1, ys ++ [y], by omega, by go_num, Nat.le_refl _, hown4, hbel4, Lib.hid (by rw [HN.out]; simp)⟩
        case measure => omega
    · obtain rfl : k = l.length := by omega
      have he := HY.out
      rw [List.take_length] at he
      subst he
      have HB9 := Lib.hid (HB0.out.trans (hbr.mono HB0.out.size))
      have HO9 := Lib.hid (own_more hown HB0.out.size)
      clear hown hbr
      go_wp2_with fail
      go_ret
      exact ⟨⟨_, rfl, HO9.out⟩, HB9.out⟩
end Go.Proofs.Ytmddikabilnokaa.V

namespace Go.Proofs.Ytmddikabilnokaa.Ta
set_option linter.unusedVariables false
set_option linter.unusedSimpArgs false
open Go.RowKit
open T
open I (It Lb ItemsIn ItemsAt itCells alloc1 own_at own_below)
open V (drawn_below ItAt it_at)

set_option maxRecDepth 100000 in
set_option maxHeartbeats 4000000 in
theorem lines_any (A : Option Addr) (cap : Nat) (l : List It) (a : Lb) (w : World) (hA : ItemsIn w A l) (hl : l.length ≤ 1000000000) :
    Calls Try.prog 11 #[.slice A l.length cap, .agg #[.int .i64 a.1, .int .u64 (a.2 : Int)]] w fun e w' => e = .returned (.int .i64 (((lns l).count a : Nat) : Int)) ∧ Below w.heap.size w w' := by
  obtain ⟨a0, a1⟩ := a
  obtain ⟨W0, hW0⟩ : ∃ W : World, W = w.alloc (.cells #[.int .i64 a0, .int .u64 (a1 : Int)] 25) := ⟨_, rfl⟩
  have hB0 : Below w.heap.size w W0 := by rw [hW0]; exact alloc1 _ _
  have HB0 := Lib.hid hB0
  have HX0 := Lib.hid (show W0.heap[w.heap.size]? = some (.cells #[.int .i64 a0, .int .u64 (a1 : Int)] 25 (0, 0)) by rw [hW0]; exact heap_alloc_new w _)
  have HA := Lib.hid (hA.below hB0)
  clear hA hB0
  go_enter Try.func11, Try.ntmps11
  go_wp2_with fail
  rw [← hW0]
  obtain ⟨xb, hxb⟩ : ∃ q, q = w.heap.size := ⟨_, rfl⟩
  rw [← hxb] at HX0
  rw [← hxb]
  have HXB := Lib.hid hxb
  clear hW0 hxb
  go_loopg [5, 10] l.length (fun q n i wr => ∃ (k c : Nat), k ≤ l.length ∧ i = .int .i64 k ∧ n = .int .i64 (c : Int) ∧ c ≤ k ∧ l.length - k ≤ q ∧ Hid (c = (lns (l.take k)).count (a0, a1)) ∧ Hid (Below W0.heap.size W0 wr))
  case atStart => exact ⟨0, 0, Nat.zero_le _, rfl, rfl, Nat.le_refl _, by omega, Lib.hid (by simp [lns]), Lib.hid (Below.refl _ _)⟩
  case round =>
    obtain ⟨k, c, hk, rfl, rfl, hck, hm, HC, HBR⟩ := hrel
    by_cases hlt : k < l.length
    · obtain ⟨bk, off, hAe, hbk, hIt⟩ := HA.out (by omega)
      subst hAe
      have HI := Lib.hid ((it_at hIt hbk hlt).below HBR.out)
      have HN := Lib.hid (count_take (a0, a1) hlt)
      rw [← HC.out] at HN
      have h0k : (0 : Int) ≤ (k : Int) := by omega
      have hki : (k : Int) < (l.length : Int) := by omega
      generalize l[k] = y at *
      obtain ⟨hlt3, c0, c1, c2, c3, c4, c5⟩ := HI.out
      obtain ⟨y0, x0, x1, an, tx, ba⟩ := y
      simp only [I.It.lb] at c0 c1 c2 c3 c4 c5 HN
      obtain ⟨xt, hxt⟩ : ∃ x : ByteArray, x = ⟨tx.toArray⟩ := ⟨_, rfl⟩
      rw [← hxt] at c4
      obtain ⟨w1, hw1⟩ : ∃ W : World, W = wr.alloc (.cells #[.int .i64 y0, .int .i64 x0, .int .u64 (x1 : Int), .bool an, .string xt, .bool ba] 44) := ⟨_, rfl⟩
      have hb1 : Below wr.heap.size wr w1 := by rw [hw1]; exact alloc1 _ _
      have HR := Lib.hid (HBR.out.trans (hb1.mono HBR.out.size))
      have hx1 : w1.heap[wr.heap.size]? = some (.cells #[.int .i64 y0, .int .i64 x0, .int .u64 (x1 : Int), .bool an, .string xt, .bool ba] 44 (0, 0)) := by rw [hw1]; exact heap_alloc_new wr _
      have g1 := L.blk_cell hx1 1
      have g2 := L.blk_cell hx1 2
      have g3 := L.blk_cell hx1 3
      have hx0 := (HR.out.block _ (L.blk_lt HX0.out)).trans HX0.out
      have z0 := L.blk_cell hx0 0
      have z1 := L.blk_cell hx0 1
      simp only [List.getElem?_toArray, List.getElem?_cons_zero, List.getElem?_cons_succ] at g1 g2 g3 z0 z1
      have hwq : IntKind.i64.wrap ((c : Int) + 1) = ((c + 1 : Nat) : Int) := by rw [IntKind.wrap_i64]; omega
      clear hb1 hx1 hx0 HI hxt hlt3 HBR HC
      go_upto_region 5 with fail
      rw [← hw1]
      obtain ⟨eb, heb⟩ : ∃ q, q = wr.heap.size := ⟨_, rfl⟩
      rw [← heb] at g1 g2 g3 ⊢
      clear hw1 c0 c1 c2 c3 c4 c5 heb
      cases an with
      | true =>
        go_wp2_with fail
        go_roundg (l.length - (k + 1))
        case rel => exact ⟨k + 1, c, by omega, by go_num, rfl, by omega, Nat.le_refl _, Lib.hid (by rw [HN.out]; simp), HR⟩
        case measure => omega
      | false =>
        by_cases e1 : x0 = a0
        · subst e1
          by_cases e2 : x1 = a1
          · subst e2
            go_wp2_with fail
            go_roundg (l.length - (k + 1))
            case rel => exact ⟨k + 1, c + 1, by omega, by go_num, by simp, by omega, Nat.le_refl _, Lib.hid (by rw [HN.out, if_pos (by simp)]), HR⟩
            case measure => omega
          · have e3 : ¬ (x1 : Int) = (a1 : Int) := by omega
            go_wp2_with fail
            go_roundg (l.length - (k + 1))
            case rel => exact ⟨k + 1, c, by omega, by go_num, rfl, by omega, Nat.le_refl _, Lib.hid (by rw [HN.out, if_neg (fun q => e2 (Prod.mk.inj q.2).2), Nat.add_zero]), HR⟩
            case measure => omega
        · by_cases e2 : x1 = a1
          · subst e2
            go_wp2_with fail
            go_roundg (l.length - (k + 1))
            case rel => exact ⟨k + 1, c, by omega, by go_num, rfl, by omega, Nat.le_refl _, Lib.hid (by rw [HN.out, if_neg (fun q => e1 (Prod.mk.inj q.2).1), Nat.add_zero]), HR⟩
            case measure => omega
          · have e3 : ¬ (x1 : Int) = (a1 : Int) := by omega
            go_wp2_with fail
            go_roundg (l.length - (k + 1))
            case rel => exact ⟨k + 1, c, by omega, by go_num, rfl, by omega, Nat.le_refl _, Lib.hid (by rw [HN.out, if_neg (fun q => e1 (Prod.mk.inj q.2).1), Nat.add_zero]), HR⟩
            case measure => omega
    · obtain rfl : k = l.length := by omega
      rw [List.take_length] at HC
      go_wp2_with fail
      go_ret
      exact ⟨by rw [HC.out]; rfl, HB0.out.trans (HBR.out.mono HB0.out.size)⟩
def LnC (fn : FuncId) (A : Option Addr) (cap : Nat) (l : List It) (a : Lb) (n : Nat) : Prop := ∀ w : World, ItemsIn w A l → Calls Try.prog fn #[.slice A l.length cap, .agg #[.int .i64 a.1, .int .u64 (a.2 : Int)]] w fun e w' => e = .returned (.int .i64 (n : Int)) ∧ Below w.heap.size w w'
theorem ln_is (A : Option Addr) (cap : Nat) (l : List It) (a : Lb) (hl : l.length ≤ 1000000000) : LnC 11 A cap l a ((lns l).count a) := fun w h => lines_any A cap l a w h hl
end Go.Proofs.Ytmddikabilnokaa.Ta

namespace Go.Proofs.Ytmddikabilnokaa.V
set_option linter.unusedVariables false
set_option linter.unusedSimpArgs false
open Go.RowKit
open T
open I (It Lb ItemsIn ItemsAt ItemsOk itCells itCells_snoc itCells_at items_cells items_own own_at own_below infoItem alloc1)

/-- The ID at a place; 0 where none is. -/
def idAt (l : List It) (a : Int) : Int := if 0 ≤ a then ((l[a.toNat]?).map (·.id)).getD 0 else 0
def ids (l : List It) (t : List Int) : List Int := t.map (idAt l)
theorem idAt_step {l : List It} {j : Nat} (hj : j < l.length) (a : Int) : idAt (l.take (j + 1)) a = if (j : Int) = a then l[j].id else idAt (l.take j) a := by
  unfold idAt
  by_cases h0 : 0 ≤ a
  · obtain ⟨n, rfl⟩ := Int.eq_ofNat_of_zero_le h0
    rw [if_pos h0, if_pos h0, Int.toNat_natCast, List.getElem?_take, List.getElem?_take]
    by_cases h1 : j = n
    · subst h1
      rw [if_pos rfl, if_pos (show j < j + 1 by omega), List.getElem?_eq_getElem hj]; rfl
    · rw [if_neg (show ¬ (j : Int) = (n : Int) by omega)]
      by_cases h2 : n < j
      · rw [if_pos (show n < j + 1 by omega), if_pos h2]
      · rw [if_neg (show ¬ n < j + 1 by omega), if_neg h2]
  · rw [if_neg h0, if_neg h0, if_neg (by omega)]
theorem idAt_none (a : Int) : idAt [] a = 0 := by unfold idAt; split <;> rfl
theorem ids_take {l : List It} {t : List Int} {k : Nat} (hk : k < t.length) : ids l (t.take (k + 1)) = ids l (t.take k) ++ [idAt l t[k]] := by
  unfold ids; rw [List.take_succ_eq_append_getElem hk, List.map_append]; rfl
end Go.Proofs.Ytmddikabilnokaa.V

namespace Go.Proofs.Ytmddikabilnokaa.V
set_option linter.unusedVariables false
set_option linter.unusedSimpArgs false
open Go.RowKit
open T
open I (It Lb ItemsIn ItemsAt ItemsOk itCells itCells_snoc itCells_at items_cells items_own own_at own_below infoItem alloc1)

theorem own_ne {w : World} {base : Nat} {e : TypeId} {size n : Nat} {v : Value} {xs : List Value} (h : w.ownsRow base e size v n xs) {g : Nat} (hne : ∀ cs, w.heap[g]? ≠ some (.cells cs e (0, 0))) : v.ownBlock = none ∨ v.ownBlock ≠ some g := by
  rcases h.2 with ⟨rfl, _⟩ | ⟨g', cap, cur, rfl, hg, hh, _⟩
  · exact .inl rfl
  · refine .inr fun e' => ?_
    simp [Value.ownBlock] at e'
    subst e'
    exact hne _ hh
theorem own_ne' {w : World} {base : Nat} {e : TypeId} {size n : Nat} {v : Value} {xs : List Value} (h : w.ownsRow base e size v n xs) {g : Nat} (hne : ∀ cs, w.heap[g]? ≠ some (.cells cs e (0, 0))) : some g ≠ v.ownBlock := fun e' => by
  rcases own_ne h hne with h1 | h1
  · rw [h1] at e'; cases e'
  · exact h1 e'.symm
theorem own_apart {w : World} {base base' : Nat} {e e' : TypeId} {size size' n n' : Nat} {v v' : Value} {xs xs' : List Value} (hne : e ≠ e') (h : w.ownsRow base e size v n xs) (h' : w.ownsRow base' e' size' v' n' xs') : v.ownBlock = none ∨ v.ownBlock ≠ v'.ownBlock := by
  rcases h'.2 with ⟨rfl, _⟩ | ⟨g', cap, cur, rfl, hg, hh, _⟩
  · cases hv : v.ownBlock with
    | none => exact .inl rfl
    | some k => exact .inr (by simp [Value.ownBlock])
  · rcases own_ne h (g := g') (fun cs he => by rw [hh] at he; injection he with he; injection he with _ he; exact hne he.symm) with h1 | h1
    · exact .inl h1
    · exact .inr (by simpa [Value.ownBlock] using h1)
theorem grown_of {w w' : World} (hb : Below w.heap.size w w') (row : Option Nat) : w.grownBy w' row := ⟨hb.os, hb.tape, hb.output, hb.size, fun k hk _ => hb.block k hk⟩
theorem grown_set (w : World) (p : Addr) (u : Value) : w.grownBy (w.setCell p u) (some p.block) :=
  ⟨rfl, rfl, rfl, by simp [World.setCell], fun k _ hk => Below.heap_setCell _ _ _ _ (fun e => hk (by rw [e]))⟩
section
variable {w w' : World} {base vb : Nat} {vl va v' : Value} {ls ls' : List (List UInt8 × Bool)} {ts ts' : List Int}
end
def atI (o : Lb) (l : List It) : List Int := (ats o 0 l).map fun n : Nat => (n : Int)
theorem atI_take {o : Lb} {l : List It} {k : Nat} (hk : k < l.length) : atI o (l.take (k + 1)) = atI o (l.take k) ++ (if sees o l[k] = true then [(k : Int)] else []) := by
  unfold atI
  rw [List.take_succ_eq_append_getElem hk, ats_snoc, List.map_append, Nat.zero_add, List.length_take, Nat.min_eq_left (by omega)]
  split <;> rfl
theorem lst_take {o : Lb} {l : List It} {k : Nat} (hk : k < l.length) : lst o 0 (-1) (l.take (k + 1)) = if sees o l[k] = true then (k : Int) else lst o 0 (-1) (l.take k) := by
  rw [List.take_succ_eq_append_getElem hk, lst_snoc, Nat.zero_add, List.length_take, Nat.min_eq_left (by omega)]
theorem rln_take {o : Lb} {h : List UInt8} {z : Int} {l : List It} {k : Nat} (hk : k < l.length) : rln o h z 0 (l.take (k + 1)) = rln o h z 0 (l.take k) ++ (if sees o l[k] = true then [(txt h l[k], decide ((k : Int) = z) && l[k].ba)] else []) := by
  rw [List.take_succ_eq_append_getElem hk, rln_snoc, Nat.zero_add, List.length_take, Nat.min_eq_left (by omega)]
theorem rln_length (o : Lb) (h : List UInt8) (z : Int) : ∀ (l : List It) (k : Nat), (rln o h z k l).length = (cut o l).length
  | [], _ => rfl
  | x :: r, k => by
    rw [rln]
    by_cases hx : sees o x = true
    · rw [if_pos hx, List.length_cons, rln_length o h z r]; simp [cut, hx]
    · rw [if_neg hx, rln_length o h z r]; simp [cut, hx]
theorem lnCells_snoc (xs : List (List UInt8 × Bool)) (t : List UInt8) (b : Bool) : lineCells (xs ++ [(t, b)]) = lineCells xs ++ [.string ⟨t.toArray⟩, .bool b] := lineCells_snoc xs t b
end Go.Proofs.Ytmddikabilnokaa.V
