/-
  The contracts of the reference's Has, Right and Below for labels.
  Rows of bytes in memory, and the contract of text.cut.
  The contracts of text.Words and text.Lines.
  Plain facts on lines: the bytes of the lines of bytes are the bytes; the lines of the bytes of right lines are the lines.
  Rows of lines in memory.
  The contract of text.Join: a new row of bytes, those of the lines.
  Rows of bytes in memory, wherever they lie, those of no byte too: as a text, and text.Lines of them. What a region's walk may be told anew on its way.
  Rows of numbers in memory; the contracts of the reference's Ints and of the law's sameItems (layer 5).
-/
import Derived.Test.YtimalohdchhjgaaGma
import Derived.Laws.BytesArg
import Derived.Deep.LoopGhost
import Derived.Lib.ConvBytes
import Derived.Lib.AppendStr
import Derived.Deep.RegionHeld
import Derived.Deep.QuietTactic
import Derived.BigQuiet
import Derived.StillTailTactics
namespace Go.Proofs.Ytimalohdchhjgaa.L
open Go.RowKit
open T

theorem has_bit (c k : Nat) : (((c : Int) / 2 ^ k).tmod 2 == 1) = c.testBit k := by
  have e : (c : Int) / 2 ^ k = ((c / 2 ^ k : Nat) : Int) := by simp
  rw [e, Nat.testBit_eq_decide_div_mod_eq]
  generalize c / 2 ^ k = y
  rw [Int.tmod_eq_emod_of_nonneg (by omega), Bool.eq_iff_iff]
  simp
  omega
/-- Two labels in boxes of the call's own. -/
abbrev Held2 (w : World) (l : Int) (c : Nat) (m : Int) (d : Nat) (w' : World) : Prop :=
  w'.cell? ⟨w.heap.size, 0, none⟩ = some (.int .i64 l) ∧ w'.cell? ⟨w.heap.size, 1, none⟩ = some (.int .u64 (c : Int)) ∧ w'.cell? ⟨w.heap.size + 1, 0, none⟩ = some (.int .i64 m) ∧ w'.cell? ⟨w.heap.size + 1, 1, none⟩ = some (.int .u64 (d : Int)) ∧ w.heap.size + 2 ≤ w'.heap.size ∧ Below w.heap.size w w'
theorem held2_below {w W W' : World} {l m : Int} {c d : Nat} (h : Held2 w l c m d W) (hb : Below W.heap.size W W') : Held2 w l c m d W' := by
  obtain ⟨h1, h2, h3, h4, h7, h8⟩ := h
  have hs := hb.size
  exact ⟨(bcell hb _ _ (by omega)).trans h1, (bcell hb _ _ (by omega)).trans h2, (bcell hb _ _ (by omega)).trans h3, (bcell hb _ _ (by omega)).trans h4, by omega, h8.trans (hb.mono h8.size)⟩
theorem held2_end {w W : World} {l m : Int} {c d : Nat} (h : Held2 w l c m d W) : Below w.heap.size w W := h.2.2.2.2.2

theorem sub_of_bits {c d : Nat} (hc : c < 18446744073709551616) (h : ∀ i, i < 64 → c.testBit i = true → d.testBit i = true) : c ||| d = d := by
  apply Nat.eq_of_testBit_eq
  intro i
  rw [Nat.testBit_or]
  by_cases hi : i < 64
  · cases hb : c.testBit i with
    | false => simp
    | true => rw [h i hi hb]; rfl
  · rw [Nat.testBit_lt_two_pow (Nat.lt_of_lt_of_le hc (Nat.pow_le_pow_right (n := 2) (by omega) (show 64 ≤ i by omega)))]; simp
theorem bit_of_sub {c d : Nat} (h : c ||| d = d) {i : Nat} (hi : c.testBit i = true) : d.testBit i = true := by
  rw [← h, Nat.testBit_or, hi]; rfl

end Go.Proofs.Ytimalohdchhjgaa.L

namespace Go.Proofs.Ytimalohdchhjgaa.T
open Go.RowKit

/-- A row of bytes in memory: the cells from an address on hold the bytes of a list. -/
def BytesAt (w : World) (bk off : Nat) (l : List UInt8) : Prop := ∀ j (h : j < l.length), w.cell? ⟨bk, off + j, none⟩ = some (.int .u8 (l[j].toNat : Int))
theorem BytesAt.below {w w' : World} {bk off B : Nat} {l : List UInt8} (h : BytesAt w bk off l) (hb : Below B w w') (hB : bk < B) : BytesAt w' bk off l :=
  fun j hj => (hb.cell (p := ⟨bk, off + j, none⟩) hB).trans (h j hj)
theorem BytesAt.sub {w : World} {bk off i n : Nat} {l : List UInt8} (h : BytesAt w bk off l) : BytesAt w bk (off + i) ((l.drop i).take n) := by
  intro j hj
  have hj' : j < n ∧ j < l.length - i := by simp at hj; omega
  have := h (i + j) (by omega)
  rw [Nat.add_assoc]
  simpa using this

theorem strOfNums_bytes (m : List UInt8) : strOfNums (m.map fun c => (c.toNat : Int)) = ⟨m.toArray⟩ := by
  unfold strOfNums
  congr 1
  congr 1
  rw [List.map_map]
  conv => rhs; rw [← List.map_id m]
  exact List.map_congr_left fun c _ => by simp
end Go.Proofs.Ytimalohdchhjgaa.T

namespace Go.Proofs.Ytimalohdchhjgaa.T
open Go.RowKit

/-- The cells of lines: each a text and whether it is bare. -/
def lineCells (xs : List (List UInt8 × Bool)) : List Value := xs.flatMap fun x => [.string ⟨x.1.toArray⟩, .bool x.2]
theorem lineCells_snoc (xs : List (List UInt8 × Bool)) (t : List UInt8) (b : Bool) : lineCells (xs ++ [(t, b)]) = lineCells xs ++ [.string ⟨t.toArray⟩, .bool b] := by simp [lineCells]
theorem lineCells_length (xs : List (List UInt8 × Bool)) : (lineCells xs).length = xs.length * 2 := by
  induction xs with
  | nil => rfl
  | cons x r ih => simp [lineCells] at ih ⊢; omega
theorem infoLine : (Try.prog.info? 51).map (fun i => (i.zero, i.size, i.bytes)) = some (some (.agg #[.string ⟨#[]⟩, .bool false]), 2, 24) := by kernel_rfl

theorem lines_at {l : List UInt8} {i j : Nat} (hj : j < l.length) (h : l[j].toNat = 10) :
    P.lines ((l.drop i).take (j - i)) (l.drop j) = ((l.drop i).take (j - i), false) :: P.lines [] (l.drop (j + 1)) := by
  rw [List.drop_eq_getElem_cons hj, P.lines, if_pos (UInt8.toNat_inj.1 h)]
theorem lines_on {l : List UInt8} {i j : Nat} (hij : i ≤ j) (hj : j < l.length) (h : ¬ l[j].toNat = 10) :
    P.lines ((l.drop i).take (j - i)) (l.drop j) = P.lines ((l.drop i).take (j + 1 - i)) (l.drop (j + 1)) := by
  rw [List.drop_eq_getElem_cons hj, P.lines, if_neg (fun e => h (by rw [e]; rfl))]
  congr 1
  rw [show j + 1 - i = (j - i) + 1 by omega, List.take_succ_eq_append_getElem (by simp; omega)]
  simp [show i + (j - i) = j by omega]
theorem lines_end {l : List UInt8} {i : Nat} (hi : i < l.length) : P.lines ((l.drop i).take (l.length - i)) (l.drop l.length) = [((l.drop i).take (l.length - i), true)] := by
  rw [List.drop_length, P.lines, if_neg]
  intro e
  have := congrArg List.length e
  simp at this; omega

/-- The cells of texts. -/
def strCells (xs : List (List UInt8)) : List Value := xs.map fun x => .string ⟨x.toArray⟩
theorem strCells_snoc (xs : List (List UInt8)) (t : List UInt8) : strCells (xs ++ [t]) = strCells xs ++ [.string ⟨t.toArray⟩] := by simp [strCells]

theorem words_at {l : List UInt8} {i j : Nat} (hj : j < l.length) (h : l[j].toNat = 32) :
    P.words ((l.drop i).take (j - i)) (l.drop j) = (l.drop i).take (j - i) :: P.words [] (l.drop (j + 1)) := by
  rw [List.drop_eq_getElem_cons hj, P.words, if_pos (UInt8.toNat_inj.1 h)]
theorem words_on {l : List UInt8} {i j : Nat} (hij : i ≤ j) (hj : j < l.length) (h : ¬ l[j].toNat = 32) :
    P.words ((l.drop i).take (j - i)) (l.drop j) = P.words ((l.drop i).take (j + 1 - i)) (l.drop (j + 1)) := by
  rw [List.drop_eq_getElem_cons hj, P.words, if_neg (fun e => h (by rw [e]; rfl))]
  congr 1
  rw [show j + 1 - i = (j - i) + 1 by omega, List.take_succ_eq_append_getElem (by simp; omega)]
  simp [show i + (j - i) = j by omega]
theorem words_end {l : List UInt8} {i : Nat} : P.words ((l.drop i).take (l.length - i)) (l.drop l.length) = [(l.drop i).take (l.length - i)] := by
  rw [List.drop_length, P.words]

end Go.Proofs.Ytimalohdchhjgaa.T

namespace Go.Proofs.Ytimalohdchhjgaa.P

/-- The bytes of lines. -/
def join : List (List UInt8 × Bool) → List UInt8
  | [] => []
  | (t, b) :: r => t ++ (if !b || !r.isEmpty then [10] else []) ++ join r
/-- May lines be those of bytes? -/
def right : List (List UInt8 × Bool) → Bool
  | [] => true
  | (t, b) :: r => !(t.contains 10) && !(b && (!r.isEmpty || t.isEmpty)) && right r

theorem join_lines : ∀ (l cur : List UInt8), join (lines cur l) = cur ++ l
  | [], cur => by
    rw [lines]
    split
    · next h => simp [h, join]
    · simp [join]
  | c :: r, cur => by
    rw [lines]
    split
    · next h => rw [join, join_lines r [], h]; simp
    · rw [join_lines r (cur ++ [c])]; simp
theorem right_lines : ∀ (l cur : List UInt8), (10 : UInt8) ∉ cur → right (lines cur l) = true
  | [], cur, h => by
    rw [lines]
    split
    · rfl
    · next hc => simp [right, h, hc]
  | c :: r, cur, h => by
    rw [lines]
    split
    · rw [right, right_lines r [] (by simp)]; simp [h]
    · next hc => exact right_lines r (cur ++ [c]) (by simp [h]; exact fun e => hc e.symm)
theorem lines_text (r : List UInt8) : ∀ (t cur : List UInt8), (10 : UInt8) ∉ t → lines cur (t ++ 10 :: r) = (cur ++ t, false) :: lines [] r
  | [], cur, _ => by simp [lines]
  | c :: t, cur, h => by
    have hc : ¬ c = 10 := fun e => h (by simp [e])
    rw [List.cons_append, lines, if_neg hc, lines_text r t _ (fun e => h (by simp [e]))]; simp
theorem lines_open : ∀ (t cur : List UInt8), (10 : UInt8) ∉ t → lines cur t = if cur ++ t = [] then [] else [(cur ++ t, true)]
  | [], cur, _ => by simp [lines]
  | c :: t, cur, h => by
    have hc : ¬ c = 10 := fun e => h (by simp [e])
    rw [lines, if_neg hc, lines_open t _ (fun e => h (by simp [e]))]; simp
theorem lines_join : ∀ (xs : List (List UInt8 × Bool)), right xs = true → lines [] (join xs) = xs
  | [], _ => rfl
  | (t, b) :: r, h => by
    rw [right, Bool.and_eq_true, Bool.and_eq_true] at h
    obtain ⟨⟨h1, h2⟩, h3⟩ := h
    have ht : (10 : UInt8) ∉ t := by simpa using h1
    have ih := lines_join r h3
    cases b with
    | false =>
      rw [join, show t ++ (if !false || !r.isEmpty then [10] else []) ++ join r = t ++ 10 :: join r by simp, lines_text _ _ _ ht, ih]; rfl
    | true =>
      simp at h2
      obtain ⟨h2, h4⟩ := h2
      subst h2
      rw [join, show t ++ (if !true || !([] : List (List UInt8 × Bool)).isEmpty then [10] else []) ++ join [] = t by simp [join], lines_open _ _ ht, if_neg (by simpa using h4)]; rfl
/-- How many bytes lines make at the most. -/
def bulk : List (List UInt8 × Bool) → Nat
  | [] => 0
  | (t, _) :: r => t.length + 1 + bulk r
theorem join_length : ∀ xs : List (List UInt8 × Bool), (join xs).length ≤ bulk xs
  | [] => Nat.le_refl _
  | (t, b) :: r => by
    have := join_length r
    rw [join, bulk]
    simp only [List.length_append]
    split <;> simp <;> omega
theorem length_bulk : ∀ xs : List (List UInt8 × Bool), xs.length ≤ bulk xs
  | [] => Nat.le_refl _
  | (t, b) :: r => by have := length_bulk r; rw [bulk, List.length_cons]; omega
theorem lines_bulk : ∀ (l cur : List UInt8), bulk (lines cur l) ≤ cur.length + l.length + 1
  | [], cur => by
    rw [lines]
    split
    · simp [bulk]
    · simp [bulk]
  | c :: r, cur => by
    rw [lines]
    split
    · rw [bulk]
      match r with
      | [] => simp [lines, bulk]
      | d :: r' => have := lines_bulk (d :: r') []; simp at this ⊢; omega
    · have := lines_bulk r (cur ++ [c]); simp at this ⊢; omega
end Go.Proofs.Ytimalohdchhjgaa.P

namespace Go.Proofs.Ytimalohdchhjgaa.T
open Go.RowKit

/-- Lines in memory: two cells each, from an address on. -/
def LinesAt (w : World) (bk off : Nat) (xs : List (List UInt8 × Bool)) : Prop :=
  ∀ j (h : j < xs.length), w.cell? ⟨bk, off + j * 2, none⟩ = some (.string ⟨xs[j].1.toArray⟩) ∧ w.cell? ⟨bk, off + j * 2 + 1, none⟩ = some (.bool xs[j].2)
/-- A slice's lines, wherever it lies. -/
def LinesIn (w : World) (A : Option Addr) (xs : List (List UInt8 × Bool)) : Prop :=
  0 < xs.length → ∃ bk off, A = some ⟨bk, off, none⟩ ∧ bk < w.heap.size ∧ LinesAt w bk off xs
theorem LinesAt.below {w w' : World} {bk off B : Nat} {xs : List (List UInt8 × Bool)} (h : LinesAt w bk off xs) (hb : Below B w w') (hB : bk < B) : LinesAt w' bk off xs :=
  fun j hj => ⟨(hb.cell (p := ⟨bk, off + j * 2, none⟩) hB).trans (h j hj).1, (hb.cell (p := ⟨bk, off + j * 2 + 1, none⟩) hB).trans (h j hj).2⟩
theorem LinesIn.below {w w' : World} {A : Option Addr} {xs : List (List UInt8 × Bool)} (h : LinesIn w A xs) (hb : Below w.heap.size w w') : LinesIn w' A xs := fun hp => by
  obtain ⟨bk, off, e, hlt, hl⟩ := h hp
  exact ⟨bk, off, e, Nat.lt_of_lt_of_le hlt hb.size, hl.below hb hlt⟩
theorem lineCells_at : ∀ (xs : List (List UInt8 × Bool)) (j : Nat) (h : j < xs.length), (lineCells xs)[j * 2]? = some (.string ⟨xs[j].1.toArray⟩) ∧ (lineCells xs)[j * 2 + 1]? = some (.bool xs[j].2)
  | x :: r, 0, _ => by simp [lineCells]
  | x :: r, j + 1, h => by
    have ih := lineCells_at r j (by simpa using h)
    have e : lineCells (x :: r) = .string ⟨x.1.toArray⟩ :: .bool x.2 :: lineCells r := by simp [lineCells]
    rw [e, show (j + 1) * 2 = j * 2 + 1 + 1 by omega]
    simpa using ih
theorem lines_of_own {w : World} {base : Nat} {v : Value} {xs : List (List UInt8 × Bool)} (h : w.ownsRow base 51 2 v xs.length (lineCells xs)) :
    ∃ A cap, v = .slice A xs.length cap ∧ xs.length ≤ cap ∧ LinesIn w A xs := by
  obtain ⟨A, cap, hv, hc, hA⟩ := own_form h
  refine ⟨A, cap, hv, hc, fun hp => ?_⟩
  obtain ⟨g, rfl, _, hlt, hcells⟩ := hA hp
  exact ⟨g, 0, rfl, hlt, fun j hj => ⟨by rw [Nat.zero_add]; exact hcells _ _ (lineCells_at xs j hj).1, by rw [Nat.zero_add]; exact hcells _ _ (lineCells_at xs j hj).2⟩⟩

theorem drop_line {xs : List (List UInt8 × Bool)} {k : Nat} (hk : k < xs.length) : xs.drop k = (xs[k].1, xs[k].2) :: xs.drop (k + 1) := List.drop_eq_getElem_cons hk
theorem text_len {xs : List (List UInt8 × Bool)} {k : Nat} (hk : k < xs.length) : xs[k].1.length + 1 ≤ P.bulk xs := by
  induction xs generalizing k with
  | nil => simp at hk
  | cons x r ih =>
    obtain ⟨t, b⟩ := x
    cases k with
    | zero => simp [P.bulk]
    | succ k => have := ih (k := k) (by simpa using hk); rw [P.bulk]; simp; omega
end Go.Proofs.Ytimalohdchhjgaa.T

namespace Go.Proofs.Ytimalohdchhjgaa.T
open Go.RowKit

def byteCells (l : List UInt8) : List Value := l.map fun c => .int .u8 (c.toNat : Int)
theorem byteCells_append (l r : List UInt8) : byteCells (l ++ r) = byteCells l ++ byteCells r := by simp [byteCells]
theorem byteCells_str (t : List UInt8) : Lib.strCells ⟨t.toArray⟩ = byteCells t := by simp [Lib.strCells, byteCells]
theorem infoByte : (Try.prog.info? 5).map (fun i => (i.zero, i.size, i.bytes)) = some (some (.int .u8 0), 1, 1) := by kernel_rfl
theorem own_lt {w : World} {base : Nat} {e : TypeId} {size n : Nat} {v : Value} {xs : List Value} (h : w.ownsRow base e size v n xs) : ∀ k, v.ownBlock = some k → k < w.heap.size := by
  intro k hk
  rcases h.2 with ⟨rfl, _⟩ | ⟨g, cap, cur, rfl, hg, hh, _⟩
  · simp [Value.ownBlock] at hk
  · simp [Value.ownBlock] at hk
    subst hk
    rcases Nat.lt_or_ge g w.heap.size with hlt | hge
    · exact hlt
    · rw [Array.getElem?_eq_none hge] at hh; cases hh
theorem box_kept {wr w1 : World} {base : Nat} {e : TypeId} {size n : Nat} {v : Value} {xs : List Value} {a b : Value} {T : TypeId} (h : wr.ownsRow base e size v n xs) (hg : (wr.alloc (.cells #[a, b] T)).grownBy w1 v.ownBlock) :
    w1.cell? ⟨wr.heap.size, 0, none⟩ = some a ∧ w1.cell? ⟨wr.heap.size, 1, none⟩ = some b := by
  have hne : some wr.heap.size ≠ v.ownBlock := fun he => by have := own_lt h _ he.symm; omega
  have hb := heap_alloc_new wr (.cells #[a, b] T)
  exact ⟨hg.cell (a := ⟨wr.heap.size, 0, none⟩) (cell_of_row _ _ 0 _ _ _ hb) hne, hg.cell (a := ⟨wr.heap.size, 1, none⟩) (cell_of_row _ _ 1 _ _ _ hb) hne⟩
theorem join_step {xs : List (List UInt8 × Bool)} {k : Nat} (hk : k < xs.length) : P.join (xs.drop k) = xs[k].1 ++ (if !xs[k].2 || decide (k + 1 < xs.length) then [10] else []) ++ P.join (xs.drop (k + 1)) := by
  rw [drop_line hk, P.join]
  congr 3
  cases h : (xs.drop (k + 1)).isEmpty with
  | true =>
    have := List.isEmpty_iff.1 h
    have := congrArg List.length this
    simp at this
    rw [decide_eq_false (by omega)]; rfl
  | false =>
    rw [decide_eq_true]; rfl
    have : ¬ xs.drop (k + 1) = [] := fun e => by rw [e] at h; cases h
    rcases Nat.lt_or_ge (k + 1) xs.length with h' | h'
    · exact h'
    · exact absurd (List.drop_eq_nil_of_le h') this

end Go.Proofs.Ytimalohdchhjgaa.T

namespace Go.Proofs.Ytimalohdchhjgaa.T
open Go.RowKit

/-- A slice's bytes, wherever it lies. -/
def BytesIn (w : World) (A : Option Addr) (l : List UInt8) : Prop :=
  0 < l.length → ∃ bk off, A = some ⟨bk, off, none⟩ ∧ bk < w.heap.size ∧ BytesAt w bk off l
theorem BytesIn.below {w w' : World} {A : Option Addr} {l : List UInt8} (h : BytesIn w A l) (hb : Below w.heap.size w w') : BytesIn w' A l := fun hp => by
  obtain ⟨bk, off, e, hlt, hl⟩ := h hp
  exact ⟨bk, off, e, Nat.lt_of_lt_of_le hlt hb.size, hl.below hb hlt⟩
theorem bytes_of_own {w : World} {base : Nat} {v : Value} {l : List UInt8} (h : w.ownsRow base 5 1 v l.length (byteCells l)) :
    ∃ A cap, v = .slice A l.length cap ∧ l.length ≤ cap ∧ BytesIn w A l := by
  obtain ⟨A, cap, hv, hc, hA⟩ := own_form h
  refine ⟨A, cap, hv, hc, fun hp => ?_⟩
  obtain ⟨g, rfl, _, hlt, hcells⟩ := hA hp
  exact ⟨g, 0, rfl, hlt, fun j hj => by rw [Nat.zero_add]; exact hcells _ _ (by simp [byteCells, List.getElem?_eq_getElem hj])⟩
section
variable {P : Program} {md : Region.Mode} {ops : Array Oper} {Q : Exit → Act → World → Prop} {S S' : World → Prop}
/-- On its way a region's walk may be asked for more behind each operation. -/
theorem wpAnyH_more (h : ∀ w, S' w → S w) : ∀ (fuel : Nat) (listed : Array Bool) (a : Act) (w : World), wpAnyH P md ops Q S' fuel listed a w → wpAnyH P md ops Q S fuel listed a w
  | 0, _, _, _, H => H
  | fuel + 1, _, _, _, H => ⟨H.1, fun i hi => wpOp_mono (fun a' w' h' => ⟨h _ h'.1, wpAnyH_more h fuel _ a' w' h'.2⟩) (H.2 i hi)⟩
end
/-- All that is there stays as it is. -/
def Keeps (w : World) : World → Prop := fun w' => Below w.heap.size w w'
theorem Keeps.b {a b : World} (h : Keeps a b) : Below a.heap.size a b := h
theorem keeps_drew (w : World) : Keeps w w.drew := (Below.refl _ _).drew
theorem Keeps.trans {a b c : World} (h : Keeps a b) (h' : Keeps b c) : Keeps a c := Below.trans h (Below.mono h' (Below.size h))
end Go.Proofs.Ytimalohdchhjgaa.T

namespace Go.Proofs.Ytimalohdchhjgaa.V
set_option linter.unusedVariables false
set_option linter.unusedSimpArgs false
open Go.RowKit
open T
open I (It Lb ItemsIn ItemsAt ItemsOk itCells itCells_snoc itCells_at items_cells own_at own_below alloc1)

/-- A slice's numbers, wherever it lies. -/
def IntsIn (w : World) (A : Option Addr) (xs : List Int) : Prop :=
  0 < xs.length → ∃ bk off, A = some ⟨bk, off, none⟩ ∧ bk < w.heap.size ∧ L.IntsAt w bk off xs
theorem IntsIn.below {w w' : World} {A : Option Addr} {xs : List Int} (h : IntsIn w A xs) (hb : Below w.heap.size w w') : IntsIn w' A xs := fun hp => by
  obtain ⟨bk, off, e, hlt, hl⟩ := h hp
  exact ⟨bk, off, e, Nat.lt_of_lt_of_le hlt hb.size, hl.below hb hlt⟩
/-- The cells of numbers. -/
def numCells (xs : List Int) : List Value := xs.map fun n => .int .i64 n
theorem numCells_snoc (xs : List Int) (n : Int) : numCells (xs ++ [n]) = numCells xs ++ [.int .i64 n] := by simp [numCells]
theorem ints_own {w : World} {base : Nat} {A : Option Addr} {cap : Nat} {xs : List Int} (h : w.ownsRow base 3 1 (.slice A xs.length cap) xs.length (numCells xs)) : IntsIn w A xs := by
  intro hp
  obtain ⟨g, hA, _, hlt, hc⟩ := own_at h hp
  refine ⟨g, 0, hA, hlt, fun j hj => ?_⟩
  rw [Nat.zero_add]
  exact hc j _ (by simp [numCells, List.getElem?_eq_getElem hj])
theorem drawn_below (w : World) (q : Nat) : Below w.heap.size w (w.drewN q) := below_drewN (Below.refl _ _) q
theorem ext_to {α : Type} {xs ys : List α} (hl : xs.length = ys.length) (h : ∀ j (hj : j < xs.length) (hj' : j < ys.length), j < xs.length → xs[j] = ys[j]) : xs = ys := List.ext_getElem hl fun j hj hj' => h j hj hj' hj
theorem ext_no {α : Type} {xs ys : List α} {k : Nat} (hk : k < xs.length) (hk' : k < ys.length) (h : ¬ xs[k] = ys[k]) : ¬ xs = ys := fun e => h (by subst e; rfl)
theorem ext_step {α : Type} {xs ys : List α} {k : Nat} (hk : k < xs.length) (hk' : k < ys.length) (h : xs[k] = ys[k]) (H : ∀ j (hj : j < xs.length) (hj' : j < ys.length), j < k → xs[j] = ys[j]) : ∀ j (hj : j < xs.length) (hj' : j < ys.length), j < k + 1 → xs[j] = ys[j] := fun j hj hj' hjk => by
  by_cases e : j = k
  · subst e; exact h
  · exact H j hj hj' (by omega)

theorem it_ne {a0 a1 b0 b1 : Int} {a2 b2 : Nat} {a3 a5 b3 b5 : Bool} {a4 b4 : List UInt8} (h : ¬ (⟨a0, a1, a2, a3, a4, a5⟩ : It) = ⟨b0, b1, b2, b3, b4, b5⟩) :
    a0 ≠ b0 ∨ (a0 = b0 ∧ a1 ≠ b1) ∨ (a0 = b0 ∧ a1 = b1 ∧ (a2 : Int) ≠ (b2 : Int)) ∨ (a0 = b0 ∧ a1 = b1 ∧ a2 = b2 ∧ a3 ≠ b3) ∨ (a0 = b0 ∧ a1 = b1 ∧ a2 = b2 ∧ a3 = b3 ∧ (⟨a4.toArray⟩ : ByteArray).toList ≠ (⟨b4.toArray⟩ : ByteArray).toList) ∨ (a0 = b0 ∧ a1 = b1 ∧ a2 = b2 ∧ a3 = b3 ∧ (⟨a4.toArray⟩ : ByteArray) = ⟨b4.toArray⟩ ∧ a5 ≠ b5) := by
  by_cases h0 : a0 = b0
  · by_cases h1 : a1 = b1
    · by_cases h2 : a2 = b2
      · by_cases h3 : a3 = b3
        · by_cases h4 : a4 = b4
          · by_cases h5 : a5 = b5
            · exact absurd (by rw [h0, h1, h2, h3, h4, h5]) h
            · exact .inr (.inr (.inr (.inr (.inr ⟨h0, h1, h2, h3, by rw [h4], h5⟩))))
          · refine .inr (.inr (.inr (.inr (.inl ⟨h0, h1, h2, h3, fun e => h4 ?_⟩))))
            simpa [Lib.toList_data] using e
        · exact .inr (.inr (.inr (.inl ⟨h0, h1, h2, h3⟩)))
      · exact .inr (.inr (.inl ⟨h0, h1, by omega⟩))
    · exact .inr (.inl ⟨h0, h1⟩)
  · exact .inl h0

end Go.Proofs.Ytimalohdchhjgaa.V
