/-
  A map from lines to numbers, kept as the list of the lines that it knows, in the order of their numbers; the contract of intern's number.
  The contract of intern's number: the numbers of lines, those that are known going on.
  The contract of intern's Numbers: rows of numbers in memory.
-/
import Derived.Test.YtimalohdchhjgaaGmf
import Derived.Maps.OwnSet
import Derived.Maps.Views
import Derived.DeepKeys4
import Derived.WideKeyPair
namespace Go.Proofs.Ytimalohdchhjgaa.N
set_option linter.unusedVariables false
set_option linter.unusedSimpArgs false
open Go.RowKit Go.Maps
open T
open V (grown_of IntsIn numCells numCells_snoc ints_own drawn_below)
open I (alloc1 own_at own_below)

theorem alloc_at {w : World} {n : Nat} (o : Obj) (h : w.heap.size = n) : (w.alloc o).heap[n]? = some o := by subst h; exact heap_alloc_new w o
abbrev Ln := List UInt8 × Bool
/-- What a line reads as, as a key. -/
def lk (x : Ln) : Lit := .string (keyBytes [.string x.1, .bool x.2])
theorem lnLaw : Keyed Try.prog 51 := Keyed.of_law (deep_law_laid (m := 3) (by kernel_rfl) (by omega) (of_decide_eq_true (by kernel_rfl)) (by kernel_rfl) (by kernel_rfl))
theorem typesSome : ∃ m, Try.prog.types.size = m + 1 + 1 := ⟨Try.prog.types.size - 2, of_decide_eq_true (by kernel_rfl)⟩
theorem lnKT : Try.prog.keyType 51 = true := by kernel_rfl
theorem cLn : Try.prog.cellsOf 51 = 2 := by kernel_rfl
theorem cSt : Try.prog.cellsOf 9 = 1 := by kernel_rfl
theorem cBo : Try.prog.cellsOf 4 = 1 := by kernel_rfl
theorem lnKey {s : ByteArray} (b : Bool) (hs : s.size ≤ maxLen) : keyOf Try.prog 51 (.agg #[.string s, .bool b]) = some (lk (s.data.toList, b)) := by
  obtain ⟨m, hm⟩ := typesSome
  unfold keyOf
  simp only [Try.underlying51]
  rw [if_pos (by simp [lnKT, Value.formed, Try.underlying51, cLn]), hm]
  unfold Program.keyLits
  simp only [Try.underlying51, Value.cells]
  rw [if_pos ⟨by rw [cLn]; rfl, by simp⟩]
  simp [cSt, cBo, Program.keyLits, Try.underlying9, Try.underlying4, hs, lk]
set_option maxRecDepth 100000 in
theorem lk_inj {x y : Ln} (hx : x.1.length ≤ maxLen) (hy : y.1.length ≤ maxLen) (h : lk x = lk y) : x = y := by
  obtain ⟨x1, x2⟩ := x
  obtain ⟨y1, y2⟩ := y
  have e1 : keyOf Try.prog 51 (.agg #[.string ⟨x1.toArray⟩, .bool x2]) = some (lk (x1, x2)) := by
    have := lnKey (s := ⟨x1.toArray⟩) x2 (by rw [list_size]; exact hx)
    rwa [list_data] at this
  have e2 : keyOf Try.prog 51 (.agg #[.string ⟨y1.toArray⟩, .bool y2]) = some (lk (y1, y2)) := by
    have := lnKey (s := ⟨y1.toArray⟩) y2 (by rw [list_size]; exact hy)
    rwa [list_data] at this
  rw [h] at e1
  have := lnLaw.inj e1 e2
  simp only [Value.agg.injEq, Array.mk.injEq, List.cons.injEq, Value.string.injEq, Value.bool.injEq, and_true, ByteArray.mk.injEq] at this
  exact Prod.ext this.1 this.2

/-- Block mb is a map from lines to numbers that knows these lines, in the order of their numbers. -/
structure KnI (w : World) (mb : Nat) (ks : List Ln) (D : DataW Unit) : Prop where
  own : w.ownsMap Try.prog 51 (plainElem Try.prog 3) mb ks.length D
  tidy : Tidy D
  has : ∀ x : Ln, x.1.length ≤ maxLen → Maps.has D (lk x) = decide (x ∈ ks)
  at_ : ∀ x : Ln, x.1.length ≤ maxLen → x ∈ ks → D.atKey (lk x) (.lit (.int .i64 0)) = .lit (.int .i64 (ks.idxOf x : Nat))
  size : Maps.size D = ks.length
def Kn (w : World) (mb : Nat) (ks : List Ln) : Prop := ∃ D, KnI w mb ks D
theorem Kn.start (w : World) : Kn (w.alloc (.map #[] 0)) w.heap.size [] :=
  ⟨.map [], ⟨World.ownsMap_made _ _ _ _, ⟨[], rfl, .nil⟩, fun _ _ => rfl, fun _ _ h => (by cases h), rfl⟩⟩
theorem Kn.kept {w w' : World} {mb : Nat} {ks : List Ln} {row : Option Nat} (h : Kn w mb ks) (hg : w.grownBy w' row) (hne : some mb ≠ row) : Kn w' mb ks := by
  obtain ⟨D, h1, h2, h3, h4, h5⟩ := h
  exact ⟨D, h1.kept hg hne, h2, h3, h4, h5⟩
theorem Kn.lt {w : World} {mb : Nat} {ks : List Ln} (h : Kn w mb ks) : mb < w.heap.size := by
  obtain ⟨D, h1, _⟩ := h
  exact h1.lt
theorem Kn.below {w w' : World} {mb : Nat} {ks : List Ln} (h : Kn w mb ks) (hb : Below w.heap.size w w') : Kn w' mb ks := h.kept (grown_of hb none) (by simp)
theorem Kn.notCells {w : World} {mb : Nat} {ks : List Ln} (h : Kn w mb ks) {g : Nat} {cs : Array Value} {t : TypeId} {z : Nat × Nat} (hc : w.heap[g]? = some (.cells cs t z)) : g ≠ mb := by
  obtain ⟨D, ⟨⟨es, _, hb, _⟩, _⟩⟩ := h
  rintro rfl
  rw [hb] at hc
  cases hc
theorem KnI.put {w w' : World} {mb : Nat} {ks : List Ln} {D : DataW Unit} (h : KnI w mb ks D) {x : Ln} (hx : x.1.length ≤ maxLen) (hn : x ∉ ks) (hall : ∀ y ∈ ks, y.1.length ≤ maxLen)
    (ho : w'.ownsMap Try.prog 51 (plainElem Try.prog 3) mb (ks.length + 1) (D.put (lk x) (.lit (.int .i64 (ks.length : Nat))))) : Kn w' mb (ks ++ [x]) := by
  have hk : WideAt.IsKeyLit (lk x) := trivial
  refine ⟨_, by rw [List.length_append]; exact ho, ho.tidy lnLaw, fun y hy => ?_, fun y hy hm => ?_, ?_⟩
  · by_cases e : y = x
    · subst e
      rw [has_put_same h.tidy.isMap hk, decide_eq_true (by simp)]
    · rw [has_put_other (fun q => e (lk_inj hy hx q)), h.has y hy]
      simp [e]
  · by_cases e : y = x
    · subst e
      rw [atKey_put_same h.tidy.isMap hk, List.idxOf_append, if_neg hn]
      simp
    · have hyk : y ∈ ks := by simpa [e] using hm
      rw [atKey_put_other (fun q => e (lk_inj hy hx q)), h.at_ y hy hyk, List.idxOf_append, if_pos hyk]
  · rw [size_put h.tidy, h.has x hx, decide_eq_false hn, h.size]
    simp
end Go.Proofs.Ytimalohdchhjgaa.N

namespace Go.Proofs.Ytimalohdchhjgaa.N
set_option linter.unusedVariables false
set_option linter.unusedSimpArgs false
open Go.RowKit Go.Maps
open T
open V (grown_of IntsIn numCells numCells_snoc ints_own drawn_below)
open I (alloc1 own_at own_below)

/-- The lines that are known, one more being seen. -/
def add (ks : List Ln) (x : Ln) : List Ln := if x ∈ ks then ks else ks ++ [x]
def known (ks : List Ln) (l : List Ln) : List Ln := l.foldl add ks
def row : List Ln → List Ln → List Int
  | _, [] => []
  | ks, x :: r => ((add ks x).idxOf x : Nat) :: row (add ks x) r
theorem known_snoc (ks : List Ln) (l : List Ln) (x : Ln) : known ks (l ++ [x]) = add (known ks l) x := by simp [known]
theorem row_snoc : ∀ (l ks : List Ln) (x : Ln), row ks (l ++ [x]) = row ks l ++ [(((add (known ks l) x).idxOf x : Nat) : Int)]
  | [], ks, x => by simp [row, known]
  | y :: r, ks, x => by
    rw [List.cons_append, row, row, row_snoc r (add ks y) x, List.cons_append]
    rfl
theorem row_length : ∀ (l ks : List Ln), (row ks l).length = l.length
  | [], _ => rfl
  | x :: r, ks => by rw [row, List.length_cons, row_length r, List.length_cons]
theorem add_length (ks : List Ln) (x : Ln) : (add ks x).length ≤ ks.length + 1 := by unfold add; split <;> simp
theorem known_length : ∀ (l ks : List Ln), (known ks l).length ≤ ks.length + l.length
  | [], ks => Nat.le_refl _
  | x :: r, ks => by
    have := known_length r (add ks x)
    have := add_length ks x
    show (known (add ks x) r).length ≤ _
    rw [List.length_cons]
    omega
theorem add_mem {ks : List Ln} {x : Ln} : x ∈ add ks x := by unfold add; split <;> simp [*]
theorem add_all {P : Ln → Prop} {ks : List Ln} {x : Ln} (h : ∀ y ∈ ks, P y) (hx : P x) : ∀ y ∈ add ks x, P y := fun y hy => by
  unfold add at hy
  split at hy
  · exact h y hy
  · rcases List.mem_append.1 hy with hy | hy
    · exact h y hy
    · simp at hy; subst hy; exact hx
theorem known_all {P : Ln → Prop} : ∀ (l : List Ln) {ks : List Ln}, (∀ y ∈ ks, P y) → (∀ y ∈ l, P y) → ∀ y ∈ known ks l, P y
  | [], _, h, _ => h
  | x :: r, _, h, h' => known_all r (add_all h (h' x (by simp))) (fun y hy => h' y (by simp [hy]))
theorem known_take {ks l : List Ln} {k : Nat} (hk : k < l.length) : known ks (l.take (k + 1)) = add (known ks (l.take k)) l[k] := by
  rw [List.take_succ_eq_append_getElem hk, known_snoc]
theorem row_take {ks l : List Ln} {k : Nat} (hk : k < l.length) : row ks (l.take (k + 1)) = row ks (l.take k) ++ [(((add (known ks (l.take k)) l[k]).idxOf l[k] : Nat) : Int)] := by
  rw [List.take_succ_eq_append_getElem hk, row_snoc]
theorem cell_grown {w w' : World} {row : Option Nat} (hg : w.grownBy w' row) {bk o : Nat} {v : Value} (hc : w.cell? ⟨bk, o, none⟩ = some v) (hne : some bk ≠ row) : w'.cell? ⟨bk, o, none⟩ = some v := by
  have hlt := World.block_lt_of_cell? w ⟨bk, o, none⟩ hc
  rw [← hc]
  simp only [World.cell?, hg.block bk hlt hne]
theorem Kn.noCell {w : World} {mb : Nat} {ks : List Ln} (h : Kn w mb ks) {g o : Nat} {v : Value} (hc : w.cell? ⟨g, o, none⟩ = some v) : g ≠ mb := by
  obtain ⟨D, ⟨⟨es, _, hb, _⟩, _⟩⟩ := h
  rintro rfl
  simp [World.cell?, hb] at hc
theorem zeroI (w : World) : (zeroValue 3).run Try.prog w = .ok (.int .i64 0) w := by kernel_rfl

theorem Kn.row {w : World} {mb : Nat} {ks : List Ln} (h : Kn w mb ks) {base : Nat} {e : TypeId} {size n : Nat} {v : Value} {xs : List Value} (ho : w.ownsRow base e size v n xs) : v.ownBlock ≠ some mb := by
  rcases ho.2 with ⟨rfl, _⟩ | ⟨g, cap, cur, rfl, _, hg, _⟩
  · simp [Value.ownBlock]
  · simp only [Value.ownBlock, ne_eq, Option.some.injEq]; exact h.notCells hg
end Go.Proofs.Ytimalohdchhjgaa.N

namespace Go.Proofs.Ytimalohdchhjgaa.N
set_option linter.unusedVariables false
set_option linter.unusedSimpArgs false
open Go.RowKit Go.Maps
open T
open V (grown_of IntsIn numCells numCells_snoc ints_own drawn_below)
open I (alloc1 own_at own_below)

/-- Lists of lines in memory. -/
def ListsAt (w : World) (bk off : Nat) (ls : List (List Ln)) : Prop :=
  ∀ j (h : j < ls.length), ∃ A c, w.cell? ⟨bk, off + j, none⟩ = some (.slice A ls[j].length c) ∧ LinesIn w A ls[j] ∧ ls[j].length ≤ c
def ListsIn (w : World) (A : Option Addr) (ls : List (List Ln)) : Prop :=
  0 < ls.length → ∃ bk off, A = some ⟨bk, off, none⟩ ∧ bk < w.heap.size ∧ ListsAt w bk off ls
theorem ListsIn.below {w w' : World} {A : Option Addr} {ls : List (List Ln)} (h : ListsIn w A ls) (hb : Below w.heap.size w w') : ListsIn w' A ls := fun hp => by
  obtain ⟨bk, off, e, hlt, hl⟩ := h hp
  refine ⟨bk, off, e, Nat.lt_of_lt_of_le hlt hb.size, fun j hj => ?_⟩
  obtain ⟨B, c, h1, h2, h3⟩ := hl j hj
  exact ⟨B, c, (hb.cell (p := ⟨bk, off + j, none⟩) hlt).trans h1, h2.below hb, h3⟩
/-- Rows of numbers, each in memory of its own: their values. -/
def Rws (w : World) (base : Nat) (vs : List Value) (rs : List (List Int)) : Prop :=
  vs.length = rs.length ∧ ∀ j (h : j < rs.length) (h' : j < vs.length), w.ownsRow base 3 1 vs[j] rs[j].length (numCells rs[j])
theorem Rws.nil (w : World) (base : Nat) : Rws w base [] [] := ⟨rfl, fun j h => by simp at h⟩
theorem Rws.snoc {w : World} {base : Nat} {vs : List Value} {rs : List (List Int)} (h : Rws w base vs rs) {v : Value} {r : List Int} (hv : w.ownsRow base 3 1 v r.length (numCells r)) : Rws w base (vs ++ [v]) (rs ++ [r]) := by
  refine ⟨by simp [h.1], fun j hj hj' => ?_⟩
  by_cases e : j < rs.length
  · have e' : j < vs.length := by rw [h.1]; exact e
    rw [List.getElem_append_left e', List.getElem_append_left e]
    exact h.2 j e e'
  · obtain rfl : j = rs.length := by simp at hj; omega
    rw [List.getElem_append_right (by rw [h.1]; exact Nat.le_refl _), List.getElem_append_right (Nat.le_refl _)]
    simpa [h.1] using hv
theorem Rws.kept {w w' : World} {base : Nat} {vs : List Value} {rs : List (List Int)} {row : Option Nat} (h : Rws w base vs rs) (hg : w.grownBy w' row) (hne : ∀ j (h : j < rs.length) (h' : j < vs.length), vs[j].ownBlock = none ∨ vs[j].ownBlock ≠ row) : Rws w' base vs rs :=
  ⟨h.1, fun j hj hj' => (h.2 j hj hj').kept hg (hne j hj hj')⟩
theorem Rws.below {w w' : World} {base : Nat} {vs : List Value} {rs : List (List Int)} (h : Rws w base vs rs) (hb : Below w.heap.size w w') : Rws w' base vs rs := ⟨h.1, fun j hj hj' => own_below (h.2 j hj hj') hb⟩
theorem Rws.more {w : World} {base base' : Nat} {vs : List Value} {rs : List (List Int)} (h : Rws w base vs rs) (hb : base' ≤ base) : Rws w base' vs rs := ⟨h.1, fun j hj hj' => own_more (h.2 j hj hj') hb⟩
def numsAll : List Ln → List (List Ln) → List (List Int)
  | _, [] => []
  | ks, l :: r => row ks l :: numsAll (known ks l) r
def knownAll (ks : List Ln) (ls : List (List Ln)) : List Ln := ls.foldl known ks
theorem numsAll_snoc : ∀ (ls : List (List Ln)) (ks : List Ln) (l : List Ln), numsAll ks (ls ++ [l]) = numsAll ks ls ++ [row (knownAll ks ls) l]
  | [], ks, l => rfl
  | x :: r, ks, l => by rw [List.cons_append, numsAll, numsAll, numsAll_snoc r (known ks x) l]; rfl
theorem knownAll_snoc (ls : List (List Ln)) (ks : List Ln) (l : List Ln) : knownAll ks (ls ++ [l]) = known (knownAll ks ls) l := by simp [knownAll]
theorem numsAll_take {ls : List (List Ln)} {ks : List Ln} {k : Nat} (hk : k < ls.length) : numsAll ks (ls.take (k + 1)) = numsAll ks (ls.take k) ++ [row (knownAll ks (ls.take k)) ls[k]] := by
  rw [List.take_succ_eq_append_getElem hk, numsAll_snoc]
theorem knownAll_take {ls : List (List Ln)} {ks : List Ln} {k : Nat} (hk : k < ls.length) : knownAll ks (ls.take (k + 1)) = known (knownAll ks (ls.take k)) ls[k] := by
  rw [List.take_succ_eq_append_getElem hk, knownAll_snoc]
theorem numsAll_length : ∀ (ls : List (List Ln)) (ks : List Ln), (numsAll ks ls).length = ls.length
  | [], _ => rfl
  | l :: r, ks => by rw [numsAll, List.length_cons, numsAll_length r, List.length_cons]
theorem knownAll_length : ∀ (ls : List (List Ln)) (ks : List Ln), (∀ l ∈ ls, l.length ≤ 60) → (knownAll ks ls).length ≤ ks.length + 60 * ls.length
  | [], ks, _ => Nat.le_refl _
  | l :: r, ks, h => by
    have := knownAll_length r (known ks l) (fun y hy => h y (by simp [hy]))
    have := known_length l ks
    have := h l (by simp)
    show (knownAll (known ks l) r).length ≤ _
    rw [List.length_cons]
    omega
theorem knownAll_all {P : Ln → Prop} : ∀ (ls : List (List Ln)) {ks : List Ln}, (∀ y ∈ ks, P y) → (∀ l ∈ ls, ∀ y ∈ l, P y) → ∀ y ∈ knownAll ks ls, P y
  | [], _, h, _ => h
  | l :: r, _, h, h' => knownAll_all r (known_all l h (h' l (by simp))) (fun m hm => h' m (by simp [hm]))
theorem infoRow : (Try.prog.info? 73).map (fun i => (i.zero, i.size, i.bytes)) = some (some (.slice none 0 0), 1, 24) := by kernel_rfl
theorem lines_grown {w w' : World} {mb : Nat} {A : Option Addr} {l : List Ln} (h : LinesIn w A l) (hg : w.grownBy w' (some mb)) {ks : List Ln} (hk : Kn w mb ks) : LinesIn w' A l := fun hp => by
  obtain ⟨bk, off, e, hlt, hl⟩ := h hp
  exact ⟨bk, off, e, Nat.lt_of_lt_of_le hlt hg.size, fun j hj => ⟨cell_grown hg (hl j hj).1 (by simp only [ne_eq, Option.some.injEq]; exact hk.noCell (hl j hj).1), cell_grown hg (hl j hj).2 (by simp only [ne_eq, Option.some.injEq]; exact hk.noCell (hl j hj).1)⟩⟩
/-- Numbers: a row of rows. -/
def NmEnd (W : World) (rs : List (List Int)) (e : Ending) (w' : World) : Prop := ∃ A cap vs, e = .returned (.slice A vs.length cap) ∧ w'.ownsRow W.heap.size 73 1 (.slice A vs.length cap) vs.length vs ∧ Rws w' W.heap.size vs rs ∧ Below W.heap.size W w'

end Go.Proofs.Ytimalohdchhjgaa.N
