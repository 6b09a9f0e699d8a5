/-
  Rows of a call's own: small facts.
  What a row of a call's own is, by its address and its cells.
  Items in memory, wherever they lie.
  The contract of label's Top.
  The contracts of label's Cats and Of.
  The contract of label's Of.
  The contracts of the reference's Has, Right and Below for labels.
  Rows of bytes in memory, and the contract of text.cut.
  The contracts of text.Words and text.Lines.
  Plain facts on lines: the bytes of the lines of bytes are the bytes; the lines of the bytes of right lines are the lines.
  Rows of lines in memory.
  The contract of text.Join: a new row of bytes, those of the lines.
  Rows of bytes in memory, wherever they lie, those of no byte too: as a text, and text.Lines of them. What a region's walk may be told anew on its way.
  Rows of numbers in memory; the contracts of the reference's Ints and of the law's sameItems (layer 5).
  The contract of the reference's Cut (layer 5).
  The contract of the reference's IDs (layer 5).
  The contract of the reference's Of (layer 5): a view while it is built.
  The contract of the reference's Of (layer 5).
  The contracts of text.has and text.Right.
  The contract of the reference's Same on two rows of the same lines; and what the laws on lines ask of the functions that they call, in one form each.
  Plain facts on numbers and their texts: the text of a number up to 2^31 - 1 is read as that number; what is read as a number is that number's text; reading without a bound and asking at the end comes to the same.
  Small facts on texts as bytes; the contracts of text.Number and text.Decimal in closed form.
-/
import Derived.Test.YtfndiggpnkjacaaDoorGza
import Derived.Deep.LoopGhost
import Derived.Deep.QuietTactic
import Derived.BigQuiet
import Derived.Laws.Rows
import Derived.Laws.BytesArg
import Derived.Lib.ConvBytes
import Derived.Lib.AppendStr
import Derived.Deep.RegionHeld
import Derived.StillTailTactics
import Derived.Deep.DeepCutAuto
import Derived.Deep.AppendLies
import Derived.Deep.DrawnRows
import Derived.BigRegion
namespace Go.Proofs.YtfndiggpnkjacaaDoor.T
open Go.RowKit

theorem own_base {w : World} {base : Nat} {e : TypeId} {size n : Nat} {v : Value} {xs : List Value} (h : w.ownsRow base e size v n xs) : ∀ k, v.ownBlock = some k → base ≤ k := by
  intro k hk
  rcases h.2 with ⟨rfl, _⟩ | ⟨g, cap, cur, rfl, hg, _⟩
  · simp [Value.ownBlock] at hk
  · simp [Value.ownBlock] at hk; omega

theorem own_more {w : World} {base base' : Nat} {e : TypeId} {size n : Nat} {v : Value} {xs : List Value} (h : w.ownsRow base e size v n xs) (hb : base' ≤ base) : w.ownsRow base' e size v n xs := by
  refine ⟨h.1, ?_⟩
  rcases h.2 with hv | ⟨g, cap, cur, hv, hg, hr⟩
  · exact .inl hv
  · exact .inr ⟨g, cap, cur, hv, Nat.le_trans hb hg, hr⟩

theorem infoStr : (Tryd.prog.info? 9).map (fun i => (i.zero, i.size, i.bytes)) = some (some (.string ⟨#[]⟩), 1, 16) := by kernel_rfl
end Go.Proofs.YtfndiggpnkjacaaDoor.T

namespace Go.Proofs.YtfndiggpnkjacaaDoor.T
open Go.RowKit

theorem own_form {w : World} {base : Nat} {e : TypeId} {size n : Nat} {v : Value} {xs : List Value} (h : w.ownsRow base e size v n xs) :
    ∃ A cap, v = .slice A n cap ∧ n ≤ cap ∧ (0 < n → ∃ g, A = some ⟨g, 0, none⟩ ∧ base ≤ g ∧ g < w.heap.size ∧ ∀ j u, xs[j]? = some u → w.cell? ⟨g, j, none⟩ = some u) := by
  rcases h.2 with ⟨rfl, rfl⟩ | ⟨g, cap, cur, rfl, hg, hh, hnc, _, _, hx⟩
  · exact ⟨none, 0, rfl, Nat.le_refl _, fun h => absurd h (by omega)⟩
  · refine ⟨_, cap, rfl, hnc, fun _ => ⟨g, rfl, hg, ?_, fun j u hu => ?_⟩⟩
    · rcases Nat.lt_or_ge g w.heap.size with hlt | hge
      · exact hlt
      · rw [Array.getElem?_eq_none hge] at hh; cases hh
    · rw [← hx] at hu
      have hu' : cur.toList[j]? = some u := by
        rw [List.getElem?_take] at hu
        split at hu
        · exact hu
        · cases hu
      simp [World.cell?, hh]
      simpa using hu'
end Go.Proofs.YtfndiggpnkjacaaDoor.T

namespace Go.Proofs.YtfndiggpnkjacaaDoor.I
set_option linter.unusedVariables false
set_option linter.unusedSimpArgs false
open Go.RowKit
open T

/-- The cells of items. -/
def itCells (xs : List It) : List Value := xs.flatMap fun x => [.int .i64 x.id, .int .i64 x.lv, .int .u64 (x.ct : Int), .bool x.an, .string ⟨x.tx.toArray⟩, .bool x.ba]
theorem itCells_snoc (xs : List It) (x : It) : itCells (xs ++ [x]) = itCells xs ++ [.int .i64 x.id, .int .i64 x.lv, .int .u64 (x.ct : Int), .bool x.an, .string ⟨x.tx.toArray⟩, .bool x.ba] := by simp [itCells]
theorem alloc1 (W : World) (o : Obj) : Below W.heap.size W (W.alloc o) := (Below.refl _ _).alloc (Nat.le_refl _) o
/-- A row of items in memory: six cells each, from an address on. -/
def ItemsAt (w : World) (bk off : Nat) (xs : List It) : Prop :=
  ∀ j (h : j < xs.length), w.cell? ⟨bk, off + j * 6, none⟩ = some (.int .i64 xs[j].id) ∧ w.cell? ⟨bk, off + j * 6 + 1, none⟩ = some (.int .i64 xs[j].lv) ∧ w.cell? ⟨bk, off + j * 6 + 2, none⟩ = some (.int .u64 (xs[j].ct : Int)) ∧ w.cell? ⟨bk, off + j * 6 + 3, none⟩ = some (.bool xs[j].an) ∧ w.cell? ⟨bk, off + j * 6 + 4, none⟩ = some (.string ⟨xs[j].tx.toArray⟩) ∧ w.cell? ⟨bk, off + j * 6 + 5, none⟩ = some (.bool xs[j].ba)
/-- A slice's items, wherever it lies. -/
def ItemsIn (w : World) (A : Option Addr) (xs : List It) : Prop :=
  0 < xs.length → ∃ bk off, A = some ⟨bk, off, none⟩ ∧ bk < w.heap.size ∧ ItemsAt w bk off xs
theorem ItemsAt.below {w w' : World} {bk off B : Nat} {xs : List It} (h : ItemsAt w bk off xs) (hb : Below B w w') (hB : bk < B) : ItemsAt w' bk off xs := fun j hj => by
  obtain ⟨h0, h1, h2, h3, h4, h5⟩ := h j hj
  exact ⟨(hb.cell (p := ⟨bk, _, none⟩) hB).trans h0, (hb.cell (p := ⟨bk, _, none⟩) hB).trans h1, (hb.cell (p := ⟨bk, _, none⟩) hB).trans h2, (hb.cell (p := ⟨bk, _, none⟩) hB).trans h3, (hb.cell (p := ⟨bk, _, none⟩) hB).trans h4, (hb.cell (p := ⟨bk, _, none⟩) hB).trans h5⟩
theorem ItemsIn.below {w w' : World} {A : Option Addr} {xs : List It} (h : ItemsIn w A xs) (hb : Below w.heap.size w w') : ItemsIn w' A xs := fun hp => by
  obtain ⟨bk, off, e, hlt, hl⟩ := h hp
  exact ⟨bk, off, e, Nat.lt_of_lt_of_le hlt hb.size, hl.below hb hlt⟩
theorem itCells_at : ∀ (xs : List It) (j : Nat) (h : j < xs.length), (itCells xs)[j * 6]? = some (.int .i64 xs[j].id) ∧ (itCells xs)[j * 6 + 1]? = some (.int .i64 xs[j].lv) ∧ (itCells xs)[j * 6 + 2]? = some (.int .u64 (xs[j].ct : Int)) ∧ (itCells xs)[j * 6 + 3]? = some (.bool xs[j].an) ∧ (itCells xs)[j * 6 + 4]? = some (.string ⟨xs[j].tx.toArray⟩) ∧ (itCells xs)[j * 6 + 5]? = some (.bool xs[j].ba)
  | x :: r, 0, _ => by simp [itCells]
  | x :: r, j + 1, h => by
    have ih := itCells_at r j (by simpa using h)
    have e : itCells (x :: r) = .int .i64 x.id :: .int .i64 x.lv :: .int .u64 (x.ct : Int) :: .bool x.an :: .string ⟨x.tx.toArray⟩ :: .bool x.ba :: itCells r := by simp [itCells]
    rw [e, show (j + 1) * 6 = j * 6 + 1 + 1 + 1 + 1 + 1 + 1 by omega]
    simpa using ih
theorem items_cells {w wr : World} {bk off B k : Nat} {xs : List It} (h : ItemsAt w bk off xs) (hb : Below B w wr) (hB : bk < B) (hk : k < xs.length) :
    wr.cell? ⟨bk, off + k * 6, none⟩ = some (.int .i64 xs[k].id) ∧ wr.cell? ⟨bk, off + k * 6 + 1, none⟩ = some (.int .i64 xs[k].lv) ∧ wr.cell? ⟨bk, off + k * 6 + 2, none⟩ = some (.int .u64 (xs[k].ct : Int)) ∧ wr.cell? ⟨bk, off + k * 6 + 3, none⟩ = some (.bool xs[k].an) ∧ wr.cell? ⟨bk, off + k * 6 + 4, none⟩ = some (.string ⟨xs[k].tx.toArray⟩) ∧ wr.cell? ⟨bk, off + k * 6 + 5, none⟩ = some (.bool xs[k].ba) := h.below hb hB k hk
/-- What of items a call may rely on. -/
structure ItemsOk (l : List It) : Prop where
  len : l.length ≤ maxLen
  tx : ∀ x ∈ l, x.tx.length ≤ maxLen
  ct : ∀ x ∈ l, x.ct < 18446744073709551616
theorem own_at {w : World} {base : Nat} {e : TypeId} {size n cap : Nat} {A : Option Addr} {xs : List Value} (h : w.ownsRow base e size (.slice A n cap) n xs) (hn : 0 < n) :
    ∃ g, A = some ⟨g, 0, none⟩ ∧ base ≤ g ∧ g < w.heap.size ∧ ∀ j u, xs[j]? = some u → w.cell? ⟨g, j, none⟩ = some u := by
  obtain ⟨A', cap', hv, _, hA⟩ := own_form h
  obtain ⟨g, hg, r⟩ := hA hn
  exact ⟨g, by rw [← hg]; exact (Value.slice.inj hv).1, r⟩
theorem own_below {w w' : World} {base : Nat} {e : TypeId} {size n : Nat} {v : Value} {xs : List Value} (h : w.ownsRow base e size v n xs) (hb : Below w.heap.size w w') : w'.ownsRow base e size v n xs := by
  refine h.kept (row := none) ⟨hb.os, hb.tape, hb.output, hb.size, fun k hk _ => hb.block k hk⟩ ?_
  cases v.ownBlock with
  | none => exact .inl rfl
  | some k => exact .inr (by simp)
end Go.Proofs.YtfndiggpnkjacaaDoor.I

namespace Go.Proofs.YtfndiggpnkjacaaDoor.L
open Go.RowKit
open T

theorem blk_cell {w : World} {g : Nat} {t : TypeId} {cs : Array Value} (h : w.heap[g]? = some (.cells cs t (0, 0))) (i : Nat) : w.cell? ⟨g, i, none⟩ = cs[i]? := cell_of_row w g i cs t (0, 0) h
theorem blk_free {w : World} {g : Nat} {t : TypeId} {cs : Array Value} (h : w.heap[g]? = some (.cells cs t (0, 0))) (i : Nat) : w.frozen? ⟨g, i, none⟩ = false := by simp [World.frozen?, h]
theorem blk_set {w : World} {g : Nat} {t : TypeId} {cs : Array Value} (h : w.heap[g]? = some (.cells cs t (0, 0))) (i : Nat) (u : Value) : (w.setCell ⟨g, i, none⟩ u).heap[g]? = some (.cells (cs.setIfInBounds i u) t (0, 0)) := by
  simp [World.setCell, Array.getElem?_modify, h]
theorem blk_far {w : World} {g g' i : Nat} (hne : g ≠ g') (u : Value) : (w.setCell ⟨g', i, none⟩ u).heap[g]? = w.heap[g]? := Below.heap_setCell w ⟨g', i, none⟩ u g hne
theorem blk_lt {w : World} {g : Nat} {o : Obj} (h : w.heap[g]? = some o) : g < w.heap.size := by
  rcases Nat.lt_or_ge g w.heap.size with hlt | hge
  · exact hlt
  · rw [Array.getElem?_eq_none hge] at h; cases h

/-- All categories below k. -/
theorem ones_or (k : Nat) : (2 ^ k - 1) ||| 2 ^ k = 2 ^ (k + 1) - 1 := by
  have h := nat_join k (2 ^ k) (2 ^ k - 1) (Nat.mod_self _) (by have := Nat.pow_pos (n := k) (show 0 < 2 by omega); omega)
  rw [Nat.or_comm, h, Nat.pow_succ]
  have := Nat.pow_pos (n := k) (show 0 < 2 by omega)
  omega

end Go.Proofs.YtfndiggpnkjacaaDoor.L

namespace Go.Proofs.YtfndiggpnkjacaaDoor.L
open Go.RowKit
open T

/-- The categories of a label, from k on up to 64. -/
def catsTo (c k : Nat) : List Nat := (List.range k).filter fun i => c.testBit i
def intCells (xs : List Nat) : List Value := xs.map fun n : Nat => .int .i64 (n : Int)
theorem intCells_snoc (xs : List Nat) (n : Nat) : intCells (xs ++ [n]) = intCells xs ++ [.int .i64 (n : Int)] := by simp [intCells]
theorem catsTo_yes {c k : Nat} (h : c.testBit k = true) : catsTo c (k + 1) = catsTo c k ++ [k] := by simp [catsTo, List.range_succ, h]
theorem catsTo_no {c k : Nat} (h : c.testBit k = false) : catsTo c (k + 1) = catsTo c k := by simp [catsTo, List.range_succ, h]
theorem catsTo_len (c k : Nat) : (catsTo c k).length ≤ k := by
  have := List.length_filter_le (fun i => c.testBit i) (List.range k)
  simpa [catsTo] using this
theorem and_bit (c k : Nat) : (c &&& 2 ^ k = 0) ↔ c.testBit k = false := by
  rw [nat_bit, Nat.testBit_eq_decide_div_mod_eq]
  have hp := Nat.pow_pos (n := k) (show 0 < 2 by omega)
  rcases Nat.mod_two_eq_zero_or_one (c / 2 ^ k) with h | h <;> rw [h] <;> simp
theorem infoInt : (Tryd.prog.info? 3).map (fun i => (i.zero, i.size, i.bytes)) = some (some (.int .i64 0), 1, 8) := by kernel_rfl

end Go.Proofs.YtfndiggpnkjacaaDoor.L

namespace Go.Proofs.YtfndiggpnkjacaaDoor.L
open Go.RowKit
open T

/-- The categories of a list of numbers, beside those that are there; none if one is no category. -/
def ofGo : List Int → Nat → Option Nat
  | [], c => some c
  | x :: r, c => if x < 0 ∨ 63 < x then none else ofGo r (c ||| 2 ^ x.toNat)
def ofAll (l : Int) (xs : List Int) : Option Nat := if rightB l then ofGo xs 0 else none
def ofVal (l : Int) (o : Option Nat) : Value := match o with
  | some c => .tuple #[lab l c, .int .i64 0]
  | none => .tuple #[lab 0 0, .int .i64 2]
theorem ofVal_none (l : Int) : ofVal l none = .tuple #[lab 0 0, .int .i64 2] := rfl
theorem ofVal_some (l : Int) (c : Nat) : ofVal l (some c) = .tuple #[lab l c, .int .i64 0] := rfl

/-- A row of numbers in memory. -/
def IntsAt (w : World) (bk off : Nat) (xs : List Int) : Prop := ∀ j (h : j < xs.length), w.cell? ⟨bk, off + j, none⟩ = some (.int .i64 xs[j])
theorem IntsAt.below {w w' : World} {bk off B : Nat} {xs : List Int} (h : IntsAt w bk off xs) (hb : Below B w w') (hB : bk < B) : IntsAt w' bk off xs :=
  fun j hj => (hb.cell (p := ⟨bk, off + j, none⟩) hB).trans (h j hj)

theorem of_bad {xs : List Int} {k c : Nat} (hk : k < xs.length) (h : xs[k] < 0 ∨ 63 < xs[k]) : ofGo (xs.drop k) c = none := by
  rw [List.drop_eq_getElem_cons hk, ofGo, if_pos h]
theorem of_on {xs : List Int} {k c : Nat} (hk : k < xs.length) (h : ¬ (xs[k] < 0 ∨ 63 < xs[k])) : ofGo (xs.drop k) c = ofGo (xs.drop (k + 1)) (c ||| 2 ^ xs[k].toNat) := by
  rw [List.drop_eq_getElem_cons hk, ofGo, if_neg h]
theorem of_end {xs : List Int} {c : Nat} : ofGo (xs.drop xs.length) c = some c := by rw [List.drop_length, ofGo]
theorem or_small {a b : Nat} (ha : a < 18446744073709551616) (hb : b < 18446744073709551616) : a ||| b < 18446744073709551616 := Nat.or_lt_two_pow (n := 64) ha hb

theorem two_blocks (w : World) (a b : Obj) : ((w.alloc a).alloc b).heap[w.heap.size]? = some a ∧ ((w.alloc a).alloc b).heap[w.heap.size + 1]? = some b := by
  refine ⟨?_, ?_⟩
  · rw [Below.heap_alloc _ _ _ (by simp)]; exact heap_alloc_new w _
  · have := heap_alloc_new (w.alloc a) b
    rwa [World.size_alloc] at this

end Go.Proofs.YtfndiggpnkjacaaDoor.L

namespace Go.Proofs.YtfndiggpnkjacaaDoor.L
open Go.RowKit
open T

theorem has_bit (c k : Nat) : (((c : Int) / 2 ^ k).tmod 2 == 1) = c.testBit k := by
  have e : (c : Int) / 2 ^ k = ((c / 2 ^ k : Nat) : Int) := by simp
  rw [e, Nat.testBit_eq_decide_div_mod_eq]
  generalize c / 2 ^ k = y
  rw [Int.tmod_eq_emod_of_nonneg (by omega), Bool.eq_iff_iff]
  simp
  omega
/-- Two labels in boxes of the call's own. -/
abbrev Held2 (w : World) (l : Int) (c : Nat) (m : Int) (d : Nat) (w' : World) : Prop :=
  w'.cell? ⟨w.heap.size, 0, none⟩ = some (.int .i64 l) ∧ w'.cell? ⟨w.heap.size, 1, none⟩ = some (.int .u64 (c : Int)) ∧ w'.cell? ⟨w.heap.size + 1, 0, none⟩ = some (.int .i64 m) ∧ w'.cell? ⟨w.heap.size + 1, 1, none⟩ = some (.int .u64 (d : Int)) ∧ w.heap.size + 2 ≤ w'.heap.size ∧ Below w.heap.size w w'
theorem held2_below {w W W' : World} {l m : Int} {c d : Nat} (h : Held2 w l c m d W) (hb : Below W.heap.size W W') : Held2 w l c m d W' := by
  obtain ⟨h1, h2, h3, h4, h7, h8⟩ := h
  have hs := hb.size
  exact ⟨(bcell hb _ _ (by omega)).trans h1, (bcell hb _ _ (by omega)).trans h2, (bcell hb _ _ (by omega)).trans h3, (bcell hb _ _ (by omega)).trans h4, by omega, h8.trans (hb.mono h8.size)⟩
theorem held2_end {w W : World} {l m : Int} {c d : Nat} (h : Held2 w l c m d W) : Below w.heap.size w W := h.2.2.2.2.2

theorem sub_of_bits {c d : Nat} (hc : c < 18446744073709551616) (h : ∀ i, i < 64 → c.testBit i = true → d.testBit i = true) : c ||| d = d := by
  apply Nat.eq_of_testBit_eq
  intro i
  rw [Nat.testBit_or]
  by_cases hi : i < 64
  · cases hb : c.testBit i with
    | false => simp
    | true => rw [h i hi hb]; rfl
  · rw [Nat.testBit_lt_two_pow (Nat.lt_of_lt_of_le hc (Nat.pow_le_pow_right (n := 2) (by omega) (show 64 ≤ i by omega)))]; simp
theorem bit_of_sub {c d : Nat} (h : c ||| d = d) {i : Nat} (hi : c.testBit i = true) : d.testBit i = true := by
  rw [← h, Nat.testBit_or, hi]; rfl

end Go.Proofs.YtfndiggpnkjacaaDoor.L

namespace Go.Proofs.YtfndiggpnkjacaaDoor.T
open Go.RowKit

/-- A row of bytes in memory: the cells from an address on hold the bytes of a list. -/
def BytesAt (w : World) (bk off : Nat) (l : List UInt8) : Prop := ∀ j (h : j < l.length), w.cell? ⟨bk, off + j, none⟩ = some (.int .u8 (l[j].toNat : Int))
theorem BytesAt.below {w w' : World} {bk off B : Nat} {l : List UInt8} (h : BytesAt w bk off l) (hb : Below B w w') (hB : bk < B) : BytesAt w' bk off l :=
  fun j hj => (hb.cell (p := ⟨bk, off + j, none⟩) hB).trans (h j hj)
theorem BytesAt.sub {w : World} {bk off i n : Nat} {l : List UInt8} (h : BytesAt w bk off l) : BytesAt w bk (off + i) ((l.drop i).take n) := by
  intro j hj
  have hj' : j < n ∧ j < l.length - i := by simp at hj; omega
  have := h (i + j) (by omega)
  rw [Nat.add_assoc]
  simpa using this

theorem strOfNums_bytes (m : List UInt8) : strOfNums (m.map fun c => (c.toNat : Int)) = ⟨m.toArray⟩ := by
  unfold strOfNums
  congr 1
  congr 1
  rw [List.map_map]
  conv => rhs; rw [← List.map_id m]
  exact List.map_congr_left fun c _ => by simp
theorem conv_bytes (w : World) (bk off len cap : Nat) (m : List UInt8) (hlen : m.length = len) (h : BytesAt w bk off m) :
    (convert 40 9 (.slice (some ⟨bk, off, none⟩) len cap)).run Tryd.prog w = .ok (.string ⟨m.toArray⟩) w := by
  have hc := run_convert_bytes_arg (P := Tryd.prog) w 40 5 Tryd.underlying40 Tryd.underlying5 bk off len cap (m.map fun c => (c.toNat : Int)) (by simpa using hlen)
    (fun i hi => by
      have hi' : i < m.length := by omega
      rw [h i hi']
      simp [List.getElem?_eq_getElem hi']) 9 Tryd.underlying9
  rw [hc, strOfNums_bytes]

end Go.Proofs.YtfndiggpnkjacaaDoor.T

namespace Go.Proofs.YtfndiggpnkjacaaDoor.T
open Go.RowKit

/-- The cells of lines: each a text and whether it is bare. -/
def lineCells (xs : List (List UInt8 × Bool)) : List Value := xs.flatMap fun x => [.string ⟨x.1.toArray⟩, .bool x.2]
theorem lineCells_snoc (xs : List (List UInt8 × Bool)) (t : List UInt8) (b : Bool) : lineCells (xs ++ [(t, b)]) = lineCells xs ++ [.string ⟨t.toArray⟩, .bool b] := by simp [lineCells]
theorem lineCells_length (xs : List (List UInt8 × Bool)) : (lineCells xs).length = xs.length * 2 := by
  induction xs with
  | nil => rfl
  | cons x r ih => simp [lineCells] at ih ⊢; omega
theorem infoLine : (Tryd.prog.info? 44).map (fun i => (i.zero, i.size, i.bytes)) = some (some (.agg #[.string ⟨#[]⟩, .bool false]), 2, 24) := by kernel_rfl

theorem lines_at {l : List UInt8} {i j : Nat} (hj : j < l.length) (h : l[j].toNat = 10) :
    P.lines ((l.drop i).take (j - i)) (l.drop j) = ((l.drop i).take (j - i), false) :: P.lines [] (l.drop (j + 1)) := by
  rw [List.drop_eq_getElem_cons hj, P.lines, if_pos (UInt8.toNat_inj.1 h)]
theorem lines_on {l : List UInt8} {i j : Nat} (hij : i ≤ j) (hj : j < l.length) (h : ¬ l[j].toNat = 10) :
    P.lines ((l.drop i).take (j - i)) (l.drop j) = P.lines ((l.drop i).take (j + 1 - i)) (l.drop (j + 1)) := by
  rw [List.drop_eq_getElem_cons hj, P.lines, if_neg (fun e => h (by rw [e]; rfl))]
  congr 1
  rw [show j + 1 - i = (j - i) + 1 by omega, List.take_succ_eq_append_getElem (by simp; omega)]
  simp [show i + (j - i) = j by omega]
theorem lines_end {l : List UInt8} {i : Nat} (hi : i < l.length) : P.lines ((l.drop i).take (l.length - i)) (l.drop l.length) = [((l.drop i).take (l.length - i), true)] := by
  rw [List.drop_length, P.lines, if_neg]
  intro e
  have := congrArg List.length e
  simp at this; omega

/-- The cells of texts. -/
def strCells (xs : List (List UInt8)) : List Value := xs.map fun x => .string ⟨x.toArray⟩
theorem strCells_snoc (xs : List (List UInt8)) (t : List UInt8) : strCells (xs ++ [t]) = strCells xs ++ [.string ⟨t.toArray⟩] := by simp [strCells]

theorem words_at {l : List UInt8} {i j : Nat} (hj : j < l.length) (h : l[j].toNat = 32) :
    P.words ((l.drop i).take (j - i)) (l.drop j) = (l.drop i).take (j - i) :: P.words [] (l.drop (j + 1)) := by
  rw [List.drop_eq_getElem_cons hj, P.words, if_pos (UInt8.toNat_inj.1 h)]
theorem words_on {l : List UInt8} {i j : Nat} (hij : i ≤ j) (hj : j < l.length) (h : ¬ l[j].toNat = 32) :
    P.words ((l.drop i).take (j - i)) (l.drop j) = P.words ((l.drop i).take (j + 1 - i)) (l.drop (j + 1)) := by
  rw [List.drop_eq_getElem_cons hj, P.words, if_neg (fun e => h (by rw [e]; rfl))]
  congr 1
  rw [show j + 1 - i = (j - i) + 1 by omega, List.take_succ_eq_append_getElem (by simp; omega)]
  simp [show i + (j - i) = j by omega]
theorem words_end {l : List UInt8} {i : Nat} : P.words ((l.drop i).take (l.length - i)) (l.drop l.length) = [(l.drop i).take (l.length - i)] := by
  rw [List.drop_length, P.words]

/-- A text as bytes: a new row that holds them. -/
theorem conv_str (s : ByteArray) (w : World) : ∃ (cap : Nat) (w1 : World), (convert 9 40 (.string s)).run Tryd.prog w = .ok (.slice (some ⟨w.heap.size, 0, none⟩) s.size cap) w1 ∧ Below w.heap.size w w1 ∧ w.heap.size < w1.heap.size ∧ s.size ≤ cap ∧ BytesAt w1 w.heap.size 0 s.data.toList := by
  refine ⟨_, _, Lib.run_convert_string_bytes w 9 40 5 s Tryd.underlying9 Tryd.underlying40 Tryd.underlying5, ⟨rfl, rfl, rfl, ?_, fun k hk => Lib.bytesWorld_at_old w _ s k hk⟩, ?_, grownCap_ge _ _ _ _, ?_⟩
  · rw [Lib.bytesWorld_size]; omega
  · rw [Lib.bytesWorld_size]; omega
  · intro j hj
    have hj' : j < s.size := by rw [Lib.size_eq]; exact hj
    rw [Nat.zero_add, Lib.bytesWorld_cell w _ s j hj']
    simp [List.getElem?_eq_getElem hj]

end Go.Proofs.YtfndiggpnkjacaaDoor.T

namespace Go.Proofs.YtfndiggpnkjacaaDoor.P

/-- The bytes of lines. -/
def join : List (List UInt8 × Bool) → List UInt8
  | [] => []
  | (t, b) :: r => t ++ (if !b || !r.isEmpty then [10] else []) ++ join r
/-- May lines be those of bytes? -/
def right : List (List UInt8 × Bool) → Bool
  | [] => true
  | (t, b) :: r => !(t.contains 10) && !(b && (!r.isEmpty || t.isEmpty)) && right r

theorem join_lines : ∀ (l cur : List UInt8), join (lines cur l) = cur ++ l
  | [], cur => by
    rw [lines]
    split
    · next h => simp [h, join]
    · simp [join]
  | c :: r, cur => by
    rw [lines]
    split
    · next h => rw [join, join_lines r [], h]; simp
    · rw [join_lines r (cur ++ [c])]; simp
theorem right_lines : ∀ (l cur : List UInt8), (10 : UInt8) ∉ cur → right (lines cur l) = true
  | [], cur, h => by
    rw [lines]
    split
    · rfl
    · next hc => simp [right, h, hc]
  | c :: r, cur, h => by
    rw [lines]
    split
    · rw [right, right_lines r [] (by simp)]; simp [h]
    · next hc => exact right_lines r (cur ++ [c]) (by simp [h]; exact fun e => hc e.symm)
theorem lines_text (r : List UInt8) : ∀ (t cur : List UInt8), (10 : UInt8) ∉ t → lines cur (t ++ 10 :: r) = (cur ++ t, false) :: lines [] r
  | [], cur, _ => by simp [lines]
  | c :: t, cur, h => by
    have hc : ¬ c = 10 := fun e => h (by simp [e])
    rw [List.cons_append, lines, if_neg hc, lines_text r t _ (fun e => h (by simp [e]))]; simp
theorem lines_open : ∀ (t cur : List UInt8), (10 : UInt8) ∉ t → lines cur t = if cur ++ t = [] then [] else [(cur ++ t, true)]
  | [], cur, _ => by simp [lines]
  | c :: t, cur, h => by
    have hc : ¬ c = 10 := fun e => h (by simp [e])
    rw [lines, if_neg hc, lines_open t _ (fun e => h (by simp [e]))]; simp
theorem lines_join : ∀ (xs : List (List UInt8 × Bool)), right xs = true → lines [] (join xs) = xs
  | [], _ => rfl
  | (t, b) :: r, h => by
    rw [right, Bool.and_eq_true, Bool.and_eq_true] at h
    obtain ⟨⟨h1, h2⟩, h3⟩ := h
    have ht : (10 : UInt8) ∉ t := by simpa using h1
    have ih := lines_join r h3
    cases b with
    | false =>
      rw [join, show t ++ (if !false || !r.isEmpty then [10] else []) ++ join r = t ++ 10 :: join r by simp, lines_text _ _ _ ht, ih]; rfl
    | true =>
      simp at h2
      obtain ⟨h2, h4⟩ := h2
      subst h2
      rw [join, show t ++ (if !true || !([] : List (List UInt8 × Bool)).isEmpty then [10] else []) ++ join [] = t by simp [join], lines_open _ _ ht, if_neg (by simpa using h4)]; rfl
/-- How many bytes lines make at the most. -/
def bulk : List (List UInt8 × Bool) → Nat
  | [] => 0
  | (t, _) :: r => t.length + 1 + bulk r
theorem join_length : ∀ xs : List (List UInt8 × Bool), (join xs).length ≤ bulk xs
  | [] => Nat.le_refl _
  | (t, b) :: r => by
    have := join_length r
    rw [join, bulk]
    simp only [List.length_append]
    split <;> simp <;> omega
theorem length_bulk : ∀ xs : List (List UInt8 × Bool), xs.length ≤ bulk xs
  | [] => Nat.le_refl _
  | (t, b) :: r => by have := length_bulk r; rw [bulk, List.length_cons]; omega
theorem lines_bulk : ∀ (l cur : List UInt8), bulk (lines cur l) ≤ cur.length + l.length + 1
  | [], cur => by
    rw [lines]
    split
    · simp [bulk]
    · simp [bulk]
  | c :: r, cur => by
    rw [lines]
    split
    · rw [bulk]
      match r with
      | [] => simp [lines, bulk]
      | d :: r' => have := lines_bulk (d :: r') []; simp at this ⊢; omega
    · have := lines_bulk r (cur ++ [c]); simp at this ⊢; omega
end Go.Proofs.YtfndiggpnkjacaaDoor.P

namespace Go.Proofs.YtfndiggpnkjacaaDoor.T
open Go.RowKit

/-- Lines in memory: two cells each, from an address on. -/
def LinesAt (w : World) (bk off : Nat) (xs : List (List UInt8 × Bool)) : Prop :=
  ∀ j (h : j < xs.length), w.cell? ⟨bk, off + j * 2, none⟩ = some (.string ⟨xs[j].1.toArray⟩) ∧ w.cell? ⟨bk, off + j * 2 + 1, none⟩ = some (.bool xs[j].2)
/-- A slice's lines, wherever it lies. -/
def LinesIn (w : World) (A : Option Addr) (xs : List (List UInt8 × Bool)) : Prop :=
  0 < xs.length → ∃ bk off, A = some ⟨bk, off, none⟩ ∧ bk < w.heap.size ∧ LinesAt w bk off xs
theorem LinesAt.below {w w' : World} {bk off B : Nat} {xs : List (List UInt8 × Bool)} (h : LinesAt w bk off xs) (hb : Below B w w') (hB : bk < B) : LinesAt w' bk off xs :=
  fun j hj => ⟨(hb.cell (p := ⟨bk, off + j * 2, none⟩) hB).trans (h j hj).1, (hb.cell (p := ⟨bk, off + j * 2 + 1, none⟩) hB).trans (h j hj).2⟩
theorem LinesIn.below {w w' : World} {A : Option Addr} {xs : List (List UInt8 × Bool)} (h : LinesIn w A xs) (hb : Below w.heap.size w w') : LinesIn w' A xs := fun hp => by
  obtain ⟨bk, off, e, hlt, hl⟩ := h hp
  exact ⟨bk, off, e, Nat.lt_of_lt_of_le hlt hb.size, hl.below hb hlt⟩
theorem lineCells_at : ∀ (xs : List (List UInt8 × Bool)) (j : Nat) (h : j < xs.length), (lineCells xs)[j * 2]? = some (.string ⟨xs[j].1.toArray⟩) ∧ (lineCells xs)[j * 2 + 1]? = some (.bool xs[j].2)
  | x :: r, 0, _ => by simp [lineCells]
  | x :: r, j + 1, h => by
    have ih := lineCells_at r j (by simpa using h)
    have e : lineCells (x :: r) = .string ⟨x.1.toArray⟩ :: .bool x.2 :: lineCells r := by simp [lineCells]
    rw [e, show (j + 1) * 2 = j * 2 + 1 + 1 by omega]
    simpa using ih
theorem lines_of_own {w : World} {base : Nat} {v : Value} {xs : List (List UInt8 × Bool)} (h : w.ownsRow base 44 2 v xs.length (lineCells xs)) :
    ∃ A cap, v = .slice A xs.length cap ∧ xs.length ≤ cap ∧ LinesIn w A xs := by
  obtain ⟨A, cap, hv, hc, hA⟩ := own_form h
  refine ⟨A, cap, hv, hc, fun hp => ?_⟩
  obtain ⟨g, rfl, _, hlt, hcells⟩ := hA hp
  exact ⟨g, 0, rfl, hlt, fun j hj => ⟨by rw [Nat.zero_add]; exact hcells _ _ (lineCells_at xs j hj).1, by rw [Nat.zero_add]; exact hcells _ _ (lineCells_at xs j hj).2⟩⟩

theorem drop_line {xs : List (List UInt8 × Bool)} {k : Nat} (hk : k < xs.length) : xs.drop k = (xs[k].1, xs[k].2) :: xs.drop (k + 1) := List.drop_eq_getElem_cons hk
theorem text_len {xs : List (List UInt8 × Bool)} {k : Nat} (hk : k < xs.length) : xs[k].1.length + 1 ≤ P.bulk xs := by
  induction xs generalizing k with
  | nil => simp at hk
  | cons x r ih =>
    obtain ⟨t, b⟩ := x
    cases k with
    | zero => simp [P.bulk]
    | succ k => have := ih (k := k) (by simpa using hk); rw [P.bulk]; simp; omega
end Go.Proofs.YtfndiggpnkjacaaDoor.T

namespace Go.Proofs.YtfndiggpnkjacaaDoor.T
open Go.RowKit

def byteCells (l : List UInt8) : List Value := l.map fun c => .int .u8 (c.toNat : Int)
theorem byteCells_append (l r : List UInt8) : byteCells (l ++ r) = byteCells l ++ byteCells r := by simp [byteCells]
theorem byteCells_str (t : List UInt8) : Lib.strCells ⟨t.toArray⟩ = byteCells t := by simp [Lib.strCells, byteCells]
theorem infoByte : (Tryd.prog.info? 5).map (fun i => (i.zero, i.size, i.bytes)) = some (some (.int .u8 0), 1, 1) := by kernel_rfl
theorem own_lt {w : World} {base : Nat} {e : TypeId} {size n : Nat} {v : Value} {xs : List Value} (h : w.ownsRow base e size v n xs) : ∀ k, v.ownBlock = some k → k < w.heap.size := by
  intro k hk
  rcases h.2 with ⟨rfl, _⟩ | ⟨g, cap, cur, rfl, hg, hh, _⟩
  · simp [Value.ownBlock] at hk
  · simp [Value.ownBlock] at hk
    subst hk
    rcases Nat.lt_or_ge g w.heap.size with hlt | hge
    · exact hlt
    · rw [Array.getElem?_eq_none hge] at hh; cases hh
theorem box_kept {wr w1 : World} {base : Nat} {e : TypeId} {size n : Nat} {v : Value} {xs : List Value} {a b : Value} {T : TypeId} (h : wr.ownsRow base e size v n xs) (hg : (wr.alloc (.cells #[a, b] T)).grownBy w1 v.ownBlock) :
    w1.cell? ⟨wr.heap.size, 0, none⟩ = some a ∧ w1.cell? ⟨wr.heap.size, 1, none⟩ = some b := by
  have hne : some wr.heap.size ≠ v.ownBlock := fun he => by have := own_lt h _ he.symm; omega
  have hb := heap_alloc_new wr (.cells #[a, b] T)
  exact ⟨hg.cell (a := ⟨wr.heap.size, 0, none⟩) (cell_of_row _ _ 0 _ _ _ hb) hne, hg.cell (a := ⟨wr.heap.size, 1, none⟩) (cell_of_row _ _ 1 _ _ _ hb) hne⟩
theorem join_step {xs : List (List UInt8 × Bool)} {k : Nat} (hk : k < xs.length) : P.join (xs.drop k) = xs[k].1 ++ (if !xs[k].2 || decide (k + 1 < xs.length) then [10] else []) ++ P.join (xs.drop (k + 1)) := by
  rw [drop_line hk, P.join]
  congr 3
  cases h : (xs.drop (k + 1)).isEmpty with
  | true =>
    have := List.isEmpty_iff.1 h
    have := congrArg List.length this
    simp at this
    rw [decide_eq_false (by omega)]; rfl
  | false =>
    rw [decide_eq_true]; rfl
    have : ¬ xs.drop (k + 1) = [] := fun e => by rw [e] at h; cases h
    rcases Nat.lt_or_ge (k + 1) xs.length with h' | h'
    · exact h'
    · exact absurd (List.drop_eq_nil_of_le h') this

end Go.Proofs.YtfndiggpnkjacaaDoor.T

namespace Go.Proofs.YtfndiggpnkjacaaDoor.T
open Go.RowKit

/-- A slice's bytes, wherever it lies. -/
def BytesIn (w : World) (A : Option Addr) (l : List UInt8) : Prop :=
  0 < l.length → ∃ bk off, A = some ⟨bk, off, none⟩ ∧ bk < w.heap.size ∧ BytesAt w bk off l
theorem BytesIn.below {w w' : World} {A : Option Addr} {l : List UInt8} (h : BytesIn w A l) (hb : Below w.heap.size w w') : BytesIn w' A l := fun hp => by
  obtain ⟨bk, off, e, hlt, hl⟩ := h hp
  exact ⟨bk, off, e, Nat.lt_of_lt_of_le hlt hb.size, hl.below hb hlt⟩
theorem bytes_of_own {w : World} {base : Nat} {v : Value} {l : List UInt8} (h : w.ownsRow base 5 1 v l.length (byteCells l)) :
    ∃ A cap, v = .slice A l.length cap ∧ l.length ≤ cap ∧ BytesIn w A l := by
  obtain ⟨A, cap, hv, hc, hA⟩ := own_form h
  refine ⟨A, cap, hv, hc, fun hp => ?_⟩
  obtain ⟨g, rfl, _, hlt, hcells⟩ := hA hp
  exact ⟨g, 0, rfl, hlt, fun j hj => by rw [Nat.zero_add]; exact hcells _ _ (by simp [byteCells, List.getElem?_eq_getElem hj])⟩
theorem conv_none (w : World) (A : Option Addr) (cap : Nat) :
    (convert 40 9 (.slice A 0 cap)).run Tryd.prog w = .ok (.string ⟨#[]⟩) w := by
  rw [run_convert_bytes_string w 40 9 5 _ 0 cap Tryd.underlying40 Tryd.underlying5 Tryd.underlying9]
  cases A <;> simp [Conv.bytesToString, loadCells]
  all_goals rfl
theorem conv_in {w : World} {A : Option Addr} {l : List UInt8} (cap : Nat) (h : BytesIn w A l) :
    (convert 40 9 (.slice A l.length cap)).run Tryd.prog w = .ok (.string ⟨l.toArray⟩) w := by
  by_cases hp : 0 < l.length
  · obtain ⟨bk, off, rfl, _, hb⟩ := h hp
    exact conv_bytes w bk off l.length cap l rfl hb
  · obtain rfl : l = [] := List.length_eq_zero_iff.1 (by omega)
    exact conv_none w A cap
section
variable {P : Program} {md : Region.Mode} {ops : Array Oper} {Q : Exit → Act → World → Prop} {S S' : World → Prop}
/-- On its way a region's walk may be asked for more behind each operation. -/
theorem wpAnyH_more (h : ∀ w, S' w → S w) : ∀ (fuel : Nat) (listed : Array Bool) (a : Act) (w : World), wpAnyH P md ops Q S' fuel listed a w → wpAnyH P md ops Q S fuel listed a w
  | 0, _, _, _, H => H
  | fuel + 1, _, _, _, H => ⟨H.1, fun i hi => wpOp_mono (fun a' w' h' => ⟨h _ h'.1, wpAnyH_more h fuel _ a' w' h'.2⟩) (H.2 i hi)⟩
end
/-- All that is there stays as it is. -/
def Keeps (w : World) : World → Prop := fun w' => Below w.heap.size w w'
theorem Keeps.b {a b : World} (h : Keeps a b) : Below a.heap.size a b := h
theorem keeps_drew (w : World) : Keeps w w.drew := (Below.refl _ _).drew
theorem Keeps.trans {a b c : World} (h : Keeps a b) (h' : Keeps b c) : Keeps a c := Below.trans h (Below.mono h' (Below.size h))
end Go.Proofs.YtfndiggpnkjacaaDoor.T

namespace Go.Proofs.YtfndiggpnkjacaaDoor.V
set_option linter.unusedVariables false
set_option linter.unusedSimpArgs false
open Go.RowKit
open T
open I (It Lb ItemsIn ItemsAt ItemsOk itCells itCells_snoc itCells_at items_cells own_at own_below alloc1)

/-- A slice's numbers, wherever it lies. -/
def IntsIn (w : World) (A : Option Addr) (xs : List Int) : Prop :=
  0 < xs.length → ∃ bk off, A = some ⟨bk, off, none⟩ ∧ bk < w.heap.size ∧ L.IntsAt w bk off xs
theorem IntsIn.below {w w' : World} {A : Option Addr} {xs : List Int} (h : IntsIn w A xs) (hb : Below w.heap.size w w') : IntsIn w' A xs := fun hp => by
  obtain ⟨bk, off, e, hlt, hl⟩ := h hp
  exact ⟨bk, off, e, Nat.lt_of_lt_of_le hlt hb.size, hl.below hb hlt⟩
/-- The cells of numbers. -/
def numCells (xs : List Int) : List Value := xs.map fun n => .int .i64 n
theorem numCells_snoc (xs : List Int) (n : Int) : numCells (xs ++ [n]) = numCells xs ++ [.int .i64 n] := by simp [numCells]
theorem ints_own {w : World} {base : Nat} {A : Option Addr} {cap : Nat} {xs : List Int} (h : w.ownsRow base 3 1 (.slice A xs.length cap) xs.length (numCells xs)) : IntsIn w A xs := by
  intro hp
  obtain ⟨g, hA, _, hlt, hc⟩ := own_at h hp
  refine ⟨g, 0, hA, hlt, fun j hj => ?_⟩
  rw [Nat.zero_add]
  exact hc j _ (by simp [numCells, List.getElem?_eq_getElem hj])
theorem drawn_below (w : World) (q : Nat) : Below w.heap.size w (w.drewN q) := below_drewN (Below.refl _ _) q
theorem ext_to {α : Type} {xs ys : List α} (hl : xs.length = ys.length) (h : ∀ j (hj : j < xs.length) (hj' : j < ys.length), j < xs.length → xs[j] = ys[j]) : xs = ys := List.ext_getElem hl fun j hj hj' => h j hj hj' hj
theorem ext_no {α : Type} {xs ys : List α} {k : Nat} (hk : k < xs.length) (hk' : k < ys.length) (h : ¬ xs[k] = ys[k]) : ¬ xs = ys := fun e => h (by subst e; rfl)
theorem ext_step {α : Type} {xs ys : List α} {k : Nat} (hk : k < xs.length) (hk' : k < ys.length) (h : xs[k] = ys[k]) (H : ∀ j (hj : j < xs.length) (hj' : j < ys.length), j < k → xs[j] = ys[j]) : ∀ j (hj : j < xs.length) (hj' : j < ys.length), j < k + 1 → xs[j] = ys[j] := fun j hj hj' hjk => by
  by_cases e : j = k
  · subst e; exact h
  · exact H j hj hj' (by omega)

theorem it_ne {a0 a1 b0 b1 : Int} {a2 b2 : Nat} {a3 a5 b3 b5 : Bool} {a4 b4 : List UInt8} (h : ¬ (⟨a0, a1, a2, a3, a4, a5⟩ : It) = ⟨b0, b1, b2, b3, b4, b5⟩) :
    a0 ≠ b0 ∨ (a0 = b0 ∧ a1 ≠ b1) ∨ (a0 = b0 ∧ a1 = b1 ∧ (a2 : Int) ≠ (b2 : Int)) ∨ (a0 = b0 ∧ a1 = b1 ∧ a2 = b2 ∧ a3 ≠ b3) ∨ (a0 = b0 ∧ a1 = b1 ∧ a2 = b2 ∧ a3 = b3 ∧ (⟨a4.toArray⟩ : ByteArray).toList ≠ (⟨b4.toArray⟩ : ByteArray).toList) ∨ (a0 = b0 ∧ a1 = b1 ∧ a2 = b2 ∧ a3 = b3 ∧ (⟨a4.toArray⟩ : ByteArray) = ⟨b4.toArray⟩ ∧ a5 ≠ b5) := by
  by_cases h0 : a0 = b0
  · by_cases h1 : a1 = b1
    · by_cases h2 : a2 = b2
      · by_cases h3 : a3 = b3
        · by_cases h4 : a4 = b4
          · by_cases h5 : a5 = b5
            · exact absurd (by rw [h0, h1, h2, h3, h4, h5]) h
            · exact .inr (.inr (.inr (.inr (.inr ⟨h0, h1, h2, h3, by rw [h4], h5⟩))))
          · refine .inr (.inr (.inr (.inr (.inl ⟨h0, h1, h2, h3, fun e => h4 ?_⟩))))
            simpa [Lib.toList_data] using e
        · exact .inr (.inr (.inr (.inl ⟨h0, h1, h2, h3⟩)))
      · exact .inr (.inr (.inl ⟨h0, h1, by omega⟩))
    · exact .inr (.inl ⟨h0, h1⟩)
  · exact .inl h0

end Go.Proofs.YtfndiggpnkjacaaDoor.V

namespace Go.Proofs.YtfndiggpnkjacaaDoor.V
set_option linter.unusedVariables false
set_option linter.unusedSimpArgs false
open Go.RowKit
open T
open I (It Lb ItemsIn ItemsAt ItemsOk itCells itCells_snoc itCells_at items_cells own_at own_below alloc1)

/-- An item's cells. -/
structure ItAt (w : World) (bk o : Nat) (y : It) : Prop where
  lt : bk < w.heap.size
  c0 : w.cell? ⟨bk, o, none⟩ = some (.int .i64 y.id)
  c1 : w.cell? ⟨bk, o + 1, none⟩ = some (.int .i64 y.lv)
  c2 : w.cell? ⟨bk, o + 2, none⟩ = some (.int .u64 (y.ct : Int))
  c3 : w.cell? ⟨bk, o + 3, none⟩ = some (.bool y.an)
  c4 : w.cell? ⟨bk, o + 4, none⟩ = some (.string ⟨y.tx.toArray⟩)
  c5 : w.cell? ⟨bk, o + 5, none⟩ = some (.bool y.ba)
theorem ItAt.below {w w' : World} {bk o : Nat} {y : It} (h : ItAt w bk o y) (hb : Below w.heap.size w w') : ItAt w' bk o y :=
  ⟨Nat.lt_of_lt_of_le h.lt hb.size, (hb.cell (p := ⟨bk, _, none⟩) h.lt).trans h.c0, (hb.cell (p := ⟨bk, _, none⟩) h.lt).trans h.c1, (hb.cell (p := ⟨bk, _, none⟩) h.lt).trans h.c2, (hb.cell (p := ⟨bk, _, none⟩) h.lt).trans h.c3, (hb.cell (p := ⟨bk, _, none⟩) h.lt).trans h.c4, (hb.cell (p := ⟨bk, _, none⟩) h.lt).trans h.c5⟩
theorem it_at {w : World} {bk off k : Nat} {xs : List It} (h : ItemsAt w bk off xs) (hb : bk < w.heap.size) (hk : k < xs.length) : ItAt w bk (off + k * 6) xs[k] := by
  obtain ⟨c0, c1, c2, c3, c4, c5⟩ := h k hk
  exact ⟨hb, c0, c1, c2, c3, c4, c5⟩
theorem own_base_le {w : World} {base base' : Nat} {e : TypeId} {size n : Nat} {v : Value} {xs : List Value} (h : w.ownsRow base e size v n xs) (hb : base' ≤ base) : w.ownsRow base' e size v n xs := own_more h hb
theorem cut_take {o : Lb} {l : List It} {k : Nat} (hk : k < l.length) : cut o (l.take (k + 1)) = cut o (l.take k) ++ (if sees o l[k] = true then [l[k]] else []) := by
  rw [List.take_succ_eq_append_getElem hk, cut_snoc]
theorem cut_le (o : Lb) (l : List It) : (cut o l).length ≤ l.length := List.length_filter_le _ _

end Go.Proofs.YtfndiggpnkjacaaDoor.V

namespace Go.Proofs.YtfndiggpnkjacaaDoor.V
set_option linter.unusedVariables false
set_option linter.unusedSimpArgs false
open Go.RowKit
open T
open I (It Lb ItemsIn ItemsAt ItemsOk itCells itCells_snoc itCells_at items_cells own_at own_below alloc1)

/-- The ID at a place; 0 where none is. -/
def idAt (l : List It) (a : Int) : Int := if 0 ≤ a then ((l[a.toNat]?).map (·.id)).getD 0 else 0
def ids (l : List It) (t : List Int) : List Int := t.map (idAt l)
theorem idAt_step {l : List It} {j : Nat} (hj : j < l.length) (a : Int) : idAt (l.take (j + 1)) a = if (j : Int) = a then l[j].id else idAt (l.take j) a := by
  unfold idAt
  by_cases h0 : 0 ≤ a
  · obtain ⟨n, rfl⟩ := Int.eq_ofNat_of_zero_le h0
    rw [if_pos h0, if_pos h0, Int.toNat_natCast, List.getElem?_take, List.getElem?_take]
    by_cases h1 : j = n
    · subst h1
      rw [if_pos rfl, if_pos (show j < j + 1 by omega), List.getElem?_eq_getElem hj]; rfl
    · rw [if_neg (show ¬ (j : Int) = (n : Int) by omega)]
      by_cases h2 : n < j
      · rw [if_pos (show n < j + 1 by omega), if_pos h2]
      · rw [if_neg (show ¬ n < j + 1 by omega), if_neg h2]
  · rw [if_neg h0, if_neg h0, if_neg (by omega)]
theorem idAt_none (a : Int) : idAt [] a = 0 := by unfold idAt; split <;> rfl
theorem ids_take {l : List It} {t : List Int} {k : Nat} (hk : k < t.length) : ids l (t.take (k + 1)) = ids l (t.take k) ++ [idAt l t[k]] := by
  unfold ids; rw [List.take_succ_eq_append_getElem hk, List.map_append]; rfl
end Go.Proofs.YtfndiggpnkjacaaDoor.V

namespace Go.Proofs.YtfndiggpnkjacaaDoor.V
set_option linter.unusedVariables false
set_option linter.unusedSimpArgs false
open Go.RowKit
open T
open I (It Lb ItemsIn ItemsAt ItemsOk itCells itCells_snoc itCells_at items_cells own_at own_below alloc1)

theorem own_ne {w : World} {base : Nat} {e : TypeId} {size n : Nat} {v : Value} {xs : List Value} (h : w.ownsRow base e size v n xs) {g : Nat} (hne : ∀ cs, w.heap[g]? ≠ some (.cells cs e (0, 0))) : v.ownBlock = none ∨ v.ownBlock ≠ some g := by
  rcases h.2 with ⟨rfl, _⟩ | ⟨g', cap, cur, rfl, hg, hh, _⟩
  · exact .inl rfl
  · refine .inr fun e' => ?_
    simp [Value.ownBlock] at e'
    subst e'
    exact hne _ hh
theorem own_ne' {w : World} {base : Nat} {e : TypeId} {size n : Nat} {v : Value} {xs : List Value} (h : w.ownsRow base e size v n xs) {g : Nat} (hne : ∀ cs, w.heap[g]? ≠ some (.cells cs e (0, 0))) : some g ≠ v.ownBlock := fun e' => by
  rcases own_ne h hne with h1 | h1
  · rw [h1] at e'; cases e'
  · exact h1 e'.symm
theorem own_apart {w : World} {base base' : Nat} {e e' : TypeId} {size size' n n' : Nat} {v v' : Value} {xs xs' : List Value} (hne : e ≠ e') (h : w.ownsRow base e size v n xs) (h' : w.ownsRow base' e' size' v' n' xs') : v.ownBlock = none ∨ v.ownBlock ≠ v'.ownBlock := by
  rcases h'.2 with ⟨rfl, _⟩ | ⟨g', cap, cur, rfl, hg, hh, _⟩
  · cases hv : v.ownBlock with
    | none => exact .inl rfl
    | some k => exact .inr (by simp [Value.ownBlock])
  · rcases own_ne h (g := g') (fun cs he => by rw [hh] at he; injection he with he; injection he with _ he; exact hne he.symm) with h1 | h1
    · exact .inl h1
    · exact .inr (by simpa [Value.ownBlock] using h1)
theorem grown_of {w w' : World} (hb : Below w.heap.size w w') (row : Option Nat) : w.grownBy w' row := ⟨hb.os, hb.tape, hb.output, hb.size, fun k hk _ => hb.block k hk⟩
theorem grown_set (w : World) (p : Addr) (u : Value) : w.grownBy (w.setCell p u) (some p.block) :=
  ⟨rfl, rfl, rfl, by simp [World.setCell], fun k _ hk => Below.heap_setCell _ _ _ _ (fun e => hk (by rw [e]))⟩
section
variable {w w' : World} {base vb : Nat} {vl va v' : Value} {ls ls' : List (List UInt8 × Bool)} {ts ts' : List Int}
end
def atI (o : Lb) (l : List It) : List Int := (ats o 0 l).map fun n : Nat => (n : Int)
theorem atI_take {o : Lb} {l : List It} {k : Nat} (hk : k < l.length) : atI o (l.take (k + 1)) = atI o (l.take k) ++ (if sees o l[k] = true then [(k : Int)] else []) := by
  unfold atI
  rw [List.take_succ_eq_append_getElem hk, ats_snoc, List.map_append, Nat.zero_add, List.length_take, Nat.min_eq_left (by omega)]
  split <;> rfl
theorem lst_take {o : Lb} {l : List It} {k : Nat} (hk : k < l.length) : lst o 0 (-1) (l.take (k + 1)) = if sees o l[k] = true then (k : Int) else lst o 0 (-1) (l.take k) := by
  rw [List.take_succ_eq_append_getElem hk, lst_snoc, Nat.zero_add, List.length_take, Nat.min_eq_left (by omega)]
theorem rln_take {o : Lb} {h : List UInt8} {z : Int} {l : List It} {k : Nat} (hk : k < l.length) : rln o h z 0 (l.take (k + 1)) = rln o h z 0 (l.take k) ++ (if sees o l[k] = true then [(txt h l[k], decide ((k : Int) = z) && l[k].ba)] else []) := by
  rw [List.take_succ_eq_append_getElem hk, rln_snoc, Nat.zero_add, List.length_take, Nat.min_eq_left (by omega)]
theorem rln_length (o : Lb) (h : List UInt8) (z : Int) : ∀ (l : List It) (k : Nat), (rln o h z k l).length = (cut o l).length
  | [], _ => rfl
  | x :: r, k => by
    rw [rln]
    by_cases hx : sees o x = true
    · rw [if_pos hx, List.length_cons, rln_length o h z r]; simp [cut, hx]
    · rw [if_neg hx, rln_length o h z r]; simp [cut, hx]
theorem lnCells_snoc (xs : List (List UInt8 × Bool)) (t : List UInt8) (b : Bool) : lineCells (xs ++ [(t, b)]) = lineCells xs ++ [.string ⟨t.toArray⟩, .bool b] := lineCells_snoc xs t b
end Go.Proofs.YtfndiggpnkjacaaDoor.V

namespace Go.Proofs.YtfndiggpnkjacaaDoor.V
set_option linter.unusedVariables false
set_option linter.unusedSimpArgs false
open Go.RowKit
open T
open I (It Lb ItemsIn ItemsAt ItemsOk itCells itCells_snoc itCells_at items_cells own_at own_below alloc1)

def OfEnd (w : World) (o : Lb) (h : List UInt8) (l : List It) (e : Ending) (w' : World) : Prop :=
  (∃ vl va, e = .returned (.agg #[vl, va]) ∧ w'.ownsRow w.heap.size 44 2 vl (lns h (cut o l)).length (lineCells (lns h (cut o l))) ∧ w'.ownsRow w.heap.size 3 1 va (atI o l).length (numCells (atI o l))) ∧ Below w.heap.size w w'
end Go.Proofs.YtfndiggpnkjacaaDoor.V

namespace Go.Proofs.YtfndiggpnkjacaaDoor.T
open Go.RowKit

/-- Is there a byte 10? -/
def hasNl (l : List UInt8) : Bool := l.contains 10
theorem has_at {s : ByteArray} {k : Nat} (hk : k < s.size) (h : (s[k].toNat : Int) = 10) : hasNl s.data.toList = true := by
  unfold hasNl
  have hl : k < s.data.toList.length := by rw [← Lib.size_eq]; exact hk
  rw [List.contains_iff_mem]
  have : s.data.toList[k] = 10 := by rw [byte s k hk hl]; exact UInt8.toNat_inj.1 (show s[k].toNat = 10 by omega)
  rw [← this]; exact List.getElem_mem hl
theorem has_none {s : ByteArray} (h : ∀ j (hj : j < s.size), ¬ (s[j].toNat : Int) = 10) : hasNl s.data.toList = false := by
  unfold hasNl
  rw [← Bool.not_eq_true, List.contains_iff_mem]
  intro hm
  obtain ⟨j, hj, e⟩ := List.getElem_of_mem hm
  have hj' : j < s.size := by rw [Lib.size_eq]; exact hj
  rw [byte s j hj' hj] at e
  exact h j hj' (by rw [e]; rfl)

theorem right_step {xs : List (List UInt8 × Bool)} {k : Nat} (hk : k < xs.length) : P.right (xs.drop k) = (!(hasNl xs[k].1) && !(xs[k].2 && (decide (k + 1 < xs.length) || xs[k].1.isEmpty)) && P.right (xs.drop (k + 1))) := by
  unfold hasNl
  rw [drop_line hk, P.right]
  congr 4
  cases h : (xs.drop (k + 1)).isEmpty with
  | true =>
    have := List.isEmpty_iff.1 h
    have := congrArg List.length this
    simp at this
    rw [decide_eq_false (by omega)]; rfl
  | false =>
    rw [decide_eq_true]; rfl
    have : ¬ xs.drop (k + 1) = [] := fun e => by rw [e] at h; cases h
    rcases Nat.lt_or_ge (k + 1) xs.length with h' | h'
    · exact h'
    · exact absurd (List.drop_eq_nil_of_le h') this
end Go.Proofs.YtfndiggpnkjacaaDoor.T

namespace Go.Proofs.YtfndiggpnkjacaaDoor.T
open Go.RowKit

set_option maxHeartbeats 1000000 in
set_option maxRecDepth 100000 in
theorem same_any (A A' : Option Addr) (cap cap' : Nat) (xs : List (List UInt8 × Bool)) (w : World) (hb : xs.length ≤ maxLen) (hA : LinesIn w A xs) (hA' : LinesIn w A' xs) :
    Calls Tryd.prog 23 #[.slice A xs.length cap, .slice A' xs.length cap'] w fun e w' => e = .returned (.bool true) ∧ Below w.heap.size w w' := by
  unfold maxLen at hb
  have HA := Lib.hid hA
  have HB := Lib.hid hA'
  clear hA hA'
  have hne : ((xs.length : Int) != (xs.length : Int)) = false := by simp
  go_enter Tryd.func23, Tryd.ntmps23
  go_wp2_with fail
  go_loopg [5] xs.length (fun n i wr => ∃ k : Nat, k ≤ xs.length ∧ i = .int .i64 k ∧ xs.length - k ≤ n ∧ ∃ q, wr = w.drewN q)
  case atStart => exact ⟨0, Nat.zero_le _, rfl, by omega, 0, rfl⟩
  case round =>
    obtain ⟨k, hk, rfl, hn, q, rfl⟩ := hrel
    by_cases hlt : k < xs.length
    · obtain ⟨bk, off, hAe, hbk, hL⟩ := HA.out (by omega)
      obtain ⟨bk', off', hAe', hbk', hL'⟩ := HB.out (by omega)
      subst hAe hAe'
      obtain ⟨c0, c1⟩ := hL k hlt
      obtain ⟨d0, d1⟩ := hL' k hlt
      have h0k : (0 : Int) ≤ (k : Int) := Int.natCast_nonneg _
      have h1k : (k : Int) < (xs.length : Int) := by omega
      clear hL hL'
      generalize xs[k].2 = b at *
      generalize xs[k].1 = t at *
      go_wp2_with fail
      go_quiet (fail)
      go_wp2_with fail
      go_roundg (xs.length - (k + 1))
      case measure => omega
      case rel => exact ⟨k + 1, by omega, by go_num, Nat.le_refl _, _, rfl⟩
    · obtain rfl : k = xs.length := by omega
      go_wp2_with fail
      go_ret
      exact ⟨rfl, below_drewN (Below.refl _ _) q⟩

def SameOf (xs : List (List UInt8 × Bool)) : Prop := ∀ (A A' : Option Addr) (cap cap' : Nat) (w : World), LinesIn w A xs → LinesIn w A' xs →
  Calls Tryd.prog 23 #[.slice A xs.length cap, .slice A' xs.length cap'] w fun e w' => e = .returned (.bool true) ∧ Below w.heap.size w w'
theorem SameOf.call {xs : List (List UInt8 × Bool)} (h : SameOf xs) (A A' : Option Addr) (cap cap' : Nat) (w : World) (hA : LinesIn w A xs) (hA' : LinesIn w A' xs) :
    Calls Tryd.prog 23 #[.slice A xs.length cap, .slice A' xs.length cap'] w fun e w' => e = .returned (.bool true) ∧ Below w.heap.size w w' := h A A' cap cap' w hA hA'
theorem sameOf (xs : List (List UInt8 × Bool)) (hb : xs.length ≤ maxLen) : SameOf xs := fun A A' cap cap' w hA hA' => same_any A A' cap cap' xs w hb hA hA'
end Go.Proofs.YtfndiggpnkjacaaDoor.T

namespace Go.Proofs.YtfndiggpnkjacaaDoor.P

/-- The digits of a list read on from n, without a bound. -/
def valGo : List UInt8 → Nat → Option Nat
  | [], n => some n
  | c :: r, n => if c.toNat < 48 ∨ 57 < c.toNat then none else valGo r (10 * n + (c.toNat - 48))
/-- Asked at the end. -/
def upTo (o : Option Nat) : Option Nat := o.bind fun m => if 2147483647 < m then none else some m

theorem valGo_ge : ∀ (l : List UInt8) (n m : Nat), valGo l n = some m → n * 10 ^ l.length ≤ m
  | [], n, m, h => by simp [valGo] at h; simp; omega
  | c :: r, n, m, h => by
    rw [valGo] at h
    split at h
    · cases h
    · have := valGo_ge r _ m h
      rw [List.length_cons, Nat.pow_succ]
      have e : (10 * n) * 10 ^ r.length ≤ (10 * n + (c.toNat - 48)) * 10 ^ r.length := Nat.mul_le_mul_right _ (by omega)
      have e2 : n * (10 ^ r.length * 10) = (10 * n) * 10 ^ r.length := by rw [Nat.mul_comm (10 ^ r.length) 10, ← Nat.mul_assoc, Nat.mul_comm n 10]
      omega
theorem valGo_le (l : List UInt8) (n m : Nat) (h : valGo l n = some m) : n ≤ m := by
  have h1 := valGo_ge l n m h
  have h2 : n * 1 ≤ n * 10 ^ l.length := Nat.mul_le_mul_left _ (Nat.pow_pos (by omega))
  omega

theorem numGo_val : ∀ (l : List UInt8) (n : Nat), n ≤ 2147483647 → numGo l n = upTo (valGo l n)
  | [], n, h => by simp [numGo, valGo, upTo]; omega
  | c :: r, n, h => by
    rw [numGo, valGo]
    split
    · rfl
    · split
      · next hb =>
        cases e : valGo r (10 * n + (c.toNat - 48)) with
        | none => rfl
        | some m =>
          have := valGo_le _ _ _ e
          simp [upTo]; omega
      · next hb => exact numGo_val r _ (by omega)

/-- Too long: more than ten digits without a 0 ahead. -/
theorem number_long (l : List UInt8) (h : 10 < l.length) : number l = none := by
  rw [number]
  split
  · rfl
  · next hc =>
    match l, h, hc with
    | c :: r, h, hc =>
      rw [numGo_val _ _ (by omega)]
      cases e : valGo (c :: r) 0 with
      | none => rfl
      | some m =>
        have hne : c ≠ 48 := fun e => hc (.inr ⟨by rw [e]; rfl, by simp at h ⊢; omega⟩)
        rw [valGo] at e
        split at e
        · cases e
        · next hd =>
          have h1 := valGo_ge r _ m e
          have hc48 : c.toNat ≠ 48 := fun e => hne (UInt8.toNat_inj.1 e)
          have h2 : 1 * 10 ^ 10 ≤ (10 * 0 + (c.toNat - 48)) * 10 ^ r.length :=
            Nat.mul_le_mul (by omega) (Nat.pow_le_pow_right (by omega) (by simp at h; omega))
          simp [upTo]; omega
theorem number_val (l : List UInt8) (h0 : l ≠ []) (h : ¬ (1 < l.length ∧ l.head? = some 48)) : number l = upTo (valGo l 0) := by
  rw [number, if_neg (by rintro (e | e); exact h0 e; exact h ⟨e.2, e.1⟩), numGo_val _ _ (by omega)]

theorem numGo_snoc : ∀ (l : List UInt8) (c : UInt8) (n : Nat), numGo (l ++ [c]) n = (numGo l n).bind fun m => numGo [c] m
  | [], c, n => by simp [numGo]
  | x :: r, c, n => by
    rw [List.cons_append, numGo, numGo]
    split
    · rfl
    · split
      · rfl
      · exact numGo_snoc r c _

theorem digit (d : Nat) (h : d < 10) : (UInt8.ofNat (48 + d)).toNat = 48 + d := by
  rw [UInt8.toNat_ofNat']; omega
theorem digit_of (c : UInt8) (h : 48 ≤ c.toNat) (h2 : c.toNat ≤ 57) : UInt8.ofNat (48 + (c.toNat - 48)) = c := by
  rw [show 48 + (c.toNat - 48) = c.toNat by omega]; simp

theorem numGo_dec (u : Nat) (h : u ≤ 2147483647) : numGo (Lib.decDigits u) 0 = some u := by
  induction u using Nat.strongRecOn with
  | ind u ih =>
    rw [Lib.decDigits]
    split
    · next hu => rw [numGo, digit u hu, if_neg (by omega), if_neg (by omega), numGo]; congr 1; omega
    · next hu =>
      rw [numGo_snoc, ih (u / 10) (by omega) (by omega)]
      show numGo [_] (u / 10) = _
      rw [numGo, digit _ (by omega), if_neg (by omega), if_neg (by omega), numGo]
      congr 1; omega
theorem dec_ne (u : Nat) : Lib.decDigits u ≠ [] := by
  rw [Lib.decDigits]; split <;> simp
theorem dec_head (u : Nat) : 1 ≤ u → (Lib.decDigits u).head? ≠ some 48 := by
  induction u using Nat.strongRecOn with
  | ind u ih =>
    intro hu1
    rw [Lib.decDigits]
    split
    · next hu =>
      simp only [List.head?_cons, ne_eq, Option.some.injEq]
      intro e
      have := congrArg UInt8.toNat e
      rw [digit u hu] at this
      simp at this; omega
    · next hu =>
      have hne := dec_ne (u / 10)
      have := ih (u / 10) (by omega) (by omega)
      cases e : Lib.decDigits (u / 10) with
      | nil => exact absurd e hne
      | cons x r => rw [e] at this; simpa using this
theorem number_dec (u : Nat) (h : u ≤ 2147483647) : number (Lib.decDigits u) = some u := by
  rw [number, if_neg, numGo_dec u h]
  rintro (e | ⟨e1, e2⟩)
  · exact dec_ne u e
  · rcases Nat.eq_zero_or_pos u with h0 | h0
    · subst h0; rw [Lib.decDigits_one (by omega)] at e2; simp at e2
    · exact dec_head u h0 e1

theorem numGo_le (l : List UInt8) (n m : Nat) (hn : n ≤ 2147483647) (h : numGo l n = some m) : n ≤ m ∧ m ≤ 2147483647 := by
  rw [numGo_val l n hn] at h
  cases e : valGo l n with
  | none => rw [e] at h; cases h
  | some k =>
    rw [e] at h
    have := valGo_le l n k e
    simp only [upTo, Option.bind_some] at h
    split at h
    · cases h
    · injection h with h; omega

theorem dec_numGo (l : List UInt8) : ∀ n, l ≠ [] → (l.head? = some 48 → l.length = 1) → numGo l 0 = some n → Lib.decDigits n = l := by
  induction hl : l.length generalizing l with
  | zero => intro n h; exact absurd (List.eq_nil_of_length_eq_zero hl) h
  | succ k ih =>
    intro n hne hz h
    obtain ⟨i, c, rfl⟩ : ∃ i c, l = i ++ [c] := ⟨l.dropLast, l.getLast hne, (List.dropLast_concat_getLast hne).symm⟩
    rw [numGo_snoc] at h
    cases em : numGo i 0 with
    | none => rw [em] at h; cases h
    | some m =>
      rw [em] at h
      simp only [Option.bind_some, numGo] at h
      split at h
      · cases h
      · next hd =>
        split at h
        · cases h
        · next hb =>
          injection h with h
          subst h
          by_cases hi : i = []
          · subst hi
            simp only [numGo, Option.some.injEq] at em
            subst em
            rw [Lib.decDigits_one (by omega), show 48 + (10 * 0 + (c.toNat - 48)) = 48 + (c.toNat - 48) by omega, digit_of c (by omega) (by omega)]
            rfl
          · have hih := ih i (by simp at hl; omega) m hi (fun e => by
              have : (i ++ [c]).head? = some 48 := by
                cases i with
                | nil => exact absurd rfl hi
                | cons x r => simpa using e
              have := hz this
              have hik : i.length = k := by simp at hl; omega
              exact absurd (List.eq_nil_of_length_eq_zero (by omega)) hi) em
            have hm : 1 ≤ m := by
              rcases Nat.eq_zero_or_pos m with h0 | h0
              · subst h0
                rw [Lib.decDigits_one (by omega)] at hih
                have : (i ++ [c]).head? = some 48 := by rw [← hih]; rfl
                have := hz this
                have hik : i.length = k := by simp at hl; omega
                exact absurd (List.eq_nil_of_length_eq_zero (by omega)) hi
              · exact h0
            rw [Lib.decDigits, dif_neg (by omega), show (10 * m + (c.toNat - 48)) / 10 = m by omega, show (10 * m + (c.toNat - 48)) % 10 = c.toNat - 48 by omega, hih, digit_of c (by omega) (by omega)]
theorem dec_number (l : List UInt8) (n : Nat) (h : number l = some n) : Lib.decDigits n = l ∧ n ≤ 2147483647 := by
  rw [number] at h
  split at h
  · cases h
  · next hc =>
    refine ⟨dec_numGo l n (fun e => hc (.inl e)) (fun e => ?_) h, (numGo_le l 0 n (by omega) h).2⟩
    have : ¬ 1 < l.length := fun e2 => hc (.inr ⟨e, e2⟩)
    cases l with
    | nil => simp at e
    | cons x r => simp at this ⊢; omega

theorem decimal_in (n : Int) (h0 : 0 ≤ n) (h1 : n ≤ 2147483647) : decimal n = Lib.decDigits n.toNat := by rw [decimal, if_neg (by omega)]
theorem decimal_out (n : Int) (h : n < 0 ∨ 2147483647 < n) : decimal n = [63] := by rw [decimal, if_pos h]
theorem number_decimal (n : Int) (h0 : 0 ≤ n) (h1 : n ≤ 2147483647) : number (decimal n) = some n.toNat := by
  rw [decimal_in n h0 h1, number_dec _ (by omega)]
theorem number_untold (n : Int) (h : n < 0 ∨ 2147483647 < n) : number (decimal n) = none := by
  rw [decimal_out n h]; decide
theorem decimal_number (l : List UInt8) (n : Nat) (h : number l = some n) : decimal n = l := by
  have := dec_number l n h
  rw [decimal_in n (by omega) (by omega)]
  simpa using this.1
theorem decimal_length (n : Int) : (decimal n).length ≤ 10 := by
  by_cases h : n < 0 ∨ 2147483647 < n
  · rw [decimal_out n h]; decide
  · rw [decimal_in n (by omega) (by omega)]
    rcases Nat.lt_or_ge 10 (Lib.decDigits n.toNat).length with hl | hl
    · have := number_long _ hl
      rw [number_dec _ (by omega)] at this
      cases this
    · exact hl
end Go.Proofs.YtfndiggpnkjacaaDoor.P

namespace Go.Proofs.YtfndiggpnkjacaaDoor.T
open Go.RowKit

theorem list_data (l : List UInt8) : (⟨l.toArray⟩ : ByteArray).data.toList = l := by simp
theorem list_size (l : List UInt8) : (⟨l.toArray⟩ : ByteArray).size = l.length := by simp [ByteArray.size]
theorem str_eta (s : ByteArray) : (⟨s.data.toList.toArray⟩ : ByteArray) = s := by cases s; simp

def Dec (n : Int) (s : ByteArray) : Prop := ∀ w : World, Tab w → Calls Tryd.prog 36 #[.int .i64 n] w fun e w' => e = .returned (.string s) ∧ Below w.heap.size w w'
theorem Dec.call {n : Int} {s : ByteArray} (h : Dec n s) (w : World) (ht : Tab w) : Calls Tryd.prog 36 #[.int .i64 n] w fun e w' => e = .returned (.string s) ∧ Below w.heap.size w w' := h w ht
theorem dec_is (n : Int) (h0 : -9223372036854775808 ≤ n) (h1 : n ≤ 9223372036854775807) : Dec n ⟨(P.decimal n).toArray⟩ := fun w ht => decimal_any n w h0 h1 ht
end Go.Proofs.YtfndiggpnkjacaaDoor.T
