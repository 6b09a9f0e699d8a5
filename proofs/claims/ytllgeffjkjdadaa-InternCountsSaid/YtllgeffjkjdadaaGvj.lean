/-
  A label read out of an argument; small facts for arguments of structs.
  An argument that is items, opened: its value, and what its cells hold.
  An argument that is a slice of integers, opened: its value, and what its cells hold.
  What the second form's bound on the bulk of the arguments gives: bounds on lengths.
  Arguments that are bytes or lines, opened: their values, what their cells hold, and a bound on them by their bulk.
  How long an argument's slices can be, by the reach of the form.
  An argument that is a slice of integers, opened: with its capacity, and each number's bounds.
-/
import Derived.Test.YtllgeffjkjdadaaGva
import Derived.Deep.Slices
import Derived.Deep.Strs
import Derived.Lib.SmallJoins
import Derived.Test.YtllgeffjkjdadaaRows
import Derived.Lib.Strings
import Derived.Test.YtllgeffjkjdadaaGvb
import Derived.Deep.SlicePairs
import Derived.SizedLaws
import Derived.Test.YtllgeffjkjdadaaGvc
namespace Go.Proofs.Ytllgeffjkjdadaa.RP
open Go.ChangeShapes Go.WideShapes Go.ChangeAt Go.RowKit Go.Deep Go.Joins

theorem cInt : Try.prog.cellsOf 3 = 1 := by kernel_rfl
theorem cU64 : Try.prog.cellsOf 23 = 1 := by kernel_rfl
theorem cStr : Try.prog.cellsOf 9 = 1 := by kernel_rfl
theorem cBool : Try.prog.cellsOf 4 = 1 := by kernel_rfl
theorem cLabel : Try.prog.cellsOf 25 = 2 := by kernel_rfl

section
variable {H : Type} {enc : TypeId × Value → H} {w : World} {base : Nat} {spare : Nat → Bool} {held : Bool} {fuel : Nat} {cs : List Value} {x : DataW H × List MemPlace}
theorem list2 {α : Type} {l : List α} (h : l.length = 2) : ∃ a b, l = [a, b] := by
  match l, h with
  | [a, b], _ => exact ⟨a, b, rfl⟩
theorem list3 {α : Type} {l : List α} (h : l.length = 3) : ∃ a b c, l = [a, b, c] := by
  match l, h with
  | [a, b, c], _ => exact ⟨a, b, c, rfl⟩
theorem list4 {α : Type} {l : List α} (h : l.length = 4) : ∃ a b c d, l = [a, b, c, d] := by
  match l, h with
  | [a, b, c, d], _ => exact ⟨a, b, c, d, rfl⟩
theorem list9 {α : Type} {l : List α} (h : l.length = 9) : ∃ a b c d e f g i j, l = [a, b, c, d, e, f, g, i, j] := by
  match l, h with
  | [a, b, c, d, e, f, g, i, j], _ => exact ⟨a, b, c, d, e, f, g, i, j, rfl⟩
/-- A label's two cells. -/
theorem label_read (h : DataW.trod enc Try.prog w base spare held fuel 25 cs = some x) : ∃ (l : Int) (k : Nat), cs = [.int .i64 l, .int .u64 (k : Int)] ∧ k < 18446744073709551616 ∧ -9223372036854775808 ≤ l ∧ l ≤ 9223372036854775807 := by
  obtain ⟨y0, y1, n, -, hl, h0, h1⟩ := trod_struct2 Try.underlying25 h
  dsimp only at h0 h1
  rw [cLabel] at hl
  rw [cInt] at h0
  rw [cU64] at h1
  obtain ⟨a, b, rfl⟩ := list2 hl
  obtain ⟨l, e0, -, w0⟩ := DataW.trod_int Try.underlying3 h0
  obtain ⟨k, e1, -, w1⟩ := DataW.trod_int Try.underlying23 h1
  have e0' : a = .int .i64 l := by injection e0
  have e1' : b = .int .u64 k := by injection e1
  obtain ⟨m, rfl⟩ := Int.eq_ofNat_of_zero_le (bounds_u64 w1).1
  exact ⟨l, m, by rw [e0', e1'], by have := (bounds_u64 w1).2; omega, (bounds_i64 w0).1, (bounds_i64 w0).2⟩
end
end Go.Proofs.Ytllgeffjkjdadaa.RP

namespace Go.Proofs.Ytllgeffjkjdadaa.RI
open Go.ChangeShapes Go.WideShapes Go.ChangeAt Go.RowKit Go.Deep Go.Joins

theorem cLine : Try.prog.cellsOf 35 = 2 := by kernel_rfl
theorem cItem : Try.prog.cellsOf 37 = 6 := by kernel_rfl

section
variable {H : Type} {enc : TypeId × Value → H} {w : World} {base : Nat} {spare : Nat → Bool} {held : Bool} {fuel : Nat} {cs : List Value} {x : DataW H × List MemPlace}
theorem list6 {α : Type} {l : List α} (h : l.length = 6) : ∃ a b c d e f, l = [a, b, c, d, e, f] := by
  match l, h with
  | [a, b, c, d, e, f], _ => exact ⟨a, b, c, d, e, f, rfl⟩
theorem line_read (h : DataW.trod enc Try.prog w base spare held fuel 35 cs = some x) : ∃ (s : ByteArray) (t : Bool), cs = [.string s, .bool t] ∧ s.size ≤ maxLen := by
  obtain ⟨y0, y1, n, -, hl, h0, h1⟩ := trod_struct2 Try.underlying35 h
  dsimp only at h0 h1
  rw [cLine] at hl
  rw [RP.cStr] at h0
  rw [RP.cBool] at h1
  obtain ⟨a, b, rfl⟩ := RP.list2 hl
  obtain ⟨s, e0, -, z0⟩ := DataW.trod_string Try.underlying9 h0
  obtain ⟨t, e1, -⟩ := DataW.trod_bool Try.underlying4 h1
  have e0' : a = .string s := by injection e0
  have e1' : b = .bool t := by injection e1
  exact ⟨s, t, by rw [e0', e1'], z0⟩
set_option maxRecDepth 100000 in
theorem item_fields {c0 c1 c2 c3 c4 c5 : Value} (h : DataW.trod enc Try.prog w base spare held fuel 37 [c0, c1, c2, c3, c4, c5] = some x) :
    ∃ (n : Nat) (y0 y1 y2 y3 : DataW H × List MemPlace), DataW.trod enc Try.prog w base spare held n 3 [c0] = some y0 ∧ DataW.trod enc Try.prog w base spare held n 25 [c1, c2] = some y1 ∧ DataW.trod enc Try.prog w base spare held n 4 [c3] = some y2 ∧ DataW.trod enc Try.prog w base spare held n 35 [c4, c5] = some y3 := by
  obtain ⟨xs, n, -, -, -, hlen, hf⟩ := DataW.trod_struct Try.underlying37 h
  have hlen : xs.length = 4 := hlen
  obtain ⟨y0, y1, y2, y3, rfl⟩ := RP.list4 hlen
  refine ⟨n, y0, y1, y2, y3, ?_, ?_, ?_, ?_⟩
  · have this : DataW.trod enc Try.prog w base spare held n 3 (([c0, c1, c2, c3, c4, c5].drop 0).take (Try.prog.cellsOf 3)) = [y0, y1, y2, y3][0]? := hf 0 _ rfl
    rw [RP.cInt] at this
    exact this
  · have this : DataW.trod enc Try.prog w base spare held n 25 (([c0, c1, c2, c3, c4, c5].drop 1).take (Try.prog.cellsOf 25)) = [y0, y1, y2, y3][1]? := hf 1 _ rfl
    rw [RP.cLabel] at this
    exact this
  · have this : DataW.trod enc Try.prog w base spare held n 4 (([c0, c1, c2, c3, c4, c5].drop 3).take (Try.prog.cellsOf 4)) = [y0, y1, y2, y3][2]? := hf 2 _ rfl
    rw [RP.cBool] at this
    exact this
  · have this : DataW.trod enc Try.prog w base spare held n 35 (([c0, c1, c2, c3, c4, c5].drop 4).take (Try.prog.cellsOf 35)) = [y0, y1, y2, y3][3]? := hf 3 _ rfl
    rw [cLine] at this
    exact this
/-- An item's six cells. -/
theorem item_read (hl : cs.length = 6) (h : DataW.trod enc Try.prog w base spare held fuel 37 cs = some x) : ∃ u : I.It, cs = [.int .i64 u.id, .int .i64 u.lv, .int .u64 (u.ct : Int), .bool u.an, .string ⟨u.tx.toArray⟩, .bool u.ba] ∧ u.ct < 18446744073709551616 ∧ u.tx.length ≤ maxLen := by
  obtain ⟨c0, c1, c2, c3, c4, c5, rfl⟩ := list6 hl
  obtain ⟨n, y0, y1, y2, y3, h0, h1, h2, h3⟩ := item_fields h
  obtain ⟨i, e0, -, w0⟩ := DataW.trod_int Try.underlying3 h0
  obtain ⟨l, k, e1, hk, -, -⟩ := RP.label_read h1
  obtain ⟨an, e2, -⟩ := DataW.trod_bool Try.underlying4 h2
  obtain ⟨s, ba, e3, hz⟩ := line_read h3
  have e0' : c0 = .int .i64 i := by injection e0
  have e2' : c3 = .bool an := by injection e2
  have e1' : c1 = .int .i64 l ∧ c2 = .int .u64 (k : Int) := by injection e1 with p q; injection q with q; exact ⟨p, q⟩
  have e3' : c4 = .string s ∧ c5 = .bool ba := by injection e3 with p q; injection q with q; exact ⟨p, q⟩
  exact ⟨⟨i, l, k, an, s.data.toList, ba⟩, by rw [e0', e1'.1, e1'.2, e2', e3'.1, e3'.2], hk, by show s.data.toList.length ≤ maxLen; rw [← Lib.size_eq]; exact hz⟩
instance : Inhabited I.It := ⟨⟨0, 0, 0, false, [], false⟩⟩
theorem items_read (h : DataW.trod enc Try.prog w base spare held fuel 22 cs = some x) : ∃ (A : Option Addr) (cap : Nat) (us : List I.It), cs = [.slice A us.length cap] ∧ I.ItemsIn w A us ∧ I.ItemsOk us := by
  rcases open_slice Try.underlying22 h with ⟨hcs, hx⟩ | ⟨a, len, cap, m, n, D, Pl, hcs, _, hl, hm, hmm, hx, hcell⟩
  · exact ⟨none, 0, [], hcs, fun h => absurd h (by simp), ⟨Nat.zero_le _, fun x hx => (by cases hx), fun x hx => (by cases hx)⟩⟩
  have hle : len ≤ m := by rw [hmm]; split <;> omega
  obtain ⟨f, hf⟩ := choose_lt (n := len) (p := fun i (u : I.It) => (w.cell? (a.add (i * 6 + 0)) = some (.int .i64 u.id) ∧ w.cell? (a.add (i * 6 + 1)) = some (.int .i64 u.lv) ∧ w.cell? (a.add (i * 6 + 2)) = some (.int .u64 (u.ct : Int)) ∧ w.cell? (a.add (i * 6 + 3)) = some (.bool u.an) ∧ w.cell? (a.add (i * 6 + 4)) = some (.string ⟨u.tx.toArray⟩) ∧ w.cell? (a.add (i * 6 + 5)) = some (.bool u.ba)) ∧ u.ct < 18446744073709551616 ∧ u.tx.length ≤ maxLen) (fun i hi => by
    obtain ⟨cs', c1, c2⟩ := hcell i (by omega)
    rw [cItem] at c1
    obtain ⟨_, hlen, hat⟩ := World.cells?_some c1
    obtain ⟨u, rfl, hu⟩ := item_read (by simpa using hlen) c2
    have q0 := hat 0 (by omega)
    have q1 := hat 1 (by omega)
    have q2 := hat 2 (by omega)
    have q3 := hat 3 (by omega)
    have q4 := hat 4 (by omega)
    have q5 := hat 5 (by omega)
    rw [Go.Deep.add_add] at q0 q1 q2 q3 q4 q5
    exact ⟨u, ⟨q0, q1, q2, q3, q4, q5⟩, hu⟩)
  have htl : ((List.range len).map f).length = len := by simp
  refine ⟨some a, cap, (List.range len).map f, by rw [htl, hcs], fun hp => ?_, ⟨by rw [htl]; omega, fun u hu => ?_, fun u hu => ?_⟩⟩
  · rw [htl] at hp
    obtain ⟨bk, off, spot⟩ := a
    have hspot : spot = none := by simpa [Addr.add] using World.cell?_spot (hf 0 hp).1.1
    subst hspot
    have h0 := (hf 0 hp).1.1
    refine ⟨bk, off, rfl, World.block_lt_of_cell? w _ h0, fun j hj => ?_⟩
    rw [htl] at hj
    have := (hf j hj).1
    simp only [add_plain, ← Nat.add_assoc, Nat.add_zero] at this
    simp only [List.getElem_map, List.getElem_range]
    exact this
  · obtain ⟨i, hi, rfl⟩ := List.mem_map.1 hu
    exact (hf i (List.mem_range.1 hi)).2.2
  · obtain ⟨i, hi, rfl⟩ := List.mem_map.1 hu
    exact (hf i (List.mem_range.1 hi)).2.1
set_option maxRecDepth 100000 in
theorem items_arg {r : Reach} {b0 : Nat} {v : Value} {d : DataW H} {p : List MemPlace} (hv : Value.okWide Try.prog w r b0 22 v) (h : DataW.Trod enc Try.prog w base spare held 22 v d p) :
    ∃ (A : Option Addr) (cap : Nat) (us : List I.It), v = .slice A us.length cap ∧ I.ItemsIn w A us ∧ I.ItemsOk us := by
  obtain ⟨a0, len, cap, rfl⟩ := okWide_slice Try.underlying22 hv
  obtain ⟨fuel, hf⟩ := h
  obtain ⟨A, cap', us, hcs, r⟩ := items_read hf
  simp only [Value.cells, List.cons.injEq, Value.slice.injEq, and_true] at hcs
  obtain ⟨rfl, rfl, rfl⟩ := hcs
  exact ⟨_, _, us, rfl, r⟩
end
end Go.Proofs.Ytllgeffjkjdadaa.RI

namespace Go.Proofs.Ytllgeffjkjdadaa.R
open Go.ChangeShapes Go.WideShapes Go.ChangeAt Go.RowKit

set_option maxRecDepth 100000 in
theorem cellsInt : Try.prog.cellsOf 3 = 1 := by kernel_rfl
set_option maxRecDepth 100000 in
theorem ints_arg {H : Type} {enc : TypeId × Value → H} {W : World} {r : Reach} {b0 base : Nat} {sp : Nat → Bool} {held : Bool} {v : Value} {d : DataW H} {p : List MemPlace}
    (hv : Value.okWide Try.prog W r b0 27 v) (h : DataW.Trod enc Try.prog W base sp held 27 v d p) :
    ∃ (A : Option Addr) (cap : Nat) (xs : List Int), v = .slice A xs.length cap ∧ xs.length ≤ maxLen ∧ (0 < xs.length → ∃ bk off, A = some ⟨bk, off, none⟩ ∧ bk < W.heap.size ∧ L.IntsAt W bk off xs) := by
  obtain ⟨a0, len, cap, rfl⟩ := okWide_slice Try.underlying27 hv
  obtain ⟨fuel, hf⟩ := h
  rcases open_ints Try.underlying27 Try.underlying3 cellsInt hf with ⟨hcs, hx⟩ | ⟨a, len', cap', zs, hcs, _, hl, hm, hz, hx, hcell, hwz⟩
  · simp only [Value.cells, List.cons.injEq, Value.slice.injEq, and_true] at hcs
    obtain ⟨rfl, rfl, rfl⟩ := hcs
    exact ⟨none, 0, [], rfl, Nat.zero_le _, fun h => absurd h (by simp)⟩
  · simp only [Value.cells, List.cons.injEq, Value.slice.injEq, and_true] at hcs
    obtain ⟨rfl, rfl, rfl⟩ := hcs
    have hle : len ≤ zs.length := by rw [hz]; split <;> omega
    have htl : (zs.take len).length = len := by rw [List.length_take]; omega
    refine ⟨some a, cap, zs.take len, by rw [htl], by rw [htl]; omega, fun hp => ?_⟩
    rw [htl] at hp
    obtain ⟨bk, off, rfl, hc⟩ := ints_at hcell (by omega)
    have h0 := hc 0 (by omega)
    refine ⟨bk, off, rfl, World.block_lt_of_cell? W ⟨bk, off + 0, none⟩ h0, fun j hj => ?_⟩
    rw [htl] at hj
    rw [hc j (by omega), List.getElem_take, List.getD_eq_getElem?_getD, List.getElem?_eq_getElem (by omega)]
    rfl
end Go.Proofs.Ytllgeffjkjdadaa.R

namespace Go.Proofs.Ytllgeffjkjdadaa.Bulk

theorem bound {H : Type} {l : List (DataW H)} (hk : Rows.uptoSmall H l = true) : Rows.uptoBulkAll l ≤ 1048576 := of_decide_eq_true hk
theorem string_bulk {H : Type} (b : List UInt8) : Rows.uptoBulk (DataW.lit (H := H) (.string b)) = b.length + 1 := by simp [Rows.uptoBulk]
/-- One text: so many bytes at the most. -/
theorem string_size {H : Type} {s : ByteArray} {r : List (DataW H)} (hk : Rows.uptoSmall H ([.lit (.string s.data.toList)] ++ r) = true) : s.size ≤ 1048576 := by
  have h := bound hk
  simp only [List.cons_append, List.nil_append, Rows.uptoBulkAll, string_bulk] at h
  have := Lib.size_eq s
  omega
/-- A text behind one or two other arguments. -/
theorem string_size2 {H : Type} {a : DataW H} {s : ByteArray} {r : List (DataW H)} (hk : Rows.uptoSmall H ([a, .lit (.string s.data.toList)] ++ r) = true) : s.size ≤ 1048576 := by
  have h := bound hk
  simp only [List.cons_append, List.nil_append, Rows.uptoBulkAll, string_bulk] at h
  have := Lib.size_eq s
  omega
theorem string_size3 {H : Type} {a b : DataW H} {s : ByteArray} {r : List (DataW H)} (hk : Rows.uptoSmall H ([a, b, .lit (.string s.data.toList)] ++ r) = true) : s.size ≤ 1048576 := by
  have h := bound hk
  simp only [List.cons_append, List.nil_append, Rows.uptoBulkAll, string_bulk] at h
  have := Lib.size_eq s
  omega
/-- One or two arguments, whatever they are. -/
theorem one {H : Type} {a : DataW H} {r : List (DataW H)} (hk : Rows.uptoSmall H ([a] ++ r) = true) : Rows.uptoBulk a ≤ 1048576 := by
  have h := bound hk
  simp only [List.cons_append, List.nil_append, Rows.uptoBulkAll] at h
  omega
theorem two {H : Type} {a b : DataW H} {r : List (DataW H)} (hk : Rows.uptoSmall H ([a, b] ++ r) = true) : Rows.uptoBulk a ≤ 1048576 ∧ Rows.uptoBulk b ≤ 1048576 := by
  have h := bound hk
  simp only [List.cons_append, List.nil_append, Rows.uptoBulkAll] at h
  omega
end Go.Proofs.Ytllgeffjkjdadaa.Bulk

namespace Go.Proofs.Ytllgeffjkjdadaa.R
open Go.ChangeShapes Go.WideShapes Go.ChangeAt Go.RowKit

theorem cellsByte : Try.prog.cellsOf 5 = 1 := by kernel_rfl
theorem cellsStr : Try.prog.cellsOf 9 = 1 := by kernel_rfl
theorem cellsBool : Try.prog.cellsOf 4 = 1 := by kernel_rfl
theorem cellsLine : Try.prog.cellsOf 35 = 2 := by kernel_rfl

theorem bulk_lits {H : Type} (k : IntKind) : ∀ zs : List Int, Rows.uptoBulkAll (lits (H := H) k zs) = zs.length
  | [] => rfl
  | z :: r => by
    have := bulk_lits (H := H) k r
    simp only [lits, List.map_cons, Rows.uptoBulkAll, Rows.uptoBulk, List.length_cons] at this ⊢
    omega
set_option maxRecDepth 100000 in
theorem bytes_arg {H : Type} {enc : TypeId × Value → H} {W : World} {r : Reach} {b0 base : Nat} {sp : Nat → Bool} {held : Bool} {v : Value} {d : DataW H} {p : List MemPlace}
    (hv : Value.okWide Try.prog W r b0 54 v) (h : DataW.Trod enc Try.prog W base sp held 54 v d p) :
    ∃ (A : Option Addr) (cap : Nat) (l : List UInt8), v = .slice A l.length cap ∧ l.length ≤ cap ∧ l.length ≤ Rows.uptoBulk d ∧ T.BytesIn W A l := by
  obtain ⟨a0, len, cap, rfl⟩ := okWide_slice Try.underlying54 hv
  obtain ⟨fuel, hf⟩ := h
  rcases open_ints Try.underlying54 Try.underlying5 cellsByte hf with ⟨hcs, hx⟩ | ⟨a, len', cap', zs, hcs, _, hl, hm, hz, hx, hcell, hwz⟩
  · simp only [Value.cells, List.cons.injEq, Value.slice.injEq, and_true] at hcs
    obtain ⟨rfl, rfl, rfl⟩ := hcs
    exact ⟨none, 0, [], rfl, Nat.le_refl _, Nat.zero_le _, fun h => absurd h (by simp)⟩
  · simp only [Value.cells, List.cons.injEq, Value.slice.injEq, and_true] at hcs
    obtain ⟨rfl, rfl, rfl⟩ := hcs
    have hle : len ≤ zs.length := by rw [hz]; split <;> omega
    have htl : ((zs.take len).map fun n => UInt8.ofNat n.toNat).length = len := by rw [List.length_map, List.length_take]; omega
    refine ⟨some a, cap, (zs.take len).map fun n => UInt8.ofNat n.toNat, by rw [htl], by rw [htl]; exact hl, ?_, fun hp => ?_⟩
    · rw [htl, (Prod.mk.inj hx).1, Rows.uptoBulk, bulk_lits, bulk_lits, List.length_take]; omega
    rw [htl] at hp
    obtain ⟨bk, off, rfl, hc⟩ := ints_at hcell (by omega)
    have h0 := hc 0 (by omega)
    refine ⟨bk, off, rfl, World.block_lt_of_cell? W ⟨bk, off + 0, none⟩ h0, fun j hj => ?_⟩
    rw [htl] at hj
    have hjz : j < zs.length := by omega
    have hw := bounds_u8 (hwz zs[j] (List.getElem_mem hjz))
    rw [hc j (by omega), List.getD_eq_getElem?_getD, List.getElem?_eq_getElem hjz]
    simp
    omega

def textOf : Value → List UInt8
  | .string s => s.data.toList
  | _ => []
def bareOf : Value → Bool
  | .bool b => b
  | _ => false
theorem bulk_pairs {H : Type} (D0 D1 : Nat → DataW H) (f : Nat → List UInt8 × Bool) : ∀ is : List Nat, (∀ i ∈ is, D0 i = .lit (.string (f i).1)) → P.bulk (is.map f) ≤ Rows.uptoBulkAll (is.map fun i => .agg [D0 i, D1 i])
  | [], _ => Nat.le_refl _
  | i :: r, h => by
    have ih := bulk_pairs D0 D1 f r (fun j hj => h j (by simp [hj]))
    rw [List.map_cons, List.map_cons, show f i = ((f i).1, (f i).2) from rfl, P.bulk]
    simp only [Rows.uptoBulkAll, Rows.uptoBulk, h i (by simp)]
    omega
set_option maxRecDepth 100000 in
theorem lines_arg {H : Type} {enc : TypeId × Value → H} {W : World} {r : Reach} {b0 base : Nat} {sp : Nat → Bool} {held : Bool} {v : Value} {d : DataW H} {p : List MemPlace}
    (hv : Value.okWide Try.prog W r b0 26 v) (h : DataW.Trod enc Try.prog W base sp held 26 v d p) :
    ∃ (A : Option Addr) (cap : Nat) (xs : List (List UInt8 × Bool)), v = .slice A xs.length cap ∧ P.bulk xs ≤ Rows.uptoBulk d ∧ T.LinesIn W A xs := by
  obtain ⟨a0, len, cap, rfl⟩ := okWide_slice Try.underlying26 hv
  obtain ⟨fuel, hf⟩ := h
  rcases Deep.open_slice_pairs Try.underlying26 Try.underlying35 cellsLine rfl rfl cellsStr cellsBool hf with ⟨hcs, hx⟩ | ⟨a, len', cap', m, n, V0, V1, D0, D1, P0, P1, hcs, _, hl, hm, hmm, hx, hcell⟩
  · simp only [Value.cells, List.cons.injEq, Value.slice.injEq, and_true] at hcs
    obtain ⟨rfl, rfl, rfl⟩ := hcs
    exact ⟨none, 0, [], rfl, Nat.zero_le _, fun h => absurd h (by simp)⟩
  · simp only [Value.cells, List.cons.injEq, Value.slice.injEq, and_true] at hcs
    obtain ⟨rfl, rfl, rfl⟩ := hcs
    have hle : len ≤ m := by rw [hmm]; split <;> omega
    have each : ∀ i, i < len → W.cell? (a.add (i * 2)) = some (.string ⟨(textOf (V0 i)).toArray⟩) ∧ W.cell? (a.add (i * 2 + 1)) = some (.bool (bareOf (V1 i))) ∧ D0 i = .lit (.string (textOf (V0 i))) := by
      intro i hi
      obtain ⟨c0, c1, t0, t1⟩ := hcell i (by omega)
      obtain ⟨s, hs, hd, _⟩ := DataW.trod_string Try.underlying9 t0
      obtain ⟨b, hb, _⟩ := DataW.trod_bool Try.underlying4 t1
      simp only [List.cons.injEq, and_true] at hs hb
      rw [hs] at c0
      rw [hb] at c1
      refine ⟨by rw [c0, hs]; simp [textOf], by rw [c1, hb]; rfl, by rw [(Prod.mk.inj hd).1, hs]; rfl⟩
    have htl : ((List.range len).map fun i => (textOf (V0 i), bareOf (V1 i))).length = len := by simp
    refine ⟨some a, cap, (List.range len).map fun i => (textOf (V0 i), bareOf (V1 i)), by rw [htl], ?_, fun hp => ?_⟩
    · have := bulk_pairs D0 D1 (fun i => (textOf (V0 i), bareOf (V1 i))) (List.range len) (fun i hi => (each i (List.mem_range.1 hi)).2.2)
      rw [(Prod.mk.inj hx).1, Rows.uptoBulk]; omega
    rw [htl] at hp
    obtain ⟨bk, off, spot⟩ := a
    have hspot : spot = none := by simpa [Addr.add] using World.cell?_spot (each 0 hp).1
    subst hspot
    have h0 := (each 0 hp).1
    refine ⟨bk, off, rfl, World.block_lt_of_cell? W _ h0, fun j hj => ?_⟩
    rw [htl] at hj
    have := each j hj
    rw [add_plain, add_plain, ← Nat.add_assoc] at this
    simp only [List.getElem_map, List.getElem_range]
    exact ⟨this.1, this.2.1⟩
end Go.Proofs.Ytllgeffjkjdadaa.R

namespace Go.Proofs.Ytllgeffjkjdadaa.RZ
set_option linter.unusedVariables false
set_option linter.unusedSimpArgs false
open Go.ChangeShapes Go.WideShapes Go.ChangeAt Go.RowKit Go.Joins
section
variable {H : Type} {enc : TypeId × Value → H} {w : World} {base : Nat} {spare : Nat → Bool} {held : Bool}
theorem slice_shape {t e : TypeId} {A : Option Addr} {n cap : Nat} {d : DataW H} {p : List MemPlace} (hu : Try.prog.underlying t = some (.slice e)) (h : DataW.Trod enc Try.prog w base spare held t (.slice A n cap) d p) :
    (n = 0 ∧ d = .nil) ∨ ∃ es sp, d = .slice es sp ∧ es.length = n := by
  obtain ⟨fuel, hf⟩ := h
  rcases Deep.open_slice hu hf with ⟨hcs, hx⟩ | ⟨a, len, cap', m, k, D, Pl, hcs, _, _, _, _, hx, _⟩
  · simp only [Value.cells, List.cons.injEq, Value.slice.injEq, and_true] at hcs
    obtain ⟨rfl, rfl, rfl⟩ := hcs
    injection hx with h1 h2
    exact .inl ⟨rfl, h1⟩
  · simp only [Value.cells, List.cons.injEq, Value.slice.injEq, and_true] at hcs
    obtain ⟨rfl, rfl, rfl⟩ := hcs
    injection hx with h1 h2
    exact .inr ⟨_, _, h1, by simp⟩
theorem slice_size {ts : List TypeId} {ds : List (DataW H)} (hs : (DataW.weightsEach Try.prog ts ds).all (· ≤ reachBytes) = true) {j : Nat} {t e : TypeId} {A : Option Addr} {n cap : Nat} {d : DataW H} {p : List MemPlace} (ht : ts[j]? = some t) (hd : ds[j]? = some d) (hu : Try.prog.underlying t = some (.slice e)) (h : DataW.Trod enc Try.prog w base spare held t (.slice A n cap) d p) :
    n * Try.prog.bytesOf e ≤ reachBytes := by
  rcases slice_shape hu h with ⟨rfl, -⟩ | ⟨es, sp, rfl, rfl⟩
  · simp
  · exact Nat.le_trans (Nat.mul_le_mul_right _ (Nat.le_add_right _ _)) (sized_slice hs ht hd hu)
theorem bytesItem : Try.prog.bytesOf 37 = 56 := by kernel_rfl
theorem bytesInt : Try.prog.bytesOf 3 = 8 := by kernel_rfl
theorem items_size {ts : List TypeId} {ds : List (DataW H)} (hs : (DataW.weightsEach Try.prog ts ds).all (· ≤ reachBytes) = true) {j : Nat} {A : Option Addr} {n cap : Nat} {d : DataW H} {p : List MemPlace} (ht : ts[j]? = some 22) (hd : ds[j]? = some d) (h : DataW.Trod enc Try.prog w base spare held 22 (.slice A n cap) d p) : n * 56 ≤ 140737488351232 := by
  have := slice_size hs ht hd Try.underlying22 h
  rw [bytesItem] at this
  exact this
theorem ints_size {ts : List TypeId} {ds : List (DataW H)} (hs : (DataW.weightsEach Try.prog ts ds).all (· ≤ reachBytes) = true) {j : Nat} {A : Option Addr} {n cap : Nat} {d : DataW H} {p : List MemPlace} (ht : ts[j]? = some 27) (hd : ds[j]? = some d) (h : DataW.Trod enc Try.prog w base spare held 27 (.slice A n cap) d p) : n * 8 ≤ 140737488351232 := by
  have := slice_size hs ht hd Try.underlying27 h
  rw [bytesInt] at this
  exact this
end
end Go.Proofs.Ytllgeffjkjdadaa.RZ

namespace Go.Proofs.Ytllgeffjkjdadaa.RZ
open Go.ChangeShapes Go.WideShapes Go.ChangeAt Go.RowKit Go.Joins
set_option maxRecDepth 100000 in
theorem ints_argC {H : Type} {enc : TypeId × Value → H} {W : World} {r : Reach} {b0 base : Nat} {sp : Nat → Bool} {held : Bool} {v : Value} {d : DataW H} {p : List MemPlace}
    (hv : Value.okWide Try.prog W r b0 27 v) (h : DataW.Trod enc Try.prog W base sp held 27 v d p) :
    ∃ (A : Option Addr) (cap : Nat) (xs : List Int), v = .slice A xs.length cap ∧ xs.length ≤ maxLen ∧ xs.length ≤ cap ∧ V.IntsIn W A xs ∧ ∀ x ∈ xs, -9223372036854775808 ≤ x ∧ x ≤ 9223372036854775807 := by
  obtain ⟨a0, len, cap, rfl⟩ := okWide_slice Try.underlying27 hv
  obtain ⟨fuel, hf⟩ := h
  rcases open_ints Try.underlying27 Try.underlying3 R.cellsInt hf with ⟨hcs, hx⟩ | ⟨a, len', cap', zs, hcs, _, hl, hm, hz, hx, hcell, hwz⟩
  · simp only [Value.cells, List.cons.injEq, Value.slice.injEq, and_true] at hcs
    obtain ⟨rfl, rfl, rfl⟩ := hcs
    exact ⟨none, 0, [], rfl, Nat.zero_le _, Nat.le_refl _, fun h => absurd h (by simp), fun x hx => by simp at hx⟩
  · simp only [Value.cells, List.cons.injEq, Value.slice.injEq, and_true] at hcs
    obtain ⟨rfl, rfl, rfl⟩ := hcs
    have hle : len ≤ zs.length := by rw [hz]; split <;> omega
    have htl : (zs.take len).length = len := by rw [List.length_take]; omega
    refine ⟨some a, cap, zs.take len, by rw [htl], by rw [htl]; omega, by rw [htl]; exact hl, fun hp => ?_, fun x hx => ?_⟩
    · rw [htl] at hp
      obtain ⟨bk, off, rfl, hc⟩ := ints_at hcell (by omega)
      have h0 := hc 0 (by omega)
      refine ⟨bk, off, rfl, World.block_lt_of_cell? W ⟨bk, off + 0, none⟩ h0, fun j hj => ?_⟩
      rw [htl] at hj
      rw [hc j (by omega), List.getElem_take, List.getD_eq_getElem?_getD, List.getElem?_eq_getElem (by omega)]
      rfl
    · exact bounds_i64 (hwz x (List.mem_of_mem_take hx))
end Go.Proofs.Ytllgeffjkjdadaa.RZ
