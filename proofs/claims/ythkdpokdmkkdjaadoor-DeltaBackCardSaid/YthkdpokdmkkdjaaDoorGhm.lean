/-
  DeltaSizes, walked over any two lists.
  A label read out of an argument; small facts for arguments of structs.
  An argument that is items, opened: its value, and what its cells hold.
  What the second form's bound on the bulk of the arguments gives: bounds on lengths.
  An argument that is items, opened, with a bound by its bulk; how much a view's lines hold together.
  An argument that is items: how long it is against its capacity.
  An argument that is items, opened: its numbers are those of a machine.
-/
import Derived.Test.YthkdpokdmkkdjaaDoorGhl
import Derived.Test.YthkdpokdmkkdjaaDoorGhc
import Derived.Deep.Slices
import Derived.Deep.Strs
import Derived.Lib.SmallJoins
import Derived.Test.YthkdpokdmkkdjaaDoorRows
import Derived.Lib.Strings
import Derived.Test.YthkdpokdmkkdjaaDoorGhe
import Derived.Test.YthkdpokdmkkdjaaDoorGhd
namespace Go.Proofs.YthkdpokdmkkdjaaDoor.Dl
set_option linter.unusedVariables false
set_option linter.unusedSimpArgs false
open Go.RowKit Go.Maps
open T
open V (drawn_below grown_of)
open I (It ItemsIn ItemsAt itCells itCells_snoc itCells_at alloc1 own_at own_below items_of_own items_own infoItem ItemsIn.below)

/-- Make, then Size, of two lists of at most forty items. -/
theorem msz_any {A B : Option Addr} {ca cb : Nat} {a b : List It} {w W : World} (hA : Ix w A ca a) (hB : Ix w B cb b) (hb : Below w.heap.size w W) (ha : a.length ≤ 40) (hl : b.length ≤ 40) (hwa : ∀ x ∈ a, Wi x) (hwb : ∀ x ∈ b, Wi x) (hca : ca ≤ 9223372036854775807) (hcb : cb ≤ 9223372036854775807) :
    Calls Tryd.prog 11 #[.slice A a.length ca, .slice B b.length cb] W fun e W2 => ∃ D n dc, e = .returned (.slice D n dc) ∧ Below w.heap.size w W2 ∧ ∀ W3, Below W2.heap.size W2 W3 → Calls Tryd.prog 15 #[.slice D n dc] W3 fun e W4 => e = .returned (.int .i64 (siz (make a b) : Int)) ∧ Below w.heap.size w W4 := by
  refine (make_any W (hA.below hb) (hB.below hb) (by omega) (by omega) hwa hwb hca hcb).mono ?_
  rintro e W2 ⟨D, dc, rfl, hD, hb2⟩
  have hb3 := hb.trans (hb2.mono hb.size)
  refine ⟨D, _, dc, rfl, hb3, fun W3 h => (size_any D dc (make a b) W3 (hD.below h) (Nat.le_trans (make_len a b) (by omega)) (Nat.le_trans (make_siz a b) (by omega))).mono fun e W4 h4 => ⟨h4.1, (hb3.trans (h.mono hb3.size)).trans (h4.2.mono (hb3.trans (h.mono hb3.size)).size)⟩⟩
theorem ix_none (w : World) : Ix w none 0 [] := ⟨fun h => absurd h (by simp), Nat.le_refl _, fun _ => rfl⟩
set_option maxRecDepth 100000 in
set_option maxHeartbeats 4000000 in
theorem sizes_any {A B : Option Addr} {ca cb : Nat} {a b : List It} (n : Nat) (w : World) (hA : Ix w A ca a) (hB : Ix w B cb b) (hwa : ∀ x ∈ a, Wi x) (hwb : ∀ x ∈ b, Wi x) (hca : ca ≤ maxLen) (hcb : cb ≤ maxLen) (hn : n < 256) (hT : Tab w) :
    Calls Tryd.prog 9 #[.slice A a.length ca, .slice B b.length cb, .int .u8 (n : Int)] w fun e w' => e = .returned (.bool true) ∧ Below w.heap.size w w' := by
  have hra := hA.r
  have hrb := hB.r
  have HFA := Lib.hid (few_any A a ca w (by omega) hra)
  have HFB := Lib.hid (few_any B b cb w (by omega) hrb)
  have hA4 := hA.take 40
  have hB4 := hB.take 40
  have hla : (a.take 40).length ≤ 40 := by rw [List.length_take]; omega
  have hlb : (b.take 40).length ≤ 40 := by rw [List.length_take]; omega
  have hwa4 : ∀ x ∈ a.take 40, Wi x := fun x hx => hwa x (List.mem_of_mem_take hx)
  have hwb4 : ∀ x ∈ b.take 40, Wi x := fun x hx => hwb x (List.mem_of_mem_take hx)
  unfold maxLen at hca hcb
  generalize a.take 40 = a4 at *
  generalize b.take 40 = b4 at *
  obtain ⟨k, hk⟩ : ∃ k, k = n % (a4.length + 1) := ⟨_, rfl⟩
  have hk1 : k ≤ a4.length := by have := Nat.mod_lt n (show 0 < a4.length + 1 by omega); rw [← hk] at this; omega
  have hAk := hA4.take k
  have hkl : (a4.take k).length = k := by rw [List.length_take]; omega
  have hwk : ∀ x ∈ a4.take k, Wi x := fun x hx => hwa4 x (List.mem_of_mem_take hx)
  have H1 := Lib.hid (fun (W : World) (h : Below w.heap.size w W) => msz_any hA4 hB4 h hla hlb hwa4 hwb4 (by omega) (by omega))
  have H2 := Lib.hid (fun (W : World) (h : Below w.heap.size w W) => msz_any hA4 hA4 h hla hla hwa4 hwa4 (by omega) (by omega))
  have H3 := Lib.hid (fun (W : World) (h : Below w.heap.size w W) => msz_any hA4 hAk h hla (by omega) hwa4 hwk (by omega) (by omega))
  have H4 := Lib.hid (fun (W : World) (h : Below w.heap.size w W) => msz_any (ix_none w) hB4 h (by decide) hlb (by simp) hwb4 (by omega) (by omega))
  rw [show siz (make a4 a4) = 0 by have := make_self a4 []; rwa [List.append_nil] at this] at H2
  rw [show siz (make a4 (a4.take k)) = 0 by have := make_self (a4.take k) (a4.drop k); rwa [List.take_append_drop] at this, hkl] at H3
  rw [make_none] at H4
  simp only [List.length_nil] at H4
  have hs1 := make_siz a4 b4
  obtain ⟨s1, hs⟩ : ∃ s1, s1 = siz (make a4 b4) := ⟨_, rfl⟩
  rw [← hs] at H1 hs1
  have HLV := Lib.hid (live15 w hT)
  obtain ⟨la, hla2⟩ : ∃ la, la = a4.length := ⟨_, rfl⟩
  obtain ⟨lb, hlb2⟩ : ∃ lb, lb = b4.length := ⟨_, rfl⟩
  obtain ⟨l0, hl0⟩ : ∃ l0, l0 = a.length := ⟨_, rfl⟩
  obtain ⟨l1, hl1⟩ : ∃ l1, l1 = b.length := ⟨_, rfl⟩
  rw [← hla2] at HFA H1 H2 H3 hla hk hk1
  rw [← hlb2] at HFB H1 H4 hlb hs1
  rw [← hl0] at HFA ⊢
  rw [← hl1] at HFB ⊢
  have hac : la ≤ ca := by rw [hla2]; exact hA4.r
  have hwr : IntKind.i64.wrap ((la : Int) + 1) = ((la + 1 : Nat) : Int) := by rw [IntKind.wrap_i64]; omega
  have hrm : (n : Int) % ((la : Int) + 1) = (k : Int) := by rw [hk]; exact (Int.natCast_emod n (la + 1)).symm
  have hk0 : (0 : Int) ≤ (k : Int) := by omega
  have hkc : (k : Int) ≤ (ca : Int) := by omega
  have hsi : (s1 : Int) ≤ (lb : Int) := by omega
  have hwk2 : IntKind.i64.wrap (k : Int) = (k : Int) := by rw [IntKind.wrap_i64]; omega
  have hwn : IntKind.i64.wrap (n : Int) = (n : Int) := by rw [IntKind.wrap_i64]; omega
  clear hA hB hwa hwb hA4 hB4 hla2 hlb2 hl0 hl1 hAk hkl hwk hs hwa4 hwb4 hra hrb hk hs1 hT
  go_enter Tryd.func9, Tryd.ntmps9
  go_wp2_with fail
  with_reducible refine HFA.out.mono ?_
  rintro e w1 ⟨rfl, rfl⟩
  go_wp2_with fail
  with_reducible refine HFB.out.mono ?_
  rintro e w1 ⟨rfl, rfl⟩
  go_wp2_with fail
  with_reducible refine HLV.out.mono ?_
  rintro e w2 ⟨rfl, hb2⟩
  have HB2 := Lib.hid hb2
  clear hb2 HLV HFA HFB
  go_wp2_with fail
  with_reducible refine (H1.out _ HB2.out).mono ?_
  rintro e w3 ⟨D1, n1, c1, rfl, hb3, hs1⟩
  have HS1 := Lib.hid (hs1 w3 (Below.refl _ _))
  clear hb3 hs1 H1 HB2
  go_wp2_with fail
  with_reducible refine HS1.out.mono ?_
  rintro e w4 ⟨rfl, hb4⟩
  have HB4 := Lib.hid hb4
  clear HS1 hb4
  go_wp2_with fail
  with_reducible refine (H2.out _ HB4.out).mono ?_
  rintro e w5 ⟨D2, n2, c2, rfl, hb5, hs2⟩
  have HS2 := Lib.hid (hs2 w5 (Below.refl _ _))
  clear hb5 hs2 H2 HB4
  go_wp2_with fail
  with_reducible refine HS2.out.mono ?_
  rintro e w6 ⟨rfl, hb6⟩
  have HB6 := Lib.hid hb6
  clear HS2 hb6
  go_wp2_with fail
  with_reducible refine (H3.out _ HB6.out).mono ?_
  rintro e w7 ⟨D3, n3, c3, rfl, hb7, hs3⟩
  have HS3 := Lib.hid (hs3 w7 (Below.refl _ _))
  clear hb7 hs3 H3 HB6
  go_wp2_with fail
  with_reducible refine HS3.out.mono ?_
  rintro e w8 ⟨rfl, hb8⟩
  have HB8 := Lib.hid hb8
  clear HS3 hb8
  go_wp2_with fail
  with_reducible refine (H4.out _ HB8.out).mono ?_
  rintro e w9 ⟨D4, n4, c4, rfl, hb9, hs4⟩
  have HS4 := Lib.hid (hs4 w9 (Below.refl _ _))
  clear hb9 hs4 H4 HB8
  go_wp2_with fail
  with_reducible refine HS4.out.mono ?_
  rintro e w10 ⟨rfl, hb10⟩
  have HB10 := Lib.hid hb10
  clear HS4 hb10
  go_wp2_with fail
  go_ret
  exact ⟨rfl, HB10.out⟩
end Go.Proofs.YthkdpokdmkkdjaaDoor.Dl

namespace Go.Proofs.YthkdpokdmkkdjaaDoor.RP
open Go.ChangeShapes Go.WideShapes Go.ChangeAt Go.RowKit Go.Deep Go.Joins

theorem cInt : Tryd.prog.cellsOf 3 = 1 := by kernel_rfl
theorem cU64 : Tryd.prog.cellsOf 35 = 1 := by kernel_rfl
theorem cStr : Tryd.prog.cellsOf 9 = 1 := by kernel_rfl
theorem cBool : Tryd.prog.cellsOf 4 = 1 := by kernel_rfl
theorem cLabel : Tryd.prog.cellsOf 37 = 2 := by kernel_rfl

section
variable {H : Type} {enc : TypeId × Value → H} {w : World} {base : Nat} {spare : Nat → Bool} {held : Bool} {fuel : Nat} {cs : List Value} {x : DataW H × List MemPlace}
theorem list2 {α : Type} {l : List α} (h : l.length = 2) : ∃ a b, l = [a, b] := by
  match l, h with
  | [a, b], _ => exact ⟨a, b, rfl⟩
theorem list3 {α : Type} {l : List α} (h : l.length = 3) : ∃ a b c, l = [a, b, c] := by
  match l, h with
  | [a, b, c], _ => exact ⟨a, b, c, rfl⟩
theorem list4 {α : Type} {l : List α} (h : l.length = 4) : ∃ a b c d, l = [a, b, c, d] := by
  match l, h with
  | [a, b, c, d], _ => exact ⟨a, b, c, d, rfl⟩
theorem list9 {α : Type} {l : List α} (h : l.length = 9) : ∃ a b c d e f g i j, l = [a, b, c, d, e, f, g, i, j] := by
  match l, h with
  | [a, b, c, d, e, f, g, i, j], _ => exact ⟨a, b, c, d, e, f, g, i, j, rfl⟩
/-- A label's two cells. -/
theorem label_read (h : DataW.trod enc Tryd.prog w base spare held fuel 37 cs = some x) : ∃ (l : Int) (k : Nat), cs = [.int .i64 l, .int .u64 (k : Int)] ∧ k < 18446744073709551616 ∧ -9223372036854775808 ≤ l ∧ l ≤ 9223372036854775807 := by
  obtain ⟨y0, y1, n, -, hl, h0, h1⟩ := trod_struct2 Tryd.underlying37 h
  dsimp only at h0 h1
  rw [cLabel] at hl
  rw [cInt] at h0
  rw [cU64] at h1
  obtain ⟨a, b, rfl⟩ := list2 hl
  obtain ⟨l, e0, -, w0⟩ := DataW.trod_int Tryd.underlying3 h0
  obtain ⟨k, e1, -, w1⟩ := DataW.trod_int Tryd.underlying35 h1
  have e0' : a = .int .i64 l := by injection e0
  have e1' : b = .int .u64 k := by injection e1
  obtain ⟨m, rfl⟩ := Int.eq_ofNat_of_zero_le (bounds_u64 w1).1
  exact ⟨l, m, by rw [e0', e1'], by have := (bounds_u64 w1).2; omega, (bounds_i64 w0).1, (bounds_i64 w0).2⟩
end
end Go.Proofs.YthkdpokdmkkdjaaDoor.RP

namespace Go.Proofs.YthkdpokdmkkdjaaDoor.RI
open Go.ChangeShapes Go.WideShapes Go.ChangeAt Go.RowKit Go.Deep Go.Joins

theorem cLine : Tryd.prog.cellsOf 39 = 2 := by kernel_rfl
theorem cItem : Tryd.prog.cellsOf 41 = 6 := by kernel_rfl

section
variable {H : Type} {enc : TypeId × Value → H} {w : World} {base : Nat} {spare : Nat → Bool} {held : Bool} {fuel : Nat} {cs : List Value} {x : DataW H × List MemPlace}
theorem list6 {α : Type} {l : List α} (h : l.length = 6) : ∃ a b c d e f, l = [a, b, c, d, e, f] := by
  match l, h with
  | [a, b, c, d, e, f], _ => exact ⟨a, b, c, d, e, f, rfl⟩
theorem line_read (h : DataW.trod enc Tryd.prog w base spare held fuel 39 cs = some x) : ∃ (s : ByteArray) (t : Bool), cs = [.string s, .bool t] ∧ s.size ≤ maxLen := by
  obtain ⟨y0, y1, n, -, hl, h0, h1⟩ := trod_struct2 Tryd.underlying39 h
  dsimp only at h0 h1
  rw [cLine] at hl
  rw [RP.cStr] at h0
  rw [RP.cBool] at h1
  obtain ⟨a, b, rfl⟩ := RP.list2 hl
  obtain ⟨s, e0, -, z0⟩ := DataW.trod_string Tryd.underlying9 h0
  obtain ⟨t, e1, -⟩ := DataW.trod_bool Tryd.underlying4 h1
  have e0' : a = .string s := by injection e0
  have e1' : b = .bool t := by injection e1
  exact ⟨s, t, by rw [e0', e1'], z0⟩
set_option maxRecDepth 100000 in
theorem item_fields {c0 c1 c2 c3 c4 c5 : Value} (h : DataW.trod enc Tryd.prog w base spare held fuel 41 [c0, c1, c2, c3, c4, c5] = some x) :
    ∃ (n : Nat) (y0 y1 y2 y3 : DataW H × List MemPlace), DataW.trod enc Tryd.prog w base spare held n 3 [c0] = some y0 ∧ DataW.trod enc Tryd.prog w base spare held n 37 [c1, c2] = some y1 ∧ DataW.trod enc Tryd.prog w base spare held n 4 [c3] = some y2 ∧ DataW.trod enc Tryd.prog w base spare held n 39 [c4, c5] = some y3 := by
  obtain ⟨xs, n, -, -, -, hlen, hf⟩ := DataW.trod_struct Tryd.underlying41 h
  have hlen : xs.length = 4 := hlen
  obtain ⟨y0, y1, y2, y3, rfl⟩ := RP.list4 hlen
  refine ⟨n, y0, y1, y2, y3, ?_, ?_, ?_, ?_⟩
  · have this : DataW.trod enc Tryd.prog w base spare held n 3 (([c0, c1, c2, c3, c4, c5].drop 0).take (Tryd.prog.cellsOf 3)) = [y0, y1, y2, y3][0]? := hf 0 _ rfl
    rw [RP.cInt] at this
    exact this
  · have this : DataW.trod enc Tryd.prog w base spare held n 37 (([c0, c1, c2, c3, c4, c5].drop 1).take (Tryd.prog.cellsOf 37)) = [y0, y1, y2, y3][1]? := hf 1 _ rfl
    rw [RP.cLabel] at this
    exact this
  · have this : DataW.trod enc Tryd.prog w base spare held n 4 (([c0, c1, c2, c3, c4, c5].drop 3).take (Tryd.prog.cellsOf 4)) = [y0, y1, y2, y3][2]? := hf 2 _ rfl
    rw [RP.cBool] at this
    exact this
  · have this : DataW.trod enc Tryd.prog w base spare held n 39 (([c0, c1, c2, c3, c4, c5].drop 4).take (Tryd.prog.cellsOf 39)) = [y0, y1, y2, y3][3]? := hf 3 _ rfl
    rw [cLine] at this
    exact this
/-- An item's six cells. -/
theorem item_read (hl : cs.length = 6) (h : DataW.trod enc Tryd.prog w base spare held fuel 41 cs = some x) : ∃ u : I.It, cs = [.int .i64 u.id, .int .i64 u.lv, .int .u64 (u.ct : Int), .bool u.an, .string ⟨u.tx.toArray⟩, .bool u.ba] ∧ u.ct < 18446744073709551616 ∧ u.tx.length ≤ maxLen := by
  obtain ⟨c0, c1, c2, c3, c4, c5, rfl⟩ := list6 hl
  obtain ⟨n, y0, y1, y2, y3, h0, h1, h2, h3⟩ := item_fields h
  obtain ⟨i, e0, -, w0⟩ := DataW.trod_int Tryd.underlying3 h0
  obtain ⟨l, k, e1, hk, -, -⟩ := RP.label_read h1
  obtain ⟨an, e2, -⟩ := DataW.trod_bool Tryd.underlying4 h2
  obtain ⟨s, ba, e3, hz⟩ := line_read h3
  have e0' : c0 = .int .i64 i := by injection e0
  have e2' : c3 = .bool an := by injection e2
  have e1' : c1 = .int .i64 l ∧ c2 = .int .u64 (k : Int) := by injection e1 with p q; injection q with q; exact ⟨p, q⟩
  have e3' : c4 = .string s ∧ c5 = .bool ba := by injection e3 with p q; injection q with q; exact ⟨p, q⟩
  exact ⟨⟨i, l, k, an, s.data.toList, ba⟩, by rw [e0', e1'.1, e1'.2, e2', e3'.1, e3'.2], hk, by show s.data.toList.length ≤ maxLen; rw [← Lib.size_eq]; exact hz⟩
instance : Inhabited I.It := ⟨⟨0, 0, 0, false, [], false⟩⟩
theorem items_read (h : DataW.trod enc Tryd.prog w base spare held fuel 22 cs = some x) : ∃ (A : Option Addr) (cap : Nat) (us : List I.It), cs = [.slice A us.length cap] ∧ I.ItemsIn w A us ∧ I.ItemsOk us := by
  rcases open_slice Tryd.underlying22 h with ⟨hcs, hx⟩ | ⟨a, len, cap, m, n, D, Pl, hcs, _, hl, hm, hmm, hx, hcell⟩
  · exact ⟨none, 0, [], hcs, fun h => absurd h (by simp), ⟨Nat.zero_le _, fun x hx => (by cases hx), fun x hx => (by cases hx)⟩⟩
  have hle : len ≤ m := by rw [hmm]; split <;> omega
  obtain ⟨f, hf⟩ := choose_lt (n := len) (p := fun i (u : I.It) => (w.cell? (a.add (i * 6 + 0)) = some (.int .i64 u.id) ∧ w.cell? (a.add (i * 6 + 1)) = some (.int .i64 u.lv) ∧ w.cell? (a.add (i * 6 + 2)) = some (.int .u64 (u.ct : Int)) ∧ w.cell? (a.add (i * 6 + 3)) = some (.bool u.an) ∧ w.cell? (a.add (i * 6 + 4)) = some (.string ⟨u.tx.toArray⟩) ∧ w.cell? (a.add (i * 6 + 5)) = some (.bool u.ba)) ∧ u.ct < 18446744073709551616 ∧ u.tx.length ≤ maxLen) (fun i hi => by
    obtain ⟨cs', c1, c2⟩ := hcell i (by omega)
    rw [cItem] at c1
    obtain ⟨_, hlen, hat⟩ := World.cells?_some c1
    obtain ⟨u, rfl, hu⟩ := item_read (by simpa using hlen) c2
    have q0 := hat 0 (by omega)
    have q1 := hat 1 (by omega)
    have q2 := hat 2 (by omega)
    have q3 := hat 3 (by omega)
    have q4 := hat 4 (by omega)
    have q5 := hat 5 (by omega)
    rw [Go.Deep.add_add] at q0 q1 q2 q3 q4 q5
    exact ⟨u, ⟨q0, q1, q2, q3, q4, q5⟩, hu⟩)
  have htl : ((List.range len).map f).length = len := by simp
  refine ⟨some a, cap, (List.range len).map f, by rw [htl, hcs], fun hp => ?_, ⟨by rw [htl]; omega, fun u hu => ?_, fun u hu => ?_⟩⟩
  · rw [htl] at hp
    obtain ⟨bk, off, spot⟩ := a
    have hspot : spot = none := by simpa [Addr.add] using World.cell?_spot (hf 0 hp).1.1
    subst hspot
    have h0 := (hf 0 hp).1.1
    refine ⟨bk, off, rfl, World.block_lt_of_cell? w _ h0, fun j hj => ?_⟩
    rw [htl] at hj
    have := (hf j hj).1
    simp only [add_plain, ← Nat.add_assoc, Nat.add_zero] at this
    simp only [List.getElem_map, List.getElem_range]
    exact this
  · obtain ⟨i, hi, rfl⟩ := List.mem_map.1 hu
    exact (hf i (List.mem_range.1 hi)).2.2
  · obtain ⟨i, hi, rfl⟩ := List.mem_map.1 hu
    exact (hf i (List.mem_range.1 hi)).2.1
set_option maxRecDepth 100000 in
theorem items_arg {r : Reach} {b0 : Nat} {v : Value} {d : DataW H} {p : List MemPlace} (hv : Value.okWide Tryd.prog w r b0 22 v) (h : DataW.Trod enc Tryd.prog w base spare held 22 v d p) :
    ∃ (A : Option Addr) (cap : Nat) (us : List I.It), v = .slice A us.length cap ∧ I.ItemsIn w A us ∧ I.ItemsOk us := by
  obtain ⟨a0, len, cap, rfl⟩ := okWide_slice Tryd.underlying22 hv
  obtain ⟨fuel, hf⟩ := h
  obtain ⟨A, cap', us, hcs, r⟩ := items_read hf
  simp only [Value.cells, List.cons.injEq, Value.slice.injEq, and_true] at hcs
  obtain ⟨rfl, rfl, rfl⟩ := hcs
  exact ⟨_, _, us, rfl, r⟩
end
end Go.Proofs.YthkdpokdmkkdjaaDoor.RI

namespace Go.Proofs.YthkdpokdmkkdjaaDoor.Bulk

theorem bound {H : Type} {l : List (DataW H)} (hk : Rows.uptoSmall H l = true) : Rows.uptoBulkAll l ≤ 1048576 := of_decide_eq_true hk
theorem string_bulk {H : Type} (b : List UInt8) : Rows.uptoBulk (DataW.lit (H := H) (.string b)) = b.length + 1 := by simp [Rows.uptoBulk]
/-- One text: so many bytes at the most. -/
theorem string_size {H : Type} {s : ByteArray} {r : List (DataW H)} (hk : Rows.uptoSmall H ([.lit (.string s.data.toList)] ++ r) = true) : s.size ≤ 1048576 := by
  have h := bound hk
  simp only [List.cons_append, List.nil_append, Rows.uptoBulkAll, string_bulk] at h
  have := Lib.size_eq s
  omega
/-- A text behind one or two other arguments. -/
theorem string_size2 {H : Type} {a : DataW H} {s : ByteArray} {r : List (DataW H)} (hk : Rows.uptoSmall H ([a, .lit (.string s.data.toList)] ++ r) = true) : s.size ≤ 1048576 := by
  have h := bound hk
  simp only [List.cons_append, List.nil_append, Rows.uptoBulkAll, string_bulk] at h
  have := Lib.size_eq s
  omega
theorem string_size3 {H : Type} {a b : DataW H} {s : ByteArray} {r : List (DataW H)} (hk : Rows.uptoSmall H ([a, b, .lit (.string s.data.toList)] ++ r) = true) : s.size ≤ 1048576 := by
  have h := bound hk
  simp only [List.cons_append, List.nil_append, Rows.uptoBulkAll, string_bulk] at h
  have := Lib.size_eq s
  omega
/-- One or two arguments, whatever they are. -/
theorem one {H : Type} {a : DataW H} {r : List (DataW H)} (hk : Rows.uptoSmall H ([a] ++ r) = true) : Rows.uptoBulk a ≤ 1048576 := by
  have h := bound hk
  simp only [List.cons_append, List.nil_append, Rows.uptoBulkAll] at h
  omega
theorem two {H : Type} {a b : DataW H} {r : List (DataW H)} (hk : Rows.uptoSmall H ([a, b] ++ r) = true) : Rows.uptoBulk a ≤ 1048576 ∧ Rows.uptoBulk b ≤ 1048576 := by
  have h := bound hk
  simp only [List.cons_append, List.nil_append, Rows.uptoBulkAll] at h
  omega
end Go.Proofs.YthkdpokdmkkdjaaDoor.Bulk

namespace Go.Proofs.YthkdpokdmkkdjaaDoor.RI
open Go.ChangeShapes Go.WideShapes Go.ChangeAt Go.RowKit Go.Deep Go.Joins

section
variable {H : Type} {enc : TypeId × Value → H} {w : World} {base : Nat} {spare : Nat → Bool} {held : Bool} {fuel : Nat} {cs : List Value} {x : DataW H × List MemPlace}
def itBulk : List I.It → Nat
  | [] => 0
  | u :: r => u.tx.length + 1 + itBulk r
theorem itBulk_le {H : Type} (D : Nat → DataW H) (f : Nat → I.It) : ∀ is : List Nat, (∀ i ∈ is, (f i).tx.length + 1 ≤ Rows.uptoBulk (D i)) → itBulk (is.map f) ≤ Rows.uptoBulkAll (is.map D)
  | [], _ => Nat.le_refl _
  | i :: r, h => by
    have := itBulk_le D f r (fun j hj => h j (by simp [hj]))
    have := h i (by simp)
    simp only [List.map_cons, itBulk, Rows.uptoBulkAll]
    omega
theorem itBulk_len : ∀ l : List I.It, l.length ≤ itBulk l
  | [] => Nat.le_refl _
  | u :: r => by have := itBulk_len r; simp only [List.length_cons, itBulk]; omega
theorem itBulk_cut (o : I.Lb) : ∀ l : List I.It, itBulk (V.cut o l) ≤ itBulk l
  | [] => Nat.le_refl _
  | u :: r => by
    have := itBulk_cut o r
    by_cases hu : V.sees o u = true
    · have e : V.cut o (u :: r) = u :: V.cut o r := by simp [V.cut, hu]
      rw [e, itBulk, itBulk]; omega
    · have e : V.cut o (u :: r) = V.cut o r := by simp [V.cut, hu]
      rw [e, itBulk]; omega
theorem bulk_lns (h : List UInt8) : ∀ l : List I.It, P.bulk (V.lns h l) ≤ itBulk l + l.length * h.length
  | [] => Nat.zero_le _
  | [x] => by
    have : (V.txt h x).length ≤ x.tx.length + h.length := by unfold V.txt; split <;> omega
    simp only [V.lns, P.bulk, itBulk, List.length_cons, List.length_nil, Nat.zero_add, Nat.one_mul]
    omega
  | x :: y :: r => by
    have ih := bulk_lns h (y :: r)
    have : (V.txt h x).length ≤ x.tx.length + h.length := by unfold V.txt; split <;> omega
    rw [V.lns, P.bulk, itBulk, List.length_cons, Nat.add_mul, Nat.one_mul]
    omega
theorem bulk_view {h : List UInt8} {o : I.Lb} {l : List I.It} (h1 : itBulk l ≤ 1048576) (h2 : h.length ≤ 1048576) : P.bulk (V.lns h (V.cut o l)) ≤ 70368744177664 := by
  have a := bulk_lns h (V.cut o l)
  have b := itBulk_cut o l
  have c := itBulk_len (V.cut o l)
  have d : (V.cut o l).length * h.length ≤ 1048576 * 1048576 := Nat.mul_le_mul (by omega) h2
  omega
theorem item_bulk {s : ByteArray} {c0 c1 c2 c3 c5 : Value} (h : DataW.trod enc Tryd.prog w base spare held fuel 41 [c0, c1, c2, c3, .string s, c5] = some x) : s.data.toList.length + 1 ≤ Rows.uptoBulk x.1 := by
  obtain ⟨xs, n, -, hx, -, hlen, hf⟩ := DataW.trod_struct Tryd.underlying41 h
  have hlen : xs.length = 4 := hlen
  obtain ⟨y0, y1, y2, y3, rfl⟩ := RP.list4 hlen
  have h3 : DataW.trod enc Tryd.prog w base spare held n 39 (([c0, c1, c2, c3, .string s, c5].drop 4).take (Tryd.prog.cellsOf 39)) = [y0, y1, y2, y3][3]? := hf 3 _ rfl
  rw [cLine] at h3
  obtain ⟨z0, z1, k, hz, hl, g0, g1⟩ := trod_struct2 Tryd.underlying39 (show DataW.trod enc Tryd.prog w base spare held n 39 [.string s, c5] = some y3 from h3)
  dsimp only at g0 g1
  rw [RP.cStr] at g0
  obtain ⟨s', e0, hd, -⟩ := DataW.trod_string Tryd.underlying9 g0
  have e0' : s = s' := by injection e0 with p; injection p
  subst e0'
  rw [hx, hz]
  have hz0 : z0.1 = .lit (.string s.data.toList) := by rw [hd]
  simp only [List.map_cons, List.map_nil, Rows.uptoBulk, Rows.uptoBulkAll, hz0]
  omega
theorem items_readB (h : DataW.trod enc Tryd.prog w base spare held fuel 22 cs = some x) : ∃ (A : Option Addr) (cap : Nat) (us : List I.It), cs = [.slice A us.length cap] ∧ I.ItemsIn w A us ∧ I.ItemsOk us ∧ itBulk us ≤ Rows.uptoBulk x.1 := by
  rcases open_slice Tryd.underlying22 h with ⟨hcs, hx⟩ | ⟨a, len, cap, m, n, D, Pl, hcs, _, hl, hm, hmm, hx, hcell⟩
  · exact ⟨none, 0, [], hcs, fun h => absurd h (by simp), ⟨Nat.zero_le _, fun x hx => (by cases hx), fun x hx => (by cases hx)⟩, Nat.zero_le _⟩
  have hle : len ≤ m := by rw [hmm]; split <;> omega
  obtain ⟨f, hf⟩ := choose_lt (n := len) (p := fun i (u : I.It) => (w.cell? (a.add (i * 6 + 0)) = some (.int .i64 u.id) ∧ w.cell? (a.add (i * 6 + 1)) = some (.int .i64 u.lv) ∧ w.cell? (a.add (i * 6 + 2)) = some (.int .u64 (u.ct : Int)) ∧ w.cell? (a.add (i * 6 + 3)) = some (.bool u.an) ∧ w.cell? (a.add (i * 6 + 4)) = some (.string ⟨u.tx.toArray⟩) ∧ w.cell? (a.add (i * 6 + 5)) = some (.bool u.ba)) ∧ u.ct < 18446744073709551616 ∧ u.tx.length ≤ maxLen ∧ u.tx.length + 1 ≤ Rows.uptoBulk (D i)) (fun i hi => by
    obtain ⟨cs', c1, c2⟩ := hcell i (by omega)
    rw [cItem] at c1
    obtain ⟨_, hlen, hat⟩ := World.cells?_some c1
    obtain ⟨u, rfl, hu⟩ := item_read (by simpa using hlen) c2
    have hub := item_bulk c2
    have q0 := hat 0 (by omega)
    have q1 := hat 1 (by omega)
    have q2 := hat 2 (by omega)
    have q3 := hat 3 (by omega)
    have q4 := hat 4 (by omega)
    have q5 := hat 5 (by omega)
    rw [Go.Deep.add_add] at q0 q1 q2 q3 q4 q5
    exact ⟨u, ⟨q0, q1, q2, q3, q4, q5⟩, hu.1, hu.2, by simpa using hub⟩)
  have htl : ((List.range len).map f).length = len := by simp
  refine ⟨some a, cap, (List.range len).map f, by rw [htl, hcs], fun hp => ?_, ⟨by rw [htl]; omega, fun u hu => ?_, fun u hu => ?_⟩, ?_⟩
  · rw [htl] at hp
    obtain ⟨bk, off, spot⟩ := a
    have hspot : spot = none := by simpa [Addr.add] using World.cell?_spot (hf 0 hp).1.1
    subst hspot
    have h0 := (hf 0 hp).1.1
    refine ⟨bk, off, rfl, World.block_lt_of_cell? w _ h0, fun j hj => ?_⟩
    rw [htl] at hj
    have := (hf j hj).1
    simp only [add_plain, ← Nat.add_assoc, Nat.add_zero] at this
    simp only [List.getElem_map, List.getElem_range]
    exact this
  · obtain ⟨i, hi, rfl⟩ := List.mem_map.1 hu
    exact (hf i (List.mem_range.1 hi)).2.2.1
  · obtain ⟨i, hi, rfl⟩ := List.mem_map.1 hu
    exact (hf i (List.mem_range.1 hi)).2.1
  · rw [hx]
    have := itBulk_le D f (List.range len) (fun i hi => (hf i (List.mem_range.1 hi)).2.2.2)
    simp only [Rows.uptoBulk]
    omega
set_option maxRecDepth 100000 in
theorem items_argB {r : Reach} {b0 : Nat} {v : Value} {d : DataW H} {p : List MemPlace} (hv : Value.okWide Tryd.prog w r b0 22 v) (h : DataW.Trod enc Tryd.prog w base spare held 22 v d p) :
    ∃ (A : Option Addr) (cap : Nat) (us : List I.It), v = .slice A us.length cap ∧ I.ItemsIn w A us ∧ I.ItemsOk us ∧ itBulk us ≤ Rows.uptoBulk d := by
  obtain ⟨a0, len, cap, rfl⟩ := okWide_slice Tryd.underlying22 hv
  obtain ⟨fuel, hf⟩ := h
  obtain ⟨A, cap', us, hcs, r⟩ := items_readB hf
  simp only [Value.cells, List.cons.injEq, Value.slice.injEq, and_true] at hcs
  obtain ⟨rfl, rfl, rfl⟩ := hcs
  exact ⟨_, _, us, rfl, r⟩
end
end Go.Proofs.YthkdpokdmkkdjaaDoor.RI

namespace Go.Proofs.YthkdpokdmkkdjaaDoor.RI
open Go.ChangeShapes Go.WideShapes Go.ChangeAt Go.RowKit Go.Deep Go.Joins

set_option maxRecDepth 100000 in
theorem items_cap {H : Type} {enc : TypeId × Value → H} {W : World} {base : Nat} {sp : Nat → Bool} {held : Bool} {A : Option Addr} {n cap : Nat} {d : DataW H} {p : List MemPlace}
    (h : DataW.Trod enc Tryd.prog W base sp held 22 (.slice A n cap) d p) : n ≤ cap ∧ (A = none → cap = 0) := by
  obtain ⟨fuel, hf⟩ := h
  rcases open_slice Tryd.underlying22 hf with ⟨hcs, _⟩ | ⟨a, len', cap', _, _, _, _, hcs, _, hl, _⟩
  · simp only [Value.cells, List.cons.injEq, Value.slice.injEq, and_true] at hcs
    obtain ⟨rfl, rfl, rfl⟩ := hcs
    exact ⟨Nat.le_refl _, fun _ => rfl⟩
  · simp only [Value.cells, List.cons.injEq, Value.slice.injEq, and_true] at hcs
    obtain ⟨rfl, rfl, rfl⟩ := hcs
    exact ⟨hl, fun h => by cases h⟩
end Go.Proofs.YthkdpokdmkkdjaaDoor.RI

namespace Go.Proofs.YthkdpokdmkkdjaaDoor.RI
open Go.ChangeShapes Go.WideShapes Go.ChangeAt Go.RowKit Go.Deep Go.Joins

section
variable {H : Type} {enc : TypeId × Value → H} {w : World} {base : Nat} {spare : Nat → Bool} {held : Bool} {fuel : Nat} {cs : List Value} {x : DataW H × List MemPlace}
theorem wf_i64 {n : Int} (h : -9223372036854775808 ≤ n ∧ n ≤ 9223372036854775807) : (Lit.int .i64 n).wf = true := by
  simp [Lit.wf, IntKind.min, IntKind.max, IntKind.signed, IntKind.bits]; omega
theorem wf_u64 {n : Nat} (h : n < 18446744073709551616) : (Lit.int .u64 (n : Int)).wf = true := by
  simp [Lit.wf, IntKind.min, IntKind.max, IntKind.signed, IntKind.bits]; omega
/-- An item's six cells. -/
theorem item_readW (hl : cs.length = 6) (h : DataW.trod enc Tryd.prog w base spare held fuel 41 cs = some x) : ∃ u : I.It, cs = [.int .i64 u.id, .int .i64 u.lv, .int .u64 (u.ct : Int), .bool u.an, .string ⟨u.tx.toArray⟩, .bool u.ba] ∧ u.ct < 18446744073709551616 ∧ u.tx.length ≤ maxLen ∧ Dl.Wi u := by
  obtain ⟨c0, c1, c2, c3, c4, c5, rfl⟩ := list6 hl
  obtain ⟨n, y0, y1, y2, y3, h0, h1, h2, h3⟩ := item_fields h
  obtain ⟨i, e0, -, w0⟩ := DataW.trod_int Tryd.underlying3 h0
  obtain ⟨l, k, e1, hk, hl1, hl2⟩ := RP.label_read h1
  obtain ⟨an, e2, -⟩ := DataW.trod_bool Tryd.underlying4 h2
  obtain ⟨s, ba, e3, hz⟩ := line_read h3
  have e0' : c0 = .int .i64 i := by injection e0
  have e2' : c3 = .bool an := by injection e2
  have e1' : c1 = .int .i64 l ∧ c2 = .int .u64 (k : Int) := by injection e1 with p q; injection q with q; exact ⟨p, q⟩
  have e3' : c4 = .string s ∧ c5 = .bool ba := by injection e3 with p q; injection q with q; exact ⟨p, q⟩
  exact ⟨⟨i, l, k, an, s.data.toList, ba⟩, by rw [e0', e1'.1, e1'.2, e2', e3'.1, e3'.2], hk, by show s.data.toList.length ≤ maxLen; rw [← Lib.size_eq]; exact hz, ⟨w0, wf_i64 ⟨hl1, hl2⟩, wf_u64 hk, by show s.data.toList.length ≤ maxLen; rw [← Lib.size_eq]; exact hz⟩⟩
theorem items_readW (h : DataW.trod enc Tryd.prog w base spare held fuel 22 cs = some x) : ∃ (A : Option Addr) (cap : Nat) (us : List I.It), cs = [.slice A us.length cap] ∧ I.ItemsIn w A us ∧ I.ItemsOk us ∧ (∀ x ∈ us, Dl.Wi x) := by
  rcases open_slice Tryd.underlying22 h with ⟨hcs, hx⟩ | ⟨a, len, cap, m, n, D, Pl, hcs, _, hl, hm, hmm, hx, hcell⟩
  · exact ⟨none, 0, [], hcs, fun h => absurd h (by simp), ⟨Nat.zero_le _, fun x hx => (by cases hx), fun x hx => (by cases hx)⟩, fun x hx => (by cases hx)⟩
  have hle : len ≤ m := by rw [hmm]; split <;> omega
  obtain ⟨f, hf⟩ := choose_lt (n := len) (p := fun i (u : I.It) => (w.cell? (a.add (i * 6 + 0)) = some (.int .i64 u.id) ∧ w.cell? (a.add (i * 6 + 1)) = some (.int .i64 u.lv) ∧ w.cell? (a.add (i * 6 + 2)) = some (.int .u64 (u.ct : Int)) ∧ w.cell? (a.add (i * 6 + 3)) = some (.bool u.an) ∧ w.cell? (a.add (i * 6 + 4)) = some (.string ⟨u.tx.toArray⟩) ∧ w.cell? (a.add (i * 6 + 5)) = some (.bool u.ba)) ∧ u.ct < 18446744073709551616 ∧ u.tx.length ≤ maxLen ∧ Dl.Wi u) (fun i hi => by
    obtain ⟨cs', c1, c2⟩ := hcell i (by omega)
    rw [cItem] at c1
    obtain ⟨_, hlen, hat⟩ := World.cells?_some c1
    obtain ⟨u, rfl, hu⟩ := item_readW (by simpa using hlen) c2
    have q0 := hat 0 (by omega)
    have q1 := hat 1 (by omega)
    have q2 := hat 2 (by omega)
    have q3 := hat 3 (by omega)
    have q4 := hat 4 (by omega)
    have q5 := hat 5 (by omega)
    rw [Go.Deep.add_add] at q0 q1 q2 q3 q4 q5
    exact ⟨u, ⟨q0, q1, q2, q3, q4, q5⟩, hu⟩)
  have htl : ((List.range len).map f).length = len := by simp
  refine ⟨some a, cap, (List.range len).map f, by rw [htl, hcs], fun hp => ?_, ⟨by rw [htl]; omega, fun u hu => ?_, fun u hu => ?_⟩, fun u hu => ?_⟩
  · rw [htl] at hp
    obtain ⟨bk, off, spot⟩ := a
    have hspot : spot = none := by simpa [Addr.add] using World.cell?_spot (hf 0 hp).1.1
    subst hspot
    have h0 := (hf 0 hp).1.1
    refine ⟨bk, off, rfl, World.block_lt_of_cell? w _ h0, fun j hj => ?_⟩
    rw [htl] at hj
    have := (hf j hj).1
    simp only [add_plain, ← Nat.add_assoc, Nat.add_zero] at this
    simp only [List.getElem_map, List.getElem_range]
    exact this
  · obtain ⟨i, hi, rfl⟩ := List.mem_map.1 hu
    exact (hf i (List.mem_range.1 hi)).2.2.1
  · obtain ⟨i, hi, rfl⟩ := List.mem_map.1 hu
    exact (hf i (List.mem_range.1 hi)).2.1
  · obtain ⟨i, hi, rfl⟩ := List.mem_map.1 hu
    exact (hf i (List.mem_range.1 hi)).2.2.2
set_option maxRecDepth 100000 in
theorem items_argW {r : Reach} {b0 : Nat} {v : Value} {d : DataW H} {p : List MemPlace} (hv : Value.okWide Tryd.prog w r b0 22 v) (h : DataW.Trod enc Tryd.prog w base spare held 22 v d p) :
    ∃ (A : Option Addr) (cap : Nat) (us : List I.It), v = .slice A us.length cap ∧ I.ItemsIn w A us ∧ I.ItemsOk us ∧ (∀ x ∈ us, Dl.Wi x) := by
  obtain ⟨a0, len, cap, rfl⟩ := okWide_slice Tryd.underlying22 hv
  obtain ⟨fuel, hf⟩ := h
  obtain ⟨A, cap', us, hcs, r⟩ := items_readW hf
  simp only [Value.cells, List.cons.injEq, Value.slice.injEq, and_true] at hcs
  obtain ⟨rfl, rfl, rfl⟩ := hcs
  exact ⟨_, _, us, rfl, r⟩
end
set_option maxRecDepth 100000 in
theorem items_capW {H : Type} {enc : TypeId × Value → H} {W : World} {base : Nat} {sp : Nat → Bool} {held : Bool} {A : Option Addr} {n cap : Nat} {d : DataW H} {p : List MemPlace}
    (h : DataW.Trod enc Tryd.prog W base sp held 22 (.slice A n cap) d p) : n ≤ cap ∧ (A = none → cap = 0) ∧ cap ≤ maxLen := by
  obtain ⟨fuel, hf⟩ := h
  rcases open_slice Tryd.underlying22 hf with ⟨hcs, _⟩ | ⟨a, len', cap', _, _, _, _, hcs, _, hl, hm, _⟩
  · simp only [Value.cells, List.cons.injEq, Value.slice.injEq, and_true] at hcs
    obtain ⟨rfl, rfl, rfl⟩ := hcs
    exact ⟨Nat.le_refl _, fun _ => rfl, Nat.zero_le _⟩
  · simp only [Value.cells, List.cons.injEq, Value.slice.injEq, and_true] at hcs
    obtain ⟨rfl, rfl, rfl⟩ := hcs
    exact ⟨hl, (fun h => by cases h), hm⟩
end Go.Proofs.YthkdpokdmkkdjaaDoor.RI
