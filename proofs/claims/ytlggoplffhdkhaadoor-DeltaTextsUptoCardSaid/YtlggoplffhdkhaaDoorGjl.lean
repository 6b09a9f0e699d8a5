/-
  DeltaMakes, walked over any two lists.
  A label read out of an argument; small facts for arguments of structs.
  An argument that is items, opened: its value, and what its cells hold.
  What the second form's bound on the bulk of the arguments gives: bounds on lengths.
  An argument that is items, opened, with a bound by its bulk; how much a view's lines hold together.
  An argument that is items: how long it is against its capacity.
  An argument that is items, opened: its numbers are those of a machine.
  The contracts of the reference's wrong and Apply (layer 15).
  Plain functions for policies: which may be, and what a line of a policy's text says. Nothing of the program stands in it; no condition.
-/
import Derived.Test.YtlggoplffhdkhaaDoorGji
import Derived.Test.YtlggoplffhdkhaaDoorGjk
import Derived.Test.YtlggoplffhdkhaaDoorGjc
import Derived.Deep.Slices
import Derived.Deep.Strs
import Derived.Lib.SmallJoins
import Derived.Test.YtlggoplffhdkhaaDoorRows
import Derived.Lib.Strings
import Derived.Test.YtlggoplffhdkhaaDoorGjd
import Derived.Test.YtlggoplffhdkhaaDoorGjf
import Derived.Test.YtlggoplffhdkhaaDoorGjj
import Derived.Test.YtlggoplffhdkhaaDoorGjg
namespace Go.Proofs.YtlggoplffhdkhaaDoor.Dl
set_option linter.unusedVariables false
set_option linter.unusedSimpArgs false
open Go.RowKit Go.Maps
open T
open V (drawn_below grown_of)
open I (It ItemsIn ItemsAt itCells itCells_snoc itCells_at alloc1 own_at own_below items_of_own items_own infoItem ItemsIn.below)

theorem siz_mem : ∀ (d : List Pt) (p : Pt), p ∈ d → p.its.length ≤ siz d
  | [], p, h => by cases h
  | x :: r, p, h => by
    have e : siz (x :: r) = x.its.length + siz r := by simp [siz]
    rcases List.mem_cons.1 h with rfl | h
    · omega
    · have := siz_mem r p h; omega
set_option maxRecDepth 100000 in
set_option maxHeartbeats 4000000 in
theorem makes_any {A B : Option Addr} {ca cb : Nat} {a b : List It} (w : World) (hA : Ix w A ca a) (hB : Ix w B cb b) (hwa : ∀ x ∈ a, Wi x) (hwb : ∀ x ∈ b, Wi x) (hca : ca ≤ maxLen) (hcb : cb ≤ maxLen) (hT : Tab w) :
    Calls Tryd.prog 3 #[.slice A a.length ca, .slice B b.length cb] w fun e w' => e = .returned (.bool true) ∧ Below w.heap.size w w' := by
  have hra := hA.r
  have hrb := hB.r
  have HFA := Lib.hid (few_any A a ca w (by omega) hra)
  have HFB := Lib.hid (few_any B b cb w (by omega) hrb)
  have hA4 := hA.take 40
  have hB4 := hB.take 40
  have hla : (a.take 40).length ≤ 40 := by rw [List.length_take]; omega
  have hlb : (b.take 40).length ≤ 40 := by rw [List.length_take]; omega
  have hwa4 : ∀ x ∈ a.take 40, Wi x := fun x hx => hwa x (List.mem_of_mem_take hx)
  have hwb4 : ∀ x ∈ b.take 40, Wi x := fun x hx => hwb x (List.mem_of_mem_take hx)
  unfold maxLen at hca hcb
  generalize a.take 40 = a4 at *
  generalize b.take 40 = b4 at *
  have HM := Lib.hid (make_any w hA4 hB4 (by omega) (by omega) hwa4 hwb4 (by omega) (by omega))
  have HR := Lib.hid (fun (W : World) (h : Below w.heap.size w W) => rmake_any W (hA4.below h) (hB4.below h) (by omega) (by omega))
  have hdl := make_len a4 b4
  have hds := make_siz a4 b4
  have HIM := Lib.hid (siz_mem (make a4 b4))
  obtain ⟨d, hd⟩ : ∃ d, d = make a4 b4 := ⟨_, rfl⟩
  rw [← hd] at HM HR hdl hds HIM
  have HSZ := Lib.hid (fun (W : World) (D : Option Addr) (c : Nat) (h : PtsIn W D d) => size_any D c d W h (by omega) (by omega))
  have HSM := Lib.hid (fun (W : World) (D E : Option Addr) (c c' : Nat) (h : PtsIn W D d) (h' : PtsIn W E d) => psame_any D E c c' d W h h' (by omega) (fun p hp => by have := HIM.out p hp; omega))
  have HLV := Lib.hid (fun (W : World) (h : Below w.heap.size w W) => live15 W (hT.later h))
  have HST := Lib.hid (fun (k : Nat) (h : k < d.length) => siz_take h)
  have HSL := Lib.hid (fun k => siz_le d k)
  obtain ⟨la, hla2⟩ : ∃ la, la = a4.length := ⟨_, rfl⟩
  obtain ⟨lb, hlb2⟩ : ∃ lb, lb = b4.length := ⟨_, rfl⟩
  obtain ⟨l0, hl0⟩ : ∃ l0, l0 = a.length := ⟨_, rfl⟩
  obtain ⟨l1, hl1⟩ : ∃ l1, l1 = b.length := ⟨_, rfl⟩
  rw [← hla2] at HFA HM HR hla hdl
  rw [← hlb2] at HFB HM HR hlb hdl hds
  rw [← hl0] at HFA ⊢
  rw [← hl1] at HFB ⊢
  clear hA hB hwa hwb hA4 hB4 hla2 hlb2 hl0 hl1 hwa4 hwb4 hra hrb hT hd HIM
  go_enter Tryd.func3, Tryd.ntmps3
  go_wp2_with fail
  with_reducible refine HFA.out.mono ?_
  rintro e w1 ⟨rfl, rfl⟩
  go_wp2_with fail
  with_reducible refine HFB.out.mono ?_
  rintro e w1 ⟨rfl, rfl⟩
  go_wp2_with fail
  with_reducible refine HM.out.mono ?_
  rintro e w2 ⟨D, dc, rfl, hD, hb2⟩
  have HB2 := Lib.hid hb2
  have HD := Lib.hid hD
  clear hb2 hD HM HFA HFB
  go_wp2_with fail
  go_loopg [6, 7] d.length (fun m n i wr => ∃ k : Nat, k ≤ d.length ∧ n = .int .i64 (siz (d.take k) : Int) ∧ i = .int .i64 (k : Int) ∧ d.length - k ≤ m ∧ wr = w2)
  case atStart => exact ⟨0, Nat.zero_le _, rfl, rfl, by omega, rfl⟩
  case round =>
    obtain ⟨k, hk, rfl, rfl, hm, rfl⟩ := hrel
    by_cases hkl : k < d.length
    · obtain ⟨bk, off, hDe, hbk, hI⟩ := HD.out (by omega)
      subst hDe
      obtain ⟨c0, c1, C, cc, c2, -⟩ := hI k hkl
      have h0k : (0 : Int) ≤ (k : Int) := by omega
      have hki : (k : Int) < (d.length : Int) := by omega
      have HS1 := Lib.hid (HST.out k hkl)
      have hs1 := HSL.out (k + 1)
      rw [HS1.out] at hs1
      obtain ⟨q, hq⟩ : ∃ q, q = d[k].its.length := ⟨_, rfl⟩
      rw [← hq] at c2 HS1 hs1
      obtain ⟨z, hz⟩ : ∃ z, z = siz (d.take k) := ⟨_, rfl⟩
      rw [← hz] at HS1 hs1 ⊢
      have hw1 : IntKind.i64.wrap ((z : Int) + (q : Int)) = ((z + q : Nat) : Int) := by rw [IntKind.wrap_i64]; omega
      clear hI hq hz c0 c1
      go_wp2_with fail
      go_roundg (d.length - (k + 1))
      case rel => exact ⟨k + 1, by omega, by rw [HS1.out, Int.natCast_add], by go_num, Nat.le_refl _, rfl⟩
      case measure => omega
    · obtain rfl : k = d.length := by omega
      rw [List.take_length]
      obtain ⟨z, hz⟩ : ∃ z, z = siz d := ⟨_, rfl⟩
      rw [← hz] at HSZ ⊢
      clear hz HST HSL
      have hzz : ((z : Int) == (z : Int)) = true := by simp
      go_wp2_with fail
      with_reducible refine (HLV.out _ HB2.out).mono ?_
      rintro e w3 ⟨rfl, hb3⟩
      have HB3 := Lib.hid (HB2.out.trans (hb3.mono HB2.out.size))
      have HD3 := Lib.hid (HD.out.below hb3)
      clear hb3 HD HB2
      go_wp2_with fail
      with_reducible refine (HR.out _ HB3.out).mono ?_
      rintro e w4 ⟨E, ec, rfl, hE, hb4⟩
      have HB4 := Lib.hid (HB3.out.trans (hb4.mono HB3.out.size))
      have HD4 := Lib.hid (HD3.out.below hb4)
      have HE4 := Lib.hid hE
      clear hb4 HD3 HB3 hE
      go_wp2_with fail
      with_reducible refine (HSM.out _ _ _ _ _ HD4.out HE4.out).mono ?_
      rintro e w5 ⟨rfl, hb5⟩
      have HB5 := Lib.hid (HB4.out.trans (hb5.mono HB4.out.size))
      have HD5 := Lib.hid (HD4.out.below hb5)
      clear hb5 HD4 HB4 HE4
      go_wp2_with fail
      with_reducible refine (HSZ.out _ _ _ HD5.out).mono ?_
      rintro e w6 ⟨rfl, hb6⟩
      have HB6 := Lib.hid (HB5.out.trans (hb6.mono HB5.out.size))
      clear hb6
      go_wp2_with fail
      go_ret
      exact ⟨rfl, HB6.out⟩
end Go.Proofs.YtlggoplffhdkhaaDoor.Dl

namespace Go.Proofs.YtlggoplffhdkhaaDoor.RP
open Go.ChangeShapes Go.WideShapes Go.ChangeAt Go.RowKit Go.Deep Go.Joins

theorem cInt : Tryd.prog.cellsOf 3 = 1 := by kernel_rfl
theorem cU64 : Tryd.prog.cellsOf 35 = 1 := by kernel_rfl
theorem cStr : Tryd.prog.cellsOf 9 = 1 := by kernel_rfl
theorem cBool : Tryd.prog.cellsOf 4 = 1 := by kernel_rfl
theorem cLabel : Tryd.prog.cellsOf 37 = 2 := by kernel_rfl

section
variable {H : Type} {enc : TypeId × Value → H} {w : World} {base : Nat} {spare : Nat → Bool} {held : Bool} {fuel : Nat} {cs : List Value} {x : DataW H × List MemPlace}
theorem list2 {α : Type} {l : List α} (h : l.length = 2) : ∃ a b, l = [a, b] := by
  match l, h with
  | [a, b], _ => exact ⟨a, b, rfl⟩
theorem list3 {α : Type} {l : List α} (h : l.length = 3) : ∃ a b c, l = [a, b, c] := by
  match l, h with
  | [a, b, c], _ => exact ⟨a, b, c, rfl⟩
theorem list4 {α : Type} {l : List α} (h : l.length = 4) : ∃ a b c d, l = [a, b, c, d] := by
  match l, h with
  | [a, b, c, d], _ => exact ⟨a, b, c, d, rfl⟩
theorem list9 {α : Type} {l : List α} (h : l.length = 9) : ∃ a b c d e f g i j, l = [a, b, c, d, e, f, g, i, j] := by
  match l, h with
  | [a, b, c, d, e, f, g, i, j], _ => exact ⟨a, b, c, d, e, f, g, i, j, rfl⟩
/-- A label's two cells. -/
theorem label_read (h : DataW.trod enc Tryd.prog w base spare held fuel 37 cs = some x) : ∃ (l : Int) (k : Nat), cs = [.int .i64 l, .int .u64 (k : Int)] ∧ k < 18446744073709551616 ∧ -9223372036854775808 ≤ l ∧ l ≤ 9223372036854775807 := by
  obtain ⟨y0, y1, n, -, hl, h0, h1⟩ := trod_struct2 Tryd.underlying37 h
  dsimp only at h0 h1
  rw [cLabel] at hl
  rw [cInt] at h0
  rw [cU64] at h1
  obtain ⟨a, b, rfl⟩ := list2 hl
  obtain ⟨l, e0, -, w0⟩ := DataW.trod_int Tryd.underlying3 h0
  obtain ⟨k, e1, -, w1⟩ := DataW.trod_int Tryd.underlying35 h1
  have e0' : a = .int .i64 l := by injection e0
  have e1' : b = .int .u64 k := by injection e1
  obtain ⟨m, rfl⟩ := Int.eq_ofNat_of_zero_le (bounds_u64 w1).1
  exact ⟨l, m, by rw [e0', e1'], by have := (bounds_u64 w1).2; omega, (bounds_i64 w0).1, (bounds_i64 w0).2⟩
end
end Go.Proofs.YtlggoplffhdkhaaDoor.RP

namespace Go.Proofs.YtlggoplffhdkhaaDoor.RI
open Go.ChangeShapes Go.WideShapes Go.ChangeAt Go.RowKit Go.Deep Go.Joins

theorem cLine : Tryd.prog.cellsOf 39 = 2 := by kernel_rfl
theorem cItem : Tryd.prog.cellsOf 41 = 6 := by kernel_rfl

section
variable {H : Type} {enc : TypeId × Value → H} {w : World} {base : Nat} {spare : Nat → Bool} {held : Bool} {fuel : Nat} {cs : List Value} {x : DataW H × List MemPlace}
theorem list6 {α : Type} {l : List α} (h : l.length = 6) : ∃ a b c d e f, l = [a, b, c, d, e, f] := by
  match l, h with
  | [a, b, c, d, e, f], _ => exact ⟨a, b, c, d, e, f, rfl⟩
theorem line_read (h : DataW.trod enc Tryd.prog w base spare held fuel 39 cs = some x) : ∃ (s : ByteArray) (t : Bool), cs = [.string s, .bool t] ∧ s.size ≤ maxLen := by
  obtain ⟨y0, y1, n, -, hl, h0, h1⟩ := trod_struct2 Tryd.underlying39 h
  dsimp only at h0 h1
  rw [cLine] at hl
  rw [RP.cStr] at h0
  rw [RP.cBool] at h1
  obtain ⟨a, b, rfl⟩ := RP.list2 hl
  obtain ⟨s, e0, -, z0⟩ := DataW.trod_string Tryd.underlying9 h0
  obtain ⟨t, e1, -⟩ := DataW.trod_bool Tryd.underlying4 h1
  have e0' : a = .string s := by injection e0
  have e1' : b = .bool t := by injection e1
  exact ⟨s, t, by rw [e0', e1'], z0⟩
set_option maxRecDepth 100000 in
theorem item_fields {c0 c1 c2 c3 c4 c5 : Value} (h : DataW.trod enc Tryd.prog w base spare held fuel 41 [c0, c1, c2, c3, c4, c5] = some x) :
    ∃ (n : Nat) (y0 y1 y2 y3 : DataW H × List MemPlace), DataW.trod enc Tryd.prog w base spare held n 3 [c0] = some y0 ∧ DataW.trod enc Tryd.prog w base spare held n 37 [c1, c2] = some y1 ∧ DataW.trod enc Tryd.prog w base spare held n 4 [c3] = some y2 ∧ DataW.trod enc Tryd.prog w base spare held n 39 [c4, c5] = some y3 := by
  obtain ⟨xs, n, -, -, -, hlen, hf⟩ := DataW.trod_struct Tryd.underlying41 h
  have hlen : xs.length = 4 := hlen
  obtain ⟨y0, y1, y2, y3, rfl⟩ := RP.list4 hlen
  refine ⟨n, y0, y1, y2, y3, ?_, ?_, ?_, ?_⟩
  · have this : DataW.trod enc Tryd.prog w base spare held n 3 (([c0, c1, c2, c3, c4, c5].drop 0).take (Tryd.prog.cellsOf 3)) = [y0, y1, y2, y3][0]? := hf 0 _ rfl
    rw [RP.cInt] at this
    exact this
  · have this : DataW.trod enc Tryd.prog w base spare held n 37 (([c0, c1, c2, c3, c4, c5].drop 1).take (Tryd.prog.cellsOf 37)) = [y0, y1, y2, y3][1]? := hf 1 _ rfl
    rw [RP.cLabel] at this
    exact this
  · have this : DataW.trod enc Tryd.prog w base spare held n 4 (([c0, c1, c2, c3, c4, c5].drop 3).take (Tryd.prog.cellsOf 4)) = [y0, y1, y2, y3][2]? := hf 2 _ rfl
    rw [RP.cBool] at this
    exact this
  · have this : DataW.trod enc Tryd.prog w base spare held n 39 (([c0, c1, c2, c3, c4, c5].drop 4).take (Tryd.prog.cellsOf 39)) = [y0, y1, y2, y3][3]? := hf 3 _ rfl
    rw [cLine] at this
    exact this
/-- An item's six cells. -/
theorem item_read (hl : cs.length = 6) (h : DataW.trod enc Tryd.prog w base spare held fuel 41 cs = some x) : ∃ u : I.It, cs = [.int .i64 u.id, .int .i64 u.lv, .int .u64 (u.ct : Int), .bool u.an, .string ⟨u.tx.toArray⟩, .bool u.ba] ∧ u.ct < 18446744073709551616 ∧ u.tx.length ≤ maxLen := by
  obtain ⟨c0, c1, c2, c3, c4, c5, rfl⟩ := list6 hl
  obtain ⟨n, y0, y1, y2, y3, h0, h1, h2, h3⟩ := item_fields h
  obtain ⟨i, e0, -, w0⟩ := DataW.trod_int Tryd.underlying3 h0
  obtain ⟨l, k, e1, hk, -, -⟩ := RP.label_read h1
  obtain ⟨an, e2, -⟩ := DataW.trod_bool Tryd.underlying4 h2
  obtain ⟨s, ba, e3, hz⟩ := line_read h3
  have e0' : c0 = .int .i64 i := by injection e0
  have e2' : c3 = .bool an := by injection e2
  have e1' : c1 = .int .i64 l ∧ c2 = .int .u64 (k : Int) := by injection e1 with p q; injection q with q; exact ⟨p, q⟩
  have e3' : c4 = .string s ∧ c5 = .bool ba := by injection e3 with p q; injection q with q; exact ⟨p, q⟩
  exact ⟨⟨i, l, k, an, s.data.toList, ba⟩, by rw [e0', e1'.1, e1'.2, e2', e3'.1, e3'.2], hk, by show s.data.toList.length ≤ maxLen; rw [← Lib.size_eq]; exact hz⟩
instance : Inhabited I.It := ⟨⟨0, 0, 0, false, [], false⟩⟩
theorem items_read (h : DataW.trod enc Tryd.prog w base spare held fuel 22 cs = some x) : ∃ (A : Option Addr) (cap : Nat) (us : List I.It), cs = [.slice A us.length cap] ∧ I.ItemsIn w A us ∧ I.ItemsOk us := by
  rcases open_slice Tryd.underlying22 h with ⟨hcs, hx⟩ | ⟨a, len, cap, m, n, D, Pl, hcs, _, hl, hm, hmm, hx, hcell⟩
  · exact ⟨none, 0, [], hcs, fun h => absurd h (by simp), ⟨Nat.zero_le _, fun x hx => (by cases hx), fun x hx => (by cases hx)⟩⟩
  have hle : len ≤ m := by rw [hmm]; split <;> omega
  obtain ⟨f, hf⟩ := choose_lt (n := len) (p := fun i (u : I.It) => (w.cell? (a.add (i * 6 + 0)) = some (.int .i64 u.id) ∧ w.cell? (a.add (i * 6 + 1)) = some (.int .i64 u.lv) ∧ w.cell? (a.add (i * 6 + 2)) = some (.int .u64 (u.ct : Int)) ∧ w.cell? (a.add (i * 6 + 3)) = some (.bool u.an) ∧ w.cell? (a.add (i * 6 + 4)) = some (.string ⟨u.tx.toArray⟩) ∧ w.cell? (a.add (i * 6 + 5)) = some (.bool u.ba)) ∧ u.ct < 18446744073709551616 ∧ u.tx.length ≤ maxLen) (fun i hi => by
    obtain ⟨cs', c1, c2⟩ := hcell i (by omega)
    rw [cItem] at c1
    obtain ⟨_, hlen, hat⟩ := World.cells?_some c1
    obtain ⟨u, rfl, hu⟩ := item_read (by simpa using hlen) c2
    have q0 := hat 0 (by omega)
    have q1 := hat 1 (by omega)
    have q2 := hat 2 (by omega)
    have q3 := hat 3 (by omega)
    have q4 := hat 4 (by omega)
    have q5 := hat 5 (by omega)
    rw [Go.Deep.add_add] at q0 q1 q2 q3 q4 q5
    exact ⟨u, ⟨q0, q1, q2, q3, q4, q5⟩, hu⟩)
  have htl : ((List.range len).map f).length = len := by simp
  refine ⟨some a, cap, (List.range len).map f, by rw [htl, hcs], fun hp => ?_, ⟨by rw [htl]; omega, fun u hu => ?_, fun u hu => ?_⟩⟩
  · rw [htl] at hp
    obtain ⟨bk, off, spot⟩ := a
    have hspot : spot = none := by simpa [Addr.add] using World.cell?_spot (hf 0 hp).1.1
    subst hspot
    have h0 := (hf 0 hp).1.1
    refine ⟨bk, off, rfl, World.block_lt_of_cell? w _ h0, fun j hj => ?_⟩
    rw [htl] at hj
    have := (hf j hj).1
    simp only [add_plain, ← Nat.add_assoc, Nat.add_zero] at this
    simp only [List.getElem_map, List.getElem_range]
    exact this
  · obtain ⟨i, hi, rfl⟩ := List.mem_map.1 hu
    exact (hf i (List.mem_range.1 hi)).2.2
  · obtain ⟨i, hi, rfl⟩ := List.mem_map.1 hu
    exact (hf i (List.mem_range.1 hi)).2.1
set_option maxRecDepth 100000 in
theorem items_arg {r : Reach} {b0 : Nat} {v : Value} {d : DataW H} {p : List MemPlace} (hv : Value.okWide Tryd.prog w r b0 22 v) (h : DataW.Trod enc Tryd.prog w base spare held 22 v d p) :
    ∃ (A : Option Addr) (cap : Nat) (us : List I.It), v = .slice A us.length cap ∧ I.ItemsIn w A us ∧ I.ItemsOk us := by
  obtain ⟨a0, len, cap, rfl⟩ := okWide_slice Tryd.underlying22 hv
  obtain ⟨fuel, hf⟩ := h
  obtain ⟨A, cap', us, hcs, r⟩ := items_read hf
  simp only [Value.cells, List.cons.injEq, Value.slice.injEq, and_true] at hcs
  obtain ⟨rfl, rfl, rfl⟩ := hcs
  exact ⟨_, _, us, rfl, r⟩
end
end Go.Proofs.YtlggoplffhdkhaaDoor.RI

namespace Go.Proofs.YtlggoplffhdkhaaDoor.Bulk

theorem bound {H : Type} {l : List (DataW H)} (hk : Rows.uptoSmall H l = true) : Rows.uptoBulkAll l ≤ 1048576 := of_decide_eq_true hk
theorem string_bulk {H : Type} (b : List UInt8) : Rows.uptoBulk (DataW.lit (H := H) (.string b)) = b.length + 1 := by simp [Rows.uptoBulk]
/-- One text: so many bytes at the most. -/
theorem string_size {H : Type} {s : ByteArray} {r : List (DataW H)} (hk : Rows.uptoSmall H ([.lit (.string s.data.toList)] ++ r) = true) : s.size ≤ 1048576 := by
  have h := bound hk
  simp only [List.cons_append, List.nil_append, Rows.uptoBulkAll, string_bulk] at h
  have := Lib.size_eq s
  omega
/-- A text behind one or two other arguments. -/
theorem string_size2 {H : Type} {a : DataW H} {s : ByteArray} {r : List (DataW H)} (hk : Rows.uptoSmall H ([a, .lit (.string s.data.toList)] ++ r) = true) : s.size ≤ 1048576 := by
  have h := bound hk
  simp only [List.cons_append, List.nil_append, Rows.uptoBulkAll, string_bulk] at h
  have := Lib.size_eq s
  omega
theorem string_size3 {H : Type} {a b : DataW H} {s : ByteArray} {r : List (DataW H)} (hk : Rows.uptoSmall H ([a, b, .lit (.string s.data.toList)] ++ r) = true) : s.size ≤ 1048576 := by
  have h := bound hk
  simp only [List.cons_append, List.nil_append, Rows.uptoBulkAll, string_bulk] at h
  have := Lib.size_eq s
  omega
/-- One or two arguments, whatever they are. -/
theorem one {H : Type} {a : DataW H} {r : List (DataW H)} (hk : Rows.uptoSmall H ([a] ++ r) = true) : Rows.uptoBulk a ≤ 1048576 := by
  have h := bound hk
  simp only [List.cons_append, List.nil_append, Rows.uptoBulkAll] at h
  omega
theorem two {H : Type} {a b : DataW H} {r : List (DataW H)} (hk : Rows.uptoSmall H ([a, b] ++ r) = true) : Rows.uptoBulk a ≤ 1048576 ∧ Rows.uptoBulk b ≤ 1048576 := by
  have h := bound hk
  simp only [List.cons_append, List.nil_append, Rows.uptoBulkAll] at h
  omega
end Go.Proofs.YtlggoplffhdkhaaDoor.Bulk

namespace Go.Proofs.YtlggoplffhdkhaaDoor.RI
open Go.ChangeShapes Go.WideShapes Go.ChangeAt Go.RowKit Go.Deep Go.Joins

section
variable {H : Type} {enc : TypeId × Value → H} {w : World} {base : Nat} {spare : Nat → Bool} {held : Bool} {fuel : Nat} {cs : List Value} {x : DataW H × List MemPlace}
def itBulk : List I.It → Nat
  | [] => 0
  | u :: r => u.tx.length + 1 + itBulk r
theorem itBulk_le {H : Type} (D : Nat → DataW H) (f : Nat → I.It) : ∀ is : List Nat, (∀ i ∈ is, (f i).tx.length + 1 ≤ Rows.uptoBulk (D i)) → itBulk (is.map f) ≤ Rows.uptoBulkAll (is.map D)
  | [], _ => Nat.le_refl _
  | i :: r, h => by
    have := itBulk_le D f r (fun j hj => h j (by simp [hj]))
    have := h i (by simp)
    simp only [List.map_cons, itBulk, Rows.uptoBulkAll]
    omega
theorem itBulk_len : ∀ l : List I.It, l.length ≤ itBulk l
  | [] => Nat.le_refl _
  | u :: r => by have := itBulk_len r; simp only [List.length_cons, itBulk]; omega
theorem itBulk_cut (o : I.Lb) : ∀ l : List I.It, itBulk (V.cut o l) ≤ itBulk l
  | [] => Nat.le_refl _
  | u :: r => by
    have := itBulk_cut o r
    by_cases hu : V.sees o u = true
    · have e : V.cut o (u :: r) = u :: V.cut o r := by simp [V.cut, hu]
      rw [e, itBulk, itBulk]; omega
    · have e : V.cut o (u :: r) = V.cut o r := by simp [V.cut, hu]
      rw [e, itBulk]; omega
theorem bulk_lns (h : List UInt8) : ∀ l : List I.It, P.bulk (V.lns h l) ≤ itBulk l + l.length * h.length
  | [] => Nat.zero_le _
  | [x] => by
    have : (V.txt h x).length ≤ x.tx.length + h.length := by unfold V.txt; split <;> omega
    simp only [V.lns, P.bulk, itBulk, List.length_cons, List.length_nil, Nat.zero_add, Nat.one_mul]
    omega
  | x :: y :: r => by
    have ih := bulk_lns h (y :: r)
    have : (V.txt h x).length ≤ x.tx.length + h.length := by unfold V.txt; split <;> omega
    rw [V.lns, P.bulk, itBulk, List.length_cons, Nat.add_mul, Nat.one_mul]
    omega
theorem bulk_view {h : List UInt8} {o : I.Lb} {l : List I.It} (h1 : itBulk l ≤ 1048576) (h2 : h.length ≤ 1048576) : P.bulk (V.lns h (V.cut o l)) ≤ 70368744177664 := by
  have a := bulk_lns h (V.cut o l)
  have b := itBulk_cut o l
  have c := itBulk_len (V.cut o l)
  have d : (V.cut o l).length * h.length ≤ 1048576 * 1048576 := Nat.mul_le_mul (by omega) h2
  omega
theorem item_bulk {s : ByteArray} {c0 c1 c2 c3 c5 : Value} (h : DataW.trod enc Tryd.prog w base spare held fuel 41 [c0, c1, c2, c3, .string s, c5] = some x) : s.data.toList.length + 1 ≤ Rows.uptoBulk x.1 := by
  obtain ⟨xs, n, -, hx, -, hlen, hf⟩ := DataW.trod_struct Tryd.underlying41 h
  have hlen : xs.length = 4 := hlen
  obtain ⟨y0, y1, y2, y3, rfl⟩ := RP.list4 hlen
  have h3 : DataW.trod enc Tryd.prog w base spare held n 39 (([c0, c1, c2, c3, .string s, c5].drop 4).take (Tryd.prog.cellsOf 39)) = [y0, y1, y2, y3][3]? := hf 3 _ rfl
  rw [cLine] at h3
  obtain ⟨z0, z1, k, hz, hl, g0, g1⟩ := trod_struct2 Tryd.underlying39 (show DataW.trod enc Tryd.prog w base spare held n 39 [.string s, c5] = some y3 from h3)
  dsimp only at g0 g1
  rw [RP.cStr] at g0
  obtain ⟨s', e0, hd, -⟩ := DataW.trod_string Tryd.underlying9 g0
  have e0' : s = s' := by injection e0 with p; injection p
  subst e0'
  rw [hx, hz]
  have hz0 : z0.1 = .lit (.string s.data.toList) := by rw [hd]
  simp only [List.map_cons, List.map_nil, Rows.uptoBulk, Rows.uptoBulkAll, hz0]
  omega
theorem items_readB (h : DataW.trod enc Tryd.prog w base spare held fuel 22 cs = some x) : ∃ (A : Option Addr) (cap : Nat) (us : List I.It), cs = [.slice A us.length cap] ∧ I.ItemsIn w A us ∧ I.ItemsOk us ∧ itBulk us ≤ Rows.uptoBulk x.1 := by
  rcases open_slice Tryd.underlying22 h with ⟨hcs, hx⟩ | ⟨a, len, cap, m, n, D, Pl, hcs, _, hl, hm, hmm, hx, hcell⟩
  · exact ⟨none, 0, [], hcs, fun h => absurd h (by simp), ⟨Nat.zero_le _, fun x hx => (by cases hx), fun x hx => (by cases hx)⟩, Nat.zero_le _⟩
  have hle : len ≤ m := by rw [hmm]; split <;> omega
  obtain ⟨f, hf⟩ := choose_lt (n := len) (p := fun i (u : I.It) => (w.cell? (a.add (i * 6 + 0)) = some (.int .i64 u.id) ∧ w.cell? (a.add (i * 6 + 1)) = some (.int .i64 u.lv) ∧ w.cell? (a.add (i * 6 + 2)) = some (.int .u64 (u.ct : Int)) ∧ w.cell? (a.add (i * 6 + 3)) = some (.bool u.an) ∧ w.cell? (a.add (i * 6 + 4)) = some (.string ⟨u.tx.toArray⟩) ∧ w.cell? (a.add (i * 6 + 5)) = some (.bool u.ba)) ∧ u.ct < 18446744073709551616 ∧ u.tx.length ≤ maxLen ∧ u.tx.length + 1 ≤ Rows.uptoBulk (D i)) (fun i hi => by
    obtain ⟨cs', c1, c2⟩ := hcell i (by omega)
    rw [cItem] at c1
    obtain ⟨_, hlen, hat⟩ := World.cells?_some c1
    obtain ⟨u, rfl, hu⟩ := item_read (by simpa using hlen) c2
    have hub := item_bulk c2
    have q0 := hat 0 (by omega)
    have q1 := hat 1 (by omega)
    have q2 := hat 2 (by omega)
    have q3 := hat 3 (by omega)
    have q4 := hat 4 (by omega)
    have q5 := hat 5 (by omega)
    rw [Go.Deep.add_add] at q0 q1 q2 q3 q4 q5
    exact ⟨u, ⟨q0, q1, q2, q3, q4, q5⟩, hu.1, hu.2, by simpa using hub⟩)
  have htl : ((List.range len).map f).length = len := by simp
  refine ⟨some a, cap, (List.range len).map f, by rw [htl, hcs], fun hp => ?_, ⟨by rw [htl]; omega, fun u hu => ?_, fun u hu => ?_⟩, ?_⟩
  · rw [htl] at hp
    obtain ⟨bk, off, spot⟩ := a
    have hspot : spot = none := by simpa [Addr.add] using World.cell?_spot (hf 0 hp).1.1
    subst hspot
    have h0 := (hf 0 hp).1.1
    refine ⟨bk, off, rfl, World.block_lt_of_cell? w _ h0, fun j hj => ?_⟩
    rw [htl] at hj
    have := (hf j hj).1
    simp only [add_plain, ← Nat.add_assoc, Nat.add_zero] at this
    simp only [List.getElem_map, List.getElem_range]
    exact this
  · obtain ⟨i, hi, rfl⟩ := List.mem_map.1 hu
    exact (hf i (List.mem_range.1 hi)).2.2.1
  · obtain ⟨i, hi, rfl⟩ := List.mem_map.1 hu
    exact (hf i (List.mem_range.1 hi)).2.1
  · rw [hx]
    have := itBulk_le D f (List.range len) (fun i hi => (hf i (List.mem_range.1 hi)).2.2.2)
    simp only [Rows.uptoBulk]
    omega
set_option maxRecDepth 100000 in
theorem items_argB {r : Reach} {b0 : Nat} {v : Value} {d : DataW H} {p : List MemPlace} (hv : Value.okWide Tryd.prog w r b0 22 v) (h : DataW.Trod enc Tryd.prog w base spare held 22 v d p) :
    ∃ (A : Option Addr) (cap : Nat) (us : List I.It), v = .slice A us.length cap ∧ I.ItemsIn w A us ∧ I.ItemsOk us ∧ itBulk us ≤ Rows.uptoBulk d := by
  obtain ⟨a0, len, cap, rfl⟩ := okWide_slice Tryd.underlying22 hv
  obtain ⟨fuel, hf⟩ := h
  obtain ⟨A, cap', us, hcs, r⟩ := items_readB hf
  simp only [Value.cells, List.cons.injEq, Value.slice.injEq, and_true] at hcs
  obtain ⟨rfl, rfl, rfl⟩ := hcs
  exact ⟨_, _, us, rfl, r⟩
end
end Go.Proofs.YtlggoplffhdkhaaDoor.RI

namespace Go.Proofs.YtlggoplffhdkhaaDoor.RI
open Go.ChangeShapes Go.WideShapes Go.ChangeAt Go.RowKit Go.Deep Go.Joins

set_option maxRecDepth 100000 in
theorem items_cap {H : Type} {enc : TypeId × Value → H} {W : World} {base : Nat} {sp : Nat → Bool} {held : Bool} {A : Option Addr} {n cap : Nat} {d : DataW H} {p : List MemPlace}
    (h : DataW.Trod enc Tryd.prog W base sp held 22 (.slice A n cap) d p) : n ≤ cap ∧ (A = none → cap = 0) := by
  obtain ⟨fuel, hf⟩ := h
  rcases open_slice Tryd.underlying22 hf with ⟨hcs, _⟩ | ⟨a, len', cap', _, _, _, _, hcs, _, hl, _⟩
  · simp only [Value.cells, List.cons.injEq, Value.slice.injEq, and_true] at hcs
    obtain ⟨rfl, rfl, rfl⟩ := hcs
    exact ⟨Nat.le_refl _, fun _ => rfl⟩
  · simp only [Value.cells, List.cons.injEq, Value.slice.injEq, and_true] at hcs
    obtain ⟨rfl, rfl, rfl⟩ := hcs
    exact ⟨hl, fun h => by cases h⟩
end Go.Proofs.YtlggoplffhdkhaaDoor.RI

namespace Go.Proofs.YtlggoplffhdkhaaDoor.RI
open Go.ChangeShapes Go.WideShapes Go.ChangeAt Go.RowKit Go.Deep Go.Joins

section
variable {H : Type} {enc : TypeId × Value → H} {w : World} {base : Nat} {spare : Nat → Bool} {held : Bool} {fuel : Nat} {cs : List Value} {x : DataW H × List MemPlace}
theorem wf_i64 {n : Int} (h : -9223372036854775808 ≤ n ∧ n ≤ 9223372036854775807) : (Lit.int .i64 n).wf = true := by
  simp [Lit.wf, IntKind.min, IntKind.max, IntKind.signed, IntKind.bits]; omega
theorem wf_u64 {n : Nat} (h : n < 18446744073709551616) : (Lit.int .u64 (n : Int)).wf = true := by
  simp [Lit.wf, IntKind.min, IntKind.max, IntKind.signed, IntKind.bits]; omega
/-- An item's six cells. -/
theorem item_readW (hl : cs.length = 6) (h : DataW.trod enc Tryd.prog w base spare held fuel 41 cs = some x) : ∃ u : I.It, cs = [.int .i64 u.id, .int .i64 u.lv, .int .u64 (u.ct : Int), .bool u.an, .string ⟨u.tx.toArray⟩, .bool u.ba] ∧ u.ct < 18446744073709551616 ∧ u.tx.length ≤ maxLen ∧ Dl.Wi u := by
  obtain ⟨c0, c1, c2, c3, c4, c5, rfl⟩ := list6 hl
  obtain ⟨n, y0, y1, y2, y3, h0, h1, h2, h3⟩ := item_fields h
  obtain ⟨i, e0, -, w0⟩ := DataW.trod_int Tryd.underlying3 h0
  obtain ⟨l, k, e1, hk, hl1, hl2⟩ := RP.label_read h1
  obtain ⟨an, e2, -⟩ := DataW.trod_bool Tryd.underlying4 h2
  obtain ⟨s, ba, e3, hz⟩ := line_read h3
  have e0' : c0 = .int .i64 i := by injection e0
  have e2' : c3 = .bool an := by injection e2
  have e1' : c1 = .int .i64 l ∧ c2 = .int .u64 (k : Int) := by injection e1 with p q; injection q with q; exact ⟨p, q⟩
  have e3' : c4 = .string s ∧ c5 = .bool ba := by injection e3 with p q; injection q with q; exact ⟨p, q⟩
  exact ⟨⟨i, l, k, an, s.data.toList, ba⟩, by rw [e0', e1'.1, e1'.2, e2', e3'.1, e3'.2], hk, by show s.data.toList.length ≤ maxLen; rw [← Lib.size_eq]; exact hz, ⟨w0, wf_i64 ⟨hl1, hl2⟩, wf_u64 hk, by show s.data.toList.length ≤ maxLen; rw [← Lib.size_eq]; exact hz⟩⟩
theorem items_readW (h : DataW.trod enc Tryd.prog w base spare held fuel 22 cs = some x) : ∃ (A : Option Addr) (cap : Nat) (us : List I.It), cs = [.slice A us.length cap] ∧ I.ItemsIn w A us ∧ I.ItemsOk us ∧ (∀ x ∈ us, Dl.Wi x) := by
  rcases open_slice Tryd.underlying22 h with ⟨hcs, hx⟩ | ⟨a, len, cap, m, n, D, Pl, hcs, _, hl, hm, hmm, hx, hcell⟩
  · exact ⟨none, 0, [], hcs, fun h => absurd h (by simp), ⟨Nat.zero_le _, fun x hx => (by cases hx), fun x hx => (by cases hx)⟩, fun x hx => (by cases hx)⟩
  have hle : len ≤ m := by rw [hmm]; split <;> omega
  obtain ⟨f, hf⟩ := choose_lt (n := len) (p := fun i (u : I.It) => (w.cell? (a.add (i * 6 + 0)) = some (.int .i64 u.id) ∧ w.cell? (a.add (i * 6 + 1)) = some (.int .i64 u.lv) ∧ w.cell? (a.add (i * 6 + 2)) = some (.int .u64 (u.ct : Int)) ∧ w.cell? (a.add (i * 6 + 3)) = some (.bool u.an) ∧ w.cell? (a.add (i * 6 + 4)) = some (.string ⟨u.tx.toArray⟩) ∧ w.cell? (a.add (i * 6 + 5)) = some (.bool u.ba)) ∧ u.ct < 18446744073709551616 ∧ u.tx.length ≤ maxLen ∧ Dl.Wi u) (fun i hi => by
    obtain ⟨cs', c1, c2⟩ := hcell i (by omega)
    rw [cItem] at c1
    obtain ⟨_, hlen, hat⟩ := World.cells?_some c1
    obtain ⟨u, rfl, hu⟩ := item_readW (by simpa using hlen) c2
    have q0 := hat 0 (by omega)
    have q1 := hat 1 (by omega)
    have q2 := hat 2 (by omega)
    have q3 := hat 3 (by omega)
    have q4 := hat 4 (by omega)
    have q5 := hat 5 (by omega)
    rw [Go.Deep.add_add] at q0 q1 q2 q3 q4 q5
    exact ⟨u, ⟨q0, q1, q2, q3, q4, q5⟩, hu⟩)
  have htl : ((List.range len).map f).length = len := by simp
  refine ⟨some a, cap, (List.range len).map f, by rw [htl, hcs], fun hp => ?_, ⟨by rw [htl]; omega, fun u hu => ?_, fun u hu => ?_⟩, fun u hu => ?_⟩
  · rw [htl] at hp
    obtain ⟨bk, off, spot⟩ := a
    have hspot : spot = none := by simpa [Addr.add] using World.cell?_spot (hf 0 hp).1.1
    subst hspot
    have h0 := (hf 0 hp).1.1
    refine ⟨bk, off, rfl, World.block_lt_of_cell? w _ h0, fun j hj => ?_⟩
    rw [htl] at hj
    have := (hf j hj).1
    simp only [add_plain, ← Nat.add_assoc, Nat.add_zero] at this
    simp only [List.getElem_map, List.getElem_range]
    exact this
  · obtain ⟨i, hi, rfl⟩ := List.mem_map.1 hu
    exact (hf i (List.mem_range.1 hi)).2.2.1
  · obtain ⟨i, hi, rfl⟩ := List.mem_map.1 hu
    exact (hf i (List.mem_range.1 hi)).2.1
  · obtain ⟨i, hi, rfl⟩ := List.mem_map.1 hu
    exact (hf i (List.mem_range.1 hi)).2.2.2
set_option maxRecDepth 100000 in
theorem items_argW {r : Reach} {b0 : Nat} {v : Value} {d : DataW H} {p : List MemPlace} (hv : Value.okWide Tryd.prog w r b0 22 v) (h : DataW.Trod enc Tryd.prog w base spare held 22 v d p) :
    ∃ (A : Option Addr) (cap : Nat) (us : List I.It), v = .slice A us.length cap ∧ I.ItemsIn w A us ∧ I.ItemsOk us ∧ (∀ x ∈ us, Dl.Wi x) := by
  obtain ⟨a0, len, cap, rfl⟩ := okWide_slice Tryd.underlying22 hv
  obtain ⟨fuel, hf⟩ := h
  obtain ⟨A, cap', us, hcs, r⟩ := items_readW hf
  simp only [Value.cells, List.cons.injEq, Value.slice.injEq, and_true] at hcs
  obtain ⟨rfl, rfl, rfl⟩ := hcs
  exact ⟨_, _, us, rfl, r⟩
end
set_option maxRecDepth 100000 in
theorem items_capW {H : Type} {enc : TypeId × Value → H} {W : World} {base : Nat} {sp : Nat → Bool} {held : Bool} {A : Option Addr} {n cap : Nat} {d : DataW H} {p : List MemPlace}
    (h : DataW.Trod enc Tryd.prog W base sp held 22 (.slice A n cap) d p) : n ≤ cap ∧ (A = none → cap = 0) ∧ cap ≤ maxLen := by
  obtain ⟨fuel, hf⟩ := h
  rcases open_slice Tryd.underlying22 hf with ⟨hcs, _⟩ | ⟨a, len', cap', _, _, _, _, hcs, _, hl, hm, _⟩
  · simp only [Value.cells, List.cons.injEq, Value.slice.injEq, and_true] at hcs
    obtain ⟨rfl, rfl, rfl⟩ := hcs
    exact ⟨Nat.le_refl _, fun _ => rfl, Nat.zero_le _⟩
  · simp only [Value.cells, List.cons.injEq, Value.slice.injEq, and_true] at hcs
    obtain ⟨rfl, rfl, rfl⟩ := hcs
    exact ⟨hl, (fun h => by cases h), hm⟩
end Go.Proofs.YtlggoplffhdkhaaDoor.RI

namespace Go.Proofs.YtlggoplffhdkhaaDoor.Dl
set_option linter.unusedVariables false
set_option linter.unusedSimpArgs false
open Go.RowKit Go.Maps
open T
open V (drawn_below grown_of)
open I (It ItemsIn ItemsAt itCells itCells_snoc itCells_at alloc1 own_at own_below items_of_own items_own infoItem ItemsIn.below)

set_option maxRecDepth 100000 in
set_option maxHeartbeats 4000000 in
theorem wrong_any (at_ n : Int) (C : Option Addr) (m cc : Nat) (w : World) : Calls Tryd.prog 31 #[.agg #[.int .i64 at_, .int .i64 n, .slice C m cc]] w fun e w' => e = .returned (.int .i64 (cpt at_ n m)) ∧ Below w.heap.size w w' := by
  obtain ⟨W1, hW1⟩ : ∃ W : World, W = w.alloc (.cells #[.int .i64 at_, .int .i64 n, .slice C m cc] 27) := ⟨_, rfl⟩
  have hx1 : W1.heap[w.heap.size]? = some (.cells #[.int .i64 at_, .int .i64 n, .slice C m cc] 27 (0, 0)) := by rw [hW1]; exact heap_alloc_new w _
  have HB1 := Lib.hid (show Below w.heap.size w W1 by rw [hW1]; exact alloc1 _ _)
  have e0 := L.blk_cell hx1 0
  have e1 := L.blk_cell hx1 1
  have e2 := L.blk_cell hx1 2
  simp only [List.getElem?_toArray, List.getElem?_cons_zero, List.getElem?_cons_succ] at e0 e1 e2
  clear hx1
  have HV : Hid (cpt at_ n m = if (m = 0 ∧ n = 0) ∨ (0 < m ∧ n ≠ 0) then 3 else if at_ < 0 ∨ n < 0 ∨ (0 < m ∧ at_ ≠ 0) then 2 else 0) := Lib.hid rfl
  generalize cpt at_ n m = v at *
  by_cases hm : 0 < m
  · have hmi : (0 : Int) < (m : Int) := by omega
    have hm2 : ((m : Int) == 0) = false := by simp; omega
    by_cases hn : n = 0
    · subst hn
      by_cases ha : at_ < 0
      · obtain rfl : v = 2 := HV.out.trans (by rw [if_neg (by omega), if_pos (by omega)])
        clear HV
        go_enter Tryd.func31, Tryd.ntmps31
        go_upto_region 1 with fail
        rw [← hW1]
        clear hW1
        go_wp2_with fail
        go_ret
        exact ⟨rfl, HB1.out⟩
      · by_cases hz : at_ = 0
        · subst hz
          obtain rfl : v = 0 := HV.out.trans (by rw [if_neg (by omega), if_neg (by omega)])
          clear HV
          clear ha
          go_enter Tryd.func31, Tryd.ntmps31
          go_upto_region 1 with fail
          rw [← hW1]
          clear hW1
          go_wp2_with fail
          go_ret
          exact ⟨rfl, HB1.out⟩
        · have hzb : (at_ != 0) = true := by simp [hz]
          obtain rfl : v = 2 := HV.out.trans (by rw [if_neg (by omega), if_pos (by omega)])
          clear HV hz
          go_enter Tryd.func31, Tryd.ntmps31
          go_upto_region 1 with fail
          rw [← hW1]
          clear hW1
          go_wp2_with fail
          go_ret
          exact ⟨rfl, HB1.out⟩
    · have hnb : (n != 0) = true := by simp [hn]
      obtain rfl : v = 3 := HV.out.trans (by rw [if_pos (by omega)])
      clear HV hn
      go_enter Tryd.func31, Tryd.ntmps31
      go_upto_region 1 with fail
      rw [← hW1]
      clear hW1
      go_wp2_with fail
      go_ret
      exact ⟨rfl, HB1.out⟩
  · obtain rfl : m = 0 := by omega
    clear hm
    by_cases hn : n = 0
    · subst hn
      obtain rfl : v = 3 := HV.out.trans (by rw [if_pos (by omega)])
      clear HV
      go_enter Tryd.func31, Tryd.ntmps31
      go_upto_region 1 with fail
      rw [← hW1]
      clear hW1
      go_wp2_with fail
      go_ret
      exact ⟨rfl, HB1.out⟩
    · have hnb : (n != 0) = true := by simp [hn]
      have hnb2 : (n == 0) = false := by simp [hn]
      by_cases ha : at_ < 0
      · obtain rfl : v = 2 := HV.out.trans (by rw [if_neg (by omega), if_pos (by omega)])
        clear HV hn
        go_enter Tryd.func31, Tryd.ntmps31
        go_upto_region 1 with fail
        rw [← hW1]
        clear hW1
        go_wp2_with fail
        go_ret
        exact ⟨rfl, HB1.out⟩
      · by_cases hz : n < 0
        · obtain rfl : v = 2 := HV.out.trans (by rw [if_neg (by omega), if_pos (by omega)])
          clear HV hn
          go_enter Tryd.func31, Tryd.ntmps31
          go_upto_region 1 with fail
          rw [← hW1]
          clear hW1
          go_wp2_with fail
          go_ret
          exact ⟨rfl, HB1.out⟩
        · obtain rfl : v = 0 := HV.out.trans (by rw [if_neg (by omega), if_neg (by omega)])
          clear HV hn
          go_enter Tryd.func31, Tryd.ntmps31
          go_upto_region 1 with fail
          rw [← hW1]
          clear hW1
          go_wp2_with fail
          go_ret
          exact ⟨rfl, HB1.out⟩
theorem cwn_zero {at_ n : Int} {m most : Nat} (h : cwn at_ n m most = 0) : 0 ≤ at_ ∧ 0 ≤ n ∧ at_ + n ≤ most ∧ (0 < m → at_ = 0 ∧ n = 0) := by
  unfold cwn at h
  split at h
  · rename_i h1; exact absurd h h1
  · rename_i h1
    have h2 := cpt_zero (Decidable.not_not.1 h1)
    split at h
    · cases h
    · omega
theorem blk_grown' {W W' : World} {row : Option Nat} {i : Nat} {o : Obj} (h : W.heap[i]? = some o) (hg : W.grownBy W' row) (hr : row ≠ some i) : W'.heap[i]? = some o := (hg.block i (L.blk_lt h) (fun e => hr e.symm)).trans h
/-- A copied stretch, one item more. -/
theorem cop_snoc {a : List It} {p j : Nat} (h : p + j < a.length) : (a.drop p).take (j + 1) = (a.drop p).take j ++ [a[p + j]] := by
  rw [List.take_succ_eq_append_getElem (by rw [List.length_drop]; omega), List.getElem_drop]
set_option maxRecDepth 100000 in
set_option maxHeartbeats 8000000 in
theorem rapply_any (A D : Option Addr) (ca cd : Nat) (a : List It) (d : List Pt) (w : World) (hA : Ix w A ca a) (hD : PtsIn w D d) (hd : d.length ≤ 1000000000) (ha : a.length ≤ 1000000000000) (hpn : ∀ p ∈ d, -9223372036854775808 ≤ p.n ∧ p.n ≤ 9223372036854775807) (hsp : ∀ k, (∀ p ∈ d.take k, cwn p.at_ p.n p.its.length a.length = 0) → (ol a (d.take k)).length ≤ 1200000000000) :
    Calls Tryd.prog 18 #[.slice A a.length ca, .slice D d.length cd] w (ApEnd w (apl a d) (aer a.length d)) := by
  obtain ⟨j0, hj0, hy0, hy1, hy2⟩ := info_parts infoItem
  have HA := Lib.hid hA
  have HD := Lib.hid hD
  have HPN := Lib.hid (fun (k : Nat) (h : k < d.length) => hpn d[k] (List.getElem_mem h))
  have HAT := Lib.hid (fun (k : Nat) (h : k < d.length) => aer_at (most := a.length) h)
  obtain ⟨ek, hek⟩ : ∃ ek : Nat → Int, ∀ k, aer a.length (d.drop k) = ek k := ⟨fun k => aer a.length (d.drop k), fun _ => rfl⟩
  have HE0 : Hid (ek 0 = aer a.length d) := Lib.hid (by rw [← hek, List.drop_zero])
  have HEE : Hid (ek d.length = 0) := Lib.hid (by rw [← hek, List.drop_length]; rfl)
  simp only [hek] at HAT
  have HAP : Hid (aer a.length d ≠ 0 → apl a d = []) := Lib.hid (fun h => if_neg h)
  have HAQ : Hid (aer a.length d = 0 → apl a d = ol a d) := Lib.hid (fun h => if_pos h)
  have HOT := Lib.hid (fun (k : Nat) (h : k < d.length) => ol_take (a := a) h)
  have HPR := Lib.hid (fun (k : Nat) (h : k < d.length) (hp : ∀ p ∈ d.take k, cwn p.at_ p.n p.its.length a.length = 0) (hz : cwn d[k].at_ d[k].n d[k].its.length a.length = 0) => show ∀ p ∈ d.take (k + 1), cwn p.at_ p.n p.its.length a.length = 0 from fun p hm => by
    rw [List.take_succ_eq_append_getElem h] at hm
    rcases List.mem_append.1 hm with hm | hm
    · exact hp p hm
    · rw [List.mem_singleton.1 hm]; exact hz)
  have HSP := Lib.hid hsp
  obtain ⟨ok, hok⟩ : ∃ ok : Nat → List It, ∀ k, ol a (d.take k) = ok k := ⟨fun k => ol a (d.take k), fun _ => rfl⟩
  have HO0 : Hid (ok 0 = []) := Lib.hid (by rw [← hok]; rfl)
  have HOE : Hid (ok d.length = ol a d) := Lib.hid (by rw [← hok, List.take_length])
  simp only [hok] at HOT HSP
  obtain ⟨pk, hpk⟩ : ∃ pk : Nat → Prop, ∀ k, (∀ p ∈ d.take k, cwn p.at_ p.n p.its.length a.length = 0) = pk k := ⟨fun k => ∀ p ∈ d.take k, cwn p.at_ p.n p.its.length a.length = 0, fun _ => rfl⟩
  have HP0 : Hid (pk 0) := Lib.hid (by rw [← hpk]; intro p hp; simp at hp)
  simp only [hpk] at HPR HSP
  generalize apl a d = res at *
  generalize aer a.length d = er at *
  generalize ol a d = lst at *
  obtain ⟨W0, hW0⟩ : ∃ W : World, W = w.alloc (.cells #[] 41) := ⟨_, rfl⟩
  have HB0 := Lib.hid (show Below w.heap.size w W0 by rw [hW0]; exact alloc1 _ _)
  have HR0 := Lib.hid (show W0.ownsRow w.heap.size 41 6 (.slice (some ⟨w.heap.size, 0, none⟩) 0 0) 0 [] by rw [hW0]; exact World.ownsRow_made w #[] 0 (Nat.le_refl _) (Nat.zero_le _) rfl)
  clear hA hD hpn hek hok hsp hpk
  go_enter Tryd.func18, Tryd.ntmps18
  go_wp2_with fail
  rw [← hW0]
  clear hW0
  go_loopg [6, 7] d.length (fun m v i wr => ∃ (k : Nat) (VA : Option Addr) (vc : Nat), k ≤ d.length ∧ i = .int .i64 (k : Int) ∧ v = .slice VA (ok k).length vc ∧ d.length - k ≤ m ∧ wr.ownsRow w.heap.size 41 6 (.slice VA (ok k).length vc) (ok k).length (itCells (ok k)) ∧ Below w.heap.size w wr ∧ Hid (er = ek k) ∧ Hid (pk k))
  case atStart => exact ⟨0, some ⟨w.heap.size, 0, none⟩, 0, Nat.zero_le _, rfl, by rw [HO0.out]; rfl, by omega, by rw [HO0.out]; exact HR0.out, HB0.out, Lib.hid HE0.out.symm, HP0⟩
  case round =>
    obtain ⟨k, VA, vc, hk, rfl, rfl, hm, hown, hbr, HER, HPK⟩ := hrel
    clear HR0 HB0 HP0
    by_cases hlt : k < d.length
    · obtain ⟨bk, off, C, cc, hDe, hbk, g0, g1, g2, hix⟩ := pt_at HD.out hlt
      subst hDe
      replace g0 := (hbr.cell (p := ⟨bk, off + k * 3, none⟩) hbk).trans g0
      replace g1 := (hbr.cell (p := ⟨bk, off + k * 3 + 1, none⟩) hbk).trans g1
      replace g2 := (hbr.cell (p := ⟨bk, off + k * 3 + 2, none⟩) hbk).trans g2
      have HT1 := Lib.hid (HAT.out k hlt)
      have HT2 := Lib.hid (HOT.out k hlt)
      have HT3 := Lib.hid (HPR.out k hlt HPK.out)
      have hpk := HPN.out k hlt
      have hsk := HSP.out k HPK.out
      have h0k : (0 : Int) ≤ (k : Int) := by omega
      have hki : (k : Int) < (d.length : Int) := by omega
      obtain ⟨x, hx⟩ : ∃ x, x = d[k]'hlt := ⟨_, rfl⟩
      rw [← hx] at g0 g1 g2 HT1 HT2 HT3 hpk hix
      obtain ⟨pa, pn, pi⟩ := x
      simp only at g0 g1 g2 HT1 HT2 HT3 hpk hix
      obtain ⟨W1, hW1⟩ : ∃ W : World, W = wr.alloc (.cells #[.int .i64 pa, .int .i64 pn, .slice C pi.length cc] 27) := ⟨_, rfl⟩
      have HWR := Lib.hid (wrong_any pa pn C pi.length cc W1)
      have hb1 : Below wr.heap.size wr W1 := by rw [hW1]; exact alloc1 _ _
      have hx1 : W1.heap[wr.heap.size]? = some (.cells #[.int .i64 pa, .int .i64 pn, .slice C pi.length cc] 27 (0, 0)) := by rw [hW1]; exact heap_alloc_new wr _
      have HB1 := Lib.hid (hbr.trans (hb1.mono hbr.size))
      have HO1 := Lib.hid (own_below hown hb1)
      have HI0 := Lib.hid hix
      have HX1 := Lib.hid hx1
      have e0 := L.blk_cell hx1 0
      have e1 := L.blk_cell hx1 1
      have e2 := L.blk_cell hx1 2
      simp only [List.getElem?_toArray, List.getElem?_cons_zero, List.getElem?_cons_succ] at e0 e1 e2
      have HCW : Hid (cwn pa pn pi.length a.length = if cpt pa pn pi.length ≠ 0 then cpt pa pn pi.length else if (a.length : Int) - pn < pa then 2 else 0) := Lib.hid rfl
      have HCZ := Lib.hid (fun h => cpt_zero (at_ := pa) (n := pn) (m := pi.length) h)
      generalize cwn pa pn pi.length a.length = z at *
      generalize cpt pa pn pi.length = y at *
      have hbx : wr.heap.size < W1.heap.size := L.blk_lt hx1
      clear hx hbk hbr hb1 hx1 hown hix
      go_upto_region 6 with fail
      rw [← hW1]
      obtain ⟨xb, hxb⟩ : ∃ q, q = wr.heap.size := ⟨_, rfl⟩
      rw [← hxb] at HX1 e0 e1 e2 hbx ⊢
      clear hW1 g0 g1 g2 hxb
      go_wp2_with fail
      with_reducible refine HWR.out.mono ?_
      rintro e w2 ⟨rfl, hb2⟩
      have HB2 := Lib.hid (HB1.out.trans (hb2.mono HB1.out.size))
      have HO2 := Lib.hid (own_below HO1.out hb2)
      have hx2 := (hb2.block _ hbx).trans HX1.out
      have HX2 := Lib.hid hx2
      clear HWR hb2 HB1 HO1 HX1 e0 e1 e2
      by_cases hy : y = 0
      · subst hy
        have hcz := HCZ.out rfl
        have e0 := L.blk_cell hx2 0
        have e1 := L.blk_cell hx2 1
        simp only [List.getElem?_toArray, List.getElem?_cons_zero, List.getElem?_cons_succ] at e0 e1
        have hbx2 : xb < w2.heap.size := L.blk_lt hx2
        clear hx2
        have hcw : z = if (a.length : Int) - pn < pa then 2 else 0 := HCW.out.trans (if_neg (by simp))
        have HCV := Lib.hid hcw
        clear hcw HCW HCZ
        obtain ⟨q1, q2, q3, q4⟩ := hcz
        by_cases hbig : (a.length : Int) < pn
        · have hz2 : z = 2 := HCV.out.trans (if_pos (by omega))
          have HV := Lib.hid (HT1.out.trans (if_pos (by rw [hz2]; decide)))
          have hez : er = 2 := by rw [HER.out, HV.out, hz2]
          have HEZ := Lib.hid hez
          have HRS := Lib.hid (HAP.out (by rw [hez]; decide))
          have hd1 : decide (pn > (a.length : Int)) = true := decide_eq_true hbig
          clear hez hz2 HT1 HT2 HT3
          go_wp2_with fail
          refine bodyPost_ret (v := .tuple #[.slice none 0 0, .int .i64 2]) (by simp [results, Tryd.results18, go_sem]) rfl (by rw [HRS.out, HEZ.out]; exact ⟨none, 0, rfl, World.ownsRow_nil _ _ _ _, HB2.out⟩)
        · have hd1 : decide (pn > (a.length : Int)) = false := decide_eq_false hbig
          have hd1' : decide ((a.length : Int) < pn) = false := decide_eq_false hbig
          have hws : IntKind.i64.wrap ((a.length : Int) - pn) = (a.length : Int) - pn := by rw [IntKind.wrap_i64]; omega
          by_cases hat : (a.length : Int) - pn < pa
          · have hz2 : z = 2 := HCV.out.trans (if_pos hat)
            have HV := Lib.hid (HT1.out.trans (if_pos (by rw [hz2]; decide)))
            have hez : er = 2 := by rw [HER.out, HV.out, hz2]
            have HEZ := Lib.hid hez
            have HRS := Lib.hid (HAP.out (by rw [hez]; decide))
            have hd2 : decide (pa > (a.length : Int) - pn) = true := decide_eq_true hat
            have hd2' : decide ((a.length : Int) - pn < pa) = true := decide_eq_true hat
            clear hez hz2 HT1 HT2 HT3
            go_wp2_with fail
            refine bodyPost_ret (v := .tuple #[.slice none 0 0, .int .i64 2]) (by simp [results, Tryd.results18, go_sem]) rfl (by rw [HRS.out, HEZ.out]; exact ⟨none, 0, rfl, World.ownsRow_nil _ _ _ _, HB2.out⟩)
          · have hz0 : z = 0 := HCV.out.trans (if_neg hat)
            have HV := Lib.hid (HT1.out.trans (if_neg (by rw [hz0]; simp)))
            have HT4 := Lib.hid (HT3.out hz0)
            have hlen := HSP.out (k + 1) HT4.out
            rw [HT2.out, List.length_append, List.length_append] at hlen
            have hd2 : decide (pa > (a.length : Int) - pn) = false := decide_eq_false hat
            have hd2' : decide ((a.length : Int) - pn < pa) = false := decide_eq_false hat
            clear HT1 HT3 HCV hz0
            obtain ⟨p, rfl⟩ : ∃ p : Nat, pa = p := ⟨pa.toNat, by omega⟩
            obtain ⟨n, rfl⟩ : ∃ n : Nat, pn = n := ⟨pn.toNat, by omega⟩
            rw [Int.toNat_natCast, Int.toNat_natCast] at HT2 hlen
            have hpn2 : p + n ≤ a.length := by omega
            have hdl : ((a.drop p).take n).length = n := by rw [List.length_take, List.length_drop]; omega
            rw [hdl] at hlen
            have HEQ : Hid (ok k ++ (a.drop p).take n ++ pi = ok (k + 1)) := Lib.hid (by
              rw [HT2.out]
              by_cases hp0 : 0 < pi.length
              · have := (q3 hp0).2
                obtain rfl : n = 0 := by omega
                simp
              · obtain rfl : pi = [] := List.length_eq_zero_iff.1 (by omega)
                simp)
            obtain ⟨o, ho⟩ : ∃ o, o = ok k := ⟨_, rfl⟩
            rw [← ho] at HO2 hlen HEQ ⊢
            have HBS := Lib.hid HB2.out.size
            have hd1n : decide (a.length < n) = false := decide_eq_false (by omega)
            clear ho HT2 q1 q2 q3 q4 hdl
            go_wp2_with fail
            go_loopg [6, 10] n (fun m v jx wx => ∃ (j : Nat) (VB : Option Addr) (vd : Nat), j ≤ n ∧ jx = .int .i64 (j : Int) ∧ v = .slice VB (o ++ (a.drop p).take j).length vd ∧ n - j ≤ m ∧ Hid (wx.ownsRow w.heap.size 41 6 (.slice VB (o ++ (a.drop p).take j).length vd) (o ++ (a.drop p).take j).length (itCells (o ++ (a.drop p).take j))) ∧ Hid (Below w.heap.size w wx) ∧ Hid (wx.heap[xb]? = some (.cells #[.int .i64 (p : Int), .int .i64 (n : Int), .slice C pi.length cc] 27 (0, 0))))
            case atStart => exact ⟨0, VA, vc, Nat.zero_le _, rfl, by simp, by omega, by simpa using HO2, HB2, HX2⟩
            case round =>
              obtain ⟨j, VB, vd, hj, rfl, rfl, hmj, HOW, HBX, HXX⟩ := hrel
              clear e0 e1
              have e0 := L.blk_cell HXX.out 0
              have e1 := L.blk_cell HXX.out 1
              have e2 := L.blk_cell HXX.out 2
              simp only [List.getElem?_toArray, List.getElem?_cons_zero, List.getElem?_cons_succ] at e0 e1 e2
              have hbx3 : xb < wr.heap.size := L.blk_lt HXX.out
              have hs2 := HBX.out.size
              by_cases hjn : j < n
              · obtain ⟨ak, ao, hAe, hak, c0, c1, c2, c3, c4, c5⟩ := it_at (HA.out.below HBX.out).i (show p + j < a.length by omega)
                subst hAe
                have hw1 : IntKind.i64.wrap ((p : Int) + (j : Int)) = ((p + j : Nat) : Int) := by rw [IntKind.wrap_i64]; omega
                have h0p : (0 : Int) ≤ ((p + j : Nat) : Int) := by omega
                have hpi : ((p + j : Nat) : Int) < (a.length : Int) := by omega
                have hjd : decide ((j : Int) < (n : Int)) = true := decide_eq_true (by omega)
                have HCS := Lib.hid (cop_snoc (a := a) (p := p) (j := j) (by omega))
                obtain ⟨y, hy⟩ : ∃ y, y = a[p + j] := ⟨_, rfl⟩
                rw [← hy] at c0 c1 c2 c3 c4 c5 HCS
                obtain ⟨yt, hyt⟩ : ∃ s : ByteArray, s = ⟨y.tx.toArray⟩ := ⟨_, rfl⟩
                rw [← hyt] at c4
                have HYT := Lib.hid hyt
                obtain ⟨q, hq⟩ : ∃ q, q = o ++ (a.drop p).take j := ⟨_, rfl⟩
                have hql : q.length = o.length + j := by rw [hq, List.length_append, List.length_take, List.length_drop]; omega
                rw [← hq] at HOW ⊢
                have HQ := Lib.hid hq
                have hql2 : q.length ≤ 1200000000000 := by omega
                clear hy hyt hq hql
                have HOA := Lib.hid (World.ownsRow.alloc HOW.out (.cells #[.int .i64 y.id, .int .i64 y.lv, .int .u64 (y.ct : Int), .bool y.an, .string yt, .bool y.ba] 41))
                have HNW := Lib.hid (World.news_of_block (w := wr.alloc (.cells #[.int .i64 y.id, .int .i64 y.lv, .int .u64 (y.ct : Int), .bool y.an, .string yt, .bool y.ba] 41)) (B := wr.heap.size) (heap_alloc_new wr (.cells #[.int .i64 y.id, .int .i64 y.lv, .int .u64 (y.ct : Int), .bool y.an, .string yt, .bool y.ba] 41)))
                have HBA := Lib.hid (HBX.out.trans ((alloc1 wr (.cells #[.int .i64 y.id, .int .i64 y.lv, .int .u64 (y.ct : Int), .bool y.an, .string yt, .bool y.ba] 41)).mono hs2))
                have HXA := Lib.hid (((alloc1 wr (.cells #[.int .i64 y.id, .int .i64 y.lv, .int .u64 (y.ct : Int), .bool y.an, .string yt, .bool y.ba] 41)).block _ hbx3).trans HXX.out)
                go_wp2_with (at_builtin; refine wpList_append_own_at _ rfl (.tmp 48) (.tmp 56) 22 rfl w.heap.size 41 j0 _ 6 56 Tryd.underlying22 hj0 hy0 hy1 hy2 rfl (by decide) _ q.length (itCells q) rfl HOA.out ⟨wr.heap.size, 0, none⟩ 1 1 [.int .i64 y.id, .int .i64 y.lv, .int .u64 (y.ct : Int), .bool y.an, .string yt, .bool y.ba] rfl rfl HNW.out ?c2 ?c3 ?c4 ?c5 ?_)
                case c2 => first | exact ⟨rfl, rfl, rfl, rfl, rfl, rfl⟩ | (intro u hu; simp at hu; rcases hu with rfl | rfl | rfl | rfl | rfl | rfl <;> rfl)
                case c3 => simp only [maxLen]; omega
                case c4 => omega
                case c5 => first | omega | (simp; omega)
                intro v' w4 hown4 hg4 _ hat4
                have HB4 := Lib.hid (HBA.out.grown hg4 (by simp; omega) (own_base HOA.out))
                have HX4 := Lib.hid (blk_grown' HXA.out hg4 (fun e' => (V.own_ne' HOA.out (fun cs e => by rw [HXA.out] at e; injection e with e; injection e with _ e; exact absurd e (by decide))) e'.symm))
                obtain ⟨RA, rcap, rfl, -, -⟩ := own_form hown4
                have e6 : itCells q ++ [.int .i64 y.id, .int .i64 y.lv, .int .u64 (y.ct : Int), .bool y.an, .string yt, .bool y.ba] = itCells (q ++ [y]) := by rw [itCells_snoc, HYT.out]
                have e7 : (q ++ [y]).length = q.length + 1 := by simp
                rw [e6, ← e7] at hown4
                have HO4 := Lib.hid hown4
                have e8 : q ++ [y] = o ++ (a.drop p).take (j + 1) := by rw [HQ.out, HCS.out, List.append_assoc]
                have HE8 := Lib.hid e8
                rw [← e7]
                clear e6 e7 e8 hown4 hg4 hat4 HOA HNW HBA HXA HOW HBX HXX c0 c1 c2 c3 c4 c5 e0 e1 e2
                go_wp2_with fail
                go_roundg (n - (j + 1))
                case rel => exact ⟨j + 1, RA, rcap, by omega, by go_num, by rw [HE8.out], Nat.le_refl _, by rw [← HE8.out]; exact HO4, HB4, HX4⟩
                case measure => omega
              · obtain rfl : j = n := by omega
                obtain ⟨q, hq⟩ : ∃ q, q = o ++ (a.drop p).take j := ⟨_, rfl⟩
                have hql : q.length = o.length + j := by rw [hq, List.length_append, List.length_take, List.length_drop]; omega
                rw [← hq] at HOW HEQ ⊢
                have hjd : decide ((j : Int) < (j : Int)) = false := by simp
                have hl1 : q.length + pi.length ≤ 2199023255552 := by omega
                clear hq hql
                go_wp2_with (at_builtin; refine wpList_append_items rfl (.tmp 58) (.tmp 60) rfl w.heap.size _ q pi rfl HOW.out C cc rfl (HI0.out.below HBX.out) hl1 hs2 ?_; intro v1 w3 ho3 hg3 hat3)
                have HB3 := Lib.hid (HBX.out.grown hg3 hs2 (fun k e => (World.ownsRow.lt HOW.out k e).1))
                obtain ⟨RA, rcap, rfl, -, -⟩ := own_form ho3
                have HO3 := Lib.hid ho3
                clear ho3 hg3 hat3 HOW HBX HXX e0 e1 e2
                go_wp2_with fail
                go_roundg (d.length - (k + 1))
                case rel => exact ⟨k + 1, RA, rcap, by omega, by go_num, by rw [← HEQ.out], Nat.le_refl _, by rw [← HEQ.out]; exact HO3.out, HB3.out, Lib.hid (by rw [HER.out, HV.out]), HT4⟩
                case measure => omega
      · have hyb : (y != 0) = true := by simp [hy]
        have hcw : z = y := HCW.out.trans (if_pos hy)
        have HV := Lib.hid (HT1.out.trans (if_pos (by rw [hcw]; exact hy)))
        have hez : er = y := by rw [HER.out, HV.out, hcw]
        have HEZ := Lib.hid hez
        have HRS := Lib.hid (HAP.out (by rw [hez]; exact hy))
        clear hez hcw HT1 HT2 HT3 HCW HCZ
        go_wp2_with fail
        refine bodyPost_ret (v := .tuple #[.slice none 0 0, .int .i64 y]) (by simp [results, Tryd.results18, go_sem]) rfl (by rw [HRS.out, HEZ.out]; exact ⟨none, 0, rfl, World.ownsRow_nil _ _ _ _, HB2.out⟩)
    · obtain rfl : k = d.length := by omega
      have her : er = 0 := by rw [HER.out, HEE.out]
      have HRS := Lib.hid (HAQ.out her)
      have HER0 := Lib.hid her
      clear her
      rw [HOE.out] at hown ⊢
      go_wp2_with fail
      refine bodyPost_ret (v := .tuple #[.slice VA lst.length vc, .int .i64 0]) (by simp [results, Tryd.results18, go_sem]) rfl (by rw [HRS.out, HER0.out]; exact ⟨VA, vc, rfl, hown, hbr⟩)
end Go.Proofs.YtlggoplffhdkhaaDoor.Dl

namespace Go.Proofs.YtlggoplffhdkhaaDoor.O
set_option linter.unusedVariables false
set_option linter.unusedSimpArgs false

/-- A user, a floor, a policy: its six numbers in their order, what is hidden, users, floors. -/
structure Usr where
  name : List UInt8
  lv : Int
  ct : Nat
  ad : Bool
deriving DecidableEq
structure Flr where
  pre : List UInt8
  lv : Int
  ct : Nat
deriving DecidableEq
structure Pol where
  ns : List Int
  hid : List UInt8
  us : List Usr
  fs : List Flr
deriving DecidableEq
/-- A policy while its lines are read: which of the seven were said. -/
structure St where
  p : Pol
  once : List Bool
deriving DecidableEq
def Pol.none : Pol := ⟨[0, 0, 0, 0, 0, 0], [], [], []⟩
def St.start : St := ⟨Pol.none, [false, false, false, false, false, false, false]⟩

def keys : List (List UInt8) := [[108, 101, 118, 101, 108, 115], [99, 97, 116, 115], [108, 105, 110, 101, 115], [99, 111, 109, 109, 105, 116, 115], [108, 111, 103], [99, 111, 110, 116, 101, 120, 116], [104, 105, 100, 100, 101, 110]]
def kHidden : List UInt8 := [104, 105, 100, 100, 101, 110]
def kUser : List UInt8 := [117, 115, 101, 114]
def kFloor : List UInt8 := [102, 108, 111, 111, 114]
def kAdmin : List UInt8 := [97, 100, 109, 105, 110]
def lows : List Int := [1, 0, 1, 0, 1, 0]
def highs : List Int := [16, 64, 400, 64, 200, 20]

def plainB (l : List UInt8) : Bool := decide (1 ≤ l.length) && decide (l.length ≤ 200) && l.all fun c => decide (32 ≤ c.toNat) && decide (c.toNat ≤ 126)
def fitsB (L C : Int) (l : Int) (k : Nat) : Bool := decide (0 ≤ l) && decide (l < L) && decide (0 ≤ C) && decide (k < 2 ^ C.toNat)
def Pol.fits (p : Pol) (l : Int) (k : Nat) : Bool := fitsB (p.ns.getD 0 0) (p.ns.getD 1 0) l k

/-- A line of one of the six numbers. -/
def numLine (s : St) (k : Nat) (v : List UInt8) : Option St :=
  if s.once.getD k false then none else
  (P.number v).bind fun n => if lows.getD k 0 ≤ (n : Int) ∧ (n : Int) ≤ highs.getD k 0 then some ⟨{ s.p with ns := s.p.ns.set k n }, s.once.set k true⟩ else none
/-- Which of the six a word names. -/
def keyOf (w : List UInt8) : Option Nat := (keys.take 6).idxOf? w
def takeNumber (s : St) (ws : List (List UInt8)) : Option St := match ws with
  | [w, v] => (keyOf w).bind fun k => numLine s k v
  | _ => none
def takeHidden (s : St) (l : List UInt8) : Option St :=
  if (kHidden ++ [32]) <+: l ∧ plainB (l.drop 7) = true ∧ s.once.getD 6 false = false then some ⟨{ s.p with hid := l.drop 7 }, s.once.set 6 true⟩ else none
def labelFor (s : St) (w : List UInt8) : Option (Nat × Nat) :=
  if s.once.getD 0 false = true ∧ s.once.getD 1 false = true then (L.parse w).bind fun a => if s.p.fits a.1 a.2 then some a else none else none
def addUser (s : St) (nm lb : List UInt8) (ad : Bool) : Option St :=
  if s.p.us.length < 32 ∧ P.name nm = true ∧ nm ∉ s.p.us.map (·.name) then (labelFor s lb).map fun a => ⟨{ s.p with us := s.p.us ++ [⟨nm, a.1, a.2, ad⟩] }, s.once⟩ else none
def takeUser (s : St) (ws : List (List UInt8)) : Option St := match ws with
  | [_, nm, lb] => addUser s nm lb false
  | [_, nm, lb, ad] => if ad = kAdmin then addUser s nm lb true else none
  | _ => none
def takeFloor (s : St) (ws : List (List UInt8)) : Option St := match ws with
  | [_, nm, lb] => if s.p.fs.length < 32 ∧ P.name nm = true ∧ nm ∉ s.p.fs.map (·.pre) then (labelFor s lb).map fun a => ⟨{ s.p with fs := s.p.fs ++ [⟨nm, a.1, a.2⟩] }, s.once⟩ else none
  | _ => none
/-- What a line says. -/
def take (s : St) (l : List UInt8) : Option St :=
  if l = [] ∨ l.head? = some 35 then some s else
  if (P.words [] l).head? = some kHidden then takeHidden s l else
  if (P.words [] l).head? = some kUser then takeUser s (P.words [] l) else
  if (P.words [] l).head? = some kFloor then takeFloor s (P.words [] l) else takeNumber s (P.words [] l)
/-- The lines of a text, from the i-th on: what they come to, or the number of the first that can't be. -/
def takeAll : St → Nat → List (List UInt8 × Bool) → St ⊕ Nat
  | s, _, [] => .inl s
  | s, i, x :: r => match take s x.1 with
    | some t => takeAll t (i + 1) r
    | none => .inr (i + 1)
/-- A text's policy, or the number of its first bad line (0: something was not said). -/
def readAll (ls : List (List UInt8 × Bool)) : Pol ⊕ Nat := match takeAll St.start 0 ls with
  | .inl s => if s.once.all id then .inl s.p else .inr 0
  | .inr n => .inr n
end Go.Proofs.YtlggoplffhdkhaaDoor.O
