/-
  An argument that is a policy, opened: its value, and what its users and floors hold.
-/
import Derived.Test.YtadhhamfikpimaaDoorGRowKit
import Derived.Test.YtadhhamfikpimaaDoorGi
import Derived.Deep.Slices
import Derived.Deep.Strs
import Derived.Lib.SmallJoins
namespace Go.Proofs.YtadhhamfikpimaaDoor.RP
set_option linter.unusedVariables false
set_option linter.unusedSimpArgs false
open Go.ChangeShapes Go.WideShapes Go.ChangeAt Go.RowKit Go.Deep Go.Joins

theorem cInt : Tryd.prog.cellsOf 3 = 1 := by kernel_rfl
theorem cU64 : Tryd.prog.cellsOf 38 = 1 := by kernel_rfl
theorem cStr : Tryd.prog.cellsOf 9 = 1 := by kernel_rfl
theorem cBool : Tryd.prog.cellsOf 4 = 1 := by kernel_rfl
theorem cLabel : Tryd.prog.cellsOf 40 = 2 := by kernel_rfl
theorem cUser : Tryd.prog.cellsOf 72 = 4 := by kernel_rfl
theorem cFloor : Tryd.prog.cellsOf 76 = 3 := by kernel_rfl
theorem cUsers : Tryd.prog.cellsOf 23 = 1 := by kernel_rfl
theorem cFloors : Tryd.prog.cellsOf 24 = 1 := by kernel_rfl
theorem cPol : Tryd.prog.cellsOf 26 = 9 := by kernel_rfl

section
variable {H : Type} {enc : TypeId × Value → H} {w : World} {base : Nat} {spare : Nat → Bool} {held : Bool} {fuel : Nat} {cs : List Value} {x : DataW H × List MemPlace}
theorem list2 {α : Type} {l : List α} (h : l.length = 2) : ∃ a b, l = [a, b] := by
  match l, h with
  | [a, b], _ => exact ⟨a, b, rfl⟩
theorem list3 {α : Type} {l : List α} (h : l.length = 3) : ∃ a b c, l = [a, b, c] := by
  match l, h with
  | [a, b, c], _ => exact ⟨a, b, c, rfl⟩
theorem list4 {α : Type} {l : List α} (h : l.length = 4) : ∃ a b c d, l = [a, b, c, d] := by
  match l, h with
  | [a, b, c, d], _ => exact ⟨a, b, c, d, rfl⟩
theorem list9 {α : Type} {l : List α} (h : l.length = 9) : ∃ a b c d e f g i j, l = [a, b, c, d, e, f, g, i, j] := by
  match l, h with
  | [a, b, c, d, e, f, g, i, j], _ => exact ⟨a, b, c, d, e, f, g, i, j, rfl⟩
/-- A label's two cells. -/
theorem label_read (h : DataW.trod enc Tryd.prog w base spare held fuel 40 cs = some x) : ∃ (l : Int) (k : Nat), cs = [.int .i64 l, .int .u64 (k : Int)] ∧ k < 18446744073709551616 ∧ -9223372036854775808 ≤ l ∧ l ≤ 9223372036854775807 := by
  obtain ⟨y0, y1, n, -, hl, h0, h1⟩ := trod_struct2 Tryd.underlying40 h
  dsimp only at h0 h1
  rw [cLabel] at hl
  rw [cInt] at h0
  rw [cU64] at h1
  obtain ⟨a, b, rfl⟩ := list2 hl
  obtain ⟨l, e0, -, w0⟩ := DataW.trod_int Tryd.underlying3 h0
  obtain ⟨k, e1, -, w1⟩ := DataW.trod_int Tryd.underlying38 h1
  have e0' : a = .int .i64 l := by injection e0
  have e1' : b = .int .u64 k := by injection e1
  obtain ⟨m, rfl⟩ := Int.eq_ofNat_of_zero_le (bounds_u64 w1).1
  exact ⟨l, m, by rw [e0', e1'], by have := (bounds_u64 w1).2; omega, (bounds_i64 w0).1, (bounds_i64 w0).2⟩
/-- A user's four cells. -/
theorem user_read (h : DataW.trod enc Tryd.prog w base spare held fuel 72 cs = some x) : ∃ u : O.Usr, cs = [.string ⟨u.name.toArray⟩, .int .i64 u.lv, .int .u64 (u.ct : Int), .bool u.ad] ∧ u.ct < 18446744073709551616 ∧ u.name.length ≤ maxLen ∧ -9223372036854775808 ≤ u.lv ∧ u.lv ≤ 9223372036854775807 := by
  obtain ⟨y0, y1, y2, n, -, hl, h0, h1, h2⟩ := trod_struct3 Tryd.underlying72 h
  dsimp only at h0 h1 h2
  rw [cUser] at hl
  rw [cStr] at h0
  rw [cLabel] at h1
  rw [cBool] at h2
  obtain ⟨a, b, c, d, rfl⟩ := list4 hl
  obtain ⟨s, e0, -, z0⟩ := DataW.trod_string Tryd.underlying9 h0
  obtain ⟨l, k, e1, hk, hl0, hl1⟩ := label_read h1
  obtain ⟨t, e2, -⟩ := DataW.trod_bool Tryd.underlying4 h2
  have e0' : a = .string s := by injection e0
  have e2' : d = .bool t := by injection e2
  have e1' : b = .int .i64 l ∧ c = .int .u64 (k : Int) := by injection e1 with p q; injection q with q; exact ⟨p, q⟩
  exact ⟨⟨s.data.toList, l, k, t⟩, by rw [e0', e1'.1, e1'.2, e2'], hk, by show s.data.toList.length ≤ maxLen; rw [← Lib.size_eq]; exact z0, hl0, hl1⟩
/-- A floor's three cells. -/
theorem floor_read (h : DataW.trod enc Tryd.prog w base spare held fuel 76 cs = some x) : ∃ u : O.Flr, cs = [.string ⟨u.pre.toArray⟩, .int .i64 u.lv, .int .u64 (u.ct : Int)] ∧ u.ct < 18446744073709551616 ∧ u.pre.length ≤ maxLen ∧ -9223372036854775808 ≤ u.lv ∧ u.lv ≤ 9223372036854775807 := by
  obtain ⟨y0, y1, n, -, hl, h0, h1⟩ := trod_struct2 Tryd.underlying76 h
  dsimp only at h0 h1
  rw [cFloor] at hl
  rw [cStr] at h0
  rw [cLabel] at h1
  obtain ⟨a, b, c, rfl⟩ := list3 hl
  obtain ⟨s, e0, -, z0⟩ := DataW.trod_string Tryd.underlying9 h0
  obtain ⟨l, k, e1, hk, hl0, hl1⟩ := label_read h1
  have e0' : a = .string s := by injection e0
  have e1' : b = .int .i64 l ∧ c = .int .u64 (k : Int) := by injection e1 with p q; injection q with q; exact ⟨p, q⟩
  exact ⟨⟨s.data.toList, l, k⟩, by rw [e0', e1'.1, e1'.2], hk, by show s.data.toList.length ≤ maxLen; rw [← Lib.size_eq]; exact z0, hl0, hl1⟩
instance : Inhabited O.Usr := ⟨⟨[], 0, 0, false⟩⟩
instance : Inhabited O.Flr := ⟨⟨[], 0, 0⟩⟩

theorem users_read (h : DataW.trod enc Tryd.prog w base spare held fuel 23 cs = some x) : ∃ (A : Option Addr) (cap : Nat) (us : List O.Usr), cs = [.slice A us.length cap] ∧ us.length ≤ cap ∧ cap ≤ maxLen ∧ O.UsersIn w A us ∧ ∀ u ∈ us, u.ct < 18446744073709551616 ∧ u.name.length ≤ maxLen ∧ -9223372036854775808 ≤ u.lv ∧ u.lv ≤ 9223372036854775807 := by
  rcases open_slice Tryd.underlying23 h with ⟨hcs, hx⟩ | ⟨a, len, cap, m, n, D, Pl, hcs, _, hl, hm, hmm, hx, hcell⟩
  · exact ⟨none, 0, [], hcs, Nat.le_refl _, Nat.zero_le _, fun h => absurd h (by simp), fun u hu => by cases hu⟩
  have hle : len ≤ m := by rw [hmm]; split <;> omega
  obtain ⟨f, hf⟩ := choose_lt (n := len) (p := fun i (u : O.Usr) => (w.cell? (a.add (i * 4 + 0)) = some (.string ⟨(u).name.toArray⟩) ∧ w.cell? (a.add (i * 4 + 1)) = some (.int .i64 (u).lv) ∧ w.cell? (a.add (i * 4 + 2)) = some (.int .u64 ((u).ct : Int)) ∧ w.cell? (a.add (i * 4 + 3)) = some (.bool (u).ad)) ∧ u.ct < 18446744073709551616 ∧ u.name.length ≤ maxLen ∧ -9223372036854775808 ≤ u.lv ∧ u.lv ≤ 9223372036854775807) (fun i hi => by
    obtain ⟨cs', c1, c2⟩ := hcell i (by omega)
    rw [cUser] at c1
    obtain ⟨_, _, hat⟩ := World.cells?_some c1
    obtain ⟨u, rfl, hu⟩ := user_read c2
    have q0 := hat 0 (by omega)
    have q1 := hat 1 (by omega)
    have q2 := hat 2 (by omega)
    have q3 := hat 3 (by omega)
    rw [Go.Deep.add_add] at q0 q1 q2 q3
    exact ⟨u, ⟨q0, q1, q2, q3⟩, hu⟩)
  have htl : ((List.range len).map f).length = len := by simp
  refine ⟨some a, cap, (List.range len).map f, by rw [htl, hcs], by rw [htl]; exact hl, hm, fun hp => ?_, fun u hu => ?_⟩
  · rw [htl] at hp
    obtain ⟨bk, off, spot⟩ := a
    have hspot : spot = none := by simpa [Addr.add] using World.cell?_spot (hf 0 hp).1.1
    subst hspot
    have h0 := (hf 0 hp).1.1
    refine ⟨bk, off, rfl, World.block_lt_of_cell? w _ h0, fun j hj => ?_⟩
    rw [htl] at hj
    have := (hf j hj).1
    simp only [add_plain, ← Nat.add_assoc, Nat.add_zero] at this
    simp only [List.getElem_map, List.getElem_range]
    exact this
  · obtain ⟨i, hi, rfl⟩ := List.mem_map.1 hu
    exact (hf i (List.mem_range.1 hi)).2

theorem floors_read (h : DataW.trod enc Tryd.prog w base spare held fuel 24 cs = some x) : ∃ (A : Option Addr) (cap : Nat) (us : List O.Flr), cs = [.slice A us.length cap] ∧ us.length ≤ cap ∧ cap ≤ maxLen ∧ O.FloorsIn w A us ∧ ∀ u ∈ us, u.ct < 18446744073709551616 ∧ u.pre.length ≤ maxLen ∧ -9223372036854775808 ≤ u.lv ∧ u.lv ≤ 9223372036854775807 := by
  rcases open_slice Tryd.underlying24 h with ⟨hcs, hx⟩ | ⟨a, len, cap, m, n, D, Pl, hcs, _, hl, hm, hmm, hx, hcell⟩
  · exact ⟨none, 0, [], hcs, Nat.le_refl _, Nat.zero_le _, fun h => absurd h (by simp), fun u hu => by cases hu⟩
  have hle : len ≤ m := by rw [hmm]; split <;> omega
  obtain ⟨f, hf⟩ := choose_lt (n := len) (p := fun i (u : O.Flr) => (w.cell? (a.add (i * 3 + 0)) = some (.string ⟨(u).pre.toArray⟩) ∧ w.cell? (a.add (i * 3 + 1)) = some (.int .i64 (u).lv) ∧ w.cell? (a.add (i * 3 + 2)) = some (.int .u64 ((u).ct : Int))) ∧ u.ct < 18446744073709551616 ∧ u.pre.length ≤ maxLen ∧ -9223372036854775808 ≤ u.lv ∧ u.lv ≤ 9223372036854775807) (fun i hi => by
    obtain ⟨cs', c1, c2⟩ := hcell i (by omega)
    rw [cFloor] at c1
    obtain ⟨_, _, hat⟩ := World.cells?_some c1
    obtain ⟨u, rfl, hu⟩ := floor_read c2
    have q0 := hat 0 (by omega)
    have q1 := hat 1 (by omega)
    have q2 := hat 2 (by omega)
    rw [Go.Deep.add_add] at q0 q1 q2
    exact ⟨u, ⟨q0, q1, q2⟩, hu⟩)
  have htl : ((List.range len).map f).length = len := by simp
  refine ⟨some a, cap, (List.range len).map f, by rw [htl, hcs], by rw [htl]; exact hl, hm, fun hp => ?_, fun u hu => ?_⟩
  · rw [htl] at hp
    obtain ⟨bk, off, spot⟩ := a
    have hspot : spot = none := by simpa [Addr.add] using World.cell?_spot (hf 0 hp).1.1
    subst hspot
    have h0 := (hf 0 hp).1.1
    refine ⟨bk, off, rfl, World.block_lt_of_cell? w _ h0, fun j hj => ?_⟩
    rw [htl] at hj
    have := (hf j hj).1
    simp only [add_plain, ← Nat.add_assoc, Nat.add_zero] at this
    simp only [List.getElem_map, List.getElem_range]
    exact this
  · obtain ⟨i, hi, rfl⟩ := List.mem_map.1 hu
    exact (hf i (List.mem_range.1 hi)).2

theorem pol_fields {c0 c1 c2 c3 c4 c5 c6 c7 c8 : Value} (h : DataW.trod enc Tryd.prog w base spare held fuel 26 [c0, c1, c2, c3, c4, c5, c6, c7, c8] = some x) :
    ∃ (n : Nat) (y0 y1 y2 y3 y4 y5 y6 y7 y8 : DataW H × List MemPlace), DataW.trod enc Tryd.prog w base spare held n 3 [c0] = some y0 ∧ DataW.trod enc Tryd.prog w base spare held n 3 [c1] = some y1 ∧ DataW.trod enc Tryd.prog w base spare held n 3 [c2] = some y2 ∧ DataW.trod enc Tryd.prog w base spare held n 3 [c3] = some y3 ∧ DataW.trod enc Tryd.prog w base spare held n 3 [c4] = some y4 ∧ DataW.trod enc Tryd.prog w base spare held n 3 [c5] = some y5 ∧ DataW.trod enc Tryd.prog w base spare held n 9 [c6] = some y6 ∧ DataW.trod enc Tryd.prog w base spare held n 23 [c7] = some y7 ∧ DataW.trod enc Tryd.prog w base spare held n 24 [c8] = some y8 := by
  obtain ⟨xs, n, -, -, -, hlen, hf⟩ := DataW.trod_struct Tryd.underlying26 h
  have hlen : xs.length = 9 := hlen
  obtain ⟨y0, y1, y2, y3, y4, y5, y6, y7, y8, rfl⟩ := list9 hlen
  refine ⟨n, y0, y1, y2, y3, y4, y5, y6, y7, y8, ?_, ?_, ?_, ?_, ?_, ?_, ?_, ?_, ?_⟩
  · have this : DataW.trod enc Tryd.prog w base spare held n 3 (([c0, c1, c2, c3, c4, c5, c6, c7, c8].drop 0).take (Tryd.prog.cellsOf 3)) = [y0, y1, y2, y3, y4, y5, y6, y7, y8][0]? := hf 0 _ rfl
    rw [cInt] at this
    exact this
  · have this : DataW.trod enc Tryd.prog w base spare held n 3 (([c0, c1, c2, c3, c4, c5, c6, c7, c8].drop 1).take (Tryd.prog.cellsOf 3)) = [y0, y1, y2, y3, y4, y5, y6, y7, y8][1]? := hf 1 _ rfl
    rw [cInt] at this
    exact this
  · have this : DataW.trod enc Tryd.prog w base spare held n 3 (([c0, c1, c2, c3, c4, c5, c6, c7, c8].drop 2).take (Tryd.prog.cellsOf 3)) = [y0, y1, y2, y3, y4, y5, y6, y7, y8][2]? := hf 2 _ rfl
    rw [cInt] at this
    exact this
  · have this : DataW.trod enc Tryd.prog w base spare held n 3 (([c0, c1, c2, c3, c4, c5, c6, c7, c8].drop 3).take (Tryd.prog.cellsOf 3)) = [y0, y1, y2, y3, y4, y5, y6, y7, y8][3]? := hf 3 _ rfl
    rw [cInt] at this
    exact this
  · have this : DataW.trod enc Tryd.prog w base spare held n 3 (([c0, c1, c2, c3, c4, c5, c6, c7, c8].drop 4).take (Tryd.prog.cellsOf 3)) = [y0, y1, y2, y3, y4, y5, y6, y7, y8][4]? := hf 4 _ rfl
    rw [cInt] at this
    exact this
  · have this : DataW.trod enc Tryd.prog w base spare held n 3 (([c0, c1, c2, c3, c4, c5, c6, c7, c8].drop 5).take (Tryd.prog.cellsOf 3)) = [y0, y1, y2, y3, y4, y5, y6, y7, y8][5]? := hf 5 _ rfl
    rw [cInt] at this
    exact this
  · have this : DataW.trod enc Tryd.prog w base spare held n 9 (([c0, c1, c2, c3, c4, c5, c6, c7, c8].drop 6).take (Tryd.prog.cellsOf 9)) = [y0, y1, y2, y3, y4, y5, y6, y7, y8][6]? := hf 6 _ rfl
    rw [cStr] at this
    exact this
  · have this : DataW.trod enc Tryd.prog w base spare held n 23 (([c0, c1, c2, c3, c4, c5, c6, c7, c8].drop 7).take (Tryd.prog.cellsOf 23)) = [y0, y1, y2, y3, y4, y5, y6, y7, y8][7]? := hf 7 _ rfl
    rw [cUsers] at this
    exact this
  · have this : DataW.trod enc Tryd.prog w base spare held n 24 (([c0, c1, c2, c3, c4, c5, c6, c7, c8].drop 8).take (Tryd.prog.cellsOf 24)) = [y0, y1, y2, y3, y4, y5, y6, y7, y8][8]? := hf 8 _ rfl
    rw [cFloors] at this
    exact this

/-- What a policy's argument holds. -/
structure PolArg (w : World) (n0 n1 n2 n3 n4 n5 : Int) (hid : ByteArray) (uA fA : Option Addr) (ucap fcap : Nat) (us : List O.Usr) (fs : List O.Flr) : Prop where
  ns : ∀ n ∈ [n0, n1, n2, n3, n4, n5], -9223372036854775808 ≤ n ∧ n ≤ 9223372036854775807
  hid : hid.size ≤ maxLen
  ul : us.length ≤ ucap
  uc : ucap ≤ maxLen
  fl : fs.length ≤ fcap
  fc : fcap ≤ maxLen
  usIn : O.UsersIn w uA us
  fsIn : O.FloorsIn w fA fs
  uok : ∀ u ∈ us, u.ct < 18446744073709551616 ∧ u.name.length ≤ maxLen ∧ -9223372036854775808 ≤ u.lv ∧ u.lv ≤ 9223372036854775807
  fok : ∀ u ∈ fs, u.ct < 18446744073709551616 ∧ u.pre.length ≤ maxLen ∧ -9223372036854775808 ≤ u.lv ∧ u.lv ≤ 9223372036854775807
set_option maxRecDepth 100000 in
theorem pol_arg {r : Reach} {b0 : Nat} {v : Value} {d : DataW H} {p : List MemPlace} (hv : Value.okWide Tryd.prog w r b0 26 v) (h : DataW.Trod enc Tryd.prog w base spare held 26 v d p) :
    ∃ (n0 n1 n2 n3 n4 n5 : Int) (hid : ByteArray) (uA fA : Option Addr) (ucap fcap : Nat) (us : List O.Usr) (fs : List O.Flr), v = O.polA n0 n1 n2 n3 n4 n5 hid (.slice uA us.length ucap) (.slice fA fs.length fcap) ∧ PolArg w n0 n1 n2 n3 n4 n5 hid uA fA ucap fcap us fs := by
  obtain ⟨cs, rfl, hsz⟩ := okWide_struct Tryd.underlying26 hv
  rw [cPol] at hsz
  obtain ⟨l⟩ := cs
  obtain ⟨c0, c1, c2, c3, c4, c5, c6, c7, c8, rfl⟩ := list9 (show l.length = 9 from hsz)
  obtain ⟨fuel, hf⟩ := h
  obtain ⟨n, y0, y1, y2, y3, y4, y5, y6, y7, y8, h0, h1, h2, h3, h4, h5, h6, h7, h8⟩ := pol_fields (show DataW.trod enc Tryd.prog w base spare held fuel 26 [c0, c1, c2, c3, c4, c5, c6, c7, c8] = some (d, p) from hf)
  obtain ⟨n0, e0, -, w0⟩ := DataW.trod_int Tryd.underlying3 h0
  have e0' : c0 = .int .i64 n0 := by injection e0
  obtain ⟨n1, e1, -, w1⟩ := DataW.trod_int Tryd.underlying3 h1
  have e1' : c1 = .int .i64 n1 := by injection e1
  obtain ⟨n2, e2, -, w2⟩ := DataW.trod_int Tryd.underlying3 h2
  have e2' : c2 = .int .i64 n2 := by injection e2
  obtain ⟨n3, e3, -, w3⟩ := DataW.trod_int Tryd.underlying3 h3
  have e3' : c3 = .int .i64 n3 := by injection e3
  obtain ⟨n4, e4, -, w4⟩ := DataW.trod_int Tryd.underlying3 h4
  have e4' : c4 = .int .i64 n4 := by injection e4
  obtain ⟨n5, e5, -, w5⟩ := DataW.trod_int Tryd.underlying3 h5
  have e5' : c5 = .int .i64 n5 := by injection e5
  obtain ⟨s, e6, -, z6⟩ := DataW.trod_string Tryd.underlying9 h6
  have e6' : c6 = .string s := by injection e6
  obtain ⟨uA, ucap, us, e7, u1, u2, u3, u4⟩ := users_read h7
  have e7' : c7 = .slice uA us.length ucap := by injection e7
  obtain ⟨fA, fcap, fs, e8, f1, f2, f3, f4⟩ := floors_read h8
  have e8' : c8 = .slice fA fs.length fcap := by injection e8
  subst e0' e1' e2' e3' e4' e5' e6' e7' e8'
  refine ⟨n0, n1, n2, n3, n4, n5, s, uA, fA, ucap, fcap, us, fs, rfl, ?_, z6, u1, u2, f1, f2, u3, f3, u4, f4⟩
  intro n hn
  simp only [List.mem_cons, List.not_mem_nil, or_false] at hn
  rcases hn with rfl | rfl | rfl | rfl | rfl | rfl
  · exact bounds_i64 w0
  · exact bounds_i64 w1
  · exact bounds_i64 w2
  · exact bounds_i64 w3
  · exact bounds_i64 w4
  · exact bounds_i64 w5
end
end Go.Proofs.YtadhhamfikpimaaDoor.RP
