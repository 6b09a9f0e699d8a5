/-
  An argument that is items, opened: its value, and what its cells hold.
-/
import Derived.Test.YtadhhamfikpimaaDoorGArgPol
import Derived.Test.YtadhhamfikpimaaDoorGif
namespace Go.Proofs.YtadhhamfikpimaaDoor.RI
open Go.ChangeShapes Go.WideShapes Go.ChangeAt Go.RowKit Go.Deep Go.Joins

theorem cLine : Tryd.prog.cellsOf 51 = 2 := by kernel_rfl
theorem cItem : Tryd.prog.cellsOf 53 = 6 := by kernel_rfl

section
variable {H : Type} {enc : TypeId × Value → H} {w : World} {base : Nat} {spare : Nat → Bool} {held : Bool} {fuel : Nat} {cs : List Value} {x : DataW H × List MemPlace}
theorem list6 {α : Type} {l : List α} (h : l.length = 6) : ∃ a b c d e f, l = [a, b, c, d, e, f] := by
  match l, h with
  | [a, b, c, d, e, f], _ => exact ⟨a, b, c, d, e, f, rfl⟩
theorem line_read (h : DataW.trod enc Tryd.prog w base spare held fuel 51 cs = some x) : ∃ (s : ByteArray) (t : Bool), cs = [.string s, .bool t] ∧ s.size ≤ maxLen := by
  obtain ⟨y0, y1, n, -, hl, h0, h1⟩ := trod_struct2 Tryd.underlying51 h
  dsimp only at h0 h1
  rw [cLine] at hl
  rw [RP.cStr] at h0
  rw [RP.cBool] at h1
  obtain ⟨a, b, rfl⟩ := RP.list2 hl
  obtain ⟨s, e0, -, z0⟩ := DataW.trod_string Tryd.underlying9 h0
  obtain ⟨t, e1, -⟩ := DataW.trod_bool Tryd.underlying4 h1
  have e0' : a = .string s := by injection e0
  have e1' : b = .bool t := by injection e1
  exact ⟨s, t, by rw [e0', e1'], z0⟩
set_option maxRecDepth 100000 in
theorem item_fields {c0 c1 c2 c3 c4 c5 : Value} (h : DataW.trod enc Tryd.prog w base spare held fuel 53 [c0, c1, c2, c3, c4, c5] = some x) :
    ∃ (n : Nat) (y0 y1 y2 y3 : DataW H × List MemPlace), DataW.trod enc Tryd.prog w base spare held n 3 [c0] = some y0 ∧ DataW.trod enc Tryd.prog w base spare held n 40 [c1, c2] = some y1 ∧ DataW.trod enc Tryd.prog w base spare held n 4 [c3] = some y2 ∧ DataW.trod enc Tryd.prog w base spare held n 51 [c4, c5] = some y3 := by
  obtain ⟨xs, n, -, -, -, hlen, hf⟩ := DataW.trod_struct Tryd.underlying53 h
  have hlen : xs.length = 4 := hlen
  obtain ⟨y0, y1, y2, y3, rfl⟩ := RP.list4 hlen
  refine ⟨n, y0, y1, y2, y3, ?_, ?_, ?_, ?_⟩
  · have this : DataW.trod enc Tryd.prog w base spare held n 3 (([c0, c1, c2, c3, c4, c5].drop 0).take (Tryd.prog.cellsOf 3)) = [y0, y1, y2, y3][0]? := hf 0 _ rfl
    rw [RP.cInt] at this
    exact this
  · have this : DataW.trod enc Tryd.prog w base spare held n 40 (([c0, c1, c2, c3, c4, c5].drop 1).take (Tryd.prog.cellsOf 40)) = [y0, y1, y2, y3][1]? := hf 1 _ rfl
    rw [RP.cLabel] at this
    exact this
  · have this : DataW.trod enc Tryd.prog w base spare held n 4 (([c0, c1, c2, c3, c4, c5].drop 3).take (Tryd.prog.cellsOf 4)) = [y0, y1, y2, y3][2]? := hf 2 _ rfl
    rw [RP.cBool] at this
    exact this
  · have this : DataW.trod enc Tryd.prog w base spare held n 51 (([c0, c1, c2, c3, c4, c5].drop 4).take (Tryd.prog.cellsOf 51)) = [y0, y1, y2, y3][3]? := hf 3 _ rfl
    rw [cLine] at this
    exact this
/-- An item's six cells. -/
theorem item_read (hl : cs.length = 6) (h : DataW.trod enc Tryd.prog w base spare held fuel 53 cs = some x) : ∃ u : I.It, cs = [.int .i64 u.id, .int .i64 u.lv, .int .u64 (u.ct : Int), .bool u.an, .string ⟨u.tx.toArray⟩, .bool u.ba] ∧ u.ct < 18446744073709551616 ∧ u.tx.length ≤ maxLen := by
  obtain ⟨c0, c1, c2, c3, c4, c5, rfl⟩ := list6 hl
  obtain ⟨n, y0, y1, y2, y3, h0, h1, h2, h3⟩ := item_fields h
  obtain ⟨i, e0, -, w0⟩ := DataW.trod_int Tryd.underlying3 h0
  obtain ⟨l, k, e1, hk, -, -⟩ := RP.label_read h1
  obtain ⟨an, e2, -⟩ := DataW.trod_bool Tryd.underlying4 h2
  obtain ⟨s, ba, e3, hz⟩ := line_read h3
  have e0' : c0 = .int .i64 i := by injection e0
  have e2' : c3 = .bool an := by injection e2
  have e1' : c1 = .int .i64 l ∧ c2 = .int .u64 (k : Int) := by injection e1 with p q; injection q with q; exact ⟨p, q⟩
  have e3' : c4 = .string s ∧ c5 = .bool ba := by injection e3 with p q; injection q with q; exact ⟨p, q⟩
  exact ⟨⟨i, l, k, an, s.data.toList, ba⟩, by rw [e0', e1'.1, e1'.2, e2', e3'.1, e3'.2], hk, by show s.data.toList.length ≤ maxLen; rw [← Lib.size_eq]; exact hz⟩
instance : Inhabited I.It := ⟨⟨0, 0, 0, false, [], false⟩⟩
theorem items_read (h : DataW.trod enc Tryd.prog w base spare held fuel 46 cs = some x) : ∃ (A : Option Addr) (cap : Nat) (us : List I.It), cs = [.slice A us.length cap] ∧ I.ItemsIn w A us ∧ I.ItemsOk us := by
  rcases open_slice Tryd.underlying46 h with ⟨hcs, hx⟩ | ⟨a, len, cap, m, n, D, Pl, hcs, _, hl, hm, hmm, hx, hcell⟩
  · exact ⟨none, 0, [], hcs, fun h => absurd h (by simp), ⟨Nat.zero_le _, fun x hx => (by cases hx), fun x hx => (by cases hx)⟩⟩
  have hle : len ≤ m := by rw [hmm]; split <;> omega
  obtain ⟨f, hf⟩ := choose_lt (n := len) (p := fun i (u : I.It) => (w.cell? (a.add (i * 6 + 0)) = some (.int .i64 u.id) ∧ w.cell? (a.add (i * 6 + 1)) = some (.int .i64 u.lv) ∧ w.cell? (a.add (i * 6 + 2)) = some (.int .u64 (u.ct : Int)) ∧ w.cell? (a.add (i * 6 + 3)) = some (.bool u.an) ∧ w.cell? (a.add (i * 6 + 4)) = some (.string ⟨u.tx.toArray⟩) ∧ w.cell? (a.add (i * 6 + 5)) = some (.bool u.ba)) ∧ u.ct < 18446744073709551616 ∧ u.tx.length ≤ maxLen) (fun i hi => by
    obtain ⟨cs', c1, c2⟩ := hcell i (by omega)
    rw [cItem] at c1
    obtain ⟨_, hlen, hat⟩ := World.cells?_some c1
    obtain ⟨u, rfl, hu⟩ := item_read (by simpa using hlen) c2
    have q0 := hat 0 (by omega)
    have q1 := hat 1 (by omega)
    have q2 := hat 2 (by omega)
    have q3 := hat 3 (by omega)
    have q4 := hat 4 (by omega)
    have q5 := hat 5 (by omega)
    rw [Go.Deep.add_add] at q0 q1 q2 q3 q4 q5
    exact ⟨u, ⟨q0, q1, q2, q3, q4, q5⟩, hu⟩)
  have htl : ((List.range len).map f).length = len := by simp
  refine ⟨some a, cap, (List.range len).map f, by rw [htl, hcs], fun hp => ?_, ⟨by rw [htl]; omega, fun u hu => ?_, fun u hu => ?_⟩⟩
  · rw [htl] at hp
    obtain ⟨bk, off, spot⟩ := a
    have hspot : spot = none := by simpa [Addr.add] using World.cell?_spot (hf 0 hp).1.1
    subst hspot
    have h0 := (hf 0 hp).1.1
    refine ⟨bk, off, rfl, World.block_lt_of_cell? w _ h0, fun j hj => ?_⟩
    rw [htl] at hj
    have := (hf j hj).1
    simp only [add_plain, ← Nat.add_assoc, Nat.add_zero] at this
    simp only [List.getElem_map, List.getElem_range]
    exact this
  · obtain ⟨i, hi, rfl⟩ := List.mem_map.1 hu
    exact (hf i (List.mem_range.1 hi)).2.2
  · obtain ⟨i, hi, rfl⟩ := List.mem_map.1 hu
    exact (hf i (List.mem_range.1 hi)).2.1
set_option maxRecDepth 100000 in
theorem items_arg {r : Reach} {b0 : Nat} {v : Value} {d : DataW H} {p : List MemPlace} (hv : Value.okWide Tryd.prog w r b0 46 v) (h : DataW.Trod enc Tryd.prog w base spare held 46 v d p) :
    ∃ (A : Option Addr) (cap : Nat) (us : List I.It), v = .slice A us.length cap ∧ I.ItemsIn w A us ∧ I.ItemsOk us := by
  obtain ⟨a0, len, cap, rfl⟩ := okWide_slice Tryd.underlying46 hv
  obtain ⟨fuel, hf⟩ := h
  obtain ⟨A, cap', us, hcs, r⟩ := items_read hf
  simp only [Value.cells, List.cons.injEq, Value.slice.injEq, and_true] at hcs
  obtain ⟨rfl, rfl, rfl⟩ := hcs
  exact ⟨_, _, us, rfl, r⟩
end
end Go.Proofs.YtadhhamfikpimaaDoor.RI
