/-
  An argument that is items, opened, with a bound by its bulk; how much a view's lines hold together.
-/
import Derived.Test.YtaejphdgfkljmaaGvj
import Derived.Test.YtaejphdgfkljmaaGvb
import Derived.Test.YtaejphdgfkljmaaGva
namespace Go.Proofs.Ytaejphdgfkljmaa.RI
open Go.ChangeShapes Go.WideShapes Go.ChangeAt Go.RowKit Go.Deep Go.Joins

section
variable {H : Type} {enc : TypeId × Value → H} {w : World} {base : Nat} {spare : Nat → Bool} {held : Bool} {fuel : Nat} {cs : List Value} {x : DataW H × List MemPlace}
def itBulk : List I.It → Nat
  | [] => 0
  | u :: r => u.tx.length + 1 + itBulk r
theorem itBulk_le {H : Type} (D : Nat → DataW H) (f : Nat → I.It) : ∀ is : List Nat, (∀ i ∈ is, (f i).tx.length + 1 ≤ Rows.uptoBulk (D i)) → itBulk (is.map f) ≤ Rows.uptoBulkAll (is.map D)
  | [], _ => Nat.le_refl _
  | i :: r, h => by
    have := itBulk_le D f r (fun j hj => h j (by simp [hj]))
    have := h i (by simp)
    simp only [List.map_cons, itBulk, Rows.uptoBulkAll]
    omega
theorem itBulk_len : ∀ l : List I.It, l.length ≤ itBulk l
  | [] => Nat.le_refl _
  | u :: r => by have := itBulk_len r; simp only [List.length_cons, itBulk]; omega
theorem itBulk_cut (o : I.Lb) : ∀ l : List I.It, itBulk (V.cut o l) ≤ itBulk l
  | [] => Nat.le_refl _
  | u :: r => by
    have := itBulk_cut o r
    by_cases hu : V.sees o u = true
    · have e : V.cut o (u :: r) = u :: V.cut o r := by simp [V.cut, hu]
      rw [e, itBulk, itBulk]; omega
    · have e : V.cut o (u :: r) = V.cut o r := by simp [V.cut, hu]
      rw [e, itBulk]; omega
theorem bulk_lns (h : List UInt8) : ∀ l : List I.It, P.bulk (V.lns h l) ≤ itBulk l + l.length * h.length
  | [] => Nat.zero_le _
  | [x] => by
    have : (V.txt h x).length ≤ x.tx.length + h.length := by unfold V.txt; split <;> omega
    simp only [V.lns, P.bulk, itBulk, List.length_cons, List.length_nil, Nat.zero_add, Nat.one_mul]
    omega
  | x :: y :: r => by
    have ih := bulk_lns h (y :: r)
    have : (V.txt h x).length ≤ x.tx.length + h.length := by unfold V.txt; split <;> omega
    rw [V.lns, P.bulk, itBulk, List.length_cons, Nat.add_mul, Nat.one_mul]
    omega
theorem bulk_view {h : List UInt8} {o : I.Lb} {l : List I.It} (h1 : itBulk l ≤ 1048576) (h2 : h.length ≤ 1048576) : P.bulk (V.lns h (V.cut o l)) ≤ 70368744177664 := by
  have a := bulk_lns h (V.cut o l)
  have b := itBulk_cut o l
  have c := itBulk_len (V.cut o l)
  have d : (V.cut o l).length * h.length ≤ 1048576 * 1048576 := Nat.mul_le_mul (by omega) h2
  omega
theorem item_bulk {s : ByteArray} {c0 c1 c2 c3 c5 : Value} (h : DataW.trod enc Try.prog w base spare held fuel 54 [c0, c1, c2, c3, .string s, c5] = some x) : s.data.toList.length + 1 ≤ Rows.uptoBulk x.1 := by
  obtain ⟨xs, n, -, hx, -, hlen, hf⟩ := DataW.trod_struct Try.underlying54 h
  have hlen : xs.length = 4 := hlen
  obtain ⟨y0, y1, y2, y3, rfl⟩ := RP.list4 hlen
  have h3 : DataW.trod enc Try.prog w base spare held n 51 (([c0, c1, c2, c3, .string s, c5].drop 4).take (Try.prog.cellsOf 51)) = [y0, y1, y2, y3][3]? := hf 3 _ rfl
  rw [cLine] at h3
  obtain ⟨z0, z1, k, hz, hl, g0, g1⟩ := trod_struct2 Try.underlying51 (show DataW.trod enc Try.prog w base spare held n 51 [.string s, c5] = some y3 from h3)
  dsimp only at g0 g1
  rw [RP.cStr] at g0
  obtain ⟨s', e0, hd, -⟩ := DataW.trod_string Try.underlying9 g0
  have e0' : s = s' := by injection e0 with p; injection p
  subst e0'
  rw [hx, hz]
  have hz0 : z0.1 = .lit (.string s.data.toList) := by rw [hd]
  simp only [List.map_cons, List.map_nil, Rows.uptoBulk, Rows.uptoBulkAll, hz0]
  omega
theorem items_readB (h : DataW.trod enc Try.prog w base spare held fuel 22 cs = some x) : ∃ (A : Option Addr) (cap : Nat) (us : List I.It), cs = [.slice A us.length cap] ∧ I.ItemsIn w A us ∧ I.ItemsOk us ∧ itBulk us ≤ Rows.uptoBulk x.1 := by
  rcases open_slice Try.underlying22 h with ⟨hcs, hx⟩ | ⟨a, len, cap, m, n, D, Pl, hcs, _, hl, hm, hmm, hx, hcell⟩
  · exact ⟨none, 0, [], hcs, fun h => absurd h (by simp), ⟨Nat.zero_le _, fun x hx => (by cases hx), fun x hx => (by cases hx)⟩, Nat.zero_le _⟩
  have hle : len ≤ m := by rw [hmm]; split <;> omega
  obtain ⟨f, hf⟩ := choose_lt (n := len) (p := fun i (u : I.It) => (w.cell? (a.add (i * 6 + 0)) = some (.int .i64 u.id) ∧ w.cell? (a.add (i * 6 + 1)) = some (.int .i64 u.lv) ∧ w.cell? (a.add (i * 6 + 2)) = some (.int .u64 (u.ct : Int)) ∧ w.cell? (a.add (i * 6 + 3)) = some (.bool u.an) ∧ w.cell? (a.add (i * 6 + 4)) = some (.string ⟨u.tx.toArray⟩) ∧ w.cell? (a.add (i * 6 + 5)) = some (.bool u.ba)) ∧ u.ct < 18446744073709551616 ∧ u.tx.length ≤ maxLen ∧ u.tx.length + 1 ≤ Rows.uptoBulk (D i)) (fun i hi => by
    obtain ⟨cs', c1, c2⟩ := hcell i (by omega)
    rw [cItem] at c1
    obtain ⟨_, hlen, hat⟩ := World.cells?_some c1
    obtain ⟨u, rfl, hu⟩ := item_read (by simpa using hlen) c2
    have hub := item_bulk c2
    have q0 := hat 0 (by omega)
    have q1 := hat 1 (by omega)
    have q2 := hat 2 (by omega)
    have q3 := hat 3 (by omega)
    have q4 := hat 4 (by omega)
    have q5 := hat 5 (by omega)
    rw [Go.Deep.add_add] at q0 q1 q2 q3 q4 q5
    exact ⟨u, ⟨q0, q1, q2, q3, q4, q5⟩, hu.1, hu.2, by simpa using hub⟩)
  have htl : ((List.range len).map f).length = len := by simp
  refine ⟨some a, cap, (List.range len).map f, by rw [htl, hcs], fun hp => ?_, ⟨by rw [htl]; omega, fun u hu => ?_, fun u hu => ?_⟩, ?_⟩
  · rw [htl] at hp
    obtain ⟨bk, off, spot⟩ := a
    have hspot : spot = none := by simpa [Addr.add] using World.cell?_spot (hf 0 hp).1.1
    subst hspot
    have h0 := (hf 0 hp).1.1
    refine ⟨bk, off, rfl, World.block_lt_of_cell? w _ h0, fun j hj => ?_⟩
    rw [htl] at hj
    have := (hf j hj).1
    simp only [add_plain, ← Nat.add_assoc, Nat.add_zero] at this
    simp only [List.getElem_map, List.getElem_range]
    exact this
  · obtain ⟨i, hi, rfl⟩ := List.mem_map.1 hu
    exact (hf i (List.mem_range.1 hi)).2.2.1
  · obtain ⟨i, hi, rfl⟩ := List.mem_map.1 hu
    exact (hf i (List.mem_range.1 hi)).2.1
  · rw [hx]
    have := itBulk_le D f (List.range len) (fun i hi => (hf i (List.mem_range.1 hi)).2.2.2)
    simp only [Rows.uptoBulk]
    omega
set_option maxRecDepth 100000 in
theorem items_argB {r : Reach} {b0 : Nat} {v : Value} {d : DataW H} {p : List MemPlace} (hv : Value.okWide Try.prog w r b0 22 v) (h : DataW.Trod enc Try.prog w base spare held 22 v d p) :
    ∃ (A : Option Addr) (cap : Nat) (us : List I.It), v = .slice A us.length cap ∧ I.ItemsIn w A us ∧ I.ItemsOk us ∧ itBulk us ≤ Rows.uptoBulk d := by
  obtain ⟨a0, len, cap, rfl⟩ := okWide_slice Try.underlying22 hv
  obtain ⟨fuel, hf⟩ := h
  obtain ⟨A, cap', us, hcs, r⟩ := items_readB hf
  simp only [Value.cells, List.cons.injEq, Value.slice.injEq, and_true] at hcs
  obtain ⟨rfl, rfl, rfl⟩ := hcs
  exact ⟨_, _, us, rfl, r⟩
end
end Go.Proofs.Ytaejphdgfkljmaa.RI
