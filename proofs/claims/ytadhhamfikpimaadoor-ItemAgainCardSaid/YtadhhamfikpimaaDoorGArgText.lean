/-
  Arguments that are bytes or lines, opened: their values, what their cells hold, and a bound on them by their bulk.
-/
import Derived.Test.YtadhhamfikpimaaDoorGRowKit
import Derived.Test.YtadhhamfikpimaaDoorGBulk
import Derived.Test.YtadhhamfikpimaaDoorGg
import Derived.Deep.SlicePairs
namespace Go.Proofs.YtadhhamfikpimaaDoor.R
open Go.ChangeShapes Go.WideShapes Go.ChangeAt Go.RowKit

theorem cellsByte : Tryd.prog.cellsOf 5 = 1 := by kernel_rfl
theorem cellsStr : Tryd.prog.cellsOf 9 = 1 := by kernel_rfl
theorem cellsBool : Tryd.prog.cellsOf 4 = 1 := by kernel_rfl
theorem cellsLine : Tryd.prog.cellsOf 51 = 2 := by kernel_rfl

theorem bulk_lits {H : Type} (k : IntKind) : ∀ zs : List Int, Rows.uptoBulkAll (lits (H := H) k zs) = zs.length
  | [] => rfl
  | z :: r => by
    have := bulk_lits (H := H) k r
    simp only [lits, List.map_cons, Rows.uptoBulkAll, Rows.uptoBulk, List.length_cons] at this ⊢
    omega
set_option maxRecDepth 100000 in
theorem bytes_arg {H : Type} {enc : TypeId × Value → H} {W : World} {r : Reach} {b0 base : Nat} {sp : Nat → Bool} {held : Bool} {v : Value} {d : DataW H} {p : List MemPlace}
    (hv : Value.okWide Tryd.prog W r b0 22 v) (h : DataW.Trod enc Tryd.prog W base sp held 22 v d p) :
    ∃ (A : Option Addr) (cap : Nat) (l : List UInt8), v = .slice A l.length cap ∧ l.length ≤ cap ∧ l.length ≤ Rows.uptoBulk d ∧ T.BytesIn W A l := by
  obtain ⟨a0, len, cap, rfl⟩ := okWide_slice Tryd.underlying22 hv
  obtain ⟨fuel, hf⟩ := h
  rcases open_ints Tryd.underlying22 Tryd.underlying5 cellsByte hf with ⟨hcs, hx⟩ | ⟨a, len', cap', zs, hcs, _, hl, hm, hz, hx, hcell, hwz⟩
  · simp only [Value.cells, List.cons.injEq, Value.slice.injEq, and_true] at hcs
    obtain ⟨rfl, rfl, rfl⟩ := hcs
    exact ⟨none, 0, [], rfl, Nat.le_refl _, Nat.zero_le _, fun h => absurd h (by simp)⟩
  · simp only [Value.cells, List.cons.injEq, Value.slice.injEq, and_true] at hcs
    obtain ⟨rfl, rfl, rfl⟩ := hcs
    have hle : len ≤ zs.length := by rw [hz]; split <;> omega
    have htl : ((zs.take len).map fun n => UInt8.ofNat n.toNat).length = len := by rw [List.length_map, List.length_take]; omega
    refine ⟨some a, cap, (zs.take len).map fun n => UInt8.ofNat n.toNat, by rw [htl], by rw [htl]; exact hl, ?_, fun hp => ?_⟩
    · rw [htl, (Prod.mk.inj hx).1, Rows.uptoBulk, bulk_lits, bulk_lits, List.length_take]; omega
    rw [htl] at hp
    obtain ⟨bk, off, rfl, hc⟩ := ints_at hcell (by omega)
    have h0 := hc 0 (by omega)
    refine ⟨bk, off, rfl, World.block_lt_of_cell? W ⟨bk, off + 0, none⟩ h0, fun j hj => ?_⟩
    rw [htl] at hj
    have hjz : j < zs.length := by omega
    have hw := bounds_u8 (hwz zs[j] (List.getElem_mem hjz))
    rw [hc j (by omega), List.getD_eq_getElem?_getD, List.getElem?_eq_getElem hjz]
    simp
    omega

def textOf : Value → List UInt8
  | .string s => s.data.toList
  | _ => []
def bareOf : Value → Bool
  | .bool b => b
  | _ => false
theorem bulk_pairs {H : Type} (D0 D1 : Nat → DataW H) (f : Nat → List UInt8 × Bool) : ∀ is : List Nat, (∀ i ∈ is, D0 i = .lit (.string (f i).1)) → P.bulk (is.map f) ≤ Rows.uptoBulkAll (is.map fun i => .agg [D0 i, D1 i])
  | [], _ => Nat.le_refl _
  | i :: r, h => by
    have ih := bulk_pairs D0 D1 f r (fun j hj => h j (by simp [hj]))
    rw [List.map_cons, List.map_cons, show f i = ((f i).1, (f i).2) from rfl, P.bulk]
    simp only [Rows.uptoBulkAll, Rows.uptoBulk, h i (by simp)]
    omega
set_option maxRecDepth 100000 in
theorem lines_arg {H : Type} {enc : TypeId × Value → H} {W : World} {r : Reach} {b0 base : Nat} {sp : Nat → Bool} {held : Bool} {v : Value} {d : DataW H} {p : List MemPlace}
    (hv : Value.okWide Tryd.prog W r b0 64 v) (h : DataW.Trod enc Tryd.prog W base sp held 64 v d p) :
    ∃ (A : Option Addr) (cap : Nat) (xs : List (List UInt8 × Bool)), v = .slice A xs.length cap ∧ P.bulk xs ≤ Rows.uptoBulk d ∧ T.LinesIn W A xs := by
  obtain ⟨a0, len, cap, rfl⟩ := okWide_slice Tryd.underlying64 hv
  obtain ⟨fuel, hf⟩ := h
  rcases Deep.open_slice_pairs Tryd.underlying64 Tryd.underlying51 cellsLine rfl rfl cellsStr cellsBool hf with ⟨hcs, hx⟩ | ⟨a, len', cap', m, n, V0, V1, D0, D1, P0, P1, hcs, _, hl, hm, hmm, hx, hcell⟩
  · simp only [Value.cells, List.cons.injEq, Value.slice.injEq, and_true] at hcs
    obtain ⟨rfl, rfl, rfl⟩ := hcs
    exact ⟨none, 0, [], rfl, Nat.zero_le _, fun h => absurd h (by simp)⟩
  · simp only [Value.cells, List.cons.injEq, Value.slice.injEq, and_true] at hcs
    obtain ⟨rfl, rfl, rfl⟩ := hcs
    have hle : len ≤ m := by rw [hmm]; split <;> omega
    have each : ∀ i, i < len → W.cell? (a.add (i * 2)) = some (.string ⟨(textOf (V0 i)).toArray⟩) ∧ W.cell? (a.add (i * 2 + 1)) = some (.bool (bareOf (V1 i))) ∧ D0 i = .lit (.string (textOf (V0 i))) := by
      intro i hi
      obtain ⟨c0, c1, t0, t1⟩ := hcell i (by omega)
      obtain ⟨s, hs, hd, _⟩ := DataW.trod_string Tryd.underlying9 t0
      obtain ⟨b, hb, _⟩ := DataW.trod_bool Tryd.underlying4 t1
      simp only [List.cons.injEq, and_true] at hs hb
      rw [hs] at c0
      rw [hb] at c1
      refine ⟨by rw [c0, hs]; simp [textOf], by rw [c1, hb]; rfl, by rw [(Prod.mk.inj hd).1, hs]; rfl⟩
    have htl : ((List.range len).map fun i => (textOf (V0 i), bareOf (V1 i))).length = len := by simp
    refine ⟨some a, cap, (List.range len).map fun i => (textOf (V0 i), bareOf (V1 i)), by rw [htl], ?_, fun hp => ?_⟩
    · have := bulk_pairs D0 D1 (fun i => (textOf (V0 i), bareOf (V1 i))) (List.range len) (fun i hi => (each i (List.mem_range.1 hi)).2.2)
      rw [(Prod.mk.inj hx).1, Rows.uptoBulk]; omega
    rw [htl] at hp
    obtain ⟨bk, off, spot⟩ := a
    have hspot : spot = none := by simpa [Addr.add] using World.cell?_spot (each 0 hp).1
    subst hspot
    have h0 := (each 0 hp).1
    refine ⟨bk, off, rfl, World.block_lt_of_cell? W _ h0, fun j hj => ?_⟩
    rw [htl] at hj
    have := each j hj
    rw [add_plain, add_plain, ← Nat.add_assoc] at this
    simp only [List.getElem_map, List.getElem_range]
    exact ⟨this.1, this.2.1⟩
end Go.Proofs.YtadhhamfikpimaaDoor.R
