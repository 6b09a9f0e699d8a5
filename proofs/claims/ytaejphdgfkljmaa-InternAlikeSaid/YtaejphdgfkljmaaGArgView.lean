/-
  An argument that is a view, opened; how much items and a text in the place of anchors can hold together.
-/
import Derived.Test.YtaejphdgfkljmaaGvj
import Derived.Test.YtaejphdgfkljmaaGvc
namespace Go.Proofs.Ytaejphdgfkljmaa.RZ
open Go.ChangeShapes Go.WideShapes Go.ChangeAt Go.RowKit Go.Joins
section
variable {H : Type} {enc : TypeId × Value → H} {w : World} {base : Nat} {spare : Nat → Bool} {held : Bool}
set_option maxRecDepth 100000 in
theorem ints_read {fuel : Nat} {cs : List Value} {x : DataW H × List MemPlace} (hf : DataW.trod enc Try.prog w base spare held fuel 27 cs = some x) :
    ∃ (A : Option Addr) (cap : Nat) (xs : List Int), cs = [.slice A xs.length cap] ∧ V.IntsIn w A xs := by
  rcases open_ints Try.underlying27 Try.underlying3 R.cellsInt hf with ⟨hcs, hx⟩ | ⟨a, len', cap', zs, hcs, _, hl, hm, hz, hx, hcell, hwz⟩
  · exact ⟨none, 0, [], hcs, fun h => absurd h (by simp)⟩
  · have hle : len' ≤ zs.length := by rw [hz]; split <;> omega
    have htl : (zs.take len').length = len' := by rw [List.length_take]; omega
    refine ⟨some a, cap', zs.take len', by rw [htl, hcs], fun hp => ?_⟩
    rw [htl] at hp
    obtain ⟨bk, off, rfl, hc⟩ := ints_at hcell (by omega)
    have h0 := hc 0 (by omega)
    refine ⟨bk, off, rfl, World.block_lt_of_cell? w ⟨bk, off + 0, none⟩ h0, fun j hj => ?_⟩
    rw [htl] at hj
    rw [hc j (by omega), List.getElem_take, List.getD_eq_getElem?_getD, List.getElem?_eq_getElem (by omega)]
    rfl
theorem cView : Try.prog.cellsOf 29 = 2 := by kernel_rfl
theorem cLines : Try.prog.cellsOf 26 = 1 := by kernel_rfl
theorem cInts : Try.prog.cellsOf 27 = 1 := by kernel_rfl
set_option maxRecDepth 100000 in
theorem view_arg {r : Reach} {b0 : Nat} {v : Value} {d : DataW H} {p : List MemPlace} (hv : Value.okWide Try.prog w r b0 29 v) (h : DataW.Trod enc Try.prog w base spare held 29 v d p) :
    ∃ (LA TA : Option Addr) (ln lc tc : Nat) (ts : List Int), v = .agg #[.slice LA ln lc, .slice TA ts.length tc] ∧ V.IntsIn w TA ts ∧ ∃ dl dt pt, d = .agg [dl, dt] ∧ DataW.Trod enc Try.prog w base spare held 27 (.slice TA ts.length tc) dt pt := by
  obtain ⟨cs, rfl, hsz⟩ := okWide_struct Try.underlying29 hv
  rw [cView] at hsz
  obtain ⟨l⟩ := cs
  obtain ⟨c0, c1, rfl⟩ := RP.list2 (show l.length = 2 from hsz)
  obtain ⟨fuel, hf⟩ := h
  obtain ⟨y0, y1, n, hd, hl, h0, h1⟩ := trod_struct2 Try.underlying29 (show DataW.trod enc Try.prog w base spare held fuel 29 [c0, c1] = some (d, p) from hf)
  dsimp only at h0 h1 hd
  rw [cLines] at h0
  rw [cInts] at h1
  obtain ⟨TA, tc, ts, e1, hT⟩ := ints_read h1
  have e1' : c1 = .slice TA ts.length tc := by injection e1
  have e0 : ∃ LA ln lc, c0 = .slice LA ln lc := by
    rcases Deep.open_slice Try.underlying26 h0 with ⟨hcs, hx⟩ | ⟨a, len, cap', m, k, D, Pl, hcs, _⟩
    · exact ⟨none, 0, 0, by injection hcs⟩
    · exact ⟨some a, len, cap', by injection hcs⟩
  obtain ⟨LA, ln, lc, rfl⟩ := e0
  subst e1'
  exact ⟨LA, TA, ln, lc, tc, ts, rfl, hT, y0.1, y1.1, y1.2, (Prod.mk.inj hd).1, n, h1⟩
theorem view_size {ts : List TypeId} {ds : List (DataW H)} (hs : (DataW.weightsEach Try.prog ts ds).all (· ≤ reachBytes) = true) {j : Nat} {A : Option Addr} {n cap : Nat} {dl dt : DataW H} {p : List MemPlace} (ht : ts[j]? = some 29) (hd : ds[j]? = some (.agg [dl, dt])) (h : DataW.Trod enc Try.prog w base spare held 27 (.slice A n cap) dt p) : n * 8 ≤ 140737488351232 := by
  rcases slice_shape Try.underlying27 h with ⟨rfl, -⟩ | ⟨es, sp, rfl, rfl⟩
  · simp
  · have := List.all_eq_true.1 hs _ (DataW.weights_mem_each ht hd ((es.length + sp.length) * Try.prog.bytesOf 3) (by simp [DataW.weights, DataW.weightsEach, Try.underlying29, Try.underlying27]))
    have h2 : (es.length + sp.length) * Try.prog.bytesOf 3 ≤ reachBytes := by simpa using this
    rw [bytesInt] at h2
    simp only [reachBytes] at h2
    omega
end
end Go.Proofs.Ytaejphdgfkljmaa.RZ
