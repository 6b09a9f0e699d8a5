/-
  What the rows of law21 share besides: the two tables of wire read off a row's condition; a start for the witness.
-/
import Derived.Test.YtddakaeacgojmaaDoorGwc
import Derived.Test.YtddakaeacgojmaaDoorGwe
import Derived.OpenShut
namespace Go.Proofs.YtddakaeacgojmaaDoor.RW
open Go.RowKit
open T L Wr
open Go.ChangeShapes

theorem trod_str {H : Type} {enc : TypeId × Value → H} {P : Program} {w : World} {base : Nat} {sp : Nat → Bool} {held : Bool} {fuel : Nat} {t : TypeId} {cs : List Value} {y : DataW H × List MemPlace} {s : List UInt8}
    (ht : P.underlying t = some .string) (h : DataW.trod enc P w base sp held fuel t cs = some y) (hy : y.1 = .lit (.string s)) : cs = [.string ⟨s.toArray⟩] := by
  cases fuel with
  | zero => simp [DataW.trod] at h
  | succ m =>
    unfold DataW.trod at h
    rw [ht] at h
    split at h <;> first | (exfalso; simp_all; done) | skip
    split at h
    · injection h with h
      subst h
      injection hy with hy
      injection hy with hy
      subst hy
      rfl
    · cases h
section
variable {H : Type} {enc : TypeId × Value → H} {P : Program} {w : World} {base : Nat} {sp : Nat → Bool} {held : Bool} {fuel : Nat} {t e : TypeId} {n : Nat} {cs : List Value} {p : List MemPlace}
theorem arr_strs {zs : List (List UInt8)} (ht : P.underlying t = some (.array n e)) (he : P.underlying e = some .string) (hce : P.cellsOf e = 1) (hct : P.cellsOf t = n)
    (h : DataW.trod enc P w base sp held fuel t cs = some (.agg (zs.map fun z => .lit (.string z)), p)) : cs = zs.map str := by
  obtain ⟨xs, m, _, hx, hl, hxl, hi⟩ := DataW.trod_array ht h
  have hx1 : zs.map (fun z => (DataW.lit (.string z) : DataW H)) = xs.map (·.1) := by injection hx with h1 h2; injection h1
  have hzl : zs.length = n := by have := congrArg List.length hx1; simp at this; omega
  apply List.ext_getElem?
  intro i
  by_cases hin : i < n
  · have h1 := hi i hin
    rw [hce, Nat.mul_one, List.getElem?_eq_getElem (by omega)] at h1
    have h2 : (xs[i]'(by omega)).1 = .lit (.string (zs[i]'(by omega))) := by
      have := congrArg (·[i]?) hx1
      simp only [List.getElem?_map, List.getElem?_eq_getElem (show i < zs.length by omega), List.getElem?_eq_getElem (show i < xs.length by omega), Option.map_some] at this
      exact (Option.some.inj this).symm
    have h3 := trod_str he h1 h2
    have h4 : cs[i]? = some (str (zs[i]'(by omega))) := by
      have := congrArg (·[0]?) h3
      unfold str
      simpa [List.getElem?_take, List.getElem?_drop] using this
    rw [h4, List.getElem?_map, List.getElem?_eq_getElem (show i < zs.length by omega)]; rfl
  · rw [List.getElem?_eq_none (by omega), List.getElem?_eq_none (by simp; omega)]
theorem arr_pairs {f0 f1 : Field} {zs : List (List UInt8 × List UInt8)} (ht : P.underlying t = some (.array n e)) (he : P.underlying e = some (.struct #[f0, f1])) (h0 : P.underlying f0.type = some .string) (h1 : P.underlying f1.type = some .string)
    (o0 : f0.offset = 0) (o1 : f1.offset = 1) (c0 : P.cellsOf f0.type = 1) (c1 : P.cellsOf f1.type = 1) (hce : P.cellsOf e = 2)
    (h : DataW.trod enc P w base sp held fuel t cs = some (.agg (zs.map fun z => .agg [.lit (.string z.1), .lit (.string z.2)]), p)) :
    cs.length = P.cellsOf t ∧ zs.length = n ∧ ∀ i (hz : i < zs.length), cs[i * 2]? = some (str zs[i].1) ∧ cs[i * 2 + 1]? = some (str zs[i].2) := by
  obtain ⟨xs, m, _, hx, hl, hxl, hi⟩ := DataW.trod_array ht h
  have hx1 : zs.map (fun z => (DataW.agg [.lit (.string z.1), .lit (.string z.2)] : DataW H)) = xs.map (·.1) := by injection hx with h1 h2; injection h1
  have hzl : zs.length = n := by have := congrArg List.length hx1; simp at this; omega
  refine ⟨hl, hzl, fun i hin => ?_⟩
  have q1 := hi i (by omega)
  rw [hce, List.getElem?_eq_getElem (show i < xs.length by omega)] at q1
  have h2 : (xs[i]'(by omega)).1 = .agg [.lit (.string zs[i].1), .lit (.string zs[i].2)] := by
    have := congrArg (·[i]?) hx1
    simp only [List.getElem?_map, List.getElem?_eq_getElem hin, List.getElem?_eq_getElem (show i < xs.length by omega), Option.map_some] at this
    exact (Option.some.inj this).symm
  obtain ⟨y0, y1, k, hy, _, r0, r1⟩ := trod_struct2 he q1
  rw [hy] at h2
  have h3 : [y0.1, y1.1] = [.lit (.string zs[i].1), .lit (.string zs[i].2)] := by injection h2
  injection h3 with h3 h4
  injection h4 with h4
  rw [o0, c0] at r0
  rw [o1, c1] at r1
  have s0 := trod_str h0 r0 h3
  have s1 := trod_str h1 r1 h4
  refine ⟨?_, ?_⟩
  · have := congrArg (·[0]?) s0
    unfold str
    simpa [List.getElem?_take, List.getElem?_drop] using this
  · have := congrArg (·[0]?) s1
    unfold str
    simpa [List.getElem?_take, List.getElem?_drop] using this
end
theorem var_of_head {P : Program} {W : World} {name : String} {d : DataW Unit} {rest : List (String × DataW Unit)} {g : Nat} {t : TypeId}
    (hg : P.globalNamed name = some g) (hty : (P.globals[g]?).map (·.type) = some t) (h : laidMet P ((name, d) :: rest) W) :
    ∃ cs fuel p, W.var? P name = some (List.toArray cs) ∧ ∃ (enc : TypeId × Value → Unit) (base : Nat) (sp : Nat → Bool) (held : Bool), DataW.trod enc P W base sp held fuel t cs = some (d, p) := by
  obtain ⟨ps, ⟨g', t', cs, fuel, p, q, hg', ht', hvar, hd, _, _⟩, _⟩ := h
  obtain rfl := Option.some.inj (hg.symm.trans hg')
  obtain rfl := Option.some.inj (hty.symm.trans ht')
  exact ⟨_, fuel, p, hvar, _, _, _, _, hd⟩
theorem typeK : (Tryd.prog.globals[1]?).map (·.type) = some 82 := by kernel_rfl
theorem typeC : (Tryd.prog.globals[0]?).map (·.type) = some 75 := by kernel_rfl
theorem kt_of {W : World} (h : laidMetH Tryd.prog R.listed W) : Kt W := by
  have h1 : laidMet Tryd.prog R.listed W := h
  have hk : laidMet Tryd.prog [("jalousie/wire.kinds", .agg ((wds.zip sgs).map fun z => .agg [.lit (.string z.1), .lit (.string z.2)])), ("jalousie/wire.codes", .agg (cds.map fun z => .lit (.string z)))] W := h1.tail.tail.tail
  obtain ⟨cs, fuel, p, hv, enc, base, sp, held, hd⟩ := var_of_head gK typeK hk
  obtain ⟨cs2, fuel2, p2, hv2, enc2, base2, sp2, held2, hd2⟩ := var_of_head gC typeC hk.tail
  have hC := arr_strs Tryd.underlying75 Tryd.underlying9 (by kernel_rfl) (by kernel_rfl) hd2
  obtain ⟨hl, _, hK⟩ := arr_pairs Tryd.underlying82 Tryd.underlying58 Tryd.underlying9 Tryd.underlying9 rfl rfl (by kernel_rfl) (by kernel_rfl) (by kernel_rfl) hd
  have hct : Tryd.prog.cellsOf 82 = 24 := by kernel_rfl
  rw [hct] at hl
  refine ⟨?_, ?_⟩
  · have e : cs = kCells := ?_
    · rw [hv, e]
    apply List.ext_getElem?
    intro i
    by_cases hi : i < 24
    · have hz : i / 2 < (wds.zip sgs).length := by show i / 2 < 12; omega
      obtain ⟨k1, k2⟩ := hK (i / 2) hz
      have e1 : ((wds.zip sgs)[i / 2]'hz) = (wds.getD (i / 2) [], sgs.getD (i / 2) []) := by
        rw [List.getElem_zip, List.getD_eq_getElem?_getD, List.getD_eq_getElem?_getD, List.getElem?_eq_getElem (show i / 2 < wds.length by show i / 2 < 12; omega), List.getElem?_eq_getElem (show i / 2 < sgs.length by show i / 2 < 12; omega)]; rfl
      rw [e1] at k1 k2
      by_cases hp : i % 2 = 0
      · rw [show i / 2 * 2 = i by omega] at k1
        rw [k1, show i = 2 * (i / 2) by omega, kc_word _ (by omega)]
        simp only [show 2 * (i / 2) / 2 = i / 2 by omega]
      · rw [show i / 2 * 2 + 1 = i by omega] at k2
        rw [k2, show i = 2 * (i / 2) + 1 by omega, kc_sign _ (by omega)]
        simp only [show (2 * (i / 2) + 1) / 2 = i / 2 by omega]
    · rw [List.getElem?_eq_none (by omega), List.getElem?_eq_none (by show kCells.length ≤ i; rw [show kCells.length = 24 from rfl]; omega)]
  · rw [hv2, hC]; rfl
/-- A world for the witness. -/
noncomputable def laidWorld (os : Os) : World :=
  { R.laidWorld os with heap := ((R.laidWorld os).heap.modify 1 (R.fill kCells)).modify 0 (R.fill cCells) }
end Go.Proofs.YtddakaeacgojmaaDoor.RW
