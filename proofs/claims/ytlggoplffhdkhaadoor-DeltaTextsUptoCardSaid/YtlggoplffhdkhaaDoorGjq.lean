/-
  DeltaPrints, walked over any delta that is not too large.
  A delta's bulk counts the bytes of its items' texts.
-/
import Derived.Test.YtlggoplffhdkhaaDoorGji
import Derived.Test.YtlggoplffhdkhaaDoorGjp
import Derived.Test.YtlggoplffhdkhaaDoorGjn
namespace Go.Proofs.YtlggoplffhdkhaaDoor.Dl
set_option linter.unusedVariables false
set_option linter.unusedSimpArgs false
open Go.RowKit Go.Maps
open T
open V (drawn_below grown_of)
open I (It ItemsIn ItemsAt itCells itCells_snoc itCells_at alloc1 own_at own_below items_of_own items_own infoItem ItemsIn.below)

set_option maxRecDepth 100000 in
set_option maxHeartbeats 4000000 in
theorem prints_any {D : Option Addr} {cd : Nat} {d : List Pt} (w : World) (hD : PtsIn w D d) (hd : d.length ≤ 4000000000) (hp : ∀ p ∈ d, p.its.length ≤ 4000000000 ∧ ∀ x ∈ p.its, x.tx.length ≤ maxLen ∧ x.ct < 18446744073709551616) (hbk : P.bulk (dlk d d.length) ≤ 5000000000000) (hT : Tab w) :
    Calls Tryd.prog 6 #[.slice D d.length cd] w fun e w' => e = .returned (.bool true) ∧ Below w.heap.size w w' := by
  have HPR := Lib.hid (print_any D cd d w hD hd hp hbk hT)
  have HRP := Lib.hid (fun (W : World) (h : Below w.heap.size w W) => rprint_any D cd d W (hD.below h) hd (fun p h => ⟨(hp p h).1, fun x hx => ((hp p h).2 x hx).1⟩) hbk)
  have HLV := Lib.hid (fun (W : World) (h : Below w.heap.size w W) => live15 W (hT.later h))
  generalize prt d = t at *
  generalize cke d = z at *
  generalize d.length = ld at *
  clear hD hp hbk hT hd
  go_enter Tryd.func6, Tryd.ntmps6
  go_wp2_with fail
  with_reducible refine HPR.out.mono ?_
  rintro e w1 ⟨B, bc, rfl, hown, hb1⟩
  obtain ⟨B', bc', hv, -, hBI⟩ := bytes_of_own hown
  injection hv with hv1 _ hv2
  subst hv1 hv2
  have HB1 := Lib.hid hb1
  have HI1 := Lib.hid hBI
  clear hown hb1 hBI HPR
  go_wp2_with fail
  with_reducible refine (HRP.out _ HB1.out).mono ?_
  rintro e w2 ⟨E, ec, rfl, hEI, hb2⟩
  have HB2 := Lib.hid (HB1.out.trans (hb2.mono HB1.out.size))
  have HI2 := Lib.hid (HI1.out.below hb2)
  have HE2 := Lib.hid hEI
  clear hb2 hEI HI1 HB1 HRP
  have HSX : Hid (∀ W, Below w2.heap.size w2 W → ((convert 43 9 (.slice B t.length bc)).run Tryd.prog W = .ok (.string ⟨t.toArray⟩) W ∧ (convert 43 9 (.slice E t.length ec)).run Tryd.prog W = .ok (.string ⟨t.toArray⟩) W ∧ Below w2.heap.size w2 W)) := Lib.hid (fun W h => ⟨conv_in bc (HI2.out.below h), conv_in ec (HE2.out.below h), h⟩)
  have HLW : Hid (∀ W, Below w2.heap.size w2 W → Calls Tryd.prog 12 #[] W fun e w' => e = .returned (.bool true) ∧ Below w2.heap.size w2 w') := Lib.hid (fun W h => (HLV.out W (HB2.out.trans (h.mono HB2.out.size))).mono fun e w' h' => ⟨h'.1, h.trans (h'.2.mono h.size)⟩)
  generalize (⟨t.toArray⟩ : ByteArray) = s at *
  generalize t.length = n at *
  have hzz : (z == z) = true := by simp
  clear HLV HI2 HE2
  go_wp2_with fail
  with_reducible refine (HLW.out _ (Below.refl _ _)).mono ?_
  rintro e w3 ⟨rfl, hb3⟩
  obtain ⟨v1, v2, -⟩ := HSX.out _ hb3
  have HB3 := Lib.hid (HB2.out.trans (hb3.mono HB2.out.size))
  clear HSX HLW hb3
  go_wp2_with fail
  go_ret
  exact ⟨rfl, HB3.out⟩
/-- How many bytes a delta's lines have. -/
def pbk : List It → Nat
  | [] => 0
  | x :: r => x.tx.length + 1 + pbk r
def dbk : List Pt → Nat
  | [] => 0
  | p :: r => pbk p.its + 1 + dbk r
theorem itln_most (x : It) : (itln x).length ≤ 1100 + x.tx.length := by
  have h1 := P.decimal_length x.id
  have h2 := L.print_len x.lv x.ct
  have h3 := knd_len x
  simp only [itln_is, List.length_append, List.length_cons, List.length_nil]
  omega
theorem itls_bulk : ∀ l : List It, P.bulk (itls l) ≤ 1200 * pbk l
  | [] => Nat.zero_le _
  | x :: r => by
    have ih := itls_bulk r
    have h1 := itln_most x
    have e : itls (x :: r) = (itln x, false) :: itls r := rfl
    rw [e, P.bulk, pbk]
    omega
theorem dbk_snoc : ∀ (a : List Pt) (p : Pt), dbk (a ++ [p]) = dbk a + (pbk p.its + 1)
  | [], p => by simp [dbk]
  | x :: r, p => by have := dbk_snoc r p; rw [List.cons_append, dbk, dbk, this]; omega
theorem dlk_most (d : List Pt) : ∀ k, k ≤ d.length → P.bulk (dlk d k) ≤ 1200 * dbk (d.take k)
  | 0, _ => Nat.zero_le _
  | k + 1, h => by
    have ih := dlk_most d k (by omega)
    have h1 : P.bulk (nxl d k) ≤ 5 := by
      unfold nxl
      split
      · exact Nat.le_refl _
      · exact Nat.zero_le _
    have h2 : P.bulk (ptl d k) ≤ 120 + 1200 * pbk d[k].its := by
      rw [ptl_is h]
      unfold plns
      split
      · have := cpln_len d[k].at_ d[k].n
        simp only [P.bulk]
        omega
      · have := itls_bulk d[k].its
        omega
    rw [List.take_succ_eq_append_getElem h, dbk_snoc, show dlk d (k + 1) = dlk d k ++ nxl d k ++ ptl d k from rfl, bulk_app, bulk_app]
    omega
end Go.Proofs.YtlggoplffhdkhaaDoor.Dl

namespace Go.Proofs.YtlggoplffhdkhaaDoor.RI

theorem itBulk_pbk : ∀ l : List I.It, Dl.pbk l ≤ itBulk l
  | [] => Nat.le_refl _
  | u :: r => by have := itBulk_pbk r; simp only [Dl.pbk, itBulk]; omega
theorem ptBulk_dbk : ∀ l : List Dl.Pt, Dl.dbk l ≤ ptBulk l
  | [] => Nat.le_refl _
  | u :: r => by
    have := ptBulk_dbk r
    have := itBulk_pbk u.its
    simp only [Dl.dbk, ptBulk]; omega
theorem wi_ct {x : I.It} (h : Dl.Wi x) : x.ct < 18446744073709551616 := by
  have h1 := h.ct
  simp only [Go.Lit.wf, Bool.and_eq_true, decide_eq_true_eq] at h1
  have h2 : (x.ct : Int) ≤ 18446744073709551615 := h1.2
  omega
end Go.Proofs.YtlggoplffhdkhaaDoor.RI
