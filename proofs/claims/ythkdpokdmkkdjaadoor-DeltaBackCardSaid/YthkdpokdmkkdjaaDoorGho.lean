/-
  DeltaBack, walked over any two lists.
-/
import Derived.Test.YthkdpokdmkkdjaaDoorGhm
import Derived.Test.YthkdpokdmkkdjaaDoorGhn
namespace Go.Proofs.YthkdpokdmkkdjaaDoor.Dl
set_option linter.unusedVariables false
set_option linter.unusedSimpArgs false
open Go.RowKit Go.Maps
open T
open V (drawn_below grown_of)
open I (It ItemsIn ItemsAt itCells itCells_snoc itCells_at alloc1 own_at own_below items_of_own items_own infoItem ItemsIn.below)

theorem make_aer (a b : List It) : aer a.length (make a b) = 0 := by
  have h := make_wy a b
  generalize make a b = d at *
  induction d with
  | nil => rfl
  | cons p r ih =>
    have hp := h p (by simp)
    have hr := ih (fun q hq => h q (by simp [hq]))
    have e : cwn p.at_ p.n p.its.length a.length = 0 := by
      have hc : cpt p.at_ p.n p.its.length = 0 := by
        unfold cpt
        rcases hp with ⟨h1, h2, h3, h4⟩ | ⟨h1, h2, h3⟩
        · rw [h1]; simp only [List.length_nil]; rw [if_neg (by omega), if_neg (by omega)]
        · have := List.length_pos_iff.2 h1
          rw [if_neg (by omega), if_neg (by omega)]
      unfold cwn
      rw [if_neg (by simpa using hc)]
      rcases hp with ⟨h1, h2, h3, h4⟩ | ⟨h1, h2, h3⟩
      · rw [if_neg (by omega)]
      · rw [if_neg (by omega)]
    rw [aer, if_neg (by simpa using e)]
    exact hr
/-- Make, then Apply, of two lists of at most forty items: the older list. -/
theorem mak_any {A B : Option Addr} {ca cb : Nat} {a b : List It} {w W : World} (hA : Ix w A ca a) (hB : Ix w B cb b) (hb : Below w.heap.size w W) (ha : a.length ≤ 40) (hl : b.length ≤ 40) (hwa : ∀ x ∈ a, Wi x) (hwb : ∀ x ∈ b, Wi x) (hca : ca ≤ 9223372036854775807) (hcb : cb ≤ 9223372036854775807) :
    Calls Tryd.prog 11 #[.slice A a.length ca, .slice B b.length cb] W fun e W2 => ∃ D n dc, e = .returned (.slice D n dc) ∧ Below w.heap.size w W2 ∧ ∀ W3, Below W2.heap.size W2 W3 → Calls Tryd.prog 16 #[.slice A a.length ca, .slice D n dc] W3 fun e W4 => ∃ L lc, e = .returned (.tuple #[.slice L b.length lc, .int .i64 0]) ∧ ItemsIn W4 L b ∧ Below w.heap.size w W4 := by
  refine (make_any W (hA.below hb) (hB.below hb) (by omega) (by omega) hwa hwb hca hcb).mono ?_
  rintro e W2 ⟨D, dc, rfl, hD, hb2⟩
  have hb3 := hb.trans (hb2.mono hb.size)
  refine ⟨D, _, dc, rfl, hb3, fun W3 h => ?_⟩
  have hb4 := hb3.trans (h.mono hb3.size)
  have hz := make_aer a b
  have ho := make_ol a b
  have hpn : ∀ p ∈ make a b, p.n ≤ 9223372036854775807 := fun p hp => by
    rcases make_wy a b p hp with ⟨h1, h2, h3, h4⟩ | ⟨h1, h2, h3⟩ <;> omega
  have := apply_any A D ca dc a (make a b) W3 (hA.below hb4) (hD.below h) (Nat.le_trans (make_len a b) (by omega)) hca hpn (fun _ => by rw [ho]; omega)
  rw [hz, show apl a (make a b) = b by unfold apl; rw [if_pos hz, ho]] at this
  refine this.mono ?_
  rintro e W4 ⟨L, lc, rfl, hown, hb5⟩
  exact ⟨L, lc, rfl, (own_ix hown).i, hb4.trans (hb5.mono hb4.size)⟩
set_option maxRecDepth 100000 in
set_option maxHeartbeats 4000000 in
theorem back_any {A B : Option Addr} {ca cb : Nat} {a b : List It} (w : World) (hA : Ix w A ca a) (hB : Ix w B cb b) (hwa : ∀ x ∈ a, Wi x) (hwb : ∀ x ∈ b, Wi x) (hca : ca ≤ maxLen) (hcb : cb ≤ maxLen) (hT : Tab w) :
    Calls Tryd.prog 4 #[.slice A a.length ca, .slice B b.length cb] w fun e w' => e = .returned (.bool true) ∧ Below w.heap.size w w' := by
  have hra := hA.r
  have hrb := hB.r
  have HFA := Lib.hid (few_any A a ca w (by omega) hra)
  have HFB := Lib.hid (few_any B b cb w (by omega) hrb)
  have hA4 := hA.take 40
  have hB4 := hB.take 40
  have hla : (a.take 40).length ≤ 40 := by rw [List.length_take]; omega
  have hlb : (b.take 40).length ≤ 40 := by rw [List.length_take]; omega
  have hwa4 : ∀ x ∈ a.take 40, Wi x := fun x hx => hwa x (List.mem_of_mem_take hx)
  have hwb4 : ∀ x ∈ b.take 40, Wi x := fun x hx => hwb x (List.mem_of_mem_take hx)
  unfold maxLen at hca hcb
  generalize a.take 40 = a4 at *
  generalize b.take 40 = b4 at *
  have H1 := Lib.hid (fun (W : World) (h : Below w.heap.size w W) => mak_any hA4 hB4 h hla hlb hwa4 hwb4 (by omega) (by omega))
  have HLV := Lib.hid (fun (W : World) (h : Below w.heap.size w W) => live15 W (hT.later h))
  have HSM := Lib.hid (fun (L : Option Addr) (lc : Nat) (W : World) (h : Below w.heap.size w W) (hL : ItemsIn W L b4) => I.same_any L B lc cb b4 W (by omega) hL (hB4.below h).i)
  have H0 := Lib.hid (Below.refl w.heap.size w)
  clear hA hB hwa hwb hA4 hB4 hra hrb hT hla hlb hwa4 hwb4
  go_enter Tryd.func4, Tryd.ntmps4
  go_wp2_with fail
  with_reducible refine HFA.out.mono ?_
  rintro e w1 ⟨rfl, rfl⟩
  go_wp2_with fail
  with_reducible refine HFB.out.mono ?_
  rintro e w1 ⟨rfl, rfl⟩
  clear HFA HFB
  go_wp2_with fail
  with_reducible refine (H1.out _ H0.out).mono ?_
  rintro e w2 ⟨D, n, dc, rfl, hb2, h2⟩
  have H2 := Lib.hid (h2 w2 (Below.refl _ _))
  clear h2 hb2 H1
  go_wp2_with fail
  with_reducible refine H2.out.mono ?_
  rintro e w3 ⟨L, lc, rfl, hL, hb3⟩
  have HL := Lib.hid hL
  have HB3 := Lib.hid hb3
  clear H2 hL hb3
  go_wp2_with fail
  with_reducible refine (HLV.out _ HB3.out).mono ?_
  rintro e w4 ⟨rfl, hb4⟩
  have HB4 := Lib.hid (HB3.out.trans (hb4.mono HB3.out.size))
  have HL4 := Lib.hid (HL.out.below hb4)
  clear hb4 HL HLV HB3
  go_wp2_with fail
  with_reducible refine (HSM.out _ _ _ HB4.out HL4.out).mono ?_
  rintro e w5 ⟨rfl, hb5⟩
  have HB5 := Lib.hid (HB4.out.trans (hb5.mono HB4.out.size))
  clear hb5 HSM HB4 HL4
  go_wp2_with fail
  go_ret
  exact ⟨rfl, HB5.out⟩
end Go.Proofs.YthkdpokdmkkdjaaDoor.Dl
