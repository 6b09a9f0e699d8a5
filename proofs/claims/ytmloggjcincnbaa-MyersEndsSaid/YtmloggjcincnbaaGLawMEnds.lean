/-
  The law MyersEnds.
-/
import Derived.Test.YtmloggjcincnbaaGMyN
namespace Go.Proofs.Ytmloggjcincnbaa.M
set_option linter.unusedVariables false
set_option linter.unusedSimpArgs false
open Go.RowKit
open T
open V (IntsIn numCells numCells_snoc ints_own drawn_below rints_any)
open I (alloc1 own_at own_below)

set_option maxRecDepth 100000 in
set_option maxHeartbeats 4000000 in
theorem mends_law {P A B L : Option Addr} {p a b l : List Int} {cp ca cb cl : Nat} {w : World} (hP : IntsIn w P p) (hA : IntsIn w A a) (hB : IntsIn w B b) (hL : IntsIn w L l) (hp : p.length ≤ maxLen) (ha : a.length ≤ maxLen) (hb : b.length ≤ maxLen) (hl : l.length ≤ maxLen)
    (hcp : p.length ≤ cp) (hca : a.length ≤ ca) (hcb : b.length ≤ cb) (hcl : l.length ≤ cl) (zp : P = none → cp = 0) (za : A = none → ca = 0) (zb : B = none → cb = 0) (zl : L = none → cl = 0) :
    Calls Try.prog 6 #[.slice P p.length cp, .slice A a.length ca, .slice B b.length cb, .slice L l.length cl] w fun e w' => e = .returned (.bool true) ∧ Below w.heap.size w w' := by
  obtain ⟨i0, hi0, hz0, hz1, hz2⟩ := info_parts infoI
  have HL := Lib.hid live7
  have HFP := Lib.hid (fun W => few_any P p cp W hp hcp)
  have HFA := Lib.hid (fun W => few_any A a ca W ha hca)
  have HFB := Lib.hid (fun W => few_any B b cb W hb hcb)
  have HFL := Lib.hid (fun W => few_any L l cl W hl hcl)
  have HP := Lib.hid (ints_take hP 40)
  have HA := Lib.hid (ints_take hA 40)
  have HB := Lib.hid (ints_take hB 40)
  have HLL := Lib.hid (ints_take hL 40)
  have ZP := Lib.hid zp
  have ZA := Lib.hid za
  have ZB := Lib.hid zb
  have ZL := Lib.hid zl
  have h0 : (p.take 40).length ≤ 40 := List.length_take_le _ _
  have h1 : (a.take 40).length ≤ 40 := List.length_take_le _ _
  have h2 : (b.take 40).length ≤ 40 := List.length_take_le _ _
  have h3 : (l.take 40).length ≤ 40 := List.length_take_le _ _
  clear hP hA hB hL hp ha hb hl hcp hca hcb hcl zp za zb zl
  generalize p.take 40 = q at *
  generalize a.take 40 = x at *
  generalize b.take 40 = y at *
  generalize l.take 40 = r at *
  have HE := Lib.hid (ed_ends q x y r)
  have HLE := Lib.hid (ed_le x y)
  have HDXY := Lib.hid (fun (W : World) (h : Below w.heap.size w W) => dist_any A B x y ca cb W (HA.out.below h) (HB.out.below h) (by omega) (by omega))
  obtain ⟨d, hd⟩ : ∃ d : Int, d = ((ed x y : Nat) : Int) := ⟨_, rfl⟩
  rw [← hd] at HDXY
  have HD := Lib.hid hd
  have hself : (d == d) = true := by simp
  clear hd HLE
  have HQ : Hid (q.length ≤ 40 ∧ x.length ≤ 40 ∧ y.length ≤ 40 ∧ r.length ≤ 40) := Lib.hid ⟨h0, h1, h2, h3⟩
  clear h0 h1 h2 h3
  have HCAT : Hid (∀ (V V' : Option Addr) (c c' : Nat) (W : World), IntsIn W V (q ++ x ++ r) → IntsIn W V' (q ++ y ++ r) → Calls Try.prog 18 #[.slice V (q ++ x ++ r).length c, .slice V' (q ++ y ++ r).length c'] W fun e w' => e = .returned (.int .i64 d) ∧ Below W.heap.size W w') := Lib.hid (fun V V' c c' W g g' => by
    have := dist_any V V' (q ++ x ++ r) (q ++ y ++ r) c c' W g g' (by have := HQ.out; simp; omega) (by have := HQ.out; simp; omega)
    rw [HE.out, ← HD.out] at this
    exact this)
  obtain ⟨X, hX⟩ : ∃ X, X = q ++ x ++ r := ⟨_, rfl⟩
  obtain ⟨Y, hY⟩ : ∃ Y, Y = q ++ y ++ r := ⟨_, rfl⟩
  rw [← hX, ← hY] at HCAT
  obtain ⟨QX, hQX⟩ : ∃ X, X = q ++ x := ⟨_, rfl⟩
  obtain ⟨QY, hQY⟩ : ∃ X, X = q ++ y := ⟨_, rfl⟩
  rw [← hQX] at hX
  rw [← hQY] at hY
  have HQX := Lib.hid hQX
  have HQY := Lib.hid hQY
  have HQL : Hid (QX.length ≤ 80 ∧ QY.length ≤ 80) := Lib.hid (by rw [hQX, hQY]; have := HQ.out; simp; omega)
  clear hQX hQY
  have HX := Lib.hid hX
  have HY := Lib.hid hY
  clear hX hY
  have HE0 : Hid (q = [] ++ q) := Lib.hid (List.nil_append q).symm
  go_enter Try.func6, Try.ntmps6
  go_wp2_with fail
  with_reducible refine (HFP.out _).mono ?_
  rintro e w' ⟨rfl, rfl⟩
  go_wp2_with fail
  with_reducible refine (HFA.out _).mono ?_
  rintro e w' ⟨rfl, rfl⟩
  go_wp2_with fail
  with_reducible refine (HFB.out _).mono ?_
  rintro e w' ⟨rfl, rfl⟩
  go_wp2_with fail
  with_reducible refine (HFL.out _).mono ?_
  rintro e w' ⟨rfl, rfl⟩
  have HO0 := Lib.hid (own_lit0 w (base := w.heap.size) (Nat.le_refl _))
  have HB0 := Lib.hid (alloc1 w (.cells #[] 3))
  go_wp2_with (first
    | (at_builtin; refine append_ints rfl (.tmp 19) (.tmp 20) 22 rfl w.heap.size 3 i0 _ Try.underlying22 hi0 hz0 hz1 hz2 rfl _ [] rfl HO0.out P cp q rfl (HP.out.below HB0.out) ZP.out q HE0.out (by have := HQ.out; simp; omega) HB0.out.size ?_; intro V1 c1 w1 hown1 hg1; have HO1 := Lib.hid hown1; have HB1 := Lib.hid (below_app HB0.out HO0.out hg1 HB0.out.size); clear hown1 hg1)
    | (at_builtin; refine append_ints rfl (.tmp 21) (.tmp 22) 22 rfl w.heap.size 3 i0 _ Try.underlying22 hi0 hz0 hz1 hz2 rfl _ q rfl HO1.out A ca x rfl (HA.out.below HB1.out) ZA.out QX HQX.out (by have := HQ.out; omega) HB1.out.size ?_; intro V2 c2 w2 hown2 hg2; have HO2 := Lib.hid hown2; have HB2 := Lib.hid (below_app HB1.out HO1.out hg2 HB1.out.size); clear hown2 hg2)
    | (at_builtin; refine append_ints rfl (.tmp 23) (.tmp 24) 22 rfl w.heap.size 3 i0 _ Try.underlying22 hi0 hz0 hz1 hz2 rfl _ QX rfl HO2.out L cl r rfl (HLL.out.below HB2.out) ZL.out X HX.out (by have := HQ.out; have := HQL.out; omega) HB2.out.size ?_; intro V3 c3 w3 hown3 hg3; have HO3 := Lib.hid hown3; have HB3 := Lib.hid (below_app HB2.out HO2.out hg3 HB2.out.size); have HO3B := Lib.hid (own_lit0 w3 (base := w3.heap.size) (Nat.le_refl _)); have HB4 := Lib.hid (alloc1 w3 (.cells #[] 3)); clear hown3 hg3)
    | (at_builtin; refine append_ints rfl (.tmp 26) (.tmp 27) 22 rfl w3.heap.size 3 i0 _ Try.underlying22 hi0 hz0 hz1 hz2 rfl _ [] rfl HO3B.out P cp q rfl ((HP.out.below HB3.out).below HB4.out) ZP.out q HE0.out (by have := HQ.out; simp; omega) HB4.out.size ?_; intro V5 c5 w5 hown5 hg5; have HO5 := Lib.hid hown5; have HB5 := Lib.hid (below_app HB4.out HO3B.out hg5 HB4.out.size); clear hown5 hg5)
    | (at_builtin; refine append_ints rfl (.tmp 28) (.tmp 29) 22 rfl w3.heap.size 3 i0 _ Try.underlying22 hi0 hz0 hz1 hz2 rfl _ q rfl HO5.out B cb y rfl ((HB.out.below HB3.out).below HB5.out) ZB.out QY HQY.out (by have := HQ.out; omega) HB5.out.size ?_; intro V6 c6 w6 hown6 hg6; have HO6 := Lib.hid hown6; have HB6 := Lib.hid (below_app HB5.out HO5.out hg6 HB5.out.size); clear hown6 hg6)
    | (at_builtin; refine append_ints rfl (.tmp 30) (.tmp 31) 22 rfl w3.heap.size 3 i0 _ Try.underlying22 hi0 hz0 hz1 hz2 rfl _ QY rfl HO6.out L cl r rfl ((HLL.out.below HB3.out).below HB6.out) ZL.out Y HY.out (by have := HQ.out; have := HQL.out; omega) HB6.out.size ?_; intro V7 c7 w7 hown7 hg7; have HO7 := Lib.hid hown7; have HB7 := Lib.hid (below_app HB6.out HO6.out hg7 HB6.out.size); clear hown7 hg7))
  have HI3 := Lib.hid ((ints_own HO3.out).below HB7.out)
  have HI7 := Lib.hid (ints_own HO7.out)
  have HBA := Lib.hid (HB3.out.trans (HB7.out.mono HB3.out.size))
  with_reducible refine (HL.out.at _).mono ?_
  rintro e w8 ⟨rfl, hb8⟩
  have HB8 := Lib.hid (HBA.out.trans (hb8.mono HBA.out.size))
  have HCC := Lib.hid (HCAT.out V3 V7 c3 c7 w8 (HI3.out.below hb8) (HI7.out.below hb8))
  clear hb8
  go_wp2_with fail
  with_reducible refine (HCC.out).mono ?_
  rintro e w9 ⟨rfl, hb9⟩
  have HB9 := Lib.hid (HB8.out.trans (hb9.mono HB8.out.size))
  clear hb9
  go_wp2_with fail
  with_reducible refine (HDXY.out w9 HB9.out).mono ?_
  rintro e w10 ⟨rfl, hb10⟩
  go_wp2_with fail
  go_ret
  exact ⟨rfl, HB9.out.trans (hb10.mono HB9.out.size)⟩
end Go.Proofs.Ytmloggjcincnbaa.M
