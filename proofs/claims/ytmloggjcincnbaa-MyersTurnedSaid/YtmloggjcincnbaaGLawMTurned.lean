/-
  The law MyersTurned.
-/
import Derived.Test.YtmloggjcincnbaaGMyN
namespace Go.Proofs.Ytmloggjcincnbaa.M
set_option linter.unusedVariables false
set_option linter.unusedSimpArgs false
open Go.RowKit
open T
open V (IntsIn numCells numCells_snoc ints_own drawn_below rints_any)
open I (alloc1 own_at own_below)

theorem rev_app {a : List Int} {k m : Nat} (hk : k < a.length) (hm : m = a.length - 1 - k) (hml : m < a.length) : numCells (a.reverse.take k) ++ [.int .i64 a[m]] = numCells (a.reverse.take (k + 1)) := by
  subst hm
  rw [List.take_succ_eq_append_getElem (by simpa using hk), numCells_snoc, List.getElem_reverse]
set_option maxRecDepth 100000 in
set_option maxHeartbeats 4000000 in
theorem mturned_law {A B : Option Addr} {a b : List Int} {ca cb : Nat} {n : Int} {w : World} (hA : IntsIn w A a) (hB : IntsIn w B b) (ha : a.length ≤ maxLen) (hb : b.length ≤ maxLen) (hca : a.length ≤ ca) (hcb : b.length ≤ cb) (za : A = none → ca = 0) :
    Calls Try.prog 9 #[.slice A a.length ca, .slice B b.length cb, .int .i64 n] w fun e w' => e = .returned (.bool true) ∧ Below w.heap.size w w' := by
  obtain ⟨i0, hi0, hz0, hz1, hz2⟩ := info_parts infoI
  have HL := Lib.hid live7
  have HFA := Lib.hid (fun W => few_any A a ca W ha hca)
  have HFB := Lib.hid (fun W => few_any B b cb W hb hcb)
  have HA := Lib.hid (ints_take hA 40)
  have HB := Lib.hid (ints_take hB 40)
  have ZA := Lib.hid za
  have h1 : (a.take 40).length ≤ 40 := List.length_take_le _ _
  have h2 : (b.take 40).length ≤ 40 := List.length_take_le _ _
  clear hA hB ha hb hca hcb za
  generalize a.take 40 = x at *
  generalize b.take 40 = y at *
  have HLE := Lib.hid (ed_le x y)
  have HXY := Lib.hid (fun (W : World) (h : Below w.heap.size w W) => dist_any A B x y ca cb W (HA.out.below h) (HB.out.below h) (by omega) (by omega))
  have HP1 := Lib.hid (fun (W : World) (h : Below w.heap.size w W) => pairs_any A B x y ca cb W (HA.out.below h) (HB.out.below h) (by omega) (by omega))
  have HP2 := Lib.hid (fun (W : World) (h : Below w.heap.size w W) => pairs_any B A y x cb ca W (HB.out.below h) (HA.out.below h) (by omega) (by omega))
  have HPT := Lib.hid (pairs_turn y x)
  have HMORE := Lib.hid (ed_more x y n)
  have HRV : Hid (∀ (V V' : Option Addr) (c c' : Nat) (W : World), IntsIn W V x.reverse → IntsIn W V' y.reverse → Calls Try.prog 18 #[.slice V x.length c, .slice V' y.length c'] W fun e w' => e = .returned (.int .i64 ((ed x y : Nat) : Int)) ∧ Below W.heap.size W w') := Lib.hid (fun V V' c c' W g g' => by
    have := dist_any V V' x.reverse y.reverse c c' W g g' (by simp; omega) (by simp; omega)
    rw [ed_rev, List.length_reverse, List.length_reverse] at this
    exact this)
  have HMD : Hid (∀ (V : Option Addr) (c : Nat) (W : World), IntsIn W V (x ++ [n]) → IntsIn W B y → Calls Try.prog 18 #[.slice V (x ++ [n]).length c, .slice B y.length cb] W fun e w' => e = .returned (.int .i64 ((ed (x ++ [n]) y : Nat) : Int)) ∧ Below W.heap.size W w') := Lib.hid (fun V c W g g' => dist_any V B (x ++ [n]) y c cb W g g' (by simp; omega) (by omega))
  obtain ⟨d, hd⟩ : ∃ d : Int, d = ((ed x y : Nat) : Int) := ⟨_, rfl⟩
  obtain ⟨mo, hmo⟩ : ∃ d : Int, d = ((ed (x ++ [n]) y : Nat) : Int) := ⟨_, rfl⟩
  have hd0 : 0 ≤ d ∧ d ≤ 80 := by have := HLE.out; omega
  have HMO : Hid (mo = d + 1 ∨ mo = d - 1) := Lib.hid (by have := HMORE.out; omega)
  rw [← hd] at HXY HRV
  rw [← hmo] at HMD
  obtain ⟨XN, hXN⟩ : ∃ l, l = x ++ [n] := ⟨_, rfl⟩
  rw [← hXN] at HMD
  have HXN := Lib.hid hXN
  clear hd hmo hXN HMORE HLE
  obtain ⟨pl, hpl⟩ : ∃ n, n = (pairs y x).length := ⟨_, rfl⟩
  have HPL := Lib.hid (And.intro (HPT.out.symm.trans hpl.symm) hpl.symm)
  clear hpl HPT
  obtain ⟨hd1, hd2⟩ := hd0
  go_enter Try.func9, Try.ntmps9
  go_wp2_with fail
  with_reducible refine (HFA.out _).mono ?_
  rintro e w' ⟨rfl, rfl⟩
  go_wp2_with fail
  with_reducible refine (HFB.out _).mono ?_
  rintro e w' ⟨rfl, rfl⟩
  obtain ⟨la, hla⟩ : ∃ n, n = x.length := ⟨_, rfl⟩
  obtain ⟨lb, hlb⟩ : ∃ n, n = y.length := ⟨_, rfl⟩
  have HLN := Lib.hid (And.intro hla hlb)
  rw [← hla] at h1 HXY HRV HP1 HP2 ⊢
  rw [← hlb] at h2 HXY HRV HP1 HP2 HMD ⊢
  clear hla hlb
  go_wp2_with fail
  go_loopg [7, 9] la (fun mm v i wr => ∃ (k : Nat) (z : Int), k ≤ la ∧ i = .int .i64 z ∧ -1 ≤ z ∧ z < la ∧ la - k ≤ mm ∧ Hid (z = (la : Int) - 1 - k) ∧ wr.ownsRow w.heap.size 3 1 v k (numCells (x.reverse.take k)) ∧ Hid (Below w.heap.size w wr))
  case atStart => exact ⟨0, _, Nat.zero_le _, rfl, by omega, by omega, by omega, Lib.hid (by omega), World.ownsRow_nil _ _ _ _, Lib.hid (Below.refl _ _)⟩
  case round =>
    obtain ⟨k, z, hk, rfl, hz1', hz2', hmm, HZ, hown, HBW⟩ := hrel
    have HOW := Lib.hid hown
    have hsw := HBW.out.size
    clear hown
    by_cases hlt : k < la
    · obtain ⟨m, rfl⟩ : ∃ m : Nat, z = (m : Int) := ⟨z.toNat, by have := HZ.out; omega⟩
      have hmx : m < x.length := by have := HLN.out; omega
      have hkx : k < x.length := by have := HLN.out; omega
      obtain ⟨bk, off, hAe, hbk, hI⟩ := (HA.out.below HBW.out) (by omega)
      subst hAe
      have c0 := hI m hmx
      have HRA := Lib.hid (rev_app hkx (m := m) (by have := HZ.out; have := HLN.out; omega) hmx)
      generalize x[m] = u at c0 HRA
      have k0 : (0 : Int) ≤ (m : Int) := by omega
      have k1 : (m : Int) < (la : Int) := by omega
      clear hI hmx hkx
      go_wp2_with (at_builtin; refine wpList_append_own _ rfl _ _ 22 rfl w.heap.size 3 i0 _ 1 8 Try.underlying22 hi0 hz0 hz1 hz2 rfl (by decide) _ k _ rfl (HOW.out.alloc _) ⟨_, 0, none⟩ 1 1 [.int .i64 u] rfl rfl (World.news_of_block (alloc_at _ rfl)) (by intro u hu; simp at hu; rcases hu with rfl; rfl) (by simp only [maxLen]; omega) (by omega) (by simp; omega) ?_; intro v' w4 hown4 hg4 _; rw [HRA.out] at hown4; have HO4 := Lib.hid hown4; have HG4 := Lib.hid hg4; clear hown4 hg4)
      have HBW4 : Hid (Below w.heap.size w w4) := Lib.hid ((HBW.out.alloc hsw _).grown HG4.out (by simp; omega) (fun q eq => own_base HOW.out q eq))
      go_roundg (la - (k + 1))
      case measure => omega
      case rel => exact ⟨k + 1, _, by omega, rfl, by omega, by omega, Nat.le_refl _, Lib.hid (by have := HZ.out; omega), HO4.out, HBW4⟩
    · have hke : k = la := by omega
      have hzz : z = -1 := by have := HZ.out; omega
      subst hzz
      obtain ⟨VX, cx, rfl, -, -⟩ := own_form HOW.out
      have hox := HOW.out
      rw [hke, List.take_of_length_le (by have := HLN.out; simp; omega)] at hox
      have HOX := Lib.hid hox
      have HIX : Hid (IntsIn wr VX x.reverse) := Lib.hid (ints_own (cap := cx) (by rw [List.length_reverse, ← HLN.out.1]; exact hox))
      obtain rfl := hke
      clear hox HOW
      obtain ⟨w1, hw1⟩ : ∃ W : World, W = wr := ⟨_, rfl⟩
      subst hw1
      have hs1 := HBW.out.size
      go_wp2_with fail
      go_loopg [8, 10] lb (fun mm v i wr => ∃ (k : Nat) (z : Int), k ≤ lb ∧ i = .int .i64 z ∧ -1 ≤ z ∧ z < lb ∧ lb - k ≤ mm ∧ Hid (z = (lb : Int) - 1 - k) ∧ wr.ownsRow w1.heap.size 3 1 v k (numCells (y.reverse.take k)) ∧ Hid (Below w1.heap.size w1 wr))
      case atStart => exact ⟨0, _, Nat.zero_le _, rfl, by omega, by omega, by omega, Lib.hid (by omega), World.ownsRow_nil _ _ _ _, Lib.hid (Below.refl _ _)⟩
      case round =>
        obtain ⟨j, z, hj, rfl, hz1', hz2', hmm, HZ, hown, HBY⟩ := hrel
        have HOW := Lib.hid hown
        have hsy := HBY.out.size
        clear hown
        by_cases hlt : j < lb
        · obtain ⟨m, rfl⟩ : ∃ m : Nat, z = (m : Int) := ⟨z.toNat, by have := HZ.out; omega⟩
          have hmx : m < y.length := by have := HLN.out; omega
          have hkx : j < y.length := by have := HLN.out; omega
          obtain ⟨bk, off, hBe, hbk, hI⟩ := (HB.out.below (HBW.out.trans (HBY.out.mono hs1))) (by omega)
          subst hBe
          have c0 := hI m hmx
          have HRA := Lib.hid (rev_app hkx (m := m) (by have := HZ.out; have := HLN.out; omega) hmx)
          generalize y[m] = u at c0 HRA
          have k0 : (0 : Int) ≤ (m : Int) := by omega
          have k1 : (m : Int) < (lb : Int) := by omega
          clear hI hmx hkx
          go_wp2_with (at_builtin; refine wpList_append_own _ rfl _ _ 22 rfl w1.heap.size 3 i0 _ 1 8 Try.underlying22 hi0 hz0 hz1 hz2 rfl (by decide) _ j _ rfl (HOW.out.alloc _) ⟨_, 0, none⟩ 1 1 [.int .i64 u] rfl rfl (World.news_of_block (alloc_at _ rfl)) (by intro u hu; simp at hu; rcases hu with rfl; rfl) (by simp only [maxLen]; omega) (by omega) (by simp; omega) ?_; intro v' w4 hown4 hg4 _; rw [HRA.out] at hown4; have HO4 := Lib.hid hown4; have HG4 := Lib.hid hg4; clear hown4 hg4)
          have HBW4 : Hid (Below w1.heap.size w1 w4) := Lib.hid ((HBY.out.alloc hsy _).grown HG4.out (by simp; omega) (fun q eq => own_base HOW.out q eq))
          go_roundg (lb - (j + 1))
          case measure => omega
          case rel => exact ⟨j + 1, _, by omega, rfl, by omega, by omega, Nat.le_refl _, Lib.hid (by have := HZ.out; omega), HO4.out, HBW4⟩
        · have hje : j = lb := by omega
          have hzz : z = -1 := by have := HZ.out; omega
          subst hzz
          obtain ⟨VY, cy, rfl, -, -⟩ := own_form HOW.out
          have hoy := HOW.out
          rw [hje, List.take_of_length_le (by have := HLN.out; simp; omega)] at hoy
          have HIY : Hid (IntsIn wr VY y.reverse) := Lib.hid (ints_own (cap := cy) (by rw [List.length_reverse, ← HLN.out.2]; exact hoy))
          obtain rfl := hje
          have HBA : Hid (Below w.heap.size w wr) := Lib.hid (HBW.out.trans (HBY.out.mono hs1))
          have HIX2 := Lib.hid (HIX.out.below HBY.out)
          clear hoy HOW HOX
          go_wp2_with fail
          with_reducible refine (HXY.out wr HBA.out).mono ?_
          rintro e w2 ⟨rfl, hb2⟩
          have HB2 := Lib.hid (HBA.out.trans (hb2.mono HBA.out.size))
          have HIX3 := Lib.hid (HIX2.out.below hb2)
          have HIY3 := Lib.hid (HIY.out.below hb2)
          have HO0 := Lib.hid (own_lit0 w2 (base := w2.heap.size) (Nat.le_refl _))
          have HB0 := Lib.hid (alloc1 w2 (.cells #[] 3))
          have HE0 : Hid (x = [] ++ x) := Lib.hid (List.nil_append x).symm
          clear hb2 HIX HIX2 HIY
          obtain ⟨lx, hlx⟩ : ∃ n, n = x.length := ⟨_, rfl⟩
          have HX0 : Hid (k = x.length) := Lib.hid HLN.out.1
          go_wp2_with (first
            | (at_builtin; refine append_ints rfl (.tmp 48) (.tmp 49) 22 rfl w2.heap.size 3 i0 _ Try.underlying22 hi0 hz0 hz1 hz2 rfl _ [] rfl HO0.out A ca x (by rw [← HX0.out]; rfl) ((HA.out.below HB2.out).below HB0.out) ZA.out x HE0.out (by have := HX0.out; simp; omega) HB0.out.size ?_; intro V1 c1 w3 hown1 hg1; have HO1 := Lib.hid hown1; have HB3 := Lib.hid (below_app HB0.out HO0.out hg1 HB0.out.size); clear hown1 hg1; have HO1A := Lib.hid (HO1.out.alloc (.cells #[.int .i64 n] 3)); have HB3A := Lib.hid (HB3.out.alloc HB3.out.size (.cells #[.int .i64 n] 3)); have HIN := Lib.hid (ints_of_block (xs := [n]) (heap_alloc_new w3 (.cells #[.int .i64 n] 3)) rfl))
            | (at_builtin; refine append_ints rfl (.tmp 50) (.tmp 52) 22 rfl w2.heap.size 3 i0 _ Try.underlying22 hi0 hz0 hz1 hz2 rfl _ x rfl HO1A.out (some ⟨w3.heap.size, 0, none⟩) 1 [n] rfl HIN.out (fun h => by cases h) XN HXN.out (by have := HX0.out; simp; omega) HB3A.out.size ?_; intro V2 c2 w4 hown2 hg2; have HO2 := Lib.hid hown2; have HB4 := Lib.hid (below_app HB3A.out HO1A.out hg2 HB3A.out.size); clear hown2 hg2))
          have HB24 := Lib.hid (HB2.out.trans (HB4.out.mono HB2.out.size))
          with_reducible refine (HMD.out V2 c2 w4 (ints_own HO2.out) (HB.out.below HB24.out)).mono ?_
          rintro e w5 ⟨rfl, hb5⟩
          have HB5 := Lib.hid (HB24.out.trans (hb5.mono HB24.out.size))
          have HB25 := Lib.hid (HB4.out.trans (hb5.mono HB4.out.size))
          clear hb5
          go_wp2_with fail
          with_reducible refine (HL.out.at _).mono ?_
          rintro e w6 ⟨rfl, hb6⟩
          have HB6 := Lib.hid (HB5.out.trans (hb6.mono HB5.out.size))
          have HB26 := Lib.hid (HB25.out.trans (hb6.mono HB25.out.size))
          clear hb6
          go_wp2_with fail
          with_reducible refine (HRV.out VX VY cx cy w6 (HIX3.out.below HB26.out) (HIY3.out.below HB26.out)).mono ?_
          rintro e w7 ⟨rfl, hb7⟩
          have HB7 := Lib.hid (HB6.out.trans (hb7.mono HB6.out.size))
          clear hb7
          have hself : (d == d) = true := by simp
          go_wp2_with fail
          with_reducible refine (HP1.out w7 HB7.out).mono ?_
          rintro e w8 ⟨PA, pc, rfl, -, hb8⟩
          rw [HPL.out.1]
          have HB8 := Lib.hid (HB7.out.trans (hb8.mono HB7.out.size))
          clear hb8
          go_wp2_with fail
          with_reducible refine (HP2.out w8 HB8.out).mono ?_
          rintro e w9 ⟨PB, pc', rfl, -, hb9⟩
          rw [HPL.out.2]
          have HB9 := Lib.hid (HB8.out.trans (hb9.mono HB8.out.size))
          clear hb9
          rcases HMO.out with rfl | rfl
          · have hs2 : (d + 1 == d + 1) = true := by simp
            go_wp2_with fail
            go_ret
            exact ⟨rfl, HB9.out⟩
          · have hs2 : (d - 1 == d + 1) = false := beq_eq_false_iff_ne.2 (by omega)
            have hs3 : (d - 1 == d - 1) = true := by simp
            go_wp2_with fail
            go_ret
            exact ⟨rfl, HB9.out⟩
end Go.Proofs.Ytmloggjcincnbaa.M
