/-
  The law MyersMakes.
-/
import Derived.Test.YtmloggjcincnbaaGmf
namespace Go.Proofs.Ytmloggjcincnbaa.M
set_option linter.unusedVariables false
set_option linter.unusedSimpArgs false
open Go.RowKit
open T
open V (IntsIn numCells numCells_snoc ints_own drawn_below rints_any)
open I (alloc1 own_at own_below)

theorem take_app {y : List Int} {j : Nat} (hj : j < y.length) : numCells (y.take j) ++ [.int .i64 y[j]] = numCells (y.take (j + 1)) := by
  rw [List.take_succ_eq_append_getElem hj, numCells_snoc]
theorem drop_at {s : List Int} {k : Nat} (hk : k < s.length) : s.drop k = s[k] :: s.drop (k + 1) := List.drop_eq_getElem_cons hk
set_option maxRecDepth 100000 in
set_option maxHeartbeats 4000000 in
theorem mmakes_law {A B : Option Addr} {a b : List Int} {ca cb : Nat} {w : World} (hA : IntsIn w A a) (hB : IntsIn w B b) (ha : a.length ≤ maxLen) (hb : b.length ≤ maxLen) (hca : a.length ≤ ca) (hcb : b.length ≤ cb) :
    Calls Try.prog 7 #[.slice A a.length ca, .slice B b.length cb] w fun e w' => e = .returned (.bool true) ∧ Below w.heap.size w w' := by
  obtain ⟨i0, hi0, hz0, hz1, hz2⟩ := info_parts infoI
  have HL := Lib.hid live7
  have HFA := Lib.hid (fun W => few_any A a ca W ha hca)
  have HFB := Lib.hid (fun W => few_any B b cb W hb hcb)
  have HA := Lib.hid (ints_take hA 40)
  have HB := Lib.hid (ints_take hB 40)
  have h1 : (a.take 40).length ≤ 40 := List.length_take_le _ _
  have h2 : (b.take 40).length ≤ 40 := List.length_take_le _ _
  clear hA hB ha hb hca hcb
  generalize a.take 40 = x at *
  generalize b.take 40 = y at *
  have HST := Lib.hid (steps_any A B x y ca cb w HA.out HB.out (by omega) (by omega))
  have HRI := Lib.hid (fun (W : World) (V : Option Addr) (c : Nat) (h : Below w.heap.size w W) (h' : IntsIn W V y) => rints_any V B c cb y y W (by unfold maxLen; omega) h' (HB.out.below h))
  rw [decide_eq_true rfl] at HRI
  have HWL := Lib.hid (way_le _ x y (Nat.le_refl _))
  have HW0 : Hid (way x y = Wy x y 0 0) := Lib.hid rfl
  obtain ⟨s, hs⟩ : ∃ s, s = way x y := ⟨_, rfl⟩
  rw [← hs] at HST HWL HW0
  clear hs
  have hsl : s.length ≤ 80 := by have := HWL.out; omega
  clear HWL
  go_enter Try.func7, Try.ntmps7
  go_wp2_with fail
  with_reducible refine (HFA.out _).mono ?_
  rintro e w' ⟨rfl, rfl⟩
  go_wp2_with fail
  with_reducible refine (HFB.out _).mono ?_
  rintro e w' ⟨rfl, rfl⟩
  obtain ⟨la, hla⟩ : ∃ n, n = x.length := ⟨_, rfl⟩
  obtain ⟨lb, hlb⟩ : ∃ n, n = y.length := ⟨_, rfl⟩
  rw [← hla] at h1 HST ⊢
  rw [← hlb] at h2 HST HRI ⊢
  have HLN := Lib.hid (And.intro hla hlb)
  clear hla hlb
  go_wp2_with fail
  with_reducible refine (HST.out).mono ?_
  rintro e w1 ⟨SA, scap, rfl, hso, hb1⟩
  have HB1 := Lib.hid hb1
  have HSC : Hid (0 < s.length → ∃ g, SA = some ⟨g, 0, none⟩ ∧ w.heap.size ≤ g ∧ g < w1.heap.size ∧ ∀ j (hj : j < s.length), w1.cell? ⟨g, j, none⟩ = some (.int .i64 s[j])) := Lib.hid (st_cells hso)
  obtain ⟨ls, hls⟩ : ∃ n, n = s.length := ⟨_, rfl⟩
  have HLS := Lib.hid hls
  rw [← hls] at hsl ⊢
  have hs1 := hb1.size
  clear hso hb1 HST hls
  go_wp2_with fail
  go_loopg [6, 7, 8, 9] ls (fun mm o i j k wr => ∃ i' j' k' : Nat, i = .int .i64 (i' : Int) ∧ j = .int .i64 (j' : Int) ∧ k = .int .i64 (k' : Int) ∧ k' ≤ ls ∧ i' ≤ la ∧ j' ≤ lb ∧ ls - k' ≤ mm ∧ Hid (s.drop k' = Wy x y i' j') ∧ wr.ownsRow w1.heap.size 3 1 o j' (numCells (y.take j')) ∧ Hid (Below w1.heap.size w1 wr))
  case atStart => exact ⟨0, 0, 0, rfl, rfl, rfl, Nat.zero_le _, Nat.zero_le _, Nat.zero_le _, by omega, Lib.hid HW0.out, World.ownsRow_nil _ _ _ _, Lib.hid (Below.refl _ _)⟩
  case round =>
    obtain ⟨i, j, k, rfl, rfl, rfl, hk, hi, hj, hmm, HD, hown, HBW⟩ := hrel
    have HOW := Lib.hid hown
    have hsw := HBW.out.size
    clear hown
    by_cases hlt : k < ls
    · have hks : k < s.length := by have := HLS.out; omega
      obtain ⟨g, hSA, hg1, hg2, hsc⟩ := HSC.out (by omega)
      subst hSA
      have c0 := (HBW.out.cell (p := ⟨g, k, none⟩) hg2).trans (hsc k hks)
      have HDD := Lib.hid ((drop_at hks).symm.trans HD.out).symm
      obtain ⟨t, ht⟩ : ∃ t, t = s[k] := ⟨_, rfl⟩
      rw [← ht] at c0 HDD
      have HNX := Lib.hid (Wy_next HDD.out)
      have k0 : (0 : Int) ≤ (k : Int) := by omega
      have k1 : (k : Int) < (ls : Int) := by omega
      clear ht hsc hks HDD
      rcases HNX.out with ⟨rfl, hr, hix, hjx, he⟩ | ⟨rfl, hr, hix⟩ | ⟨rfl, hr, hjx⟩
      · have HR := Lib.hid hr
        have hia : i < la := by have := HLN.out; omega
        have hjb : j < lb := by have := HLN.out; omega
        obtain ⟨bk, off, hAe, hbk, hI⟩ := (HA.out.below (HB1.out.trans (HBW.out.mono hs1))) (by omega)
        subst hAe
        have d0 := hI i hix
        have HTA := Lib.hid (take_app hjx)
        rw [← he] at HTA
        generalize x[i] = z at d0 HTA
        have i1 : (0 : Int) ≤ (i : Int) := by omega
        have i2 : (i : Int) < (la : Int) := by omega
        have j2 : (j : Int) < (lb : Int) := by omega
        clear hr hI he hix hjx
        go_wp2_with (at_builtin; refine wpList_append_own _ rfl _ _ 22 rfl w1.heap.size 3 i0 _ 1 8 Try.underlying22 hi0 hz0 hz1 hz2 rfl (by decide) _ j (numCells (y.take j)) rfl (HOW.out.alloc _) ⟨_, 0, none⟩ 1 1 [.int .i64 z] rfl rfl (World.news_of_block (alloc_at _ rfl)) (by intro u hu; simp at hu; rcases hu with rfl; rfl) (by simp only [maxLen]; omega) (by omega) (by simp; omega) ?_; intro v' w4 hown4 hg4 _; rw [HTA.out] at hown4; have HO4 := Lib.hid hown4; have HG4 := Lib.hid hg4; clear hown4 hg4)
        have HBW4 : Hid (Below w1.heap.size w1 w4) := Lib.hid ((HBW.out.alloc hsw _).grown HG4.out (by simp; omega) (fun q eq => own_base HOW.out q eq))
        go_roundg (ls - (k + 1))
        case measure => omega
        case rel => exact ⟨i + 1, j + 1, k + 1, by go_num, by go_num, by go_num, by omega, by omega, by omega, Nat.le_refl _, Lib.hid HR.out, HO4.out, HBW4⟩
      · have HR := Lib.hid hr
        have hia : i < la := by have := HLN.out; omega
        have i2 : (i : Int) < (la : Int) := by omega
        clear hr hix
        go_wp2_with fail
        go_roundg (ls - (k + 1))
        case measure => omega
        case rel => exact ⟨i + 1, j, k + 1, by go_num, rfl, by go_num, by omega, by omega, by omega, Nat.le_refl _, Lib.hid HR.out, HOW.out, HBW⟩
      · have HR := Lib.hid hr
        have hjb : j < lb := by have := HLN.out; omega
        obtain ⟨bk, off, hBe, hbk, hI⟩ := (HB.out.below (HB1.out.trans (HBW.out.mono hs1))) (by omega)
        subst hBe
        have d0 := hI j hjx
        have HTA := Lib.hid (take_app hjx)
        generalize y[j] = z at d0 HTA
        have i1 : (0 : Int) ≤ (j : Int) := by omega
        have j2 : (j : Int) < (lb : Int) := by omega
        clear hr hI hjx
        go_wp2_with (at_builtin; refine wpList_append_own _ rfl _ _ 22 rfl w1.heap.size 3 i0 _ 1 8 Try.underlying22 hi0 hz0 hz1 hz2 rfl (by decide) _ j (numCells (y.take j)) rfl (HOW.out.alloc _) ⟨_, 0, none⟩ 1 1 [.int .i64 z] rfl rfl (World.news_of_block (alloc_at _ rfl)) (by intro u hu; simp at hu; rcases hu with rfl; rfl) (by simp only [maxLen]; omega) (by omega) (by simp; omega) ?_; intro v' w4 hown4 hg4 _; rw [HTA.out] at hown4; have HO4 := Lib.hid hown4; have HG4 := Lib.hid hg4; clear hown4 hg4)
        have HBW4 : Hid (Below w1.heap.size w1 w4) := Lib.hid ((HBW.out.alloc hsw _).grown HG4.out (by simp; omega) (fun q eq => own_base HOW.out q eq))
        go_roundg (ls - (k + 1))
        case measure => omega
        case rel => exact ⟨i, j + 1, k + 1, rfl, by go_num, by go_num, by omega, by omega, by omega, Nat.le_refl _, Lib.hid HR.out, HO4.out, HBW4⟩
    · have hke : k = ls := by omega
      have hnl := Wy_nil (HD.out.symm.trans (List.drop_eq_nil_of_le (by have := HLS.out; omega)))
      obtain rfl : i = la := by have := HLN.out; omega
      obtain rfl : j = lb := by have := HLN.out; omega
      have ho := HOW.out
      obtain ⟨VA, vcap, rfl, -, -⟩ := own_form ho
      rw [List.take_of_length_le (by have := HLN.out; omega)] at ho
      have HVI : Hid (IntsIn wr VA y) := Lib.hid (by rw [HLN.out.2] at ho; exact ints_own ho)
      have HBA : Hid (Below w.heap.size w wr) := Lib.hid (HB1.out.trans (HBW.out.mono hs1))
      clear ho hnl hke
      go_wp2_with fail
      with_reducible refine (HL.out.at _).mono ?_
      rintro e w4 ⟨rfl, hb4⟩
      have HB4 := Lib.hid (HBA.out.trans (hb4.mono HBA.out.size))
      have HVI4 := Lib.hid (HVI.out.below hb4)
      clear hb4
      go_wp2_with fail
      with_reducible refine (HRI.out w4 VA vcap HB4.out HVI4.out).mono ?_
      rintro e w5 ⟨rfl, hb5⟩
      go_wp2_with fail
      go_ret
      exact ⟨rfl, HB4.out.trans (hb5.mono HB4.out.size)⟩
end Go.Proofs.Ytmloggjcincnbaa.M
