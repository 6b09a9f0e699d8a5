/-
  The law ChunkTiles.
-/
import Derived.Test.YtcnnbchaelboeaaGLawCOf
import Derived.BigQuiet
namespace Go.Proofs.Ytcnnbchaelboeaa.Ck
set_option linter.unusedVariables false
set_option linter.unusedSimpArgs false
open Go.RowKit
open T
open Mt (Pr fnd Rt right right_iff)
open N (PrIn PrIn.below)
open V (drawn_below)
open I (alloc1)

/-- What the law asks of chunks: right, no two of one kind side by side, in a stable one lines are matched one by one. -/
structure Tile (p q : List Pr) (o a b : Int) (l : List Ck) : Prop where
  cr : cright l o a b = true
  alt : ∀ i (hi : i + 1 < l.length), l[i + 1].st ≠ l[i].st
  mem : ∀ i (hi : i < l.length), l[i].st = true → ∀ k : Nat, (k : Int) < l[i].on → fnd p (l[i].o + k) = some (l[i].a + k) ∧ fnd q (l[i].o + k) = some (l[i].b + k)
theorem tile_of {p q : List Pr} {o a b : Int} (h : can p q o a b) : Tile p q o a b (chunks p q o a b) := by
  have hp := right_iff.1 h.2.1
  have hq := right_iff.1 h.2.2
  have hl : Le3 (0, 0, 0) (o, a, b) := ⟨h.1.1.1, h.1.2.1.1, h.1.2.2.1⟩
  have e : chunks p q o a b = walk p q (o, a, b) (0, 0, 0) := if_pos h
  rw [e]
  exact ⟨walk_right (e := (o, a, b)) hp hq hl, alt_at (walk_alt (e := (o, a, b)) hp hq hl), fun i hi => walk_in_ (e := (o, a, b)) hp hq hl _ (List.getElem_mem hi)⟩

theorem tile_in {p q : List Pr} {o a b : Int} {l : List Ck} (h : Tile p q o a b l) (hr : (o ≤ 400 ∧ Rt p o a) ∧ Rt q o b) {k : Nat} (hlt : k < l.length) {x0 : Bool} {x1 x2 x3 x4 x5 x6 : Int} (hx : l[k]'hlt = ⟨x0, x1, x2, x3, x4, x5, x6⟩) (hs : x0 = true) :
    ∀ j : Nat, (j : Int) < x2 → fnd p (x1 + j) = some (x3 + j) ∧ fnd q (x1 + j) = some (x5 + j) ∧ (0 ≤ x1 ∧ x1 + j < 400) ∧ (0 ≤ x3 + j ∧ x3 + j < a) ∧ 0 ≤ x5 + j ∧ x5 + j < b := by
  intro j hj
  have hm := h.mem k hlt (by rw [hx]; exact hs)
  rw [hx] at hm
  simp only at hm
  have e0 := hm 0 (by omega)
  obtain ⟨e1, e2⟩ := hm j hj
  have m0 := hr.1.2.all _ (Mt.fnd_mem e0.1)
  have m1 := hr.1.2.all _ (Mt.fnd_mem e1)
  have m2 := hr.2.all _ (Mt.fnd_mem e2)
  simp only at m0 m1 m2
  exact ⟨e1, e2, ⟨by omega, by omega⟩, ⟨by omega, by omega⟩, by omega, by omega⟩
theorem ct_cells {w4 wi : World} {b1 o1 : Nat} {l : List Ck} (h : b1 < w4.heap.size ∧ ∀ (j : Nat) (hj : j < l.length), w4.cell? ⟨b1, o1 + j * 7, none⟩ = some (.bool l[j].st) ∧ w4.cell? ⟨b1, o1 + j * 7 + 1, none⟩ = some (.int .i64 l[j].o) ∧ w4.cell? ⟨b1, o1 + j * 7 + 2, none⟩ = some (.int .i64 l[j].on) ∧ w4.cell? ⟨b1, o1 + j * 7 + 3, none⟩ = some (.int .i64 l[j].a) ∧ w4.cell? ⟨b1, o1 + j * 7 + 4, none⟩ = some (.int .i64 l[j].an) ∧ w4.cell? ⟨b1, o1 + j * 7 + 5, none⟩ = some (.int .i64 l[j].b) ∧ w4.cell? ⟨b1, o1 + j * 7 + 6, none⟩ = some (.int .i64 l[j].bn))
    {k : Nat} (hlt : k < l.length) {x0 : Bool} {x1 x2 x3 x4 x5 x6 : Int} (hx : l[k]'hlt = ⟨x0, x1, x2, x3, x4, x5, x6⟩) (hi : Below w4.heap.size w4 wi) :
    wi.cell? ⟨b1, o1 + k * 7, none⟩ = some (.bool x0) ∧ wi.cell? ⟨b1, o1 + k * 7 + 1, none⟩ = some (.int .i64 x1) ∧ wi.cell? ⟨b1, o1 + k * 7 + 2, none⟩ = some (.int .i64 x2) ∧ wi.cell? ⟨b1, o1 + k * 7 + 3, none⟩ = some (.int .i64 x3) ∧ wi.cell? ⟨b1, o1 + k * 7 + 5, none⟩ = some (.int .i64 x5) := by
  obtain ⟨h0, h1, h2, h3, -, h5, -⟩ := h.2 k hlt
  rw [hx] at h0 h1 h2 h3 h5
  exact ⟨(hi.cell (p := ⟨b1, _, none⟩) h.1).trans h0, (hi.cell (p := ⟨b1, _, none⟩) h.1).trans h1, (hi.cell (p := ⟨b1, _, none⟩) h.1).trans h2, (hi.cell (p := ⟨b1, _, none⟩) h.1).trans h3, (hi.cell (p := ⟨b1, _, none⟩) h.1).trans h5⟩

set_option maxRecDepth 100000 in
set_option maxHeartbeats 4000000 in
theorem ctiles_walk {A B : Option Addr} {c0 c1 n0 n1 : Nat} {p q : List Pr} {o a b : Int} {l : List Ck} (w : World)
    (HF0 : Hid (∀ W, Calls Try.prog 9 #[.slice A n0 c0] W fun e w' => e = .returned (.slice A p.length c0) ∧ w' = W)) (HF1 : Hid (∀ W, Calls Try.prog 9 #[.slice B n1 c1] W fun e w' => e = .returned (.slice B q.length c1) ∧ w' = W))
    (hP : PrIn w A p) (hQ : PrIn w B q) (hp : p.length ≤ 40) (hq : q.length ≤ 40) (hl : l.length ≤ 1200) (HO : Hid (OfC 10 p q o a b l 0)) (HT : Hid (Tile p q o a b l)) (HRT : Hid ((o ≤ 400 ∧ Rt p o a) ∧ Rt q o b)) (HWF : Hid (W64 o ∧ W64 a ∧ W64 b)) :
    Calls Try.prog 5 #[.slice A n0 c0, .slice B n1 c1, .int .i64 o, .int .i64 a, .int .i64 b] w fun e w' => e = .returned (.bool true) ∧ Below w.heap.size w w' := by
  have HP := Lib.hid hP
  have HQ := Lib.hid hQ
  have HRG := Lib.hid (c_right l o a b (by unfold maxLen; omega) HWF.out.1 HWF.out.2.1 HWF.out.2.2)
  have HRR := Lib.hid (c_rright l o a b (by unfold maxLen; omega) HWF.out.1 HWF.out.2.1 HWF.out.2.2)
  rw [HT.out.cr] at HRG HRR
  clear hP hQ
  go_enter Try.func5, Try.ntmps5
  go_wp2_with fail
  with_reducible refine (HF0.out _).mono ?_
  rintro e w1 ⟨rfl, rfl⟩
  go_wp2_with fail
  with_reducible refine (HF1.out _).mono ?_
  rintro e w1 ⟨rfl, rfl⟩
  have HB1 := Lib.hid (Below.refl w1.heap.size w1)
  clear HF0 HF1
  go_wp2_with fail
  with_reducible refine (HO.out.at c0 c1 HP.out HQ.out).mono ?_
  rintro e w2 ⟨C1, k1, rfl, h1, hb2⟩
  have HB2 := Lib.hid (HB1.out.trans (hb2.mono HB1.out.size))
  replace HP := Lib.hid (HP.out.below hb2)
  replace HQ := Lib.hid (HQ.out.below hb2)
  have H1 := Lib.hid h1
  clear hb2 HB1 h1 HO
  go_wp2_with fail
  with_reducible refine (HRG.out.at k1 H1.out).mono ?_
  rintro e w3 ⟨rfl, hb3⟩
  have HB3 := Lib.hid (HB2.out.trans (hb3.mono HB2.out.size))
  replace H1 := Lib.hid (H1.out.below hb3)
  replace HP := Lib.hid (HP.out.below hb3)
  replace HQ := Lib.hid (HQ.out.below hb3)
  clear hb3 HB2 HRG
  go_wp2_with fail
  with_reducible refine (HRR.out.at k1 H1.out).mono ?_
  rintro e w4 ⟨rfl, hb4⟩
  have HB4 := Lib.hid (HB3.out.trans (hb4.mono HB3.out.size))
  replace H1 := Lib.hid (H1.out.below hb4)
  replace HP := Lib.hid (HP.out.below hb4)
  replace HQ := Lib.hid (HQ.out.below hb4)
  clear hb4 HB3 HRR
  go_wp2_with fail
  go_loopg [10, 13] l.length (fun mm x10 x13 wr => ∃ k : Nat, k ≤ l.length ∧ x10 = .bool false ∧ x13 = .int .i64 (k : Int) ∧ l.length - k ≤ mm ∧ Below w4.heap.size w4 wr)
  case atStart => exact ⟨0, Nat.zero_le _, rfl, rfl, by omega, Below.refl _ _⟩
  case round =>
    obtain ⟨k, hk, rfl, rfl, hm, hbr⟩ := hrel
    by_cases hlt : k < l.length
    · obtain ⟨b1, o1, hAe, hb1, hI1⟩ := H1.out (by omega)
      have HIX := Lib.hid (And.intro hb1 hI1)
      obtain ⟨d0, -⟩ := hI1 k hlt
      have c0' := (hbr.cell (p := ⟨b1, o1 + k * 7, none⟩) hb1).trans d0
      have h0k : (0 : Int) ≤ (k : Int) := by omega
      have hki : (k : Int) < (l.length : Int) := by omega
      have HKL := Lib.hid (And.intro hk hlt)
      subst hAe
      -- no two of one kind side by side
      obtain ⟨x0, x1, x2, x3, x4, x5, x6, hx⟩ : ∃ x0 x1 x2 x3 x4 x5 x6, l[k]'hlt = ⟨x0, x1, x2, x3, x4, x5, x6⟩ := ⟨_, _, _, _, _, _, _, rfl⟩
      rw [hx] at c0'
      have HBR := Lib.hid hbr
      clear d0 hI1 hb1 hbr
      rcases Nat.eq_zero_or_pos k with hk0 | hkp
      · have hg0 : ¬ (0 : Int) < (k : Int) := by omega
        have hg1 : decide (0 < k) = false := decide_eq_false (by omega)
        have HK0 := Lib.hid hk0
        clear hk0
        go_wp2_with fail
        go_quiet (fail)
        go_wp2_with fail
        have HC := Lib.hid (fun (wi : World) (hi : Below w4.heap.size w4 wi) => ct_cells HIX.out hlt hx hi)
        have HM := Lib.hid (fun hs => tile_in HT.out HRT.out hlt hx hs)
        have HBI := Lib.hid (HBR.out.trans ((drawn_below wr nq).mono HBR.out.size))
        clear c0'
        go_loopg [10, 14] (x2.toNat) (fun mm x10 x14 wi => ∃ j : Nat, x10 = .bool false ∧ x14 = .int .i64 (j : Int) ∧ x2.toNat - j ≤ mm ∧ Below w4.heap.size w4 wi)
        case atStart => exact ⟨0, rfl, rfl, by omega, HBI.out⟩
        case round =>
          obtain ⟨j, rfl, rfl, hmj, hbi⟩ := hrel
          obtain ⟨g0, g1, g2, g3, g5⟩ := HC.out _ hbi
          by_cases hgo : x0 = true ∧ (j : Int) < x2
          · obtain ⟨rfl, hj2⟩ := hgo
            obtain ⟨i0, i1, i2, i3, i4⟩ := HM.out rfl j hj2
            have hTA := rto_at A c0 p (x1 + j) _ (HP.out.below hbi) (Nat.le_trans hp (by decide))
            have hTB := rto_at B c1 q (x1 + j) _ (HQ.out.below hbi) (Nat.le_trans hq (by decide))
            rw [i0] at hTA
            rw [i1] at hTB
            have hv1 : IntKind.i64.wrap (x1 + j) = x1 + j := by rw [IntKind.wrap_i64]; have hwf := HWF.out; unfold W64 at hwf; omega
            have hv3 : IntKind.i64.wrap (x3 + j) = x3 + j := by rw [IntKind.wrap_i64]; have hwf := HWF.out; unfold W64 at hwf; omega
            have hv5 : IntKind.i64.wrap (x5 + j) = x5 + j := by rw [IntKind.wrap_i64]; have hwf := HWF.out; unfold W64 at hwf; omega
            have hvj : IntKind.i64.wrap ((j : Int) + 1) = ((j + 1 : Nat) : Int) := by rw [IntKind.wrap_i64]; have hwf := HWF.out; unfold W64 at hwf; omega
            have hq3 : (x3 + (j : Int) != x3 + (j : Int)) = false := by simp
            have hq5 : (x5 + (j : Int) != x5 + (j : Int)) = false := by simp
            simp only [Option.getD_some, Option.isSome_some] at hTA hTB
            have HTA := Lib.hid hTA
            have HTB := Lib.hid hTB
            have HBJ := Lib.hid hbi
            clear hTA hTB hbi i0 i1 i2 i3 i4
            go_wp2_with fail
            with_reducible refine (HTA.out).mono ?_
            rintro e wy ⟨rfl, rfl⟩
            go_wp2_with fail
            with_reducible refine (HTB.out).mono ?_
            rintro e wy ⟨rfl, rfl⟩
            go_wp2_with fail
            go_roundg (x2.toNat - (j + 1))
            case rel => exact ⟨j + 1, rfl, by go_num, Nat.le_refl _, HBJ.out⟩
            case measure => omega
          · have HBJ := Lib.hid hbi
            clear hbi
            rcases Bool.eq_false_or_eq_true x0 with hx0 | hx0
            · subst hx0
              have hj2 : ¬ (j : Int) < x2 := fun h => hgo ⟨rfl, h⟩
              clear hgo
              go_wp2_with fail
              go_roundg (l.length - (k + 1))
              case rel => exact ⟨k + 1, HKL.out.2, rfl, by go_num, Nat.le_refl _, HBJ.out⟩
              case measure => omega
            · subst hx0
              clear hgo
              go_wp2_with fail
              go_roundg (l.length - (k + 1))
              case rel => exact ⟨k + 1, HKL.out.2, rfl, by go_num, Nat.le_refl _, HBJ.out⟩
              case measure => omega
      · have hg0 : (0 : Int) < (k : Int) := by omega
        have hg1 : decide (0 < k) = true := decide_eq_true hkp
        obtain ⟨j, hj⟩ : ∃ j, k = j + 1 := ⟨k - 1, by omega⟩
        have hwj : IntKind.i64.wrap ((k : Int) - 1) = (j : Int) := by rw [IntKind.wrap_i64]; omega
        have hj0 : (0 : Int) ≤ (j : Int) := by omega
        have hj1 : (j : Int) < (l.length : Int) := by omega
        have hjl : j < l.length := by omega
        have e0 := (HBR.out.cell (p := ⟨b1, o1 + j * 7, none⟩) HIX.out.1).trans (HIX.out.2 j hjl).1
        obtain ⟨sj, hsj⟩ : ∃ s : Bool, (l[j]'hjl).st = s := ⟨_, rfl⟩
        rw [hsj] at e0
        have hss : (x0 == sj) = false := beq_eq_false_iff_ne.2 (by
          have := HT.out.alt j (by omega)
          rw [hsj] at this
          subst hj
          rw [hx] at this
          exact this)
        have HJ := Lib.hid hj
        clear hj hsj
        go_wp2_with fail
        go_quiet (fail)
        go_wp2_with fail
        have HC := Lib.hid (fun (wi : World) (hi : Below w4.heap.size w4 wi) => ct_cells HIX.out hlt hx hi)
        have HM := Lib.hid (fun hs => tile_in HT.out HRT.out hlt hx hs)
        have HBI := Lib.hid (HBR.out.trans ((drawn_below wr nq).mono HBR.out.size))
        clear c0'
        go_loopg [10, 14] (x2.toNat) (fun mm x10 x14 wi => ∃ j : Nat, x10 = .bool false ∧ x14 = .int .i64 (j : Int) ∧ x2.toNat - j ≤ mm ∧ Below w4.heap.size w4 wi)
        case atStart => exact ⟨0, rfl, rfl, by omega, HBI.out⟩
        case round =>
          obtain ⟨j, rfl, rfl, hmj, hbi⟩ := hrel
          obtain ⟨g0, g1, g2, g3, g5⟩ := HC.out _ hbi
          by_cases hgo : x0 = true ∧ (j : Int) < x2
          · obtain ⟨rfl, hj2⟩ := hgo
            obtain ⟨i0, i1, i2, i3, i4⟩ := HM.out rfl j hj2
            have hTA := rto_at A c0 p (x1 + j) _ (HP.out.below hbi) (Nat.le_trans hp (by decide))
            have hTB := rto_at B c1 q (x1 + j) _ (HQ.out.below hbi) (Nat.le_trans hq (by decide))
            rw [i0] at hTA
            rw [i1] at hTB
            have hv1 : IntKind.i64.wrap (x1 + j) = x1 + j := by rw [IntKind.wrap_i64]; have hwf := HWF.out; unfold W64 at hwf; omega
            have hv3 : IntKind.i64.wrap (x3 + j) = x3 + j := by rw [IntKind.wrap_i64]; have hwf := HWF.out; unfold W64 at hwf; omega
            have hv5 : IntKind.i64.wrap (x5 + j) = x5 + j := by rw [IntKind.wrap_i64]; have hwf := HWF.out; unfold W64 at hwf; omega
            have hvj : IntKind.i64.wrap ((j : Int) + 1) = ((j + 1 : Nat) : Int) := by rw [IntKind.wrap_i64]; have hwf := HWF.out; unfold W64 at hwf; omega
            have hq3 : (x3 + (j : Int) != x3 + (j : Int)) = false := by simp
            have hq5 : (x5 + (j : Int) != x5 + (j : Int)) = false := by simp
            simp only [Option.getD_some, Option.isSome_some] at hTA hTB
            have HTA := Lib.hid hTA
            have HTB := Lib.hid hTB
            have HBJ := Lib.hid hbi
            clear hTA hTB hbi i0 i1 i2 i3 i4
            go_wp2_with fail
            with_reducible refine (HTA.out).mono ?_
            rintro e wy ⟨rfl, rfl⟩
            go_wp2_with fail
            with_reducible refine (HTB.out).mono ?_
            rintro e wy ⟨rfl, rfl⟩
            go_wp2_with fail
            go_roundg (x2.toNat - (j + 1))
            case rel => exact ⟨j + 1, rfl, by go_num, Nat.le_refl _, HBJ.out⟩
            case measure => omega
          · have HBJ := Lib.hid hbi
            clear hbi
            rcases Bool.eq_false_or_eq_true x0 with hx0 | hx0
            · subst hx0
              have hj2 : ¬ (j : Int) < x2 := fun h => hgo ⟨rfl, h⟩
              clear hgo
              go_wp2_with fail
              go_roundg (l.length - (k + 1))
              case rel => exact ⟨k + 1, HKL.out.2, rfl, by go_num, Nat.le_refl _, HBJ.out⟩
              case measure => omega
            · subst hx0
              clear hgo
              go_wp2_with fail
              go_roundg (l.length - (k + 1))
              case rel => exact ⟨k + 1, HKL.out.2, rfl, by go_num, Nat.le_refl _, HBJ.out⟩
              case measure => omega
    · obtain rfl : k = l.length := by omega
      have HBR := Lib.hid (HB4.out.trans (hbr.mono HB4.out.size))
      clear hbr
      go_wp2_with fail
      with_reducible refine (live13.at wr).mono ?_
      rintro e w5 ⟨rfl, hb5⟩
      have HB5 := Lib.hid (HBR.out.trans (hb5.mono HBR.out.size))
      go_wp2_with fail
      go_ret
      exact ⟨rfl, HB5.out⟩
set_option maxRecDepth 100000 in
set_option maxHeartbeats 4000000 in
theorem ctiles_bad {A B : Option Addr} {c0 c1 n0 n1 : Nat} {p q : List Pr} {o a b : Int} (w : World)
    (HF0 : Hid (∀ W, Calls Try.prog 9 #[.slice A n0 c0] W fun e w' => e = .returned (.slice A p.length c0) ∧ w' = W)) (HF1 : Hid (∀ W, Calls Try.prog 9 #[.slice B n1 c1] W fun e w' => e = .returned (.slice B q.length c1) ∧ w' = W))
    (hP : PrIn w A p) (hQ : PrIn w B q) (HO : Hid (OfC 10 p q o a b [] 2)) :
    Calls Try.prog 5 #[.slice A n0 c0, .slice B n1 c1, .int .i64 o, .int .i64 a, .int .i64 b] w fun e w' => e = .returned (.bool true) ∧ Below w.heap.size w w' := by
  have HP := Lib.hid hP
  have HQ := Lib.hid hQ
  clear hP hQ
  go_enter Try.func5, Try.ntmps5
  go_wp2_with fail
  with_reducible refine (HF0.out _).mono ?_
  rintro e w1 ⟨rfl, rfl⟩
  go_wp2_with fail
  with_reducible refine (HF1.out _).mono ?_
  rintro e w1 ⟨rfl, rfl⟩
  have HB1 := Lib.hid (Below.refl w1.heap.size w1)
  clear HF0 HF1
  go_wp2_with fail
  with_reducible refine (HO.out.at c0 c1 HP.out HQ.out).mono ?_
  rintro e w2 ⟨C1, k1, rfl, h1, hb2⟩
  have HB2 := Lib.hid (HB1.out.trans (hb2.mono HB1.out.size))
  clear hb2 HB1 h1 HO HP HQ
  simp only [List.length_nil]
  go_wp2_with fail
  with_reducible refine (live13.at w2).mono ?_
  rintro e w3 ⟨rfl, hb3⟩
  have HB3 := Lib.hid (HB2.out.trans (hb3.mono HB2.out.size))
  go_wp2_with fail
  go_ret
  exact ⟨rfl, HB3.out⟩
theorem ctiles_law {A B : Option Addr} {c0 c1 : Nat} {p q : List Pr} {o a b : Int} {w : World} (hP : PrIn w A p) (hQ : PrIn w B q) (hp : p.length ≤ maxLen) (hq : q.length ≤ maxLen) (h0 : p.length ≤ c0) (h1 : q.length ≤ c1) :
    Calls Try.prog 5 #[.slice A p.length c0, .slice B q.length c1, .int .i64 o, .int .i64 a, .int .i64 b] w fun e w' => e = .returned (.bool true) ∧ Below w.heap.size w w' := by
  have l1 := len40 p
  have l2 := len40 q
  have ho := c_of (p.take 40) (q.take 40) o a b (by omega) (by omega)
  by_cases hc : can (p.take 40) (q.take 40) o a b
  · have hc2 := hc
    obtain ⟨⟨⟨hb1, hb2⟩, ⟨hb3, hb4⟩, hb5, hb6⟩, hr1, hr2⟩ := hc2
    have e : err (p.take 40) (q.take 40) o a b = 0 := if_pos hc
    rw [e] at ho
    refine ctiles_walk w (Lib.hid fun W => few_any A p c0 W hp h0) (Lib.hid fun W => few_any B q c1 W hq h1) (pr_take hP 40) (pr_take hQ 40) l1 l2 (chunks_len _ _ _ _ _) (Lib.hid ho) (Lib.hid (tile_of hc)) (Lib.hid ⟨⟨hb2, right_iff.1 hr1⟩, right_iff.1 hr2⟩) (Lib.hid ⟨?_, ?_, ?_⟩)
    all_goals (unfold W64; omega)
  · have e1 : chunks (p.take 40) (q.take 40) o a b = [] := if_neg hc
    have e2 : err (p.take 40) (q.take 40) o a b = 2 := if_neg hc
    rw [e1, e2] at ho
    exact ctiles_bad w (Lib.hid fun W => few_any A p c0 W hp h0) (Lib.hid fun W => few_any B q c1 W hq h1) (pr_take hP 40) (pr_take hQ 40) (Lib.hid ho)
end Go.Proofs.Ytcnnbchaelboeaa.Ck
