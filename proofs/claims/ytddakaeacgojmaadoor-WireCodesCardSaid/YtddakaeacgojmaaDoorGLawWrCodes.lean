/-
  The law WireCodes, walked.
-/
import Derived.Test.YtddakaeacgojmaaDoorGwi
namespace Go.Proofs.YtddakaeacgojmaaDoor.Wr
set_option linter.unusedVariables false
set_option linter.unusedSimpArgs false
open Go.RowKit
open T L

/-- The four ways of a number beside another: below its range, above it, the same text, another text. -/
theorem way_cod (a b : Int) : (a < 0 ∧ cod a = []) ∨ (14 < a ∧ cod a = []) ∨ ((0 ≤ a ∧ a ≤ 14) ∧ 0 < (cod a).length ∧ cod a = cod b ∧ a = b) ∨ ((0 ≤ a ∧ a ≤ 14) ∧ 0 < (cod a).length ∧ ¬ cod a = cod b) := by
  by_cases h : 0 ≤ a ∧ a ≤ 14
  · have hne : cod a ≠ [] := (cod_in a).2 h
    have hl : 0 < (cod a).length := List.length_pos_iff.2 hne
    by_cases he : cod a = cod b
    · exact .inr (.inr (.inl ⟨h, hl, he, cod_inj hne he⟩))
    · exact .inr (.inr (.inr ⟨h, hl, he⟩))
  · by_cases h1 : a < 0
    · exact .inl ⟨h1, cod_out a (by omega)⟩
    · exact .inr (.inl ⟨by omega, cod_out a (by omega)⟩)
theorem way_wrd (a b : Int) : (a < 1 ∧ wrd a = []) ∨ (11 < a ∧ wrd a = []) ∨ ((1 ≤ a ∧ a ≤ 11) ∧ 0 < (wrd a).length ∧ wrd a = wrd b ∧ a = b) ∨ ((1 ≤ a ∧ a ≤ 11) ∧ 0 < (wrd a).length ∧ ¬ wrd a = wrd b) := by
  by_cases h : 1 ≤ a ∧ a ≤ 11
  · have hne : wrd a ≠ [] := (wrd_in a).2 h
    have hl : 0 < (wrd a).length := List.length_pos_iff.2 hne
    by_cases he : wrd a = wrd b
    · exact .inr (.inr (.inl ⟨h, hl, he, wrd_inj hne he⟩))
    · exact .inr (.inr (.inr ⟨h, hl, he⟩))
  · have hn : wrd a = [] := Classical.byContradiction fun hh => h ((wrd_in a).1 hh)
    by_cases h1 : a < 1
    · exact .inl ⟨h1, hn⟩
    · exact .inr (.inl ⟨by omega, hn⟩)
set_option maxHeartbeats 16000000 in
set_option maxRecDepth 100000 in
theorem wcodes_law (W : World) (a b v u : Int) (hT : Tab W) (hK : Kt W) :
    Calls Tryd.prog 7 #[.int .i64 a, .int .i64 b, .int .i64 v, .int .i64 u] W fun e w' => e = .returned (.bool true) ∧ Below W.heap.size W w' := by
  obtain ⟨z, hz, hzl⟩ := cat2 (a := ⟨(cod a).toArray⟩) (b := ⟨#[10]⟩) (by have := cod_short a; simp; omega)
  have hzl : z.data.toList = ans a [] := hzl
  have hzs : z.data.toList.length ≤ 13 := by rw [hzl]; have := cod_short a; simp [ans]; omega
  have HA := Lib.hid (code_any a W hK)
  have HB := Lib.hid (code_any b W hK)
  have HV := Lib.hid (word_any v W hK)
  have HU := Lib.hid (fun X (h : Below W.heap.size W X) => word_any u X (hK.later h))
  have HKT := Lib.hid (fun X (h : Below W.heap.size W X) => (⟨hK.later h, Tab.later hT h⟩ : Kt X ∧ Tab X))
  unfold str at HA HB HV HU
  have HR : Hid (rd (ans a []) = if 0 ≤ a ∧ a ≤ 14 then some (a.toNat, []) else none) := Lib.hid (by
    by_cases h : 0 ≤ a ∧ a ≤ 14
    · rw [if_pos h]; exact rd_ans a h []
    · rw [if_neg h]; exact rd_out a (by omega) [])
  rw [← hzl] at HR
  have hwa := way_cod a b
  have hwv := way_wrd v u
  have HZ := Lib.hid hzs
  clear hzl hzs hT hK
  generalize cod a = X at *
  generalize cod b = Y at *
  generalize wrd v = P at *
  generalize wrd u = Q at *
  generalize hzz : z.data.toList = zl at *
  have HZL := Lib.hid hzz
  clear hzz
  go_enter Tryd.func7, Tryd.ntmps7
  go_wp2_with fail
  refine HA.out.mono ?_
  rintro e w1 ⟨rfl, rfl⟩
  go_wp2_with fail
  refine HB.out.mono ?_
  rintro e w1 ⟨rfl, rfl⟩
  go_wp2_with fail
  refine HV.out.mono ?_
  rintro e w2 ⟨rfl, hb2⟩
  go_wp2_with fail
  refine (HU.out _ hb2).mono ?_
  rintro e w3 ⟨rfl, hb3⟩
  have hb23 := hb2.trans (hb3.mono hb2.size)
  obtain ⟨cap, w4, hcv, hb4, hs4, hcap, hby⟩ := conv_str z w3
  have HB4 := Lib.hid (hb23.trans (hb4.mono hb23.size))
  have HRD := Lib.hid (read_any (some ⟨w3.heap.size, 0, none⟩) cap z.data.toList w4 (HKT.out _ HB4.out).1 ⟨by rw [← Lib.size_eq]; exact hcap, .inr ⟨w3.heap.size, 0, rfl, hby, fun _ => hs4⟩⟩ (by rw [HZL.out]; have := HZ.out; omega))
  rw [HZL.out, HR.out, ← HZL.out, ← Lib.size_eq] at HRD
  clear HA HB HV HU hb2 hb3 hb4 hby hcap hb23 hs4
  rcases hwa with ⟨ha, rfl⟩ | ⟨ha, rfl⟩ | ⟨ha, hX, rfl, rfl⟩ | ⟨ha, hX, hXY⟩
  · have a0 : ¬ 0 ≤ a := by omega
    rw [if_neg (by omega)] at HRD
    unfold RsEnd at HRD
    rcases hwv with ⟨hv, rfl⟩ | ⟨hv, rfl⟩ | ⟨hv, hP, rfl, rfl⟩ | ⟨hv, hP, hPQ⟩
    · have v0 : ¬ 1 ≤ v := by omega
      go_wp2_with fail
      refine HRD.out.mono ?_
      rintro e w5 ⟨rfl, hb5⟩
      have HB5 := Lib.hid (HB4.out.trans (hb5.mono HB4.out.size))
      clear hb5 HRD hcv
      have ha6 : Below w5.heap.size w5 (w5.alloc (.cells #[.int .i64 0, .slice none 0 0] 42)) := alloc1 _ _
      have HB6 := Lib.hid (HB5.out.trans (ha6.mono HB5.out.size))
      have HLV := Lib.hid (live21.at (HKT.out _ HB6.out).1 (HKT.out _ HB6.out).2)
      clear ha6
      go_wp2_with fail
      refine HLV.out.mono ?_
      rintro e w7 ⟨rfl, hb7⟩
      have HB7 := Lib.hid (HB6.out.trans (hb7.mono HB6.out.size))
      clear hb7 HLV HB5 HB6
      go_wp2_with fail
      go_ret
      exact ⟨ret_of (by first | rfl | (simp; omega)), HB7.out⟩
    · have v0 : 1 ≤ v := by omega
      have v1 : ¬ v ≤ 11 := by omega
      go_wp2_with fail
      refine HRD.out.mono ?_
      rintro e w5 ⟨rfl, hb5⟩
      have HB5 := Lib.hid (HB4.out.trans (hb5.mono HB4.out.size))
      clear hb5 HRD hcv
      have ha6 : Below w5.heap.size w5 (w5.alloc (.cells #[.int .i64 0, .slice none 0 0] 42)) := alloc1 _ _
      have HB6 := Lib.hid (HB5.out.trans (ha6.mono HB5.out.size))
      have HLV := Lib.hid (live21.at (HKT.out _ HB6.out).1 (HKT.out _ HB6.out).2)
      clear ha6
      go_wp2_with fail
      refine HLV.out.mono ?_
      rintro e w7 ⟨rfl, hb7⟩
      have HB7 := Lib.hid (HB6.out.trans (hb7.mono HB6.out.size))
      clear hb7 HLV HB5 HB6
      go_wp2_with fail
      go_ret
      exact ⟨ret_of (by first | rfl | (simp; omega)), HB7.out⟩
    · have v0 := hv.1
      have v1 := hv.2
      have v2 : (0 : Int) < (P.length : Int) := by omega
      have v3 : (P == P) = true := beq_self_eq_true _
      go_wp2_with fail
      refine HRD.out.mono ?_
      rintro e w5 ⟨rfl, hb5⟩
      have HB5 := Lib.hid (HB4.out.trans (hb5.mono HB4.out.size))
      clear hb5 HRD hcv
      have ha6 : Below w5.heap.size w5 (w5.alloc (.cells #[.int .i64 0, .slice none 0 0] 42)) := alloc1 _ _
      have HB6 := Lib.hid (HB5.out.trans (ha6.mono HB5.out.size))
      have HLV := Lib.hid (live21.at (HKT.out _ HB6.out).1 (HKT.out _ HB6.out).2)
      clear ha6
      go_wp2_with fail
      refine HLV.out.mono ?_
      rintro e w7 ⟨rfl, hb7⟩
      have HB7 := Lib.hid (HB6.out.trans (hb7.mono HB6.out.size))
      clear hb7 HLV HB5 HB6
      go_wp2_with fail
      go_ret
      exact ⟨ret_of (by first | rfl | (simp; omega)), HB7.out⟩
    · have v0 := hv.1
      have v1 := hv.2
      have v2 : (0 : Int) < (P.length : Int) := by omega
      have v3 : (P == Q) = false := beq_eq_false_iff_ne.2 hPQ
      go_wp2_with fail
      refine HRD.out.mono ?_
      rintro e w5 ⟨rfl, hb5⟩
      have HB5 := Lib.hid (HB4.out.trans (hb5.mono HB4.out.size))
      clear hb5 HRD hcv
      have ha6 : Below w5.heap.size w5 (w5.alloc (.cells #[.int .i64 0, .slice none 0 0] 42)) := alloc1 _ _
      have HB6 := Lib.hid (HB5.out.trans (ha6.mono HB5.out.size))
      have HLV := Lib.hid (live21.at (HKT.out _ HB6.out).1 (HKT.out _ HB6.out).2)
      clear ha6
      go_wp2_with fail
      refine HLV.out.mono ?_
      rintro e w7 ⟨rfl, hb7⟩
      have HB7 := Lib.hid (HB6.out.trans (hb7.mono HB6.out.size))
      clear hb7 HLV HB5 HB6
      go_wp2_with fail
      go_ret
      exact ⟨ret_of (by first | rfl | (simp; omega)), HB7.out⟩
  · have a0 : 0 ≤ a := by omega
    have a1 : ¬ a ≤ 14 := by omega
    rw [if_neg (by omega)] at HRD
    unfold RsEnd at HRD
    rcases hwv with ⟨hv, rfl⟩ | ⟨hv, rfl⟩ | ⟨hv, hP, rfl, rfl⟩ | ⟨hv, hP, hPQ⟩
    · have v0 : ¬ 1 ≤ v := by omega
      go_wp2_with fail
      refine HRD.out.mono ?_
      rintro e w5 ⟨rfl, hb5⟩
      have HB5 := Lib.hid (HB4.out.trans (hb5.mono HB4.out.size))
      clear hb5 HRD hcv
      have ha6 : Below w5.heap.size w5 (w5.alloc (.cells #[.int .i64 0, .slice none 0 0] 42)) := alloc1 _ _
      have HB6 := Lib.hid (HB5.out.trans (ha6.mono HB5.out.size))
      have HLV := Lib.hid (live21.at (HKT.out _ HB6.out).1 (HKT.out _ HB6.out).2)
      clear ha6
      go_wp2_with fail
      refine HLV.out.mono ?_
      rintro e w7 ⟨rfl, hb7⟩
      have HB7 := Lib.hid (HB6.out.trans (hb7.mono HB6.out.size))
      clear hb7 HLV HB5 HB6
      go_wp2_with fail
      go_ret
      exact ⟨ret_of (by first | rfl | (simp; omega)), HB7.out⟩
    · have v0 : 1 ≤ v := by omega
      have v1 : ¬ v ≤ 11 := by omega
      go_wp2_with fail
      refine HRD.out.mono ?_
      rintro e w5 ⟨rfl, hb5⟩
      have HB5 := Lib.hid (HB4.out.trans (hb5.mono HB4.out.size))
      clear hb5 HRD hcv
      have ha6 : Below w5.heap.size w5 (w5.alloc (.cells #[.int .i64 0, .slice none 0 0] 42)) := alloc1 _ _
      have HB6 := Lib.hid (HB5.out.trans (ha6.mono HB5.out.size))
      have HLV := Lib.hid (live21.at (HKT.out _ HB6.out).1 (HKT.out _ HB6.out).2)
      clear ha6
      go_wp2_with fail
      refine HLV.out.mono ?_
      rintro e w7 ⟨rfl, hb7⟩
      have HB7 := Lib.hid (HB6.out.trans (hb7.mono HB6.out.size))
      clear hb7 HLV HB5 HB6
      go_wp2_with fail
      go_ret
      exact ⟨ret_of (by first | rfl | (simp; omega)), HB7.out⟩
    · have v0 := hv.1
      have v1 := hv.2
      have v2 : (0 : Int) < (P.length : Int) := by omega
      have v3 : (P == P) = true := beq_self_eq_true _
      go_wp2_with fail
      refine HRD.out.mono ?_
      rintro e w5 ⟨rfl, hb5⟩
      have HB5 := Lib.hid (HB4.out.trans (hb5.mono HB4.out.size))
      clear hb5 HRD hcv
      have ha6 : Below w5.heap.size w5 (w5.alloc (.cells #[.int .i64 0, .slice none 0 0] 42)) := alloc1 _ _
      have HB6 := Lib.hid (HB5.out.trans (ha6.mono HB5.out.size))
      have HLV := Lib.hid (live21.at (HKT.out _ HB6.out).1 (HKT.out _ HB6.out).2)
      clear ha6
      go_wp2_with fail
      refine HLV.out.mono ?_
      rintro e w7 ⟨rfl, hb7⟩
      have HB7 := Lib.hid (HB6.out.trans (hb7.mono HB6.out.size))
      clear hb7 HLV HB5 HB6
      go_wp2_with fail
      go_ret
      exact ⟨ret_of (by first | rfl | (simp; omega)), HB7.out⟩
    · have v0 := hv.1
      have v1 := hv.2
      have v2 : (0 : Int) < (P.length : Int) := by omega
      have v3 : (P == Q) = false := beq_eq_false_iff_ne.2 hPQ
      go_wp2_with fail
      refine HRD.out.mono ?_
      rintro e w5 ⟨rfl, hb5⟩
      have HB5 := Lib.hid (HB4.out.trans (hb5.mono HB4.out.size))
      clear hb5 HRD hcv
      have ha6 : Below w5.heap.size w5 (w5.alloc (.cells #[.int .i64 0, .slice none 0 0] 42)) := alloc1 _ _
      have HB6 := Lib.hid (HB5.out.trans (ha6.mono HB5.out.size))
      have HLV := Lib.hid (live21.at (HKT.out _ HB6.out).1 (HKT.out _ HB6.out).2)
      clear ha6
      go_wp2_with fail
      refine HLV.out.mono ?_
      rintro e w7 ⟨rfl, hb7⟩
      have HB7 := Lib.hid (HB6.out.trans (hb7.mono HB6.out.size))
      clear hb7 HLV HB5 HB6
      go_wp2_with fail
      go_ret
      exact ⟨ret_of (by first | rfl | (simp; omega)), HB7.out⟩
  · have a0 := ha.1
    have a1 := ha.2
    have a2 : (0 : Int) < (X.length : Int) := by omega
    have a3 : (X == X) = true := beq_self_eq_true _
    rw [if_pos ha] at HRD
    unfold RsEnd at HRD
    simp only [Int.toNat_of_nonneg ha.1, List.length_nil] at HRD
    rcases hwv with ⟨hv, rfl⟩ | ⟨hv, rfl⟩ | ⟨hv, hP, rfl, rfl⟩ | ⟨hv, hP, hPQ⟩
    · have v0 : ¬ 1 ≤ v := by omega
      go_wp2_with fail
      refine HRD.out.mono ?_
      rintro e w5 ⟨⟨A5, c5, rfl, -⟩, hb5⟩
      have HB5 := Lib.hid (HB4.out.trans (hb5.mono HB4.out.size))
      clear hb5 HRD hcv
      have ha6 : Below w5.heap.size w5 (w5.alloc (.cells #[.int .i64 a, .slice A5 0 c5] 42)) := alloc1 _ _
      have HB6 := Lib.hid (HB5.out.trans (ha6.mono HB5.out.size))
      have HLV := Lib.hid (live21.at (HKT.out _ HB6.out).1 (HKT.out _ HB6.out).2)
      clear ha6
      go_wp2_with fail
      refine HLV.out.mono ?_
      rintro e w7 ⟨rfl, hb7⟩
      have HB7 := Lib.hid (HB6.out.trans (hb7.mono HB6.out.size))
      clear hb7 HLV HB5 HB6
      go_wp2_with fail
      go_ret
      exact ⟨ret_of (by first | rfl | (simp; omega)), HB7.out⟩
    · have v0 : 1 ≤ v := by omega
      have v1 : ¬ v ≤ 11 := by omega
      go_wp2_with fail
      refine HRD.out.mono ?_
      rintro e w5 ⟨⟨A5, c5, rfl, -⟩, hb5⟩
      have HB5 := Lib.hid (HB4.out.trans (hb5.mono HB4.out.size))
      clear hb5 HRD hcv
      have ha6 : Below w5.heap.size w5 (w5.alloc (.cells #[.int .i64 a, .slice A5 0 c5] 42)) := alloc1 _ _
      have HB6 := Lib.hid (HB5.out.trans (ha6.mono HB5.out.size))
      have HLV := Lib.hid (live21.at (HKT.out _ HB6.out).1 (HKT.out _ HB6.out).2)
      clear ha6
      go_wp2_with fail
      refine HLV.out.mono ?_
      rintro e w7 ⟨rfl, hb7⟩
      have HB7 := Lib.hid (HB6.out.trans (hb7.mono HB6.out.size))
      clear hb7 HLV HB5 HB6
      go_wp2_with fail
      go_ret
      exact ⟨ret_of (by first | rfl | (simp; omega)), HB7.out⟩
    · have v0 := hv.1
      have v1 := hv.2
      have v2 : (0 : Int) < (P.length : Int) := by omega
      have v3 : (P == P) = true := beq_self_eq_true _
      go_wp2_with fail
      refine HRD.out.mono ?_
      rintro e w5 ⟨⟨A5, c5, rfl, -⟩, hb5⟩
      have HB5 := Lib.hid (HB4.out.trans (hb5.mono HB4.out.size))
      clear hb5 HRD hcv
      have ha6 : Below w5.heap.size w5 (w5.alloc (.cells #[.int .i64 a, .slice A5 0 c5] 42)) := alloc1 _ _
      have HB6 := Lib.hid (HB5.out.trans (ha6.mono HB5.out.size))
      have HLV := Lib.hid (live21.at (HKT.out _ HB6.out).1 (HKT.out _ HB6.out).2)
      clear ha6
      go_wp2_with fail
      refine HLV.out.mono ?_
      rintro e w7 ⟨rfl, hb7⟩
      have HB7 := Lib.hid (HB6.out.trans (hb7.mono HB6.out.size))
      clear hb7 HLV HB5 HB6
      go_wp2_with fail
      go_ret
      exact ⟨ret_of (by first | rfl | (simp; omega)), HB7.out⟩
    · have v0 := hv.1
      have v1 := hv.2
      have v2 : (0 : Int) < (P.length : Int) := by omega
      have v3 : (P == Q) = false := beq_eq_false_iff_ne.2 hPQ
      go_wp2_with fail
      refine HRD.out.mono ?_
      rintro e w5 ⟨⟨A5, c5, rfl, -⟩, hb5⟩
      have HB5 := Lib.hid (HB4.out.trans (hb5.mono HB4.out.size))
      clear hb5 HRD hcv
      have ha6 : Below w5.heap.size w5 (w5.alloc (.cells #[.int .i64 a, .slice A5 0 c5] 42)) := alloc1 _ _
      have HB6 := Lib.hid (HB5.out.trans (ha6.mono HB5.out.size))
      have HLV := Lib.hid (live21.at (HKT.out _ HB6.out).1 (HKT.out _ HB6.out).2)
      clear ha6
      go_wp2_with fail
      refine HLV.out.mono ?_
      rintro e w7 ⟨rfl, hb7⟩
      have HB7 := Lib.hid (HB6.out.trans (hb7.mono HB6.out.size))
      clear hb7 HLV HB5 HB6
      go_wp2_with fail
      go_ret
      exact ⟨ret_of (by first | rfl | (simp; omega)), HB7.out⟩
  · have a0 := ha.1
    have a1 := ha.2
    have a2 : (0 : Int) < (X.length : Int) := by omega
    have a3 : (X == Y) = false := beq_eq_false_iff_ne.2 hXY
    rw [if_pos ha] at HRD
    unfold RsEnd at HRD
    simp only [Int.toNat_of_nonneg ha.1, List.length_nil] at HRD
    rcases hwv with ⟨hv, rfl⟩ | ⟨hv, rfl⟩ | ⟨hv, hP, rfl, rfl⟩ | ⟨hv, hP, hPQ⟩
    · have v0 : ¬ 1 ≤ v := by omega
      go_wp2_with fail
      refine HRD.out.mono ?_
      rintro e w5 ⟨⟨A5, c5, rfl, -⟩, hb5⟩
      have HB5 := Lib.hid (HB4.out.trans (hb5.mono HB4.out.size))
      clear hb5 HRD hcv
      have ha6 : Below w5.heap.size w5 (w5.alloc (.cells #[.int .i64 a, .slice A5 0 c5] 42)) := alloc1 _ _
      have HB6 := Lib.hid (HB5.out.trans (ha6.mono HB5.out.size))
      have HLV := Lib.hid (live21.at (HKT.out _ HB6.out).1 (HKT.out _ HB6.out).2)
      clear ha6
      go_wp2_with fail
      refine HLV.out.mono ?_
      rintro e w7 ⟨rfl, hb7⟩
      have HB7 := Lib.hid (HB6.out.trans (hb7.mono HB6.out.size))
      clear hb7 HLV HB5 HB6
      go_wp2_with fail
      go_ret
      exact ⟨ret_of (by first | rfl | (simp; omega)), HB7.out⟩
    · have v0 : 1 ≤ v := by omega
      have v1 : ¬ v ≤ 11 := by omega
      go_wp2_with fail
      refine HRD.out.mono ?_
      rintro e w5 ⟨⟨A5, c5, rfl, -⟩, hb5⟩
      have HB5 := Lib.hid (HB4.out.trans (hb5.mono HB4.out.size))
      clear hb5 HRD hcv
      have ha6 : Below w5.heap.size w5 (w5.alloc (.cells #[.int .i64 a, .slice A5 0 c5] 42)) := alloc1 _ _
      have HB6 := Lib.hid (HB5.out.trans (ha6.mono HB5.out.size))
      have HLV := Lib.hid (live21.at (HKT.out _ HB6.out).1 (HKT.out _ HB6.out).2)
      clear ha6
      go_wp2_with fail
      refine HLV.out.mono ?_
      rintro e w7 ⟨rfl, hb7⟩
      have HB7 := Lib.hid (HB6.out.trans (hb7.mono HB6.out.size))
      clear hb7 HLV HB5 HB6
      go_wp2_with fail
      go_ret
      exact ⟨ret_of (by first | rfl | (simp; omega)), HB7.out⟩
    · have v0 := hv.1
      have v1 := hv.2
      have v2 : (0 : Int) < (P.length : Int) := by omega
      have v3 : (P == P) = true := beq_self_eq_true _
      go_wp2_with fail
      refine HRD.out.mono ?_
      rintro e w5 ⟨⟨A5, c5, rfl, -⟩, hb5⟩
      have HB5 := Lib.hid (HB4.out.trans (hb5.mono HB4.out.size))
      clear hb5 HRD hcv
      have ha6 : Below w5.heap.size w5 (w5.alloc (.cells #[.int .i64 a, .slice A5 0 c5] 42)) := alloc1 _ _
      have HB6 := Lib.hid (HB5.out.trans (ha6.mono HB5.out.size))
      have HLV := Lib.hid (live21.at (HKT.out _ HB6.out).1 (HKT.out _ HB6.out).2)
      clear ha6
      go_wp2_with fail
      refine HLV.out.mono ?_
      rintro e w7 ⟨rfl, hb7⟩
      have HB7 := Lib.hid (HB6.out.trans (hb7.mono HB6.out.size))
      clear hb7 HLV HB5 HB6
      go_wp2_with fail
      go_ret
      exact ⟨ret_of (by first | rfl | (simp; omega)), HB7.out⟩
    · have v0 := hv.1
      have v1 := hv.2
      have v2 : (0 : Int) < (P.length : Int) := by omega
      have v3 : (P == Q) = false := beq_eq_false_iff_ne.2 hPQ
      go_wp2_with fail
      refine HRD.out.mono ?_
      rintro e w5 ⟨⟨A5, c5, rfl, -⟩, hb5⟩
      have HB5 := Lib.hid (HB4.out.trans (hb5.mono HB4.out.size))
      clear hb5 HRD hcv
      have ha6 : Below w5.heap.size w5 (w5.alloc (.cells #[.int .i64 a, .slice A5 0 c5] 42)) := alloc1 _ _
      have HB6 := Lib.hid (HB5.out.trans (ha6.mono HB5.out.size))
      have HLV := Lib.hid (live21.at (HKT.out _ HB6.out).1 (HKT.out _ HB6.out).2)
      clear ha6
      go_wp2_with fail
      refine HLV.out.mono ?_
      rintro e w7 ⟨rfl, hb7⟩
      have HB7 := Lib.hid (HB6.out.trans (hb7.mono HB6.out.size))
      clear hb7 HLV HB5 HB6
      go_wp2_with fail
      go_ret
      exact ⟨ret_of (by first | rfl | (simp; omega)), HB7.out⟩
end Go.Proofs.YtddakaeacgojmaaDoor.Wr
