/-
  The law RemapBack.
-/
import Derived.Test.YtlkfmaeillnhhaaGid
import Derived.BigQuiet
import Derived.Deep.RegionHeld3
import Derived.Deep.AppendLies
import Derived.Test.YtlkfmaeillnhhaaGib
namespace Go.Proofs.Ytlkfmaeillnhhaa.Rm
set_option linter.unusedVariables false
set_option linter.unusedSimpArgs false
open Go.RowKit
open T
open I (Lb alloc1 own_at own_below)
open V (grown_of drawn_below IntsIn numCells numCells_snoc ints_own BlC RbC)

def JnR (l m : Int) (c d : Nat) (j : Int) (x : Nat) : Prop := ∀ w : World, Calls Try.prog 19 #[.agg #[.int .i64 l, .int .u64 (c : Int)], .agg #[.int .i64 m, .int .u64 (d : Int)]] w fun e w' => e = .returned (.agg #[.int .i64 j, .int .u64 (x : Int)]) ∧ Below w.heap.size w w'
theorem JnR.at {l m : Int} {c d : Nat} {j : Int} {x : Nat} (h : JnR l m c d j x) (w : World) : Calls Try.prog 19 #[.agg #[.int .i64 l, .int .u64 (c : Int)], .agg #[.int .i64 m, .int .u64 (d : Int)]] w fun e w' => e = .returned (.agg #[.int .i64 j, .int .u64 (x : Int)]) ∧ Below w.heap.size w w' := h w
theorem sn_split (o : Lb) (l : List Lb) (p : Nat) (h : p < l.length) (hb : bl o l[p] = true) : sn o 0 l = sn o 0 (l.take p) ++ p :: sn o (p + 1) (l.drop (p + 1)) := by
  conv => lhs; rw [← List.take_append_drop p l, sn_app, Nat.zero_add, List.length_take, Nat.min_eq_left (by omega), List.drop_eq_getElem_cons h, sn, if_pos hb]
theorem own_at (o : Lb) (l : List Lb) (p : Nat) (h : p < l.length) (hb : bl o l[p] = true) : own (sn o 0 l) (p : Int) = some (sn o 0 (l.take p)).length := by
  unfold own
  rw [List.findIdx?_eq_some_iff_getElem]
  have e := sn_split o l p h hb
  have hlt : (sn o 0 (l.take p)).length < (sn o 0 l).length := by rw [e]; simp
  refine ⟨hlt, ?_, fun j hj => ?_⟩
  · have : (sn o 0 l)[(sn o 0 (l.take p)).length] = p := by simp only [e]; simp
    rw [this]; simp
  · have hj2 : (sn o 0 l)[j]'(by omega) = (sn o 0 (l.take p))[j] := by simp only [e]; exact List.getElem_append_left hj
    have := (sn_lt o (l.take p) 0 _ (List.getElem_mem hj)).2
    rw [List.length_take] at this
    rw [hj2]
    simp
    omega
theorem full_at (o : Lb) (l : List Lb) (n : Int) (p : Nat) (h : full (sn o 0 l) n = some p) : ∃ (h1 : p < l.length), bl o l[p] = true ∧ n = ((sn o 0 (l.take p)).length : Nat) := by
  unfold full at h
  split at h
  · rename_i h0
    obtain ⟨hj, hp⟩ := List.getElem?_eq_some_iff.1 h
    obtain ⟨h1, -, h2⟩ := (sn_mem o l 0 p).1 (by rw [← hp]; exact List.getElem_mem hj)
    simp only [Nat.sub_zero] at h1 h2
    refine ⟨h1, h2, ?_⟩
    have e := sn_split o l p h1 h2
    have hlt : (sn o 0 (l.take p)).length < (sn o 0 l).length := by rw [e]; simp
    have hq : (sn o 0 l)[(sn o 0 (l.take p)).length] = p := by simp only [e]; simp
    have hu := sn_up o l 0
    rw [List.pairwise_iff_getElem] at hu
    rcases Nat.lt_trichotomy n.toNat (sn o 0 (l.take p)).length with hl | hl | hl
    · have := hu _ _ hj hlt hl; omega
    · omega
    · have := hu _ _ hlt hj hl; omega
  · cases h
theorem own_get (s : List Nat) (n : Int) (b : Nat) (h : own s n = some b) : ∃ m, full s (b : Int) = some m ∧ (m : Int) = n := by
  unfold own at h
  rw [List.findIdx?_eq_some_iff_getElem] at h
  obtain ⟨hb, he, -⟩ := h
  refine ⟨s[b], ?_, by simpa using he⟩
  unfold full
  rw [if_pos (by omega), Int.toNat_natCast, List.getElem?_eq_getElem hb]
theorem bl_join (o m x : Lb) (h : bl o x = true) : bl (max o.1 m.1, o.2 ||| m.2) x = true := L.below_trans h (L.below_j1 _ _ _ _)
theorem flt_mono (l : List Lb) (o m : Lb) (h : ∀ x, bl o x = true → bl m x = true) : (sn o 0 l).length ≤ (sn m 0 l).length := by
  rw [sn_map, sn_map, ← List.countP_eq_length_filter, ← List.countP_eq_length_filter]
  exact List.countP_mono_left (fun x _ hx => h x hx)
set_option maxRecDepth 100000 in
set_option maxHeartbeats 4000000 in
theorem rback_walk {A : Option Addr} {cap : Nat} {l : List Lb} {f0 g0 : Int} {f1 g1 : Nat} {n : Int} (w : World) (hA : LabsIn w A l) {v1 v2 v3 v4 v5 j0 : Int} {j1 : Nat} {b1 b2 b3 b4 b5 : Bool} (H1 : Hid (TwC 8 l f0 f1 n v1 b1)) (H2 : Hid (TwC 10 l f0 f1 v1 v2 b2)) (H3 : Hid (TwC 10 l f0 f1 n v3 b3)) (H4 : Hid (TwC 8 l f0 f1 v3 v4 b4)) (HJ : Hid (JnR f0 g0 f1 g1 j0 j1)) (H5 : Hid (TwC 10 l j0 j1 v1 v5 b5)) (HP : Hid (b1 = false ∨ (b1 = true ∧ b2 = true ∧ v2 = n ∧ b5 = true ∧ n ≤ v5))) (HQ : Hid (b3 = false ∨ (b3 = true ∧ b4 = true ∧ v4 = n))) (HV : Hid (LvC 13)) :
    Calls Try.prog 5 #[.slice A l.length cap, .agg #[.int .i64 f0, .int .u64 (f1 : Int)], .agg #[.int .i64 g0, .int .u64 (g1 : Int)], .int .i64 n] w fun e w' => e = .returned (.bool true) ∧ Below w.heap.size w w' := by
  obtain ⟨w0, hw0⟩ : ∃ W : World, W = (w.alloc (.cells #[.int .i64 f0, .int .u64 (f1 : Int)] 25)).alloc (.cells #[.int .i64 g0, .int .u64 (g1 : Int)] 25) := ⟨_, rfl⟩
  have HB0 := Lib.hid (show Below w.heap.size w w0 by rw [hw0]; exact (alloc1 _ _).alloc (by simp) _)
  have HO := Lib.hid (show Lx w0 w.heap.size f0 f1 by rw [hw0]; exact V.alloc_old _ (V.alloc_at _ rfl))
  have HM := Lib.hid (show Lx w0 (w.heap.size + 1) g0 g1 by rw [hw0]; exact V.alloc_at _ (by simp))
  have HA := Lib.hid (hA.below HB0.out)
  clear hA
  go_enter Try.func5, Try.ntmps5
  go_wp2_with fail
  rw [← hw0]
  clear hw0
  with_reducible refine (H1.out.at _ (cap := cap) HA.out).mono ?_
  rintro e w1 ⟨rfl, hb⟩
  have HO_1 := Lib.hid (HO.out.below hb)
  have HM_1 := Lib.hid (HM.out.below hb)
  have HA_1 := Lib.hid (HA.out.below hb)
  have HB1 := Lib.hid (HB0.out.trans (hb.mono HB0.out.size))
  clear hb HB0 HO HM HA
  obtain ⟨xO0, xO1⟩ := HO_1.out.cells
  obtain ⟨xM0, xM1⟩ := HM_1.out.cells
  go_wp2_with fail
  clear xO0 xO1 xM0 xM1
  with_reducible refine (H2.out.at _ HA_1.out).mono ?_
  rintro e w2 ⟨rfl, hb⟩
  have HO_2 := Lib.hid (HO_1.out.below hb)
  have HM_2 := Lib.hid (HM_1.out.below hb)
  have HA_2 := Lib.hid (HA_1.out.below hb)
  have HB2 := Lib.hid (HB1.out.trans (hb.mono HB1.out.size))
  clear hb HB1 HO_1 HM_1 HA_1
  obtain ⟨xO0, xO1⟩ := HO_2.out.cells
  obtain ⟨xM0, xM1⟩ := HM_2.out.cells
  go_wp2_with fail
  clear xO0 xO1 xM0 xM1
  with_reducible refine (H3.out.at _ HA_2.out).mono ?_
  rintro e w3 ⟨rfl, hb⟩
  have HO_3 := Lib.hid (HO_2.out.below hb)
  have HM_3 := Lib.hid (HM_2.out.below hb)
  have HA_3 := Lib.hid (HA_2.out.below hb)
  have HB3 := Lib.hid (HB2.out.trans (hb.mono HB2.out.size))
  clear hb HB2 HO_2 HM_2 HA_2
  obtain ⟨xO0, xO1⟩ := HO_3.out.cells
  obtain ⟨xM0, xM1⟩ := HM_3.out.cells
  go_wp2_with fail
  clear xO0 xO1 xM0 xM1
  with_reducible refine (H4.out.at _ HA_3.out).mono ?_
  rintro e w4 ⟨rfl, hb⟩
  have HO_4 := Lib.hid (HO_3.out.below hb)
  have HM_4 := Lib.hid (HM_3.out.below hb)
  have HA_4 := Lib.hid (HA_3.out.below hb)
  have HB4 := Lib.hid (HB3.out.trans (hb.mono HB3.out.size))
  clear hb HB3 HO_3 HM_3 HA_3
  obtain ⟨xO0, xO1⟩ := HO_4.out.cells
  obtain ⟨xM0, xM1⟩ := HM_4.out.cells
  go_wp2_with fail
  clear xO0 xO1 xM0 xM1
  with_reducible refine (HJ.out.at _).mono ?_
  rintro e w5 ⟨rfl, hb⟩
  have HO_5 := Lib.hid (HO_4.out.below hb)
  have HM_5 := Lib.hid (HM_4.out.below hb)
  have HA_5 := Lib.hid (HA_4.out.below hb)
  have HB5 := Lib.hid (HB4.out.trans (hb.mono HB4.out.size))
  clear hb HB4 HO_4 HM_4 HA_4
  obtain ⟨xO0, xO1⟩ := HO_5.out.cells
  obtain ⟨xM0, xM1⟩ := HM_5.out.cells
  go_wp2_with fail
  clear xO0 xO1 xM0 xM1
  with_reducible refine (H5.out.at _ HA_5.out).mono ?_
  rintro e w6 ⟨rfl, hb⟩
  have HO_6 := Lib.hid (HO_5.out.below hb)
  have HM_6 := Lib.hid (HM_5.out.below hb)
  have HA_6 := Lib.hid (HA_5.out.below hb)
  have HB6 := Lib.hid (HB5.out.trans (hb.mono HB5.out.size))
  clear hb HB5 HO_5 HM_5 HA_5
  rcases HP.out with rfl | ⟨rfl, rfl, rfl, rfl, hle⟩
  · rcases HQ.out with rfl | ⟨rfl, rfl, rfl⟩
    · skip
      clear HP HQ
      obtain ⟨xO0, xO1⟩ := HO_6.out.cells
      obtain ⟨xM0, xM1⟩ := HM_6.out.cells
      go_wp2_with fail
      clear xO0 xO1 xM0 xM1
      with_reducible refine (HV.out.at _).mono ?_
      rintro e w7 ⟨rfl, hb⟩
      have HO_7 := Lib.hid (HO_6.out.below hb)
      have HM_7 := Lib.hid (HM_6.out.below hb)
      have HA_7 := Lib.hid (HA_6.out.below hb)
      have HB7 := Lib.hid (HB6.out.trans (hb.mono HB6.out.size))
      clear hb HB6 HO_6 HM_6 HA_6
      obtain ⟨xO0, xO1⟩ := HO_7.out.cells
      obtain ⟨xM0, xM1⟩ := HM_7.out.cells
      go_wp2_with fail
      go_ret
      exact ⟨rfl, HB7.out⟩
    · skip
      clear HP HQ
      obtain ⟨xO0, xO1⟩ := HO_6.out.cells
      obtain ⟨xM0, xM1⟩ := HM_6.out.cells
      go_wp2_with fail
      clear xO0 xO1 xM0 xM1
      with_reducible refine (HV.out.at _).mono ?_
      rintro e w7 ⟨rfl, hb⟩
      have HO_7 := Lib.hid (HO_6.out.below hb)
      have HM_7 := Lib.hid (HM_6.out.below hb)
      have HA_7 := Lib.hid (HA_6.out.below hb)
      have HB7 := Lib.hid (HB6.out.trans (hb.mono HB6.out.size))
      clear hb HB6 HO_6 HM_6 HA_6
      obtain ⟨xO0, xO1⟩ := HO_7.out.cells
      obtain ⟨xM0, xM1⟩ := HM_7.out.cells
      go_wp2_with fail
      go_ret
      exact ⟨rfl, HB7.out⟩
  · have hd : decide (v5 ≥ v2) = true := decide_eq_true hle
    have hd2 : decide (v2 ≤ v5) = true := decide_eq_true hle
    rcases HQ.out with rfl | ⟨rfl, rfl, he⟩
    · skip
      clear HP HQ
      obtain ⟨xO0, xO1⟩ := HO_6.out.cells
      obtain ⟨xM0, xM1⟩ := HM_6.out.cells
      go_wp2_with fail
      clear xO0 xO1 xM0 xM1
      with_reducible refine (HV.out.at _).mono ?_
      rintro e w7 ⟨rfl, hb⟩
      have HO_7 := Lib.hid (HO_6.out.below hb)
      have HM_7 := Lib.hid (HM_6.out.below hb)
      have HA_7 := Lib.hid (HA_6.out.below hb)
      have HB7 := Lib.hid (HB6.out.trans (hb.mono HB6.out.size))
      clear hb HB6 HO_6 HM_6 HA_6
      obtain ⟨xO0, xO1⟩ := HO_7.out.cells
      obtain ⟨xM0, xM1⟩ := HM_7.out.cells
      go_wp2_with fail
      go_ret
      exact ⟨rfl, HB7.out⟩
    · have hd3 : (v4 == v2) = true := by simpa using he
      subst he
      clear HP HQ
      obtain ⟨xO0, xO1⟩ := HO_6.out.cells
      obtain ⟨xM0, xM1⟩ := HM_6.out.cells
      go_wp2_with fail
      clear xO0 xO1 xM0 xM1
      with_reducible refine (HV.out.at _).mono ?_
      rintro e w7 ⟨rfl, hb⟩
      have HO_7 := Lib.hid (HO_6.out.below hb)
      have HM_7 := Lib.hid (HM_6.out.below hb)
      have HA_7 := Lib.hid (HA_6.out.below hb)
      have HB7 := Lib.hid (HB6.out.trans (hb.mono HB6.out.size))
      clear hb HB6 HO_6 HM_6 HA_6
      obtain ⟨xO0, xO1⟩ := HO_7.out.cells
      obtain ⟨xM0, xM1⟩ := HM_7.out.cells
      go_wp2_with fail
      go_ret
      exact ⟨rfl, HB7.out⟩

theorem rback_law {A : Option Addr} {cap : Nat} {l : List Lb} {f0 g0 : Int} {f1 g1 : Nat} {n : Int} (w : World) (hA : LabsIn w A l) (hok : LOk l) (h1 : f1 < 18446744073709551616) (h2 : g1 < 18446744073709551616) (hl : l.length ≤ maxLen) :
    Calls Try.prog 5 #[.slice A l.length cap, .agg #[.int .i64 f0, .int .u64 (f1 : Int)], .agg #[.int .i64 g0, .int .u64 (g1 : Int)], .int .i64 n] w fun e w' => e = .returned (.bool true) ∧ Below w.heap.size w w' := by
  have hj : f1 ||| g1 < 18446744073709551616 := L.or_small h1 h2
  have HJ : JnR f0 g0 f1 g1 (max f0 g0) (f1 ||| g1) := fun w => L.refJoin_any f0 g0 f1 g1 w h1 h2
  refine rback_walk w hA (Lib.hid (c_full hok h1 hl n)) (Lib.hid (c_own hok h1 hl _)) (Lib.hid (c_own hok h1 hl n)) (Lib.hid (c_full hok h1 hl _)) (Lib.hid HJ) (Lib.hid (c_own hok hj hl _)) (Lib.hid ?_) (Lib.hid ?_) (Lib.hid live17)
  · cases hf : full (sn (f0, f1) 0 l) n with
    | none => exact .inl rfl
    | some p =>
      obtain ⟨hp, hb, hn⟩ := full_at _ _ _ _ hf
      have hb2 := bl_join (f0, f1) (g0, g1) _ hb
      have e1 : own (sn (f0, f1) 0 l) (nm (some p)) = some (sn (f0, f1) 0 (l.take p)).length := own_at _ _ _ hp hb
      have e2 : own (sn (max f0 g0, f1 ||| g1) 0 l) (nm (some p)) = some (sn (max f0 g0, f1 ||| g1) 0 (l.take p)).length := own_at _ _ _ hp hb2
      have hm := flt_mono (l.take p) (f0, f1) (max f0 g0, f1 ||| g1) (fun x hx => bl_join (f0, f1) (g0, g1) x hx)
      refine .inr ⟨rfl, by rw [e1]; rfl, by rw [e1, hn]; rfl, by rw [e2]; rfl, ?_⟩
      rw [e2, hn]
      simp only [nm]
      omega
  · cases ho : own (sn (f0, f1) 0 l) n with
    | none => exact .inl rfl
    | some b =>
      obtain ⟨m, e1, e2⟩ := own_get _ _ _ ho
      have e3 : full (sn (f0, f1) 0 l) (nm (some b)) = some m := e1
      exact .inr ⟨rfl, by rw [e3]; rfl, by rw [e3]; exact e2⟩
end Go.Proofs.Ytlkfmaeillnhhaa.Rm
