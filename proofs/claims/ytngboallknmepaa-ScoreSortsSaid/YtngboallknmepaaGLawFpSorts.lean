/-
  ScoreSorts, walked.
-/
import Derived.Test.YtngboallknmepaaGxak
import Derived.Test.YtngboallknmepaaGLawFpMeans
namespace Go.Proofs.Ytngboallknmepaa.Fp
set_option linter.unusedVariables false
set_option linter.unusedSimpArgs false
open Go.RowKit Go.Sort Go.Shelf
open T
open I (alloc1 own_at own_below)

attribute [-go_sem] Go.Builtin.append_

theorem below_drew9 (w : World) : Below w.heap.size w w.drew := V.drawn_below w 1
set_option maxHeartbeats 8000000 in
set_option maxRecDepth 100000 in
theorem sorts_law (A : Option Addr) (c : Nat) (l : List UInt64) (u : Int) (w : World) (hL : FlIn w A l) (hr : l.length ≤ c) (hz : A = none → c = 0) (hl : l.length ≤ 9223372036854775807) (hu0 : 0 ≤ u) (hu : u ≤ 255) :
    Calls Try.prog 5 #[.slice A l.length c, .int .u8 u] w fun e w' => e = .returned (.bool true) ∧ Below w.heap.size w w' := by
  have HF := Lib.hid (few_any A c l w hr hz hl)
  obtain ⟨m, hm⟩ : ∃ m, m = l.take 60 := ⟨_, rfl⟩
  rw [← hm] at HF
  have hm60 : m.length ≤ 60 := by rw [hm, List.length_take]; omega
  have hmc : m.length ≤ c := by rw [hm, List.length_take]; omega
  have HM : Hid (FlIn w A m) := Lib.hid (by rw [hm]; exact fl_take hL 60)
  have HS := Lib.hid (stable_all hm60)
  have HZ := Lib.hid hz
  have HE : Hid ((w.alloc (.cells #[] 22)).ownsRow w.heap.size 22 1 (.slice (some ⟨w.heap.size, 0, none⟩) 0 0) ([] : List UInt64).length (([] : List UInt64).map encF)) := Lib.hid (World.ownsRow_made (size := 1) (e := 22) w #[] 0 (Nat.le_refl _) (by unfold maxLen; omega) rfl)
  have HME : Hid (FlIn (w.alloc (.cells #[] 22)) A m) := Lib.hid (HM.out.below (alloc1 w _))
  have hs0 : w.heap.size ≤ (w.alloc (.cells #[] 22)).heap.size := (alloc1 w _).size
  clear hL hm hr hz hl
  go_enter Try.func5, Try.ntmps5
  go_upto_region 3 with (first | (go_at_call 16; refine HF.out.mono ?_; rintro e w' ⟨rfl, rfl⟩) | (at_builtin; refine wpList_append_fls (w := w'.alloc (.cells #[] 22)) rfl (.tmp 11) (.tmp 12) rfl w'.heap.size (.slice (some ⟨w'.heap.size, 0, none⟩) 0 0) [] m rfl HE.out A c rfl HME.out HZ.out (by simp; omega) hs0 ?_; intro v1 w1 ho1 hg1 hat1; rw [List.nil_append] at ho1; have HB1 : Hid (Below w'.heap.size w' w1) := Lib.hid ((alloc1 w' _).grown hg1 hs0 (fun q e => own_base HE.out q e)); obtain ⟨A1, c1, rfl, HX1⟩ := fx_own ho1; have HX1H := Lib.hid HX1; clear ho1 hg1 hat1 HX1))
  clear HE HME hs0
  go_upto_region 4 with (go_at_call 17; refine (sort_any A1 c1 m _ HS.out HX1H.out.i HX1H.out.z (by omega)).mono ?_; rintro e w2 ⟨B2, cap2, t2, rfl, p2, o2, q2, b2⟩)
  have HQ2 := Lib.hid (And.intro p2 o2)
  have HT2a := Lib.hid q2
  have HB2 := Lib.hid (HB1.out.trans (b2.mono HB1.out.size))
  have HO2 := Lib.hid (HX1H.out.i.below b2)
  have HM2 := Lib.hid (fl_below HM.out HB2.out)
  have ht2 : t2.length = m.length := p2.length_eq
  have HTL := Lib.hid ht2
  have ht60 : t2.length ≤ 60 := by omega
  clear p2 o2 q2 b2 ht2
  have HBX : Hid (∀ b b' : Int, Bs m m.length b → Bs m m.length b' → b = b') := Lib.hid (fun _ _ h h' => h.uniq h')
  go_upto_region 6 with (first | (go_at_call 19; refine (rsort_any A c m _ HM2.out (by omega)).mono ?_; rintro e w3 ⟨B3, cap3, t3, rfl, p3, o3, q3, b3⟩; have f2 := fl_below HT2a.out b3; have fo := fl_below HO2.out b3; have fm := fl_below HM2.out b3; have hk := sorted_uniq (HQ2.out.1.trans p3.symm) HQ2.out.2 o3; have HB := HB2.out.trans (b3.mono HB2.out.size)) | (go_at_call 18; refine (samel_any _ _ _ _ _ _ _ (by assumption) (by assumption) (by omega) (by first | rfl | assumption)).mono ?_; rintro e w4 ⟨rfl, b4⟩; replace f2 := fl_below f2 b4; replace fo := fl_below fo b4; replace fm := fl_below fm b4; replace HB := HB.trans (b4.mono HB.size); clear b4) | (go_at_call 20; refine (best_any A c m _ fm (by omega)).mono ?_; rintro e w' ⟨x1, rfl, hx1, rfl⟩) | (go_at_call 21; refine (rbest_any A c m _ fm (by omega)).mono ?_; rintro e w5 ⟨x2, rfl, hx2, b5⟩; obtain rfl := HBX.out _ _ hx1 hx2; replace f2 := fl_below f2 b5; replace fo := fl_below fo b5; replace fm := fl_below fm b5; replace HB := HB.trans (b5.mono HB.size); clear b5))
  have HB8 := Lib.hid HB
  have HT2 := Lib.hid f2
  have HM8 := Lib.hid fm
  clear HB f2 fo fm hk hx1 hx2 p3 o3 q3 b3
  by_cases h0 : m.length = 0
  · have h0b : ((m.length : Int) == 0) = true := by simp [h0]
    clear h0
    go_wp2_with (go_at_call 11; refine (live22 _).mono ?_; rintro e wl ⟨rfl, HBL⟩)
    go_ret
    exact ⟨rfl, HB8.out.trans (HBL.mono HB8.out.size)⟩
  · have h0b : ((m.length : Int) == 0) = false := by simp [h0]
    obtain ⟨k, hk⟩ : ∃ k : Nat, k = u.toNat % m.length := ⟨_, rfl⟩
    have hkm : k < m.length := by rw [hk]; exact Nat.mod_lt _ (by omega)
    have ek' : u % (m.length : Int) = (k : Int) := by
      obtain ⟨v, rfl⟩ := Int.eq_ofNat_of_zero_le hu0
      rw [hk, Int.toNat_natCast]
      exact (Int.natCast_emod v m.length).symm
    have ek : u.tmod (m.length : Int) = (k : Int) := by rw [Int.tmod_eq_emod_of_nonneg hu0]; exact ek'
    have hm0 : ¬ (m.length : Int) = 0 := by omega
    obtain ⟨tk, htke⟩ : ∃ t, t = m.take k := ⟨_, rfl⟩
    obtain ⟨dk, hdke⟩ : ∃ t, t = m.drop k := ⟨_, rfl⟩
    have htk : ∀ W, Sem.run Try.prog (Instr.sliceAt 29 (.slice A m.length c) none (some (.int .i64 (k : Int))) none) W = .ok (.slice A tk.length c) W := by
      intro W
      rw [htke, List.length_take, Nat.min_eq_left (by omega)]
      exact take_isF (by omega) hmc HZ.out W
    have hdk : ∀ W, Sem.run Try.prog (Instr.sliceAt 29 (.slice A m.length c) (some (.int .i64 (k : Int))) none none) W = .ok (.slice (dropF A c k) dk.length (c - k)) W := by
      intro W
      rw [hdke, List.length_drop]
      exact drop_isF (by omega) hmc HZ.out W
    have htl : tk.length ≤ 60 := by rw [htke, List.length_take]; omega
    have hdl : dk.length ≤ 60 := by rw [hdke, List.length_drop]; omega
    have HTK := Lib.hid htke
    have HDK := Lib.hid hdke
    clear htke hdke hk h0
    go_upto_region 9 with fail
    obtain ⟨W9, hW9⟩ : ∃ W, W = w5 := ⟨_, rfl⟩
    rw [← hW9] at HB8 HT2 HM8 ⊢
    clear hW9
    have HT9 : Hid (FlIn W9 A tk) := Lib.hid (by rw [HTK.out]; exact fl_take HM8.out k)
    have HD9 : Hid (FlIn W9 (dropF A c k) dk) := Lib.hid (by rw [HDK.out]; exact fl_drop ⟨HM8.out, hmc, HZ.out⟩ k)
    refine wp_region_held_drew (S := (Below W9.heap.size W9)) (by kernel_rfl) (below_drew9 W9) (fun hK0 => ?_)
    refine wpAnyH_take (i := 1) (oi := { dst := some 44, op := Go.Op.move (Go.Operand.tmp 0), type := 29, pos := "law.go:43", after := #[], guard := none }) (v := ?_) rfl (by kernel_rfl) (by kernel_rfl) (by kernel_rfl) (fun _ _ _ h => h) (Or.inl ⟨by rfl, ?_⟩) hK0 ?_
    rotate_left
    · (intro wz hSz; (try dsimp only at hSz); go_simp; try with_reducible rfl)
    simp only [Act.put, List.setIfInBounds_toArray, List.set_cons_zero, List.set_cons_succ]
    refine wpAnyH_take (i := 2) (oi := { dst := some 45, op := Go.Op.move (Go.Operand.tmp 7), type := 3, pos := "law.go:43", after := #[], guard := none }) (v := ?_) rfl (by kernel_rfl) (by kernel_rfl) (by kernel_rfl) (fun _ _ _ h => h) (Or.inl ⟨by rfl, ?_⟩) hK0 ?_
    rotate_left
    · (intro wz hSz; (try dsimp only at hSz); go_simp; try with_reducible rfl)
    simp only [Act.put, List.setIfInBounds_toArray, List.set_cons_zero, List.set_cons_succ]
    refine wpAnyH_take (i := 3) (oi := { dst := some 46, op := Go.Op.slice 29 (Go.Operand.tmp 44) (some (Go.Operand.tmp 45)) none none, type := 29, pos := "law.go:43", after := #[{ on := 1, ground := Go.Ground.data }, { on := 2, ground := Go.Ground.data }], guard := none }) (v := ?_) rfl (by kernel_rfl) (by kernel_rfl) (by kernel_rfl) (fun _ _ _ h => h) (Or.inl ⟨by rfl, ?_⟩) hK0 ?_
    rotate_left
    · (intro wz hSz; (try dsimp only at hSz); go_simp; try with_reducible rfl)
    simp only [Act.put, List.setIfInBounds_toArray, List.set_cons_zero, List.set_cons_succ]
    refine wpAnyH_take (i := 5) (oi := { dst := some 48, op := Go.Op.move (Go.Operand.tmp 0), type := 29, pos := "law.go:43", after := #[], guard := none }) (v := ?_) rfl (by kernel_rfl) (by kernel_rfl) (by kernel_rfl) (fun _ _ _ h => h) (Or.inl ⟨by rfl, ?_⟩) hK0 ?_
    rotate_left
    · (intro wz hSz; (try dsimp only at hSz); go_simp; try with_reducible rfl)
    simp only [Act.put, List.setIfInBounds_toArray, List.set_cons_zero, List.set_cons_succ]
    refine wpAnyH_take (i := 6) (oi := { dst := some 49, op := Go.Op.move (Go.Operand.tmp 7), type := 3, pos := "law.go:43", after := #[], guard := none }) (v := ?_) rfl (by kernel_rfl) (by kernel_rfl) (by kernel_rfl) (fun _ _ _ h => h) (Or.inl ⟨by rfl, ?_⟩) hK0 ?_
    rotate_left
    · (intro wz hSz; (try dsimp only at hSz); go_simp; try with_reducible rfl)
    simp only [Act.put, List.setIfInBounds_toArray, List.set_cons_zero, List.set_cons_succ]
    refine wpAnyH_take (i := 7) (oi := { dst := some 50, op := Go.Op.slice 29 (Go.Operand.tmp 48) none (some (Go.Operand.tmp 49)) none, type := 29, pos := "law.go:43", after := #[{ on := 5, ground := Go.Ground.data }, { on := 6, ground := Go.Ground.data }], guard := none }) (v := ?_) rfl (by kernel_rfl) (by kernel_rfl) (by kernel_rfl) (fun _ _ _ h => h) (Or.inl ⟨by rfl, ?_⟩) hK0 ?_
    rotate_left
    · (intro wz hSz; (try dsimp only at hSz); go_simp; try with_reducible rfl)
    simp only [Act.put, List.setIfInBounds_toArray, List.set_cons_zero, List.set_cons_succ]
    refine wpAnyH_ready (rs := [0]) (by kernel_rfl) (by simp) ?_
    refine AllReadyH.cons (o := { dst := some 43, op := Go.Op.buildSlice 29 0 #[], type := 29, pos := "law.go:43", after := #[], guard := none }) rfl (fun K hK => ?_) AllReadyH.nil
    go_simp
    obtain ⟨wq1, hwq⟩ : ∃ W : World, W = (W9.alloc (.cells #[] 22)).drew := ⟨_, rfl⟩
    rw [← hwq]
    have hd9 : Below (W9.alloc (.cells #[] 22)).heap.size (W9.alloc (.cells #[] 22)) (W9.alloc (.cells #[] 22)).drew := below_drew9 _
    have hS : Below W9.heap.size W9 wq1 := by rw [hwq]; exact (alloc1 W9 _).trans (hd9.mono (alloc1 W9 _).size)
    have ho : wq1.ownsRow W9.heap.size 22 1 (.slice (some ⟨W9.heap.size, 0, none⟩) 0 0) ([] : List UInt64).length (([] : List UInt64).map encF) := by rw [hwq]; exact own_below (World.ownsRow_made (size := 1) (e := 22) W9 #[] 0 (Nat.le_refl _) (by unfold maxLen; omega) rfl) hd9
    have HOWN := Lib.hid ho
    clear ho hwq hd9
    refine hK.out _ _ hS (fun hK1 => ?_)
    clear hK K hS hK0
    refine wpAnyH_ready (rs := [4]) (by kernel_rfl) (by simp) ?_
    refine AllReadyH.cons (o := { dst := some 47, op := Go.Op.call { callee := Go.Callee.builtin Go.Builtin.append, args := #[Go.Operand.tmp 43, Go.Operand.tmp 46], argTypes := #[29, 29] }, type := 29, pos := "law.go:43", after := #[{ on := 0, ground := Go.Ground.data }, { on := 3, ground := Go.Ground.data }], guard := none }) rfl (fun K hK => ?_) AllReadyH.nil
    have hs9 := Below.size hK1
    obtain ⟨v2, wq2, hr, ho, hg⟩ := run_app (c2 := (c - k)) HOWN.out (HD9.out.below hK1) 29 (by simp only [List.length_append, List.length_nil]; omega) hs9
    have hb9 : Below W9.heap.size W9 wq2 := Below.grown hK1 hg hs9 (fun q e => own_base HOWN.out q e)
    go_simp
    have hS := hb9
    replace HOWN := Lib.hid ho
    clear ho hg hr hb9 hs9
    refine hK.out _ _ hS (fun hK2 => ?_)
    clear hK K hS hK1
    refine wpAnyH_ready (rs := [8]) (by kernel_rfl) (by simp) ?_
    refine AllReadyH.cons (o := { dst := some 51, op := Go.Op.call { callee := Go.Callee.builtin Go.Builtin.append, args := #[Go.Operand.tmp 47, Go.Operand.tmp 50], argTypes := #[29, 29] }, type := 29, pos := "law.go:43", after := #[{ on := 4, ground := Go.Ground.data }, { on := 7, ground := Go.Ground.data }, { on := 4, ground := Go.Ground.chain }], guard := none }) rfl (fun K hK => ?_) AllReadyH.nil
    have hs9 := Below.size hK2
    obtain ⟨v3, wq3, hr, ho, hg⟩ := run_app (c2 := c) HOWN.out (HT9.out.below hK2) 29 (by simp only [List.length_append, List.length_nil]; omega) hs9
    have hb9 : Below W9.heap.size W9 wq3 := Below.grown hK2 hg hs9 (fun q e => own_base HOWN.out q e)
    go_simp
    have hS := hb9
    replace HOWN := Lib.hid ho
    clear ho hg hr hb9 hs9
    refine hK.out _ _ hS (fun hK3 => ?_)
    clear hK K hS hK2
    refine wpAnyH_take (i := 9) (oi := { dst := some 8, op := Go.Op.assign (Go.Operand.tmp 51), type := 29, pos := "law.go:43", after := #[{ on := 8, ground := Go.Ground.data }, { on := 8, ground := Go.Ground.chain }, { on := 0, ground := Go.Ground.phase }, { on := 1, ground := Go.Ground.phase }, { on := 2, ground := Go.Ground.phase }, { on := 3, ground := Go.Ground.phase }, { on := 4, ground := Go.Ground.phase }, { on := 5, ground := Go.Ground.phase }, { on := 6, ground := Go.Ground.phase }, { on := 7, ground := Go.Ground.phase }, { on := 8, ground := Go.Ground.phase }], guard := none }) (v := ?_) rfl (by kernel_rfl) (by kernel_rfl) (by kernel_rfl) (fun _ _ _ h => h) (Or.inl ⟨by rfl, ?_⟩) hK3 ?_
    rotate_left
    · (intro wz hSz; (try dsimp only at hSz); go_simp; try with_reducible rfl)
    simp only [Act.put, List.setIfInBounds_toArray, List.set_cons_zero, List.set_cons_succ]
    refine wpAnyH_done (by kernel_rfl) ?_ _
    go_wp2_with fail
    obtain ⟨A3, c3, rfl, HX3⟩ := fx_own HOWN.out
    have HX3H := Lib.hid HX3
    have HB9 := Lib.hid hK3
    clear HX3 hK3
    have hlen9 : ([] ++ dk ++ tk).length = m.length := by rw [HTK.out, HDK.out, List.nil_append, List.length_append, List.length_take, List.length_drop]; omega
    have HPM : Hid (([] ++ dk ++ tk).Perm m) := Lib.hid (by rw [HTK.out, HDK.out, List.nil_append]; exact (List.perm_append_comm).trans (by rw [List.take_append_drop]))
    obtain ⟨m2, hm2⟩ : ∃ m2, m2 = [] ++ dk ++ tk := ⟨_, rfl⟩
    rw [← hm2] at hlen9 HPM HX3H ⊢
    clear hm2
    have HS9 : Hid (Stable m.length) := Lib.hid (stable_all hm60)
    have hso := sort_any A3 c3 m2
    rw [hlen9] at hso
    have HSO := Lib.hid hso
    clear hso
    go_wp2_with (first | (go_at_call 11; refine (live22 _).mono ?_; rintro e wl ⟨rfl, HBL⟩) | (go_at_call 17; go_loud (refine (HSO.out _ HS9.out (fl_below HX3H.out.i HBL) HX3H.out.z (by omega)).mono ?_; rintro e ws ⟨C4, cap4, t4, rfl, p4, o4, q4, b4⟩)) | (go_at_call 18; go_loud (refine (samel_any C4 B2 cap4 cap2 t4 t2 _ q4 (fl_below (fl_below (fl_below HT2.out HB9.out) HBL) b4) (by rw [p4.length_eq]; omega) (sorted_uniq (p4.trans (HPM.out.trans HQ2.out.1.symm)) o4 HQ2.out.2)).mono ?_; rintro e wz ⟨rfl, HBS⟩)))
    go_ret
    have e1 := HB8.out.trans (HB9.out.mono HB8.out.size)
    have e2 := e1.trans (HBL.mono e1.size)
    have e3 := e2.trans (b4.mono e2.size)
    exact ⟨rfl, e3.trans (HBS.mono e3.size)⟩
end Go.Proofs.Ytngboallknmepaa.Fp
