/-
  The reference's Apply.
-/
import Derived.Test.YtigghcmbdnidnaaGpz
import Derived.Test.YtigghcmbdnidnaaGpd
import Derived.Deep.AppendLies
import Derived.BigQuiet
namespace Go.Proofs.Ytigghcmbdnidnaa.Pa
set_option linter.unusedVariables false
set_option linter.unusedSimpArgs false
open Go.RowKit
open T S H
open V (grown_of drawn_below IntsIn numCells numCells_snoc ints_own alloc_at)
open I (alloc1 own_at own_below)
open N (Ln PrIn pr_own prCells prCells_snoc infoPair)

/-- What is gathered behind k lines. -/
structure St (F : List Sl) (k i : Nat) (b : List Ln) (ps : List (Int × Int)) (gs ms : List Int) : Prop where
  b : b = sdl 2 (F.take k)
  p : ps = prT (tks 0 0 (F.take k))
  g : gs = goT (tks 0 0 (F.take k))
  m : ms = maT (tks 0 0 (F.take k))
  i : i = (sdl 3 (F.take k)).length
theorem St.start (F : List Sl) : St F 0 0 [] [] [] [] := ⟨rfl, rfl, rfl, rfl, rfl⟩
theorem prT_app (l r : List (Int × Nat × Nat)) : prT (l ++ r) = prT l ++ prT r := by unfold prT; rw [List.filter_append, List.map_append]
theorem goT_app (l r : List (Int × Nat × Nat)) : goT (l ++ r) = goT l ++ goT r := by unfold goT; rw [List.filter_append, List.map_append]
theorem maT_app (l r : List (Int × Nat × Nat)) : maT (l ++ r) = maT l ++ maT r := by unfold maT; rw [List.filter_append, List.map_append]
theorem tks_take {F : List Sl} {k : Nat} (hg : GoodX F) (hk : k < F.length) : tks 0 0 (F.take (k + 1)) = tks 0 0 (F.take k) ++ [(F[k].1, (sdl 3 (F.take k)).length, (sdl 2 (F.take k)).length)] := by
  rw [List.take_succ_eq_append_getElem hk, tks_snoc _ _ _ _ (fun z hz => hg z (List.mem_of_mem_take hz)), Nat.zero_add, Nat.zero_add]
theorem sdl_take {F : List Sl} {k : Nat} (d : Int) (hk : k < F.length) : sdl d (F.take (k + 1)) = sdl d (F.take k) ++ if F[k].1 = d then [] else [F[k].2] := by
  rw [List.take_succ_eq_append_getElem hk, sdl_app, sdl_cons]
  simp [sdl]
theorem St.keep {F : List Sl} {k i : Nat} {b : List Ln} {ps : List (Int × Int)} {gs ms : List Int} {y : Ln} (h : St F k i b ps gs ms) (hg : GoodX F) (hk : k < F.length) (hx : F[k] = (1, y)) : St F (k + 1) (i + 1) (b ++ [y]) (ps ++ [((i : Int), (b.length : Int))]) gs ms := by
  have e := tks_take hg hk
  rw [hx] at e
  refine ⟨?_, ?_, ?_, ?_, ?_⟩
  · rw [sdl_take 2 hk, hx, h.b]; simp
  · rw [e, prT_app, h.p, h.b, h.i]; simp [prT]
  · rw [e, goT_app, h.g]; simp [goT]
  · rw [e, maT_app, h.m]; simp [maT]
  · rw [sdl_take 3 hk, hx, h.i]; simp
theorem St.out {F : List Sl} {k i : Nat} {b : List Ln} {ps : List (Int × Int)} {gs ms : List Int} {y : Ln} (h : St F k i b ps gs ms) (hg : GoodX F) (hk : k < F.length) (hx : F[k] = (2, y)) : St F (k + 1) (i + 1) b ps (gs ++ [(i : Int)]) ms := by
  have e := tks_take hg hk
  rw [hx] at e
  refine ⟨?_, ?_, ?_, ?_, ?_⟩
  · rw [sdl_take 2 hk, hx, h.b]; simp
  · rw [e, prT_app, h.p]; simp [prT]
  · rw [e, goT_app, h.g, h.i]; simp [goT]
  · rw [e, maT_app, h.m]; simp [maT]
  · rw [sdl_take 3 hk, hx, h.i]; simp
theorem St.put {F : List Sl} {k i : Nat} {b : List Ln} {ps : List (Int × Int)} {gs ms : List Int} {y : Ln} (h : St F k i b ps gs ms) (hg : GoodX F) (hk : k < F.length) (hx : F[k] = (3, y)) : St F (k + 1) i (b ++ [y]) ps gs (ms ++ [(b.length : Int)]) := by
  have e := tks_take hg hk
  rw [hx] at e
  refine ⟨?_, ?_, ?_, ?_, ?_⟩
  · rw [sdl_take 2 hk, hx, h.b]; simp
  · rw [e, prT_app, h.p]; simp [prT]
  · rw [e, goT_app, h.g]; simp [goT]
  · rw [e, maT_app, h.m, h.b]; simp [maT]
  · rw [sdl_take 3 hk, hx, h.i]; simp
theorem set4 {w : World} {R : Nat} {a b c d v0 v1 v2 v3 : Value} {T : TypeId} (h : w.heap[R]? = some (.cells #[a, b, c, d] T (0, 0))) : ((((w.setCell ⟨R, 0, none⟩ v0).setCell ⟨R, 1, none⟩ v1).setCell ⟨R, 2, none⟩ v2).setCell ⟨R, 3, none⟩ v3).heap[R]? = some (.cells #[v0, v1, v2, v3] T (0, 0)) := by
  have := L.blk_set (L.blk_set (L.blk_set (L.blk_set h 0 v0) 1 v1) 2 v2) 3 v3
  simpa using this
theorem below4 {w0 w : World} {n R : Nat} (h : Below n w0 w) (hR : n ≤ R) (v0 v1 v2 v3 : Value) : Below n w0 ((((w.setCell ⟨R, 0, none⟩ v0).setCell ⟨R, 1, none⟩ v1).setCell ⟨R, 2, none⟩ v2).setCell ⟨R, 3, none⟩ v3) :=
  (((h.setCell (p := ⟨R, 0, none⟩) hR v0).setCell (p := ⟨R, 1, none⟩) hR v1).setCell (p := ⟨R, 2, none⟩) hR v2).setCell (p := ⟨R, 3, none⟩) hR v3
theorem own4 {w : World} {R base : Nat} {e : TypeId} {size n : Nat} {v : Value} {xs : List Value} (h : w.ownsRow base e size v n xs) (hR : R < base) (v0 v1 v2 v3 : Value) : ((((w.setCell ⟨R, 0, none⟩ v0).setCell ⟨R, 1, none⟩ v1).setCell ⟨R, 2, none⟩ v2).setCell ⟨R, 3, none⟩ v3).ownsRow base e size v n xs :=
  ownsRow_setCell_below (ownsRow_setCell_below (ownsRow_setCell_below (ownsRow_setCell_below h (show R < base from hR) v0) (show R < base from hR) v1) (show R < base from hR) v2) (show R < base from hR) v3
/-- What Apply answers. -/
def RdEnd (w : World) (b : List Ln) (ps : List (Int × Int)) (gs ms : List Int) (q : Int) (e : Ending) (w' : World) : Prop :=
  ∃ BA bc PA pc GA gc MA mc, e = .returned (.tuple #[.agg #[.slice BA b.length bc, .slice PA ps.length pc, .slice GA gs.length gc, .slice MA ms.length mc], .int .i64 q]) ∧ LinesIn w' BA b ∧ PrIn w' PA ps ∧ IntsIn w' GA gs ∧ IntsIn w' MA ms ∧ Below w.heap.size w w'

set_option maxRecDepth 100000 in
set_option maxHeartbeats 8000000 in
theorem rpapply_bad (A B : Option Addr) (c c' : Nat) (hs : List Hk) (a : List Ln) (w : World) (hH : HksIn 0 w A hs) (hok : HksOk hs) (hL : LinesIn w B a) (hc : a.length ≤ c') (hz : B = none → c' = 0) (ham : a.length ≤ maxLen) (hq : (whl hs a).2 ≠ 0) :
    Calls Try.prog 11 #[.slice A hs.length c, .slice B a.length c'] w (RdEnd w (mde hs a).1 (prT (tld hs a)) (goT (tld hs a)) (maT (tld hs a)) (mde hs a).2) := by
  have hm : mde hs a = ([], (whl hs a).2) := by unfold mde; rw [if_neg hq]
  have ht : tld hs a = [] := (mde_bad (by rw [hm]; exact hq)).2.2
  rw [hm, ht]
  obtain ⟨p0, hp0, pz0, pz1, pz2⟩ := info_parts infoPair
  obtain ⟨n0, hn0, nz0, nz1, nz2⟩ := info_parts L.infoInt
  obtain ⟨l0i, hl0i, lz0, lz1, lz2⟩ := info_parts infoLine
  obtain ⟨W0, hW0⟩ : ∃ W : World, W = w.alloc (.cells #[.slice none 0 0, .slice none 0 0, .slice none 0 0, .slice none 0 0] 32) := ⟨_, rfl⟩
  have hb0 : Below w.heap.size w W0 := by rw [hW0]; exact alloc1 _ _
  have hx0 : W0.heap[w.heap.size]? = some (.cells #[.slice none 0 0, .slice none 0 0, .slice none 0 0, .slice none 0 0] 32 (0, 0)) := by rw [hW0]; exact heap_alloc_new w _
  have HWH := Lib.hid (rwhole_any A B c c' hs a W0 (hH.below hb0) hok (hL.below hb0) hc hz ham)
  have HB0 := Lib.hid hb0
  have HX0 := Lib.hid hx0
  generalize (whl hs a).1 = es at *
  generalize (whl hs a).2 = q at *
  have h0 : (q == 0) = false := beq_eq_false_iff_ne.2 hq
  have h1 : (q != 0) = true := by simp [bne, h0]
  clear hH hok hL hb0 hx0 hm ht hq
  obtain ⟨R, hR⟩ : ∃ R, R = w.heap.size := ⟨_, rfl⟩
  have HR := Lib.hid hR
  rw [← hR] at HX0
  clear hR
  go_enter Try.func11, Try.ntmps11
  go_upto_region 1 with fail
  rw [← hW0]
  clear hW0
  rw [← HR.out]
  go_wp2_with fail
  with_reducible refine (HWH.out).mono ?_
  rintro e w1 ⟨XA, xc, rfl, -, hb1⟩
  have hx1 := (hb1.block R (L.blk_lt HX0.out)).trans HX0.out
  have HB1 := Lib.hid (HB0.out.trans (hb1.mono HB0.out.size))
  have r0 := L.blk_cell hx1 0
  have r1 := L.blk_cell hx1 1
  have r2 := L.blk_cell hx1 2
  have r3 := L.blk_cell hx1 3
  have f0 := L.blk_free hx1 0
  have f1 := L.blk_free hx1 1
  have f2 := L.blk_free hx1 2
  have f3 := L.blk_free hx1 3
  simp only [List.getElem?_toArray, List.getElem?_cons_zero, List.getElem?_cons_succ] at r0 r1 r2 r3
  clear hb1 HWH HX0 HB0
  have HY := Lib.hid (set4 (v0 := .slice none 0 0) (v1 := .slice none 0 0) (v2 := .slice none 0 0) (v3 := .slice none 0 0) hx1)
  have HW4 := Lib.hid (show Below w.heap.size w ((((w1.setCell ⟨R, 0, none⟩ (.slice none 0 0)).setCell ⟨R, 1, none⟩ (.slice none 0 0)).setCell ⟨R, 2, none⟩ (.slice none 0 0)).setCell ⟨R, 3, none⟩ (.slice none 0 0)) from below4 HB1.out (by rw [HR.out]; exact Nat.le_refl _) _ _ _ _)
  clear hx1
  go_wp2_with fail
  obtain ⟨W4, hW4⟩ : ∃ W : World, W = ((((w1.setCell ⟨R, 0, none⟩ (.slice none 0 0)).setCell ⟨R, 1, none⟩ (.slice none 0 0)).setCell ⟨R, 2, none⟩ (.slice none 0 0)).setCell ⟨R, 3, none⟩ (.slice none 0 0)) := ⟨_, rfl⟩
  rw [← hW4] at HY HW4 ⊢
  have x0 := L.blk_cell HY.out 0
  have x1 := L.blk_cell HY.out 1
  have x2 := L.blk_cell HY.out 2
  have x3 := L.blk_cell HY.out 3
  simp only [List.getElem?_toArray, List.getElem?_cons_zero, List.getElem?_cons_succ] at x0 x1 x2 x3
  exact bodyPost_ret (v := .tuple #[.agg #[.slice none 0 0, .slice none 0 0, .slice none 0 0, .slice none 0 0], .int .i64 q]) (by simp [results, Try.results11, go_sem, x0, x1, x2, x3]) rfl ⟨none, 0, none, 0, none, 0, none, 0, rfl, fun h => absurd h (by simp), fun h => absurd h (by simp [prT]), fun h => absurd h (by simp [goT]), fun h => absurd h (by simp [maT]), HW4.out⟩

set_option maxRecDepth 100000 in
set_option maxHeartbeats 8000000 in
theorem rpapply_good (A B : Option Addr) (c c' : Nat) (hs : List Hk) (a : List Ln) (w : World) (hH : HksIn 0 w A hs) (hok : HksOk hs) (hL : LinesIn w B a) (hc : a.length ≤ c') (hz : B = none → c' = 0) (ham : a.length ≤ maxLen) (hT : ∀ y ∈ sd 2 (whl hs a).1, y.1.length ≤ maxLen) (hq : (whl hs a).2 = 0) :
    Calls Try.prog 11 #[.slice A hs.length c, .slice B a.length c'] w (RdEnd w (mde hs a).1 (prT (tld hs a)) (goT (tld hs a)) (maT (tld hs a)) (mde hs a).2) := by
  have wo := whl_is hq
  have HF1 : Hid (400 < (sd 2 (whl hs a).1).length → mde hs a = ([], 4) ∧ tld hs a = []) := Lib.hid (fun h => by
    have e : mde hs a = ([], 4) := by unfold mde; rw [if_pos hq, if_pos h]
    exact ⟨e, (mde_bad (by rw [e]; decide)).2.2⟩)
  have HF2 : Hid (¬ 400 < (sd 2 (whl hs a).1).length → P.right (sd 2 (whl hs a).1) = false → mde hs a = ([], 3) ∧ tld hs a = []) := Lib.hid (fun h h2 => by
    have e : mde hs a = ([], 3) := by unfold mde; rw [if_pos hq, if_neg h, if_neg (by rw [h2]; simp)]
    exact ⟨e, (mde_bad (by rw [e]; decide)).2.2⟩)
  have HF3 : Hid (¬ 400 < (sd 2 (whl hs a).1).length → P.right (sd 2 (whl hs a).1) = true → mde hs a = (sd 2 (whl hs a).1, 0) ∧ tld hs a = tks 0 0 (flat (whl hs a).1)) := Lib.hid (fun h h2 => by
    have e : mde hs a = (sd 2 (whl hs a).1, 0) := by unfold mde; rw [if_pos hq, if_neg h, if_pos h2]
    refine ⟨e, ?_⟩
    unfold tld
    rw [(mde_ok (by rw [e])).2.2.2.2])
  obtain ⟨p0, hp0, pz0, pz1, pz2⟩ := info_parts infoPair
  obtain ⟨n0, hn0, nz0, nz1, nz2⟩ := info_parts L.infoInt
  obtain ⟨l0i, hl0i, lz0, lz1, lz2⟩ := info_parts infoLine
  obtain ⟨W0, hW0⟩ : ∃ W : World, W = w.alloc (.cells #[.slice none 0 0, .slice none 0 0, .slice none 0 0, .slice none 0 0] 32) := ⟨_, rfl⟩
  have hb0 : Below w.heap.size w W0 := by rw [hW0]; exact alloc1 _ _
  have hx0 : W0.heap[w.heap.size]? = some (.cells #[.slice none 0 0, .slice none 0 0, .slice none 0 0, .slice none 0 0] 32 (0, 0)) := by rw [hW0]; exact heap_alloc_new w _
  have HWH := Lib.hid (rwhole_any A B c c' hs a W0 (hH.below hb0) hok (hL.below hb0) hc hz ham)
  rw [hq] at HWH
  have HB0 := Lib.hid hb0
  have HX0 := Lib.hid hx0
  have hk := wo.ck
  have HSG := Lib.hid (c_single (es := (whl hs a).1) (by have := (ck_ok hk).1; omega) (by have := wo.tl; omega))
  have hFl : (flat (whl hs a).1).length ≤ 800 := by rw [← tl_flat]; exact wo.tl
  have HGF := Lib.hid (good_flat (ck_ok hk).2.2)
  have HT := Lib.hid hT
  have hLn : (sgl (whl hs a).1).length = (flat (whl hs a).1).length := by unfold sgl; rw [List.length_map]
  have HLE : Hid (sgl (whl hs a).1 = (flat (whl hs a).1).map sng) := Lib.hid rfl
  rw [sd_flat] at HF1 HF2 HF3 HT
  generalize mde hs a = M at *
  generalize tld hs a = Tl at *
  generalize sgl (whl hs a).1 = LL at *
  generalize flat (whl hs a).1 = F at *
  generalize (whl hs a).1 = es at *
  have HLN := Lib.hid hLn
  clear hH hok hL hb0 hx0 hq wo hk hT hLn
  obtain ⟨R, hR⟩ : ∃ R, R = w.heap.size := ⟨_, rfl⟩
  have HR := Lib.hid hR
  rw [← hR] at HX0
  clear hR
  go_enter Try.func11, Try.ntmps11
  go_upto_region 1 with fail
  rw [← hW0]
  clear hW0
  rw [← HR.out]
  go_wp2_with fail
  with_reducible refine (HWH.out).mono ?_
  rintro e w1 ⟨XA, xc, rfl, hE1, hb1⟩
  have HX1 := Lib.hid ((hb1.block R (L.blk_lt HX0.out)).trans HX0.out)
  have HB1 := Lib.hid (HB0.out.trans (hb1.mono HB0.out.size))
  have HE1 := Lib.hid hE1
  clear hE1 hb1 HWH HX0 HB0
  go_wp2_with fail
  with_reducible refine (HSG.out.at xc HE1.out).mono ?_
  rintro e w3 ⟨SA, sc, rfl, hE3, hb3⟩
  have HX3 := Lib.hid ((hb3.block R (L.blk_lt HX1.out)).trans HX1.out)
  have HB3 := Lib.hid (HB1.out.trans (hb3.mono HB1.out.size))
  have HE3 := Lib.hid hE3
  clear hE3 hb3 HSG HX1 HB1 HE1
  rw [HLN.out]
  obtain ⟨W4, hW4⟩ : ∃ W : World, W = w3.alloc (.cells #[.slice none 0 0, .slice none 0 0, .slice none 0 0, .slice none 0 0] 32) := ⟨_, rfl⟩
  have HD4 : Hid (Dn w3 W4 w3.heap.size (.slice none 0 0) (.slice none 0 0) (.slice none 0 0) (.slice none 0 0) [] [] [] []) := Lib.hid ⟨by rw [hW4]; exact heap_alloc_new w3 _, World.ownsRow_nil _ _ _ _, World.ownsRow_nil _ _ _ _, World.ownsRow_nil _ _ _ _, World.ownsRow_nil _ _ _ _, Apart.nil _, by rw [hW4]; exact alloc1 _ _, rfl, by rw [hW4]; simp⟩
  obtain ⟨X, hX⟩ : ∃ X, X = w3.heap.size := ⟨_, rfl⟩
  rw [← hX] at HD4
  go_upto_region 6 with fail
  rw [← hX]

  rw [← hW4]
  clear hW4 hX
  go_wp2_with fail
  go_loopg [10, 11] F.length (fun m iv kv wr => ∃ (k i : Nat) (vB vP vG vM : Value) (b : List Ln) (ps : List (Int × Int)) (gs ms : List Int), k ≤ F.length ∧ kv = .int .i64 k ∧ iv = .int .i64 i ∧ F.length - k ≤ m ∧ i ≤ k ∧ b.length ≤ k ∧ ps.length ≤ k ∧ gs.length ≤ k ∧ ms.length ≤ k ∧ Hid (Dn w3 wr X vB vP vG vM b ps gs ms) ∧ Hid (St F k i b ps gs ms))
  case atStart => exact ⟨0, 0, _, _, _, _, [], [], [], [], Nat.zero_le _, rfl, rfl, by omega, Nat.le_refl _, Nat.le_refl _, Nat.le_refl _, Nat.le_refl _, Nat.le_refl _, HD4, Lib.hid (St.start F)⟩
  case round =>
    clear HD4
    obtain ⟨k, i, vB, vP, vG, vM, b, ps, gs, ms, hk, rfl, rfl, hmm, hik, hbk, hpk, hgk, hmk, HD, HS⟩ := hrel
    obtain ⟨BA, bcap, rfl, -, -⟩ := own_form HD.out.oB
    obtain ⟨PA, pcap, rfl, -, -⟩ := own_form HD.out.oP
    obtain ⟨GA, gcap, rfl, -, -⟩ := own_form HD.out.oG
    obtain ⟨MA, mcap, rfl, -, -⟩ := own_form HD.out.oM
    have hbx := HD.out.box
    have x0 := L.blk_cell hbx 0
    have x1 := L.blk_cell hbx 1
    have x2 := L.blk_cell hbx 2
    have x3 := L.blk_cell hbx 3
    simp only [List.getElem?_toArray, List.getElem?_cons_zero, List.getElem?_cons_succ] at x0 x1 x2 x3
    clear hbx
    by_cases hlt : k < F.length
    · have hLk : k < LL.length := by have := HLN.out; omega
      obtain ⟨bk, off, LA, lc, hAe, hcell, hln, -⟩ := edit_in HE3.out hLk
      subst hAe
      have hel : LL[k] = (F[k].1, [F[k].2]) := by
        have e : LL[k] = (F.map sng)[k]'(by rw [List.length_map]; exact hlt) := List.getElem_of_eq HLE.out hLk
        rw [e, List.getElem_map]; rfl
      rw [hel] at hcell hln
      have hgd := HGF.out _ (List.getElem_mem hlt)
      obtain ⟨x, hx⟩ : ∃ x, x = F[k] := ⟨_, rfl⟩
      rw [← hx] at hcell hln hgd
      obtain ⟨d, y⟩ := x
      simp only [List.length_cons, List.length_nil, Nat.zero_add] at hcell hln hgd
      obtain ⟨lb, lo, hLe, hlb, hI⟩ := hln (by simp)
      subst hLe
      obtain ⟨g0, g1⟩ := hI 0 (by simp)
      simp only [List.getElem_cons_zero, Nat.zero_mul, Nat.add_zero] at g0 g1
      have HXE := Lib.hid hx.symm
      obtain ⟨zs, hzs⟩ : ∃ q : ByteArray, q = ⟨y.1.toArray⟩ := ⟨_, rfl⟩
      obtain ⟨zb, hzb⟩ : ∃ q : Bool, q = y.2 := ⟨_, rfl⟩
      rw [← hzs] at g0
      rw [← hzb] at g1
      have HZS := Lib.hid (And.intro hzs hzb)
      have HLC : Hid (lineCells (b ++ [y]) = lineCells b ++ [.string zs, .bool zb]) := Lib.hid (by rw [hzs, hzb]; simp [lineCells])
      have HCL : Hid (∀ W, Below w3.heap.size w3 W → W.cell? ⟨bk, off + k * 2, none⟩ = some (.int .i64 d) ∧ W.cell? ⟨bk, off + k * 2 + 1, none⟩ = some (.slice (some ⟨lb, lo, none⟩) 1 lc) ∧ W.cell? ⟨lb, lo, none⟩ = some (.string zs) ∧ W.cell? ⟨lb, lo + 1, none⟩ = some (.bool zb)) := Lib.hid (fun W hb => ⟨(hcell W hb).1, (hcell W hb).2, (hb.cell (p := ⟨lb, lo, none⟩) hlb).trans g0, (hb.cell (p := ⟨lb, lo + 1, none⟩) hlb).trans g1⟩)
      obtain ⟨c0, c1, l0, l1⟩ := HCL.out wr HD.out.b4
      have h0k : (0 : Int) ≤ (k : Int) := by omega
      have hki : (k : Int) < (F.length : Int) := by omega
      have hwi : IntKind.i64.wrap ((i : Int) + 1) = (i : Int) + 1 := by rw [IntKind.wrap_i64]; omega
      clear hel hx hcell hln hI g0 g1 hzs hzb hLk hlb
      rcases hgd with rfl | rfl | rfl
      · have HS2 := Lib.hid (HS.out.keep HGF.out hlt HXE.out)
        have HPC := Lib.hid (prCells_snoc ps ((i : Int), (b.length : Int)))
        have HD5 := Lib.hid (HD.out.below (alloc1 wr (.cells #[.int .i64 (i : Int), .int .i64 (b.length : Int)] 57)))
        have HNW := Lib.hid (World.news_of_block (heap_alloc_new wr (.cells #[.int .i64 (i : Int), .int .i64 (b.length : Int)] 57)))
        have H1C : Hid (∀ u ∈ ([.int .i64 (i : Int), .int .i64 (b.length : Int)] : List Value), u.oneCell' = true) := Lib.hid (by intro u hu; simp only [List.mem_cons, List.not_mem_nil, or_false] at hu; rcases hu with rfl | rfl <;> rfl)
        have hbs : X + 1 ≤ (wr.alloc (.cells #[.int .i64 (i : Int), .int .i64 (b.length : Int)] 57)).heap.size := HD5.out.hs
        go_upto_region 13 with (at_builtin; refine wpList_append_own_at _ rfl (.tmp 39) (.tmp 45) 24 rfl (X + 1) 57 p0 _ 2 16 Try.underlying24 hp0 pz0 pz1 pz2 rfl (by decide) (.slice PA ps.length pcap) ps.length (prCells ps) rfl HD5.out.oP ⟨wr.heap.size, 0, none⟩ 1 1 [.int .i64 (i : Int), .int .i64 (b.length : Int)] rfl rfl HNW.out H1C.out (by simp only [maxLen]; omega) (by omega) hbs ?_; intro v4 w4 ho4 hg4 _ hat4; obtain ⟨VA, vcap, rfl, -, -⟩ := own_form ho4; have HAD := Lib.hid (HD5.out.addP hg4 (by rw [List.length_append, HPC.out]; exact ho4)); have q0 := L.blk_cell HAD.out.1 1; have f0 := L.blk_free HAD.out.1 1; simp only [List.getElem?_toArray, List.getElem?_cons_zero, List.getElem?_cons_succ] at q0; clear ho4 hg4 hat4)
        obtain ⟨w6, hw6⟩ : ∃ W : World, W = w4.setCell ⟨X, 1, none⟩ (.slice VA (ps.length + 1) vcap) := ⟨_, rfl⟩
        have HD6 := Lib.hid HAD.out.2
        rw [← hw6] at HD6 ⊢
        clear hw6 HAD HD5 HNW H1C hbs q0 f0 c0 c1 l0 l1 x0 x1 x2 x3
        obtain ⟨c0, c1, l0, l1⟩ := HCL.out w6 HD6.out.b4
        have x0 := L.blk_cell HD6.out.box 0
        simp only [List.getElem?_toArray, List.getElem?_cons_zero] at x0
        have hX6 : X < w6.heap.size := HD6.out.hs
        have xA : ∀ o, (w6.alloc o).cell? ⟨X, 0, none⟩ = some (.slice BA b.length bcap) := fun o => ((alloc1 w6 o).cell (p := ⟨X, 0, none⟩) hX6).trans x0
        have HD7 : Hid (Dn w3 ((w6.alloc (.cells #[.string zs, .bool zb] 59)).drew) X (.slice BA b.length bcap) (.slice VA (ps.length + 1) vcap) (.slice GA gs.length gcap) (.slice MA ms.length mcap) b (ps ++ [((i : Int), (b.length : Int))]) gs ms) := Lib.hid ((HD6.out.below (alloc1 w6 (.cells #[.string zs, .bool zb] 59))).below (Below.refl _ _).drew)
        have HNW := Lib.hid (World.news_of_block (w := (w6.alloc (.cells #[.string zs, .bool zb] 59)).drew) (B := w6.heap.size) (show ((w6.alloc (.cells #[.string zs, .bool zb] 59)).drew).heap[w6.heap.size]? = some (.cells #[.string zs, .bool zb] 59 (0, 0)) from heap_alloc_new w6 (.cells #[.string zs, .bool zb] 59)))
        have H1C : Hid (∀ u ∈ ([.string zs, .bool zb] : List Value), u.oneCell' = true) := Lib.hid (by intro u hu; simp only [List.mem_cons, List.not_mem_nil, or_false] at hu; rcases hu with rfl | rfl <;> rfl)
        have hsz : X + 1 ≤ ((w6.alloc (.cells #[.string zs, .bool zb] 59)).drew).heap.size := HD7.out.hs
        go_cut [] (fun w8 => ∃ vB2, Hid (Dn w3 w8 X vB2 (.slice VA (ps.length + 1) vcap) (.slice GA gs.length gcap) (.slice MA ms.length mcap) (b ++ [y]) (ps ++ [((i : Int), (b.length : Int))]) gs ms))
        case first =>
          go_region_law ((refine step_append_lies _ (by rfl) (.tmp 49) (.tmp 57) 23 (by rfl) (X + 1) 59 l0i _ 2 24 Try.underlying23 hl0i lz0 lz1 lz2 rfl (by decide) (.slice BA b.length bcap) b.length (lineCells b) (by rfl) HD7.out.oB ⟨w6.heap.size, 0, none⟩ 1 1 [.string zs, .bool zb] (by rfl) rfl HNW.out H1C.out (by omega) (by unfold maxLen; omega) (by omega) hsz _ rfl ?_; intro g3 cap3 w8 hown3 hgrow3 hat3 hlt3; have HAD := Lib.hid (HD7.out.addB hgrow3 (by rw [List.length_append, HLC.out]; exact hown3)); have q0 := L.blk_cell HAD.out.1 0; have f0 := L.blk_free HAD.out.1 0; simp only [List.getElem?_toArray, List.getElem?_cons_zero] at q0; clear hown3 hgrow3 hat3 hlt3))
          all_goals
            go_wp2_with fail
            go_meet
            case rel => exact ⟨_, Lib.hid HAD.out.2⟩
        case rest =>
        obtain ⟨vB2, HD8⟩ := hcut
        generalize wc = w8 at *
        clear HD6 HD7 HNW H1C hsz xA x0 c0 c1 l0 l1
        go_wp2_with fail
        go_roundg (F.length - (k + 1))
        case rel => exact ⟨k + 1, i + 1, _, _, _, _, _, _, _, _, by omega, by go_num, by go_num, Nat.le_refl _, by omega, by simp; omega, by simp; omega, by omega, by omega, HD8, HS2⟩
        case measure => omega
      · have HS2 := Lib.hid (HS.out.out HGF.out hlt HXE.out)
        have HPC := Lib.hid (numCells_snoc gs (i : Int))
        have HD5 := Lib.hid (HD.out.below (alloc1 wr (.cells #[.int .i64 (i : Int)] 3)))
        have HNW := Lib.hid (World.news_of_block (heap_alloc_new wr (.cells #[.int .i64 (i : Int)] 3)))
        have H1C : Hid (∀ u ∈ ([.int .i64 (i : Int)] : List Value), u.oneCell' = true) := Lib.hid (by intro u hu; simp only [List.mem_cons, List.not_mem_nil, or_false] at hu; rcases hu with rfl <;> rfl)
        have hbs : X + 1 ≤ (wr.alloc (.cells #[.int .i64 (i : Int)] 3)).heap.size := HD5.out.hs
        go_upto_region 17 with (at_builtin; refine wpList_append_own_at _ rfl (.tmp 65) (.tmp 67) 28 rfl (X + 1) 3 n0 _ 1 8 Try.underlying28 hn0 nz0 nz1 nz2 rfl (by decide) (.slice GA gs.length gcap) gs.length (numCells gs) rfl HD5.out.oG ⟨wr.heap.size, 0, none⟩ 1 1 [.int .i64 (i : Int)] rfl rfl HNW.out H1C.out (by simp only [maxLen]; omega) (by omega) hbs ?_; intro v4 w4 ho4 hg4 _ hat4; obtain ⟨VA, vcap, rfl, -, -⟩ := own_form ho4; have HAD := Lib.hid (HD5.out.addG hg4 (by rw [List.length_append, HPC.out]; exact ho4) hat4); have q0 := L.blk_cell HAD.out.1 2; have f0 := L.blk_free HAD.out.1 2; simp only [List.getElem?_toArray, List.getElem?_cons_zero, List.getElem?_cons_succ] at q0; clear ho4 hg4 hat4)
        obtain ⟨w6, hw6⟩ : ∃ W : World, W = w4.setCell ⟨X, 2, none⟩ (.slice VA (gs.length + 1) vcap) := ⟨_, rfl⟩
        have HD6 := Lib.hid HAD.out.2
        rw [← hw6] at HD6 ⊢
        clear hw6 HAD HD5 HNW H1C hbs q0 f0 c0 c1 l0 l1 x0 x1 x2 x3
        go_wp2_with fail
        go_roundg (F.length - (k + 1))
        case rel => exact ⟨k + 1, i + 1, _, _, _, _, _, _, _, _, by omega, by go_num, by go_num, Nat.le_refl _, by omega, by omega, by omega, by simp; omega, by omega, HD6, HS2⟩
        case measure => omega
      · have HS2 := Lib.hid (HS.out.put HGF.out hlt HXE.out)
        have HPC := Lib.hid (numCells_snoc ms (b.length : Int))
        have HD5 := Lib.hid (HD.out.below (alloc1 wr (.cells #[.int .i64 (b.length : Int)] 3)))
        have HNW := Lib.hid (World.news_of_block (heap_alloc_new wr (.cells #[.int .i64 (b.length : Int)] 3)))
        have H1C : Hid (∀ u ∈ ([.int .i64 (b.length : Int)] : List Value), u.oneCell' = true) := Lib.hid (by intro u hu; simp only [List.mem_cons, List.not_mem_nil, or_false] at hu; rcases hu with rfl <;> rfl)
        have hbs : X + 1 ≤ (wr.alloc (.cells #[.int .i64 (b.length : Int)] 3)).heap.size := HD5.out.hs
        go_upto_region 20 with (at_builtin; refine wpList_append_own_at _ rfl (.tmp 75) (.tmp 79) 28 rfl (X + 1) 3 n0 _ 1 8 Try.underlying28 hn0 nz0 nz1 nz2 rfl (by decide) (.slice MA ms.length mcap) ms.length (numCells ms) rfl HD5.out.oM ⟨wr.heap.size, 0, none⟩ 1 1 [.int .i64 (b.length : Int)] rfl rfl HNW.out H1C.out (by simp only [maxLen]; omega) (by omega) hbs ?_; intro v4 w4 ho4 hg4 _ hat4; obtain ⟨VA, vcap, rfl, -, -⟩ := own_form ho4; have HAD := Lib.hid (HD5.out.addM hg4 (by rw [List.length_append, HPC.out]; exact ho4) hat4); have q0 := L.blk_cell HAD.out.1 3; have f0 := L.blk_free HAD.out.1 3; simp only [List.getElem?_toArray, List.getElem?_cons_zero, List.getElem?_cons_succ] at q0; clear ho4 hg4 hat4)
        obtain ⟨w6, hw6⟩ : ∃ W : World, W = w4.setCell ⟨X, 3, none⟩ (.slice VA (ms.length + 1) vcap) := ⟨_, rfl⟩
        have HD6 := Lib.hid HAD.out.2
        rw [← hw6] at HD6 ⊢
        clear hw6 HAD HD5 HNW H1C hbs q0 f0 c0 c1 l0 l1 x0 x1 x2 x3
        obtain ⟨c0, c1, l0, l1⟩ := HCL.out w6 HD6.out.b4
        have x0 := L.blk_cell HD6.out.box 0
        simp only [List.getElem?_toArray, List.getElem?_cons_zero] at x0
        have hX6 : X < w6.heap.size := HD6.out.hs
        have xA : ∀ o, (w6.alloc o).cell? ⟨X, 0, none⟩ = some (.slice BA b.length bcap) := fun o => ((alloc1 w6 o).cell (p := ⟨X, 0, none⟩) hX6).trans x0
        have HD7 : Hid (Dn w3 ((w6.alloc (.cells #[.string zs, .bool zb] 59)).drew) X (.slice BA b.length bcap) (.slice PA ps.length pcap) (.slice GA gs.length gcap) (.slice VA (ms.length + 1) vcap) b ps gs (ms ++ [(b.length : Int)])) := Lib.hid ((HD6.out.below (alloc1 w6 (.cells #[.string zs, .bool zb] 59))).below (Below.refl _ _).drew)
        have HNW := Lib.hid (World.news_of_block (w := (w6.alloc (.cells #[.string zs, .bool zb] 59)).drew) (B := w6.heap.size) (show ((w6.alloc (.cells #[.string zs, .bool zb] 59)).drew).heap[w6.heap.size]? = some (.cells #[.string zs, .bool zb] 59 (0, 0)) from heap_alloc_new w6 (.cells #[.string zs, .bool zb] 59)))
        have H1C : Hid (∀ u ∈ ([.string zs, .bool zb] : List Value), u.oneCell' = true) := Lib.hid (by intro u hu; simp only [List.mem_cons, List.not_mem_nil, or_false] at hu; rcases hu with rfl | rfl <;> rfl)
        have hsz : X + 1 ≤ ((w6.alloc (.cells #[.string zs, .bool zb] 59)).drew).heap.size := HD7.out.hs
        go_region_law ((refine step_append_lies _ (by rfl) (.tmp 83) (.tmp 91) 23 (by rfl) (X + 1) 59 l0i _ 2 24 Try.underlying23 hl0i lz0 lz1 lz2 rfl (by decide) (.slice BA b.length bcap) b.length (lineCells b) (by rfl) HD7.out.oB ⟨w6.heap.size, 0, none⟩ 1 1 [.string zs, .bool zb] (by rfl) rfl HNW.out H1C.out (by omega) (by unfold maxLen; omega) (by omega) hsz _ rfl ?_; intro g3 cap3 w8 hown3 hgrow3 hat3 hlt3; have HAD := Lib.hid (HD7.out.addB hgrow3 (by rw [List.length_append, HLC.out]; exact hown3)); have q0 := L.blk_cell HAD.out.1 0; have f0 := L.blk_free HAD.out.1 0; simp only [List.getElem?_toArray, List.getElem?_cons_zero] at q0; clear hown3 hgrow3 hat3 hlt3))
        all_goals
          go_wp2_with fail
          go_roundg (F.length - (k + 1))
          case rel => exact ⟨k + 1, i, _, _, _, _, _, _, _, _, by omega, by go_num, rfl, Nat.le_refl _, by omega, by simp; omega, by omega, by omega, by simp; omega, Lib.hid HAD.out.2, HS2⟩
          case measure => omega
    · obtain rfl : k = F.length := by omega
      have HQ : Hid (b = sdl 2 F ∧ ps = prT (tks 0 0 F) ∧ gs = goT (tks 0 0 F) ∧ ms = maT (tks 0 0 F)) := Lib.hid (by
        have h := HS.out
        have h1 := h.b
        have h2 := h.p
        have h3 := h.g
        have h4 := h.m
        rw [List.take_length] at h1 h2 h3 h4
        exact ⟨h1, h2, h3, h4⟩)
      have HXR := Lib.hid ((HD.out.b4.block R (L.blk_lt HX3.out)).trans HX3.out)
      have HRX : Hid (R < X + 1) := Lib.hid (by have := L.blk_lt HX3.out; have := HD.out.hX; omega)
      have HBR := Lib.hid (HB3.out.trans (HD.out.b4.mono HB3.out.size))
      have HRG := Lib.hid (refRight_anyT BA bcap b wr (by omega) (by rw [HQ.out.1]; exact HT.out) (own_lines HD.out.oB))
      have r0 := L.blk_cell HXR.out 0
      have r1 := L.blk_cell HXR.out 1
      have r2 := L.blk_cell HXR.out 2
      have r3 := L.blk_cell HXR.out 3
      have f0 := L.blk_free HXR.out 0
      have f1 := L.blk_free HXR.out 1
      have f2 := L.blk_free HXR.out 2
      have f3 := L.blk_free HXR.out 3
      simp only [List.getElem?_toArray, List.getElem?_cons_zero, List.getElem?_cons_succ] at r0 r1 r2 r3
      clear hlt hmm HS hk HE3 HX3
      rw [HQ.out.1.symm] at HF1 HF2 HF3
      by_cases h400 : 400 < b.length
      · obtain ⟨rfl, rfl⟩ := HF1.out h400
        have h4 : decide ((400 : Int) < (b.length : Int)) = true := decide_eq_true (by omega)
        obtain ⟨W4, hW4⟩ : ∃ W : World, W = ((((wr.setCell ⟨R, 0, none⟩ (.slice none 0 0)).setCell ⟨R, 1, none⟩ (.slice none 0 0)).setCell ⟨R, 2, none⟩ (.slice none 0 0)).setCell ⟨R, 3, none⟩ (.slice none 0 0)) := ⟨_, rfl⟩
        have HY := Lib.hid (set4 (v0 := .slice none 0 0) (v1 := .slice none 0 0) (v2 := .slice none 0 0) (v3 := .slice none 0 0) HXR.out)
        have HW4 := Lib.hid (below4 (R := R) HBR.out (by rw [HR.out]; exact Nat.le_refl _) (.slice none 0 0) (.slice none 0 0) (.slice none 0 0) (.slice none 0 0))
        rw [← hW4] at HY HW4
        go_wp2_with fail
        rw [← hW4]
        have y0 := L.blk_cell HY.out 0
        have y1 := L.blk_cell HY.out 1
        have y2 := L.blk_cell HY.out 2
        have y3 := L.blk_cell HY.out 3
        simp only [List.getElem?_toArray, List.getElem?_cons_zero, List.getElem?_cons_succ] at y0 y1 y2 y3
        refine bodyPost_ret (v := .tuple #[.agg #[.slice none 0 0, .slice none 0 0, .slice none 0 0, .slice none 0 0], .int .i64 4]) (by simp [results, Try.results11, go_sem, y0, y1, y2, y3]) rfl ⟨none, 0, none, 0, none, 0, none, 0, rfl, fun h => absurd h (by simp), fun h => absurd h (by simp [prT]), fun h => absurd h (by simp [goT]), fun h => absurd h (by simp [maT]), HW4.out⟩
      · have h4 : decide ((400 : Int) < (b.length : Int)) = false := decide_eq_false (by omega)
        cases hr : P.right b with
        | false =>
          obtain ⟨rfl, rfl⟩ := HF2.out h400 hr
          rw [hr] at HRG
          clear hr
          go_wp2_with fail
          with_reducible refine (HRG.out).mono ?_
          rintro e w9 ⟨rfl, rfl⟩
          obtain ⟨W4, hW4⟩ : ∃ W : World, W = ((((wr.setCell ⟨R, 0, none⟩ (.slice none 0 0)).setCell ⟨R, 1, none⟩ (.slice none 0 0)).setCell ⟨R, 2, none⟩ (.slice none 0 0)).setCell ⟨R, 3, none⟩ (.slice none 0 0)) := ⟨_, rfl⟩
          have HY := Lib.hid (set4 (v0 := .slice none 0 0) (v1 := .slice none 0 0) (v2 := .slice none 0 0) (v3 := .slice none 0 0) HXR.out)
          have HW4 := Lib.hid (below4 (R := R) HBR.out (by rw [HR.out]; exact Nat.le_refl _) (.slice none 0 0) (.slice none 0 0) (.slice none 0 0) (.slice none 0 0))
          rw [← hW4] at HY HW4
          go_wp2_with fail
          rw [← hW4]
          have y0 := L.blk_cell HY.out 0
          have y1 := L.blk_cell HY.out 1
          have y2 := L.blk_cell HY.out 2
          have y3 := L.blk_cell HY.out 3
          simp only [List.getElem?_toArray, List.getElem?_cons_zero, List.getElem?_cons_succ] at y0 y1 y2 y3
          refine bodyPost_ret (v := .tuple #[.agg #[.slice none 0 0, .slice none 0 0, .slice none 0 0, .slice none 0 0], .int .i64 3]) (by simp [results, Try.results11, go_sem, y0, y1, y2, y3]) rfl ⟨none, 0, none, 0, none, 0, none, 0, rfl, fun h => absurd h (by simp), fun h => absurd h (by simp [prT]), fun h => absurd h (by simp [goT]), fun h => absurd h (by simp [maT]), HW4.out⟩
        | true =>
          obtain ⟨rfl, rfl⟩ := HF3.out h400 hr
          rw [hr] at HRG
          clear hr
          go_wp2_with fail
          with_reducible refine (HRG.out).mono ?_
          rintro e w9 ⟨rfl, rfl⟩
          obtain ⟨W4, hW4⟩ : ∃ W : World, W = ((((wr.setCell ⟨R, 0, none⟩ (.slice BA b.length bcap)).setCell ⟨R, 1, none⟩ (.slice PA ps.length pcap)).setCell ⟨R, 2, none⟩ (.slice GA gs.length gcap)).setCell ⟨R, 3, none⟩ (.slice MA ms.length mcap)) := ⟨_, rfl⟩
          have HY := Lib.hid (set4 (v0 := .slice BA b.length bcap) (v1 := .slice PA ps.length pcap) (v2 := .slice GA gs.length gcap) (v3 := .slice MA ms.length mcap) HXR.out)
          have HW4 := Lib.hid (below4 (R := R) HBR.out (by rw [HR.out]; exact Nat.le_refl _) (.slice BA b.length bcap) (.slice PA ps.length pcap) (.slice GA gs.length gcap) (.slice MA ms.length mcap))
          have HO := Lib.hid (And.intro (own4 HD.out.oB HRX.out (.slice BA b.length bcap) (.slice PA ps.length pcap) (.slice GA gs.length gcap) (.slice MA ms.length mcap)) (And.intro (own4 HD.out.oP HRX.out (.slice BA b.length bcap) (.slice PA ps.length pcap) (.slice GA gs.length gcap) (.slice MA ms.length mcap)) (And.intro (own4 HD.out.oG HRX.out (.slice BA b.length bcap) (.slice PA ps.length pcap) (.slice GA gs.length gcap) (.slice MA ms.length mcap)) (own4 HD.out.oM HRX.out (.slice BA b.length bcap) (.slice PA ps.length pcap) (.slice GA gs.length gcap) (.slice MA ms.length mcap)))))
          rw [← hW4] at HY HW4 HO
          go_wp2_with fail
          rw [← hW4]
          have y0 := L.blk_cell HY.out 0
          have y1 := L.blk_cell HY.out 1
          have y2 := L.blk_cell HY.out 2
          have y3 := L.blk_cell HY.out 3
          simp only [List.getElem?_toArray, List.getElem?_cons_zero, List.getElem?_cons_succ] at y0 y1 y2 y3
          refine bodyPost_ret (v := .tuple #[.agg #[.slice BA b.length bcap, .slice PA ps.length pcap, .slice GA gs.length gcap, .slice MA ms.length mcap], .int .i64 0]) (by simp [results, Try.results11, go_sem, y0, y1, y2, y3]) rfl ?_
          obtain ⟨e1, e2, e3, e4⟩ := HQ.out
          rw [← e2, ← e3, ← e4]
          exact ⟨BA, bcap, PA, pcap, GA, gcap, MA, mcap, rfl, own_lines HO.out.1, pr_own HO.out.2.1, ints_own HO.out.2.2.1, ints_own HO.out.2.2.2, HW4.out⟩
end Go.Proofs.Ytigghcmbdnidnaa.Pa
