/-
  The law AuditForks.
-/
import Derived.Test.YtbfohfmipfapdaaDoorGLawAuGrows
import Derived.BigQuiet
import Derived.Deep.RegionHeld3
namespace Go.Proofs.YtbfohfmipfapdaaDoor.Au
set_option linter.unusedVariables false
set_option linter.unusedSimpArgs false
open Go.RowKit
open T
open V (drawn_below grown_of)
open I (alloc1 own_at own_below)

/-- Entries added one by one. -/
def ads (ls : List Et) (m : List Et) : List Et := m.foldl addE ls
theorem ads_take (ls : List Et) {m : List Et} {k : Nat} (h : k < m.length) : ads ls (m.take (k + 1)) = addE (ads ls (m.take k)) m[k] := by
  unfold ads
  rw [List.take_succ_eq_append_getElem h, List.foldl_append]; rfl
theorem ads_len (ls m : List Et) : ∀ k, (ads ls (m.take k)).length ≤ ls.length + k
  | 0 => by simp [ads]
  | k + 1 => by
    have ih := ads_len ls m k
    by_cases h : k < m.length
    · rw [ads_take ls h]
      have := addE_len (ads ls (m.take k)) m[k]
      omega
    · rw [List.take_of_length_le (by omega)] at ih ⊢
      omega
theorem ads_ls {ls m : List Et} (h : LsOk ls) (hl : ls.length ≤ 60) (hm : ∀ e ∈ m, EtOk e) : ∀ k, k ≤ 30 → LsOk (ads ls (m.take k))
  | 0, _ => by simpa [ads] using h
  | k + 1, hk => by
    have ih := ads_ls h hl hm k (by omega)
    by_cases hlt : k < m.length
    · rw [ads_take ls hlt]
      exact ih.add (by have := ads_len ls m k; omega) (hm _ (List.getElem_mem hlt))
    · rw [List.take_of_length_le (by omega)] at ih ⊢
      exact ih
/-- Both forks. -/
theorem forks {b0 bx yb : Nat} {w1 : World} {ls : List Et} (hP : Pl b0 w1 bx yb ls ls) :
    Calls Tryd.prog 19 #[.pointer (some ⟨bx, 0, none⟩)] w1 fun x w2 => x = .returned (.pointer (some ⟨w1.heap.size, 0, none⟩)) ∧ Calls Tryd.prog 20 #[.pointer (some ⟨yb, 0, none⟩)] w2 fun x w3 => x = .returned (.pointer (some ⟨w1.heap.size + 1, 0, none⟩)) ∧ Pl w1.heap.size w3 w1.heap.size (w1.heap.size + 1) ls ls ∧ Below w1.heap.size w1 w3 := by
  have hy := hP.ry
  obtain ⟨v, r, B, d, h⟩ := hP
  obtain ⟨A, c, rfl, hc, hz, hI⟩ := h.rw.full
  refine (fork_any ⟨h.x, hc, hz, hI⟩).mono ?_
  rintro x w2 ⟨rfl, rfl⟩
  refine ⟨rfl, ?_⟩
  have hb2 := alloc1 w1 (.cells #[.slice A ls.length ls.length] 52)
  refine (rfork_any (h.y.below hb2)).mono ?_
  rintro x w3 ⟨rfl, rfl⟩
  refine ⟨by simp, ⟨.slice A ls.length ls.length, none, B, d, ?_, .inr ⟨A, rfl, hI.below (hb2.alloc (by simp) _), fun e => ?_, rfl⟩, ⟨at_new _ (by simp), h.y.r, h.y.z, h.y.i.below (hb2.alloc (by simp) _)⟩, fun _ _ _ => by simp, by simp; omega, Nat.le_refl _, by omega⟩, hb2.alloc (by simp) _⟩
  · rw [Below.heap_alloc _ _ _ (by simp)]
    exact heap_alloc_new w1 _
  · have := hz e
    exact List.length_eq_zero_iff.1 (by omega)
theorem row_blk {w : World} {base g n cap size : Nat} {e : TypeId} {xs : List Value} (h : w.ownsRow base e size (.slice (some ⟨g, 0, none⟩) n cap) n xs) : ∃ cs, w.heap[g]? = some (.cells cs e (0, 0)) := by
  rcases h.2 with ⟨h0, _⟩ | ⟨g', cap', cur, hv, _, hg, _⟩
  · cases h0
  · injection hv with e1 _ _
    injection e1 with e1
    injection e1 with e1
    subst e1
    exact ⟨cur, hg⟩
theorem ls_few {l : List Et} (h : ∀ e ∈ l, EtOk e) : LsOk (fine (l.take 60)) := fine_ls h
set_option maxRecDepth 100000 in
set_option maxHeartbeats 8000000 in
theorem aforks_walk {w : World} {A M : Option Addr} {c d : Nat} {l m ls ms s t : List Et} {o0 : Int} {o1 k1 k2 : Nat} (HT : Hid (Tab w)) (HL : Hid (EtsIn w A l)) (HM : Hid (EtsIn w M m)) (hml : m.length ≤ 9223372036854775807) (HPL : Hid (∀ W, EtsIn W A l → Calls Tryd.prog 7 #[.slice A l.length c] W fun e w' => ∃ bx yb, e = .returned (.tuple #[.pointer (some ⟨bx, 0, none⟩), .pointer (some ⟨yb, 0, none⟩), .bool true]) ∧ Pl W.heap.size w' bx yb ls ls ∧ Below W.heap.size W w'))
    (hlen : ls.length ≤ 60) (hsl : s.length ≤ 60) (HMO : Hid (∀ (k : Nat) (h : k < m.length), EtOk m[k])) (hms : ms = ads ls (m.take 30))
    (HSE : Hid (∀ bx, SeC 13 52 bx ls o0 o1 s)) (HRS : Hid (∀ yb, ScC 14 50 yb ls o0 o1 s)) (HSM : Hid (SmC s)) (HSF : Hid (∀ bx, ScC 13 52 bx ms o0 o1 t)) (HRF : Hid (∀ yb, ScC 14 50 yb ms o0 o1 t)) (HSN : Hid (SmC t))
    (HOF : Hid (∀ bx, OfC 9 52 bx ls o0 o1 k1)) (HRO : Hid (∀ yb, OfC 10 50 yb ls o0 o1 k1)) (HOG : Hid (∀ bx, OfC 9 52 bx ms o0 o1 k2)) (HRG : Hid (∀ yb, OfC 10 50 yb ms o0 o1 k2)) :
    Calls Tryd.prog 6 #[.slice A l.length c, .slice M m.length d, .agg #[.int .i64 o0, .int .u64 (o1 : Int)]] w fun e w' => e = .returned (.bool true) ∧ Below w.heap.size w w' := by
  obtain ⟨W0, hW0⟩ : ∃ W : World, W = w.alloc (.cells #[.int .i64 o0, .int .u64 (o1 : Int)] 25) := ⟨_, rfl⟩
  have hB0 : Below w.heap.size w W0 := by rw [hW0]; exact alloc1 _ _
  have HO0 := Lib.hid (show W0.heap[w.heap.size]? = some (.cells #[.int .i64 o0, .int .u64 (o1 : Int)] 25 (0, 0)) by rw [hW0]; exact heap_alloc_new w _)
  have HP0 := Lib.hid (HPL.out W0 (HL.out.below hB0))
  have HM0 := Lib.hid (HM.out.below hB0)
  have HB0 := Lib.hid hB0
  have HT0 := Lib.hid (HT.out.later hB0)
  have HMS := Lib.hid hms
  clear hB0 HPL HL HM HT hms
  go_enter Tryd.func6, Tryd.ntmps6
  go_upto_region 1 with fail
  rw [← hW0]
  obtain ⟨bo, hbo⟩ : ∃ q, q = w.heap.size := ⟨_, rfl⟩
  rw [← hbo] at HO0 ⊢
  clear hW0 hbo
  go_wp2_with fail
  with_reducible refine HP0.out.mono ?_
  rintro e w0 ⟨bx, yb, rfl, hp, hb1⟩
  have HX0 := Lib.hid hp.rx
  have HY0 := Lib.hid hp.ry
  have HFK := Lib.hid (forks hp)
  have HM1 := Lib.hid (HM0.out.below hb1)
  have HO1 := Lib.hid ((hb1.block _ (L.blk_lt HO0.out)).trans HO0.out)
  have HB1 := Lib.hid (HB0.out.trans (hb1.mono HB0.out.size))
  have HT1 := Lib.hid (HT0.out.later hb1)
  clear hp hb1 HP0 HM0 HO0 HB0 HT0
  go_wp2_with fail
  with_reducible refine HFK.out.mono ?_
  rintro e w00 ⟨rfl, hfk⟩
  have HFK2 := Lib.hid hfk
  clear hfk HFK
  go_wp2_with fail
  with_reducible refine HFK2.out.mono ?_
  rintro e w1 ⟨rfl, hp, hb1⟩
  have HX1 := Lib.hid (HX0.out.below hb1)
  have HY1 := Lib.hid (HY0.out.below hb1)
  have HM2 := Lib.hid (HM1.out.below hb1)
  have HO2 := Lib.hid ((hb1.block _ (L.blk_lt HO1.out)).trans HO1.out)
  have HB2 := Lib.hid (HB1.out.trans (hb1.mono HB1.out.size))
  have HT2 := Lib.hid (HT1.out.later hb1)
  have hs0 := HB1.out.size
  obtain ⟨b1, hb1e⟩ : ∃ q, q = w0.heap.size := ⟨_, rfl⟩
  have HBK := Lib.hid (fun (h : 0 < m.length) => HM1.out h)
  have HX0b := Lib.hid (show ∀ W, Below b1 w1 W → LgR W 52 bx ls ∧ LgR W 50 yb ls from fun W h => by
    have h2 : Below w0.heap.size w0 W := hb1.trans (by rw [← hb1e]; exact h)
    exact ⟨HX0.out.below h2, HY0.out.below h2⟩)
  have HOb := Lib.hid (show ∀ W, Below b1 w1 W → W.heap[bo]? = some (.cells #[.int .i64 o0, .int .u64 (o1 : Int)] 25 (0, 0)) from fun W h => (h.block bo (by rw [hb1e]; exact L.blk_lt HO1.out)).trans HO2.out)
  have HMb := Lib.hid (show ∀ W, Below b1 w1 W → EtsIn W M m from fun W h => by
    have h2 : Below w0.heap.size w0 W := hb1.trans (by rw [← hb1e]; exact h)
    exact HM1.out.below h2)
  have HMlt := Lib.hid (show ∀ bk off, 0 < m.length → M = some ⟨bk, off, none⟩ → bk < b1 from fun bk off hp e => by
    obtain ⟨bk', off', e', hlt, -⟩ := HM1.out hp
    rw [e'] at e
    injection e with e
    injection e with e
    rw [hb1e, ← e]; exact hlt)
  rw [← hb1e] at hp hs0
  have HTb := Lib.hid (show ∀ W, Below b1 w1 W → Tab W from fun W h => Tab.below HT2.out h (by rw [hb1e]; exact Tab.size HT1.out))
  have HPA := Lib.hid hp
  have HBB := Lib.hid HB2.out
  rw [← hb1e]
  obtain ⟨bb, hbb⟩ : ∃ q, q = b1 + 1 := ⟨_, rfl⟩
  rw [← hbb] at HPA ⊢
  clear hp hb1 hb1e hbb HX0 HY0 HM1 HO1 HB1 HT1 HX1 HY1 HM2 HO2 HB2 HT2 HFK2 HBK
  have HAK := Lib.hid (fun (k : Nat) (h : k < m.length) => ads_take ls h)
  have HAL := Lib.hid (fun (k : Nat) => ads_len ls m k)
  have HA0 : Hid (ads ls (m.take 0) = ls) := Lib.hid (by simp [ads])
  go_wp2_with fail
  go_loopg [12] m.length (fun q i wr => ∃ k : Nat, k ≤ m.length ∧ k ≤ 30 ∧ i = .int .i64 k ∧ m.length - k ≤ q ∧ Hid (Pl b1 wr b1 bb (ads ls (m.take k)) (ads ls (m.take k))) ∧ Hid (Below b1 w1 wr))
  case atStart => exact ⟨0, Nat.zero_le _, by omega, rfl, by omega, Lib.hid (by rw [HA0.out]; exact HPA.out), Lib.hid (Below.refl _ _)⟩
  case round =>
    obtain ⟨k, hk, hk6, rfl, hm, HPK, HBR⟩ := hrel
    by_cases hlt : k < m.length ∧ k < 30
    · obtain ⟨hlt, hk60⟩ := hlt
      obtain ⟨bk, off, hAe, hbk, c0, c1, c2, c3, c4, c5⟩ := et_at (HMb.out wr HBR.out) hlt
      have hbk2 := HMlt.out bk off (by omega) hAe
      subst hAe
      have h0k : (0 : Int) ≤ (k : Int) := by omega
      have hki : (k : Int) < (m.length : Int) := by omega
      have hk6i : (k : Int) < 30 := by omega
      have HOE := Lib.hid (HMO.out k hlt)
      have HFK := Lib.hid (HAK.out k hlt)
      have hfl : (ads ls (m.take k)).length ≤ 1000 := by have := HAL.out k; omega
      obtain ⟨xs, hxs⟩ : ∃ q, q = ads ls (m.take k) := ⟨_, rfl⟩
      rw [← hxs] at HPK HFK hfl
      clear hxs
      obtain ⟨e, he⟩ : ∃ e, e = m[k]'hlt := ⟨_, rfl⟩
      rw [← he] at c0 c1 c2 c3 c4 c5 HOE HFK
      clear he
      have HX : Hid (∀ W, Below wr.heap.size wr W → Below b1 w1 W → True) := Lib.hid (fun _ _ _ => trivial)
      have HC3 : Hid (∀ W, Pl b1 W b1 bb xs xs → Below b1 w1 W → Calls Tryd.prog 18 #[.pointer (some ⟨b1, 0, none⟩), .agg #[.string e.us, .int .i64 e.lv, .int .u64 (e.ct : Int), .string e.ve, .string e.fi, .string e.oc]] W fun x W' => x = .returned (.int .i64 (ckE e)) ∧ Pl b1 W' b1 bb (addE xs e) xs ∧ Below b1 w1 W') := Lib.hid (fun W h hb => (addx h hfl HOE.out).mono fun x W' g => ⟨g.1, g.2.1, hb.trans g.2.2⟩)
      have HC4 : Hid (∀ W, Pl b1 W b1 bb (addE xs e) xs → Below b1 w1 W → Calls Tryd.prog 21 #[.pointer (some ⟨bb, 0, none⟩), .agg #[.string e.us, .int .i64 e.lv, .int .u64 (e.ct : Int), .string e.ve, .string e.fi, .string e.oc]] W fun x W' => x = .returned (.int .i64 (ckE e)) ∧ Pl b1 W' b1 bb (addE xs e) (addE xs e) ∧ Below b1 w1 W') := Lib.hid (fun W h hb => (addy h hfl HOE.out).mono fun x W' g => ⟨g.1, g.2.1, hb.trans g.2.2⟩)
      obtain ⟨us, lv, ct, ve, fi, oc⟩ := e
      simp only at c0 c1 c2 c3 c4 c5 HC3 HC4
      replace HX : Hid (∀ W, Below b1 w1 W → W.cell? ⟨bk, off + k * 6, none⟩ = some (.string us) ∧ W.cell? ⟨bk, off + k * 6 + 1, none⟩ = some (.int .i64 lv) ∧ W.cell? ⟨bk, off + k * 6 + 2, none⟩ = some (.int .u64 (ct : Int)) ∧ W.cell? ⟨bk, off + k * 6 + 3, none⟩ = some (.string ve) ∧ W.cell? ⟨bk, off + k * 6 + 4, none⟩ = some (.string fi) ∧ W.cell? ⟨bk, off + k * 6 + 5, none⟩ = some (.string oc) ∧ Below b1 w1 W) := Lib.hid (fun W h => by
        have g : ∀ o, W.cell? ⟨bk, o, none⟩ = wr.cell? ⟨bk, o, none⟩ := fun o => (h.cell (p := ⟨bk, o, none⟩) hbk2).trans (HBR.out.cell (p := ⟨bk, o, none⟩) hbk2).symm
        exact ⟨(g _).trans c0, (g _).trans c1, (g _).trans c2, (g _).trans c3, (g _).trans c4, (g _).trans c5, h⟩)
      generalize ckE ⟨us, lv, ct, ve, fi, oc⟩ = q at *
      have hqq : (q != q) = false := by simp
      have hst : Pl b1 wr.drew b1 bb xs xs := HPK.out.below (Below.refl _ _).drew
      have hbt : Below b1 w1 wr.drew := HBR.out.drew
      clear hbk c0 c1 c2 c3 c4 c5 hfl HBR HPK HOE hbk2
      go_upto_region 8 with fail
      go_region_held3 (fun W => W.cell? ⟨bk, off + k * 6, none⟩ = some (.string us) ∧ W.cell? ⟨bk, off + k * 6 + 1, none⟩ = some (.int .i64 lv) ∧ W.cell? ⟨bk, off + k * 6 + 2, none⟩ = some (.int .u64 (ct : Int)) ∧ W.cell? ⟨bk, off + k * 6 + 3, none⟩ = some (.string ve) ∧ W.cell? ⟨bk, off + k * 6 + 4, none⟩ = some (.string fi) ∧ W.cell? ⟨bk, off + k * 6 + 5, none⟩ = some (.string oc) ∧ Below b1 w1 W)
        (first | exact HX.out _ (by assumption))
        (first
          | (go_at_call 18; with_reducible refine (HC3.out _ (by assumption) (by assumption)).mono ?_; rintro x wq ⟨rfl, hst1, hbq⟩)
          | (go_at_call 21; with_reducible refine (HC4.out _ (by assumption) (by assumption)).mono ?_; rintro x wq ⟨rfl, hst1, hbq⟩))
      all_goals
        go_wp2_with fail
        go_roundg (m.length - (k + 1))
        case rel => exact ⟨k + 1, by omega, by omega, by go_num, Nat.le_refl _, Lib.hid (by rw [HFK.out]; assumption), Lib.hid (by assumption)⟩
        case measure => omega
    · generalize wr = wz at *
      have he : m.take k = m.take 30 := by
        rcases Nat.lt_or_ge k m.length with h | h
        · rw [show k = 30 by omega]
        · rw [List.take_of_length_le h, List.take_of_length_le (show m.length ≤ 30 by omega)]
      have HPZ := Lib.hid (show Pl b1 wz b1 bb ms ms by rw [HMS.out, ← he]; exact HPK.out)
      obtain ⟨hx5, hy5⟩ := HX0b.out wz HBR.out
      have HX5 := Lib.hid hx5
      have HY5 := Lib.hid hy5
      have HO5 := Lib.hid (HOb.out wz HBR.out)
      have HT5 := Lib.hid (HTb.out wz HBR.out)
      have HB5 := Lib.hid (HBB.out.trans (HBR.out.mono hs0))
      have HSE5 := Lib.hid ((HSE.out bx).at HX5.out)
      obtain ⟨y0, y1⟩ := lab_cells HO5.out
      clear he HPK HBR hx5 hy5 HX0b HOb HTb HMb HMlt HBB HAK HAL HA0 HPA HMS HMO
      have hk2 : (¬ (k : Int) < (m.length : Int)) ∨ ((k : Int) < (m.length : Int) ∧ ¬ (k : Int) < 30) := by omega
      rcases hk2 with hk3 | ⟨hk3, hk4⟩
      · skip
        go_wp2_with fail
        with_reducible refine HSE5.out.mono ?_
        rintro e w6 ⟨SA, sc, rfl, ho6, hb6⟩
        have HO6 := Lib.hid ho6
        have HSQ := Lib.hid (HSE.out bx)
        have HB6 := Lib.hid hb6
        clear ho6 hb6 HSE5 HSQ y0 y1
        go_wp2_with fail
        go_loopg [14] s.length (fun q i w8 => ∃ (j : Nat) (cs : List Value), j ≤ s.length ∧ i = .int .i64 j ∧ s.length - j ≤ q ∧ Hid (w8.ownsRow wz.heap.size 40 6 (.slice SA s.length sc) s.length cs) ∧ Hid (Below wz.heap.size wz w8))
        case atStart => exact ⟨0, _, Nat.zero_le _, rfl, by omega, HO6, HB6⟩
        case round =>
          obtain ⟨j, cs, hj, rfl, hmm, HOJ, HBJ⟩ := hrel
          by_cases hjl : j < s.length
          · obtain ⟨g, hSe, hg0, hgl, hgc⟩ := own_at HOJ.out (by omega)
            subst hSe
            obtain ⟨cur, hcur⟩ := row_blk HOJ.out
            have hcl : cs.length = s.length * 6 := HOJ.out.1
            have hcj : ∃ u, wr.cell? ⟨g, j * 6, none⟩ = some u := by
              obtain ⟨u, hu⟩ : ∃ u, cs[j * 6]? = some u := ⟨cs[j * 6]'(by omega), List.getElem?_eq_getElem (by omega)⟩
              exact ⟨u, hgc _ _ hu⟩
            obtain ⟨u, hu⟩ := hcj
            have hz := L.blk_free hcur (j * 6)
            have h0j : (0 : Int) ≤ (j : Int) := by omega
            have hji : (j : Int) < (s.length : Int) := by omega
            obtain ⟨hst1, hst2⟩ := World.ownsRow.stored HOJ.out (j * 6) (.string ⟨#[111, 116, 104, 101, 114]⟩)
            have HST1 := Lib.hid hst1
            have HST2 : Hid (Below wz.heap.size wz (wr.setCell ⟨g, j * 6, none⟩ (.string ⟨#[111, 116, 104, 101, 114]⟩))) := Lib.hid (HBJ.out.setCell (p := ⟨g, j * 6, none⟩) hg0 _)
            clear hst1 hst2 hcur hgc hcl hg0 hgl
            go_wp2_with fail
            go_roundg (s.length - (j + 1))
            case rel => exact ⟨j + 1, _, by omega, by go_num, Nat.le_refl _, HST1, HST2⟩
            case measure => omega
          · obtain rfl : j = s.length := by omega
            clear HOJ HO6 hjl
            have hb9 := HBJ.out
            have HX := Lib.hid (HX5.out.below hb9)
            have HY := Lib.hid (HY5.out.below hb9)
            have HA := Lib.hid (HPZ.out.rx.below hb9)
            have HW := Lib.hid (HPZ.out.ry.below hb9)
            have HO := Lib.hid ((hb9.block _ (L.blk_lt HO5.out)).trans HO5.out)
            have HT := Lib.hid (HT5.out.later hb9)
            have HB := Lib.hid (HB5.out.trans (hb9.mono HB5.out.size))
            have HSX := Lib.hid ((HSE.out bx).sc)
            have HRY := Lib.hid (HRS.out yb)
            have HSA := Lib.hid (HSF.out b1)
            have HRB := Lib.hid (HRF.out bb)
            have HOX := Lib.hid (HOF.out bx)
            have HOY := Lib.hid (HRO.out yb)
            have HOA := Lib.hid (HOG.out b1)
            have HOB := Lib.hid (HRG.out bb)
            clear hb9 HBJ HX5 HY5 HPZ HO5 HT5 HB5 HSE HRS HSF HRF HOF HRO HOG HRG HB6
            have hw0 : IntKind.i64.wrap 0 = 0 := by rw [IntKind.wrap_i64]; rfl
            go_upto_region 16 with fail
            refine wp_region_held_drew (S := (Keeps wr)) (by kernel_rfl) (keeps_drew _) (fun hH0 => ?_)
            refine wpAnyH_ready (rs := [0]) (by kernel_rfl) (by simp) ?_
            refine AllReadyH.cons (o := { dst := some 64, op := Go.Op.call { callee := Go.Callee.value (Go.Operand.func 8), args := #[], argTypes := #[] }, type := 4, pos := "law.go:90", after := #[], guard := none }) rfl (fun K hK => ?_) AllReadyH.nil
            go_simp
            with_reducible refine (live20 _ (HT.out.later hH0.b)).mono ?_
            rintro r wq1 ⟨rfl, hbq⟩
            go_wp2_with fail
            refine hK.out _ _ (Keeps.trans hH0 hbq) (fun hJ => ?_)
            refine wpAnyH_more (S' := Keeps wq1) (fun z hz => Keeps.trans hJ hz) _ _ _ _ ?_
            replace HB := Lib.hid (HB.out.trans (Below.mono hJ HB.out.size))
            replace HT := Lib.hid (HT.out.later hJ)
            replace HO := Lib.hid ((Below.block hJ _ (L.blk_lt HO.out)).trans HO.out)
            replace HX := Lib.hid (HX.out.below hJ)
            replace HY := Lib.hid (HY.out.below hJ)
            replace HA := Lib.hid (HA.out.below hJ)
            replace HW := Lib.hid (HW.out.below hJ)
            have hH1 : Keeps wq1 wq1 := Below.refl _ _
            clear hK K hbq hH0 hJ
            refine wpAnyH_take (i := 1) (oi := { dst := some 65, op := Go.Op.move (Go.Operand.tmp 64), type := 4, pos := "law.go:90", after := #[{ on := 0, ground := Go.Ground.data }, { on := 0, ground := Go.Ground.chain }], guard := none }) (v := ?_) rfl (by kernel_rfl) (by kernel_rfl) (by kernel_rfl) (fun _ _ _ h => h) (Or.inl ⟨by rfl, ?_⟩) hH1 ?_
            rotate_left
            · (intro wz hSz; (try dsimp only at hSz); go_simp; try with_reducible rfl)
            simp only [Act.put, List.setIfInBounds_toArray, List.set_cons_zero, List.set_cons_succ]
            refine wpAnyH_take (i := 2) (oi := { dst := some 66, op := Go.Op.move (Go.Operand.tmp 7), type := 26, pos := "law.go:90", after := #[{ on := 1, ground := Go.Ground.guard }], guard := some (1, true) }) (v := ?_) rfl (by kernel_rfl) (by kernel_rfl) (by kernel_rfl) (fun _ _ _ h => h) (Or.inl ⟨by rfl, ?_⟩) hH1 ?_
            rotate_left
            · (intro wz hSz; (try dsimp only at hSz); go_simp; try with_reducible rfl)
            simp only [Act.put, List.setIfInBounds_toArray, List.set_cons_zero, List.set_cons_succ]
            refine wpAnyH_take (i := 3) (oi := { dst := some 67, op := Go.Op.load 25 (Go.Operand.tmp 5), type := 25, pos := "law.go:90", after := #[{ on := 1, ground := Go.Ground.guard }], guard := some (1, true) }) (v := ?_) rfl (by kernel_rfl) (by kernel_rfl) (by kernel_rfl) (fun _ _ _ h => h) (Or.inl ⟨by rfl, ?_⟩) hH1 ?_
            rotate_left
            · (intro wz hSz; have hcz := True.intro; obtain ⟨c0, c1⟩ := lab_cells ((Below.block hSz _ (L.blk_lt HO.out)).trans HO.out); go_simp; try with_reducible rfl)
            simp only [Act.put, List.setIfInBounds_toArray, List.set_cons_zero, List.set_cons_succ]
            refine wpAnyH_take (i := 5) (oi := { dst := some 69, op := Go.Op.move (Go.Operand.tmp 8), type := 27, pos := "law.go:90", after := #[{ on := 1, ground := Go.Ground.guard }], guard := some (1, true) }) (v := ?_) rfl (by kernel_rfl) (by kernel_rfl) (by kernel_rfl) (fun _ _ _ h => h) (Or.inl ⟨by rfl, ?_⟩) hH1 ?_
            rotate_left
            · (intro wz hSz; (try dsimp only at hSz); go_simp; try with_reducible rfl)
            simp only [Act.put, List.setIfInBounds_toArray, List.set_cons_zero, List.set_cons_succ]
            refine wpAnyH_take (i := 6) (oi := { dst := some 70, op := Go.Op.load 25 (Go.Operand.tmp 5), type := 25, pos := "law.go:90", after := #[{ on := 1, ground := Go.Ground.guard }], guard := some (1, true) }) (v := ?_) rfl (by kernel_rfl) (by kernel_rfl) (by kernel_rfl) (fun _ _ _ h => h) (Or.inl ⟨by rfl, ?_⟩) hH1 ?_
            rotate_left
            · (intro wz hSz; have hcz := True.intro; obtain ⟨c0, c1⟩ := lab_cells ((Below.block hSz _ (L.blk_lt HO.out)).trans HO.out); go_simp; try with_reducible rfl)
            simp only [Act.put, List.setIfInBounds_toArray, List.set_cons_zero, List.set_cons_succ]
            refine wpAnyH_ready (rs := [4]) (by kernel_rfl) (by simp) ?_
            refine AllReadyH.cons (o := { dst := some 68, op := Go.Op.call { callee := Go.Callee.value (Go.Operand.func 13), args := #[Go.Operand.tmp 66, Go.Operand.tmp 67], argTypes := #[26, 25] }, type := 22, pos := "law.go:90", after := #[{ on := 2, ground := Go.Ground.data }, { on := 3, ground := Go.Ground.data }, { on := 1, ground := Go.Ground.chain }, { on := 1, ground := Go.Ground.guard }], guard := some (1, true) }) rfl (fun K hK => ?_) AllReadyH.nil
            go_simp
            with_reducible refine (HSX.out.at (HX.out.below hH1.b)).mono ?_
            rintro r wq2 ⟨A1, c1, rfl, -, S1, hbq⟩
            go_wp2_with fail
            refine hK.out _ _ (Keeps.trans hH1 hbq) (fun hJ => ?_)
            refine wpAnyH_more (S' := Keeps wq2) (fun z hz => Keeps.trans hJ hz) _ _ _ _ ?_
            replace HB := Lib.hid (HB.out.trans (Below.mono hJ HB.out.size))
            replace HT := Lib.hid (HT.out.later hJ)
            replace HO := Lib.hid ((Below.block hJ _ (L.blk_lt HO.out)).trans HO.out)
            replace HX := Lib.hid (HX.out.below hJ)
            replace HY := Lib.hid (HY.out.below hJ)
            replace HA := Lib.hid (HA.out.below hJ)
            replace HW := Lib.hid (HW.out.below hJ)
            replace S1 := Lib.hid S1
            have hH2 : Keeps wq2 wq2 := Below.refl _ _
            clear hK K hbq hH1 hJ
            refine wpAnyH_ready (rs := [7]) (by kernel_rfl) (by simp) ?_
            refine AllReadyH.cons (o := { dst := some 71, op := Go.Op.call { callee := Go.Callee.value (Go.Operand.func 14), args := #[Go.Operand.tmp 69, Go.Operand.tmp 70], argTypes := #[27, 25] }, type := 22, pos := "law.go:90", after := #[{ on := 5, ground := Go.Ground.data }, { on := 6, ground := Go.Ground.data }, { on := 4, ground := Go.Ground.chain }, { on := 1, ground := Go.Ground.guard }], guard := some (1, true) }) rfl (fun K hK => ?_) AllReadyH.nil
            go_simp
            with_reducible refine (HRY.out.at (HY.out.below hH2.b)).mono ?_
            rintro r wq3 ⟨A2, c2, rfl, -, S2, hbq⟩
            go_wp2_with fail
            refine hK.out _ _ (Keeps.trans hH2 hbq) (fun hJ => ?_)
            refine wpAnyH_more (S' := Keeps wq3) (fun z hz => Keeps.trans hJ hz) _ _ _ _ ?_
            replace HB := Lib.hid (HB.out.trans (Below.mono hJ HB.out.size))
            replace HT := Lib.hid (HT.out.later hJ)
            replace HO := Lib.hid ((Below.block hJ _ (L.blk_lt HO.out)).trans HO.out)
            replace HX := Lib.hid (HX.out.below hJ)
            replace HY := Lib.hid (HY.out.below hJ)
            replace HA := Lib.hid (HA.out.below hJ)
            replace HW := Lib.hid (HW.out.below hJ)
            replace S1 := Lib.hid (S1.out.below hJ)
            replace S2 := Lib.hid S2
            have hH3 : Keeps wq3 wq3 := Below.refl _ _
            clear hK K hbq hH2 hJ
            refine wpAnyH_ready (rs := [8]) (by kernel_rfl) (by simp) ?_
            refine AllReadyH.cons (o := { dst := some 72, op := Go.Op.call { callee := Go.Callee.value (Go.Operand.func 12), args := #[Go.Operand.tmp 68, Go.Operand.tmp 71], argTypes := #[22, 22] }, type := 4, pos := "law.go:90", after := #[{ on := 4, ground := Go.Ground.data }, { on := 7, ground := Go.Ground.data }, { on := 7, ground := Go.Ground.chain }, { on := 1, ground := Go.Ground.guard }], guard := some (1, true) }) rfl (fun K hK => ?_) AllReadyH.nil
            go_simp
            with_reducible refine (HSM.out.at (S1.out.below hH3.b) (S2.out.below hH3.b)).mono ?_
            rintro r wq4 ⟨rfl, hbq⟩
            go_wp2_with fail
            refine hK.out _ _ (Keeps.trans hH3 hbq) (fun hJ => ?_)
            refine wpAnyH_more (S' := Keeps wq4) (fun z hz => Keeps.trans hJ hz) _ _ _ _ ?_
            replace HB := Lib.hid (HB.out.trans (Below.mono hJ HB.out.size))
            replace HT := Lib.hid (HT.out.later hJ)
            replace HO := Lib.hid ((Below.block hJ _ (L.blk_lt HO.out)).trans HO.out)
            replace HX := Lib.hid (HX.out.below hJ)
            replace HY := Lib.hid (HY.out.below hJ)
            replace HA := Lib.hid (HA.out.below hJ)
            replace HW := Lib.hid (HW.out.below hJ)
            replace S1 := Lib.hid (S1.out.below hJ)
            replace S2 := Lib.hid (S2.out.below hJ)
            have hH4 : Keeps wq4 wq4 := Below.refl _ _
            clear hK K hbq hH3 hJ
            refine wpAnyH_take (i := 9) (oi := { dst := some 73, op := Go.Op.pick (Go.Operand.tmp 65) (Go.Operand.tmp 72) (Go.Operand.const (Go.Value.bool false)), type := 4, pos := "law.go:90", after := #[{ on := 1, ground := Go.Ground.data }, { on := 8, ground := Go.Ground.data }], guard := none }) (v := ?_) rfl (by kernel_rfl) (by kernel_rfl) (by kernel_rfl) (fun _ _ _ h => h) (Or.inl ⟨by rfl, ?_⟩) hH4 ?_
            rotate_left
            · (intro wz hSz; (try dsimp only at hSz); go_simp; try with_reducible rfl)
            simp only [Act.put, List.setIfInBounds_toArray, List.set_cons_zero, List.set_cons_succ]
            refine wpAnyH_take (i := 10) (oi := { dst := some 74, op := Go.Op.move (Go.Operand.tmp 73), type := 4, pos := "law.go:90", after := #[{ on := 9, ground := Go.Ground.data }, { on := 8, ground := Go.Ground.chain }], guard := none }) (v := ?_) rfl (by kernel_rfl) (by kernel_rfl) (by kernel_rfl) (fun _ _ _ h => h) (Or.inl ⟨by rfl, ?_⟩) hH4 ?_
            rotate_left
            · (intro wz hSz; (try dsimp only at hSz); go_simp; try with_reducible rfl)
            simp only [Act.put, List.setIfInBounds_toArray, List.set_cons_zero, List.set_cons_succ]
            refine wpAnyH_take (i := 11) (oi := { dst := some 75, op := Go.Op.move (Go.Operand.tmp 10), type := 26, pos := "law.go:90", after := #[{ on := 10, ground := Go.Ground.guard }], guard := some (10, true) }) (v := ?_) rfl (by kernel_rfl) (by kernel_rfl) (by kernel_rfl) (fun _ _ _ h => h) (Or.inl ⟨by rfl, ?_⟩) hH4 ?_
            rotate_left
            · (intro wz hSz; (try dsimp only at hSz); go_simp; try with_reducible rfl)
            simp only [Act.put, List.setIfInBounds_toArray, List.set_cons_zero, List.set_cons_succ]
            refine wpAnyH_take (i := 12) (oi := { dst := some 76, op := Go.Op.load 25 (Go.Operand.tmp 5), type := 25, pos := "law.go:90", after := #[{ on := 10, ground := Go.Ground.guard }], guard := some (10, true) }) (v := ?_) rfl (by kernel_rfl) (by kernel_rfl) (by kernel_rfl) (fun _ _ _ h => h) (Or.inl ⟨by rfl, ?_⟩) hH4 ?_
            rotate_left
            · (intro wz hSz; have hcz := True.intro; obtain ⟨c0, c1⟩ := lab_cells ((Below.block hSz _ (L.blk_lt HO.out)).trans HO.out); go_simp; try with_reducible rfl)
            simp only [Act.put, List.setIfInBounds_toArray, List.set_cons_zero, List.set_cons_succ]
            refine wpAnyH_take (i := 14) (oi := { dst := some 78, op := Go.Op.move (Go.Operand.tmp 11), type := 27, pos := "law.go:90", after := #[{ on := 10, ground := Go.Ground.guard }], guard := some (10, true) }) (v := ?_) rfl (by kernel_rfl) (by kernel_rfl) (by kernel_rfl) (fun _ _ _ h => h) (Or.inl ⟨by rfl, ?_⟩) hH4 ?_
            rotate_left
            · (intro wz hSz; (try dsimp only at hSz); go_simp; try with_reducible rfl)
            simp only [Act.put, List.setIfInBounds_toArray, List.set_cons_zero, List.set_cons_succ]
            refine wpAnyH_take (i := 15) (oi := { dst := some 79, op := Go.Op.load 25 (Go.Operand.tmp 5), type := 25, pos := "law.go:90", after := #[{ on := 10, ground := Go.Ground.guard }], guard := some (10, true) }) (v := ?_) rfl (by kernel_rfl) (by kernel_rfl) (by kernel_rfl) (fun _ _ _ h => h) (Or.inl ⟨by rfl, ?_⟩) hH4 ?_
            rotate_left
            · (intro wz hSz; have hcz := True.intro; obtain ⟨c0, c1⟩ := lab_cells ((Below.block hSz _ (L.blk_lt HO.out)).trans HO.out); go_simp; try with_reducible rfl)
            simp only [Act.put, List.setIfInBounds_toArray, List.set_cons_zero, List.set_cons_succ]
            refine wpAnyH_ready (rs := [13]) (by kernel_rfl) (by simp) ?_
            refine AllReadyH.cons (o := { dst := some 77, op := Go.Op.call { callee := Go.Callee.value (Go.Operand.func 13), args := #[Go.Operand.tmp 75, Go.Operand.tmp 76], argTypes := #[26, 25] }, type := 22, pos := "law.go:90", after := #[{ on := 11, ground := Go.Ground.data }, { on := 12, ground := Go.Ground.data }, { on := 10, ground := Go.Ground.chain }, { on := 10, ground := Go.Ground.guard }], guard := some (10, true) }) rfl (fun K hK => ?_) AllReadyH.nil
            go_simp
            with_reducible refine (HSA.out.at (HA.out.below hH4.b)).mono ?_
            rintro r wq5 ⟨A3, c3, rfl, -, S3, hbq⟩
            go_wp2_with fail
            refine hK.out _ _ (Keeps.trans hH4 hbq) (fun hJ => ?_)
            refine wpAnyH_more (S' := Keeps wq5) (fun z hz => Keeps.trans hJ hz) _ _ _ _ ?_
            replace HB := Lib.hid (HB.out.trans (Below.mono hJ HB.out.size))
            replace HT := Lib.hid (HT.out.later hJ)
            replace HO := Lib.hid ((Below.block hJ _ (L.blk_lt HO.out)).trans HO.out)
            replace HX := Lib.hid (HX.out.below hJ)
            replace HY := Lib.hid (HY.out.below hJ)
            replace HA := Lib.hid (HA.out.below hJ)
            replace HW := Lib.hid (HW.out.below hJ)
            replace S1 := Lib.hid (S1.out.below hJ)
            replace S2 := Lib.hid (S2.out.below hJ)
            replace S3 := Lib.hid S3
            have hH5 : Keeps wq5 wq5 := Below.refl _ _
            clear hK K hbq hH4 hJ
            refine wpAnyH_ready (rs := [16]) (by kernel_rfl) (by simp) ?_
            refine AllReadyH.cons (o := { dst := some 80, op := Go.Op.call { callee := Go.Callee.value (Go.Operand.func 14), args := #[Go.Operand.tmp 78, Go.Operand.tmp 79], argTypes := #[27, 25] }, type := 22, pos := "law.go:90", after := #[{ on := 14, ground := Go.Ground.data }, { on := 15, ground := Go.Ground.data }, { on := 13, ground := Go.Ground.chain }, { on := 10, ground := Go.Ground.guard }], guard := some (10, true) }) rfl (fun K hK => ?_) AllReadyH.nil
            go_simp
            with_reducible refine (HRB.out.at (HW.out.below hH5.b)).mono ?_
            rintro r wq6 ⟨A4, c4, rfl, -, S4, hbq⟩
            go_wp2_with fail
            refine hK.out _ _ (Keeps.trans hH5 hbq) (fun hJ => ?_)
            refine wpAnyH_more (S' := Keeps wq6) (fun z hz => Keeps.trans hJ hz) _ _ _ _ ?_
            replace HB := Lib.hid (HB.out.trans (Below.mono hJ HB.out.size))
            replace HT := Lib.hid (HT.out.later hJ)
            replace HO := Lib.hid ((Below.block hJ _ (L.blk_lt HO.out)).trans HO.out)
            replace HX := Lib.hid (HX.out.below hJ)
            replace HY := Lib.hid (HY.out.below hJ)
            replace HA := Lib.hid (HA.out.below hJ)
            replace HW := Lib.hid (HW.out.below hJ)
            replace S1 := Lib.hid (S1.out.below hJ)
            replace S2 := Lib.hid (S2.out.below hJ)
            replace S3 := Lib.hid (S3.out.below hJ)
            replace S4 := Lib.hid S4
            have hH6 : Keeps wq6 wq6 := Below.refl _ _
            clear hK K hbq hH5 hJ
            refine wpAnyH_ready (rs := [17]) (by kernel_rfl) (by simp) ?_
            refine AllReadyH.cons (o := { dst := some 81, op := Go.Op.call { callee := Go.Callee.value (Go.Operand.func 12), args := #[Go.Operand.tmp 77, Go.Operand.tmp 80], argTypes := #[22, 22] }, type := 4, pos := "law.go:90", after := #[{ on := 13, ground := Go.Ground.data }, { on := 16, ground := Go.Ground.data }, { on := 16, ground := Go.Ground.chain }, { on := 10, ground := Go.Ground.guard }], guard := some (10, true) }) rfl (fun K hK => ?_) AllReadyH.nil
            go_simp
            with_reducible refine (HSN.out.at (S3.out.below hH6.b) (S4.out.below hH6.b)).mono ?_
            rintro r wq7 ⟨rfl, hbq⟩
            go_wp2_with fail
            refine hK.out _ _ (Keeps.trans hH6 hbq) (fun hJ => ?_)
            refine wpAnyH_more (S' := Keeps wq7) (fun z hz => Keeps.trans hJ hz) _ _ _ _ ?_
            replace HB := Lib.hid (HB.out.trans (Below.mono hJ HB.out.size))
            replace HT := Lib.hid (HT.out.later hJ)
            replace HO := Lib.hid ((Below.block hJ _ (L.blk_lt HO.out)).trans HO.out)
            replace HX := Lib.hid (HX.out.below hJ)
            replace HY := Lib.hid (HY.out.below hJ)
            replace HA := Lib.hid (HA.out.below hJ)
            replace HW := Lib.hid (HW.out.below hJ)
            replace S1 := Lib.hid (S1.out.below hJ)
            replace S2 := Lib.hid (S2.out.below hJ)
            replace S3 := Lib.hid (S3.out.below hJ)
            replace S4 := Lib.hid (S4.out.below hJ)
            have hH7 : Keeps wq7 wq7 := Below.refl _ _
            clear hK K hbq hH6 hJ
            refine wpAnyH_take (i := 18) (oi := { dst := some 82, op := Go.Op.pick (Go.Operand.tmp 74) (Go.Operand.tmp 81) (Go.Operand.const (Go.Value.bool false)), type := 4, pos := "law.go:90", after := #[{ on := 10, ground := Go.Ground.data }, { on := 17, ground := Go.Ground.data }], guard := none }) (v := ?_) rfl (by kernel_rfl) (by kernel_rfl) (by kernel_rfl) (fun _ _ _ h => h) (Or.inl ⟨by rfl, ?_⟩) hH7 ?_
            rotate_left
            · (intro wz hSz; (try dsimp only at hSz); go_simp; try with_reducible rfl)
            simp only [Act.put, List.setIfInBounds_toArray, List.set_cons_zero, List.set_cons_succ]
            refine wpAnyH_take (i := 19) (oi := { dst := some 83, op := Go.Op.move (Go.Operand.tmp 82), type := 4, pos := "law.go:90", after := #[{ on := 18, ground := Go.Ground.data }, { on := 17, ground := Go.Ground.chain }], guard := none }) (v := ?_) rfl (by kernel_rfl) (by kernel_rfl) (by kernel_rfl) (fun _ _ _ h => h) (Or.inl ⟨by rfl, ?_⟩) hH7 ?_
            rotate_left
            · (intro wz hSz; (try dsimp only at hSz); go_simp; try with_reducible rfl)
            simp only [Act.put, List.setIfInBounds_toArray, List.set_cons_zero, List.set_cons_succ]
            refine wpAnyH_take (i := 20) (oi := { dst := some 84, op := Go.Op.move (Go.Operand.tmp 7), type := 26, pos := "law.go:90", after := #[{ on := 19, ground := Go.Ground.guard }], guard := some (19, true) }) (v := ?_) rfl (by kernel_rfl) (by kernel_rfl) (by kernel_rfl) (fun _ _ _ h => h) (Or.inl ⟨by rfl, ?_⟩) hH7 ?_
            rotate_left
            · (intro wz hSz; (try dsimp only at hSz); go_simp; try with_reducible rfl)
            simp only [Act.put, List.setIfInBounds_toArray, List.set_cons_zero, List.set_cons_succ]
            refine wpAnyH_take (i := 21) (oi := { dst := some 85, op := Go.Op.load 25 (Go.Operand.tmp 5), type := 25, pos := "law.go:90", after := #[{ on := 19, ground := Go.Ground.guard }], guard := some (19, true) }) (v := ?_) rfl (by kernel_rfl) (by kernel_rfl) (by kernel_rfl) (fun _ _ _ h => h) (Or.inl ⟨by rfl, ?_⟩) hH7 ?_
            rotate_left
            · (intro wz hSz; have hcz := True.intro; obtain ⟨c0, c1⟩ := lab_cells ((Below.block hSz _ (L.blk_lt HO.out)).trans HO.out); go_simp; try with_reducible rfl)
            simp only [Act.put, List.setIfInBounds_toArray, List.set_cons_zero, List.set_cons_succ]
            refine wpAnyH_take (i := 23) (oi := { dst := some 87, op := Go.Op.move (Go.Operand.tmp 8), type := 27, pos := "law.go:90", after := #[{ on := 19, ground := Go.Ground.guard }], guard := some (19, true) }) (v := ?_) rfl (by kernel_rfl) (by kernel_rfl) (by kernel_rfl) (fun _ _ _ h => h) (Or.inl ⟨by rfl, ?_⟩) hH7 ?_
            rotate_left
            · (intro wz hSz; (try dsimp only at hSz); go_simp; try with_reducible rfl)
            simp only [Act.put, List.setIfInBounds_toArray, List.set_cons_zero, List.set_cons_succ]
            refine wpAnyH_take (i := 24) (oi := { dst := some 88, op := Go.Op.load 25 (Go.Operand.tmp 5), type := 25, pos := "law.go:90", after := #[{ on := 19, ground := Go.Ground.guard }], guard := some (19, true) }) (v := ?_) rfl (by kernel_rfl) (by kernel_rfl) (by kernel_rfl) (fun _ _ _ h => h) (Or.inl ⟨by rfl, ?_⟩) hH7 ?_
            rotate_left
            · (intro wz hSz; have hcz := True.intro; obtain ⟨c0, c1⟩ := lab_cells ((Below.block hSz _ (L.blk_lt HO.out)).trans HO.out); go_simp; try with_reducible rfl)
            simp only [Act.put, List.setIfInBounds_toArray, List.set_cons_zero, List.set_cons_succ]
            refine wpAnyH_ready (rs := [22]) (by kernel_rfl) (by simp) ?_
            refine AllReadyH.cons (o := { dst := some 86, op := Go.Op.call { callee := Go.Callee.value (Go.Operand.func 9), args := #[Go.Operand.tmp 84, Go.Operand.tmp 85], argTypes := #[26, 25] }, type := 3, pos := "law.go:90", after := #[{ on := 20, ground := Go.Ground.data }, { on := 21, ground := Go.Ground.data }, { on := 19, ground := Go.Ground.chain }, { on := 19, ground := Go.Ground.guard }], guard := some (19, true) }) rfl (fun K hK => ?_) AllReadyH.nil
            go_simp
            with_reducible refine (HOX.out.at (HX.out.below hH7.b)).mono ?_
            rintro r wq8 ⟨rfl, hbq⟩
            go_wp2_with fail
            refine hK.out _ _ (Keeps.trans hH7 hbq) (fun hJ => ?_)
            refine wpAnyH_more (S' := Keeps wq8) (fun z hz => Keeps.trans hJ hz) _ _ _ _ ?_
            replace HB := Lib.hid (HB.out.trans (Below.mono hJ HB.out.size))
            replace HT := Lib.hid (HT.out.later hJ)
            replace HO := Lib.hid ((Below.block hJ _ (L.blk_lt HO.out)).trans HO.out)
            replace HX := Lib.hid (HX.out.below hJ)
            replace HY := Lib.hid (HY.out.below hJ)
            replace HA := Lib.hid (HA.out.below hJ)
            replace HW := Lib.hid (HW.out.below hJ)
            replace S1 := Lib.hid (S1.out.below hJ)
            replace S2 := Lib.hid (S2.out.below hJ)
            replace S3 := Lib.hid (S3.out.below hJ)
            replace S4 := Lib.hid (S4.out.below hJ)
            have hH8 : Keeps wq8 wq8 := Below.refl _ _
            clear hK K hbq hH7 hJ
            refine wpAnyH_ready (rs := [25]) (by kernel_rfl) (by simp) ?_
            refine AllReadyH.cons (o := { dst := some 89, op := Go.Op.call { callee := Go.Callee.value (Go.Operand.func 10), args := #[Go.Operand.tmp 87, Go.Operand.tmp 88], argTypes := #[27, 25] }, type := 3, pos := "law.go:90", after := #[{ on := 23, ground := Go.Ground.data }, { on := 24, ground := Go.Ground.data }, { on := 22, ground := Go.Ground.chain }, { on := 19, ground := Go.Ground.guard }], guard := some (19, true) }) rfl (fun K hK => ?_) AllReadyH.nil
            go_simp
            with_reducible refine (HOY.out.at (HY.out.below hH8.b)).mono ?_
            rintro r wq9 ⟨rfl, hbq⟩
            go_wp2_with fail
            refine hK.out _ _ (Keeps.trans hH8 hbq) (fun hJ => ?_)
            refine wpAnyH_more (S' := Keeps wq9) (fun z hz => Keeps.trans hJ hz) _ _ _ _ ?_
            replace HB := Lib.hid (HB.out.trans (Below.mono hJ HB.out.size))
            replace HT := Lib.hid (HT.out.later hJ)
            replace HO := Lib.hid ((Below.block hJ _ (L.blk_lt HO.out)).trans HO.out)
            replace HX := Lib.hid (HX.out.below hJ)
            replace HY := Lib.hid (HY.out.below hJ)
            replace HA := Lib.hid (HA.out.below hJ)
            replace HW := Lib.hid (HW.out.below hJ)
            replace S1 := Lib.hid (S1.out.below hJ)
            replace S2 := Lib.hid (S2.out.below hJ)
            replace S3 := Lib.hid (S3.out.below hJ)
            replace S4 := Lib.hid (S4.out.below hJ)
            have hH9 : Keeps wq9 wq9 := Below.refl _ _
            clear hK K hbq hH8 hJ
            refine wpAnyH_take (i := 26) (oi := { dst := some 90, op := Go.Op.binOp Go.BinOp.eql 3 (Go.Operand.tmp 86) (Go.Operand.tmp 89) 3, type := 4, pos := "law.go:90", after := #[{ on := 22, ground := Go.Ground.data }, { on := 25, ground := Go.Ground.data }, { on := 19, ground := Go.Ground.guard }], guard := some (19, true) }) (v := ?_) rfl (by kernel_rfl) (by kernel_rfl) (by kernel_rfl) (fun _ _ _ h => h) (Or.inl ⟨by rfl, ?_⟩) hH9 ?_
            rotate_left
            · (intro wz hSz; (try dsimp only at hSz); go_simp; try with_reducible rfl)
            simp only [Act.put, List.setIfInBounds_toArray, List.set_cons_zero, List.set_cons_succ]
            refine wpAnyH_take (i := 27) (oi := { dst := some 91, op := Go.Op.pick (Go.Operand.tmp 83) (Go.Operand.tmp 90) (Go.Operand.const (Go.Value.bool false)), type := 4, pos := "law.go:90", after := #[{ on := 19, ground := Go.Ground.data }, { on := 26, ground := Go.Ground.data }], guard := none }) (v := ?_) rfl (by kernel_rfl) (by kernel_rfl) (by kernel_rfl) (fun _ _ _ h => h) (Or.inl ⟨by rfl, ?_⟩) hH9 ?_
            rotate_left
            · (intro wz hSz; (try dsimp only at hSz); go_simp; try with_reducible rfl)
            simp only [Act.put, List.setIfInBounds_toArray, List.set_cons_zero, List.set_cons_succ]
            refine wpAnyH_take (i := 28) (oi := { dst := some 92, op := Go.Op.move (Go.Operand.tmp 91), type := 4, pos := "law.go:90", after := #[{ on := 27, ground := Go.Ground.data }, { on := 25, ground := Go.Ground.chain }], guard := none }) (v := ?_) rfl (by kernel_rfl) (by kernel_rfl) (by kernel_rfl) (fun _ _ _ h => h) (Or.inl ⟨by rfl, ?_⟩) hH9 ?_
            rotate_left
            · (intro wz hSz; (try dsimp only at hSz); go_simp; try with_reducible rfl)
            simp only [Act.put, List.setIfInBounds_toArray, List.set_cons_zero, List.set_cons_succ]
            refine wpAnyH_take (i := 29) (oi := { dst := some 93, op := Go.Op.move (Go.Operand.tmp 10), type := 26, pos := "law.go:90", after := #[{ on := 28, ground := Go.Ground.guard }], guard := some (28, true) }) (v := ?_) rfl (by kernel_rfl) (by kernel_rfl) (by kernel_rfl) (fun _ _ _ h => h) (Or.inl ⟨by rfl, ?_⟩) hH9 ?_
            rotate_left
            · (intro wz hSz; (try dsimp only at hSz); go_simp; try with_reducible rfl)
            simp only [Act.put, List.setIfInBounds_toArray, List.set_cons_zero, List.set_cons_succ]
            refine wpAnyH_take (i := 30) (oi := { dst := some 94, op := Go.Op.load 25 (Go.Operand.tmp 5), type := 25, pos := "law.go:90", after := #[{ on := 28, ground := Go.Ground.guard }], guard := some (28, true) }) (v := ?_) rfl (by kernel_rfl) (by kernel_rfl) (by kernel_rfl) (fun _ _ _ h => h) (Or.inl ⟨by rfl, ?_⟩) hH9 ?_
            rotate_left
            · (intro wz hSz; have hcz := True.intro; obtain ⟨c0, c1⟩ := lab_cells ((Below.block hSz _ (L.blk_lt HO.out)).trans HO.out); go_simp; try with_reducible rfl)
            simp only [Act.put, List.setIfInBounds_toArray, List.set_cons_zero, List.set_cons_succ]
            refine wpAnyH_take (i := 32) (oi := { dst := some 96, op := Go.Op.move (Go.Operand.tmp 11), type := 27, pos := "law.go:90", after := #[{ on := 28, ground := Go.Ground.guard }], guard := some (28, true) }) (v := ?_) rfl (by kernel_rfl) (by kernel_rfl) (by kernel_rfl) (fun _ _ _ h => h) (Or.inl ⟨by rfl, ?_⟩) hH9 ?_
            rotate_left
            · (intro wz hSz; (try dsimp only at hSz); go_simp; try with_reducible rfl)
            simp only [Act.put, List.setIfInBounds_toArray, List.set_cons_zero, List.set_cons_succ]
            refine wpAnyH_take (i := 33) (oi := { dst := some 97, op := Go.Op.load 25 (Go.Operand.tmp 5), type := 25, pos := "law.go:90", after := #[{ on := 28, ground := Go.Ground.guard }], guard := some (28, true) }) (v := ?_) rfl (by kernel_rfl) (by kernel_rfl) (by kernel_rfl) (fun _ _ _ h => h) (Or.inl ⟨by rfl, ?_⟩) hH9 ?_
            rotate_left
            · (intro wz hSz; have hcz := True.intro; obtain ⟨c0, c1⟩ := lab_cells ((Below.block hSz _ (L.blk_lt HO.out)).trans HO.out); go_simp; try with_reducible rfl)
            simp only [Act.put, List.setIfInBounds_toArray, List.set_cons_zero, List.set_cons_succ]
            refine wpAnyH_ready (rs := [31]) (by kernel_rfl) (by simp) ?_
            refine AllReadyH.cons (o := { dst := some 95, op := Go.Op.call { callee := Go.Callee.value (Go.Operand.func 9), args := #[Go.Operand.tmp 93, Go.Operand.tmp 94], argTypes := #[26, 25] }, type := 3, pos := "law.go:90", after := #[{ on := 29, ground := Go.Ground.data }, { on := 30, ground := Go.Ground.data }, { on := 28, ground := Go.Ground.chain }, { on := 28, ground := Go.Ground.guard }], guard := some (28, true) }) rfl (fun K hK => ?_) AllReadyH.nil
            go_simp
            with_reducible refine (HOA.out.at (HA.out.below hH9.b)).mono ?_
            rintro r wq10 ⟨rfl, hbq⟩
            go_wp2_with fail
            refine hK.out _ _ (Keeps.trans hH9 hbq) (fun hJ => ?_)
            refine wpAnyH_more (S' := Keeps wq10) (fun z hz => Keeps.trans hJ hz) _ _ _ _ ?_
            replace HB := Lib.hid (HB.out.trans (Below.mono hJ HB.out.size))
            replace HT := Lib.hid (HT.out.later hJ)
            replace HO := Lib.hid ((Below.block hJ _ (L.blk_lt HO.out)).trans HO.out)
            replace HX := Lib.hid (HX.out.below hJ)
            replace HY := Lib.hid (HY.out.below hJ)
            replace HA := Lib.hid (HA.out.below hJ)
            replace HW := Lib.hid (HW.out.below hJ)
            replace S1 := Lib.hid (S1.out.below hJ)
            replace S2 := Lib.hid (S2.out.below hJ)
            replace S3 := Lib.hid (S3.out.below hJ)
            replace S4 := Lib.hid (S4.out.below hJ)
            have hH10 : Keeps wq10 wq10 := Below.refl _ _
            clear hK K hbq hH9 hJ
            refine wpAnyH_ready (rs := [34]) (by kernel_rfl) (by simp) ?_
            refine AllReadyH.cons (o := { dst := some 98, op := Go.Op.call { callee := Go.Callee.value (Go.Operand.func 10), args := #[Go.Operand.tmp 96, Go.Operand.tmp 97], argTypes := #[27, 25] }, type := 3, pos := "law.go:90", after := #[{ on := 32, ground := Go.Ground.data }, { on := 33, ground := Go.Ground.data }, { on := 31, ground := Go.Ground.chain }, { on := 28, ground := Go.Ground.guard }], guard := some (28, true) }) rfl (fun K hK => ?_) AllReadyH.nil
            go_simp
            with_reducible refine (HOB.out.at (HW.out.below hH10.b)).mono ?_
            rintro r wq11 ⟨rfl, hbq⟩
            go_wp2_with fail
            refine hK.out _ _ (Keeps.trans hH10 hbq) (fun hJ => ?_)
            refine wpAnyH_more (S' := Keeps wq11) (fun z hz => Keeps.trans hJ hz) _ _ _ _ ?_
            replace HB := Lib.hid (HB.out.trans (Below.mono hJ HB.out.size))
            replace HT := Lib.hid (HT.out.later hJ)
            replace HO := Lib.hid ((Below.block hJ _ (L.blk_lt HO.out)).trans HO.out)
            replace HX := Lib.hid (HX.out.below hJ)
            replace HY := Lib.hid (HY.out.below hJ)
            replace HA := Lib.hid (HA.out.below hJ)
            replace HW := Lib.hid (HW.out.below hJ)
            replace S1 := Lib.hid (S1.out.below hJ)
            replace S2 := Lib.hid (S2.out.below hJ)
            replace S3 := Lib.hid (S3.out.below hJ)
            replace S4 := Lib.hid (S4.out.below hJ)
            have hH11 : Keeps wq11 wq11 := Below.refl _ _
            clear hK K hbq hH10 hJ
            refine wpAnyH_take (i := 35) (oi := { dst := some 99, op := Go.Op.binOp Go.BinOp.eql 3 (Go.Operand.tmp 95) (Go.Operand.tmp 98) 3, type := 4, pos := "law.go:90", after := #[{ on := 31, ground := Go.Ground.data }, { on := 34, ground := Go.Ground.data }, { on := 28, ground := Go.Ground.guard }], guard := some (28, true) }) (v := ?_) rfl (by kernel_rfl) (by kernel_rfl) (by kernel_rfl) (fun _ _ _ h => h) (Or.inl ⟨by rfl, ?_⟩) hH11 ?_
            rotate_left
            · (intro wz hSz; (try dsimp only at hSz); go_simp; try with_reducible rfl)
            simp only [Act.put, List.setIfInBounds_toArray, List.set_cons_zero, List.set_cons_succ]
            refine wpAnyH_take (i := 36) (oi := { dst := some 100, op := Go.Op.pick (Go.Operand.tmp 92) (Go.Operand.tmp 99) (Go.Operand.const (Go.Value.bool false)), type := 4, pos := "law.go:90", after := #[{ on := 28, ground := Go.Ground.data }, { on := 35, ground := Go.Ground.data }], guard := none }) (v := ?_) rfl (by kernel_rfl) (by kernel_rfl) (by kernel_rfl) (fun _ _ _ h => h) (Or.inl ⟨by rfl, ?_⟩) hH11 ?_
            rotate_left
            · (intro wz hSz; (try dsimp only at hSz); go_simp; try with_reducible rfl)
            simp only [Act.put, List.setIfInBounds_toArray, List.set_cons_zero, List.set_cons_succ]
            refine wpAnyH_take (i := 37) (oi := { dst := some 101, op := Go.Op.move (Go.Operand.tmp 100), type := 4, pos := "law.go:90", after := #[{ on := 36, ground := Go.Ground.data }, { on := 34, ground := Go.Ground.chain }], guard := none }) (v := ?_) rfl (by kernel_rfl) (by kernel_rfl) (by kernel_rfl) (fun _ _ _ h => h) (Or.inl ⟨by rfl, ?_⟩) hH11 ?_
            rotate_left
            · (intro wz hSz; (try dsimp only at hSz); go_simp; try with_reducible rfl)
            simp only [Act.put, List.setIfInBounds_toArray, List.set_cons_zero, List.set_cons_succ]
            refine wpAnyH_take (i := 38) (oi := { dst := some 102, op := Go.Op.move (Go.Operand.tmp 15), type := 26, pos := "law.go:90", after := #[{ on := 37, ground := Go.Ground.guard }], guard := some (37, true) }) (v := ?_) rfl (by kernel_rfl) (by kernel_rfl) (by kernel_rfl) (fun _ _ _ h => h) (Or.inl ⟨by rfl, ?_⟩) hH11 ?_
            rotate_left
            · (intro wz hSz; (try dsimp only at hSz); go_simp; try with_reducible rfl)
            simp only [Act.put, List.setIfInBounds_toArray, List.set_cons_zero, List.set_cons_succ]
            refine wpAnyH_take (i := 39) (oi := { dst := some 103, op := Go.Op.build 40 #[], type := 40, pos := "law.go:90", after := #[{ on := 37, ground := Go.Ground.guard }], guard := some (37, true) }) (v := ?_) rfl (by kernel_rfl) (by kernel_rfl) (by kernel_rfl) (fun _ _ _ h => h) (Or.inl ⟨by rfl, ?_⟩) hH11 ?_
            rotate_left
            · (intro wz hSz; (try dsimp only at hSz); go_simp; try with_reducible rfl)
            simp only [Act.put, List.setIfInBounds_toArray, List.set_cons_zero, List.set_cons_succ]
            refine wpAnyH_ready (rs := [40]) (by kernel_rfl) (by simp) ?_
            refine AllReadyH.cons (o := { dst := some 104, op := Go.Op.call { callee := Go.Callee.value (Go.Operand.func 18), args := #[Go.Operand.tmp 102, Go.Operand.tmp 103], argTypes := #[26, 40] }, type := 42, pos := "law.go:90", after := #[{ on := 38, ground := Go.Ground.data }, { on := 39, ground := Go.Ground.data }, { on := 37, ground := Go.Ground.chain }, { on := 37, ground := Go.Ground.guard }], guard := some (37, true) }) rfl (fun K hK => ?_) AllReadyH.nil
            go_simp
            with_reducible refine (nil_add (.int .i64 0) _).mono ?_
            rintro r wq12 ⟨rfl, hbq⟩
            go_wp2_with fail
            refine hK.out _ _ (Keeps.trans hH11 hbq) (fun hJ => ?_)
            refine wpAnyH_more (S' := Keeps wq12) (fun z hz => Keeps.trans hJ hz) _ _ _ _ ?_
            replace HB := Lib.hid (HB.out.trans (Below.mono hJ HB.out.size))
            replace HT := Lib.hid (HT.out.later hJ)
            replace HO := Lib.hid ((Below.block hJ _ (L.blk_lt HO.out)).trans HO.out)
            replace HX := Lib.hid (HX.out.below hJ)
            replace HY := Lib.hid (HY.out.below hJ)
            replace HA := Lib.hid (HA.out.below hJ)
            replace HW := Lib.hid (HW.out.below hJ)
            replace S1 := Lib.hid (S1.out.below hJ)
            replace S2 := Lib.hid (S2.out.below hJ)
            replace S3 := Lib.hid (S3.out.below hJ)
            replace S4 := Lib.hid (S4.out.below hJ)
            have hH12 : Keeps wq12 wq12 := Below.refl _ _
            clear hK K hbq hH11 hJ
            refine wpAnyH_take (i := 41) (oi := { dst := some 105, op := Go.Op.binOp Go.BinOp.eql 42 (Go.Operand.tmp 104) (Go.Operand.const (Go.Value.int Go.IntKind.i64 1)) 42, type := 4, pos := "law.go:90", after := #[{ on := 40, ground := Go.Ground.data }, { on := 37, ground := Go.Ground.guard }], guard := some (37, true) }) (v := ?_) rfl (by kernel_rfl) (by kernel_rfl) (by kernel_rfl) (fun _ _ _ h => h) (Or.inl ⟨by rfl, ?_⟩) hH12 ?_
            rotate_left
            · (intro wz hSz; (try dsimp only at hSz); go_simp; try with_reducible rfl)
            simp only [Act.put, List.setIfInBounds_toArray, List.set_cons_zero, List.set_cons_succ]
            refine wpAnyH_take (i := 42) (oi := { dst := some 106, op := Go.Op.pick (Go.Operand.tmp 101) (Go.Operand.tmp 105) (Go.Operand.const (Go.Value.bool false)), type := 4, pos := "law.go:90", after := #[{ on := 37, ground := Go.Ground.data }, { on := 41, ground := Go.Ground.data }], guard := none }) (v := ?_) rfl (by kernel_rfl) (by kernel_rfl) (by kernel_rfl) (fun _ _ _ h => h) (Or.inl ⟨by rfl, ?_⟩) hH12 ?_
            rotate_left
            · (intro wz hSz; (try dsimp only at hSz); go_simp; try with_reducible rfl)
            simp only [Act.put, List.setIfInBounds_toArray, List.set_cons_zero, List.set_cons_succ]
            refine wpAnyH_take (i := 43) (oi := { dst := some 107, op := Go.Op.move (Go.Operand.tmp 106), type := 4, pos := "law.go:90", after := #[{ on := 42, ground := Go.Ground.data }, { on := 40, ground := Go.Ground.chain }], guard := none }) (v := ?_) rfl (by kernel_rfl) (by kernel_rfl) (by kernel_rfl) (fun _ _ _ h => h) (Or.inl ⟨by rfl, ?_⟩) hH12 ?_
            rotate_left
            · (intro wz hSz; (try dsimp only at hSz); go_simp; try with_reducible rfl)
            simp only [Act.put, List.setIfInBounds_toArray, List.set_cons_zero, List.set_cons_succ]
            refine wpAnyH_take (i := 44) (oi := { dst := some 108, op := Go.Op.move (Go.Operand.tmp 15), type := 26, pos := "law.go:90", after := #[{ on := 43, ground := Go.Ground.guard }], guard := some (43, true) }) (v := ?_) rfl (by kernel_rfl) (by kernel_rfl) (by kernel_rfl) (fun _ _ _ h => h) (Or.inl ⟨by rfl, ?_⟩) hH12 ?_
            rotate_left
            · (intro wz hSz; (try dsimp only at hSz); go_simp; try with_reducible rfl)
            simp only [Act.put, List.setIfInBounds_toArray, List.set_cons_zero, List.set_cons_succ]
            refine wpAnyH_take (i := 46) (oi := { dst := some 110, op := Go.Op.move (Go.Operand.tmp 15), type := 26, pos := "law.go:90", after := #[{ on := 43, ground := Go.Ground.guard }], guard := some (43, true) }) (v := ?_) rfl (by kernel_rfl) (by kernel_rfl) (by kernel_rfl) (fun _ _ _ h => h) (Or.inl ⟨by rfl, ?_⟩) hH12 ?_
            rotate_left
            · (intro wz hSz; (try dsimp only at hSz); go_simp; try with_reducible rfl)
            simp only [Act.put, List.setIfInBounds_toArray, List.set_cons_zero, List.set_cons_succ]
            refine wpAnyH_take (i := 47) (oi := { dst := some 111, op := Go.Op.load 25 (Go.Operand.tmp 5), type := 25, pos := "law.go:90", after := #[{ on := 43, ground := Go.Ground.guard }], guard := some (43, true) }) (v := ?_) rfl (by kernel_rfl) (by kernel_rfl) (by kernel_rfl) (fun _ _ _ h => h) (Or.inl ⟨by rfl, ?_⟩) hH12 ?_
            rotate_left
            · (intro wz hSz; have hcz := True.intro; obtain ⟨c0, c1⟩ := lab_cells ((Below.block hSz _ (L.blk_lt HO.out)).trans HO.out); go_simp; try with_reducible rfl)
            simp only [Act.put, List.setIfInBounds_toArray, List.set_cons_zero, List.set_cons_succ]
            refine wpAnyH_take (i := 50) (oi := { dst := some 114, op := Go.Op.move (Go.Operand.tmp 15), type := 26, pos := "law.go:90", after := #[{ on := 43, ground := Go.Ground.guard }], guard := some (43, true) }) (v := ?_) rfl (by kernel_rfl) (by kernel_rfl) (by kernel_rfl) (fun _ _ _ h => h) (Or.inl ⟨by rfl, ?_⟩) hH12 ?_
            rotate_left
            · (intro wz hSz; (try dsimp only at hSz); go_simp; try with_reducible rfl)
            simp only [Act.put, List.setIfInBounds_toArray, List.set_cons_zero, List.set_cons_succ]
            refine wpAnyH_take (i := 51) (oi := { dst := some 115, op := Go.Op.load 25 (Go.Operand.tmp 5), type := 25, pos := "law.go:90", after := #[{ on := 43, ground := Go.Ground.guard }], guard := some (43, true) }) (v := ?_) rfl (by kernel_rfl) (by kernel_rfl) (by kernel_rfl) (fun _ _ _ h => h) (Or.inl ⟨by rfl, ?_⟩) hH12 ?_
            rotate_left
            · (intro wz hSz; have hcz := True.intro; obtain ⟨c0, c1⟩ := lab_cells ((Below.block hSz _ (L.blk_lt HO.out)).trans HO.out); go_simp; try with_reducible rfl)
            simp only [Act.put, List.setIfInBounds_toArray, List.set_cons_zero, List.set_cons_succ]
            refine wpAnyH_take (i := 55) (oi := { dst := some 119, op := Go.Op.move (Go.Operand.tmp 15), type := 26, pos := "law.go:90", after := #[{ on := 43, ground := Go.Ground.guard }], guard := some (43, true) }) (v := ?_) rfl (by kernel_rfl) (by kernel_rfl) (by kernel_rfl) (fun _ _ _ h => h) (Or.inl ⟨by rfl, ?_⟩) hH12 ?_
            rotate_left
            · (intro wz hSz; (try dsimp only at hSz); go_simp; try with_reducible rfl)
            simp only [Act.put, List.setIfInBounds_toArray, List.set_cons_zero, List.set_cons_succ]
            refine wpAnyH_take (i := 56) (oi := { dst := some 120, op := Go.Op.load 25 (Go.Operand.tmp 5), type := 25, pos := "law.go:90", after := #[{ on := 43, ground := Go.Ground.guard }], guard := some (43, true) }) (v := ?_) rfl (by kernel_rfl) (by kernel_rfl) (by kernel_rfl) (fun _ _ _ h => h) (Or.inl ⟨by rfl, ?_⟩) hH12 ?_
            rotate_left
            · (intro wz hSz; have hcz := True.intro; obtain ⟨c0, c1⟩ := lab_cells ((Below.block hSz _ (L.blk_lt HO.out)).trans HO.out); go_simp; try with_reducible rfl)
            simp only [Act.put, List.setIfInBounds_toArray, List.set_cons_zero, List.set_cons_succ]
            refine wpAnyH_ready (rs := [45]) (by kernel_rfl) (by simp) ?_
            refine AllReadyH.cons (o := { dst := some 109, op := Go.Op.call { callee := Go.Callee.value (Go.Operand.func 22), args := #[Go.Operand.tmp 108], argTypes := #[26] }, type := 3, pos := "law.go:90", after := #[{ on := 44, ground := Go.Ground.data }, { on := 43, ground := Go.Ground.chain }, { on := 43, ground := Go.Ground.guard }], guard := some (43, true) }) rfl (fun K hK => ?_) AllReadyH.nil
            go_simp
            with_reducible refine (nil_len _).mono ?_
            rintro r wq13 ⟨rfl, hbq⟩
            go_wp2_with fail
            refine hK.out _ _ (Keeps.trans hH12 hbq) (fun hJ => ?_)
            refine wpAnyH_more (S' := Keeps wq13) (fun z hz => Keeps.trans hJ hz) _ _ _ _ ?_
            replace HB := Lib.hid (HB.out.trans (Below.mono hJ HB.out.size))
            replace HT := Lib.hid (HT.out.later hJ)
            replace HO := Lib.hid ((Below.block hJ _ (L.blk_lt HO.out)).trans HO.out)
            replace HX := Lib.hid (HX.out.below hJ)
            replace HY := Lib.hid (HY.out.below hJ)
            replace HA := Lib.hid (HA.out.below hJ)
            replace HW := Lib.hid (HW.out.below hJ)
            replace S1 := Lib.hid (S1.out.below hJ)
            replace S2 := Lib.hid (S2.out.below hJ)
            replace S3 := Lib.hid (S3.out.below hJ)
            replace S4 := Lib.hid (S4.out.below hJ)
            have hH13 : Keeps wq13 wq13 := Below.refl _ _
            clear hK K hbq hH12 hJ
            refine wpAnyH_ready (rs := [48]) (by kernel_rfl) (by simp) ?_
            refine AllReadyH.cons (o := { dst := some 112, op := Go.Op.call { callee := Go.Callee.value (Go.Operand.func 9), args := #[Go.Operand.tmp 110, Go.Operand.tmp 111], argTypes := #[26, 25] }, type := 3, pos := "law.go:90", after := #[{ on := 46, ground := Go.Ground.data }, { on := 47, ground := Go.Ground.data }, { on := 45, ground := Go.Ground.chain }, { on := 43, ground := Go.Ground.guard }], guard := some (43, true) }) rfl (fun K hK => ?_) AllReadyH.nil
            go_simp
            with_reducible refine (nil_of _ _ _).mono ?_
            rintro r wq14 ⟨rfl, hbq⟩
            go_wp2_with fail
            refine hK.out _ _ (Keeps.trans hH13 hbq) (fun hJ => ?_)
            refine wpAnyH_more (S' := Keeps wq14) (fun z hz => Keeps.trans hJ hz) _ _ _ _ ?_
            replace HB := Lib.hid (HB.out.trans (Below.mono hJ HB.out.size))
            replace HT := Lib.hid (HT.out.later hJ)
            replace HO := Lib.hid ((Below.block hJ _ (L.blk_lt HO.out)).trans HO.out)
            replace HX := Lib.hid (HX.out.below hJ)
            replace HY := Lib.hid (HY.out.below hJ)
            replace HA := Lib.hid (HA.out.below hJ)
            replace HW := Lib.hid (HW.out.below hJ)
            replace S1 := Lib.hid (S1.out.below hJ)
            replace S2 := Lib.hid (S2.out.below hJ)
            replace S3 := Lib.hid (S3.out.below hJ)
            replace S4 := Lib.hid (S4.out.below hJ)
            have hH14 : Keeps wq14 wq14 := Below.refl _ _
            clear hK K hbq hH13 hJ
            refine wpAnyH_take (i := 49) (oi := { dst := some 113, op := Go.Op.binOp Go.BinOp.add 3 (Go.Operand.tmp 109) (Go.Operand.tmp 112) 3, type := 3, pos := "law.go:90", after := #[{ on := 45, ground := Go.Ground.data }, { on := 48, ground := Go.Ground.data }, { on := 43, ground := Go.Ground.guard }], guard := some (43, true) }) (v := ?_) rfl (by kernel_rfl) (by kernel_rfl) (by kernel_rfl) (fun _ _ _ h => h) (Or.inl ⟨by rfl, ?_⟩) hH14 ?_
            rotate_left
            · (intro wz hSz; (try dsimp only at hSz); go_simp; try with_reducible rfl)
            simp only [Act.put, List.setIfInBounds_toArray, List.set_cons_zero, List.set_cons_succ]
            refine wpAnyH_ready (rs := [52]) (by kernel_rfl) (by simp) ?_
            refine AllReadyH.cons (o := { dst := some 116, op := Go.Op.call { callee := Go.Callee.value (Go.Operand.func 13), args := #[Go.Operand.tmp 114, Go.Operand.tmp 115], argTypes := #[26, 25] }, type := 22, pos := "law.go:90", after := #[{ on := 50, ground := Go.Ground.data }, { on := 51, ground := Go.Ground.data }, { on := 48, ground := Go.Ground.chain }, { on := 43, ground := Go.Ground.guard }], guard := some (43, true) }) rfl (fun K hK => ?_) AllReadyH.nil
            go_simp
            with_reducible refine (nil_seen _ _ _).mono ?_
            rintro r wq15 ⟨rfl, hbq⟩
            go_wp2_with fail
            refine hK.out _ _ (Keeps.trans hH14 hbq) (fun hJ => ?_)
            refine wpAnyH_more (S' := Keeps wq15) (fun z hz => Keeps.trans hJ hz) _ _ _ _ ?_
            replace HB := Lib.hid (HB.out.trans (Below.mono hJ HB.out.size))
            replace HT := Lib.hid (HT.out.later hJ)
            replace HO := Lib.hid ((Below.block hJ _ (L.blk_lt HO.out)).trans HO.out)
            replace HX := Lib.hid (HX.out.below hJ)
            replace HY := Lib.hid (HY.out.below hJ)
            replace HA := Lib.hid (HA.out.below hJ)
            replace HW := Lib.hid (HW.out.below hJ)
            replace S1 := Lib.hid (S1.out.below hJ)
            replace S2 := Lib.hid (S2.out.below hJ)
            replace S3 := Lib.hid (S3.out.below hJ)
            replace S4 := Lib.hid (S4.out.below hJ)
            have hH15 : Keeps wq15 wq15 := Below.refl _ _
            clear hK K hbq hH14 hJ
            refine wpAnyH_take (i := 53) (oi := { dst := some 117, op := Go.Op.call { callee := Go.Callee.builtin Go.Builtin.len, args := #[Go.Operand.tmp 116], argTypes := #[22] }, type := 3, pos := "law.go:90", after := #[{ on := 52, ground := Go.Ground.data }, { on := 43, ground := Go.Ground.guard }], guard := some (43, true) }) (v := ?_) rfl (by kernel_rfl) (by kernel_rfl) (by kernel_rfl) (fun _ _ _ h => h) (Or.inl ⟨by rfl, ?_⟩) hH15 ?_
            rotate_left
            · (intro wz hSz; (try dsimp only at hSz); go_simp; try with_reducible rfl)
            simp only [Act.put, List.setIfInBounds_toArray, List.set_cons_zero, List.set_cons_succ]
            refine wpAnyH_take (i := 54) (oi := { dst := some 118, op := Go.Op.binOp Go.BinOp.add 3 (Go.Operand.tmp 113) (Go.Operand.tmp 117) 3, type := 3, pos := "law.go:90", after := #[{ on := 49, ground := Go.Ground.data }, { on := 53, ground := Go.Ground.data }, { on := 43, ground := Go.Ground.guard }], guard := some (43, true) }) (v := ?_) rfl (by kernel_rfl) (by kernel_rfl) (by kernel_rfl) (fun _ _ _ h => h) (Or.inl ⟨by rfl, ?_⟩) hH15 ?_
            rotate_left
            · (intro wz hSz; (try dsimp only at hSz); go_simp; try with_reducible rfl)
            simp only [Act.put, List.setIfInBounds_toArray, List.set_cons_zero, List.set_cons_succ]
            refine wpAnyH_ready (rs := [57]) (by kernel_rfl) (by simp) ?_
            refine AllReadyH.cons (o := { dst := some 121, op := Go.Op.call { callee := Go.Callee.value (Go.Operand.func 15), args := #[Go.Operand.tmp 119, Go.Operand.tmp 120], argTypes := #[26, 25] }, type := 35, pos := "law.go:90", after := #[{ on := 55, ground := Go.Ground.data }, { on := 56, ground := Go.Ground.data }, { on := 52, ground := Go.Ground.chain }, { on := 43, ground := Go.Ground.guard }], guard := some (43, true) }) rfl (fun K hK => ?_) AllReadyH.nil
            go_simp
            with_reducible refine (nil_print _ _ _).mono ?_
            rintro r wq16 ⟨rfl, hbq⟩
            go_wp2_with fail
            refine hK.out _ _ (Keeps.trans hH15 hbq) (fun hJ => ?_)
            refine wpAnyH_more (S' := Keeps wq16) (fun z hz => Keeps.trans hJ hz) _ _ _ _ ?_
            replace HB := Lib.hid (HB.out.trans (Below.mono hJ HB.out.size))
            replace HT := Lib.hid (HT.out.later hJ)
            replace HO := Lib.hid ((Below.block hJ _ (L.blk_lt HO.out)).trans HO.out)
            replace HX := Lib.hid (HX.out.below hJ)
            replace HY := Lib.hid (HY.out.below hJ)
            replace HA := Lib.hid (HA.out.below hJ)
            replace HW := Lib.hid (HW.out.below hJ)
            replace S1 := Lib.hid (S1.out.below hJ)
            replace S2 := Lib.hid (S2.out.below hJ)
            replace S3 := Lib.hid (S3.out.below hJ)
            replace S4 := Lib.hid (S4.out.below hJ)
            have hH16 : Keeps wq16 wq16 := Below.refl _ _
            clear hK K hbq hH15 hJ
            refine wpAnyH_take (i := 58) (oi := { dst := some 122, op := Go.Op.call { callee := Go.Callee.builtin Go.Builtin.len, args := #[Go.Operand.tmp 121], argTypes := #[35] }, type := 3, pos := "law.go:90", after := #[{ on := 57, ground := Go.Ground.data }, { on := 43, ground := Go.Ground.guard }], guard := some (43, true) }) (v := ?_) rfl (by kernel_rfl) (by kernel_rfl) (by kernel_rfl) (fun _ _ _ h => h) (Or.inl ⟨by rfl, ?_⟩) hH16 ?_
            rotate_left
            · (intro wz hSz; (try dsimp only at hSz); go_simp; try with_reducible rfl)
            simp only [Act.put, List.setIfInBounds_toArray, List.set_cons_zero, List.set_cons_succ]
            refine wpAnyH_take (i := 59) (oi := { dst := some 123, op := Go.Op.binOp Go.BinOp.add 3 (Go.Operand.tmp 118) (Go.Operand.tmp 122) 3, type := 3, pos := "law.go:90", after := #[{ on := 54, ground := Go.Ground.data }, { on := 58, ground := Go.Ground.data }, { on := 43, ground := Go.Ground.guard }], guard := some (43, true) }) (v := ?_) rfl (by kernel_rfl) (by kernel_rfl) (by kernel_rfl) (fun _ _ _ h => h) (Or.inl ⟨by rfl, ?_⟩) hH16 ?_
            rotate_left
            · (intro wz hSz; (try dsimp only at hSz); go_simp; try with_reducible rfl)
            simp only [Act.put, List.setIfInBounds_toArray, List.set_cons_zero, List.set_cons_succ]
            refine wpAnyH_take (i := 60) (oi := { dst := some 124, op := Go.Op.binOp Go.BinOp.eql 3 (Go.Operand.tmp 123) (Go.Operand.const (Go.Value.int Go.IntKind.i64 0)) 3, type := 4, pos := "law.go:90", after := #[{ on := 59, ground := Go.Ground.data }, { on := 43, ground := Go.Ground.guard }], guard := some (43, true) }) (v := ?_) rfl (by kernel_rfl) (by kernel_rfl) (by kernel_rfl) (fun _ _ _ h => h) (Or.inl ⟨by rfl, ?_⟩) hH16 ?_
            rotate_left
            · (intro wz hSz; (try dsimp only at hSz); go_simp; try with_reducible rfl)
            simp only [Act.put, List.setIfInBounds_toArray, List.set_cons_zero, List.set_cons_succ]
            refine wpAnyH_take (i := 61) (oi := { dst := some 125, op := Go.Op.pick (Go.Operand.tmp 107) (Go.Operand.tmp 124) (Go.Operand.const (Go.Value.bool false)), type := 4, pos := "law.go:90", after := #[{ on := 43, ground := Go.Ground.data }, { on := 60, ground := Go.Ground.data }], guard := none }) (v := ?_) rfl (by kernel_rfl) (by kernel_rfl) (by kernel_rfl) (fun _ _ _ h => h) (Or.inl ⟨by rfl, ?_⟩) hH16 ?_
            rotate_left
            · (intro wz hSz; (try dsimp only at hSz); go_simp; try with_reducible rfl)
            simp only [Act.put, List.setIfInBounds_toArray, List.set_cons_zero, List.set_cons_succ]
            refine wpAnyH_take (i := 62) (oi := { dst := some 126, op := Go.Op.move (Go.Operand.tmp 125), type := 4, pos := "law.go:90", after := #[{ on := 61, ground := Go.Ground.data }, { on := 57, ground := Go.Ground.chain }], guard := none }) (v := ?_) rfl (by kernel_rfl) (by kernel_rfl) (by kernel_rfl) (fun _ _ _ h => h) (Or.inl ⟨by rfl, ?_⟩) hH16 ?_
            rotate_left
            · (intro wz hSz; (try dsimp only at hSz); go_simp; try with_reducible rfl)
            simp only [Act.put, List.setIfInBounds_toArray, List.set_cons_zero, List.set_cons_succ]
            refine wpAnyH_take (i := 63) (oi := { dst := some 127, op := Go.Op.move (Go.Operand.tmp 15), type := 26, pos := "law.go:90", after := #[{ on := 62, ground := Go.Ground.guard }], guard := some (62, true) }) (v := ?_) rfl (by kernel_rfl) (by kernel_rfl) (by kernel_rfl) (fun _ _ _ h => h) (Or.inl ⟨by rfl, ?_⟩) hH16 ?_
            rotate_left
            · (intro wz hSz; (try dsimp only at hSz); go_simp; try with_reducible rfl)
            simp only [Act.put, List.setIfInBounds_toArray, List.set_cons_zero, List.set_cons_succ]
            refine wpAnyH_take (i := 64) (oi := { dst := some 128, op := Go.Op.load 25 (Go.Operand.tmp 5), type := 25, pos := "law.go:90", after := #[{ on := 62, ground := Go.Ground.guard }], guard := some (62, true) }) (v := ?_) rfl (by kernel_rfl) (by kernel_rfl) (by kernel_rfl) (fun _ _ _ h => h) (Or.inl ⟨by rfl, ?_⟩) hH16 ?_
            rotate_left
            · (intro wz hSz; have hcz := True.intro; obtain ⟨c0, c1⟩ := lab_cells ((Below.block hSz _ (L.blk_lt HO.out)).trans HO.out); go_simp; try with_reducible rfl)
            simp only [Act.put, List.setIfInBounds_toArray, List.set_cons_zero, List.set_cons_succ]
            refine wpAnyH_ready (rs := [65]) (by kernel_rfl) (by simp) ?_
            refine AllReadyH.cons (o := { dst := some 129, op := Go.Op.call { callee := Go.Callee.value (Go.Operand.func 11), args := #[Go.Operand.tmp 127, Go.Operand.tmp 128, Go.Operand.const (Go.Value.int Go.IntKind.i64 0)], argTypes := #[26, 25, 3] }, type := 4, pos := "law.go:90", after := #[{ on := 63, ground := Go.Ground.data }, { on := 64, ground := Go.Ground.data }, { on := 62, ground := Go.Ground.chain }, { on := 62, ground := Go.Ground.guard }], guard := some (62, true) }) rfl (fun K hK => ?_) AllReadyH.nil
            go_simp
            with_reducible refine (nil_full _ _ _ _).mono ?_
            rintro r wq17 ⟨rfl, hbq⟩
            go_wp2_with fail
            refine hK.out _ _ (Keeps.trans hH16 hbq) (fun hJ => ?_)
            refine wpAnyH_more (S' := Keeps wq17) (fun z hz => Keeps.trans hJ hz) _ _ _ _ ?_
            replace HB := Lib.hid (HB.out.trans (Below.mono hJ HB.out.size))
            replace HT := Lib.hid (HT.out.later hJ)
            replace HO := Lib.hid ((Below.block hJ _ (L.blk_lt HO.out)).trans HO.out)
            replace HX := Lib.hid (HX.out.below hJ)
            replace HY := Lib.hid (HY.out.below hJ)
            replace HA := Lib.hid (HA.out.below hJ)
            replace HW := Lib.hid (HW.out.below hJ)
            replace S1 := Lib.hid (S1.out.below hJ)
            replace S2 := Lib.hid (S2.out.below hJ)
            replace S3 := Lib.hid (S3.out.below hJ)
            replace S4 := Lib.hid (S4.out.below hJ)
            have hH17 : Keeps wq17 wq17 := Below.refl _ _
            clear hK K hbq hH16 hJ
            refine wpAnyH_take (i := 66) (oi := { dst := some 130, op := Go.Op.unOp Go.UnOp.not 4 (Go.Operand.tmp 129), type := 4, pos := "law.go:90", after := #[{ on := 65, ground := Go.Ground.data }, { on := 62, ground := Go.Ground.guard }], guard := some (62, true) }) (v := ?_) rfl (by kernel_rfl) (by kernel_rfl) (by kernel_rfl) (fun _ _ _ h => h) (Or.inl ⟨by rfl, ?_⟩) hH17 ?_
            rotate_left
            · (intro wz hSz; (try dsimp only at hSz); go_simp; try with_reducible rfl)
            simp only [Act.put, List.setIfInBounds_toArray, List.set_cons_zero, List.set_cons_succ]
            refine wpAnyH_take (i := 67) (oi := { dst := some 131, op := Go.Op.pick (Go.Operand.tmp 126) (Go.Operand.tmp 130) (Go.Operand.const (Go.Value.bool false)), type := 4, pos := "law.go:90", after := #[{ on := 62, ground := Go.Ground.data }, { on := 66, ground := Go.Ground.data }], guard := none }) (v := ?_) rfl (by kernel_rfl) (by kernel_rfl) (by kernel_rfl) (fun _ _ _ h => h) (Or.inl ⟨by rfl, ?_⟩) hH17 ?_
            rotate_left
            · (intro wz hSz; (try dsimp only at hSz); go_simp; try with_reducible rfl)
            simp only [Act.put, List.setIfInBounds_toArray, List.set_cons_zero, List.set_cons_succ]
            refine wpAnyH_take (i := 68) (oi := { dst := some 132, op := Go.Op.move (Go.Operand.tmp 131), type := 4, pos := "law.go:90", after := #[{ on := 67, ground := Go.Ground.data }, { on := 65, ground := Go.Ground.chain }], guard := none }) (v := ?_) rfl (by kernel_rfl) (by kernel_rfl) (by kernel_rfl) (fun _ _ _ h => h) (Or.inl ⟨by rfl, ?_⟩) hH17 ?_
            rotate_left
            · (intro wz hSz; (try dsimp only at hSz); go_simp; try with_reducible rfl)
            simp only [Act.put, List.setIfInBounds_toArray, List.set_cons_zero, List.set_cons_succ]
            refine wpAnyH_take (i := 69) (oi := { dst := some 133, op := Go.Op.move (Go.Operand.tmp 15), type := 26, pos := "law.go:90", after := #[{ on := 68, ground := Go.Ground.guard }], guard := some (68, true) }) (v := ?_) rfl (by kernel_rfl) (by kernel_rfl) (by kernel_rfl) (fun _ _ _ h => h) (Or.inl ⟨by rfl, ?_⟩) hH17 ?_
            rotate_left
            · (intro wz hSz; (try dsimp only at hSz); go_simp; try with_reducible rfl)
            simp only [Act.put, List.setIfInBounds_toArray, List.set_cons_zero, List.set_cons_succ]
            refine wpAnyH_ready (rs := [70]) (by kernel_rfl) (by simp) ?_
            refine AllReadyH.cons (o := { dst := some 134, op := Go.Op.call { callee := Go.Callee.value (Go.Operand.func 19), args := #[Go.Operand.tmp 133], argTypes := #[26] }, type := 26, pos := "law.go:90", after := #[{ on := 69, ground := Go.Ground.data }, { on := 68, ground := Go.Ground.chain }, { on := 68, ground := Go.Ground.guard }], guard := some (68, true) }) rfl (fun K hK => ?_) AllReadyH.nil
            go_simp
            with_reducible refine (nil_fork _).mono ?_
            rintro r wq18 ⟨rfl, hbq⟩
            go_wp2_with fail
            refine hK.out _ _ (Keeps.trans hH17 hbq) (fun hJ => ?_)
            refine wpAnyH_more (S' := Keeps wq18) (fun z hz => Keeps.trans hJ hz) _ _ _ _ ?_
            replace HB := Lib.hid (HB.out.trans (Below.mono hJ HB.out.size))
            replace HT := Lib.hid (HT.out.later hJ)
            replace HO := Lib.hid ((Below.block hJ _ (L.blk_lt HO.out)).trans HO.out)
            replace HX := Lib.hid (HX.out.below hJ)
            replace HY := Lib.hid (HY.out.below hJ)
            replace HA := Lib.hid (HA.out.below hJ)
            replace HW := Lib.hid (HW.out.below hJ)
            replace S1 := Lib.hid (S1.out.below hJ)
            replace S2 := Lib.hid (S2.out.below hJ)
            replace S3 := Lib.hid (S3.out.below hJ)
            replace S4 := Lib.hid (S4.out.below hJ)
            have hH18 : Keeps wq18 wq18 := Below.refl _ _
            clear hK K hbq hH17 hJ
            refine wpAnyH_take (i := 71) (oi := { dst := some 135, op := Go.Op.binOp Go.BinOp.eql 26 (Go.Operand.tmp 134) (Go.Operand.const (Go.Value.pointer none)) 26, type := 4, pos := "law.go:90", after := #[{ on := 70, ground := Go.Ground.data }, { on := 68, ground := Go.Ground.guard }], guard := some (68, true) }) (v := ?_) rfl (by kernel_rfl) (by kernel_rfl) (by kernel_rfl) (fun _ _ _ h => h) (Or.inl ⟨by rfl, ?_⟩) hH18 ?_
            rotate_left
            · (intro wz hSz; (try dsimp only at hSz); go_simp; try with_reducible rfl)
            simp only [Act.put, List.setIfInBounds_toArray, List.set_cons_zero, List.set_cons_succ]
            refine wpAnyH_take (i := 72) (oi := { dst := some 136, op := Go.Op.pick (Go.Operand.tmp 132) (Go.Operand.tmp 135) (Go.Operand.const (Go.Value.bool false)), type := 4, pos := "law.go:90", after := #[{ on := 68, ground := Go.Ground.data }, { on := 71, ground := Go.Ground.data }], guard := none }) (v := ?_) rfl (by kernel_rfl) (by kernel_rfl) (by kernel_rfl) (fun _ _ _ h => h) (Or.inl ⟨by rfl, ?_⟩) hH18 ?_
            rotate_left
            · (intro wz hSz; (try dsimp only at hSz); go_simp; try with_reducible rfl)
            simp only [Act.put, List.setIfInBounds_toArray, List.set_cons_zero, List.set_cons_succ]
            refine wpAnyH_take (i := 73) (oi := { dst := some 6, op := Go.Op.assign (Go.Operand.tmp 136), type := 4, pos := "law.go:90", after := ([{ on := 72, ground := Go.Ground.data }, { on := 70, ground := Go.Ground.chain }, { on := 0, ground := Go.Ground.phase }, { on := 1, ground := Go.Ground.phase }, { on := 2, ground := Go.Ground.phase }, { on := 3, ground := Go.Ground.phase }, { on := 4, ground := Go.Ground.phase }, { on := 5, ground := Go.Ground.phase }, { on := 6, ground := Go.Ground.phase }, { on := 7, ground := Go.Ground.phase }, { on := 8, ground := Go.Ground.phase }, { on := 9, ground := Go.Ground.phase }, { on := 10, ground := Go.Ground.phase }, { on := 11, ground := Go.Ground.phase }, { on := 12, ground := Go.Ground.phase }, { on := 13, ground := Go.Ground.phase }, { on := 14, ground := Go.Ground.phase }, { on := 15, ground := Go.Ground.phase }, { on := 16, ground := Go.Ground.phase }, { on := 17, ground := Go.Ground.phase }, { on := 18, ground := Go.Ground.phase }, { on := 19, ground := Go.Ground.phase }, { on := 20, ground := Go.Ground.phase }, { on := 21, ground := Go.Ground.phase }, { on := 22, ground := Go.Ground.phase }, { on := 23, ground := Go.Ground.phase }, { on := 24, ground := Go.Ground.phase }, { on := 25, ground := Go.Ground.phase }, { on := 26, ground := Go.Ground.phase }, { on := 27, ground := Go.Ground.phase }, { on := 28, ground := Go.Ground.phase }, { on := 29, ground := Go.Ground.phase }, { on := 30, ground := Go.Ground.phase }, { on := 31, ground := Go.Ground.phase }, { on := 32, ground := Go.Ground.phase }, { on := 33, ground := Go.Ground.phase }, { on := 34, ground := Go.Ground.phase }].append [{ on := 35, ground := Go.Ground.phase }, { on := 36, ground := Go.Ground.phase }, { on := 37, ground := Go.Ground.phase }, { on := 38, ground := Go.Ground.phase }, { on := 39, ground := Go.Ground.phase }, { on := 40, ground := Go.Ground.phase }, { on := 41, ground := Go.Ground.phase }, { on := 42, ground := Go.Ground.phase }, { on := 43, ground := Go.Ground.phase }, { on := 44, ground := Go.Ground.phase }, { on := 45, ground := Go.Ground.phase }, { on := 46, ground := Go.Ground.phase }, { on := 47, ground := Go.Ground.phase }, { on := 48, ground := Go.Ground.phase }, { on := 49, ground := Go.Ground.phase }, { on := 50, ground := Go.Ground.phase }, { on := 51, ground := Go.Ground.phase }, { on := 52, ground := Go.Ground.phase }, { on := 53, ground := Go.Ground.phase }, { on := 54, ground := Go.Ground.phase }, { on := 55, ground := Go.Ground.phase }, { on := 56, ground := Go.Ground.phase }, { on := 57, ground := Go.Ground.phase }, { on := 58, ground := Go.Ground.phase }, { on := 59, ground := Go.Ground.phase }, { on := 60, ground := Go.Ground.phase }, { on := 61, ground := Go.Ground.phase }, { on := 62, ground := Go.Ground.phase }, { on := 63, ground := Go.Ground.phase }, { on := 64, ground := Go.Ground.phase }, { on := 65, ground := Go.Ground.phase }, { on := 66, ground := Go.Ground.phase }, { on := 67, ground := Go.Ground.phase }, { on := 68, ground := Go.Ground.phase }, { on := 69, ground := Go.Ground.phase }, { on := 70, ground := Go.Ground.phase }, { on := 71, ground := Go.Ground.phase }, { on := 72, ground := Go.Ground.phase }]).toArray, guard := none }) (v := ?_) rfl (by kernel_rfl) (by kernel_rfl) (by kernel_rfl) (fun _ _ _ h => h) (Or.inl ⟨by rfl, ?_⟩) hH18 ?_
            rotate_left
            · (intro wz hSz; (try dsimp only at hSz); go_simp; try with_reducible rfl)
            simp only [Act.put, List.setIfInBounds_toArray, List.set_cons_zero, List.set_cons_succ]
            refine wpAnyH_done (by kernel_rfl) ?_ _
            go_wp2_with fail
            go_ret
            exact ⟨by rfl, HB.out⟩
      · skip
        go_wp2_with fail
        with_reducible refine HSE5.out.mono ?_
        rintro e w6 ⟨SA, sc, rfl, ho6, hb6⟩
        have HO6 := Lib.hid ho6
        have HSQ := Lib.hid (HSE.out bx)
        have HB6 := Lib.hid hb6
        clear ho6 hb6 HSE5 HSQ y0 y1
        go_wp2_with fail
        go_loopg [14] s.length (fun q i w8 => ∃ (j : Nat) (cs : List Value), j ≤ s.length ∧ i = .int .i64 j ∧ s.length - j ≤ q ∧ Hid (w8.ownsRow wz.heap.size 40 6 (.slice SA s.length sc) s.length cs) ∧ Hid (Below wz.heap.size wz w8))
        case atStart => exact ⟨0, _, Nat.zero_le _, rfl, by omega, HO6, HB6⟩
        case round =>
          obtain ⟨j, cs, hj, rfl, hmm, HOJ, HBJ⟩ := hrel
          by_cases hjl : j < s.length
          · obtain ⟨g, hSe, hg0, hgl, hgc⟩ := own_at HOJ.out (by omega)
            subst hSe
            obtain ⟨cur, hcur⟩ := row_blk HOJ.out
            have hcl : cs.length = s.length * 6 := HOJ.out.1
            have hcj : ∃ u, wr.cell? ⟨g, j * 6, none⟩ = some u := by
              obtain ⟨u, hu⟩ : ∃ u, cs[j * 6]? = some u := ⟨cs[j * 6]'(by omega), List.getElem?_eq_getElem (by omega)⟩
              exact ⟨u, hgc _ _ hu⟩
            obtain ⟨u, hu⟩ := hcj
            have hz := L.blk_free hcur (j * 6)
            have h0j : (0 : Int) ≤ (j : Int) := by omega
            have hji : (j : Int) < (s.length : Int) := by omega
            obtain ⟨hst1, hst2⟩ := World.ownsRow.stored HOJ.out (j * 6) (.string ⟨#[111, 116, 104, 101, 114]⟩)
            have HST1 := Lib.hid hst1
            have HST2 : Hid (Below wz.heap.size wz (wr.setCell ⟨g, j * 6, none⟩ (.string ⟨#[111, 116, 104, 101, 114]⟩))) := Lib.hid (HBJ.out.setCell (p := ⟨g, j * 6, none⟩) hg0 _)
            clear hst1 hst2 hcur hgc hcl hg0 hgl
            go_wp2_with fail
            go_roundg (s.length - (j + 1))
            case rel => exact ⟨j + 1, _, by omega, by go_num, Nat.le_refl _, HST1, HST2⟩
            case measure => omega
          · obtain rfl : j = s.length := by omega
            clear HOJ HO6 hjl
            have hb9 := HBJ.out
            have HX := Lib.hid (HX5.out.below hb9)
            have HY := Lib.hid (HY5.out.below hb9)
            have HA := Lib.hid (HPZ.out.rx.below hb9)
            have HW := Lib.hid (HPZ.out.ry.below hb9)
            have HO := Lib.hid ((hb9.block _ (L.blk_lt HO5.out)).trans HO5.out)
            have HT := Lib.hid (HT5.out.later hb9)
            have HB := Lib.hid (HB5.out.trans (hb9.mono HB5.out.size))
            have HSX := Lib.hid ((HSE.out bx).sc)
            have HRY := Lib.hid (HRS.out yb)
            have HSA := Lib.hid (HSF.out b1)
            have HRB := Lib.hid (HRF.out bb)
            have HOX := Lib.hid (HOF.out bx)
            have HOY := Lib.hid (HRO.out yb)
            have HOA := Lib.hid (HOG.out b1)
            have HOB := Lib.hid (HRG.out bb)
            clear hb9 HBJ HX5 HY5 HPZ HO5 HT5 HB5 HSE HRS HSF HRF HOF HRO HOG HRG HB6
            have hw0 : IntKind.i64.wrap 0 = 0 := by rw [IntKind.wrap_i64]; rfl
            go_upto_region 16 with fail
            refine wp_region_held_drew (S := (Keeps wr)) (by kernel_rfl) (keeps_drew _) (fun hH0 => ?_)
            refine wpAnyH_ready (rs := [0]) (by kernel_rfl) (by simp) ?_
            refine AllReadyH.cons (o := { dst := some 64, op := Go.Op.call { callee := Go.Callee.value (Go.Operand.func 8), args := #[], argTypes := #[] }, type := 4, pos := "law.go:90", after := #[], guard := none }) rfl (fun K hK => ?_) AllReadyH.nil
            go_simp
            with_reducible refine (live20 _ (HT.out.later hH0.b)).mono ?_
            rintro r wq1 ⟨rfl, hbq⟩
            go_wp2_with fail
            refine hK.out _ _ (Keeps.trans hH0 hbq) (fun hJ => ?_)
            refine wpAnyH_more (S' := Keeps wq1) (fun z hz => Keeps.trans hJ hz) _ _ _ _ ?_
            replace HB := Lib.hid (HB.out.trans (Below.mono hJ HB.out.size))
            replace HT := Lib.hid (HT.out.later hJ)
            replace HO := Lib.hid ((Below.block hJ _ (L.blk_lt HO.out)).trans HO.out)
            replace HX := Lib.hid (HX.out.below hJ)
            replace HY := Lib.hid (HY.out.below hJ)
            replace HA := Lib.hid (HA.out.below hJ)
            replace HW := Lib.hid (HW.out.below hJ)
            have hH1 : Keeps wq1 wq1 := Below.refl _ _
            clear hK K hbq hH0 hJ
            refine wpAnyH_take (i := 1) (oi := { dst := some 65, op := Go.Op.move (Go.Operand.tmp 64), type := 4, pos := "law.go:90", after := #[{ on := 0, ground := Go.Ground.data }, { on := 0, ground := Go.Ground.chain }], guard := none }) (v := ?_) rfl (by kernel_rfl) (by kernel_rfl) (by kernel_rfl) (fun _ _ _ h => h) (Or.inl ⟨by rfl, ?_⟩) hH1 ?_
            rotate_left
            · (intro wz hSz; (try dsimp only at hSz); go_simp; try with_reducible rfl)
            simp only [Act.put, List.setIfInBounds_toArray, List.set_cons_zero, List.set_cons_succ]
            refine wpAnyH_take (i := 2) (oi := { dst := some 66, op := Go.Op.move (Go.Operand.tmp 7), type := 26, pos := "law.go:90", after := #[{ on := 1, ground := Go.Ground.guard }], guard := some (1, true) }) (v := ?_) rfl (by kernel_rfl) (by kernel_rfl) (by kernel_rfl) (fun _ _ _ h => h) (Or.inl ⟨by rfl, ?_⟩) hH1 ?_
            rotate_left
            · (intro wz hSz; (try dsimp only at hSz); go_simp; try with_reducible rfl)
            simp only [Act.put, List.setIfInBounds_toArray, List.set_cons_zero, List.set_cons_succ]
            refine wpAnyH_take (i := 3) (oi := { dst := some 67, op := Go.Op.load 25 (Go.Operand.tmp 5), type := 25, pos := "law.go:90", after := #[{ on := 1, ground := Go.Ground.guard }], guard := some (1, true) }) (v := ?_) rfl (by kernel_rfl) (by kernel_rfl) (by kernel_rfl) (fun _ _ _ h => h) (Or.inl ⟨by rfl, ?_⟩) hH1 ?_
            rotate_left
            · (intro wz hSz; have hcz := True.intro; obtain ⟨c0, c1⟩ := lab_cells ((Below.block hSz _ (L.blk_lt HO.out)).trans HO.out); go_simp; try with_reducible rfl)
            simp only [Act.put, List.setIfInBounds_toArray, List.set_cons_zero, List.set_cons_succ]
            refine wpAnyH_take (i := 5) (oi := { dst := some 69, op := Go.Op.move (Go.Operand.tmp 8), type := 27, pos := "law.go:90", after := #[{ on := 1, ground := Go.Ground.guard }], guard := some (1, true) }) (v := ?_) rfl (by kernel_rfl) (by kernel_rfl) (by kernel_rfl) (fun _ _ _ h => h) (Or.inl ⟨by rfl, ?_⟩) hH1 ?_
            rotate_left
            · (intro wz hSz; (try dsimp only at hSz); go_simp; try with_reducible rfl)
            simp only [Act.put, List.setIfInBounds_toArray, List.set_cons_zero, List.set_cons_succ]
            refine wpAnyH_take (i := 6) (oi := { dst := some 70, op := Go.Op.load 25 (Go.Operand.tmp 5), type := 25, pos := "law.go:90", after := #[{ on := 1, ground := Go.Ground.guard }], guard := some (1, true) }) (v := ?_) rfl (by kernel_rfl) (by kernel_rfl) (by kernel_rfl) (fun _ _ _ h => h) (Or.inl ⟨by rfl, ?_⟩) hH1 ?_
            rotate_left
            · (intro wz hSz; have hcz := True.intro; obtain ⟨c0, c1⟩ := lab_cells ((Below.block hSz _ (L.blk_lt HO.out)).trans HO.out); go_simp; try with_reducible rfl)
            simp only [Act.put, List.setIfInBounds_toArray, List.set_cons_zero, List.set_cons_succ]
            refine wpAnyH_ready (rs := [4]) (by kernel_rfl) (by simp) ?_
            refine AllReadyH.cons (o := { dst := some 68, op := Go.Op.call { callee := Go.Callee.value (Go.Operand.func 13), args := #[Go.Operand.tmp 66, Go.Operand.tmp 67], argTypes := #[26, 25] }, type := 22, pos := "law.go:90", after := #[{ on := 2, ground := Go.Ground.data }, { on := 3, ground := Go.Ground.data }, { on := 1, ground := Go.Ground.chain }, { on := 1, ground := Go.Ground.guard }], guard := some (1, true) }) rfl (fun K hK => ?_) AllReadyH.nil
            go_simp
            with_reducible refine (HSX.out.at (HX.out.below hH1.b)).mono ?_
            rintro r wq2 ⟨A1, c1, rfl, -, S1, hbq⟩
            go_wp2_with fail
            refine hK.out _ _ (Keeps.trans hH1 hbq) (fun hJ => ?_)
            refine wpAnyH_more (S' := Keeps wq2) (fun z hz => Keeps.trans hJ hz) _ _ _ _ ?_
            replace HB := Lib.hid (HB.out.trans (Below.mono hJ HB.out.size))
            replace HT := Lib.hid (HT.out.later hJ)
            replace HO := Lib.hid ((Below.block hJ _ (L.blk_lt HO.out)).trans HO.out)
            replace HX := Lib.hid (HX.out.below hJ)
            replace HY := Lib.hid (HY.out.below hJ)
            replace HA := Lib.hid (HA.out.below hJ)
            replace HW := Lib.hid (HW.out.below hJ)
            replace S1 := Lib.hid S1
            have hH2 : Keeps wq2 wq2 := Below.refl _ _
            clear hK K hbq hH1 hJ
            refine wpAnyH_ready (rs := [7]) (by kernel_rfl) (by simp) ?_
            refine AllReadyH.cons (o := { dst := some 71, op := Go.Op.call { callee := Go.Callee.value (Go.Operand.func 14), args := #[Go.Operand.tmp 69, Go.Operand.tmp 70], argTypes := #[27, 25] }, type := 22, pos := "law.go:90", after := #[{ on := 5, ground := Go.Ground.data }, { on := 6, ground := Go.Ground.data }, { on := 4, ground := Go.Ground.chain }, { on := 1, ground := Go.Ground.guard }], guard := some (1, true) }) rfl (fun K hK => ?_) AllReadyH.nil
            go_simp
            with_reducible refine (HRY.out.at (HY.out.below hH2.b)).mono ?_
            rintro r wq3 ⟨A2, c2, rfl, -, S2, hbq⟩
            go_wp2_with fail
            refine hK.out _ _ (Keeps.trans hH2 hbq) (fun hJ => ?_)
            refine wpAnyH_more (S' := Keeps wq3) (fun z hz => Keeps.trans hJ hz) _ _ _ _ ?_
            replace HB := Lib.hid (HB.out.trans (Below.mono hJ HB.out.size))
            replace HT := Lib.hid (HT.out.later hJ)
            replace HO := Lib.hid ((Below.block hJ _ (L.blk_lt HO.out)).trans HO.out)
            replace HX := Lib.hid (HX.out.below hJ)
            replace HY := Lib.hid (HY.out.below hJ)
            replace HA := Lib.hid (HA.out.below hJ)
            replace HW := Lib.hid (HW.out.below hJ)
            replace S1 := Lib.hid (S1.out.below hJ)
            replace S2 := Lib.hid S2
            have hH3 : Keeps wq3 wq3 := Below.refl _ _
            clear hK K hbq hH2 hJ
            refine wpAnyH_ready (rs := [8]) (by kernel_rfl) (by simp) ?_
            refine AllReadyH.cons (o := { dst := some 72, op := Go.Op.call { callee := Go.Callee.value (Go.Operand.func 12), args := #[Go.Operand.tmp 68, Go.Operand.tmp 71], argTypes := #[22, 22] }, type := 4, pos := "law.go:90", after := #[{ on := 4, ground := Go.Ground.data }, { on := 7, ground := Go.Ground.data }, { on := 7, ground := Go.Ground.chain }, { on := 1, ground := Go.Ground.guard }], guard := some (1, true) }) rfl (fun K hK => ?_) AllReadyH.nil
            go_simp
            with_reducible refine (HSM.out.at (S1.out.below hH3.b) (S2.out.below hH3.b)).mono ?_
            rintro r wq4 ⟨rfl, hbq⟩
            go_wp2_with fail
            refine hK.out _ _ (Keeps.trans hH3 hbq) (fun hJ => ?_)
            refine wpAnyH_more (S' := Keeps wq4) (fun z hz => Keeps.trans hJ hz) _ _ _ _ ?_
            replace HB := Lib.hid (HB.out.trans (Below.mono hJ HB.out.size))
            replace HT := Lib.hid (HT.out.later hJ)
            replace HO := Lib.hid ((Below.block hJ _ (L.blk_lt HO.out)).trans HO.out)
            replace HX := Lib.hid (HX.out.below hJ)
            replace HY := Lib.hid (HY.out.below hJ)
            replace HA := Lib.hid (HA.out.below hJ)
            replace HW := Lib.hid (HW.out.below hJ)
            replace S1 := Lib.hid (S1.out.below hJ)
            replace S2 := Lib.hid (S2.out.below hJ)
            have hH4 : Keeps wq4 wq4 := Below.refl _ _
            clear hK K hbq hH3 hJ
            refine wpAnyH_take (i := 9) (oi := { dst := some 73, op := Go.Op.pick (Go.Operand.tmp 65) (Go.Operand.tmp 72) (Go.Operand.const (Go.Value.bool false)), type := 4, pos := "law.go:90", after := #[{ on := 1, ground := Go.Ground.data }, { on := 8, ground := Go.Ground.data }], guard := none }) (v := ?_) rfl (by kernel_rfl) (by kernel_rfl) (by kernel_rfl) (fun _ _ _ h => h) (Or.inl ⟨by rfl, ?_⟩) hH4 ?_
            rotate_left
            · (intro wz hSz; (try dsimp only at hSz); go_simp; try with_reducible rfl)
            simp only [Act.put, List.setIfInBounds_toArray, List.set_cons_zero, List.set_cons_succ]
            refine wpAnyH_take (i := 10) (oi := { dst := some 74, op := Go.Op.move (Go.Operand.tmp 73), type := 4, pos := "law.go:90", after := #[{ on := 9, ground := Go.Ground.data }, { on := 8, ground := Go.Ground.chain }], guard := none }) (v := ?_) rfl (by kernel_rfl) (by kernel_rfl) (by kernel_rfl) (fun _ _ _ h => h) (Or.inl ⟨by rfl, ?_⟩) hH4 ?_
            rotate_left
            · (intro wz hSz; (try dsimp only at hSz); go_simp; try with_reducible rfl)
            simp only [Act.put, List.setIfInBounds_toArray, List.set_cons_zero, List.set_cons_succ]
            refine wpAnyH_take (i := 11) (oi := { dst := some 75, op := Go.Op.move (Go.Operand.tmp 10), type := 26, pos := "law.go:90", after := #[{ on := 10, ground := Go.Ground.guard }], guard := some (10, true) }) (v := ?_) rfl (by kernel_rfl) (by kernel_rfl) (by kernel_rfl) (fun _ _ _ h => h) (Or.inl ⟨by rfl, ?_⟩) hH4 ?_
            rotate_left
            · (intro wz hSz; (try dsimp only at hSz); go_simp; try with_reducible rfl)
            simp only [Act.put, List.setIfInBounds_toArray, List.set_cons_zero, List.set_cons_succ]
            refine wpAnyH_take (i := 12) (oi := { dst := some 76, op := Go.Op.load 25 (Go.Operand.tmp 5), type := 25, pos := "law.go:90", after := #[{ on := 10, ground := Go.Ground.guard }], guard := some (10, true) }) (v := ?_) rfl (by kernel_rfl) (by kernel_rfl) (by kernel_rfl) (fun _ _ _ h => h) (Or.inl ⟨by rfl, ?_⟩) hH4 ?_
            rotate_left
            · (intro wz hSz; have hcz := True.intro; obtain ⟨c0, c1⟩ := lab_cells ((Below.block hSz _ (L.blk_lt HO.out)).trans HO.out); go_simp; try with_reducible rfl)
            simp only [Act.put, List.setIfInBounds_toArray, List.set_cons_zero, List.set_cons_succ]
            refine wpAnyH_take (i := 14) (oi := { dst := some 78, op := Go.Op.move (Go.Operand.tmp 11), type := 27, pos := "law.go:90", after := #[{ on := 10, ground := Go.Ground.guard }], guard := some (10, true) }) (v := ?_) rfl (by kernel_rfl) (by kernel_rfl) (by kernel_rfl) (fun _ _ _ h => h) (Or.inl ⟨by rfl, ?_⟩) hH4 ?_
            rotate_left
            · (intro wz hSz; (try dsimp only at hSz); go_simp; try with_reducible rfl)
            simp only [Act.put, List.setIfInBounds_toArray, List.set_cons_zero, List.set_cons_succ]
            refine wpAnyH_take (i := 15) (oi := { dst := some 79, op := Go.Op.load 25 (Go.Operand.tmp 5), type := 25, pos := "law.go:90", after := #[{ on := 10, ground := Go.Ground.guard }], guard := some (10, true) }) (v := ?_) rfl (by kernel_rfl) (by kernel_rfl) (by kernel_rfl) (fun _ _ _ h => h) (Or.inl ⟨by rfl, ?_⟩) hH4 ?_
            rotate_left
            · (intro wz hSz; have hcz := True.intro; obtain ⟨c0, c1⟩ := lab_cells ((Below.block hSz _ (L.blk_lt HO.out)).trans HO.out); go_simp; try with_reducible rfl)
            simp only [Act.put, List.setIfInBounds_toArray, List.set_cons_zero, List.set_cons_succ]
            refine wpAnyH_ready (rs := [13]) (by kernel_rfl) (by simp) ?_
            refine AllReadyH.cons (o := { dst := some 77, op := Go.Op.call { callee := Go.Callee.value (Go.Operand.func 13), args := #[Go.Operand.tmp 75, Go.Operand.tmp 76], argTypes := #[26, 25] }, type := 22, pos := "law.go:90", after := #[{ on := 11, ground := Go.Ground.data }, { on := 12, ground := Go.Ground.data }, { on := 10, ground := Go.Ground.chain }, { on := 10, ground := Go.Ground.guard }], guard := some (10, true) }) rfl (fun K hK => ?_) AllReadyH.nil
            go_simp
            with_reducible refine (HSA.out.at (HA.out.below hH4.b)).mono ?_
            rintro r wq5 ⟨A3, c3, rfl, -, S3, hbq⟩
            go_wp2_with fail
            refine hK.out _ _ (Keeps.trans hH4 hbq) (fun hJ => ?_)
            refine wpAnyH_more (S' := Keeps wq5) (fun z hz => Keeps.trans hJ hz) _ _ _ _ ?_
            replace HB := Lib.hid (HB.out.trans (Below.mono hJ HB.out.size))
            replace HT := Lib.hid (HT.out.later hJ)
            replace HO := Lib.hid ((Below.block hJ _ (L.blk_lt HO.out)).trans HO.out)
            replace HX := Lib.hid (HX.out.below hJ)
            replace HY := Lib.hid (HY.out.below hJ)
            replace HA := Lib.hid (HA.out.below hJ)
            replace HW := Lib.hid (HW.out.below hJ)
            replace S1 := Lib.hid (S1.out.below hJ)
            replace S2 := Lib.hid (S2.out.below hJ)
            replace S3 := Lib.hid S3
            have hH5 : Keeps wq5 wq5 := Below.refl _ _
            clear hK K hbq hH4 hJ
            refine wpAnyH_ready (rs := [16]) (by kernel_rfl) (by simp) ?_
            refine AllReadyH.cons (o := { dst := some 80, op := Go.Op.call { callee := Go.Callee.value (Go.Operand.func 14), args := #[Go.Operand.tmp 78, Go.Operand.tmp 79], argTypes := #[27, 25] }, type := 22, pos := "law.go:90", after := #[{ on := 14, ground := Go.Ground.data }, { on := 15, ground := Go.Ground.data }, { on := 13, ground := Go.Ground.chain }, { on := 10, ground := Go.Ground.guard }], guard := some (10, true) }) rfl (fun K hK => ?_) AllReadyH.nil
            go_simp
            with_reducible refine (HRB.out.at (HW.out.below hH5.b)).mono ?_
            rintro r wq6 ⟨A4, c4, rfl, -, S4, hbq⟩
            go_wp2_with fail
            refine hK.out _ _ (Keeps.trans hH5 hbq) (fun hJ => ?_)
            refine wpAnyH_more (S' := Keeps wq6) (fun z hz => Keeps.trans hJ hz) _ _ _ _ ?_
            replace HB := Lib.hid (HB.out.trans (Below.mono hJ HB.out.size))
            replace HT := Lib.hid (HT.out.later hJ)
            replace HO := Lib.hid ((Below.block hJ _ (L.blk_lt HO.out)).trans HO.out)
            replace HX := Lib.hid (HX.out.below hJ)
            replace HY := Lib.hid (HY.out.below hJ)
            replace HA := Lib.hid (HA.out.below hJ)
            replace HW := Lib.hid (HW.out.below hJ)
            replace S1 := Lib.hid (S1.out.below hJ)
            replace S2 := Lib.hid (S2.out.below hJ)
            replace S3 := Lib.hid (S3.out.below hJ)
            replace S4 := Lib.hid S4
            have hH6 : Keeps wq6 wq6 := Below.refl _ _
            clear hK K hbq hH5 hJ
            refine wpAnyH_ready (rs := [17]) (by kernel_rfl) (by simp) ?_
            refine AllReadyH.cons (o := { dst := some 81, op := Go.Op.call { callee := Go.Callee.value (Go.Operand.func 12), args := #[Go.Operand.tmp 77, Go.Operand.tmp 80], argTypes := #[22, 22] }, type := 4, pos := "law.go:90", after := #[{ on := 13, ground := Go.Ground.data }, { on := 16, ground := Go.Ground.data }, { on := 16, ground := Go.Ground.chain }, { on := 10, ground := Go.Ground.guard }], guard := some (10, true) }) rfl (fun K hK => ?_) AllReadyH.nil
            go_simp
            with_reducible refine (HSN.out.at (S3.out.below hH6.b) (S4.out.below hH6.b)).mono ?_
            rintro r wq7 ⟨rfl, hbq⟩
            go_wp2_with fail
            refine hK.out _ _ (Keeps.trans hH6 hbq) (fun hJ => ?_)
            refine wpAnyH_more (S' := Keeps wq7) (fun z hz => Keeps.trans hJ hz) _ _ _ _ ?_
            replace HB := Lib.hid (HB.out.trans (Below.mono hJ HB.out.size))
            replace HT := Lib.hid (HT.out.later hJ)
            replace HO := Lib.hid ((Below.block hJ _ (L.blk_lt HO.out)).trans HO.out)
            replace HX := Lib.hid (HX.out.below hJ)
            replace HY := Lib.hid (HY.out.below hJ)
            replace HA := Lib.hid (HA.out.below hJ)
            replace HW := Lib.hid (HW.out.below hJ)
            replace S1 := Lib.hid (S1.out.below hJ)
            replace S2 := Lib.hid (S2.out.below hJ)
            replace S3 := Lib.hid (S3.out.below hJ)
            replace S4 := Lib.hid (S4.out.below hJ)
            have hH7 : Keeps wq7 wq7 := Below.refl _ _
            clear hK K hbq hH6 hJ
            refine wpAnyH_take (i := 18) (oi := { dst := some 82, op := Go.Op.pick (Go.Operand.tmp 74) (Go.Operand.tmp 81) (Go.Operand.const (Go.Value.bool false)), type := 4, pos := "law.go:90", after := #[{ on := 10, ground := Go.Ground.data }, { on := 17, ground := Go.Ground.data }], guard := none }) (v := ?_) rfl (by kernel_rfl) (by kernel_rfl) (by kernel_rfl) (fun _ _ _ h => h) (Or.inl ⟨by rfl, ?_⟩) hH7 ?_
            rotate_left
            · (intro wz hSz; (try dsimp only at hSz); go_simp; try with_reducible rfl)
            simp only [Act.put, List.setIfInBounds_toArray, List.set_cons_zero, List.set_cons_succ]
            refine wpAnyH_take (i := 19) (oi := { dst := some 83, op := Go.Op.move (Go.Operand.tmp 82), type := 4, pos := "law.go:90", after := #[{ on := 18, ground := Go.Ground.data }, { on := 17, ground := Go.Ground.chain }], guard := none }) (v := ?_) rfl (by kernel_rfl) (by kernel_rfl) (by kernel_rfl) (fun _ _ _ h => h) (Or.inl ⟨by rfl, ?_⟩) hH7 ?_
            rotate_left
            · (intro wz hSz; (try dsimp only at hSz); go_simp; try with_reducible rfl)
            simp only [Act.put, List.setIfInBounds_toArray, List.set_cons_zero, List.set_cons_succ]
            refine wpAnyH_take (i := 20) (oi := { dst := some 84, op := Go.Op.move (Go.Operand.tmp 7), type := 26, pos := "law.go:90", after := #[{ on := 19, ground := Go.Ground.guard }], guard := some (19, true) }) (v := ?_) rfl (by kernel_rfl) (by kernel_rfl) (by kernel_rfl) (fun _ _ _ h => h) (Or.inl ⟨by rfl, ?_⟩) hH7 ?_
            rotate_left
            · (intro wz hSz; (try dsimp only at hSz); go_simp; try with_reducible rfl)
            simp only [Act.put, List.setIfInBounds_toArray, List.set_cons_zero, List.set_cons_succ]
            refine wpAnyH_take (i := 21) (oi := { dst := some 85, op := Go.Op.load 25 (Go.Operand.tmp 5), type := 25, pos := "law.go:90", after := #[{ on := 19, ground := Go.Ground.guard }], guard := some (19, true) }) (v := ?_) rfl (by kernel_rfl) (by kernel_rfl) (by kernel_rfl) (fun _ _ _ h => h) (Or.inl ⟨by rfl, ?_⟩) hH7 ?_
            rotate_left
            · (intro wz hSz; have hcz := True.intro; obtain ⟨c0, c1⟩ := lab_cells ((Below.block hSz _ (L.blk_lt HO.out)).trans HO.out); go_simp; try with_reducible rfl)
            simp only [Act.put, List.setIfInBounds_toArray, List.set_cons_zero, List.set_cons_succ]
            refine wpAnyH_take (i := 23) (oi := { dst := some 87, op := Go.Op.move (Go.Operand.tmp 8), type := 27, pos := "law.go:90", after := #[{ on := 19, ground := Go.Ground.guard }], guard := some (19, true) }) (v := ?_) rfl (by kernel_rfl) (by kernel_rfl) (by kernel_rfl) (fun _ _ _ h => h) (Or.inl ⟨by rfl, ?_⟩) hH7 ?_
            rotate_left
            · (intro wz hSz; (try dsimp only at hSz); go_simp; try with_reducible rfl)
            simp only [Act.put, List.setIfInBounds_toArray, List.set_cons_zero, List.set_cons_succ]
            refine wpAnyH_take (i := 24) (oi := { dst := some 88, op := Go.Op.load 25 (Go.Operand.tmp 5), type := 25, pos := "law.go:90", after := #[{ on := 19, ground := Go.Ground.guard }], guard := some (19, true) }) (v := ?_) rfl (by kernel_rfl) (by kernel_rfl) (by kernel_rfl) (fun _ _ _ h => h) (Or.inl ⟨by rfl, ?_⟩) hH7 ?_
            rotate_left
            · (intro wz hSz; have hcz := True.intro; obtain ⟨c0, c1⟩ := lab_cells ((Below.block hSz _ (L.blk_lt HO.out)).trans HO.out); go_simp; try with_reducible rfl)
            simp only [Act.put, List.setIfInBounds_toArray, List.set_cons_zero, List.set_cons_succ]
            refine wpAnyH_ready (rs := [22]) (by kernel_rfl) (by simp) ?_
            refine AllReadyH.cons (o := { dst := some 86, op := Go.Op.call { callee := Go.Callee.value (Go.Operand.func 9), args := #[Go.Operand.tmp 84, Go.Operand.tmp 85], argTypes := #[26, 25] }, type := 3, pos := "law.go:90", after := #[{ on := 20, ground := Go.Ground.data }, { on := 21, ground := Go.Ground.data }, { on := 19, ground := Go.Ground.chain }, { on := 19, ground := Go.Ground.guard }], guard := some (19, true) }) rfl (fun K hK => ?_) AllReadyH.nil
            go_simp
            with_reducible refine (HOX.out.at (HX.out.below hH7.b)).mono ?_
            rintro r wq8 ⟨rfl, hbq⟩
            go_wp2_with fail
            refine hK.out _ _ (Keeps.trans hH7 hbq) (fun hJ => ?_)
            refine wpAnyH_more (S' := Keeps wq8) (fun z hz => Keeps.trans hJ hz) _ _ _ _ ?_
            replace HB := Lib.hid (HB.out.trans (Below.mono hJ HB.out.size))
            replace HT := Lib.hid (HT.out.later hJ)
            replace HO := Lib.hid ((Below.block hJ _ (L.blk_lt HO.out)).trans HO.out)
            replace HX := Lib.hid (HX.out.below hJ)
            replace HY := Lib.hid (HY.out.below hJ)
            replace HA := Lib.hid (HA.out.below hJ)
            replace HW := Lib.hid (HW.out.below hJ)
            replace S1 := Lib.hid (S1.out.below hJ)
            replace S2 := Lib.hid (S2.out.below hJ)
            replace S3 := Lib.hid (S3.out.below hJ)
            replace S4 := Lib.hid (S4.out.below hJ)
            have hH8 : Keeps wq8 wq8 := Below.refl _ _
            clear hK K hbq hH7 hJ
            refine wpAnyH_ready (rs := [25]) (by kernel_rfl) (by simp) ?_
            refine AllReadyH.cons (o := { dst := some 89, op := Go.Op.call { callee := Go.Callee.value (Go.Operand.func 10), args := #[Go.Operand.tmp 87, Go.Operand.tmp 88], argTypes := #[27, 25] }, type := 3, pos := "law.go:90", after := #[{ on := 23, ground := Go.Ground.data }, { on := 24, ground := Go.Ground.data }, { on := 22, ground := Go.Ground.chain }, { on := 19, ground := Go.Ground.guard }], guard := some (19, true) }) rfl (fun K hK => ?_) AllReadyH.nil
            go_simp
            with_reducible refine (HOY.out.at (HY.out.below hH8.b)).mono ?_
            rintro r wq9 ⟨rfl, hbq⟩
            go_wp2_with fail
            refine hK.out _ _ (Keeps.trans hH8 hbq) (fun hJ => ?_)
            refine wpAnyH_more (S' := Keeps wq9) (fun z hz => Keeps.trans hJ hz) _ _ _ _ ?_
            replace HB := Lib.hid (HB.out.trans (Below.mono hJ HB.out.size))
            replace HT := Lib.hid (HT.out.later hJ)
            replace HO := Lib.hid ((Below.block hJ _ (L.blk_lt HO.out)).trans HO.out)
            replace HX := Lib.hid (HX.out.below hJ)
            replace HY := Lib.hid (HY.out.below hJ)
            replace HA := Lib.hid (HA.out.below hJ)
            replace HW := Lib.hid (HW.out.below hJ)
            replace S1 := Lib.hid (S1.out.below hJ)
            replace S2 := Lib.hid (S2.out.below hJ)
            replace S3 := Lib.hid (S3.out.below hJ)
            replace S4 := Lib.hid (S4.out.below hJ)
            have hH9 : Keeps wq9 wq9 := Below.refl _ _
            clear hK K hbq hH8 hJ
            refine wpAnyH_take (i := 26) (oi := { dst := some 90, op := Go.Op.binOp Go.BinOp.eql 3 (Go.Operand.tmp 86) (Go.Operand.tmp 89) 3, type := 4, pos := "law.go:90", after := #[{ on := 22, ground := Go.Ground.data }, { on := 25, ground := Go.Ground.data }, { on := 19, ground := Go.Ground.guard }], guard := some (19, true) }) (v := ?_) rfl (by kernel_rfl) (by kernel_rfl) (by kernel_rfl) (fun _ _ _ h => h) (Or.inl ⟨by rfl, ?_⟩) hH9 ?_
            rotate_left
            · (intro wz hSz; (try dsimp only at hSz); go_simp; try with_reducible rfl)
            simp only [Act.put, List.setIfInBounds_toArray, List.set_cons_zero, List.set_cons_succ]
            refine wpAnyH_take (i := 27) (oi := { dst := some 91, op := Go.Op.pick (Go.Operand.tmp 83) (Go.Operand.tmp 90) (Go.Operand.const (Go.Value.bool false)), type := 4, pos := "law.go:90", after := #[{ on := 19, ground := Go.Ground.data }, { on := 26, ground := Go.Ground.data }], guard := none }) (v := ?_) rfl (by kernel_rfl) (by kernel_rfl) (by kernel_rfl) (fun _ _ _ h => h) (Or.inl ⟨by rfl, ?_⟩) hH9 ?_
            rotate_left
            · (intro wz hSz; (try dsimp only at hSz); go_simp; try with_reducible rfl)
            simp only [Act.put, List.setIfInBounds_toArray, List.set_cons_zero, List.set_cons_succ]
            refine wpAnyH_take (i := 28) (oi := { dst := some 92, op := Go.Op.move (Go.Operand.tmp 91), type := 4, pos := "law.go:90", after := #[{ on := 27, ground := Go.Ground.data }, { on := 25, ground := Go.Ground.chain }], guard := none }) (v := ?_) rfl (by kernel_rfl) (by kernel_rfl) (by kernel_rfl) (fun _ _ _ h => h) (Or.inl ⟨by rfl, ?_⟩) hH9 ?_
            rotate_left
            · (intro wz hSz; (try dsimp only at hSz); go_simp; try with_reducible rfl)
            simp only [Act.put, List.setIfInBounds_toArray, List.set_cons_zero, List.set_cons_succ]
            refine wpAnyH_take (i := 29) (oi := { dst := some 93, op := Go.Op.move (Go.Operand.tmp 10), type := 26, pos := "law.go:90", after := #[{ on := 28, ground := Go.Ground.guard }], guard := some (28, true) }) (v := ?_) rfl (by kernel_rfl) (by kernel_rfl) (by kernel_rfl) (fun _ _ _ h => h) (Or.inl ⟨by rfl, ?_⟩) hH9 ?_
            rotate_left
            · (intro wz hSz; (try dsimp only at hSz); go_simp; try with_reducible rfl)
            simp only [Act.put, List.setIfInBounds_toArray, List.set_cons_zero, List.set_cons_succ]
            refine wpAnyH_take (i := 30) (oi := { dst := some 94, op := Go.Op.load 25 (Go.Operand.tmp 5), type := 25, pos := "law.go:90", after := #[{ on := 28, ground := Go.Ground.guard }], guard := some (28, true) }) (v := ?_) rfl (by kernel_rfl) (by kernel_rfl) (by kernel_rfl) (fun _ _ _ h => h) (Or.inl ⟨by rfl, ?_⟩) hH9 ?_
            rotate_left
            · (intro wz hSz; have hcz := True.intro; obtain ⟨c0, c1⟩ := lab_cells ((Below.block hSz _ (L.blk_lt HO.out)).trans HO.out); go_simp; try with_reducible rfl)
            simp only [Act.put, List.setIfInBounds_toArray, List.set_cons_zero, List.set_cons_succ]
            refine wpAnyH_take (i := 32) (oi := { dst := some 96, op := Go.Op.move (Go.Operand.tmp 11), type := 27, pos := "law.go:90", after := #[{ on := 28, ground := Go.Ground.guard }], guard := some (28, true) }) (v := ?_) rfl (by kernel_rfl) (by kernel_rfl) (by kernel_rfl) (fun _ _ _ h => h) (Or.inl ⟨by rfl, ?_⟩) hH9 ?_
            rotate_left
            · (intro wz hSz; (try dsimp only at hSz); go_simp; try with_reducible rfl)
            simp only [Act.put, List.setIfInBounds_toArray, List.set_cons_zero, List.set_cons_succ]
            refine wpAnyH_take (i := 33) (oi := { dst := some 97, op := Go.Op.load 25 (Go.Operand.tmp 5), type := 25, pos := "law.go:90", after := #[{ on := 28, ground := Go.Ground.guard }], guard := some (28, true) }) (v := ?_) rfl (by kernel_rfl) (by kernel_rfl) (by kernel_rfl) (fun _ _ _ h => h) (Or.inl ⟨by rfl, ?_⟩) hH9 ?_
            rotate_left
            · (intro wz hSz; have hcz := True.intro; obtain ⟨c0, c1⟩ := lab_cells ((Below.block hSz _ (L.blk_lt HO.out)).trans HO.out); go_simp; try with_reducible rfl)
            simp only [Act.put, List.setIfInBounds_toArray, List.set_cons_zero, List.set_cons_succ]
            refine wpAnyH_ready (rs := [31]) (by kernel_rfl) (by simp) ?_
            refine AllReadyH.cons (o := { dst := some 95, op := Go.Op.call { callee := Go.Callee.value (Go.Operand.func 9), args := #[Go.Operand.tmp 93, Go.Operand.tmp 94], argTypes := #[26, 25] }, type := 3, pos := "law.go:90", after := #[{ on := 29, ground := Go.Ground.data }, { on := 30, ground := Go.Ground.data }, { on := 28, ground := Go.Ground.chain }, { on := 28, ground := Go.Ground.guard }], guard := some (28, true) }) rfl (fun K hK => ?_) AllReadyH.nil
            go_simp
            with_reducible refine (HOA.out.at (HA.out.below hH9.b)).mono ?_
            rintro r wq10 ⟨rfl, hbq⟩
            go_wp2_with fail
            refine hK.out _ _ (Keeps.trans hH9 hbq) (fun hJ => ?_)
            refine wpAnyH_more (S' := Keeps wq10) (fun z hz => Keeps.trans hJ hz) _ _ _ _ ?_
            replace HB := Lib.hid (HB.out.trans (Below.mono hJ HB.out.size))
            replace HT := Lib.hid (HT.out.later hJ)
            replace HO := Lib.hid ((Below.block hJ _ (L.blk_lt HO.out)).trans HO.out)
            replace HX := Lib.hid (HX.out.below hJ)
            replace HY := Lib.hid (HY.out.below hJ)
            replace HA := Lib.hid (HA.out.below hJ)
            replace HW := Lib.hid (HW.out.below hJ)
            replace S1 := Lib.hid (S1.out.below hJ)
            replace S2 := Lib.hid (S2.out.below hJ)
            replace S3 := Lib.hid (S3.out.below hJ)
            replace S4 := Lib.hid (S4.out.below hJ)
            have hH10 : Keeps wq10 wq10 := Below.refl _ _
            clear hK K hbq hH9 hJ
            refine wpAnyH_ready (rs := [34]) (by kernel_rfl) (by simp) ?_
            refine AllReadyH.cons (o := { dst := some 98, op := Go.Op.call { callee := Go.Callee.value (Go.Operand.func 10), args := #[Go.Operand.tmp 96, Go.Operand.tmp 97], argTypes := #[27, 25] }, type := 3, pos := "law.go:90", after := #[{ on := 32, ground := Go.Ground.data }, { on := 33, ground := Go.Ground.data }, { on := 31, ground := Go.Ground.chain }, { on := 28, ground := Go.Ground.guard }], guard := some (28, true) }) rfl (fun K hK => ?_) AllReadyH.nil
            go_simp
            with_reducible refine (HOB.out.at (HW.out.below hH10.b)).mono ?_
            rintro r wq11 ⟨rfl, hbq⟩
            go_wp2_with fail
            refine hK.out _ _ (Keeps.trans hH10 hbq) (fun hJ => ?_)
            refine wpAnyH_more (S' := Keeps wq11) (fun z hz => Keeps.trans hJ hz) _ _ _ _ ?_
            replace HB := Lib.hid (HB.out.trans (Below.mono hJ HB.out.size))
            replace HT := Lib.hid (HT.out.later hJ)
            replace HO := Lib.hid ((Below.block hJ _ (L.blk_lt HO.out)).trans HO.out)
            replace HX := Lib.hid (HX.out.below hJ)
            replace HY := Lib.hid (HY.out.below hJ)
            replace HA := Lib.hid (HA.out.below hJ)
            replace HW := Lib.hid (HW.out.below hJ)
            replace S1 := Lib.hid (S1.out.below hJ)
            replace S2 := Lib.hid (S2.out.below hJ)
            replace S3 := Lib.hid (S3.out.below hJ)
            replace S4 := Lib.hid (S4.out.below hJ)
            have hH11 : Keeps wq11 wq11 := Below.refl _ _
            clear hK K hbq hH10 hJ
            refine wpAnyH_take (i := 35) (oi := { dst := some 99, op := Go.Op.binOp Go.BinOp.eql 3 (Go.Operand.tmp 95) (Go.Operand.tmp 98) 3, type := 4, pos := "law.go:90", after := #[{ on := 31, ground := Go.Ground.data }, { on := 34, ground := Go.Ground.data }, { on := 28, ground := Go.Ground.guard }], guard := some (28, true) }) (v := ?_) rfl (by kernel_rfl) (by kernel_rfl) (by kernel_rfl) (fun _ _ _ h => h) (Or.inl ⟨by rfl, ?_⟩) hH11 ?_
            rotate_left
            · (intro wz hSz; (try dsimp only at hSz); go_simp; try with_reducible rfl)
            simp only [Act.put, List.setIfInBounds_toArray, List.set_cons_zero, List.set_cons_succ]
            refine wpAnyH_take (i := 36) (oi := { dst := some 100, op := Go.Op.pick (Go.Operand.tmp 92) (Go.Operand.tmp 99) (Go.Operand.const (Go.Value.bool false)), type := 4, pos := "law.go:90", after := #[{ on := 28, ground := Go.Ground.data }, { on := 35, ground := Go.Ground.data }], guard := none }) (v := ?_) rfl (by kernel_rfl) (by kernel_rfl) (by kernel_rfl) (fun _ _ _ h => h) (Or.inl ⟨by rfl, ?_⟩) hH11 ?_
            rotate_left
            · (intro wz hSz; (try dsimp only at hSz); go_simp; try with_reducible rfl)
            simp only [Act.put, List.setIfInBounds_toArray, List.set_cons_zero, List.set_cons_succ]
            refine wpAnyH_take (i := 37) (oi := { dst := some 101, op := Go.Op.move (Go.Operand.tmp 100), type := 4, pos := "law.go:90", after := #[{ on := 36, ground := Go.Ground.data }, { on := 34, ground := Go.Ground.chain }], guard := none }) (v := ?_) rfl (by kernel_rfl) (by kernel_rfl) (by kernel_rfl) (fun _ _ _ h => h) (Or.inl ⟨by rfl, ?_⟩) hH11 ?_
            rotate_left
            · (intro wz hSz; (try dsimp only at hSz); go_simp; try with_reducible rfl)
            simp only [Act.put, List.setIfInBounds_toArray, List.set_cons_zero, List.set_cons_succ]
            refine wpAnyH_take (i := 38) (oi := { dst := some 102, op := Go.Op.move (Go.Operand.tmp 15), type := 26, pos := "law.go:90", after := #[{ on := 37, ground := Go.Ground.guard }], guard := some (37, true) }) (v := ?_) rfl (by kernel_rfl) (by kernel_rfl) (by kernel_rfl) (fun _ _ _ h => h) (Or.inl ⟨by rfl, ?_⟩) hH11 ?_
            rotate_left
            · (intro wz hSz; (try dsimp only at hSz); go_simp; try with_reducible rfl)
            simp only [Act.put, List.setIfInBounds_toArray, List.set_cons_zero, List.set_cons_succ]
            refine wpAnyH_take (i := 39) (oi := { dst := some 103, op := Go.Op.build 40 #[], type := 40, pos := "law.go:90", after := #[{ on := 37, ground := Go.Ground.guard }], guard := some (37, true) }) (v := ?_) rfl (by kernel_rfl) (by kernel_rfl) (by kernel_rfl) (fun _ _ _ h => h) (Or.inl ⟨by rfl, ?_⟩) hH11 ?_
            rotate_left
            · (intro wz hSz; (try dsimp only at hSz); go_simp; try with_reducible rfl)
            simp only [Act.put, List.setIfInBounds_toArray, List.set_cons_zero, List.set_cons_succ]
            refine wpAnyH_ready (rs := [40]) (by kernel_rfl) (by simp) ?_
            refine AllReadyH.cons (o := { dst := some 104, op := Go.Op.call { callee := Go.Callee.value (Go.Operand.func 18), args := #[Go.Operand.tmp 102, Go.Operand.tmp 103], argTypes := #[26, 40] }, type := 42, pos := "law.go:90", after := #[{ on := 38, ground := Go.Ground.data }, { on := 39, ground := Go.Ground.data }, { on := 37, ground := Go.Ground.chain }, { on := 37, ground := Go.Ground.guard }], guard := some (37, true) }) rfl (fun K hK => ?_) AllReadyH.nil
            go_simp
            with_reducible refine (nil_add (.int .i64 0) _).mono ?_
            rintro r wq12 ⟨rfl, hbq⟩
            go_wp2_with fail
            refine hK.out _ _ (Keeps.trans hH11 hbq) (fun hJ => ?_)
            refine wpAnyH_more (S' := Keeps wq12) (fun z hz => Keeps.trans hJ hz) _ _ _ _ ?_
            replace HB := Lib.hid (HB.out.trans (Below.mono hJ HB.out.size))
            replace HT := Lib.hid (HT.out.later hJ)
            replace HO := Lib.hid ((Below.block hJ _ (L.blk_lt HO.out)).trans HO.out)
            replace HX := Lib.hid (HX.out.below hJ)
            replace HY := Lib.hid (HY.out.below hJ)
            replace HA := Lib.hid (HA.out.below hJ)
            replace HW := Lib.hid (HW.out.below hJ)
            replace S1 := Lib.hid (S1.out.below hJ)
            replace S2 := Lib.hid (S2.out.below hJ)
            replace S3 := Lib.hid (S3.out.below hJ)
            replace S4 := Lib.hid (S4.out.below hJ)
            have hH12 : Keeps wq12 wq12 := Below.refl _ _
            clear hK K hbq hH11 hJ
            refine wpAnyH_take (i := 41) (oi := { dst := some 105, op := Go.Op.binOp Go.BinOp.eql 42 (Go.Operand.tmp 104) (Go.Operand.const (Go.Value.int Go.IntKind.i64 1)) 42, type := 4, pos := "law.go:90", after := #[{ on := 40, ground := Go.Ground.data }, { on := 37, ground := Go.Ground.guard }], guard := some (37, true) }) (v := ?_) rfl (by kernel_rfl) (by kernel_rfl) (by kernel_rfl) (fun _ _ _ h => h) (Or.inl ⟨by rfl, ?_⟩) hH12 ?_
            rotate_left
            · (intro wz hSz; (try dsimp only at hSz); go_simp; try with_reducible rfl)
            simp only [Act.put, List.setIfInBounds_toArray, List.set_cons_zero, List.set_cons_succ]
            refine wpAnyH_take (i := 42) (oi := { dst := some 106, op := Go.Op.pick (Go.Operand.tmp 101) (Go.Operand.tmp 105) (Go.Operand.const (Go.Value.bool false)), type := 4, pos := "law.go:90", after := #[{ on := 37, ground := Go.Ground.data }, { on := 41, ground := Go.Ground.data }], guard := none }) (v := ?_) rfl (by kernel_rfl) (by kernel_rfl) (by kernel_rfl) (fun _ _ _ h => h) (Or.inl ⟨by rfl, ?_⟩) hH12 ?_
            rotate_left
            · (intro wz hSz; (try dsimp only at hSz); go_simp; try with_reducible rfl)
            simp only [Act.put, List.setIfInBounds_toArray, List.set_cons_zero, List.set_cons_succ]
            refine wpAnyH_take (i := 43) (oi := { dst := some 107, op := Go.Op.move (Go.Operand.tmp 106), type := 4, pos := "law.go:90", after := #[{ on := 42, ground := Go.Ground.data }, { on := 40, ground := Go.Ground.chain }], guard := none }) (v := ?_) rfl (by kernel_rfl) (by kernel_rfl) (by kernel_rfl) (fun _ _ _ h => h) (Or.inl ⟨by rfl, ?_⟩) hH12 ?_
            rotate_left
            · (intro wz hSz; (try dsimp only at hSz); go_simp; try with_reducible rfl)
            simp only [Act.put, List.setIfInBounds_toArray, List.set_cons_zero, List.set_cons_succ]
            refine wpAnyH_take (i := 44) (oi := { dst := some 108, op := Go.Op.move (Go.Operand.tmp 15), type := 26, pos := "law.go:90", after := #[{ on := 43, ground := Go.Ground.guard }], guard := some (43, true) }) (v := ?_) rfl (by kernel_rfl) (by kernel_rfl) (by kernel_rfl) (fun _ _ _ h => h) (Or.inl ⟨by rfl, ?_⟩) hH12 ?_
            rotate_left
            · (intro wz hSz; (try dsimp only at hSz); go_simp; try with_reducible rfl)
            simp only [Act.put, List.setIfInBounds_toArray, List.set_cons_zero, List.set_cons_succ]
            refine wpAnyH_take (i := 46) (oi := { dst := some 110, op := Go.Op.move (Go.Operand.tmp 15), type := 26, pos := "law.go:90", after := #[{ on := 43, ground := Go.Ground.guard }], guard := some (43, true) }) (v := ?_) rfl (by kernel_rfl) (by kernel_rfl) (by kernel_rfl) (fun _ _ _ h => h) (Or.inl ⟨by rfl, ?_⟩) hH12 ?_
            rotate_left
            · (intro wz hSz; (try dsimp only at hSz); go_simp; try with_reducible rfl)
            simp only [Act.put, List.setIfInBounds_toArray, List.set_cons_zero, List.set_cons_succ]
            refine wpAnyH_take (i := 47) (oi := { dst := some 111, op := Go.Op.load 25 (Go.Operand.tmp 5), type := 25, pos := "law.go:90", after := #[{ on := 43, ground := Go.Ground.guard }], guard := some (43, true) }) (v := ?_) rfl (by kernel_rfl) (by kernel_rfl) (by kernel_rfl) (fun _ _ _ h => h) (Or.inl ⟨by rfl, ?_⟩) hH12 ?_
            rotate_left
            · (intro wz hSz; have hcz := True.intro; obtain ⟨c0, c1⟩ := lab_cells ((Below.block hSz _ (L.blk_lt HO.out)).trans HO.out); go_simp; try with_reducible rfl)
            simp only [Act.put, List.setIfInBounds_toArray, List.set_cons_zero, List.set_cons_succ]
            refine wpAnyH_take (i := 50) (oi := { dst := some 114, op := Go.Op.move (Go.Operand.tmp 15), type := 26, pos := "law.go:90", after := #[{ on := 43, ground := Go.Ground.guard }], guard := some (43, true) }) (v := ?_) rfl (by kernel_rfl) (by kernel_rfl) (by kernel_rfl) (fun _ _ _ h => h) (Or.inl ⟨by rfl, ?_⟩) hH12 ?_
            rotate_left
            · (intro wz hSz; (try dsimp only at hSz); go_simp; try with_reducible rfl)
            simp only [Act.put, List.setIfInBounds_toArray, List.set_cons_zero, List.set_cons_succ]
            refine wpAnyH_take (i := 51) (oi := { dst := some 115, op := Go.Op.load 25 (Go.Operand.tmp 5), type := 25, pos := "law.go:90", after := #[{ on := 43, ground := Go.Ground.guard }], guard := some (43, true) }) (v := ?_) rfl (by kernel_rfl) (by kernel_rfl) (by kernel_rfl) (fun _ _ _ h => h) (Or.inl ⟨by rfl, ?_⟩) hH12 ?_
            rotate_left
            · (intro wz hSz; have hcz := True.intro; obtain ⟨c0, c1⟩ := lab_cells ((Below.block hSz _ (L.blk_lt HO.out)).trans HO.out); go_simp; try with_reducible rfl)
            simp only [Act.put, List.setIfInBounds_toArray, List.set_cons_zero, List.set_cons_succ]
            refine wpAnyH_take (i := 55) (oi := { dst := some 119, op := Go.Op.move (Go.Operand.tmp 15), type := 26, pos := "law.go:90", after := #[{ on := 43, ground := Go.Ground.guard }], guard := some (43, true) }) (v := ?_) rfl (by kernel_rfl) (by kernel_rfl) (by kernel_rfl) (fun _ _ _ h => h) (Or.inl ⟨by rfl, ?_⟩) hH12 ?_
            rotate_left
            · (intro wz hSz; (try dsimp only at hSz); go_simp; try with_reducible rfl)
            simp only [Act.put, List.setIfInBounds_toArray, List.set_cons_zero, List.set_cons_succ]
            refine wpAnyH_take (i := 56) (oi := { dst := some 120, op := Go.Op.load 25 (Go.Operand.tmp 5), type := 25, pos := "law.go:90", after := #[{ on := 43, ground := Go.Ground.guard }], guard := some (43, true) }) (v := ?_) rfl (by kernel_rfl) (by kernel_rfl) (by kernel_rfl) (fun _ _ _ h => h) (Or.inl ⟨by rfl, ?_⟩) hH12 ?_
            rotate_left
            · (intro wz hSz; have hcz := True.intro; obtain ⟨c0, c1⟩ := lab_cells ((Below.block hSz _ (L.blk_lt HO.out)).trans HO.out); go_simp; try with_reducible rfl)
            simp only [Act.put, List.setIfInBounds_toArray, List.set_cons_zero, List.set_cons_succ]
            refine wpAnyH_ready (rs := [45]) (by kernel_rfl) (by simp) ?_
            refine AllReadyH.cons (o := { dst := some 109, op := Go.Op.call { callee := Go.Callee.value (Go.Operand.func 22), args := #[Go.Operand.tmp 108], argTypes := #[26] }, type := 3, pos := "law.go:90", after := #[{ on := 44, ground := Go.Ground.data }, { on := 43, ground := Go.Ground.chain }, { on := 43, ground := Go.Ground.guard }], guard := some (43, true) }) rfl (fun K hK => ?_) AllReadyH.nil
            go_simp
            with_reducible refine (nil_len _).mono ?_
            rintro r wq13 ⟨rfl, hbq⟩
            go_wp2_with fail
            refine hK.out _ _ (Keeps.trans hH12 hbq) (fun hJ => ?_)
            refine wpAnyH_more (S' := Keeps wq13) (fun z hz => Keeps.trans hJ hz) _ _ _ _ ?_
            replace HB := Lib.hid (HB.out.trans (Below.mono hJ HB.out.size))
            replace HT := Lib.hid (HT.out.later hJ)
            replace HO := Lib.hid ((Below.block hJ _ (L.blk_lt HO.out)).trans HO.out)
            replace HX := Lib.hid (HX.out.below hJ)
            replace HY := Lib.hid (HY.out.below hJ)
            replace HA := Lib.hid (HA.out.below hJ)
            replace HW := Lib.hid (HW.out.below hJ)
            replace S1 := Lib.hid (S1.out.below hJ)
            replace S2 := Lib.hid (S2.out.below hJ)
            replace S3 := Lib.hid (S3.out.below hJ)
            replace S4 := Lib.hid (S4.out.below hJ)
            have hH13 : Keeps wq13 wq13 := Below.refl _ _
            clear hK K hbq hH12 hJ
            refine wpAnyH_ready (rs := [48]) (by kernel_rfl) (by simp) ?_
            refine AllReadyH.cons (o := { dst := some 112, op := Go.Op.call { callee := Go.Callee.value (Go.Operand.func 9), args := #[Go.Operand.tmp 110, Go.Operand.tmp 111], argTypes := #[26, 25] }, type := 3, pos := "law.go:90", after := #[{ on := 46, ground := Go.Ground.data }, { on := 47, ground := Go.Ground.data }, { on := 45, ground := Go.Ground.chain }, { on := 43, ground := Go.Ground.guard }], guard := some (43, true) }) rfl (fun K hK => ?_) AllReadyH.nil
            go_simp
            with_reducible refine (nil_of _ _ _).mono ?_
            rintro r wq14 ⟨rfl, hbq⟩
            go_wp2_with fail
            refine hK.out _ _ (Keeps.trans hH13 hbq) (fun hJ => ?_)
            refine wpAnyH_more (S' := Keeps wq14) (fun z hz => Keeps.trans hJ hz) _ _ _ _ ?_
            replace HB := Lib.hid (HB.out.trans (Below.mono hJ HB.out.size))
            replace HT := Lib.hid (HT.out.later hJ)
            replace HO := Lib.hid ((Below.block hJ _ (L.blk_lt HO.out)).trans HO.out)
            replace HX := Lib.hid (HX.out.below hJ)
            replace HY := Lib.hid (HY.out.below hJ)
            replace HA := Lib.hid (HA.out.below hJ)
            replace HW := Lib.hid (HW.out.below hJ)
            replace S1 := Lib.hid (S1.out.below hJ)
            replace S2 := Lib.hid (S2.out.below hJ)
            replace S3 := Lib.hid (S3.out.below hJ)
            replace S4 := Lib.hid (S4.out.below hJ)
            have hH14 : Keeps wq14 wq14 := Below.refl _ _
            clear hK K hbq hH13 hJ
            refine wpAnyH_take (i := 49) (oi := { dst := some 113, op := Go.Op.binOp Go.BinOp.add 3 (Go.Operand.tmp 109) (Go.Operand.tmp 112) 3, type := 3, pos := "law.go:90", after := #[{ on := 45, ground := Go.Ground.data }, { on := 48, ground := Go.Ground.data }, { on := 43, ground := Go.Ground.guard }], guard := some (43, true) }) (v := ?_) rfl (by kernel_rfl) (by kernel_rfl) (by kernel_rfl) (fun _ _ _ h => h) (Or.inl ⟨by rfl, ?_⟩) hH14 ?_
            rotate_left
            · (intro wz hSz; (try dsimp only at hSz); go_simp; try with_reducible rfl)
            simp only [Act.put, List.setIfInBounds_toArray, List.set_cons_zero, List.set_cons_succ]
            refine wpAnyH_ready (rs := [52]) (by kernel_rfl) (by simp) ?_
            refine AllReadyH.cons (o := { dst := some 116, op := Go.Op.call { callee := Go.Callee.value (Go.Operand.func 13), args := #[Go.Operand.tmp 114, Go.Operand.tmp 115], argTypes := #[26, 25] }, type := 22, pos := "law.go:90", after := #[{ on := 50, ground := Go.Ground.data }, { on := 51, ground := Go.Ground.data }, { on := 48, ground := Go.Ground.chain }, { on := 43, ground := Go.Ground.guard }], guard := some (43, true) }) rfl (fun K hK => ?_) AllReadyH.nil
            go_simp
            with_reducible refine (nil_seen _ _ _).mono ?_
            rintro r wq15 ⟨rfl, hbq⟩
            go_wp2_with fail
            refine hK.out _ _ (Keeps.trans hH14 hbq) (fun hJ => ?_)
            refine wpAnyH_more (S' := Keeps wq15) (fun z hz => Keeps.trans hJ hz) _ _ _ _ ?_
            replace HB := Lib.hid (HB.out.trans (Below.mono hJ HB.out.size))
            replace HT := Lib.hid (HT.out.later hJ)
            replace HO := Lib.hid ((Below.block hJ _ (L.blk_lt HO.out)).trans HO.out)
            replace HX := Lib.hid (HX.out.below hJ)
            replace HY := Lib.hid (HY.out.below hJ)
            replace HA := Lib.hid (HA.out.below hJ)
            replace HW := Lib.hid (HW.out.below hJ)
            replace S1 := Lib.hid (S1.out.below hJ)
            replace S2 := Lib.hid (S2.out.below hJ)
            replace S3 := Lib.hid (S3.out.below hJ)
            replace S4 := Lib.hid (S4.out.below hJ)
            have hH15 : Keeps wq15 wq15 := Below.refl _ _
            clear hK K hbq hH14 hJ
            refine wpAnyH_take (i := 53) (oi := { dst := some 117, op := Go.Op.call { callee := Go.Callee.builtin Go.Builtin.len, args := #[Go.Operand.tmp 116], argTypes := #[22] }, type := 3, pos := "law.go:90", after := #[{ on := 52, ground := Go.Ground.data }, { on := 43, ground := Go.Ground.guard }], guard := some (43, true) }) (v := ?_) rfl (by kernel_rfl) (by kernel_rfl) (by kernel_rfl) (fun _ _ _ h => h) (Or.inl ⟨by rfl, ?_⟩) hH15 ?_
            rotate_left
            · (intro wz hSz; (try dsimp only at hSz); go_simp; try with_reducible rfl)
            simp only [Act.put, List.setIfInBounds_toArray, List.set_cons_zero, List.set_cons_succ]
            refine wpAnyH_take (i := 54) (oi := { dst := some 118, op := Go.Op.binOp Go.BinOp.add 3 (Go.Operand.tmp 113) (Go.Operand.tmp 117) 3, type := 3, pos := "law.go:90", after := #[{ on := 49, ground := Go.Ground.data }, { on := 53, ground := Go.Ground.data }, { on := 43, ground := Go.Ground.guard }], guard := some (43, true) }) (v := ?_) rfl (by kernel_rfl) (by kernel_rfl) (by kernel_rfl) (fun _ _ _ h => h) (Or.inl ⟨by rfl, ?_⟩) hH15 ?_
            rotate_left
            · (intro wz hSz; (try dsimp only at hSz); go_simp; try with_reducible rfl)
            simp only [Act.put, List.setIfInBounds_toArray, List.set_cons_zero, List.set_cons_succ]
            refine wpAnyH_ready (rs := [57]) (by kernel_rfl) (by simp) ?_
            refine AllReadyH.cons (o := { dst := some 121, op := Go.Op.call { callee := Go.Callee.value (Go.Operand.func 15), args := #[Go.Operand.tmp 119, Go.Operand.tmp 120], argTypes := #[26, 25] }, type := 35, pos := "law.go:90", after := #[{ on := 55, ground := Go.Ground.data }, { on := 56, ground := Go.Ground.data }, { on := 52, ground := Go.Ground.chain }, { on := 43, ground := Go.Ground.guard }], guard := some (43, true) }) rfl (fun K hK => ?_) AllReadyH.nil
            go_simp
            with_reducible refine (nil_print _ _ _).mono ?_
            rintro r wq16 ⟨rfl, hbq⟩
            go_wp2_with fail
            refine hK.out _ _ (Keeps.trans hH15 hbq) (fun hJ => ?_)
            refine wpAnyH_more (S' := Keeps wq16) (fun z hz => Keeps.trans hJ hz) _ _ _ _ ?_
            replace HB := Lib.hid (HB.out.trans (Below.mono hJ HB.out.size))
            replace HT := Lib.hid (HT.out.later hJ)
            replace HO := Lib.hid ((Below.block hJ _ (L.blk_lt HO.out)).trans HO.out)
            replace HX := Lib.hid (HX.out.below hJ)
            replace HY := Lib.hid (HY.out.below hJ)
            replace HA := Lib.hid (HA.out.below hJ)
            replace HW := Lib.hid (HW.out.below hJ)
            replace S1 := Lib.hid (S1.out.below hJ)
            replace S2 := Lib.hid (S2.out.below hJ)
            replace S3 := Lib.hid (S3.out.below hJ)
            replace S4 := Lib.hid (S4.out.below hJ)
            have hH16 : Keeps wq16 wq16 := Below.refl _ _
            clear hK K hbq hH15 hJ
            refine wpAnyH_take (i := 58) (oi := { dst := some 122, op := Go.Op.call { callee := Go.Callee.builtin Go.Builtin.len, args := #[Go.Operand.tmp 121], argTypes := #[35] }, type := 3, pos := "law.go:90", after := #[{ on := 57, ground := Go.Ground.data }, { on := 43, ground := Go.Ground.guard }], guard := some (43, true) }) (v := ?_) rfl (by kernel_rfl) (by kernel_rfl) (by kernel_rfl) (fun _ _ _ h => h) (Or.inl ⟨by rfl, ?_⟩) hH16 ?_
            rotate_left
            · (intro wz hSz; (try dsimp only at hSz); go_simp; try with_reducible rfl)
            simp only [Act.put, List.setIfInBounds_toArray, List.set_cons_zero, List.set_cons_succ]
            refine wpAnyH_take (i := 59) (oi := { dst := some 123, op := Go.Op.binOp Go.BinOp.add 3 (Go.Operand.tmp 118) (Go.Operand.tmp 122) 3, type := 3, pos := "law.go:90", after := #[{ on := 54, ground := Go.Ground.data }, { on := 58, ground := Go.Ground.data }, { on := 43, ground := Go.Ground.guard }], guard := some (43, true) }) (v := ?_) rfl (by kernel_rfl) (by kernel_rfl) (by kernel_rfl) (fun _ _ _ h => h) (Or.inl ⟨by rfl, ?_⟩) hH16 ?_
            rotate_left
            · (intro wz hSz; (try dsimp only at hSz); go_simp; try with_reducible rfl)
            simp only [Act.put, List.setIfInBounds_toArray, List.set_cons_zero, List.set_cons_succ]
            refine wpAnyH_take (i := 60) (oi := { dst := some 124, op := Go.Op.binOp Go.BinOp.eql 3 (Go.Operand.tmp 123) (Go.Operand.const (Go.Value.int Go.IntKind.i64 0)) 3, type := 4, pos := "law.go:90", after := #[{ on := 59, ground := Go.Ground.data }, { on := 43, ground := Go.Ground.guard }], guard := some (43, true) }) (v := ?_) rfl (by kernel_rfl) (by kernel_rfl) (by kernel_rfl) (fun _ _ _ h => h) (Or.inl ⟨by rfl, ?_⟩) hH16 ?_
            rotate_left
            · (intro wz hSz; (try dsimp only at hSz); go_simp; try with_reducible rfl)
            simp only [Act.put, List.setIfInBounds_toArray, List.set_cons_zero, List.set_cons_succ]
            refine wpAnyH_take (i := 61) (oi := { dst := some 125, op := Go.Op.pick (Go.Operand.tmp 107) (Go.Operand.tmp 124) (Go.Operand.const (Go.Value.bool false)), type := 4, pos := "law.go:90", after := #[{ on := 43, ground := Go.Ground.data }, { on := 60, ground := Go.Ground.data }], guard := none }) (v := ?_) rfl (by kernel_rfl) (by kernel_rfl) (by kernel_rfl) (fun _ _ _ h => h) (Or.inl ⟨by rfl, ?_⟩) hH16 ?_
            rotate_left
            · (intro wz hSz; (try dsimp only at hSz); go_simp; try with_reducible rfl)
            simp only [Act.put, List.setIfInBounds_toArray, List.set_cons_zero, List.set_cons_succ]
            refine wpAnyH_take (i := 62) (oi := { dst := some 126, op := Go.Op.move (Go.Operand.tmp 125), type := 4, pos := "law.go:90", after := #[{ on := 61, ground := Go.Ground.data }, { on := 57, ground := Go.Ground.chain }], guard := none }) (v := ?_) rfl (by kernel_rfl) (by kernel_rfl) (by kernel_rfl) (fun _ _ _ h => h) (Or.inl ⟨by rfl, ?_⟩) hH16 ?_
            rotate_left
            · (intro wz hSz; (try dsimp only at hSz); go_simp; try with_reducible rfl)
            simp only [Act.put, List.setIfInBounds_toArray, List.set_cons_zero, List.set_cons_succ]
            refine wpAnyH_take (i := 63) (oi := { dst := some 127, op := Go.Op.move (Go.Operand.tmp 15), type := 26, pos := "law.go:90", after := #[{ on := 62, ground := Go.Ground.guard }], guard := some (62, true) }) (v := ?_) rfl (by kernel_rfl) (by kernel_rfl) (by kernel_rfl) (fun _ _ _ h => h) (Or.inl ⟨by rfl, ?_⟩) hH16 ?_
            rotate_left
            · (intro wz hSz; (try dsimp only at hSz); go_simp; try with_reducible rfl)
            simp only [Act.put, List.setIfInBounds_toArray, List.set_cons_zero, List.set_cons_succ]
            refine wpAnyH_take (i := 64) (oi := { dst := some 128, op := Go.Op.load 25 (Go.Operand.tmp 5), type := 25, pos := "law.go:90", after := #[{ on := 62, ground := Go.Ground.guard }], guard := some (62, true) }) (v := ?_) rfl (by kernel_rfl) (by kernel_rfl) (by kernel_rfl) (fun _ _ _ h => h) (Or.inl ⟨by rfl, ?_⟩) hH16 ?_
            rotate_left
            · (intro wz hSz; have hcz := True.intro; obtain ⟨c0, c1⟩ := lab_cells ((Below.block hSz _ (L.blk_lt HO.out)).trans HO.out); go_simp; try with_reducible rfl)
            simp only [Act.put, List.setIfInBounds_toArray, List.set_cons_zero, List.set_cons_succ]
            refine wpAnyH_ready (rs := [65]) (by kernel_rfl) (by simp) ?_
            refine AllReadyH.cons (o := { dst := some 129, op := Go.Op.call { callee := Go.Callee.value (Go.Operand.func 11), args := #[Go.Operand.tmp 127, Go.Operand.tmp 128, Go.Operand.const (Go.Value.int Go.IntKind.i64 0)], argTypes := #[26, 25, 3] }, type := 4, pos := "law.go:90", after := #[{ on := 63, ground := Go.Ground.data }, { on := 64, ground := Go.Ground.data }, { on := 62, ground := Go.Ground.chain }, { on := 62, ground := Go.Ground.guard }], guard := some (62, true) }) rfl (fun K hK => ?_) AllReadyH.nil
            go_simp
            with_reducible refine (nil_full _ _ _ _).mono ?_
            rintro r wq17 ⟨rfl, hbq⟩
            go_wp2_with fail
            refine hK.out _ _ (Keeps.trans hH16 hbq) (fun hJ => ?_)
            refine wpAnyH_more (S' := Keeps wq17) (fun z hz => Keeps.trans hJ hz) _ _ _ _ ?_
            replace HB := Lib.hid (HB.out.trans (Below.mono hJ HB.out.size))
            replace HT := Lib.hid (HT.out.later hJ)
            replace HO := Lib.hid ((Below.block hJ _ (L.blk_lt HO.out)).trans HO.out)
            replace HX := Lib.hid (HX.out.below hJ)
            replace HY := Lib.hid (HY.out.below hJ)
            replace HA := Lib.hid (HA.out.below hJ)
            replace HW := Lib.hid (HW.out.below hJ)
            replace S1 := Lib.hid (S1.out.below hJ)
            replace S2 := Lib.hid (S2.out.below hJ)
            replace S3 := Lib.hid (S3.out.below hJ)
            replace S4 := Lib.hid (S4.out.below hJ)
            have hH17 : Keeps wq17 wq17 := Below.refl _ _
            clear hK K hbq hH16 hJ
            refine wpAnyH_take (i := 66) (oi := { dst := some 130, op := Go.Op.unOp Go.UnOp.not 4 (Go.Operand.tmp 129), type := 4, pos := "law.go:90", after := #[{ on := 65, ground := Go.Ground.data }, { on := 62, ground := Go.Ground.guard }], guard := some (62, true) }) (v := ?_) rfl (by kernel_rfl) (by kernel_rfl) (by kernel_rfl) (fun _ _ _ h => h) (Or.inl ⟨by rfl, ?_⟩) hH17 ?_
            rotate_left
            · (intro wz hSz; (try dsimp only at hSz); go_simp; try with_reducible rfl)
            simp only [Act.put, List.setIfInBounds_toArray, List.set_cons_zero, List.set_cons_succ]
            refine wpAnyH_take (i := 67) (oi := { dst := some 131, op := Go.Op.pick (Go.Operand.tmp 126) (Go.Operand.tmp 130) (Go.Operand.const (Go.Value.bool false)), type := 4, pos := "law.go:90", after := #[{ on := 62, ground := Go.Ground.data }, { on := 66, ground := Go.Ground.data }], guard := none }) (v := ?_) rfl (by kernel_rfl) (by kernel_rfl) (by kernel_rfl) (fun _ _ _ h => h) (Or.inl ⟨by rfl, ?_⟩) hH17 ?_
            rotate_left
            · (intro wz hSz; (try dsimp only at hSz); go_simp; try with_reducible rfl)
            simp only [Act.put, List.setIfInBounds_toArray, List.set_cons_zero, List.set_cons_succ]
            refine wpAnyH_take (i := 68) (oi := { dst := some 132, op := Go.Op.move (Go.Operand.tmp 131), type := 4, pos := "law.go:90", after := #[{ on := 67, ground := Go.Ground.data }, { on := 65, ground := Go.Ground.chain }], guard := none }) (v := ?_) rfl (by kernel_rfl) (by kernel_rfl) (by kernel_rfl) (fun _ _ _ h => h) (Or.inl ⟨by rfl, ?_⟩) hH17 ?_
            rotate_left
            · (intro wz hSz; (try dsimp only at hSz); go_simp; try with_reducible rfl)
            simp only [Act.put, List.setIfInBounds_toArray, List.set_cons_zero, List.set_cons_succ]
            refine wpAnyH_take (i := 69) (oi := { dst := some 133, op := Go.Op.move (Go.Operand.tmp 15), type := 26, pos := "law.go:90", after := #[{ on := 68, ground := Go.Ground.guard }], guard := some (68, true) }) (v := ?_) rfl (by kernel_rfl) (by kernel_rfl) (by kernel_rfl) (fun _ _ _ h => h) (Or.inl ⟨by rfl, ?_⟩) hH17 ?_
            rotate_left
            · (intro wz hSz; (try dsimp only at hSz); go_simp; try with_reducible rfl)
            simp only [Act.put, List.setIfInBounds_toArray, List.set_cons_zero, List.set_cons_succ]
            refine wpAnyH_ready (rs := [70]) (by kernel_rfl) (by simp) ?_
            refine AllReadyH.cons (o := { dst := some 134, op := Go.Op.call { callee := Go.Callee.value (Go.Operand.func 19), args := #[Go.Operand.tmp 133], argTypes := #[26] }, type := 26, pos := "law.go:90", after := #[{ on := 69, ground := Go.Ground.data }, { on := 68, ground := Go.Ground.chain }, { on := 68, ground := Go.Ground.guard }], guard := some (68, true) }) rfl (fun K hK => ?_) AllReadyH.nil
            go_simp
            with_reducible refine (nil_fork _).mono ?_
            rintro r wq18 ⟨rfl, hbq⟩
            go_wp2_with fail
            refine hK.out _ _ (Keeps.trans hH17 hbq) (fun hJ => ?_)
            refine wpAnyH_more (S' := Keeps wq18) (fun z hz => Keeps.trans hJ hz) _ _ _ _ ?_
            replace HB := Lib.hid (HB.out.trans (Below.mono hJ HB.out.size))
            replace HT := Lib.hid (HT.out.later hJ)
            replace HO := Lib.hid ((Below.block hJ _ (L.blk_lt HO.out)).trans HO.out)
            replace HX := Lib.hid (HX.out.below hJ)
            replace HY := Lib.hid (HY.out.below hJ)
            replace HA := Lib.hid (HA.out.below hJ)
            replace HW := Lib.hid (HW.out.below hJ)
            replace S1 := Lib.hid (S1.out.below hJ)
            replace S2 := Lib.hid (S2.out.below hJ)
            replace S3 := Lib.hid (S3.out.below hJ)
            replace S4 := Lib.hid (S4.out.below hJ)
            have hH18 : Keeps wq18 wq18 := Below.refl _ _
            clear hK K hbq hH17 hJ
            refine wpAnyH_take (i := 71) (oi := { dst := some 135, op := Go.Op.binOp Go.BinOp.eql 26 (Go.Operand.tmp 134) (Go.Operand.const (Go.Value.pointer none)) 26, type := 4, pos := "law.go:90", after := #[{ on := 70, ground := Go.Ground.data }, { on := 68, ground := Go.Ground.guard }], guard := some (68, true) }) (v := ?_) rfl (by kernel_rfl) (by kernel_rfl) (by kernel_rfl) (fun _ _ _ h => h) (Or.inl ⟨by rfl, ?_⟩) hH18 ?_
            rotate_left
            · (intro wz hSz; (try dsimp only at hSz); go_simp; try with_reducible rfl)
            simp only [Act.put, List.setIfInBounds_toArray, List.set_cons_zero, List.set_cons_succ]
            refine wpAnyH_take (i := 72) (oi := { dst := some 136, op := Go.Op.pick (Go.Operand.tmp 132) (Go.Operand.tmp 135) (Go.Operand.const (Go.Value.bool false)), type := 4, pos := "law.go:90", after := #[{ on := 68, ground := Go.Ground.data }, { on := 71, ground := Go.Ground.data }], guard := none }) (v := ?_) rfl (by kernel_rfl) (by kernel_rfl) (by kernel_rfl) (fun _ _ _ h => h) (Or.inl ⟨by rfl, ?_⟩) hH18 ?_
            rotate_left
            · (intro wz hSz; (try dsimp only at hSz); go_simp; try with_reducible rfl)
            simp only [Act.put, List.setIfInBounds_toArray, List.set_cons_zero, List.set_cons_succ]
            refine wpAnyH_take (i := 73) (oi := { dst := some 6, op := Go.Op.assign (Go.Operand.tmp 136), type := 4, pos := "law.go:90", after := ([{ on := 72, ground := Go.Ground.data }, { on := 70, ground := Go.Ground.chain }, { on := 0, ground := Go.Ground.phase }, { on := 1, ground := Go.Ground.phase }, { on := 2, ground := Go.Ground.phase }, { on := 3, ground := Go.Ground.phase }, { on := 4, ground := Go.Ground.phase }, { on := 5, ground := Go.Ground.phase }, { on := 6, ground := Go.Ground.phase }, { on := 7, ground := Go.Ground.phase }, { on := 8, ground := Go.Ground.phase }, { on := 9, ground := Go.Ground.phase }, { on := 10, ground := Go.Ground.phase }, { on := 11, ground := Go.Ground.phase }, { on := 12, ground := Go.Ground.phase }, { on := 13, ground := Go.Ground.phase }, { on := 14, ground := Go.Ground.phase }, { on := 15, ground := Go.Ground.phase }, { on := 16, ground := Go.Ground.phase }, { on := 17, ground := Go.Ground.phase }, { on := 18, ground := Go.Ground.phase }, { on := 19, ground := Go.Ground.phase }, { on := 20, ground := Go.Ground.phase }, { on := 21, ground := Go.Ground.phase }, { on := 22, ground := Go.Ground.phase }, { on := 23, ground := Go.Ground.phase }, { on := 24, ground := Go.Ground.phase }, { on := 25, ground := Go.Ground.phase }, { on := 26, ground := Go.Ground.phase }, { on := 27, ground := Go.Ground.phase }, { on := 28, ground := Go.Ground.phase }, { on := 29, ground := Go.Ground.phase }, { on := 30, ground := Go.Ground.phase }, { on := 31, ground := Go.Ground.phase }, { on := 32, ground := Go.Ground.phase }, { on := 33, ground := Go.Ground.phase }, { on := 34, ground := Go.Ground.phase }].append [{ on := 35, ground := Go.Ground.phase }, { on := 36, ground := Go.Ground.phase }, { on := 37, ground := Go.Ground.phase }, { on := 38, ground := Go.Ground.phase }, { on := 39, ground := Go.Ground.phase }, { on := 40, ground := Go.Ground.phase }, { on := 41, ground := Go.Ground.phase }, { on := 42, ground := Go.Ground.phase }, { on := 43, ground := Go.Ground.phase }, { on := 44, ground := Go.Ground.phase }, { on := 45, ground := Go.Ground.phase }, { on := 46, ground := Go.Ground.phase }, { on := 47, ground := Go.Ground.phase }, { on := 48, ground := Go.Ground.phase }, { on := 49, ground := Go.Ground.phase }, { on := 50, ground := Go.Ground.phase }, { on := 51, ground := Go.Ground.phase }, { on := 52, ground := Go.Ground.phase }, { on := 53, ground := Go.Ground.phase }, { on := 54, ground := Go.Ground.phase }, { on := 55, ground := Go.Ground.phase }, { on := 56, ground := Go.Ground.phase }, { on := 57, ground := Go.Ground.phase }, { on := 58, ground := Go.Ground.phase }, { on := 59, ground := Go.Ground.phase }, { on := 60, ground := Go.Ground.phase }, { on := 61, ground := Go.Ground.phase }, { on := 62, ground := Go.Ground.phase }, { on := 63, ground := Go.Ground.phase }, { on := 64, ground := Go.Ground.phase }, { on := 65, ground := Go.Ground.phase }, { on := 66, ground := Go.Ground.phase }, { on := 67, ground := Go.Ground.phase }, { on := 68, ground := Go.Ground.phase }, { on := 69, ground := Go.Ground.phase }, { on := 70, ground := Go.Ground.phase }, { on := 71, ground := Go.Ground.phase }, { on := 72, ground := Go.Ground.phase }]).toArray, guard := none }) (v := ?_) rfl (by kernel_rfl) (by kernel_rfl) (by kernel_rfl) (fun _ _ _ h => h) (Or.inl ⟨by rfl, ?_⟩) hH18 ?_
            rotate_left
            · (intro wz hSz; (try dsimp only at hSz); go_simp; try with_reducible rfl)
            simp only [Act.put, List.setIfInBounds_toArray, List.set_cons_zero, List.set_cons_succ]
            refine wpAnyH_done (by kernel_rfl) ?_ _
            go_wp2_with fail
            go_ret
            exact ⟨by rfl, HB.out⟩
theorem aforks_law {w : World} {A M : Option Addr} {c d : Nat} {l m : List Et} {o0 : Int} {o1 : Nat} (hA : EtsIn w A l) (hM : EtsIn w M m) (hok : ∀ e ∈ l, EtOk e) (hmo : ∀ e ∈ m, EtOk e) (hl : l.length ≤ maxLen) (hml : m.length ≤ maxLen) (ho : o1 < 18446744073709551616) (hT : Tab w) :
    Calls Tryd.prog 6 #[.slice A l.length c, .slice M m.length d, .agg #[.int .i64 o0, .int .u64 (o1 : Int)]] w fun e w' => e = .returned (.bool true) ∧ Below w.heap.size w w' := by
  have h := fine_ls hok
  have hn := fine_len l 60
  have hs := Nat.le_trans (seen_len o0 o1 (fine (l.take 60))) hn
  have h2 := ads_ls h hn hmo 30 (Nat.le_refl _)
  exact aforks_walk (Lib.hid hT) (Lib.hid hA) (Lib.hid hM) (by unfold maxLen at hml; omega) (Lib.hid (play_pl hok hl)) hn hs (Lib.hid fun k h => hmo _ (List.getElem_mem h)) rfl (Lib.hid fun _ => c_seen0 h ho) (Lib.hid fun _ => c_rseen h) (Lib.hid (c_same (by omega))) (Lib.hid fun _ => c_seen h2 ho) (Lib.hid fun _ => c_rseen h2) (Lib.hid (c_same (Nat.le_trans (seen_len _ _ _) h2.n))) (Lib.hid fun _ => c_of h) (Lib.hid fun _ => c_rof h) (Lib.hid fun _ => c_of h2) (Lib.hid fun _ => c_rof h2)

end Go.Proofs.YtbfohfmipfapdaaDoor.Au
