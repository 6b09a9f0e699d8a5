/-
  The contract of delta's Print.
  law15's few and live.
  DeltaSizes, walked over any two lists.
-/
import Derived.Test.YtlggoplffhdkhaaDoorGjh
import Derived.Test.YtlggoplffhdkhaaDoorGjd
import Derived.BigQuiet
import Derived.StillTailTactics
import Derived.Deep.RegionHeldLaw
import Derived.Deep.DrawnRows
namespace Go.Proofs.YtlggoplffhdkhaaDoor.Dl
set_option linter.unusedVariables false
set_option linter.unusedSimpArgs false
open Go.RowKit Go.Maps
open T
open V (drawn_below grown_of)
open I (It ItemsIn ItemsAt itCells itCells_snoc itCells_at alloc1 own_at own_below items_of_own items_own infoItem ItemsIn.below)

theorem lcells_one (a : List (List UInt8 × Bool)) : ∀ u ∈ lineCells a, u.oneCell' = true := by
  intro u hu
  simp only [lineCells, List.mem_flatMap] at hu
  obtain ⟨x, _, hu⟩ := hu
  simp at hu
  rcases hu with rfl | rfl <;> rfl
theorem lcells_app (a b : List (List UInt8 × Bool)) : lineCells (a ++ b) = lineCells a ++ lineCells b := by simp [lineCells]
theorem bulk_app : ∀ a b : List (List UInt8 × Bool), P.bulk (a ++ b) = P.bulk a + P.bulk b
  | [], b => by simp [P.bulk]
  | (t, x) :: r, b => by rw [List.cons_append, P.bulk, P.bulk, bulk_app r b]; omega
theorem plns_pos (at_ n : Int) (l : List It) : 0 < (plns at_ n l).length := by
  unfold plns
  split
  · simp
  · rename_i h; unfold itls; rw [List.length_map]; exact List.length_pos_iff.2 h
/-- The error of the first part that is not to be told. -/
def cke : List Pt → Int
  | [] => 0
  | p :: r => if ckt p.at_ p.n p.its ≠ 0 then ckt p.at_ p.n p.its else cke r
theorem cke_at {d : List Pt} {k : Nat} (h : k < d.length) : cke (d.drop k) = if ckt d[k].at_ d[k].n d[k].its ≠ 0 then ckt d[k].at_ d[k].n d[k].its else cke (d.drop (k + 1)) := by
  rw [List.drop_eq_getElem_cons h, cke]
theorem cki_zero {x : It} (h : cki x = 0) : 0 ≤ x.id ∧ x.id ≤ 2147483647 ∧ L.rightB x.lv = true ∧ x.tx.contains 10 = false ∧ x.tx.length ≤ 200 := by
  unfold cki at h
  split at h
  · cases h
  · split at h
    · cases h
    · split at h
      · cases h
      · rename_i h1 h2 h3
        refine ⟨by omega, by omega, ?_, by simpa using h2, by omega⟩
        cases hr : L.rightB x.lv with
        | true => rfl
        | false => exact absurd (.inr (.inr hr)) h1
theorem cks_zero : ∀ {l : List It}, cks l = 0 → ∀ x ∈ l, cki x = 0
  | [], _, x, hx => by cases hx
  | y :: r, h, x, hx => by
    rw [cks] at h
    by_cases e : cki y = 0
    · rw [if_neg (by simpa using e)] at h
      rcases List.mem_cons.1 hx with rfl | hx
      · exact e
      · exact cks_zero h x hx
    · rw [if_pos e] at h; exact absurd h e
theorem ckt_zero {at_ n : Int} {l : List It} (h : ckt at_ n l = 0) : (0 ≤ at_ ∧ at_ ≤ 2147483647) ∧ (0 ≤ n ∧ n ≤ 2147483647) ∧ (∀ x ∈ l, cki x = 0) ∧ (0 < l.length → at_ = 0 ∧ n = 0) ∧ (l.length = 0 → 0 < n) := by
  unfold ckt at h
  by_cases e : cpt at_ n l.length = 0
  · have h2 := cpt_zero e
    rw [if_neg (by simpa using e)] at h
    split at h
    · cases h
    · exact ⟨⟨h2.1, by omega⟩, ⟨h2.2.1, by omega⟩, cks_zero h, h2.2.2.1, h2.2.2.2⟩
  · rw [if_pos e] at h; exact absurd h e
/-- The line between two parts with items. -/
def nxb (d : List Pt) (k : Nat) : Bool := decide (0 < k) && (decide (0 < (d.getD (k - 1) ⟨0, 0, []⟩).its.length) && decide (0 < (d.getD k ⟨0, 0, []⟩).its.length))
def nxl (d : List Pt) (k : Nat) : List (List UInt8 × Bool) := if nxb d k = true then [([110, 101, 120, 116], false)] else []
def ptl (d : List Pt) (k : Nat) : List (List UInt8 × Bool) := plns (d.getD k ⟨0, 0, []⟩).at_ (d.getD k ⟨0, 0, []⟩).n (d.getD k ⟨0, 0, []⟩).its
/-- The lines of a delta's first k parts. -/
def dlk (d : List Pt) : Nat → List (List UInt8 × Bool)
  | 0 => []
  | k + 1 => dlk d k ++ nxl d k ++ ptl d k
theorem dlk_le (d : List Pt) (k m : Nat) (h : k ≤ m) : P.bulk (dlk d k) ≤ P.bulk (dlk d m) := by
  induction m with
  | zero => obtain rfl : k = 0 := by omega
            exact Nat.le_refl _
  | succ m ih =>
    by_cases e : k = m + 1
    · subst e; exact Nat.le_refl _
    · have := ih (by omega)
      rw [dlk, bulk_app, bulk_app]; omega
/-- A delta's text. -/
def prt (d : List Pt) : List UInt8 := if cke d = 0 then P.join (dlk d d.length) else []
def PrEnd (w : World) (t : List UInt8) (z : Int) (e : Ending) (w' : World) : Prop := ∃ B cap, e = .returned (.tuple #[.slice B t.length cap, .int .i64 z]) ∧ w'.ownsRow w.heap.size 5 1 (.slice B t.length cap) t.length (byteCells t) ∧ Below w.heap.size w w'
set_option maxRecDepth 100000 in
set_option maxHeartbeats 8000000 in
theorem print_any (A : Option Addr) (c : Nat) (d : List Pt) (w : World) (hD : PtsIn w A d) (hd : d.length ≤ 4000000000) (hp : ∀ p ∈ d, p.its.length ≤ 4000000000 ∧ ∀ x ∈ p.its, x.tx.length ≤ maxLen ∧ x.ct < 18446744073709551616) (hbk : P.bulk (dlk d d.length) ≤ 5000000000000) (hT : Tab w) :
    Calls Tryd.prog 19 #[.slice A d.length c] w (PrEnd w (prt d) (cke d)) := by
  obtain ⟨i0, hi0, hz0, hz1, hz2⟩ := info_parts infoLine
  have HD := Lib.hid hD
  have HP := Lib.hid (fun (k : Nat) (h : k < d.length) => hp d[k] (List.getElem_mem h))
  have HAT := Lib.hid (fun (k : Nat) (h : k < d.length) => cke_at h)
  have HT := Lib.hid hT
  obtain ⟨ek, hek⟩ : ∃ ek : Nat → Int, ∀ k, cke (d.drop k) = ek k := ⟨fun k => cke (d.drop k), fun _ => rfl⟩
  have HE0 : Hid (ek 0 = cke d) := Lib.hid (by rw [← hek, List.drop_zero])
  have HEE : Hid (ek d.length = 0) := Lib.hid (by rw [← hek, List.drop_length]; rfl)
  simp only [hek] at HAT
  have HR0 : Hid (cke d ≠ 0 → prt d = []) := Lib.hid (fun h => if_neg h)
  have HR1 : Hid (cke d = 0 → prt d = P.join (dlk d d.length)) := Lib.hid (fun h => if_pos h)
  have HBJ := Lib.hid (show P.bulk (dlk d d.length) ≤ 70368744177664 by omega)
  have HDL := Lib.hid (fun (k : Nat) (h : k ≤ d.length) => Nat.le_trans (P.length_bulk (dlk d k)) (Nat.le_trans (dlk_le d k d.length h) hbk))
  have HDS := Lib.hid (fun (k : Nat) => show dlk d (k + 1) = dlk d k ++ nxl d k ++ ptl d k from rfl)
  have HD0 := Lib.hid (show dlk d 0 = [] from rfl)
  generalize prt d = res at *
  generalize cke d = er at *
  obtain ⟨dl, hdl⟩ : ∃ dl : Nat → List (List UInt8 × Bool), dl = dlk d := ⟨_, rfl⟩
  rw [← hdl] at HDL HDS HD0 HR1 HBJ
  clear hD hp hek hbk hT hdl
  go_enter Tryd.func19, Tryd.ntmps19
  go_wp2_with fail
  go_loopg [4, 10] d.length (fun m v i wr => ∃ (k : Nat) (VA : Option Addr) (vc : Nat), k ≤ d.length ∧ i = .int .i64 (k : Int) ∧ v = .slice VA (dl k).length vc ∧ d.length - k ≤ m ∧ wr.ownsRow w.heap.size 39 2 (.slice VA (dl k).length vc) (dl k).length (lineCells (dl k)) ∧ Below w.heap.size w wr ∧ Hid (er = ek k))
  case atStart => exact ⟨0, none, 0, Nat.zero_le _, rfl, by rw [HD0.out]; rfl, by omega, by rw [HD0.out]; exact World.ownsRow_nil _ _ _ _, Below.refl _ _, Lib.hid HE0.out.symm⟩
  case round =>
    obtain ⟨k, VA, vc, hk, rfl, rfl, hm, hown, hbr, HER⟩ := hrel
    by_cases hlt : k < d.length
    · obtain ⟨bk, off, hDe, hbk, hI⟩ := HD.out (by omega)
      subst hDe
      obtain ⟨g0, g1, C, cc, g2, hix⟩ := hI k hlt
      have HPV := Lib.hid (fun (q : Nat) (hq : q < d.length) => show ∃ C' c', w.cell? ⟨bk, off + q * 3 + 2, none⟩ = some (.slice C' (d.getD q ⟨0, 0, []⟩).its.length c') by
        obtain ⟨_, _, C', c', h2, _⟩ := hI q hq
        exact ⟨C', c', by rw [h2, List.getD_eq_getElem?_getD, List.getElem?_eq_getElem hq]; rfl⟩)
      have HT1 := Lib.hid (HAT.out k hlt)
      obtain ⟨hp1, hp2⟩ := HP.out k hlt
      have hgd : d.getD k ⟨0, 0, []⟩ = d[k]'hlt := by rw [List.getD_eq_getElem?_getD, List.getElem?_eq_getElem hlt]; rfl
      have h0k : (0 : Int) ≤ (k : Int) := by omega
      have hki : (k : Int) < (d.length : Int) := by omega
      obtain ⟨x, hx⟩ : ∃ x, x = d[k]'hlt := ⟨_, rfl⟩
      rw [← hx] at g0 g1 g2 hix HT1 hp1 hp2 hgd
      obtain ⟨pa, pn, pi⟩ := x
      simp only at g0 g1 g2 hix HT1 hp1 hp2
      have HNB : Hid (nxb d k = (decide (0 < k) && (decide (0 < (d.getD (k - 1) ⟨0, 0, []⟩).its.length) && decide (0 < pi.length)))) := Lib.hid (by unfold nxb; rw [hgd])
      have HPT : Hid (ptl d k = plns pa pn pi) := Lib.hid (by unfold ptl; rw [hgd])
      have HIX := Lib.hid hix
      have g0 := (hbr.cell (p := ⟨bk, _, none⟩) hbk).trans g0
      have g1 := (hbr.cell (p := ⟨bk, _, none⟩) hbk).trans g1
      have g2 := (hbr.cell (p := ⟨bk, _, none⟩) hbk).trans g2
      obtain ⟨W2, hW2⟩ : ∃ W : World, W = wr.alloc (.cells #[.int .i64 pa, .int .i64 pn, .slice C pi.length cc] 27) := ⟨_, rfl⟩
      have hb1 : Below wr.heap.size wr W2 := by rw [hW2]; exact alloc1 _ _
      have hx1 : W2.heap[wr.heap.size]? = some (.cells #[.int .i64 pa, .int .i64 pn, .slice C pi.length cc] 27 (0, 0)) := by rw [hW2]; exact heap_alloc_new wr _
      have hB1 := hbr.trans (hb1.mono hbr.size)
      have HCT := Lib.hid (ctext_any pa pn C cc pi W2 (hix.below hB1) (by omega) (fun x hx => (hp2 x hx).1))
      have HB1 := Lib.hid hB1
      have HO1 := Lib.hid (own_below hown hb1)
      have HZ := Lib.hid (fun (h : ckt pa pn pi = 0) => ckt_zero h)
      have HP2 := Lib.hid hp2
      generalize ckt pa pn pi = z at *
      obtain ⟨bb, hbb⟩ : ∃ q, q = wr.heap.size := ⟨_, rfl⟩
      rw [← hbb] at hx1
      have e0 := L.blk_cell hx1 0
      have e1 := L.blk_cell hx1 1
      have e2 := L.blk_cell hx1 2
      simp only [List.getElem?_toArray, List.getElem?_cons_zero, List.getElem?_cons_succ] at e0 e1 e2
      have HX1 := Lib.hid hx1
      go_upto_region 5 with fail
      rw [← hW2, ← hbb]
      clear hW2 g0 g1 g2 hx hgd hix hp2 hbr hb1 hx1 hB1 hown hbb hI
      go_wp2_with fail
      with_reducible refine HCT.out.mono ?_
      rintro e w2 ⟨rfl, hb2⟩
      have hx2 := (hb2.block _ (L.blk_lt HX1.out)).trans HX1.out
      have HX2 := Lib.hid hx2
      have HB2 := Lib.hid (HB1.out.trans (hb2.mono HB1.out.size))
      have HO2 := Lib.hid (own_below HO1.out hb2)
      clear e0 e1 e2 HX1 hb2 HB1 HCT HO1
      by_cases hz : z = 0
      · subst hz
        have HU := Lib.hid (HT1.out.trans (if_neg (by simp)))
        have HZ2 := Lib.hid (HZ.out rfl)
        clear HT1 HZ
        have e2 := L.blk_cell hx2 2
        simp only [List.getElem?_toArray, List.getElem?_cons_zero, List.getElem?_cons_succ] at e2
        go_upto_region 8 with fail
        by_cases hk0 : k = 0
        · have HN : Hid (nxl d k = []) := Lib.hid (by unfold nxl; rw [HNB.out, hk0]; rfl)
          have hkn : ¬ (0 : Int) < (k : Int) := by omega
          clear hk0
          go_upto_region 10 with fail
          have hy : (dl k).length = (dl k ++ nxl d k).length := by rw [HN.out, List.append_nil]
          have hc : lineCells (dl k) = lineCells (dl k ++ nxl d k) := by rw [HN.out, List.append_nil]
          rw [hy, hc] at HO2
          rw [hy]
          clear hy hc HN e2
          have HO3 := HO2; have HB3 := HB2; have HX3 := HX2; clear HO2 HB2 HX2
          generalize w2 = w3 at *
          have hzz := HZ2.out
          have hlen := HDL.out (k + 1) (by omega)
          have HDK := Lib.hid (HDS.out k)
          rw [HPT.out] at HDK
          rw [HDK.out, List.length_append] at hlen
          have HIX3 := HIX.out.below HB3.out
          have HCL := Lib.hid (lines_any pa pn C cc pi w3 HIX3 hp1 (fun x hx => by
            have h1 := cki_zero (hzz.2.2.1 x hx)
            have h2 := HP2.out x hx
            have h3 : 0 ≤ x.lv ∧ x.lv ≤ 15 := by have := h1.2.2.1; unfold L.rightB at this; simpa using this
            exact ⟨h1.2.2.2.2, by omega, by omega, h2.2⟩) (by omega) (by omega) (HT.out.later HB3.out))
          have hpp := plns_pos pa pn pi
          generalize plns pa pn pi = pl at *
          generalize hyy : dl k ++ nxl d k = y at *
          clear hyy
          have e0 := L.blk_cell HX3.out 0
          have e1 := L.blk_cell HX3.out 1
          have e2 := L.blk_cell HX3.out 2
          simp only [List.getElem?_toArray, List.getElem?_cons_zero, List.getElem?_cons_succ] at e0 e1 e2
          have hs3 := HB3.out.size
          clear HIX3 HIX HZ2 HPT HNB HPV HP2 HX3 hzz
          go_wp2_with fail
          with_reducible refine HCL.out.mono ?_
          rintro e w5 ⟨LA, lc, rfl, hol, hb5⟩
          obtain ⟨g, cap, hv, hg1, hg2⟩ := World.ownsRow.form hol hpp
          injection hv with hv1 _ hv2
          subst hv1 hv2
          have HNW := Lib.hid (World.ownsRow.cells hol rfl)
          have HO5 := Lib.hid (own_below HO3.out hb5)
          have HB5 := Lib.hid (HB3.out.trans (hb5.mono hs3))
          have hs5 := HB5.out.size
          clear hol hb5 HCL HO3 HB3 e0 e1 e2 hg1 hg2
          go_wp2_with (at_builtin; refine wpList_append_own_at _ rfl (.tmp 43) (.tmp 45) _ rfl w.heap.size 39 i0 _ 2 24 Tryd.underlying61 hi0 hz0 hz1 hz2 rfl (by decide) _ _ _ rfl HO5.out ⟨g, 0, none⟩ pl.length lc (lineCells pl) rfl (lineCells_length pl) HNW.out (lcells_one pl) (by unfold maxLen; omega) (by omega) hs5 ?_; intro v1 w6 ho6 hg6 _ hat6)
          have HB6 := Lib.hid (HB5.out.grown hg6 hs5 (fun k e => (World.ownsRow.lt HO5.out k e).1))
          obtain ⟨RA, rcap, rfl, -, -⟩ := own_form ho6
          rw [← List.length_append, ← lcells_app, ← HDK.out] at ho6
          have HO6 := Lib.hid ho6
          have HLL : Hid (y.length + pl.length = (dl (k + 1)).length) := Lib.hid (by rw [HDK.out, List.length_append])
          clear ho6 hg6 hat6 HO5 HB5 HNW
          go_wp2_with fail
          go_roundg (d.length - (k + 1))
          case rel => exact ⟨k + 1, RA, rcap, by omega, by go_num, by rw [HLL.out], Nat.le_refl _, HO6.out, HB6.out, Lib.hid (by rw [HER.out, HU.out])⟩
          case measure => omega
        · obtain ⟨q, hq⟩ : ∃ q : Nat, q + 1 = k := ⟨k - 1, by omega⟩
          obtain ⟨C', c', hpv⟩ := HPV.out q (by omega)
          have hpv := (HB2.out.cell (p := ⟨bk, _, none⟩) hbk).trans hpv
          have hw1 : IntKind.i64.wrap ((k : Int) - 1) = (q : Int) := by rw [IntKind.wrap_i64]; omega
          have h0q : (0 : Int) ≤ (q : Int) := by omega
          have hqi : (q : Int) < (d.length : Int) := by omega
          have hkp : (0 : Int) < (k : Int) := by omega
          have hkq : k - 1 = q := by omega
          rw [hkq] at HNB
          obtain ⟨m1, hm1⟩ : ∃ m1, m1 = (d.getD q ⟨0, 0, []⟩).its.length := ⟨_, rfl⟩
          rw [← hm1] at hpv HNB
          have HKP := Lib.hid (show 0 < k by omega)
          clear hm1 hkq hq hk0
          by_cases hmz : 0 < m1
          · have hmi : (0 : Int) < (m1 : Int) := by omega
            by_cases hpz : 0 < pi.length
            · have hpi : (0 : Int) < (pi.length : Int) := by omega
              have HN : Hid (nxl d k = [([110, 101, 120, 116], false)]) := Lib.hid (by unfold nxl; rw [HNB.out, decide_eq_true HKP.out, decide_eq_true hmz, decide_eq_true hpz]; rfl)
              have hlk := HDL.out k hk
              have HLN : Hid (Calls Tryd.prog 33 #[.slice (some ⟨w2.heap.size, 0, none⟩) 1 1] (w2.alloc (.cells #[.string ⟨#[110, 101, 120, 116]⟩] 9)) fun e w' => e = .returned (.agg #[.string ⟨#[110, 101, 120, 116]⟩, .bool false]) ∧ Below (w2.alloc (.cells #[.string ⟨#[110, 101, 120, 116]⟩] 9)).heap.size (w2.alloc (.cells #[.string ⟨#[110, 101, 120, 116]⟩] 9)) w') := Lib.hid (by
                have h := ln_words (W := w2.alloc (.cells #[.string ⟨#[110, 101, 120, 116]⟩] 9)) (g := w2.heap.size) (cap := 1) [[110, 101, 120, 116]] (words_of (heap_alloc_new w2 _) rfl) (by simp) (Nat.le_refl _) (by simp) (by simp [Lib.join])
                rw [show Lib.join [[110, 101, 120, 116]] [32] = ([110, 101, 120, 116] : List UInt8) by simp [Lib.join]] at h
                exact h)
              go_wp2_with fail
              with_reducible refine HLN.out.mono ?_
              rintro e w4 ⟨rfl, hb4⟩
              have hb5 : Below w2.heap.size w2 w4 := (alloc1 w2 _).trans (hb4.mono (alloc1 w2 (.cells #[.string ⟨#[110, 101, 120, 116]⟩] 9)).size)
              have HO4 := Lib.hid (World.ownsRow.alloc (own_below HO2.out hb5) (.cells #[.string ⟨#[110, 101, 120, 116]⟩, .bool false] 39))
              have hb6 := (HB2.out.trans (hb5.mono HB2.out.size))
              have HB4 := Lib.hid (hb6.trans ((alloc1 w4 (.cells #[.string ⟨#[110, 101, 120, 116]⟩, .bool false] 39)).mono hb6.size))
              have hs4 := HB4.out.size
              have HX4 := Lib.hid (((alloc1 w4 (.cells #[.string ⟨#[110, 101, 120, 116]⟩, .bool false] 39)).block _ (Nat.lt_of_lt_of_le (L.blk_lt HX2.out) hb5.size)).trans ((hb5.block _ (L.blk_lt HX2.out)).trans HX2.out))
              clear HLN hb4 hb5 hb6 HO2 HB2 HX2 hpv e2
              go_upto_region 10 with (at_builtin; refine wpList_append_own_at _ rfl (.tmp 38) (.tmp 41) _ rfl w.heap.size 39 i0 _ 2 24 Tryd.underlying61 hi0 hz0 hz1 hz2 rfl (by decide) _ _ _ rfl HO4.out ⟨w4.heap.size, 0, none⟩ 1 1 [.string ⟨#[110, 101, 120, 116]⟩, .bool false] rfl rfl (World.news_of_block (heap_alloc_new w4 _)) (by intro u hu; simp at hu; rcases hu with rfl | rfl <;> rfl) (by unfold maxLen; omega) (by omega) hs4 ?_; intro v1 w6 ho6 hg6 _ hat6)
              have HB6 := Lib.hid (HB4.out.grown hg6 hs4 (fun k e => (World.ownsRow.lt HO4.out k e).1))
              have HX6 := Lib.hid ((hg6.block _ (L.blk_lt HX4.out) (V.own_ne' HO4.out (fun cs e => by rw [HX4.out] at e; injection e with e; injection e with _ e; exact absurd e (by decide)))).trans HX4.out)
              obtain ⟨RA, rcap, rfl, -, -⟩ := own_form ho6
              have HO6 := Lib.hid ho6
              clear ho6 hg6 hat6 HO4 HB4 HX4
              have hy : (dl k).length + 1 = (dl k ++ nxl d k).length := by rw [HN.out, List.length_append]; rfl
              have hc : lineCells (dl k) ++ [.string ⟨#[110, 101, 120, 116]⟩, .bool false] = lineCells (dl k ++ nxl d k) := by rw [HN.out, lcells_app]; rfl
              rw [hy, hc] at HO6
              rw [hy]
              clear hy hc HN hs4 hlk
              have HO3 := HO6; have HB3 := HB6; have HX3 := HX6; clear HO6 HB6 HX6
              generalize w6 = w3 at *
              have hzz := HZ2.out
              have hlen := HDL.out (k + 1) (by omega)
              have HDK := Lib.hid (HDS.out k)
              rw [HPT.out] at HDK
              rw [HDK.out, List.length_append] at hlen
              have HIX3 := HIX.out.below HB3.out
              have HCL := Lib.hid (lines_any pa pn C cc pi w3 HIX3 hp1 (fun x hx => by
                have h1 := cki_zero (hzz.2.2.1 x hx)
                have h2 := HP2.out x hx
                have h3 : 0 ≤ x.lv ∧ x.lv ≤ 15 := by have := h1.2.2.1; unfold L.rightB at this; simpa using this
                exact ⟨h1.2.2.2.2, by omega, by omega, h2.2⟩) (by omega) (by omega) (HT.out.later HB3.out))
              have hpp := plns_pos pa pn pi
              generalize plns pa pn pi = pl at *
              generalize hyy : dl k ++ nxl d k = y at *
              clear hyy
              have e0 := L.blk_cell HX3.out 0
              have e1 := L.blk_cell HX3.out 1
              have e2 := L.blk_cell HX3.out 2
              simp only [List.getElem?_toArray, List.getElem?_cons_zero, List.getElem?_cons_succ] at e0 e1 e2
              have hs3 := HB3.out.size
              clear HIX3 HIX HZ2 HPT HNB HPV HP2 HX3 hzz
              go_wp2_with fail
              with_reducible refine HCL.out.mono ?_
              rintro e w5 ⟨LA, lc, rfl, hol, hb5⟩
              obtain ⟨g, cap, hv, hg1, hg2⟩ := World.ownsRow.form hol hpp
              injection hv with hv1 _ hv2
              subst hv1 hv2
              have HNW := Lib.hid (World.ownsRow.cells hol rfl)
              have HO5 := Lib.hid (own_below HO3.out hb5)
              have HB5 := Lib.hid (HB3.out.trans (hb5.mono hs3))
              have hs5 := HB5.out.size
              clear hol hb5 HCL HO3 HB3 e0 e1 e2 hg1 hg2
              go_wp2_with (at_builtin; refine wpList_append_own_at _ rfl (.tmp 43) (.tmp 45) _ rfl w.heap.size 39 i0 _ 2 24 Tryd.underlying61 hi0 hz0 hz1 hz2 rfl (by decide) _ _ _ rfl HO5.out ⟨g, 0, none⟩ pl.length lc (lineCells pl) rfl (lineCells_length pl) HNW.out (lcells_one pl) (by unfold maxLen; omega) (by omega) hs5 ?_; intro v1 w6 ho6 hg6 _ hat6)
              have HB6 := Lib.hid (HB5.out.grown hg6 hs5 (fun k e => (World.ownsRow.lt HO5.out k e).1))
              obtain ⟨RA, rcap, rfl, -, -⟩ := own_form ho6
              rw [← List.length_append, ← lcells_app, ← HDK.out] at ho6
              have HO6 := Lib.hid ho6
              have HLL : Hid (y.length + pl.length = (dl (k + 1)).length) := Lib.hid (by rw [HDK.out, List.length_append])
              clear ho6 hg6 hat6 HO5 HB5 HNW
              go_wp2_with fail
              go_roundg (d.length - (k + 1))
              case rel => exact ⟨k + 1, RA, rcap, by omega, by go_num, by rw [HLL.out], Nat.le_refl _, HO6.out, HB6.out, Lib.hid (by rw [HER.out, HU.out])⟩
              case measure => omega
            · have hpi : ¬ (0 : Int) < (pi.length : Int) := by omega
              have HN : Hid (nxl d k = []) := Lib.hid (by unfold nxl; rw [HNB.out, decide_eq_false hpz]; simp)
              go_upto_region 10 with fail
              have hy : (dl k).length = (dl k ++ nxl d k).length := by rw [HN.out, List.append_nil]
              have hc : lineCells (dl k) = lineCells (dl k ++ nxl d k) := by rw [HN.out, List.append_nil]
              rw [hy, hc] at HO2
              rw [hy]
              clear hy hc HN e2
              have HO3 := HO2; have HB3 := HB2; have HX3 := HX2; clear HO2 HB2 HX2
              generalize w2 = w3 at *
              have hzz := HZ2.out
              have hlen := HDL.out (k + 1) (by omega)
              have HDK := Lib.hid (HDS.out k)
              rw [HPT.out] at HDK
              rw [HDK.out, List.length_append] at hlen
              have HIX3 := HIX.out.below HB3.out
              have HCL := Lib.hid (lines_any pa pn C cc pi w3 HIX3 hp1 (fun x hx => by
                have h1 := cki_zero (hzz.2.2.1 x hx)
                have h2 := HP2.out x hx
                have h3 : 0 ≤ x.lv ∧ x.lv ≤ 15 := by have := h1.2.2.1; unfold L.rightB at this; simpa using this
                exact ⟨h1.2.2.2.2, by omega, by omega, h2.2⟩) (by omega) (by omega) (HT.out.later HB3.out))
              have hpp := plns_pos pa pn pi
              generalize plns pa pn pi = pl at *
              generalize hyy : dl k ++ nxl d k = y at *
              clear hyy
              have e0 := L.blk_cell HX3.out 0
              have e1 := L.blk_cell HX3.out 1
              have e2 := L.blk_cell HX3.out 2
              simp only [List.getElem?_toArray, List.getElem?_cons_zero, List.getElem?_cons_succ] at e0 e1 e2
              have hs3 := HB3.out.size
              clear HIX3 HIX HZ2 HPT HNB HPV HP2 HX3 hzz
              go_wp2_with fail
              with_reducible refine HCL.out.mono ?_
              rintro e w5 ⟨LA, lc, rfl, hol, hb5⟩
              obtain ⟨g, cap, hv, hg1, hg2⟩ := World.ownsRow.form hol hpp
              injection hv with hv1 _ hv2
              subst hv1 hv2
              have HNW := Lib.hid (World.ownsRow.cells hol rfl)
              have HO5 := Lib.hid (own_below HO3.out hb5)
              have HB5 := Lib.hid (HB3.out.trans (hb5.mono hs3))
              have hs5 := HB5.out.size
              clear hol hb5 HCL HO3 HB3 e0 e1 e2 hg1 hg2
              go_wp2_with (at_builtin; refine wpList_append_own_at _ rfl (.tmp 43) (.tmp 45) _ rfl w.heap.size 39 i0 _ 2 24 Tryd.underlying61 hi0 hz0 hz1 hz2 rfl (by decide) _ _ _ rfl HO5.out ⟨g, 0, none⟩ pl.length lc (lineCells pl) rfl (lineCells_length pl) HNW.out (lcells_one pl) (by unfold maxLen; omega) (by omega) hs5 ?_; intro v1 w6 ho6 hg6 _ hat6)
              have HB6 := Lib.hid (HB5.out.grown hg6 hs5 (fun k e => (World.ownsRow.lt HO5.out k e).1))
              obtain ⟨RA, rcap, rfl, -, -⟩ := own_form ho6
              rw [← List.length_append, ← lcells_app, ← HDK.out] at ho6
              have HO6 := Lib.hid ho6
              have HLL : Hid (y.length + pl.length = (dl (k + 1)).length) := Lib.hid (by rw [HDK.out, List.length_append])
              clear ho6 hg6 hat6 HO5 HB5 HNW
              go_wp2_with fail
              go_roundg (d.length - (k + 1))
              case rel => exact ⟨k + 1, RA, rcap, by omega, by go_num, by rw [HLL.out], Nat.le_refl _, HO6.out, HB6.out, Lib.hid (by rw [HER.out, HU.out])⟩
              case measure => omega
          · have hmi : ¬ (0 : Int) < (m1 : Int) := by omega
            have HN : Hid (nxl d k = []) := Lib.hid (by unfold nxl; rw [HNB.out, decide_eq_false hmz]; simp)
            go_upto_region 10 with fail
            have hy : (dl k).length = (dl k ++ nxl d k).length := by rw [HN.out, List.append_nil]
            have hc : lineCells (dl k) = lineCells (dl k ++ nxl d k) := by rw [HN.out, List.append_nil]
            rw [hy, hc] at HO2
            rw [hy]
            clear hy hc HN e2
            have HO3 := HO2; have HB3 := HB2; have HX3 := HX2; clear HO2 HB2 HX2
            generalize w2 = w3 at *
            have hzz := HZ2.out
            have hlen := HDL.out (k + 1) (by omega)
            have HDK := Lib.hid (HDS.out k)
            rw [HPT.out] at HDK
            rw [HDK.out, List.length_append] at hlen
            have HIX3 := HIX.out.below HB3.out
            have HCL := Lib.hid (lines_any pa pn C cc pi w3 HIX3 hp1 (fun x hx => by
              have h1 := cki_zero (hzz.2.2.1 x hx)
              have h2 := HP2.out x hx
              have h3 : 0 ≤ x.lv ∧ x.lv ≤ 15 := by have := h1.2.2.1; unfold L.rightB at this; simpa using this
              exact ⟨h1.2.2.2.2, by omega, by omega, h2.2⟩) (by omega) (by omega) (HT.out.later HB3.out))
            have hpp := plns_pos pa pn pi
            generalize plns pa pn pi = pl at *
            generalize hyy : dl k ++ nxl d k = y at *
            clear hyy
            have e0 := L.blk_cell HX3.out 0
            have e1 := L.blk_cell HX3.out 1
            have e2 := L.blk_cell HX3.out 2
            simp only [List.getElem?_toArray, List.getElem?_cons_zero, List.getElem?_cons_succ] at e0 e1 e2
            have hs3 := HB3.out.size
            clear HIX3 HIX HZ2 HPT HNB HPV HP2 HX3 hzz
            go_wp2_with fail
            with_reducible refine HCL.out.mono ?_
            rintro e w5 ⟨LA, lc, rfl, hol, hb5⟩
            obtain ⟨g, cap, hv, hg1, hg2⟩ := World.ownsRow.form hol hpp
            injection hv with hv1 _ hv2
            subst hv1 hv2
            have HNW := Lib.hid (World.ownsRow.cells hol rfl)
            have HO5 := Lib.hid (own_below HO3.out hb5)
            have HB5 := Lib.hid (HB3.out.trans (hb5.mono hs3))
            have hs5 := HB5.out.size
            clear hol hb5 HCL HO3 HB3 e0 e1 e2 hg1 hg2
            go_wp2_with (at_builtin; refine wpList_append_own_at _ rfl (.tmp 43) (.tmp 45) _ rfl w.heap.size 39 i0 _ 2 24 Tryd.underlying61 hi0 hz0 hz1 hz2 rfl (by decide) _ _ _ rfl HO5.out ⟨g, 0, none⟩ pl.length lc (lineCells pl) rfl (lineCells_length pl) HNW.out (lcells_one pl) (by unfold maxLen; omega) (by omega) hs5 ?_; intro v1 w6 ho6 hg6 _ hat6)
            have HB6 := Lib.hid (HB5.out.grown hg6 hs5 (fun k e => (World.ownsRow.lt HO5.out k e).1))
            obtain ⟨RA, rcap, rfl, -, -⟩ := own_form ho6
            rw [← List.length_append, ← lcells_app, ← HDK.out] at ho6
            have HO6 := Lib.hid ho6
            have HLL : Hid (y.length + pl.length = (dl (k + 1)).length) := Lib.hid (by rw [HDK.out, List.length_append])
            clear ho6 hg6 hat6 HO5 HB5 HNW
            go_wp2_with fail
            go_roundg (d.length - (k + 1))
            case rel => exact ⟨k + 1, RA, rcap, by omega, by go_num, by rw [HLL.out], Nat.le_refl _, HO6.out, HB6.out, Lib.hid (by rw [HER.out, HU.out])⟩
            case measure => omega
      · have hzb : (z != 0) = true := by simp [hz]
        have hez : er = z := by rw [HER.out, HT1.out, if_pos hz]
        have HEZ := Lib.hid hez
        have HRS := Lib.hid (HR0.out (by rw [hez]; exact hz))
        clear HT1 hez
        go_wp2_with fail
        refine bodyPost_ret (v := .tuple #[.slice none 0 0, .int .i64 z]) (by simp [results, Tryd.results19, go_sem]) rfl (by rw [HRS.out, HEZ.out]; exact ⟨none, 0, rfl, World.ownsRow_nil _ _ _ _, HB2.out⟩)
    · obtain rfl : k = d.length := by omega
      have her : er = 0 := by rw [HER.out, HEE.out]
      have HRS := Lib.hid (HR1.out her)
      have HER0 := Lib.hid her
      obtain ⟨A', cap', hv, -, hL⟩ := lines_of_own hown
      injection hv with hv1 _ hv2
      subst hv1 hv2
      have HJN := Lib.hid (join_any _ vc (dl d.length) wr HBJ.out hL)
      have HB1 := Lib.hid hbr
      rw [← HRS.out] at HJN
      clear hL her hown hbr HER
      generalize dl d.length = y at *
      go_wp2_with fail
      with_reducible refine HJN.out.mono ?_
      rintro e w5 ⟨v5, rfl, ho5, hb5⟩
      obtain ⟨RA, rcap, rfl, -, -⟩ := own_form ho5
      have HO5 := Lib.hid (V.own_base_le ho5 HB1.out.size)
      have HB5 := Lib.hid (HB1.out.trans (hb5.mono HB1.out.size))
      clear ho5 hb5 HJN
      go_wp2_with fail
      refine bodyPost_ret (v := .tuple #[.slice RA res.length rcap, .int .i64 0]) (by simp [results, Tryd.results19, go_sem]) rfl (by rw [HER0.out]; exact ⟨RA, rcap, rfl, HO5.out, HB5.out⟩)
end Go.Proofs.YtlggoplffhdkhaaDoor.Dl

namespace Go.Proofs.YtlggoplffhdkhaaDoor.Dl
set_option linter.unusedVariables false
set_option linter.unusedSimpArgs false
open Go.RowKit Go.Maps
open T
open V (drawn_below grown_of)
open I (It ItemsIn ItemsAt itCells itCells_snoc itCells_at alloc1 own_at own_below items_of_own items_own infoItem ItemsIn.below)

/-- The first forty items. -/
theorem few_any (A : Option Addr) (a : List It) (c : Nat) (w : World) (ha : a.length ≤ maxLen) (hc : a.length ≤ c) :
    Calls Tryd.prog 10 #[.slice A a.length c] w fun e w' => e = .returned (.slice A (a.take 40).length c) ∧ w' = w := by
  unfold maxLen at ha
  obtain ⟨n, hn⟩ : ∃ n, n = a.length := ⟨_, rfl⟩
  obtain ⟨m, hm⟩ : ∃ m, m = (a.take 40).length := ⟨_, rfl⟩
  rw [List.length_take, ← hn] at hm
  have hm' : min (n : Int) 40 = (m : Int) := by omega
  have hmn : m ≤ n := by omega
  have HM : Hid ((a.take 40).length = m) := Lib.hid (by rw [List.length_take, ← hn, hm])
  rw [← hn] at ha hc ⊢
  rw [HM.out]
  clear hn hm
  go_enter Tryd.func10, Tryd.ntmps10
  go_wp2_with fail
  go_ret
  exact ⟨rfl, rfl⟩
theorem Ix.take {w : World} {B : Option Addr} {c : Nat} {l : List It} (h : Ix w B c l) (k : Nat) : Ix w B c (l.take k) := ⟨it_take h.i k, by have := h.r; rw [List.length_take]; omega, h.z⟩
def iA : It := ⟨1, 0, 0, false, [97], false⟩
def iB : It := ⟨2, 0, 0, false, [98, 32, 99], false⟩
def dL : List Pt := [⟨0, 1, []⟩, ⟨0, 0, [iB]⟩]
theorem live_make : make [iA] [iA, iB] = dL := by
  simp [make, mk, dL, stay, put]
theorem live_apl : aer 1 dL = 0 ∧ apl [iA] dL = [iA, iB] ∧ siz dL = 1 := by
  refine ⟨by decide, ?_, by decide⟩
  rfl
theorem dec0 : P.decimal 0 = [48] := by
  rw [P.decimal, if_neg (by omega)]
  exact Lib.decDigits_one (by omega)
theorem dec1 : P.decimal 1 = [49] := by
  rw [P.decimal, if_neg (by omega)]
  exact Lib.decDigits_one (by omega)
theorem dec2 : P.decimal 2 = [50] := by
  rw [P.decimal, if_neg (by omega)]
  exact Lib.decDigits_one (by omega)
theorem prn0 : L.print 0 0 = [48] := by
  unfold L.print
  rw [if_pos (by simp [L.catsTo]), dec0]
theorem live_prt : cke dL = 0 ∧ prt dL = [99, 111, 112, 121, 32, 48, 32, 49, 10, 105, 116, 101, 109, 32, 50, 32, 48, 32, 108, 32, 98, 32, 99, 10] := by
  have h : cke dL = 0 := by decide
  refine ⟨h, ?_⟩
  have e : dlk dL dL.length = [(cpln 0 1, false), (itln iB, false)] := by rfl
  have e2 : P.decimal iB.id = [50] := dec2
  have e3 : L.print iB.lv iB.ct = [48] := prn0
  have e4 : knd iB = [108] := rfl
  unfold prt
  rw [if_pos h, e, cpln_is, itln_is, e2, e3, e4, dec0, dec1]
  rfl
theorem ix_cells {w : World} {g : Nat} {cs : Array Value} {l : List It} (h : w.heap[g]? = some (.cells cs 41 (0, 0))) (hc : cs.toList = itCells l) : Ix w (some ⟨g, 0, none⟩) l.length l := by
  have hq : ∀ j, w.cell? ⟨g, j, none⟩ = (itCells l)[j]? := fun j => by rw [L.blk_cell h, ← hc]; simp
  refine ⟨fun _ => ⟨g, 0, rfl, L.blk_lt h, fun j hj => ?_⟩, Nat.le_refl _, fun e => (by cases e)⟩
  obtain ⟨a0, a1, a2, a3, a4, a5⟩ := itCells_at l j hj
  exact ⟨by rw [Nat.zero_add, hq, a0], by rw [Nat.zero_add, hq, a1], by rw [Nat.zero_add, hq, a2], by rw [Nat.zero_add, hq, a3], by rw [Nat.zero_add, hq, a4], by rw [Nat.zero_add, hq, a5]⟩
theorem wi_a : Wi iA := ⟨by decide, by decide, by decide, by unfold maxLen; decide⟩
theorem wi_b : Wi iB := ⟨by decide, by decide, by decide, by unfold maxLen; decide⟩
def lvT : List UInt8 := [99, 111, 112, 121, 32, 48, 32, 49, 10, 105, 116, 101, 109, 32, 50, 32, 48, 32, 108, 32, 98, 32, 99, 10]
theorem lv_bulk : P.bulk (dlk dL dL.length) ≤ 1099511627776 := by
  have e : dlk dL dL.length = [(cpln 0 1, false), (itln iB, false)] := by rfl
  rw [e]
  have h1 := cpln_len 0 1
  have h2 := itln_len iB (by decide)
  simp only [P.bulk]
  omega
theorem lv_print {A : Option Addr} (c : Nat) {w : World} (h : PtsIn w A dL) (hT : Tab w) : Calls Tryd.prog 19 #[.slice A 2 c] w (PrEnd w lvT 0) := by
  have := print_any A c dL w h (by decide) (by decide) (Nat.le_trans lv_bulk (by decide)) hT
  rw [live_prt.1, live_prt.2] at this
  exact this
theorem lv_make {A B : Option Addr} {w : World} (hA : Ix w A 1 [iA]) (hB : Ix w B 2 [iA, iB]) : Calls Tryd.prog 11 #[.slice A 1 1, .slice B 2 2] w (PtEnd w dL) := by
  have := make_any (ca := 1) (cb := 2) w hA hB (by decide) (by decide) (by intro x hx; simp at hx; subst hx; exact wi_a) (by intro x hx; simp at hx; rcases hx with rfl | rfl; exact wi_a; exact wi_b) (by decide) (by decide)
  rw [live_make] at this
  exact this
theorem lv_apply {A D : Option Addr} (c : Nat) {w : World} (hA : Ix w A 1 [iA]) (hD : PtsIn w D dL) : Calls Tryd.prog 16 #[.slice A 1 1, .slice D 2 c] w (ApEnd w [iA, iB] 0) := by
  have := apply_any A D 1 c [iA] dL w hA hD (by decide) (by decide) (by decide) (by decide)
  rw [show ([iA] : List It).length = 1 from rfl, live_apl.1, live_apl.2.1] at this
  exact this
theorem lv_size {D : Option Addr} (c : Nat) {w : World} (hD : PtsIn w D dL) : Calls Tryd.prog 15 #[.slice D 2 c] w fun e w' => e = .returned (.int .i64 1) ∧ Below w.heap.size w w' := by
  have := size_any D c dL w hD (by decide) (by rw [live_apl.2.2]; decide)
  rw [live_apl.2.2] at this
  exact this
set_option maxRecDepth 100000 in
set_option maxHeartbeats 4000000 in
theorem live15 (w : World) (ht : Tab w) :
    Calls Tryd.prog 12 #[] w fun e w' => e = .returned (.bool true) ∧ Below w.heap.size w w' := by
  obtain ⟨W1, hW1⟩ : ∃ W : World, W = (w.alloc (.cells #[.int .i64 1, .int .i64 0, .int .u64 0, .bool false, .string ⟨#[97]⟩, .bool false] 41)).alloc (.cells #[.int .i64 2, .int .i64 0, .int .u64 0, .bool false, .string ⟨#[98, 32, 99]⟩, .bool false] 41) := ⟨_, rfl⟩
  have hx0 : W1.heap[w.heap.size]? = some (.cells #[.int .i64 1, .int .i64 0, .int .u64 0, .bool false, .string ⟨#[97]⟩, .bool false] 41 (0, 0)) := by rw [hW1]; exact (L.two_blocks w _ _).1
  have hx1 : W1.heap[w.heap.size + 1]? = some (.cells #[.int .i64 2, .int .i64 0, .int .u64 0, .bool false, .string ⟨#[98, 32, 99]⟩, .bool false] 41 (0, 0)) := by rw [hW1]; exact (L.two_blocks w _ _).2
  have HB1 := Lib.hid (show Below w.heap.size w W1 by rw [hW1]; exact (alloc1 _ _).alloc (by simp) _)
  have HT := Lib.hid ht
  obtain ⟨W2, hW2⟩ : ∃ W : World, W = (W1.alloc (.cells #[.int .i64 1, .int .i64 0, .int .u64 0, .bool false, .string ⟨#[97]⟩, .bool false] 41)).alloc (.cells #[.int .i64 1, .int .i64 0, .int .u64 0, .bool false, .string ⟨#[97]⟩, .bool false, .int .i64 2, .int .i64 0, .int .u64 0, .bool false, .string ⟨#[98, 32, 99]⟩, .bool false] 41) := ⟨_, rfl⟩
  have hx2 : W2.heap[W1.heap.size]? = some (.cells #[.int .i64 1, .int .i64 0, .int .u64 0, .bool false, .string ⟨#[97]⟩, .bool false] 41 (0, 0)) := by rw [hW2]; exact (L.two_blocks W1 _ _).1
  have hx3 : W2.heap[W1.heap.size + 1]? = some (.cells #[.int .i64 1, .int .i64 0, .int .u64 0, .bool false, .string ⟨#[97]⟩, .bool false, .int .i64 2, .int .i64 0, .int .u64 0, .bool false, .string ⟨#[98, 32, 99]⟩, .bool false] 41 (0, 0)) := by rw [hW2]; exact (L.two_blocks W1 _ _).2
  have hb2 : Below W1.heap.size W1 W2 := by rw [hW2]; exact (alloc1 _ _).alloc (by simp) _
  have HB2 := Lib.hid (HB1.out.trans (hb2.mono HB1.out.size))
  have HMK := Lib.hid (lv_make (ix_cells (l := [iA]) hx2 rfl) (ix_cells (l := [iA, iB]) hx3 rfl))
  obtain ⟨b0, hb0⟩ : ∃ q, q = w.heap.size := ⟨_, rfl⟩
  rw [← hb0] at hx0 hx1
  have HX0 := Lib.hid ((hb2.block _ (L.blk_lt hx0)).trans hx0)
  have HX1 := Lib.hid ((hb2.block _ (L.blk_lt hx1)).trans hx1)
  have a0 := L.blk_cell hx0 0
  have a1 := L.blk_cell hx0 1
  have a2 := L.blk_cell hx0 2
  have a3 := L.blk_cell hx0 3
  have a4 := L.blk_cell hx0 4
  have a5 := L.blk_cell hx0 5
  have d0 := L.blk_cell hx1 0
  have d1 := L.blk_cell hx1 1
  have d2 := L.blk_cell hx1 2
  have d3 := L.blk_cell hx1 3
  have d4 := L.blk_cell hx1 4
  have d5 := L.blk_cell hx1 5
  simp only [List.getElem?_toArray, List.getElem?_cons_zero, List.getElem?_cons_succ] at a0 a1 a2 a3 a4 a5 d0 d1 d2 d3 d4 d5
  have m0 := ((alloc1 W1 (.cells #[.int .i64 1, .int .i64 0, .int .u64 0, .bool false, .string ⟨#[97]⟩, .bool false] 41)).block _ (L.blk_lt hx0)).trans hx0
  have m1 := ((alloc1 W1 (.cells #[.int .i64 1, .int .i64 0, .int .u64 0, .bool false, .string ⟨#[97]⟩, .bool false] 41)).block _ (L.blk_lt hx1)).trans hx1
  have p0 := L.blk_cell m0 0
  have p1 := L.blk_cell m0 1
  have p2 := L.blk_cell m0 2
  have p3 := L.blk_cell m0 3
  have p4 := L.blk_cell m0 4
  have p5 := L.blk_cell m0 5
  have q0 := L.blk_cell m1 0
  have q1 := L.blk_cell m1 1
  have q2 := L.blk_cell m1 2
  have q3 := L.blk_cell m1 3
  have q4 := L.blk_cell m1 4
  have q5 := L.blk_cell m1 5
  simp only [List.getElem?_toArray, List.getElem?_cons_zero, List.getElem?_cons_succ] at p0 p1 p2 p3 p4 p5 q0 q1 q2 q3 q4 q5
  clear hx0 hx1 hx2 hx3 hb2 ht HB1 m0 m1
  go_enter Tryd.func12, Tryd.ntmps12
  go_upto_region 2 with fail
  rw [← hW1, ← hb0]
  clear hW1 hb0
  go_wp2_with fail
  rw [← hW2]
  clear hW2 a0 a1 a2 a3 a4 a5 d0 d1 d2 d3 d4 d5 p0 p1 p2 p3 p4 p5 q0 q1 q2 q3 q4 q5
  with_reducible refine HMK.out.mono ?_
  rintro e w3 ⟨D, dc, rfl, hD, hb3⟩
  have HB3 := Lib.hid (HB2.out.trans (hb3.mono HB2.out.size))
  have HX0 := Lib.hid ((hb3.block _ (L.blk_lt HX0.out)).trans HX0.out)
  have HX1 := Lib.hid ((hb3.block _ (L.blk_lt HX1.out)).trans HX1.out)
  have HD := Lib.hid hD
  have HPR := Lib.hid (lv_print dc hD (HT.out.later HB3.out))
  clear HMK hD hb3 HB2
  rw [show dL.length = 2 from rfl]
  go_wp2_with fail
  with_reducible refine HPR.out.mono ?_
  rintro e w4 ⟨B, bc, rfl, hown4, hb4⟩
  have HB4 := Lib.hid (HB3.out.trans (hb4.mono HB3.out.size))
  obtain ⟨B', bc', hv, -, hBI⟩ := bytes_of_own hown4
  injection hv with hv1 _ hv2
  subst hv1 hv2
  have HBI := Lib.hid hBI
  have hx0 := (hb4.block _ (L.blk_lt HX0.out)).trans HX0.out
  have HX0 := Lib.hid hx0
  have HX1 := Lib.hid ((hb4.block _ (L.blk_lt HX1.out)).trans HX1.out)
  have HD := Lib.hid (HD.out.below hb4)
  clear hown4 hb4 hBI HPR HB3
  obtain ⟨W5, hW5⟩ : ∃ W : World, W = w4.alloc (.cells #[.int .i64 1, .int .i64 0, .int .u64 0, .bool false, .string ⟨#[97]⟩, .bool false] 41) := ⟨_, rfl⟩
  have hb5 : Below w4.heap.size w4 W5 := by rw [hW5]; exact alloc1 _ _
  have hx5 : W5.heap[w4.heap.size]? = some (.cells #[.int .i64 1, .int .i64 0, .int .u64 0, .bool false, .string ⟨#[97]⟩, .bool false] 41 (0, 0)) := by rw [hW5]; exact heap_alloc_new _ _
  have HB5 := Lib.hid (HB4.out.trans (hb5.mono HB4.out.size))
  have HD := Lib.hid (HD.out.below hb5)
  have HBI := Lib.hid (HBI.out.below hb5)
  have HX1 := Lib.hid ((hb5.block _ (L.blk_lt HX1.out)).trans HX1.out)
  have HAP := Lib.hid (lv_apply dc (ix_cells (l := [iA]) hx5 rfl) HD.out)
  have a0 := L.blk_cell hx0 0
  have a1 := L.blk_cell hx0 1
  have a2 := L.blk_cell hx0 2
  have a3 := L.blk_cell hx0 3
  have a4 := L.blk_cell hx0 4
  have a5 := L.blk_cell hx0 5
  simp only [List.getElem?_toArray, List.getElem?_cons_zero, List.getElem?_cons_succ] at a0 a1 a2 a3 a4 a5
  clear hx0 hx5 hb5 HX0 HB4
  go_wp2_with fail
  rw [← hW5]
  clear hW5 a0 a1 a2 a3 a4 a5
  with_reducible refine HAP.out.mono ?_
  rintro e w6 ⟨O, oc, rfl, hown6, hb6⟩
  have HB6 := Lib.hid (HB5.out.trans (hb6.mono HB5.out.size))
  have HD := Lib.hid (HD.out.below hb6)
  have HBI := Lib.hid (HBI.out.below hb6)
  have hx1 := (hb6.block _ (L.blk_lt HX1.out)).trans HX1.out
  obtain ⟨bk, off, hOe, hbk, hI⟩ := (own_ix hown6).i (by decide)
  subst hOe
  obtain ⟨o0, o1, o2, o3, o4, o5⟩ := hI 1 (by decide)
  have d0 := L.blk_cell hx1 0
  have d1 := L.blk_cell hx1 1
  have d2 := L.blk_cell hx1 2
  have d3 := L.blk_cell hx1 3
  have d4 := L.blk_cell hx1 4
  have d5 := L.blk_cell hx1 5
  simp only [List.getElem?_toArray, List.getElem?_cons_zero, List.getElem?_cons_succ, Nat.one_mul, Nat.add_assoc] at d0 d1 d2 d3 d4 d5
  rw [show (1 : Nat) * 6 = 6 from rfl] at o0 o1 o2 o3 o4 o5
  replace o0 : w6.cell? ⟨bk, off + 6, none⟩ = some (.int .i64 2) := o0
  replace o1 : w6.cell? ⟨bk, off + 6 + 1, none⟩ = some (.int .i64 0) := o1
  replace o2 : w6.cell? ⟨bk, off + 6 + 2, none⟩ = some (.int .u64 0) := o2
  replace o3 : w6.cell? ⟨bk, off + 6 + 3, none⟩ = some (.bool false) := o3
  replace o4 : w6.cell? ⟨bk, off + 6 + 4, none⟩ = some (.string ⟨#[98, 32, 99]⟩) := o4
  replace o5 : w6.cell? ⟨bk, off + 6 + 5, none⟩ = some (.bool false) := o5
  have HSZ := Lib.hid (fun (W : World) (h : Below w6.heap.size w6 W) => (lv_size dc (HD.out.below h)).mono fun e w' h' => show e = .returned (.int .i64 1) ∧ Below w6.heap.size w6 w' from ⟨h'.1, h.trans (h'.2.mono h.size)⟩)
  obtain ⟨pk, po, hDe, hpk, hJ⟩ := HD.out (by decide)
  subst hDe
  have j1 := (hJ 0 (by decide)).2.1
  rw [show (0 : Nat) * 3 = 0 from rfl, Nat.add_zero] at j1
  replace j1 : w6.cell? ⟨pk, po + 1, none⟩ = some (.int .i64 1) := j1
  have hb1 : b0 + 1 < w6.heap.size := L.blk_lt hx1
  have HSX : Hid (∀ W, Below w6.heap.size w6 W → (W.cell? ⟨pk, po + 1, none⟩ = some (.int .i64 1) ∧ W.cell? ⟨bk, off + 6, none⟩ = some (.int .i64 2) ∧ W.cell? ⟨bk, off + 6 + 1, none⟩ = some (.int .i64 0) ∧ W.cell? ⟨bk, off + 6 + 2, none⟩ = some (.int .u64 0) ∧ W.cell? ⟨bk, off + 6 + 3, none⟩ = some (.bool false) ∧ W.cell? ⟨bk, off + 6 + 4, none⟩ = some (.string ⟨#[98, 32, 99]⟩) ∧ W.cell? ⟨bk, off + 6 + 5, none⟩ = some (.bool false) ∧ W.cell? ⟨b0 + 1, 0, none⟩ = some (.int .i64 2) ∧ W.cell? ⟨b0 + 1, 1, none⟩ = some (.int .i64 0) ∧ W.cell? ⟨b0 + 1, 2, none⟩ = some (.int .u64 0) ∧ W.cell? ⟨b0 + 1, 3, none⟩ = some (.bool false) ∧ W.cell? ⟨b0 + 1, 4, none⟩ = some (.string ⟨#[98, 32, 99]⟩) ∧ W.cell? ⟨b0 + 1, 5, none⟩ = some (.bool false) ∧ (convert 43 9 (.slice B 24 bc)).run Tryd.prog W = .ok (.string ⟨#[99, 111, 112, 121, 32, 48, 32, 49, 10, 105, 116, 101, 109, 32, 50, 32, 48, 32, 108, 32, 98, 32, 99, 10]⟩) W ∧ Below w6.heap.size w6 W)) := Lib.hid (fun W h => ⟨(h.cell (p := ⟨pk, _, none⟩) hpk).trans j1, (h.cell (p := ⟨bk, _, none⟩) hbk).trans o0, (h.cell (p := ⟨bk, _, none⟩) hbk).trans o1, (h.cell (p := ⟨bk, _, none⟩) hbk).trans o2, (h.cell (p := ⟨bk, _, none⟩) hbk).trans o3, (h.cell (p := ⟨bk, _, none⟩) hbk).trans o4, (h.cell (p := ⟨bk, _, none⟩) hbk).trans o5, (h.cell (p := ⟨b0 + 1, _, none⟩) hb1).trans d0, (h.cell (p := ⟨b0 + 1, _, none⟩) hb1).trans d1, (h.cell (p := ⟨b0 + 1, _, none⟩) hb1).trans d2, (h.cell (p := ⟨b0 + 1, _, none⟩) hb1).trans d3, (h.cell (p := ⟨b0 + 1, _, none⟩) hb1).trans d4, (h.cell (p := ⟨b0 + 1, _, none⟩) hb1).trans d5, (by have := conv_in bc (HBI.out.below h); exact this), h⟩)
  have heq : ∀ W, (binOp .eql 41 (.agg #[.int .i64 2, .int .i64 0, .int .u64 0, .bool false, .string ⟨#[98, 32, 99]⟩, .bool false]) (.agg #[.int .i64 2, .int .i64 0, .int .u64 0, .bool false, .string ⟨#[98, 32, 99]⟩, .bool false])).run Tryd.prog W = .ok (.bool true) W := fun W => by
    have := it_eql W iB iB
    rw [decide_eq_true rfl] at this
    exact this
  rw [show lvT.length = 24 from rfl]
  rw [show ([iA, iB] : List It).length = 2 from rfl]
  clear hI hJ hown6 hb6 hx1 HX1 HBI HAP HB5 HD j1 o0 o1 o2 o3 o4 o5 d0 d1 d2 d3 d4 d5
  go_upto_region 5 with fail
  go_region_held3 (fun W => W.cell? ⟨pk, po + 1, none⟩ = some (.int .i64 1) ∧ W.cell? ⟨bk, off + 6, none⟩ = some (.int .i64 2) ∧ W.cell? ⟨bk, off + 6 + 1, none⟩ = some (.int .i64 0) ∧ W.cell? ⟨bk, off + 6 + 2, none⟩ = some (.int .u64 0) ∧ W.cell? ⟨bk, off + 6 + 3, none⟩ = some (.bool false) ∧ W.cell? ⟨bk, off + 6 + 4, none⟩ = some (.string ⟨#[98, 32, 99]⟩) ∧ W.cell? ⟨bk, off + 6 + 5, none⟩ = some (.bool false) ∧ W.cell? ⟨b0 + 1, 0, none⟩ = some (.int .i64 2) ∧ W.cell? ⟨b0 + 1, 1, none⟩ = some (.int .i64 0) ∧ W.cell? ⟨b0 + 1, 2, none⟩ = some (.int .u64 0) ∧ W.cell? ⟨b0 + 1, 3, none⟩ = some (.bool false) ∧ W.cell? ⟨b0 + 1, 4, none⟩ = some (.string ⟨#[98, 32, 99]⟩) ∧ W.cell? ⟨b0 + 1, 5, none⟩ = some (.bool false) ∧ (convert 43 9 (.slice B 24 bc)).run Tryd.prog W = .ok (.string ⟨#[99, 111, 112, 121, 32, 48, 32, 49, 10, 105, 116, 101, 109, 32, 50, 32, 48, 32, 108, 32, 98, 32, 99, 10]⟩) W ∧ Below w6.heap.size w6 W)
    (first | exact HSX.out _ ((Below.refl _ _).drew) | exact HSX.out _ (by assumption))
    (first | (go_at_call 15; with_reducible refine (HSZ.out _ (And.right (And.right (And.right (And.right (And.right (And.right (And.right (And.right (And.right (And.right (And.right (And.right (And.right (And.right (by assumption)))))))))))))))).mono ?_; rintro r wq ⟨rfl, hbq⟩))
  all_goals
    go_wp2_with fail
    go_ret
    exact ⟨rfl, HB6.out.trans (Below.mono (by assumption) HB6.out.size)⟩
end Go.Proofs.YtlggoplffhdkhaaDoor.Dl

namespace Go.Proofs.YtlggoplffhdkhaaDoor.Dl
set_option linter.unusedVariables false
set_option linter.unusedSimpArgs false
open Go.RowKit Go.Maps
open T
open V (drawn_below grown_of)
open I (It ItemsIn ItemsAt itCells itCells_snoc itCells_at alloc1 own_at own_below items_of_own items_own infoItem ItemsIn.below)

/-- Make, then Size, of two lists of at most forty items. -/
theorem msz_any {A B : Option Addr} {ca cb : Nat} {a b : List It} {w W : World} (hA : Ix w A ca a) (hB : Ix w B cb b) (hb : Below w.heap.size w W) (ha : a.length ≤ 40) (hl : b.length ≤ 40) (hwa : ∀ x ∈ a, Wi x) (hwb : ∀ x ∈ b, Wi x) (hca : ca ≤ 9223372036854775807) (hcb : cb ≤ 9223372036854775807) :
    Calls Tryd.prog 11 #[.slice A a.length ca, .slice B b.length cb] W fun e W2 => ∃ D n dc, e = .returned (.slice D n dc) ∧ Below w.heap.size w W2 ∧ ∀ W3, Below W2.heap.size W2 W3 → Calls Tryd.prog 15 #[.slice D n dc] W3 fun e W4 => e = .returned (.int .i64 (siz (make a b) : Int)) ∧ Below w.heap.size w W4 := by
  refine (make_any W (hA.below hb) (hB.below hb) (by omega) (by omega) hwa hwb hca hcb).mono ?_
  rintro e W2 ⟨D, dc, rfl, hD, hb2⟩
  have hb3 := hb.trans (hb2.mono hb.size)
  refine ⟨D, _, dc, rfl, hb3, fun W3 h => (size_any D dc (make a b) W3 (hD.below h) (Nat.le_trans (make_len a b) (by omega)) (Nat.le_trans (make_siz a b) (by omega))).mono fun e W4 h4 => ⟨h4.1, (hb3.trans (h.mono hb3.size)).trans (h4.2.mono (hb3.trans (h.mono hb3.size)).size)⟩⟩
theorem ix_none (w : World) : Ix w none 0 [] := ⟨fun h => absurd h (by simp), Nat.le_refl _, fun _ => rfl⟩
set_option maxRecDepth 100000 in
set_option maxHeartbeats 4000000 in
theorem sizes_any {A B : Option Addr} {ca cb : Nat} {a b : List It} (n : Nat) (w : World) (hA : Ix w A ca a) (hB : Ix w B cb b) (hwa : ∀ x ∈ a, Wi x) (hwb : ∀ x ∈ b, Wi x) (hca : ca ≤ maxLen) (hcb : cb ≤ maxLen) (hn : n < 256) (hT : Tab w) :
    Calls Tryd.prog 9 #[.slice A a.length ca, .slice B b.length cb, .int .u8 (n : Int)] w fun e w' => e = .returned (.bool true) ∧ Below w.heap.size w w' := by
  have hra := hA.r
  have hrb := hB.r
  have HFA := Lib.hid (few_any A a ca w (by omega) hra)
  have HFB := Lib.hid (few_any B b cb w (by omega) hrb)
  have hA4 := hA.take 40
  have hB4 := hB.take 40
  have hla : (a.take 40).length ≤ 40 := by rw [List.length_take]; omega
  have hlb : (b.take 40).length ≤ 40 := by rw [List.length_take]; omega
  have hwa4 : ∀ x ∈ a.take 40, Wi x := fun x hx => hwa x (List.mem_of_mem_take hx)
  have hwb4 : ∀ x ∈ b.take 40, Wi x := fun x hx => hwb x (List.mem_of_mem_take hx)
  unfold maxLen at hca hcb
  generalize a.take 40 = a4 at *
  generalize b.take 40 = b4 at *
  obtain ⟨k, hk⟩ : ∃ k, k = n % (a4.length + 1) := ⟨_, rfl⟩
  have hk1 : k ≤ a4.length := by have := Nat.mod_lt n (show 0 < a4.length + 1 by omega); rw [← hk] at this; omega
  have hAk := hA4.take k
  have hkl : (a4.take k).length = k := by rw [List.length_take]; omega
  have hwk : ∀ x ∈ a4.take k, Wi x := fun x hx => hwa4 x (List.mem_of_mem_take hx)
  have H1 := Lib.hid (fun (W : World) (h : Below w.heap.size w W) => msz_any hA4 hB4 h hla hlb hwa4 hwb4 (by omega) (by omega))
  have H2 := Lib.hid (fun (W : World) (h : Below w.heap.size w W) => msz_any hA4 hA4 h hla hla hwa4 hwa4 (by omega) (by omega))
  have H3 := Lib.hid (fun (W : World) (h : Below w.heap.size w W) => msz_any hA4 hAk h hla (by omega) hwa4 hwk (by omega) (by omega))
  have H4 := Lib.hid (fun (W : World) (h : Below w.heap.size w W) => msz_any (ix_none w) hB4 h (by decide) hlb (by simp) hwb4 (by omega) (by omega))
  rw [show siz (make a4 a4) = 0 by have := make_self a4 []; rwa [List.append_nil] at this] at H2
  rw [show siz (make a4 (a4.take k)) = 0 by have := make_self (a4.take k) (a4.drop k); rwa [List.take_append_drop] at this, hkl] at H3
  rw [make_none] at H4
  simp only [List.length_nil] at H4
  have hs1 := make_siz a4 b4
  obtain ⟨s1, hs⟩ : ∃ s1, s1 = siz (make a4 b4) := ⟨_, rfl⟩
  rw [← hs] at H1 hs1
  have HLV := Lib.hid (live15 w hT)
  obtain ⟨la, hla2⟩ : ∃ la, la = a4.length := ⟨_, rfl⟩
  obtain ⟨lb, hlb2⟩ : ∃ lb, lb = b4.length := ⟨_, rfl⟩
  obtain ⟨l0, hl0⟩ : ∃ l0, l0 = a.length := ⟨_, rfl⟩
  obtain ⟨l1, hl1⟩ : ∃ l1, l1 = b.length := ⟨_, rfl⟩
  rw [← hla2] at HFA H1 H2 H3 hla hk hk1
  rw [← hlb2] at HFB H1 H4 hlb hs1
  rw [← hl0] at HFA ⊢
  rw [← hl1] at HFB ⊢
  have hac : la ≤ ca := by rw [hla2]; exact hA4.r
  have hwr : IntKind.i64.wrap ((la : Int) + 1) = ((la + 1 : Nat) : Int) := by rw [IntKind.wrap_i64]; omega
  have hrm : (n : Int) % ((la : Int) + 1) = (k : Int) := by rw [hk]; exact (Int.natCast_emod n (la + 1)).symm
  have hk0 : (0 : Int) ≤ (k : Int) := by omega
  have hkc : (k : Int) ≤ (ca : Int) := by omega
  have hsi : (s1 : Int) ≤ (lb : Int) := by omega
  have hwk2 : IntKind.i64.wrap (k : Int) = (k : Int) := by rw [IntKind.wrap_i64]; omega
  have hwn : IntKind.i64.wrap (n : Int) = (n : Int) := by rw [IntKind.wrap_i64]; omega
  clear hA hB hwa hwb hA4 hB4 hla2 hlb2 hl0 hl1 hAk hkl hwk hs hwa4 hwb4 hra hrb hk hs1 hT
  go_enter Tryd.func9, Tryd.ntmps9
  go_wp2_with fail
  with_reducible refine HFA.out.mono ?_
  rintro e w1 ⟨rfl, rfl⟩
  go_wp2_with fail
  with_reducible refine HFB.out.mono ?_
  rintro e w1 ⟨rfl, rfl⟩
  go_wp2_with fail
  with_reducible refine HLV.out.mono ?_
  rintro e w2 ⟨rfl, hb2⟩
  have HB2 := Lib.hid hb2
  clear hb2 HLV HFA HFB
  go_wp2_with fail
  with_reducible refine (H1.out _ HB2.out).mono ?_
  rintro e w3 ⟨D1, n1, c1, rfl, hb3, hs1⟩
  have HS1 := Lib.hid (hs1 w3 (Below.refl _ _))
  clear hb3 hs1 H1 HB2
  go_wp2_with fail
  with_reducible refine HS1.out.mono ?_
  rintro e w4 ⟨rfl, hb4⟩
  have HB4 := Lib.hid hb4
  clear HS1 hb4
  go_wp2_with fail
  with_reducible refine (H2.out _ HB4.out).mono ?_
  rintro e w5 ⟨D2, n2, c2, rfl, hb5, hs2⟩
  have HS2 := Lib.hid (hs2 w5 (Below.refl _ _))
  clear hb5 hs2 H2 HB4
  go_wp2_with fail
  with_reducible refine HS2.out.mono ?_
  rintro e w6 ⟨rfl, hb6⟩
  have HB6 := Lib.hid hb6
  clear HS2 hb6
  go_wp2_with fail
  with_reducible refine (H3.out _ HB6.out).mono ?_
  rintro e w7 ⟨D3, n3, c3, rfl, hb7, hs3⟩
  have HS3 := Lib.hid (hs3 w7 (Below.refl _ _))
  clear hb7 hs3 H3 HB6
  go_wp2_with fail
  with_reducible refine HS3.out.mono ?_
  rintro e w8 ⟨rfl, hb8⟩
  have HB8 := Lib.hid hb8
  clear HS3 hb8
  go_wp2_with fail
  with_reducible refine (H4.out _ HB8.out).mono ?_
  rintro e w9 ⟨D4, n4, c4, rfl, hb9, hs4⟩
  have HS4 := Lib.hid (hs4 w9 (Below.refl _ _))
  clear hb9 hs4 H4 HB8
  go_wp2_with fail
  with_reducible refine HS4.out.mono ?_
  rintro e w10 ⟨rfl, hb10⟩
  have HB10 := Lib.hid hb10
  clear HS4 hb10
  go_wp2_with fail
  go_ret
  exact ⟨rfl, HB10.out⟩
end Go.Proofs.YtlggoplffhdkhaaDoor.Dl
