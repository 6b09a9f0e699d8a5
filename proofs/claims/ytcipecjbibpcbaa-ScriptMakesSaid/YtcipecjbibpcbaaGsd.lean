/-
  What Make comes to.
-/
import Derived.Test.YtcipecjbibpcbaaGsc
import Derived.Test.YtcipecjbibpcbaaGmf
import Derived.Test.YtcipecjbibpcbaaGmi
import Derived.Test.YtcipecjbibpcbaaGmt
import Derived.Deep.RegionWith
namespace Go.Proofs.Ytcipecjbibpcbaa.S
open Go.RowKit
open T
open V (grown_of IntsIn numCells numCells_snoc ints_own drawn_below)
open I (alloc1 own_at own_below)
open N (Ln)

def lnAt (l : List Ln) (i : Nat) : Ln := l.getD i ([], false)
/-- The edits of the steps, of a line each. -/
def mk (a b : List Ln) : Nat → Nat → List Int → List Ed
  | _, _, [] => []
  | i, j, t :: r => (t, [if t = 3 then lnAt b j else lnAt a i]) :: mk a b (if t = 3 then i else i + 1) (if t = 2 then j else j + 1) r
def mkE (a b : List Ln) : List Ed := mk a b 0 0 (M.way (N.row [] a) (N.row (N.known [] a) b))
theorem mk_len (a b : List Ln) : ∀ (s : List Int) (i j : Nat), (mk a b i j s).length = s.length ∧ tl (mk a b i j s) = s.length
  | [], _, _ => ⟨rfl, rfl⟩
  | t :: r, i, j => by
    obtain ⟨h1, h2⟩ := mk_len a b r (if t = 3 then i else i + 1) (if t = 2 then j else j + 1)
    constructor
    · rw [mk, List.length_cons, h1, List.length_cons]
    · rw [mk]
      simp only [tl, List.map_cons, List.sum_cons, List.length_cons, List.length_nil] at h2 ⊢
      rw [h2]; omega
theorem mk_do (a b : List Ln) : ∀ (s : List Int) (i j : Nat), (∀ t ∈ s, t = 1 ∨ t = 2 ∨ t = 3) → ∀ e ∈ mk a b i j s, okDo e.1 = true
  | [], _, _, _, e, he => by simp [mk] at he
  | t :: r, i, j, h, e, he => by
    rw [mk] at he
    rcases List.mem_cons.1 he with rfl | he
    · rcases h t (by simp) with rfl | rfl | rfl <;> rfl
    · exact mk_do a b r _ _ (fun u hu => h u (by simp [hu])) e he
theorem mk_ck {a b : List Ln} {s : List Int} {i j : Nat} (hs : s.length ≤ 800) (h : ∀ t ∈ s, t = 1 ∨ t = 2 ∨ t = 3) : ck (mk a b i j s) = 0 := by
  obtain ⟨h1, h2⟩ := mk_len a b s i j
  unfold ck
  rw [if_neg (by omega), if_pos]
  rw [List.all_eq_true]
  exact mk_do a b s i j h
theorem RawsOk.snoc {b : Nat} {w : World} {rs : List Raw} {es : List Ed} (h : RawsOk b w rs es) {r : Raw} {e : Ed} (hr : RawOk b w r e) : RawsOk b w (rs ++ [r]) (es ++ [e]) := by
  refine ⟨by simp [h.1], fun j h1 h2 => ?_⟩
  have hl := h.1
  by_cases hj : j < rs.length
  · rw [List.getElem_append_left hj, List.getElem_append_left (by omega)]
    exact h.2 j hj (by omega)
  · have hjr : j = rs.length := by rw [List.length_append] at h1; simp at h1; omega
    have e1 : (rs ++ [r])[j] = r := by subst hjr; simp
    have e2 : (es ++ [e])[j] = e := by
      have : j = es.length := by omega
      subst this; simp
    rw [e1, e2]
    exact hr
theorem RawsOk.nil (b : Nat) (w : World) : RawsOk b w [] [] := ⟨rfl, fun j h => by simp at h⟩
/-- A line of a row, cut out. -/
theorem raw_cut {w : World} {A : Option Addr} {l : List Ln} {c i : Nat} (d : Int) (h : LinesIn w A l) (hi : i < l.length) (hc : l.length ≤ c) : ∃ bk off, A = some ⟨bk, off, none⟩ ∧ RawOk 0 w ⟨d, some ⟨bk, off + i * 2, none⟩, 1, c - i⟩ (d, [lnAt l i]) := by
  obtain ⟨bk, off, hA, hbk, hI⟩ := h (by omega)
  have he : lnAt l i = l[i] := by unfold lnAt; rw [List.getD_eq_getElem?_getD, List.getElem?_eq_getElem hi]; rfl
  refine ⟨bk, off, hA, ⟨rfl, rfl, fun _ => ⟨bk, off + i * 2, rfl, hbk, fun j hj => ?_⟩, by simp; omega, fun e => by simp at e, fun p _ => Nat.zero_le _⟩⟩
  simp only [List.length_cons, List.length_nil, Nat.zero_add] at hj
  obtain rfl : j = 0 := by omega
  simp only [List.getElem_cons_zero, Nat.zero_mul, Nat.add_zero, he]
  exact hI i hi

theorem steps_cells {w : World} {base : Nat} {A : Option Addr} {cap : Nat} {s : List Int} (h : w.ownsRow base 40 1 (.slice A s.length cap) s.length (numCells s)) (hp : 0 < s.length) :
    ∃ g, A = some ⟨g, 0, none⟩ ∧ base ≤ g ∧ g < w.heap.size ∧ ∀ j (hj : j < s.length), w.cell? ⟨g, j, none⟩ = some (.int .i64 s[j]) := by
  obtain ⟨g, hA, hg, hlt, hc⟩ := own_at h hp
  exact ⟨g, hA, hg, hlt, fun j hj => hc j _ (by simp [numCells, List.getElem?_eq_getElem hj])⟩


set_option maxRecDepth 100000 in
set_option maxHeartbeats 8000000 in
theorem make_any (A B : Option Addr) (a b : List Ln) (c c' : Nat) (w : World) (hA : LinesIn w A a) (hB : LinesIn w B b) (ha : a.length ≤ 60) (hb : b.length ≤ 60) (hca : a.length ≤ c) (hcb : b.length ≤ c') (hta : ∀ y ∈ a, y.1.length ≤ maxLen) (htb : ∀ y ∈ b, y.1.length ≤ maxLen) :
    Calls Try.prog 12 #[.slice A a.length c, .slice B b.length c'] w (NrEnd w (norm (mkE a b)) 0) := by
  obtain ⟨i0, hi0, hz0, hz1, hz2⟩ := info_parts infoEdit
  have HA := Lib.hid hA
  have HB := Lib.hid hB
  obtain ⟨W0, hW0⟩ : ∃ W : World, W = w.alloc (.cells #[.slice A a.length c, .slice B b.length c'] 22) := ⟨_, rfl⟩
  have HB0 := Lib.hid (show Below w.heap.size w W0 by rw [hW0]; exact alloc1 _ _)
  have HNA : Hid (Calls Try.prog 29 #[.slice (some ⟨w.heap.size, 0, none⟩) 2 2] W0 (N.NmEnd W0 [N.row [] a, N.row (N.known [] a) b])) := Lib.hid (by
    have hX := heap_alloc_new w (.cells #[.slice A a.length c, .slice B b.length c'] 22)
    rw [← hW0] at hX
    refine N.numbers_any (some ⟨w.heap.size, 0, none⟩) 2 [a, b] W0 (fun _ => ⟨w.heap.size, 0, rfl, L.blk_lt hX, fun j hj => ?_⟩) (by simp) (fun l hl => by simp only [List.mem_cons, List.not_mem_nil, or_false] at hl; rcases hl with rfl | rfl <;> assumption) (fun l hl => by simp only [List.mem_cons, List.not_mem_nil, or_false] at hl; rcases hl with rfl | rfl <;> assumption)
    match j, hj with
    | 0, _ => exact ⟨A, c, L.blk_cell hX 0, hA.below HB0.out, hca⟩
    | 1, _ => exact ⟨B, c', L.blk_cell hX 1, hB.below HB0.out, hcb⟩)
  have HLX : Hid ((N.row [] a).length = a.length ∧ (N.row (N.known [] a) b).length = b.length) := Lib.hid ⟨N.row_length _ _, N.row_length _ _⟩
  have HMK : Hid (mkE a b = mk a b 0 0 (M.way (N.row [] a) (N.row (N.known [] a) b))) := Lib.hid rfl
  have HCA : Hid (∀ i d, i < a.length → ∃ bk off, A = some ⟨bk, off, none⟩ ∧ RawOk 0 w ⟨d, some ⟨bk, off + i * 2, none⟩, 1, c - i⟩ (d, [lnAt a i])) := Lib.hid (fun i d hi => raw_cut d hA hi hca)
  have HCB : Hid (∀ i d, i < b.length → ∃ bk off, B = some ⟨bk, off, none⟩ ∧ RawOk 0 w ⟨d, some ⟨bk, off + i * 2, none⟩, 1, c' - i⟩ (d, [lnAt b i])) := Lib.hid (fun i d hi => raw_cut d hB hi hcb)
  clear hA hB hta htb
  generalize N.row [] a = x at *
  generalize N.row (N.known [] a) b = y at *
  obtain ⟨la, hla⟩ : ∃ n, n = a.length := ⟨_, rfl⟩
  obtain ⟨lb, hlb⟩ : ∃ n, n = b.length := ⟨_, rfl⟩
  rw [← hla] at ha hca HLX HCA hW0 ⊢
  rw [← hlb] at hb hcb HLX HCB hW0 ⊢
  clear hla hlb
  have g1 : decide ((400 : Int) < (la : Int)) = false := decide_eq_false (by omega)
  have g2 : decide ((400 : Int) < (lb : Int)) = false := decide_eq_false (by omega)
  go_enter Try.func12, Try.ntmps12
  go_wp2_with fail
  rw [← hW0]
  clear hW0 g1 g2
  with_reducible refine (HNA.out).mono ?_
  rintro e w1 ⟨NA, ncap, vs, rfl, hno, hrw, hb1⟩
  have hvl : vs.length = 2 := hrw.1
  match vs, hvl with
  | [v0, v1], _ =>
  have HO0 := Lib.hid (hrw.2 0 (by simp) (by simp))
  have HO1 := Lib.hid (hrw.2 1 (by simp) (by simp))
  simp only [List.getElem_cons_zero, List.getElem_cons_succ] at HO0 HO1
  obtain ⟨XA, xc, rfl, -, -⟩ := own_form HO0.out
  obtain ⟨YA, yc, rfl, -, -⟩ := own_form HO1.out
  obtain ⟨g, rfl, -, hg2, hgc⟩ := own_at hno (by simp)
  have c0 := hgc 0 _ rfl
  have c1 := hgc 1 _ rfl
  have HX1 := Lib.hid (ints_own HO0.out)
  have HY1 := Lib.hid (ints_own HO1.out)
  have HBW := Lib.hid (HB0.out.trans (hb1.mono HB0.out.size))
  have HST := Lib.hid (M.steps_any XA YA x y xc yc w1.drew (HX1.out.below ((Below.refl _ w1).drew)) (HY1.out.below ((Below.refl _ w1).drew)) (by rw [HLX.out.1]; omega) (by rw [HLX.out.2]; omega))
  clear hno hrw hgc hvl HO0 HO1 hb1
  go_upto_region 6 with fail
  go_cut [31, 32, 33] (fun v n z w2 => ∃ SA sc, v = .slice SA (M.way x y).length sc ∧ n = .int .i64 ((M.way x y).length : Nat) ∧ z = .int .i64 0 ∧ Hid (w2.ownsRow w1.drew.heap.size 40 1 (.slice SA (M.way x y).length sc) (M.way x y).length (numCells (M.way x y))) ∧ Hid (Below w1.drew.heap.size w1.drew w2))
  case first =>
    go_region_with ((go_at_call 30; refine (HST.out).mono ?_; rintro e w2 ⟨SA, sc, rfl, hso, hb2⟩; have HSO := Lib.hid hso; have HSB := Lib.hid hb2; clear hso hb2))
    all_goals
      go_wp2_with fail
      go_meet
      case rel => exact ⟨SA, sc, rfl, rfl, rfl, HSO, HSB⟩
  case rest =>
  obtain ⟨SA, sc, rfl, rfl, rfl, HSO, HSB⟩ := hcut
  clear c0 c1
  generalize wc = w2 at *
  have hso := HSO.out
  have hb2 := HSB.out
  clear HSO HSB
  have HB2 : Hid (Below w.heap.size w w2) := Lib.hid (HBW.out.trans ((((Below.refl _ w1).drew).trans hb2).mono HBW.out.size))
  have HWL := Lib.hid (M.way_le _ x y (Nat.le_refl _))
  have HW0 : Hid (M.way x y = M.Wy x y 0 0) := Lib.hid rfl
  have HWM := Lib.hid (M.way_mem _ x y (Nat.le_refl _))
  obtain ⟨s, hs⟩ : ∃ s, s = M.way x y := ⟨_, rfl⟩
  rw [← hs] at HWL HW0 hso HMK HWM ⊢
  have hsl : s.length ≤ 120 := by have := HWL.out; have := HLX.out; omega
  have HSC := Lib.hid (steps_cells hso)
  obtain ⟨ls, hls⟩ : ∃ n, n = s.length := ⟨_, rfl⟩
  have HLS := Lib.hid hls
  rw [← hls] at hsl ⊢
  clear hso hb2 HST hs HWL hls
  go_wp2_with fail
  go_loopg [7, 8, 9, 33] ls (fun mm sv i j k wr => ∃ (i' j' k' : Nat) (rs : List Raw) (es : List Ed), i = .int .i64 (i' : Int) ∧ j = .int .i64 (j' : Int) ∧ k = .int .i64 (k' : Int) ∧ k' ≤ ls ∧ i' ≤ la ∧ j' ≤ lb ∧ ls - k' ≤ mm ∧ Hid (s.drop k' = M.Wy x y i' j') ∧ Hid (mkE a b = es ++ mk a b i' j' (s.drop k')) ∧ rs.length = k' ∧ Hid (wr.ownsRow w2.heap.size 42 2 sv rs.length (rawCells rs)) ∧ Hid (RawsOk 0 w rs es) ∧ Hid (Below w2.heap.size w2 wr))
  case atStart => exact ⟨0, 0, 0, [], [], rfl, rfl, rfl, Nat.zero_le _, Nat.zero_le _, Nat.zero_le _, by omega, Lib.hid HW0.out, Lib.hid HMK.out, rfl, Lib.hid (World.ownsRow_nil _ _ _ _), Lib.hid (RawsOk.nil _ _), Lib.hid (Below.refl _ _)⟩
  case round =>
    obtain ⟨i, j, k, rs, es, rfl, rfl, rfl, hk, hi, hj, hmm, HD, HME, hrl, HO, HRO, HBR⟩ := hrel
    by_cases hlt : k < ls
    · have hks : k < s.length := by have := HLS.out; omega
      obtain ⟨g', hSA, _, hg2', hsc⟩ := HSC.out (by omega)
      subst hSA
      have c0 := (HBR.out.cell (p := ⟨g', k, none⟩) hg2').trans (hsc k hks)
      have HDR : Hid (s.drop k = s[k] :: s.drop (k + 1)) := Lib.hid (List.drop_eq_getElem_cons hks)
      have HDD := Lib.hid (HDR.out.symm.trans HD.out).symm
      obtain ⟨t, ht⟩ : ∃ t, t = s[k] := ⟨_, rfl⟩
      rw [← ht] at c0 HDD HDR
      have HNX := Lib.hid (M.Wy_next HDD.out)
      have k0 : (0 : Int) ≤ (k : Int) := by omega
      have k1 : (k : Int) < (ls : Int) := by omega
      clear ht hsc hks HDD HD
      rcases HNX.out with ⟨rfl, hr, hix, hjx, he⟩ | ⟨rfl, hr, hix⟩ | ⟨rfl, hr, hjx⟩
      · have HR := Lib.hid hr
        have qj : j < lb := by have := HLX.out; omega
        clear hjx he
        obtain ⟨bk, off, hLe, hraw⟩ := HCA.out i 1 (by have := HLX.out; omega)
        subst hLe
        have HRW := Lib.hid hraw
        have HMK2 : Hid (mkE a b = (es ++ [(1, [lnAt a i])]) ++ mk a b (i + 1) (j + 1) (s.drop (k + 1))) := Lib.hid (by rw [HME.out, HDR.out, List.append_assoc]; rfl)
        have q0 : i < la := by have := HLX.out; omega
        have q1 : (0 : Int) ≤ (i : Int) := by omega
        have q2 : (i : Int) ≤ (i : Int) + 1 := by omega
        have q3 : (i : Int) + 1 ≤ (c : Int) := by omega
        have q4 : ¬ c = i := by omega
        clear hr hraw HDR HNX
        go_upto_region 19 with fail
        obtain ⟨W1, hW1⟩ : ∃ W : World, W = wr.alloc (.cells #[.int .i64 1, .slice (some ⟨bk, off + i * 2, none⟩) 1 (c - i)] 42) := ⟨_, rfl⟩
        have hX := heap_alloc_new wr (.cells #[.int .i64 1, .slice (some ⟨bk, off + i * 2, none⟩) 1 (c - i)] 42)
        rw [← hW1] at hX
        have hb1 : Below wr.heap.size wr W1 := by rw [hW1]; exact alloc1 _ _
        have HB1 := Lib.hid hb1
        have HO1 := Lib.hid (own_below HO.out hb1)
        have hs1 : w2.heap.size ≤ W1.heap.size := Nat.le_trans HBR.out.size hb1.size
        have x0 := L.blk_cell hX 0
        have x1 := L.blk_cell hX 1
        simp only [List.getElem?_toArray, List.getElem?_cons_zero, List.getElem?_cons_succ] at x0 x1
        rw [← hW1]
        obtain ⟨xb, hxb⟩ : ∃ xb, xb = wr.heap.size := ⟨_, rfl⟩
        rw [← hxb] at x0 x1 ⊢
        clear hW1 hX hb1 hxb
        go_wp2_with (at_builtin; refine wpList_append_own _ rfl (.tmp 64) (.tmp 66) 24 rfl w2.heap.size 42 i0 _ 2 32 Try.underlying24 hi0 hz0 hz1 hz2 rfl (by decide) _ rs.length (rawCells rs) rfl (HO1.out.alloc _) ⟨W1.heap.size, 0, none⟩ 1 1 [.int .i64 1, .slice (some ⟨bk, off + i * 2, none⟩) 1 (c - i)] rfl rfl (World.news_of_block (heap_alloc_new W1 _)) (by intro u hu; simp at hu; rcases hu with rfl | rfl <;> rfl) (by simp only [maxLen]; omega) (by omega) (by simp; omega) ?_; intro v' w4 hown4 hg4 _; have HO4 := Lib.hid hown4; have HB4 : Hid (Below w2.heap.size w2 w4) := Lib.hid (((HBR.out.trans (HB1.out.mono HBR.out.size)).alloc hs1 _).grown hg4 (by simp; omega) (fun q eq => own_base HO1.out q eq)); clear hown4 hg4)
        go_roundg (ls - (k + 1))
        case measure => omega
        case rel => exact ⟨i + 1, j + 1, k + 1, rs ++ [⟨1, some ⟨bk, off + i * 2, none⟩, 1, c - i⟩], _, by go_num, by go_num, by go_num, by omega, by omega, by omega, Nat.le_refl _, Lib.hid HR.out, HMK2, by rw [List.length_append, hrl]; rfl, Lib.hid (by rw [List.length_append, rawCells_app]; exact HO4.out), Lib.hid (HRO.out.snoc HRW.out), HB4⟩
      · have HR := Lib.hid hr
        skip
        obtain ⟨bk, off, hLe, hraw⟩ := HCA.out i 2 (by have := HLX.out; omega)
        subst hLe
        have HRW := Lib.hid hraw
        have HMK2 : Hid (mkE a b = (es ++ [(2, [lnAt a i])]) ++ mk a b (i + 1) j (s.drop (k + 1))) := Lib.hid (by rw [HME.out, HDR.out, List.append_assoc]; rfl)
        have q0 : i < la := by have := HLX.out; omega
        have q1 : (0 : Int) ≤ (i : Int) := by omega
        have q2 : (i : Int) ≤ (i : Int) + 1 := by omega
        have q3 : (i : Int) + 1 ≤ (c : Int) := by omega
        have q4 : ¬ c = i := by omega
        clear hr hraw HDR HNX
        go_upto_region 19 with fail
        obtain ⟨W1, hW1⟩ : ∃ W : World, W = wr.alloc (.cells #[.int .i64 2, .slice (some ⟨bk, off + i * 2, none⟩) 1 (c - i)] 42) := ⟨_, rfl⟩
        have hX := heap_alloc_new wr (.cells #[.int .i64 2, .slice (some ⟨bk, off + i * 2, none⟩) 1 (c - i)] 42)
        rw [← hW1] at hX
        have hb1 : Below wr.heap.size wr W1 := by rw [hW1]; exact alloc1 _ _
        have HB1 := Lib.hid hb1
        have HO1 := Lib.hid (own_below HO.out hb1)
        have hs1 : w2.heap.size ≤ W1.heap.size := Nat.le_trans HBR.out.size hb1.size
        have x0 := L.blk_cell hX 0
        have x1 := L.blk_cell hX 1
        simp only [List.getElem?_toArray, List.getElem?_cons_zero, List.getElem?_cons_succ] at x0 x1
        rw [← hW1]
        obtain ⟨xb, hxb⟩ : ∃ xb, xb = wr.heap.size := ⟨_, rfl⟩
        rw [← hxb] at x0 x1 ⊢
        clear hW1 hX hb1 hxb
        go_wp2_with (at_builtin; refine wpList_append_own _ rfl (.tmp 64) (.tmp 66) 24 rfl w2.heap.size 42 i0 _ 2 32 Try.underlying24 hi0 hz0 hz1 hz2 rfl (by decide) _ rs.length (rawCells rs) rfl (HO1.out.alloc _) ⟨W1.heap.size, 0, none⟩ 1 1 [.int .i64 2, .slice (some ⟨bk, off + i * 2, none⟩) 1 (c - i)] rfl rfl (World.news_of_block (heap_alloc_new W1 _)) (by intro u hu; simp at hu; rcases hu with rfl | rfl <;> rfl) (by simp only [maxLen]; omega) (by omega) (by simp; omega) ?_; intro v' w4 hown4 hg4 _; have HO4 := Lib.hid hown4; have HB4 : Hid (Below w2.heap.size w2 w4) := Lib.hid (((HBR.out.trans (HB1.out.mono HBR.out.size)).alloc hs1 _).grown hg4 (by simp; omega) (fun q eq => own_base HO1.out q eq)); clear hown4 hg4)
        go_roundg (ls - (k + 1))
        case measure => omega
        case rel => exact ⟨i + 1, j, k + 1, rs ++ [⟨2, some ⟨bk, off + i * 2, none⟩, 1, c - i⟩], _, by go_num, by go_num, by go_num, by omega, by omega, by omega, Nat.le_refl _, Lib.hid HR.out, HMK2, by rw [List.length_append, hrl]; rfl, Lib.hid (by rw [List.length_append, rawCells_app]; exact HO4.out), Lib.hid (HRO.out.snoc HRW.out), HB4⟩
      · have HR := Lib.hid hr
        skip
        obtain ⟨bk, off, hLe, hraw⟩ := HCB.out j 3 (by have := HLX.out; omega)
        subst hLe
        have HRW := Lib.hid hraw
        have HMK2 : Hid (mkE a b = (es ++ [(3, [lnAt b j])]) ++ mk a b i (j + 1) (s.drop (k + 1))) := Lib.hid (by rw [HME.out, HDR.out, List.append_assoc]; rfl)
        have q0 : j < lb := by have := HLX.out; omega
        have q1 : (0 : Int) ≤ (j : Int) := by omega
        have q2 : (j : Int) ≤ (j : Int) + 1 := by omega
        have q3 : (j : Int) + 1 ≤ (c' : Int) := by omega
        have q4 : ¬ c' = j := by omega
        clear hr hraw HDR HNX
        go_upto_region 19 with fail
        obtain ⟨W1, hW1⟩ : ∃ W : World, W = wr.alloc (.cells #[.int .i64 3, .slice (some ⟨bk, off + j * 2, none⟩) 1 (c' - j)] 42) := ⟨_, rfl⟩
        have hX := heap_alloc_new wr (.cells #[.int .i64 3, .slice (some ⟨bk, off + j * 2, none⟩) 1 (c' - j)] 42)
        rw [← hW1] at hX
        have hb1 : Below wr.heap.size wr W1 := by rw [hW1]; exact alloc1 _ _
        have HB1 := Lib.hid hb1
        have HO1 := Lib.hid (own_below HO.out hb1)
        have hs1 : w2.heap.size ≤ W1.heap.size := Nat.le_trans HBR.out.size hb1.size
        have x0 := L.blk_cell hX 0
        have x1 := L.blk_cell hX 1
        simp only [List.getElem?_toArray, List.getElem?_cons_zero, List.getElem?_cons_succ] at x0 x1
        rw [← hW1]
        obtain ⟨xb, hxb⟩ : ∃ xb, xb = wr.heap.size := ⟨_, rfl⟩
        rw [← hxb] at x0 x1 ⊢
        clear hW1 hX hb1 hxb
        go_wp2_with (at_builtin; refine wpList_append_own _ rfl (.tmp 64) (.tmp 66) 24 rfl w2.heap.size 42 i0 _ 2 32 Try.underlying24 hi0 hz0 hz1 hz2 rfl (by decide) _ rs.length (rawCells rs) rfl (HO1.out.alloc _) ⟨W1.heap.size, 0, none⟩ 1 1 [.int .i64 3, .slice (some ⟨bk, off + j * 2, none⟩) 1 (c' - j)] rfl rfl (World.news_of_block (heap_alloc_new W1 _)) (by intro u hu; simp at hu; rcases hu with rfl | rfl <;> rfl) (by simp only [maxLen]; omega) (by omega) (by simp; omega) ?_; intro v' w4 hown4 hg4 _; have HO4 := Lib.hid hown4; have HB4 : Hid (Below w2.heap.size w2 w4) := Lib.hid (((HBR.out.trans (HB1.out.mono HBR.out.size)).alloc hs1 _).grown hg4 (by simp; omega) (fun q eq => own_base HO1.out q eq)); clear hown4 hg4)
        go_roundg (ls - (k + 1))
        case measure => omega
        case rel => exact ⟨i, j + 1, k + 1, rs ++ [⟨3, some ⟨bk, off + j * 2, none⟩, 1, c' - j⟩], _, by go_num, by go_num, by go_num, by omega, by omega, by omega, Nat.le_refl _, Lib.hid HR.out, HMK2, by rw [List.length_append, hrl]; rfl, Lib.hid (by rw [List.length_append, rawCells_app]; exact HO4.out), Lib.hid (HRO.out.snoc HRW.out), HB4⟩
    · have hke : k = ls := by omega
      obtain ⟨VA, vc, rfl, -, -⟩ := own_form HO.out
      have HEQ : Hid (es = mkE a b) := Lib.hid (by
        have h1 := HME.out
        rw [List.drop_eq_nil_of_le (by have := HLS.out; omega)] at h1
        rw [h1]; simp [mk])
      have HEL : Hid (rs.length = (mkE a b).length) := Lib.hid (by rw [← HEQ.out]; exact HRO.out.1)
      have HBA : Hid (Below w.heap.size w wr) := Lib.hid (HB2.out.trans (HBR.out.mono HB2.out.size))
      have HCK : Hid (ck (mkE a b) = 0) := Lib.hid (by rw [HMK.out]; exact mk_ck (by have := HLS.out; omega) HWM.out)
      have HEI : Hid (EdsIn 0 wr VA (mkE a b)) := Lib.hid (by
        have ho := HO.out
        have hr := HRO.out
        rw [HEQ.out] at hr
        rw [HEL.out] at ho
        exact raws_eds ho (hr.below HBA.out) (Nat.zero_le _))
      have HNG : Hid (Calls Try.prog 25 #[.slice VA rs.length vc] wr (NrEnd wr (norm (mkE a b)) 0)) := Lib.hid (by
        have := normal_good VA vc 0 (mkE a b) wr HEI.out (EdsOk.of_ck HCK.out) HCK.out
        rw [← HEL.out] at this
        exact this)
      clear HEI hke hrl HEQ
      go_wp2_with fail
      with_reducible refine (HNG.out).mono ?_
      rintro e w4 ⟨NA, ncap, rfl, hE4, hb4⟩
      have HE4 := Lib.hid (hE4.low HBA.out.size)
      have HB4 : Hid (Below w.heap.size w w4) := Lib.hid (HBA.out.trans (hb4.mono HBA.out.size))
      clear hE4 hb4
      go_wp2_with fail
      go_ret2
      exact ⟨NA, ncap, rfl, HE4.out, HB4.out⟩

end Go.Proofs.Ytcipecjbibpcbaa.S
