/-
  What the reference's Make comes to.
-/
import Derived.Test.YtcipecjbibpcbaaGsf
import Derived.Test.YtcipecjbibpcbaaGmj
import Derived.Test.YtcipecjbibpcbaaGmt
namespace Go.Proofs.Ytcipecjbibpcbaa.S
open Go.RowKit
open T
open V (grown_of IntsIn numCells numCells_snoc ints_own drawn_below)
open I (alloc1 own_at own_below)
open N (Ln)

theorem line_at {w : World} {A : Option Addr} {l : List Ln} {i : Nat} (h : LinesIn w A l) (hi : i < l.length) : ∃ bk off, A = some ⟨bk, off, none⟩ ∧ bk < w.heap.size ∧ w.cell? ⟨bk, off + i * 2, none⟩ = some (.string ⟨(lnAt l i).1.toArray⟩) ∧ w.cell? ⟨bk, off + i * 2 + 1, none⟩ = some (.bool (lnAt l i).2) := by
  obtain ⟨bk, off, hA, hbk, hI⟩ := h (by omega)
  have he : lnAt l i = l[i] := by unfold lnAt; rw [List.getD_eq_getElem?_getD, List.getElem?_eq_getElem hi]; rfl
  rw [he]
  exact ⟨bk, off, hA, hbk, hI i hi⟩
theorem Rq.begin (w0 w1 : World) (hb : Below w0.heap.size w0 w1) : Rq w0 (w1.alloc (.cells #[] 42)) w1.heap.size (.slice (some ⟨w1.heap.size, 0, none⟩) 0 0) (.slice none 0 0) (.slice none 0 0) (.slice none 0 0) [] [] [] [] [] :=
  ⟨World.ownsRow_made (size := 2) (e := 42) w1 #[] 0 (Nat.le_refl _) (by unfold maxLen; omega) rfl, World.ownsRow_nil _ _ _ _, World.ownsRow_nil _ _ _ _, World.ownsRow_nil _ _ _ _, Apart.nil _, Apart.nil _, Apart.nil _, RawsOk.nil _ _, fun r hr => by simp at hr, hb.alloc hb.size _, hb.size, by simp⟩
/-- A line in memory of its own, and an edit of it behind others. -/
theorem Rq.line {w0 w w4 : World} {base : Nat} {vo v' : Value} {rs : List Raw} {es : List Ed} (h : Rq w0 w base vo (.slice none 0 0) (.slice none 0 0) (.slice none 0 0) rs es [] [] []) (t : Int) (x : Ln) (s : ByteArray) (hs : s = ⟨x.1.toArray⟩) {w1 : World} (hw1 : w1 = (w.alloc (.cells #[.string s, .bool x.2] 44)).alloc (.cells #[.int .i64 t, .slice (some ⟨w.heap.size, 0, none⟩) 1 1] 42)) {w2 : World} (hw2 : Below w1.heap.size w1 w2)
    (ho : w4.ownsRow base 42 2 v' (rs.length + 1) (rawCells rs ++ [.int .i64 t, .slice (some ⟨w.heap.size, 0, none⟩) 1 1])) (hg : w2.grownBy w4 vo.ownBlock) (hn : v'.ownBlock = vo.ownBlock ∨ v'.ownBlock = some w2.heap.size) :
    Rq w0 w4 base v' (.slice none 0 0) (.slice none 0 0) (.slice none 0 0) (rs ++ [Raw.mk t (some ⟨w.heap.size, 0, none⟩) 1 1]) (es ++ [(t, [x])]) [] [] [] := by
  have hb1 : Below w.heap.size w w1 := by rw [hw1]; exact (alloc1 w _).trans ((alloc1 _ _).mono (by simp))
  have hb2 : Below w.heap.size w w2 := hb1.trans (hw2.mono hb1.size)
  have hx : w2.heap[w.heap.size]? = some (.cells #[.string s, .bool x.2] 44 (0, 0)) := by
    have h0 := heap_alloc_new w (.cells #[.string s, .bool x.2] 44)
    have h1 : w1.heap[w.heap.size]? = some (.cells #[.string s, .bool x.2] 44 (0, 0)) := by
      rw [hw1, (alloc1 _ _).block _ (by simp)]
      exact h0
    exact (hw2.block _ (L.blk_lt h1)).trans h1
  have hro : RawOk 0 w2 (Raw.mk t (some ⟨w.heap.size, 0, none⟩) 1 1) (t, [x]) := ⟨rfl, rfl, fun _ => ⟨w.heap.size, 0, rfl, L.blk_lt hx, fun j hj => by
    simp only [List.length_cons, List.length_nil, Nat.zero_add] at hj
    obtain rfl : j = 0 := by omega
    simp only [List.getElem_cons_zero, Nat.zero_mul, Nat.add_zero]
    rw [← hs]
    exact ⟨L.blk_cell hx 0, L.blk_cell hx 1⟩⟩, by simp, (fun e => by simp at e), fun p _ => Nat.zero_le _⟩
  exact h.addO hb2 hg (by rw [List.length_append, rawCells_app]; exact ho) hn hro (fun p hp => by
    obtain rfl := Option.some.inj hp
    exact ⟨Nat.le_refl _, L.blk_lt hx⟩)

set_option maxRecDepth 100000 in
set_option maxHeartbeats 8000000 in
theorem rmake_any (A B : Option Addr) (a b : List Ln) (c c' : Nat) (w : World) (hA : LinesIn w A a) (hB : LinesIn w B b) (ha : a.length ≤ 60) (hb : b.length ≤ 60) (hca : a.length ≤ c) (hcb : b.length ≤ c') :
    Calls Try.prog 13 #[.slice A a.length c, .slice B b.length c'] w (RnEnd w (norm (mkE a b)) 0) := by
  obtain ⟨i0, hi0, hz0, hz1, hz2⟩ := info_parts infoEdit
  have HA := Lib.hid hA
  have HB := Lib.hid hB
  obtain ⟨W0, hW0⟩ : ∃ W : World, W = w.alloc (.cells #[.slice A a.length c, .slice B b.length c'] 22) := ⟨_, rfl⟩
  have HB0 := Lib.hid (show Below w.heap.size w W0 by rw [hW0]; exact alloc1 _ _)
  have HNA : Hid (Calls Try.prog 31 #[.slice (some ⟨w.heap.size, 0, none⟩) 2 2] W0 (N.NmEnd W0 [N.row [] a, N.row (N.known [] a) b])) := Lib.hid (by
    have hX := heap_alloc_new w (.cells #[.slice A a.length c, .slice B b.length c'] 22)
    rw [← hW0] at hX
    refine N.rnumbers_any (some ⟨w.heap.size, 0, none⟩) 2 [a, b] W0 (fun _ => ⟨w.heap.size, 0, rfl, L.blk_lt hX, fun j hj => ?_⟩) (by simp) (fun l hl => by simp only [List.mem_cons, List.not_mem_nil, or_false] at hl; rcases hl with rfl | rfl <;> assumption)
    match j, hj with
    | 0, _ => exact ⟨A, c, L.blk_cell hX 0, hA.below HB0.out, hca⟩
    | 1, _ => exact ⟨B, c', L.blk_cell hX 1, hB.below HB0.out, hcb⟩)
  have HLX : Hid ((N.row [] a).length = a.length ∧ (N.row (N.known [] a) b).length = b.length) := Lib.hid ⟨N.row_length _ _, N.row_length _ _⟩
  have HMK : Hid (mkE a b = mk a b 0 0 (M.way (N.row [] a) (N.row (N.known [] a) b))) := Lib.hid rfl
  have HLA : Hid (∀ i W, Below w.heap.size w W → i < a.length → ∃ bk off, A = some ⟨bk, off, none⟩ ∧ bk < W.heap.size ∧ W.cell? ⟨bk, off + i * 2, none⟩ = some (.string ⟨(lnAt a i).1.toArray⟩) ∧ W.cell? ⟨bk, off + i * 2 + 1, none⟩ = some (.bool (lnAt a i).2)) := Lib.hid (fun i W h hi => line_at (hA.below h) hi)
  have HLB : Hid (∀ i W, Below w.heap.size w W → i < b.length → ∃ bk off, B = some ⟨bk, off, none⟩ ∧ bk < W.heap.size ∧ W.cell? ⟨bk, off + i * 2, none⟩ = some (.string ⟨(lnAt b i).1.toArray⟩) ∧ W.cell? ⟨bk, off + i * 2 + 1, none⟩ = some (.bool (lnAt b i).2)) := Lib.hid (fun i W h hi => line_at (hB.below h) hi)
  clear hA hB
  generalize N.row [] a = x at *
  generalize N.row (N.known [] a) b = y at *
  obtain ⟨la, hla⟩ : ∃ n, n = a.length := ⟨_, rfl⟩
  obtain ⟨lb, hlb⟩ : ∃ n, n = b.length := ⟨_, rfl⟩
  rw [← hla] at ha hca HLX HLA hW0 ⊢
  rw [← hlb] at hb hcb HLX HLB hW0 ⊢
  clear hla hlb
  have g1 : decide ((400 : Int) < (la : Int)) = false := decide_eq_false (by omega)
  have g2 : decide ((400 : Int) < (lb : Int)) = false := decide_eq_false (by omega)
  go_enter Try.func13, Try.ntmps13
  go_wp2_with fail
  rw [← hW0]
  clear hW0 g1 g2
  with_reducible refine (HNA.out).mono ?_
  rintro e w1 ⟨NA, ncap, vs, rfl, hno, hrw, hb1⟩
  have hvl : vs.length = 2 := hrw.1
  match vs, hvl with
  | [v0, v1], _ =>
  have HO0 := Lib.hid (hrw.2 0 (by simp) (by simp))
  have HO1 := Lib.hid (hrw.2 1 (by simp) (by simp))
  simp only [List.getElem_cons_zero, List.getElem_cons_succ] at HO0 HO1
  obtain ⟨XA, xc, rfl, -, -⟩ := own_form HO0.out
  obtain ⟨YA, yc, rfl, -, -⟩ := own_form HO1.out
  obtain ⟨g, rfl, -, hg2, hgc⟩ := own_at hno (by simp)
  have c0 := hgc 0 _ rfl
  have c1 := hgc 1 _ rfl
  have HX1 := Lib.hid (ints_own HO0.out)
  have HY1 := Lib.hid (ints_own HO1.out)
  have HBW := Lib.hid (HB0.out.trans (hb1.mono HB0.out.size))
  have HST := Lib.hid (M.rsteps_any XA YA x y xc yc w1.drew (HX1.out.below ((Below.refl _ w1).drew)) (HY1.out.below ((Below.refl _ w1).drew)) (by rw [HLX.out.1]; omega) (by rw [HLX.out.2]; omega))
  clear hno hrw hgc hvl HO0 HO1 hb1
  go_upto_region 4 with fail
  go_cut [7] (fun v w2 => ∃ SA sc, v = .slice SA (M.way x y).length sc ∧ Hid (w2.ownsRow w1.drew.heap.size 40 1 (.slice SA (M.way x y).length sc) (M.way x y).length (numCells (M.way x y))) ∧ Hid (Below w1.drew.heap.size w1.drew w2))
  case first =>
    go_region_with ((go_at_call 32; refine (HST.out).mono ?_; rintro e w2 ⟨SA, sc, rfl, hso, hb2⟩; have HSO := Lib.hid hso; have HSB := Lib.hid hb2; clear hso hb2))
    all_goals
      go_wp2_with fail
      go_meet
      case rel => exact ⟨SA, sc, rfl, HSO, HSB⟩
  case rest =>
  obtain ⟨SA, sc, rfl, HSO, HSB⟩ := hcut
  clear c0 c1
  generalize wc = w2 at *
  have hso := HSO.out
  have hb2 := HSB.out
  clear HSO HSB
  have HB2 : Hid (Below w.heap.size w w2) := Lib.hid (HBW.out.trans ((((Below.refl _ w1).drew).trans hb2).mono HBW.out.size))
  have HWL := Lib.hid (M.way_le _ x y (Nat.le_refl _))
  have HW0 : Hid (M.way x y = M.Wy x y 0 0) := Lib.hid rfl
  have HWM := Lib.hid (M.way_mem _ x y (Nat.le_refl _))
  obtain ⟨s, hs⟩ : ∃ s, s = M.way x y := ⟨_, rfl⟩
  rw [← hs] at HWL HW0 hso HMK HWM ⊢
  have hsl : s.length ≤ 120 := by have := HWL.out; have := HLX.out; omega
  have HSC := Lib.hid (steps_cells hso)
  obtain ⟨ls, hls⟩ : ∃ n, n = s.length := ⟨_, rfl⟩
  have HLS := Lib.hid hls
  rw [← hls] at hsl ⊢
  have HQ0 := Lib.hid (Rq.begin w2 w2 (Below.refl _ _))
  clear hso hb2 HST hs HWL hls
  go_wp2_with fail
  go_loopg [8, 9, 10, 11] ls (fun mm sv i j k wr => ∃ (i' j' k' : Nat) (rs : List Raw) (es : List Ed), i = .int .i64 (i' : Int) ∧ j = .int .i64 (j' : Int) ∧ k = .int .i64 (k' : Int) ∧ k' ≤ ls ∧ i' ≤ la ∧ j' ≤ lb ∧ ls - k' ≤ mm ∧ Hid (s.drop k' = M.Wy x y i' j') ∧ Hid (mkE a b = es ++ mk a b i' j' (s.drop k')) ∧ rs.length = k' ∧ Hid (Rq w2 wr w2.heap.size sv (.slice none 0 0) (.slice none 0 0) (.slice none 0 0) rs es [] [] []))
  case atStart => exact ⟨0, 0, 0, [], [], rfl, rfl, rfl, Nat.zero_le _, Nat.zero_le _, Nat.zero_le _, by omega, Lib.hid HW0.out, Lib.hid HMK.out, rfl, HQ0⟩
  case round =>
    clear HQ0
    obtain ⟨i, j, k, rs, es, rfl, rfl, rfl, hk, hi, hj, hmm, HD, HME, hrl, HQ⟩ := hrel
    obtain ⟨oA, ocap, rfl, -, -⟩ := own_form HQ.out.o
    by_cases hlt : k < ls
    · have hks : k < s.length := by have := HLS.out; omega
      obtain ⟨g', hSA, _, hg2', hsc⟩ := HSC.out (by omega)
      subst hSA
      have HCK : Hid (∀ W, Below w2.heap.size w2 W → W.cell? ⟨g', k, none⟩ = some (.int .i64 s[k])) := Lib.hid (fun W h => (h.cell (p := ⟨g', k, none⟩) hg2').trans (hsc k hks))
      have HDR : Hid (s.drop k = s[k] :: s.drop (k + 1)) := Lib.hid (List.drop_eq_getElem_cons hks)
      have HDD := Lib.hid (HDR.out.symm.trans HD.out).symm
      obtain ⟨t, ht⟩ : ∃ t, t = s[k] := ⟨_, rfl⟩
      rw [← ht] at HCK HDD HDR
      have HNX := Lib.hid (M.Wy_next HDD.out)
      have c0 := HCK.out wr HQ.out.b
      have hbr := HQ.out.hs
      have k0 : (0 : Int) ≤ (k : Int) := by omega
      have k1 : (k : Int) < (ls : Int) := by omega
      have HBX : Hid (Below w.heap.size w wr) := Lib.hid (HB2.out.trans (HQ.out.b.mono HB2.out.size))
      clear ht hsc hks HDD HD
      rcases HNX.out with ⟨rfl, hr, hix, hjx, he⟩ | ⟨rfl, hr, hix⟩ | ⟨rfl, hr, hjx⟩
      · have HR := Lib.hid hr
        have qj : j < lb := by have := HLX.out; omega
        clear hjx he
        obtain ⟨bk, off, hLe, hbk, l0, l1⟩ := HLA.out i wr HBX.out (by have := HLX.out; omega)
        subst hLe
        have HMK2 : Hid (mkE a b = (es ++ [(1, [lnAt a i])]) ++ mk a b (i + 1) (j + 1) (s.drop (k + 1))) := Lib.hid (by rw [HME.out, HDR.out, List.append_assoc]; rfl)
        have q0 : i < la := by have := HLX.out; omega
        have q1 : (0 : Int) ≤ (i : Int) := by omega
        have q2 : (i : Int) < (la : Int) := by omega
        obtain ⟨z, hz⟩ : ∃ z, z = lnAt a i := ⟨_, rfl⟩
        rw [← hz] at HMK2 l0 l1
        obtain ⟨zs, hzs⟩ : ∃ q : ByteArray, q = ⟨z.1.toArray⟩ := ⟨_, rfl⟩
        obtain ⟨zb, hzb⟩ : ∃ q : Bool, q = z.2 := ⟨_, rfl⟩
        rw [← hzs] at l0
        rw [← hzb] at l1
        have HZS := Lib.hid (And.intro hzs hzb)
        clear hr hz hzs hzb
        go_upto_region 13 with fail
        go_cut [8] (fun v wx => ∃ vA vcap, v = .slice vA (k + 1) vcap ∧ Hid (Rq w2 wx w2.heap.size (.slice vA (k + 1) vcap) (.slice none 0 0) (.slice none 0 0) (.slice none 0 0) (rs ++ [Raw.mk 1 (some ⟨wr.heap.size, 0, none⟩) 1 1]) (es ++ [(1, [z])]) [] [] []))
        case first =>
          have cA : ∀ o, (wr.alloc o).cell? ⟨g', k, none⟩ = some (.int .i64 1) := fun o => HCK.out _ (HQ.out.b.trans ((alloc1 wr o).mono HQ.out.b.size))
          have HOA : Hid (((wr.alloc (.cells #[.string zs, .bool zb] 44)).alloc (.cells #[.int .i64 1, .slice (some ⟨wr.heap.size, 0, none⟩) 1 1] 42)).drew.ownsRow w2.heap.size 42 2 (.slice oA rs.length ocap) rs.length (rawCells rs)) := Lib.hid (World.ownsRow.alloc (HQ.out.o.alloc _) _)
          have HNW := Lib.hid (World.news_of_block (B := wr.heap.size + 1) (w := ((wr.alloc (.cells #[.string zs, .bool zb] 44)).alloc (.cells #[.int .i64 1, .slice (some ⟨wr.heap.size, 0, none⟩) 1 1] 42)).drew) (by
            have h := heap_alloc_new (wr.alloc (.cells #[.string zs, .bool zb] 44)) (.cells #[.int .i64 1, .slice (some ⟨wr.heap.size, 0, none⟩) 1 1] 42)
            rw [show (wr.alloc (.cells #[.string zs, .bool zb] 44)).heap.size = wr.heap.size + 1 by simp] at h
            exact h))
          have hsz : w2.heap.size ≤ ((wr.alloc (.cells #[.string zs, .bool zb] 44)).alloc (.cells #[.int .i64 1, .slice (some ⟨wr.heap.size, 0, none⟩) 1 1] 42)).drew.heap.size := by simp; omega
          have H1C : Hid (∀ u ∈ ([.int .i64 1, .slice (some ⟨wr.heap.size, 0, none⟩) 1 1] : List Value), u.oneCell' = true) := Lib.hid (by intro u hu; simp at hu; rcases hu with rfl | rfl <;> rfl)
          go_region_law ((refine step_append_lies _ (by rfl) (.tmp 56) (.tmp 67) 24 (by rfl) w2.heap.size 42 i0 _ 2 32 Try.underlying24 hi0 hz0 hz1 hz2 rfl (by decide) (.slice oA rs.length ocap) rs.length (rawCells rs) (by first | rfl | (rw [hrl]; rfl)) HOA.out ⟨wr.heap.size + 1, 0, none⟩ 1 1 [.int .i64 1, .slice (some ⟨wr.heap.size, 0, none⟩) 1 1] (by rfl) rfl HNW.out H1C.out (by omega) (by unfold maxLen; omega) (by omega) hsz _ rfl ?_; intro g3 cap3 w4 hown3 hgrow3 hat3 hlt3))
          all_goals
            have HX3 := Lib.hid (HQ.out.line 1 z zs HZS.out.1 (by rw [← HZS.out.2]) ((Below.refl _ _).drew) hown3 hgrow3 (by
              rcases hat3 with h | h
              · exact .inl h.symm
              · exact .inr (by rw [h]; rfl)))
            clear hown3 hgrow3 hat3 hlt3
            go_wp2_with fail
            go_meet
            case rel => exact ⟨some ⟨g3, 0, none⟩, cap3, rfl, by have e := HX3; rw [hrl] at e; exact e⟩
        case rest =>
        obtain ⟨vA, vcap, rfl, HQ4⟩ := hcut
        clear c0 l0 l1 HQ
        generalize wc = w4 at *
        have c0 := HCK.out w4 HQ4.out.b
        go_wp2_with fail
        go_roundg (ls - (k + 1))
        case measure => omega
        case rel => exact ⟨i + 1, j + 1, k + 1, _, _, by go_num, by go_num, by go_num, by omega, by omega, by omega, Nat.le_refl _, Lib.hid HR.out, HMK2, by rw [List.length_append, hrl]; rfl, HQ4⟩
      · have HR := Lib.hid hr
        skip
        obtain ⟨bk, off, hLe, hbk, l0, l1⟩ := HLA.out i wr HBX.out (by have := HLX.out; omega)
        subst hLe
        have HMK2 : Hid (mkE a b = (es ++ [(2, [lnAt a i])]) ++ mk a b (i + 1) j (s.drop (k + 1))) := Lib.hid (by rw [HME.out, HDR.out, List.append_assoc]; rfl)
        have q0 : i < la := by have := HLX.out; omega
        have q1 : (0 : Int) ≤ (i : Int) := by omega
        have q2 : (i : Int) < (la : Int) := by omega
        obtain ⟨z, hz⟩ : ∃ z, z = lnAt a i := ⟨_, rfl⟩
        rw [← hz] at HMK2 l0 l1
        obtain ⟨zs, hzs⟩ : ∃ q : ByteArray, q = ⟨z.1.toArray⟩ := ⟨_, rfl⟩
        obtain ⟨zb, hzb⟩ : ∃ q : Bool, q = z.2 := ⟨_, rfl⟩
        rw [← hzs] at l0
        rw [← hzb] at l1
        have HZS := Lib.hid (And.intro hzs hzb)
        clear hr hz hzs hzb
        go_upto_region 13 with fail
        go_cut [8] (fun v wx => ∃ vA vcap, v = .slice vA (k + 1) vcap ∧ Hid (Rq w2 wx w2.heap.size (.slice vA (k + 1) vcap) (.slice none 0 0) (.slice none 0 0) (.slice none 0 0) (rs ++ [Raw.mk 2 (some ⟨wr.heap.size, 0, none⟩) 1 1]) (es ++ [(2, [z])]) [] [] []))
        case first =>
          have cA : ∀ o, (wr.alloc o).cell? ⟨g', k, none⟩ = some (.int .i64 2) := fun o => HCK.out _ (HQ.out.b.trans ((alloc1 wr o).mono HQ.out.b.size))
          have HOA : Hid (((wr.alloc (.cells #[.string zs, .bool zb] 44)).alloc (.cells #[.int .i64 2, .slice (some ⟨wr.heap.size, 0, none⟩) 1 1] 42)).drew.ownsRow w2.heap.size 42 2 (.slice oA rs.length ocap) rs.length (rawCells rs)) := Lib.hid (World.ownsRow.alloc (HQ.out.o.alloc _) _)
          have HNW := Lib.hid (World.news_of_block (B := wr.heap.size + 1) (w := ((wr.alloc (.cells #[.string zs, .bool zb] 44)).alloc (.cells #[.int .i64 2, .slice (some ⟨wr.heap.size, 0, none⟩) 1 1] 42)).drew) (by
            have h := heap_alloc_new (wr.alloc (.cells #[.string zs, .bool zb] 44)) (.cells #[.int .i64 2, .slice (some ⟨wr.heap.size, 0, none⟩) 1 1] 42)
            rw [show (wr.alloc (.cells #[.string zs, .bool zb] 44)).heap.size = wr.heap.size + 1 by simp] at h
            exact h))
          have hsz : w2.heap.size ≤ ((wr.alloc (.cells #[.string zs, .bool zb] 44)).alloc (.cells #[.int .i64 2, .slice (some ⟨wr.heap.size, 0, none⟩) 1 1] 42)).drew.heap.size := by simp; omega
          have H1C : Hid (∀ u ∈ ([.int .i64 2, .slice (some ⟨wr.heap.size, 0, none⟩) 1 1] : List Value), u.oneCell' = true) := Lib.hid (by intro u hu; simp at hu; rcases hu with rfl | rfl <;> rfl)
          go_region_law ((refine step_append_lies _ (by rfl) (.tmp 56) (.tmp 67) 24 (by rfl) w2.heap.size 42 i0 _ 2 32 Try.underlying24 hi0 hz0 hz1 hz2 rfl (by decide) (.slice oA rs.length ocap) rs.length (rawCells rs) (by first | rfl | (rw [hrl]; rfl)) HOA.out ⟨wr.heap.size + 1, 0, none⟩ 1 1 [.int .i64 2, .slice (some ⟨wr.heap.size, 0, none⟩) 1 1] (by rfl) rfl HNW.out H1C.out (by omega) (by unfold maxLen; omega) (by omega) hsz _ rfl ?_; intro g3 cap3 w4 hown3 hgrow3 hat3 hlt3))
          all_goals
            have HX3 := Lib.hid (HQ.out.line 2 z zs HZS.out.1 (by rw [← HZS.out.2]) ((Below.refl _ _).drew) hown3 hgrow3 (by
              rcases hat3 with h | h
              · exact .inl h.symm
              · exact .inr (by rw [h]; rfl)))
            clear hown3 hgrow3 hat3 hlt3
            go_wp2_with fail
            go_meet
            case rel => exact ⟨some ⟨g3, 0, none⟩, cap3, rfl, by have e := HX3; rw [hrl] at e; exact e⟩
        case rest =>
        obtain ⟨vA, vcap, rfl, HQ4⟩ := hcut
        clear c0 l0 l1 HQ
        generalize wc = w4 at *
        have c0 := HCK.out w4 HQ4.out.b
        go_wp2_with fail
        go_roundg (ls - (k + 1))
        case measure => omega
        case rel => exact ⟨i + 1, j, k + 1, _, _, by go_num, by go_num, by go_num, by omega, by omega, by omega, Nat.le_refl _, Lib.hid HR.out, HMK2, by rw [List.length_append, hrl]; rfl, HQ4⟩
      · have HR := Lib.hid hr
        skip
        obtain ⟨bk, off, hLe, hbk, l0, l1⟩ := HLB.out j wr HBX.out (by have := HLX.out; omega)
        subst hLe
        have HMK2 : Hid (mkE a b = (es ++ [(3, [lnAt b j])]) ++ mk a b i (j + 1) (s.drop (k + 1))) := Lib.hid (by rw [HME.out, HDR.out, List.append_assoc]; rfl)
        have q0 : j < lb := by have := HLX.out; omega
        have q1 : (0 : Int) ≤ (j : Int) := by omega
        have q2 : (j : Int) < (lb : Int) := by omega
        obtain ⟨z, hz⟩ : ∃ z, z = lnAt b j := ⟨_, rfl⟩
        rw [← hz] at HMK2 l0 l1
        obtain ⟨zs, hzs⟩ : ∃ q : ByteArray, q = ⟨z.1.toArray⟩ := ⟨_, rfl⟩
        obtain ⟨zb, hzb⟩ : ∃ q : Bool, q = z.2 := ⟨_, rfl⟩
        rw [← hzs] at l0
        rw [← hzb] at l1
        have HZS := Lib.hid (And.intro hzs hzb)
        clear hr hz hzs hzb
        go_upto_region 12 with fail
        go_cut [8] (fun v wx => ∃ vA vcap, v = .slice vA (k + 1) vcap ∧ Hid (Rq w2 wx w2.heap.size (.slice vA (k + 1) vcap) (.slice none 0 0) (.slice none 0 0) (.slice none 0 0) (rs ++ [Raw.mk 3 (some ⟨wr.heap.size, 0, none⟩) 1 1]) (es ++ [(3, [z])]) [] [] []))
        case first =>
          have cA : ∀ o, (wr.alloc o).cell? ⟨g', k, none⟩ = some (.int .i64 3) := fun o => HCK.out _ (HQ.out.b.trans ((alloc1 wr o).mono HQ.out.b.size))
          have HOA : Hid (((wr.alloc (.cells #[.string zs, .bool zb] 44)).alloc (.cells #[.int .i64 3, .slice (some ⟨wr.heap.size, 0, none⟩) 1 1] 42)).drew.ownsRow w2.heap.size 42 2 (.slice oA rs.length ocap) rs.length (rawCells rs)) := Lib.hid (World.ownsRow.alloc (HQ.out.o.alloc _) _)
          have HNW := Lib.hid (World.news_of_block (B := wr.heap.size + 1) (w := ((wr.alloc (.cells #[.string zs, .bool zb] 44)).alloc (.cells #[.int .i64 3, .slice (some ⟨wr.heap.size, 0, none⟩) 1 1] 42)).drew) (by
            have h := heap_alloc_new (wr.alloc (.cells #[.string zs, .bool zb] 44)) (.cells #[.int .i64 3, .slice (some ⟨wr.heap.size, 0, none⟩) 1 1] 42)
            rw [show (wr.alloc (.cells #[.string zs, .bool zb] 44)).heap.size = wr.heap.size + 1 by simp] at h
            exact h))
          have hsz : w2.heap.size ≤ ((wr.alloc (.cells #[.string zs, .bool zb] 44)).alloc (.cells #[.int .i64 3, .slice (some ⟨wr.heap.size, 0, none⟩) 1 1] 42)).drew.heap.size := by simp; omega
          have H1C : Hid (∀ u ∈ ([.int .i64 3, .slice (some ⟨wr.heap.size, 0, none⟩) 1 1] : List Value), u.oneCell' = true) := Lib.hid (by intro u hu; simp at hu; rcases hu with rfl | rfl <;> rfl)
          go_region_law ((refine step_append_lies _ (by rfl) (.tmp 43) (.tmp 54) 24 (by rfl) w2.heap.size 42 i0 _ 2 32 Try.underlying24 hi0 hz0 hz1 hz2 rfl (by decide) (.slice oA rs.length ocap) rs.length (rawCells rs) (by first | rfl | (rw [hrl]; rfl)) HOA.out ⟨wr.heap.size + 1, 0, none⟩ 1 1 [.int .i64 3, .slice (some ⟨wr.heap.size, 0, none⟩) 1 1] (by rfl) rfl HNW.out H1C.out (by omega) (by unfold maxLen; omega) (by omega) hsz _ rfl ?_; intro g3 cap3 w4 hown3 hgrow3 hat3 hlt3))
          all_goals
            have HX3 := Lib.hid (HQ.out.line 3 z zs HZS.out.1 (by rw [← HZS.out.2]) ((Below.refl _ _).drew) hown3 hgrow3 (by
              rcases hat3 with h | h
              · exact .inl h.symm
              · exact .inr (by rw [h]; rfl)))
            clear hown3 hgrow3 hat3 hlt3
            go_wp2_with fail
            go_meet
            case rel => exact ⟨some ⟨g3, 0, none⟩, cap3, rfl, by have e := HX3; rw [hrl] at e; exact e⟩
        case rest =>
        obtain ⟨vA, vcap, rfl, HQ4⟩ := hcut
        clear c0 l0 l1 HQ
        generalize wc = w4 at *
        have c0 := HCK.out w4 HQ4.out.b
        go_wp2_with fail
        go_roundg (ls - (k + 1))
        case measure => omega
        case rel => exact ⟨i, j + 1, k + 1, _, _, by go_num, by go_num, by go_num, by omega, by omega, by omega, Nat.le_refl _, Lib.hid HR.out, HMK2, by rw [List.length_append, hrl]; rfl, HQ4⟩
    · have hke : k = ls := by omega
      have HEQ : Hid (es = mkE a b) := Lib.hid (by
        have h1 := HME.out
        rw [List.drop_eq_nil_of_le (by have := HLS.out; omega)] at h1
        rw [h1]; simp [mk])
      have HEL : Hid (rs.length = (mkE a b).length) := Lib.hid (by rw [← HEQ.out]; exact HQ.out.r.1)
      have HBA : Hid (Below w.heap.size w wr) := Lib.hid (HB2.out.trans (HQ.out.b.mono HB2.out.size))
      have HCK : Hid (ck (mkE a b) = 0) := Lib.hid (by rw [HMK.out]; exact mk_ck (by have := HLS.out; omega) HWM.out)
      have HEI : Hid (EdsIn 0 wr oA (mkE a b)) := Lib.hid (by
        have ho := HQ.out.o
        have hr := HQ.out.r
        rw [HEQ.out] at hr
        rw [HEL.out] at ho
        exact raws_eds ho hr (Nat.zero_le _))
      have HNG : Hid (Calls Try.prog 26 #[.slice oA rs.length ocap] wr (RnEnd wr (norm (mkE a b)) 0)) := Lib.hid (by
        have := rnormal_good oA ocap 0 (mkE a b) wr HEI.out (EdsOk.of_ck HCK.out) HCK.out
        rw [← HEL.out] at this
        exact this)
      clear HEI hke hrl HEQ
      go_wp2_with fail
      with_reducible refine (HNG.out).mono ?_
      rintro e w4 ⟨NA, ncap, rfl, hE4, hb4⟩
      have HE4 := Lib.hid hE4
      have HB4 : Hid (Below w.heap.size w w4) := Lib.hid (HBA.out.trans (hb4.mono HBA.out.size))
      clear hE4 hb4
      go_wp2_with fail
      go_ret2
      exact ⟨NA, ncap, rfl, HE4.out, HB4.out⟩
end Go.Proofs.Ytcipecjbibpcbaa.S
