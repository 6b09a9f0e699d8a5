/-
  What the reference's Make comes to.
  What each law on scripts asks first (live); few; an argument's lines.
  The contract of the reference's Ends.
  What must be whatever is asked (layer 5), walked over what the code's functions come to.
  What must be whatever is asked of layer 6.
  The law InternNumbers.
  Lines and their numbers, in plain words: alike just if the numbers are.
-/
import Derived.Test.YtigghcmbdnidnaaGpj
import Derived.Test.YtigghcmbdnidnaaGph
import Derived.Test.YtigghcmbdnidnaaGpg
import Derived.Test.YtigghcmbdnidnaaGpc
import Derived.Test.YtigghcmbdnidnaaGpd
import Derived.Deep.DeepCutAuto
import Derived.StillTailTactics
namespace Go.Proofs.Ytigghcmbdnidnaa.S
open Go.RowKit
open T
open V (grown_of IntsIn numCells numCells_snoc ints_own drawn_below)
open I (alloc1 own_at own_below)
open N (Ln)

theorem line_at {w : World} {A : Option Addr} {l : List Ln} {i : Nat} (h : LinesIn w A l) (hi : i < l.length) : ∃ bk off, A = some ⟨bk, off, none⟩ ∧ bk < w.heap.size ∧ w.cell? ⟨bk, off + i * 2, none⟩ = some (.string ⟨(lnAt l i).1.toArray⟩) ∧ w.cell? ⟨bk, off + i * 2 + 1, none⟩ = some (.bool (lnAt l i).2) := by
  obtain ⟨bk, off, hA, hbk, hI⟩ := h (by omega)
  have he : lnAt l i = l[i] := by unfold lnAt; rw [List.getD_eq_getElem?_getD, List.getElem?_eq_getElem hi]; rfl
  rw [he]
  exact ⟨bk, off, hA, hbk, hI i hi⟩
theorem Rq.begin (w0 w1 : World) (hb : Below w0.heap.size w0 w1) : Rq w0 (w1.alloc (.cells #[] 54)) w1.heap.size (.slice (some ⟨w1.heap.size, 0, none⟩) 0 0) (.slice none 0 0) (.slice none 0 0) (.slice none 0 0) [] [] [] [] [] :=
  ⟨World.ownsRow_made (size := 2) (e := 54) w1 #[] 0 (Nat.le_refl _) (by unfold maxLen; omega) rfl, World.ownsRow_nil _ _ _ _, World.ownsRow_nil _ _ _ _, World.ownsRow_nil _ _ _ _, Apart.nil _, Apart.nil _, Apart.nil _, RawsOk.nil _ _, fun r hr => by simp at hr, hb.alloc hb.size _, hb.size, by simp⟩
/-- A line in memory of its own, and an edit of it behind others. -/
theorem Rq.line {w0 w w4 : World} {base : Nat} {vo v' : Value} {rs : List Raw} {es : List Ed} (h : Rq w0 w base vo (.slice none 0 0) (.slice none 0 0) (.slice none 0 0) rs es [] [] []) (t : Int) (x : Ln) (s : ByteArray) (hs : s = ⟨x.1.toArray⟩) {w1 : World} (hw1 : w1 = (w.alloc (.cells #[.string s, .bool x.2] 59)).alloc (.cells #[.int .i64 t, .slice (some ⟨w.heap.size, 0, none⟩) 1 1] 54)) {w2 : World} (hw2 : Below w1.heap.size w1 w2)
    (ho : w4.ownsRow base 54 2 v' (rs.length + 1) (rawCells rs ++ [.int .i64 t, .slice (some ⟨w.heap.size, 0, none⟩) 1 1])) (hg : w2.grownBy w4 vo.ownBlock) (hn : v'.ownBlock = vo.ownBlock ∨ v'.ownBlock = some w2.heap.size) :
    Rq w0 w4 base v' (.slice none 0 0) (.slice none 0 0) (.slice none 0 0) (rs ++ [Raw.mk t (some ⟨w.heap.size, 0, none⟩) 1 1]) (es ++ [(t, [x])]) [] [] [] := by
  have hb1 : Below w.heap.size w w1 := by rw [hw1]; exact (alloc1 w _).trans ((alloc1 _ _).mono (by simp))
  have hb2 : Below w.heap.size w w2 := hb1.trans (hw2.mono hb1.size)
  have hx : w2.heap[w.heap.size]? = some (.cells #[.string s, .bool x.2] 59 (0, 0)) := by
    have h0 := heap_alloc_new w (.cells #[.string s, .bool x.2] 59)
    have h1 : w1.heap[w.heap.size]? = some (.cells #[.string s, .bool x.2] 59 (0, 0)) := by
      rw [hw1, (alloc1 _ _).block _ (by simp)]
      exact h0
    exact (hw2.block _ (L.blk_lt h1)).trans h1
  have hro : RawOk 0 w2 (Raw.mk t (some ⟨w.heap.size, 0, none⟩) 1 1) (t, [x]) := ⟨rfl, rfl, fun _ => ⟨w.heap.size, 0, rfl, L.blk_lt hx, fun j hj => by
    simp only [List.length_cons, List.length_nil, Nat.zero_add] at hj
    obtain rfl : j = 0 := by omega
    simp only [List.getElem_cons_zero, Nat.zero_mul, Nat.add_zero]
    rw [← hs]
    exact ⟨L.blk_cell hx 0, L.blk_cell hx 1⟩⟩, by simp, (fun e => by simp at e), fun p _ => Nat.zero_le _⟩
  exact h.addO hb2 hg (by rw [List.length_append, rawCells_app]; exact ho) hn hro (fun p hp => by
    obtain rfl := Option.some.inj hp
    exact ⟨Nat.le_refl _, L.blk_lt hx⟩)

set_option maxRecDepth 100000 in
set_option maxHeartbeats 8000000 in
theorem rmake_any (A B : Option Addr) (a b : List Ln) (c c' : Nat) (w : World) (hA : LinesIn w A a) (hB : LinesIn w B b) (ha : a.length ≤ 60) (hb : b.length ≤ 60) (hca : a.length ≤ c) (hcb : b.length ≤ c') :
    Calls Try.prog 16 #[.slice A a.length c, .slice B b.length c'] w (RnEnd w (norm (mkE a b)) 0) := by
  obtain ⟨i0, hi0, hz0, hz1, hz2⟩ := info_parts infoEdit
  have HA := Lib.hid hA
  have HB := Lib.hid hB
  obtain ⟨W0, hW0⟩ : ∃ W : World, W = w.alloc (.cells #[.slice A a.length c, .slice B b.length c'] 23) := ⟨_, rfl⟩
  have HB0 := Lib.hid (show Below w.heap.size w W0 by rw [hW0]; exact alloc1 _ _)
  have HNA : Hid (Calls Try.prog 30 #[.slice (some ⟨w.heap.size, 0, none⟩) 2 2] W0 (N.NmEnd W0 [N.row [] a, N.row (N.known [] a) b])) := Lib.hid (by
    have hX := heap_alloc_new w (.cells #[.slice A a.length c, .slice B b.length c'] 23)
    rw [← hW0] at hX
    refine N.rnumbers_any (some ⟨w.heap.size, 0, none⟩) 2 [a, b] W0 (fun _ => ⟨w.heap.size, 0, rfl, L.blk_lt hX, fun j hj => ?_⟩) (by simp) (fun l hl => by simp only [List.mem_cons, List.not_mem_nil, or_false] at hl; rcases hl with rfl | rfl <;> assumption)
    match j, hj with
    | 0, _ => exact ⟨A, c, L.blk_cell hX 0, hA.below HB0.out, hca⟩
    | 1, _ => exact ⟨B, c', L.blk_cell hX 1, hB.below HB0.out, hcb⟩)
  have HLX : Hid ((N.row [] a).length = a.length ∧ (N.row (N.known [] a) b).length = b.length) := Lib.hid ⟨N.row_length _ _, N.row_length _ _⟩
  have HMK : Hid (mkE a b = mk a b 0 0 (M.way (N.row [] a) (N.row (N.known [] a) b))) := Lib.hid rfl
  have HLA : Hid (∀ i W, Below w.heap.size w W → i < a.length → ∃ bk off, A = some ⟨bk, off, none⟩ ∧ bk < W.heap.size ∧ W.cell? ⟨bk, off + i * 2, none⟩ = some (.string ⟨(lnAt a i).1.toArray⟩) ∧ W.cell? ⟨bk, off + i * 2 + 1, none⟩ = some (.bool (lnAt a i).2)) := Lib.hid (fun i W h hi => line_at (hA.below h) hi)
  have HLB : Hid (∀ i W, Below w.heap.size w W → i < b.length → ∃ bk off, B = some ⟨bk, off, none⟩ ∧ bk < W.heap.size ∧ W.cell? ⟨bk, off + i * 2, none⟩ = some (.string ⟨(lnAt b i).1.toArray⟩) ∧ W.cell? ⟨bk, off + i * 2 + 1, none⟩ = some (.bool (lnAt b i).2)) := Lib.hid (fun i W h hi => line_at (hB.below h) hi)
  clear hA hB
  generalize N.row [] a = x at *
  generalize N.row (N.known [] a) b = y at *
  obtain ⟨la, hla⟩ : ∃ n, n = a.length := ⟨_, rfl⟩
  obtain ⟨lb, hlb⟩ : ∃ n, n = b.length := ⟨_, rfl⟩
  rw [← hla] at ha hca HLX HLA hW0 ⊢
  rw [← hlb] at hb hcb HLX HLB hW0 ⊢
  clear hla hlb
  have g1 : decide ((400 : Int) < (la : Int)) = false := decide_eq_false (by omega)
  have g2 : decide ((400 : Int) < (lb : Int)) = false := decide_eq_false (by omega)
  go_enter Try.func16, Try.ntmps16
  go_wp2_with fail
  rw [← hW0]
  clear hW0 g1 g2
  with_reducible refine (HNA.out).mono ?_
  rintro e w1 ⟨NA, ncap, vs, rfl, hno, hrw, hb1⟩
  have hvl : vs.length = 2 := hrw.1
  match vs, hvl with
  | [v0, v1], _ =>
  have HO0 := Lib.hid (hrw.2 0 (by simp) (by simp))
  have HO1 := Lib.hid (hrw.2 1 (by simp) (by simp))
  simp only [List.getElem_cons_zero, List.getElem_cons_succ] at HO0 HO1
  obtain ⟨XA, xc, rfl, -, -⟩ := own_form HO0.out
  obtain ⟨YA, yc, rfl, -, -⟩ := own_form HO1.out
  obtain ⟨g, rfl, -, hg2, hgc⟩ := own_at hno (by simp)
  have c0 := hgc 0 _ rfl
  have c1 := hgc 1 _ rfl
  have HX1 := Lib.hid (ints_own HO0.out)
  have HY1 := Lib.hid (ints_own HO1.out)
  have HBW := Lib.hid (HB0.out.trans (hb1.mono HB0.out.size))
  have HST := Lib.hid (M.rsteps_any XA YA x y xc yc w1.drew (HX1.out.below ((Below.refl _ w1).drew)) (HY1.out.below ((Below.refl _ w1).drew)) (by rw [HLX.out.1]; omega) (by rw [HLX.out.2]; omega))
  clear hno hrw hgc hvl HO0 HO1 hb1
  go_upto_region 4 with fail
  go_cut [7] (fun v w2 => ∃ SA sc, v = .slice SA (M.way x y).length sc ∧ Hid (w2.ownsRow w1.drew.heap.size 52 1 (.slice SA (M.way x y).length sc) (M.way x y).length (numCells (M.way x y))) ∧ Hid (Below w1.drew.heap.size w1.drew w2))
  case first =>
    go_region_with ((go_at_call 31; refine (HST.out).mono ?_; rintro e w2 ⟨SA, sc, rfl, hso, hb2⟩; have HSO := Lib.hid hso; have HSB := Lib.hid hb2; clear hso hb2))
    all_goals
      go_wp2_with fail
      go_meet
      case rel => exact ⟨SA, sc, rfl, HSO, HSB⟩
  case rest =>
  obtain ⟨SA, sc, rfl, HSO, HSB⟩ := hcut
  clear c0 c1
  generalize wc = w2 at *
  have hso := HSO.out
  have hb2 := HSB.out
  clear HSO HSB
  have HB2 : Hid (Below w.heap.size w w2) := Lib.hid (HBW.out.trans ((((Below.refl _ w1).drew).trans hb2).mono HBW.out.size))
  have HWL := Lib.hid (M.way_le _ x y (Nat.le_refl _))
  have HW0 : Hid (M.way x y = M.Wy x y 0 0) := Lib.hid rfl
  have HWM := Lib.hid (M.way_mem _ x y (Nat.le_refl _))
  obtain ⟨s, hs⟩ : ∃ s, s = M.way x y := ⟨_, rfl⟩
  rw [← hs] at HWL HW0 hso HMK HWM ⊢
  have hsl : s.length ≤ 120 := by have := HWL.out; have := HLX.out; omega
  have HSC := Lib.hid (steps_cells hso)
  obtain ⟨ls, hls⟩ : ∃ n, n = s.length := ⟨_, rfl⟩
  have HLS := Lib.hid hls
  rw [← hls] at hsl ⊢
  have HQ0 := Lib.hid (Rq.begin w2 w2 (Below.refl _ _))
  clear hso hb2 HST hs HWL hls
  go_wp2_with fail
  go_loopg [8, 9, 10, 11] ls (fun mm sv i j k wr => ∃ (i' j' k' : Nat) (rs : List Raw) (es : List Ed), i = .int .i64 (i' : Int) ∧ j = .int .i64 (j' : Int) ∧ k = .int .i64 (k' : Int) ∧ k' ≤ ls ∧ i' ≤ la ∧ j' ≤ lb ∧ ls - k' ≤ mm ∧ Hid (s.drop k' = M.Wy x y i' j') ∧ Hid (mkE a b = es ++ mk a b i' j' (s.drop k')) ∧ rs.length = k' ∧ Hid (Rq w2 wr w2.heap.size sv (.slice none 0 0) (.slice none 0 0) (.slice none 0 0) rs es [] [] []))
  case atStart => exact ⟨0, 0, 0, [], [], rfl, rfl, rfl, Nat.zero_le _, Nat.zero_le _, Nat.zero_le _, by omega, Lib.hid HW0.out, Lib.hid HMK.out, rfl, HQ0⟩
  case round =>
    clear HQ0
    obtain ⟨i, j, k, rs, es, rfl, rfl, rfl, hk, hi, hj, hmm, HD, HME, hrl, HQ⟩ := hrel
    obtain ⟨oA, ocap, rfl, -, -⟩ := own_form HQ.out.o
    by_cases hlt : k < ls
    · have hks : k < s.length := by have := HLS.out; omega
      obtain ⟨g', hSA, _, hg2', hsc⟩ := HSC.out (by omega)
      subst hSA
      have HCK : Hid (∀ W, Below w2.heap.size w2 W → W.cell? ⟨g', k, none⟩ = some (.int .i64 s[k])) := Lib.hid (fun W h => (h.cell (p := ⟨g', k, none⟩) hg2').trans (hsc k hks))
      have HDR : Hid (s.drop k = s[k] :: s.drop (k + 1)) := Lib.hid (List.drop_eq_getElem_cons hks)
      have HDD := Lib.hid (HDR.out.symm.trans HD.out).symm
      obtain ⟨t, ht⟩ : ∃ t, t = s[k] := ⟨_, rfl⟩
      rw [← ht] at HCK HDD HDR
      have HNX := Lib.hid (M.Wy_next HDD.out)
      have c0 := HCK.out wr HQ.out.b
      have hbr := HQ.out.hs
      have k0 : (0 : Int) ≤ (k : Int) := by omega
      have k1 : (k : Int) < (ls : Int) := by omega
      have HBX : Hid (Below w.heap.size w wr) := Lib.hid (HB2.out.trans (HQ.out.b.mono HB2.out.size))
      clear ht hsc hks HDD HD
      rcases HNX.out with ⟨rfl, hr, hix, hjx, he⟩ | ⟨rfl, hr, hix⟩ | ⟨rfl, hr, hjx⟩
      · have HR := Lib.hid hr
        have qj : j < lb := by have := HLX.out; omega
        clear hjx he
        obtain ⟨bk, off, hLe, hbk, l0, l1⟩ := HLA.out i wr HBX.out (by have := HLX.out; omega)
        subst hLe
        have HMK2 : Hid (mkE a b = (es ++ [(1, [lnAt a i])]) ++ mk a b (i + 1) (j + 1) (s.drop (k + 1))) := Lib.hid (by rw [HME.out, HDR.out, List.append_assoc]; rfl)
        have q0 : i < la := by have := HLX.out; omega
        have q1 : (0 : Int) ≤ (i : Int) := by omega
        have q2 : (i : Int) < (la : Int) := by omega
        obtain ⟨z, hz⟩ : ∃ z, z = lnAt a i := ⟨_, rfl⟩
        rw [← hz] at HMK2 l0 l1
        obtain ⟨zs, hzs⟩ : ∃ q : ByteArray, q = ⟨z.1.toArray⟩ := ⟨_, rfl⟩
        obtain ⟨zb, hzb⟩ : ∃ q : Bool, q = z.2 := ⟨_, rfl⟩
        rw [← hzs] at l0
        rw [← hzb] at l1
        have HZS := Lib.hid (And.intro hzs hzb)
        clear hr hz hzs hzb
        go_upto_region 13 with fail
        go_cut [8] (fun v wx => ∃ vA vcap, v = .slice vA (k + 1) vcap ∧ Hid (Rq w2 wx w2.heap.size (.slice vA (k + 1) vcap) (.slice none 0 0) (.slice none 0 0) (.slice none 0 0) (rs ++ [Raw.mk 1 (some ⟨wr.heap.size, 0, none⟩) 1 1]) (es ++ [(1, [z])]) [] [] []))
        case first =>
          have cA : ∀ o, (wr.alloc o).cell? ⟨g', k, none⟩ = some (.int .i64 1) := fun o => HCK.out _ (HQ.out.b.trans ((alloc1 wr o).mono HQ.out.b.size))
          have HOA : Hid (((wr.alloc (.cells #[.string zs, .bool zb] 59)).alloc (.cells #[.int .i64 1, .slice (some ⟨wr.heap.size, 0, none⟩) 1 1] 54)).drew.ownsRow w2.heap.size 54 2 (.slice oA rs.length ocap) rs.length (rawCells rs)) := Lib.hid (World.ownsRow.alloc (HQ.out.o.alloc _) _)
          have HNW := Lib.hid (World.news_of_block (B := wr.heap.size + 1) (w := ((wr.alloc (.cells #[.string zs, .bool zb] 59)).alloc (.cells #[.int .i64 1, .slice (some ⟨wr.heap.size, 0, none⟩) 1 1] 54)).drew) (by
            have h := heap_alloc_new (wr.alloc (.cells #[.string zs, .bool zb] 59)) (.cells #[.int .i64 1, .slice (some ⟨wr.heap.size, 0, none⟩) 1 1] 54)
            rw [show (wr.alloc (.cells #[.string zs, .bool zb] 59)).heap.size = wr.heap.size + 1 by simp] at h
            exact h))
          have hsz : w2.heap.size ≤ ((wr.alloc (.cells #[.string zs, .bool zb] 59)).alloc (.cells #[.int .i64 1, .slice (some ⟨wr.heap.size, 0, none⟩) 1 1] 54)).drew.heap.size := by simp; omega
          have H1C : Hid (∀ u ∈ ([.int .i64 1, .slice (some ⟨wr.heap.size, 0, none⟩) 1 1] : List Value), u.oneCell' = true) := Lib.hid (by intro u hu; simp at hu; rcases hu with rfl | rfl <;> rfl)
          go_region_law ((refine step_append_lies _ (by rfl) (.tmp 56) (.tmp 67) 40 (by rfl) w2.heap.size 54 i0 _ 2 32 Try.underlying40 hi0 hz0 hz1 hz2 rfl (by decide) (.slice oA rs.length ocap) rs.length (rawCells rs) (by first | rfl | (rw [hrl]; rfl)) HOA.out ⟨wr.heap.size + 1, 0, none⟩ 1 1 [.int .i64 1, .slice (some ⟨wr.heap.size, 0, none⟩) 1 1] (by rfl) rfl HNW.out H1C.out (by omega) (by unfold maxLen; omega) (by omega) hsz _ rfl ?_; intro g3 cap3 w4 hown3 hgrow3 hat3 hlt3))
          all_goals
            have HX3 := Lib.hid (HQ.out.line 1 z zs HZS.out.1 (by rw [← HZS.out.2]) ((Below.refl _ _).drew) hown3 hgrow3 (by
              rcases hat3 with h | h
              · exact .inl h.symm
              · exact .inr (by rw [h]; rfl)))
            clear hown3 hgrow3 hat3 hlt3
            go_wp2_with fail
            go_meet
            case rel => exact ⟨some ⟨g3, 0, none⟩, cap3, rfl, by have e := HX3; rw [hrl] at e; exact e⟩
        case rest =>
        obtain ⟨vA, vcap, rfl, HQ4⟩ := hcut
        clear c0 l0 l1 HQ
        generalize wc = w4 at *
        have c0 := HCK.out w4 HQ4.out.b
        go_wp2_with fail
        go_roundg (ls - (k + 1))
        case measure => omega
        case rel => exact ⟨i + 1, j + 1, k + 1, _, _, by go_num, by go_num, by go_num, by omega, by omega, by omega, Nat.le_refl _, Lib.hid HR.out, HMK2, by rw [List.length_append, hrl]; rfl, HQ4⟩
      · have HR := Lib.hid hr
        skip
        obtain ⟨bk, off, hLe, hbk, l0, l1⟩ := HLA.out i wr HBX.out (by have := HLX.out; omega)
        subst hLe
        have HMK2 : Hid (mkE a b = (es ++ [(2, [lnAt a i])]) ++ mk a b (i + 1) j (s.drop (k + 1))) := Lib.hid (by rw [HME.out, HDR.out, List.append_assoc]; rfl)
        have q0 : i < la := by have := HLX.out; omega
        have q1 : (0 : Int) ≤ (i : Int) := by omega
        have q2 : (i : Int) < (la : Int) := by omega
        obtain ⟨z, hz⟩ : ∃ z, z = lnAt a i := ⟨_, rfl⟩
        rw [← hz] at HMK2 l0 l1
        obtain ⟨zs, hzs⟩ : ∃ q : ByteArray, q = ⟨z.1.toArray⟩ := ⟨_, rfl⟩
        obtain ⟨zb, hzb⟩ : ∃ q : Bool, q = z.2 := ⟨_, rfl⟩
        rw [← hzs] at l0
        rw [← hzb] at l1
        have HZS := Lib.hid (And.intro hzs hzb)
        clear hr hz hzs hzb
        go_upto_region 13 with fail
        go_cut [8] (fun v wx => ∃ vA vcap, v = .slice vA (k + 1) vcap ∧ Hid (Rq w2 wx w2.heap.size (.slice vA (k + 1) vcap) (.slice none 0 0) (.slice none 0 0) (.slice none 0 0) (rs ++ [Raw.mk 2 (some ⟨wr.heap.size, 0, none⟩) 1 1]) (es ++ [(2, [z])]) [] [] []))
        case first =>
          have cA : ∀ o, (wr.alloc o).cell? ⟨g', k, none⟩ = some (.int .i64 2) := fun o => HCK.out _ (HQ.out.b.trans ((alloc1 wr o).mono HQ.out.b.size))
          have HOA : Hid (((wr.alloc (.cells #[.string zs, .bool zb] 59)).alloc (.cells #[.int .i64 2, .slice (some ⟨wr.heap.size, 0, none⟩) 1 1] 54)).drew.ownsRow w2.heap.size 54 2 (.slice oA rs.length ocap) rs.length (rawCells rs)) := Lib.hid (World.ownsRow.alloc (HQ.out.o.alloc _) _)
          have HNW := Lib.hid (World.news_of_block (B := wr.heap.size + 1) (w := ((wr.alloc (.cells #[.string zs, .bool zb] 59)).alloc (.cells #[.int .i64 2, .slice (some ⟨wr.heap.size, 0, none⟩) 1 1] 54)).drew) (by
            have h := heap_alloc_new (wr.alloc (.cells #[.string zs, .bool zb] 59)) (.cells #[.int .i64 2, .slice (some ⟨wr.heap.size, 0, none⟩) 1 1] 54)
            rw [show (wr.alloc (.cells #[.string zs, .bool zb] 59)).heap.size = wr.heap.size + 1 by simp] at h
            exact h))
          have hsz : w2.heap.size ≤ ((wr.alloc (.cells #[.string zs, .bool zb] 59)).alloc (.cells #[.int .i64 2, .slice (some ⟨wr.heap.size, 0, none⟩) 1 1] 54)).drew.heap.size := by simp; omega
          have H1C : Hid (∀ u ∈ ([.int .i64 2, .slice (some ⟨wr.heap.size, 0, none⟩) 1 1] : List Value), u.oneCell' = true) := Lib.hid (by intro u hu; simp at hu; rcases hu with rfl | rfl <;> rfl)
          go_region_law ((refine step_append_lies _ (by rfl) (.tmp 56) (.tmp 67) 40 (by rfl) w2.heap.size 54 i0 _ 2 32 Try.underlying40 hi0 hz0 hz1 hz2 rfl (by decide) (.slice oA rs.length ocap) rs.length (rawCells rs) (by first | rfl | (rw [hrl]; rfl)) HOA.out ⟨wr.heap.size + 1, 0, none⟩ 1 1 [.int .i64 2, .slice (some ⟨wr.heap.size, 0, none⟩) 1 1] (by rfl) rfl HNW.out H1C.out (by omega) (by unfold maxLen; omega) (by omega) hsz _ rfl ?_; intro g3 cap3 w4 hown3 hgrow3 hat3 hlt3))
          all_goals
            have HX3 := Lib.hid (HQ.out.line 2 z zs HZS.out.1 (by rw [← HZS.out.2]) ((Below.refl _ _).drew) hown3 hgrow3 (by
              rcases hat3 with h | h
              · exact .inl h.symm
              · exact .inr (by rw [h]; rfl)))
            clear hown3 hgrow3 hat3 hlt3
            go_wp2_with fail
            go_meet
            case rel => exact ⟨some ⟨g3, 0, none⟩, cap3, rfl, by have e := HX3; rw [hrl] at e; exact e⟩
        case rest =>
        obtain ⟨vA, vcap, rfl, HQ4⟩ := hcut
        clear c0 l0 l1 HQ
        generalize wc = w4 at *
        have c0 := HCK.out w4 HQ4.out.b
        go_wp2_with fail
        go_roundg (ls - (k + 1))
        case measure => omega
        case rel => exact ⟨i + 1, j, k + 1, _, _, by go_num, by go_num, by go_num, by omega, by omega, by omega, Nat.le_refl _, Lib.hid HR.out, HMK2, by rw [List.length_append, hrl]; rfl, HQ4⟩
      · have HR := Lib.hid hr
        skip
        obtain ⟨bk, off, hLe, hbk, l0, l1⟩ := HLB.out j wr HBX.out (by have := HLX.out; omega)
        subst hLe
        have HMK2 : Hid (mkE a b = (es ++ [(3, [lnAt b j])]) ++ mk a b i (j + 1) (s.drop (k + 1))) := Lib.hid (by rw [HME.out, HDR.out, List.append_assoc]; rfl)
        have q0 : j < lb := by have := HLX.out; omega
        have q1 : (0 : Int) ≤ (j : Int) := by omega
        have q2 : (j : Int) < (lb : Int) := by omega
        obtain ⟨z, hz⟩ : ∃ z, z = lnAt b j := ⟨_, rfl⟩
        rw [← hz] at HMK2 l0 l1
        obtain ⟨zs, hzs⟩ : ∃ q : ByteArray, q = ⟨z.1.toArray⟩ := ⟨_, rfl⟩
        obtain ⟨zb, hzb⟩ : ∃ q : Bool, q = z.2 := ⟨_, rfl⟩
        rw [← hzs] at l0
        rw [← hzb] at l1
        have HZS := Lib.hid (And.intro hzs hzb)
        clear hr hz hzs hzb
        go_upto_region 12 with fail
        go_cut [8] (fun v wx => ∃ vA vcap, v = .slice vA (k + 1) vcap ∧ Hid (Rq w2 wx w2.heap.size (.slice vA (k + 1) vcap) (.slice none 0 0) (.slice none 0 0) (.slice none 0 0) (rs ++ [Raw.mk 3 (some ⟨wr.heap.size, 0, none⟩) 1 1]) (es ++ [(3, [z])]) [] [] []))
        case first =>
          have cA : ∀ o, (wr.alloc o).cell? ⟨g', k, none⟩ = some (.int .i64 3) := fun o => HCK.out _ (HQ.out.b.trans ((alloc1 wr o).mono HQ.out.b.size))
          have HOA : Hid (((wr.alloc (.cells #[.string zs, .bool zb] 59)).alloc (.cells #[.int .i64 3, .slice (some ⟨wr.heap.size, 0, none⟩) 1 1] 54)).drew.ownsRow w2.heap.size 54 2 (.slice oA rs.length ocap) rs.length (rawCells rs)) := Lib.hid (World.ownsRow.alloc (HQ.out.o.alloc _) _)
          have HNW := Lib.hid (World.news_of_block (B := wr.heap.size + 1) (w := ((wr.alloc (.cells #[.string zs, .bool zb] 59)).alloc (.cells #[.int .i64 3, .slice (some ⟨wr.heap.size, 0, none⟩) 1 1] 54)).drew) (by
            have h := heap_alloc_new (wr.alloc (.cells #[.string zs, .bool zb] 59)) (.cells #[.int .i64 3, .slice (some ⟨wr.heap.size, 0, none⟩) 1 1] 54)
            rw [show (wr.alloc (.cells #[.string zs, .bool zb] 59)).heap.size = wr.heap.size + 1 by simp] at h
            exact h))
          have hsz : w2.heap.size ≤ ((wr.alloc (.cells #[.string zs, .bool zb] 59)).alloc (.cells #[.int .i64 3, .slice (some ⟨wr.heap.size, 0, none⟩) 1 1] 54)).drew.heap.size := by simp; omega
          have H1C : Hid (∀ u ∈ ([.int .i64 3, .slice (some ⟨wr.heap.size, 0, none⟩) 1 1] : List Value), u.oneCell' = true) := Lib.hid (by intro u hu; simp at hu; rcases hu with rfl | rfl <;> rfl)
          go_region_law ((refine step_append_lies _ (by rfl) (.tmp 43) (.tmp 54) 40 (by rfl) w2.heap.size 54 i0 _ 2 32 Try.underlying40 hi0 hz0 hz1 hz2 rfl (by decide) (.slice oA rs.length ocap) rs.length (rawCells rs) (by first | rfl | (rw [hrl]; rfl)) HOA.out ⟨wr.heap.size + 1, 0, none⟩ 1 1 [.int .i64 3, .slice (some ⟨wr.heap.size, 0, none⟩) 1 1] (by rfl) rfl HNW.out H1C.out (by omega) (by unfold maxLen; omega) (by omega) hsz _ rfl ?_; intro g3 cap3 w4 hown3 hgrow3 hat3 hlt3))
          all_goals
            have HX3 := Lib.hid (HQ.out.line 3 z zs HZS.out.1 (by rw [← HZS.out.2]) ((Below.refl _ _).drew) hown3 hgrow3 (by
              rcases hat3 with h | h
              · exact .inl h.symm
              · exact .inr (by rw [h]; rfl)))
            clear hown3 hgrow3 hat3 hlt3
            go_wp2_with fail
            go_meet
            case rel => exact ⟨some ⟨g3, 0, none⟩, cap3, rfl, by have e := HX3; rw [hrl] at e; exact e⟩
        case rest =>
        obtain ⟨vA, vcap, rfl, HQ4⟩ := hcut
        clear c0 l0 l1 HQ
        generalize wc = w4 at *
        have c0 := HCK.out w4 HQ4.out.b
        go_wp2_with fail
        go_roundg (ls - (k + 1))
        case measure => omega
        case rel => exact ⟨i, j + 1, k + 1, _, _, by go_num, by go_num, by go_num, by omega, by omega, by omega, Nat.le_refl _, Lib.hid HR.out, HMK2, by rw [List.length_append, hrl]; rfl, HQ4⟩
    · have hke : k = ls := by omega
      have HEQ : Hid (es = mkE a b) := Lib.hid (by
        have h1 := HME.out
        rw [List.drop_eq_nil_of_le (by have := HLS.out; omega)] at h1
        rw [h1]; simp [mk])
      have HEL : Hid (rs.length = (mkE a b).length) := Lib.hid (by rw [← HEQ.out]; exact HQ.out.r.1)
      have HBA : Hid (Below w.heap.size w wr) := Lib.hid (HB2.out.trans (HQ.out.b.mono HB2.out.size))
      have HCK : Hid (ck (mkE a b) = 0) := Lib.hid (by rw [HMK.out]; exact mk_ck (by have := HLS.out; omega) HWM.out)
      have HEI : Hid (EdsIn 0 wr oA (mkE a b)) := Lib.hid (by
        have ho := HQ.out.o
        have hr := HQ.out.r
        rw [HEQ.out] at hr
        rw [HEL.out] at ho
        exact raws_eds ho hr (Nat.zero_le _))
      have HNG : Hid (Calls Try.prog 32 #[.slice oA rs.length ocap] wr (RnEnd wr (norm (mkE a b)) 0)) := Lib.hid (by
        have := rnormal_good oA ocap 0 (mkE a b) wr HEI.out (EdsOk.of_ck HCK.out) HCK.out
        rw [← HEL.out] at this
        exact this)
      clear HEI hke hrl HEQ
      go_wp2_with fail
      with_reducible refine (HNG.out).mono ?_
      rintro e w4 ⟨NA, ncap, rfl, hE4, hb4⟩
      have HE4 := Lib.hid hE4
      have HB4 : Hid (Below w.heap.size w w4) := Lib.hid (HBA.out.trans (hb4.mono HBA.out.size))
      clear hE4 hb4
      go_wp2_with fail
      go_ret2
      exact ⟨NA, ncap, rfl, HE4.out, HB4.out⟩
end Go.Proofs.Ytigghcmbdnidnaa.S

namespace Go.Proofs.Ytigghcmbdnidnaa.S
open Go.RowKit
open T
open V (grown_of IntsIn numCells numCells_snoc ints_own drawn_below)
open I (alloc1 own_at own_below)
open N (Ln)
open M (Lv)

theorem five (w : World) (o0 o1 o2 o3 o4 : Obj) : ∃ W : World, W = ((((w.alloc o0).alloc o1).alloc o2).alloc o3).alloc o4 ∧ W.heap[w.heap.size]? = some o0 ∧ W.heap[w.heap.size + 1]? = some o1 ∧ W.heap[w.heap.size + 1 + 1]? = some o2 ∧ W.heap[w.heap.size + 1 + 1 + 1]? = some o3 ∧ W.heap[w.heap.size + 1 + 1 + 1 + 1]? = some o4 ∧ Below w.heap.size w W := by
  have step : ∀ (V : World) (o : Obj) (k : Nat) (q : Obj), V.heap[k]? = some q → (V.alloc o).heap[k]? = some q := fun V o k q h => ((alloc1 V o).block k (Array.getElem?_eq_some_iff.1 h).1).trans h
  have new : ∀ (V : World) (o : Obj) (k : Nat), V.heap.size = k → (V.alloc o).heap[k]? = some o := fun V o k h => by subst h; exact heap_alloc_new V o
  refine ⟨_, rfl, ?_, ?_, ?_, ?_, ?_, ?_⟩
  · exact step _ _ _ _ (step _ _ _ _ (step _ _ _ _ (step _ _ _ _ (new _ _ _ rfl))))
  · exact step _ _ _ _ (step _ _ _ _ (step _ _ _ _ (new _ _ _ (by simp))))
  · exact step _ _ _ _ (step _ _ _ _ (new _ _ _ (by simp)))
  · exact step _ _ _ _ (new _ _ _ (by simp))
  · exact new _ _ _ (by simp)
  · exact ((((alloc1 w o0).alloc (by simp) _).alloc (by simp; omega) _).alloc (by simp; omega) _).alloc (by simp; omega) _
theorem four (w : World) (o0 o1 o2 o3 : Obj) : ∃ W : World, W = (((w.alloc o0).alloc o1).alloc o2).alloc o3 ∧ W.heap[w.heap.size]? = some o0 ∧ W.heap[w.heap.size + 1]? = some o1 ∧ W.heap[w.heap.size + 1 + 1]? = some o2 ∧ W.heap[w.heap.size + 1 + 1 + 1]? = some o3 ∧ Below w.heap.size w W := by
  have step : ∀ (V : World) (o : Obj) (k : Nat) (q : Obj), V.heap[k]? = some q → (V.alloc o).heap[k]? = some q := fun V o k q h => ((alloc1 V o).block k (Array.getElem?_eq_some_iff.1 h).1).trans h
  have new : ∀ (V : World) (o : Obj) (k : Nat), V.heap.size = k → (V.alloc o).heap[k]? = some o := fun V o k h => by subst h; exact heap_alloc_new V o
  refine ⟨_, rfl, ?_, ?_, ?_, ?_, ?_⟩
  · exact step _ _ _ _ (step _ _ _ _ (step _ _ _ _ (new _ _ _ rfl)))
  · exact step _ _ _ _ (step _ _ _ _ (new _ _ _ (by simp)))
  · exact step _ _ _ _ (new _ _ _ (by simp))
  · exact new _ _ _ (by simp)
  · exact (((alloc1 w o0).alloc (by simp) _).alloc (by simp; omega) _).alloc (by simp; omega) _
abbrev lnA : Ln := ([97], false)
abbrev lnB : Ln := ([98], false)
abbrev lnC : Ln := ([99], false)
theorem lines_two {w : World} {g : Nat} {x y : Ln} (h : w.heap[g]? = some (.cells #[.string ⟨x.1.toArray⟩, .bool x.2, .string ⟨y.1.toArray⟩, .bool y.2] 59 (0, 0))) : LinesIn w (some ⟨g, 0, none⟩) [x, y] := fun _ => ⟨g, 0, rfl, L.blk_lt h, fun j hj => by
  match j, hj with
  | 0, _ => exact ⟨L.blk_cell h 0, L.blk_cell h 1⟩
  | 1, _ => exact ⟨L.blk_cell h 2, L.blk_cell h 3⟩⟩
theorem lines_ones {w : World} {g : Nat} {x : Ln} (h : w.heap[g]? = some (.cells #[.string ⟨x.1.toArray⟩, .bool x.2] 59 (0, 0))) : LinesIn w (some ⟨g, 0, none⟩) [x] := fun _ => ⟨g, 0, rfl, L.blk_lt h, fun j hj => by
  match j, hj with
  | 0, _ => exact ⟨L.blk_cell h 0, L.blk_cell h 1⟩⟩
theorem way8 : mkE [lnA, lnB] [lnA, lnC] = [(1, [lnA]), (2, [lnB]), (3, [lnC])] := by
  have h1 : N.row [] [lnA, lnB] = [0, 1] := by decide
  have h2 : N.row (N.known [] [lnA, lnB]) [lnA, lnC] = [0, 2] := by decide
  have h3 : M.way [0, 1] [0, 2] = [1, 2, 3] := by simp [M.way, M.ed]
  unfold mkE
  rw [h1, h2, h3]
  simp [mk, lnAt]
theorem norm8 : norm [(1, [lnA]), (2, [lnB]), (3, [lnC])] = [(1, [lnA]), (2, [lnB]), (3, [lnC])] := by
  simp [norm, laid, nsts, nst, tag, grp]
theorem chg8 : chg [(1, [lnA]), (2, [lnB]), (3, [lnC])] = 2 := by
  rw [chg_small (by simp [tl])]
  simp [chgN]

end Go.Proofs.Ytigghcmbdnidnaa.S

namespace Go.Proofs.Ytigghcmbdnidnaa.N
set_option linter.unusedVariables false
set_option linter.unusedSimpArgs false
open Go.RowKit
open T
open V (IntsIn numCells numCells_snoc ints_own drawn_below)
open I (alloc1 own_at own_below)

/-- Ends, of two rows whose capacities are told. -/
def EcC (fn : FuncId) (a b : List Int) : Prop := ∀ (W : World) (A B : Option Addr) (c c' : Nat), IntsIn W A a → IntsIn W B b → a.length ≤ c → b.length ≤ c' → Calls Try.prog fn #[.slice A a.length c, .slice B b.length c'] W fun e w' => e = .returned (.tuple #[.int .i64 (cpl a b : Nat), .int .i64 (csl a b : Nat)]) ∧ Below W.heap.size W w'

theorem ints_drop {w : World} {A : Option Addr} {a : List Int} (h : IntsIn w A a) (k : Nat) : IntsIn w (Option.map (fun x => x.add k) A) (a.drop k) := fun hp => by
  obtain ⟨bk, off, rfl, hlt, hI⟩ := h (by simp at hp; omega)
  refine ⟨bk, off + k, by simp [Addr.add], hlt, fun j hj => ?_⟩
  rw [List.getElem_drop, Nat.add_assoc]
  exact hI (k + j) (by simp at hj; omega)
theorem ints_gone {w : World} {A : Option Addr} {a : List Int} {k : Nat} (h : a.length ≤ k) : IntsIn w A (a.drop k) := fun hp => absurd hp (by simp; omega)

end Go.Proofs.Ytigghcmbdnidnaa.N

namespace Go.Proofs.Ytigghcmbdnidnaa.V
set_option linter.unusedVariables false
set_option linter.unusedSimpArgs false
open Go.RowKit
open T
open I (It Lb ItemsIn ItemsAt ItemsOk itCells itCells_snoc itCells_at items_cells own_at own_below alloc1)

def lvIts : List It := [⟨4, 0, 0, false, [97], false⟩, ⟨5, 1, 0, false, [98], false⟩, ⟨6, 0, 0, true, [], false⟩]
def lvLns : List (List UInt8 × Bool) := [([97], false), ([46, 46, 46], false)]
def lvCut : List It := [⟨4, 0, 0, false, [97], false⟩, ⟨6, 0, 0, true, [], false⟩]
theorem lvLns_is : lns [46, 46, 46] (cut (0, 0) lvIts) = lvLns := by decide
theorem lvCut_is : cut (0, 0) lvIts = lvCut := by decide
theorem lvAts_is : atI (0, 0) lvIts = [0, 2] := by decide
def lvIC : Array Value := #[.int .i64 4, .int .i64 0, .int .u64 0, .bool false, .string ⟨#[97]⟩, .bool false, .int .i64 5, .int .i64 1, .int .u64 0, .bool false, .string ⟨#[98]⟩, .bool false, .int .i64 6, .int .i64 0, .int .u64 0, .bool true, .string ⟨#[]⟩, .bool false]
theorem VoC.at0 {fn : FuncId} {A : Option Addr} {n cap : Nat} {hx : ByteArray} {l : List It} {ls : List (List UInt8 × Bool)} {ts : List Int} (h : VoC fn A n cap 0 0 hx l ls ts) (W : World) (h1 : ItemsIn W A l) :
    Calls Try.prog fn #[.slice A n cap, .agg #[.int .i64 0, .int .u64 0], .string hx] W (VoEnd W ls ts) := h W h1
theorem CuC.at0 {fn : FuncId} {A : Option Addr} {n cap : Nat} {l c : List It} (h : CuC fn A n cap 0 0 l c) (W : World) (h1 : ItemsIn W A l) : Calls Try.prog fn #[.slice A n cap, .agg #[.int .i64 0, .int .u64 0]] W (IsEnd W c) := h W h1
theorem ints_of_block {w : World} {g : Nat} {cs : Array Value} {xs : List Int} (h : w.heap[g]? = some (.cells cs 3 (0, 0))) (hc : cs.toList = numCells xs) : IntsIn w (some ⟨g, 0, none⟩) xs := fun hp => by
  refine ⟨g, 0, rfl, L.blk_lt h, fun j hj => ?_⟩
  rw [L.blk_cell h, Nat.zero_add]
  have : cs.toList[j]? = some (.int .i64 xs[j]) := by rw [hc]; simp [numCells, List.getElem?_eq_getElem hj]
  simpa using this
def I2C (fn : FuncId) (ds : List Int) (n : Nat) : Prop := ∀ (W : World) (A B : Option Addr) (c c' : Nat), IntsIn W A ds → IntsIn W B ds → Calls Try.prog fn #[.slice A ds.length c, .slice B n c'] W fun e w' => e = .returned (.bool true) ∧ Below W.heap.size W w'
theorem I2C.at {fn : FuncId} {ds : List Int} {n : Nat} (h : I2C fn ds n) (W : World) {A B : Option Addr} {c c' : Nat} (h1 : IntsIn W A ds) (h2 : IntsIn W B ds) : Calls Try.prog fn #[.slice A ds.length c, .slice B n c'] W fun e w' => e = .returned (.bool true) ∧ Below W.heap.size W w' := h W A B c c' h1 h2
end Go.Proofs.Ytigghcmbdnidnaa.V

namespace Go.Proofs.Ytigghcmbdnidnaa.N
set_option linter.unusedVariables false
set_option linter.unusedSimpArgs false
open Go.RowKit
open T
open V (grown_of IntsIn numCells numCells_snoc ints_own drawn_below ints_of_block I2C LvC rints_any)
open I (alloc1 own_at own_below)

def ll : List (List Ln) := [[([97], false), ([98], false), ([97], false)], [([99], false), ([98], false)]]
theorem ll_is : numsAll [] ll = [[0, 1, 0], [2, 1]] := by decide
theorem lines_of_block {w : World} {g : Nat} {cs : Array Value} {xs : List Ln} (h : w.heap[g]? = some (.cells cs 59 (0, 0))) (hc : cs.toList = lineCells xs) : LinesIn w (some ⟨g, 0, none⟩) xs := fun hp => by
  refine ⟨g, 0, rfl, L.blk_lt h, fun j hj => ?_⟩
  obtain ⟨h0, h1⟩ := lineCells_at xs j hj
  rw [← hc] at h0 h1
  rw [Nat.zero_add]
  exact ⟨(L.blk_cell h _).trans (by rw [← Array.getElem?_toList]; exact h0), (L.blk_cell h _).trans (by rw [← Array.getElem?_toList]; exact h1)⟩
theorem cn4 {ps : List (Int × Int)} (h : CnR [4] ps) : ps.length = 1 := by
  obtain ⟨cs, rfl, hc, -⟩ := h
  have h1 : Cn [4] [(4, 1)] := ⟨by simp, fun p hp => by simp at hp; subst hp; exact ⟨by simp, by decide⟩, fun n hn => by simp at hn; subst hn; exact ⟨(4, 1), by simp, rfl⟩⟩
  rw [hc.same h1]; rfl
theorem three (w : World) (o0 o1 o2 : Obj) : ∃ W : World, W = ((w.alloc o0).alloc o1).alloc o2 ∧ W.heap[w.heap.size]? = some o0 ∧ W.heap[w.heap.size + 1]? = some o1 ∧ W.heap[w.heap.size + 1 + 1]? = some o2 ∧ Below w.heap.size w W := by
  refine ⟨_, rfl, ?_, ?_, ?_, ?_⟩
  · exact V.alloc_old _ (V.alloc_old _ (V.alloc_at _ rfl))
  · exact V.alloc_old _ (V.alloc_at _ (by simp))
  · exact V.alloc_at _ (by simp)
  · exact ((alloc1 _ _).alloc (by simp) _).alloc (by simp; omega) _

end Go.Proofs.Ytigghcmbdnidnaa.N

namespace Go.Proofs.Ytigghcmbdnidnaa.N
set_option linter.unusedVariables false
set_option linter.unusedSimpArgs false
open Go.RowKit
open T
open V (grown_of IntsIn numCells numCells_snoc ints_own drawn_below LvC LvC.at rints_any)
open I (alloc1 own_at own_below)

/-- Rows of numbers in memory, to be read. -/
def RowsIn (w : World) (A : Option Addr) (rs : List (List Int)) : Prop :=
  0 < rs.length → ∃ bk, A = some ⟨bk, 0, none⟩ ∧ bk < w.heap.size ∧ ∀ j (h : j < rs.length), ∃ B c, w.cell? ⟨bk, j, none⟩ = some (.slice B rs[j].length c) ∧ IntsIn w B rs[j]
theorem RowsIn.below {w w' : World} {A : Option Addr} {rs : List (List Int)} (h : RowsIn w A rs) (hb : Below w.heap.size w w') : RowsIn w' A rs := fun hp => by
  obtain ⟨bk, e, hlt, hl⟩ := h hp
  refine ⟨bk, e, Nat.lt_of_lt_of_le hlt hb.size, fun j hj => ?_⟩
  obtain ⟨B, c, h1, h2⟩ := hl j hj
  exact ⟨B, c, (hb.cell (p := ⟨bk, j, none⟩) hlt).trans h1, h2.below hb⟩
theorem NmEnd.rows {W : World} {rs : List (List Int)} {e : Ending} {w' : World} (h : NmEnd W rs e w') : ∃ A cap, e = .returned (.slice A rs.length cap) ∧ RowsIn w' A rs ∧ Below W.heap.size W w' := by
  obtain ⟨A, cap, vs, rfl, ho, hr, hb⟩ := h
  refine ⟨A, cap, by rw [hr.1], fun hp => ?_, hb⟩
  obtain ⟨g, e, _, hg, hat⟩ := own_at ho (by rw [hr.1]; exact hp)
  refine ⟨g, e, hg, fun j hj => ?_⟩
  have hj' : j < vs.length := by rw [hr.1]; exact hj
  have hro := hr.2 j hj hj'
  obtain ⟨B, c, e2, -, -⟩ := own_form hro
  rw [e2] at hro
  exact ⟨B, c, hat j _ (by rw [List.getElem?_eq_getElem hj', e2]), ints_own hro⟩
theorem numsAll_rows : ∀ (ls : List (List Ln)) (ks : List Ln), ∀ r ∈ numsAll ks ls, ∃ l ∈ ls, r.length = l.length
  | [], _, r, h => by simp [numsAll] at h
  | l :: q, ks, r, h => by
    rw [numsAll, List.mem_cons] at h
    rcases h with rfl | h
    · exact ⟨l, by simp, row_length l ks⟩
    · obtain ⟨l', h1, h2⟩ := numsAll_rows q _ r h
      exact ⟨l', by simp [h1], h2⟩
theorem few_five (ls : List (List Ln)) : (fewL ls).length ≤ 5 := by unfold fewL; simp; omega
theorem few_sixty (ls : List (List Ln)) : ∀ l ∈ fewL ls, l.length ≤ 60 := fun l hl => by
  obtain ⟨q, _, rfl⟩ := List.mem_map.1 hl
  simp; omega
theorem few_lines {P : Ln → Prop} {ls : List (List Ln)} (h : ∀ l ∈ ls, ∀ y ∈ l, P y) : ∀ l ∈ fewL ls, ∀ y ∈ l, P y := fun l hl y hy => by
  obtain ⟨q, hq, rfl⟩ := List.mem_map.1 hl
  exact h q (List.mem_of_mem_take hq) y (List.mem_of_mem_take hy)

end Go.Proofs.Ytigghcmbdnidnaa.N

namespace Go.Proofs.Ytigghcmbdnidnaa.N
set_option linter.unusedVariables false
set_option linter.unusedSimpArgs false
open Go.RowKit
open T
open V (grown_of IntsIn numCells numCells_snoc ints_own drawn_below)
open I (alloc1 own_at own_below)

/-- Lines and their numbers: each number is the place of its line among those that are known. -/
structure Al (ks xs : List Ln) (ys : List Int) : Prop where
  len : ys.length = xs.length
  at_ : ∀ j (h : j < xs.length) (h' : j < ys.length), ys[j] = ((ks.idxOf xs[j] : Nat) : Int)
  mem : ∀ x ∈ xs, x ∈ ks
theorem Al.nil (ks : List Ln) : Al ks [] [] := ⟨rfl, fun j h => by simp at h, fun x hx => by simp at hx⟩
theorem mem_add (ks : List Ln) (x : Ln) : x ∈ add ks x := by unfold add; split <;> simp_all
theorem mem_add' {ks : List Ln} (x : Ln) {y : Ln} (h : y ∈ ks) : y ∈ add ks x := by unfold add; split <;> simp_all
theorem idx_add {ks : List Ln} (x : Ln) {y : Ln} (h : y ∈ ks) : (add ks x).idxOf y = ks.idxOf y := by
  unfold add
  split
  · rfl
  · rw [List.idxOf_append, if_pos h]
theorem Al.step {ks xs : List Ln} {ys : List Int} (h : Al ks xs ys) (x : Ln) : Al (add ks x) (xs ++ [x]) (ys ++ [(((add ks x).idxOf x : Nat) : Int)]) := by
  refine ⟨by simp [h.len], fun j hj hj' => ?_, fun y hy => ?_⟩
  · by_cases e : j < xs.length
    · have e' : j < ys.length := by rw [h.len]; exact e
      rw [List.getElem_append_left e', List.getElem_append_left e, h.at_ j e e', idx_add x (h.mem _ (List.getElem_mem e))]
    · obtain rfl : j = xs.length := by simp at hj; omega
      rw [List.getElem_append_right (by rw [h.len]; exact Nat.le_refl _), List.getElem_append_right (Nat.le_refl _)]
      simp [h.len]
  · rcases List.mem_append.1 hy with hy | hy
    · exact mem_add' x (h.mem y hy)
    · simp at hy; subst hy; exact mem_add ks y
theorem Al.alike {ks xs : List Ln} {ys : List Int} (h : Al ks xs ys) {i j : Nat} (hi : i < xs.length) (hj : j < xs.length) (hi' : i < ys.length) (hj' : j < ys.length) : ys[i] = ys[j] ↔ xs[i] = xs[j] := by
  rw [h.at_ i hi hi', h.at_ j hj hj']
  constructor
  · intro e
    have e' : ks.idxOf xs[i] = ks.idxOf xs[j] := by omega
    have mi := List.idxOf_lt_length_iff.2 (h.mem _ (List.getElem_mem hi))
    have mj := List.idxOf_lt_length_iff.2 (h.mem _ (List.getElem_mem hj))
    have ei := List.getElem_idxOf mi
    have ej := List.getElem_idxOf mj
    rw [← ei, ← ej]
    simp only [e']
  · intro e; rw [e]
theorem idx_le (ks : List Ln) (x : Ln) : (add ks x).idxOf x ≤ ks.length := by
  by_cases h : x ∈ ks
  · rw [idx_add x h]; exact List.idxOf_le_length
  · unfold add; rw [if_neg h, List.idxOf_append, if_neg h]; simp
theorem top_is (ks : List Ln) (x : Ln) : max ((ks.length : Nat) : Int) ((((add ks x).idxOf x : Nat) : Int) + 1) = (((add ks x).length : Nat) : Int) := by
  by_cases h : x ∈ ks
  · have h1 : ks.idxOf x < ks.length := List.idxOf_lt_length_iff.2 h
    rw [idx_add x h, show add ks x = ks by unfold add; rw [if_pos h]]
    omega
  · have h1 : (add ks x).idxOf x = ks.length := by unfold add; rw [if_neg h, List.idxOf_append, if_neg h]; simp
    rw [h1, show add ks x = ks ++ [x] by unfold add; rw [if_neg h]]
    rw [List.length_append, List.length_singleton]; omega
theorem nums_at : ∀ (ls : List (List Ln)) (ks : List Ln) (i : Nat) (h : i < ls.length) (h' : i < (numsAll ks ls).length), (numsAll ks ls)[i] = row (knownAll ks (ls.take i)) ls[i]
  | [], _, i, h, _ => by simp at h
  | l :: r, ks, 0, _, _ => by simp [numsAll, knownAll]
  | l :: r, ks, i + 1, h, h' => by
    have := nums_at r (known ks l) i (by simpa using h) (by simpa [numsAll] using h')
    simpa [numsAll, knownAll] using this
theorem row_at : ∀ (l ks : List Ln) (k : Nat) (h : k < l.length) (h' : k < (row ks l).length), (row ks l)[k] = (((add (known ks (l.take k)) l[k]).idxOf l[k] : Nat) : Int)
  | [], _, k, h, _ => by simp at h
  | x :: r, ks, 0, _, _ => by simp [row, known]
  | x :: r, ks, k + 1, h, h' => by
    have := row_at r (add ks x) k (by simpa using h) (by simpa [row] using h')
    simpa [row, known] using this
/-- What the law holds in memory: lines, and their numbers. -/
structure Am (w : World) (lv nv : Value) (xs : List Ln) (ys : List Int) (W : World) : Prop where
  l : W.ownsRow w.heap.size 59 2 lv xs.length (lineCells xs)
  n : W.ownsRow w.heap.size 3 1 nv ys.length (numCells ys)
  b : Below w.heap.size w W
theorem Am.below {w : World} {lv nv : Value} {xs : List Ln} {ys : List Int} {W W' : World} (h : Am w lv nv xs ys W) (hb : Below W.heap.size W W') : Am w lv nv xs ys W' := ⟨own_below h.l hb, own_below h.n hb, h.b.trans (hb.mono h.b.size)⟩
theorem Am.addL {w : World} {lv nv lv' : Value} {xs xs' : List Ln} {ys : List Int} {W W' : World} (h : Am w lv nv xs ys W) (hg : W.grownBy W' lv.ownBlock) (hk : W'.ownsRow w.heap.size 59 2 lv' xs'.length (lineCells xs')) : Am w lv' nv xs' ys W' := ⟨hk, h.n.kept hg (V.own_apart (by decide) h.n h.l), h.b.grown hg h.b.size (own_base h.l)⟩
theorem Am.addN {w : World} {lv nv nv' : Value} {xs : List Ln} {ys ys' : List Int} {W W' : World} (h : Am w lv nv xs ys W) (hg : W.grownBy W' nv.ownBlock) (hk : W'.ownsRow w.heap.size 3 1 nv' ys'.length (numCells ys')) : Am w lv nv' xs ys' W' := ⟨h.l.kept hg (V.own_apart (by decide) h.l h.n), hk, h.b.grown hg h.b.size (own_base h.n)⟩
end Go.Proofs.Ytigghcmbdnidnaa.N
