/-
  The contracts of the reference's ByIDs and Compose.
  The contracts of match's Right and of the reference's.
  The contracts of match's stretches and Gaps: what is told, stretch by stretch, to whoever keeps it.
  The contracts of match's stretches and Gaps.
-/
import Derived.Test.YthcmljknpealhaaGce
import Derived.BigQuiet
import Derived.Outline
namespace Go.Proofs.Ythcmljknpealhaa.Mt
open Go.RowKit
open T
open N (oU PrIn PrIn.below prCells prCells_snoc pr_own PsEnd infoPair once_any ronce_any)
open V (drawn_below IntsIn)
open I (alloc1 own_at own_below)

theorem comp_at {p : List Pr} {k : Nat} (hk : k < p.length) (q : List Pr) : comp (p.drop k) q = (match fnd q p[k].2 with | some z => [(p[k].1, z)] | none => []) ++ comp (p.drop (k + 1)) q := by
  rw [List.drop_eq_getElem_cons hk, comp, List.filterMap_cons]
  cases fnd q p[k].2 <;> rfl

set_option maxRecDepth 100000 in
set_option maxHeartbeats 4000000 in
theorem rcomp_any (A B : Option Addr) (c c' : Nat) (p q : List Pr) (w : World) (hA : PrIn w A p) (hB : PrIn w B q) (hp : p.length ≤ 1000000) (hq : q.length ≤ 1000000) :
    Calls Try.prog 10 #[.slice A p.length c, .slice B q.length c'] w (PsEnd w (comp p q)) := by
  obtain ⟨i0, hi0, hz0, hz1, hz2⟩ := info_parts infoPair
  have HA := Lib.hid hA
  have HB := Lib.hid hB
  clear hA hB
  obtain ⟨W0, hW0⟩ : ∃ W : World, W = w.alloc (.cells #[] 40) := ⟨_, rfl⟩
  have HB0 := Lib.hid (show Below w.heap.size w W0 by rw [hW0]; exact alloc1 _ _)
  have HO0 := Lib.hid (show W0.ownsRow w.heap.size 40 2 (.slice (some ⟨w.heap.size, 0, none⟩) 0 0) 0 [] by rw [hW0]; exact World.ownsRow_made w #[] 0 (Nat.le_refl _) (Nat.zero_le _) rfl)
  go_enter Try.func10, Try.ntmps10
  go_wp2_with fail
  rw [← hW0]
  clear hW0
  go_loopg [5, 6, 7, 8] p.length (fun m v i _ _ wr => ∃ (k : Nat) (ps : List Pr), k ≤ p.length ∧ i = .int .i64 k ∧ p.length - k ≤ m ∧ wr.ownsRow w.heap.size 40 2 v ps.length (prCells ps) ∧ Below w.heap.size w wr ∧ ps.length ≤ k ∧ Hid (comp p q = ps ++ comp (p.drop k) q))
  case atStart => exact ⟨0, [], Nat.zero_le _, rfl, by omega, HO0.out, HB0.out, Nat.le_refl _, Lib.hid rfl⟩
  case round =>
    obtain ⟨k, ps, hk, rfl, hmm, hown, hbr, hpl, HP⟩ := hrel
    by_cases hlt : k < p.length
    · obtain ⟨bk, off, hAe, hbk, hI⟩ := HA.out (by omega)
      subst hAe
      obtain ⟨q0, q1⟩ := hI k hlt
      have c0 := (hbr.cell (p := ⟨bk, off + k * 2, none⟩) hbk).trans q0
      have c1 := (hbr.cell (p := ⟨bk, off + k * 2 + 1, none⟩) hbk).trans q1
      have HN := Lib.hid (comp_at hlt q)
      have h0k : (0 : Int) ≤ (k : Int) := by omega
      have hki : (k : Int) < (p.length : Int) := by omega
      have hsb := hbr.size
      have HT := Lib.hid (fun (i : Int) => rto_any B c' q i wr (HB.out.below hbr) (by unfold maxLen; omega))
      obtain ⟨RA, rcap, rfl, -, -⟩ := own_form hown
      have HOW := Lib.hid hown
      have HBR := Lib.hid hbr
      clear hI q0 q1 hown hbr
      obtain ⟨z, hz⟩ : ∃ z, z = p[k] := ⟨_, rfl⟩
      rw [← hz] at c0 c1 HN
      clear hz
      obtain ⟨p0, p1⟩ := z
      simp only at c0 c1 HN
      obtain ⟨o, ho⟩ : ∃ o, o = fnd q p1 := ⟨_, rfl⟩
      have HT1 := Lib.hid (HT.out p1)
      rw [← ho] at HN HT1
      clear ho HT
      cases o with
      | none =>
        unfold toV at HT1
        simp only [Option.getD_none, Option.isSome_none] at HT1 HN
        go_wp2_with (go_at_call 19; with_reducible refine HT1.out.mono ?_; rintro e w2 ⟨rfl, rfl⟩)
        go_roundg (p.length - (k + 1))
        case rel => exact ⟨k + 1, ps, by omega, by go_num, Nat.le_refl _, HOW.out, HBR.out, by omega, Lib.hid (by rw [HP.out, HN.out]; rfl)⟩
        case measure => omega
      | some v =>
        unfold toV at HT1
        simp only [Option.getD_some, Option.isSome_some] at HT1 HN
        go_wp2_with (first
          | (go_at_call 19; with_reducible refine HT1.out.mono ?_; rintro e w2 ⟨rfl, rfl⟩)
          | (at_builtin; refine wpList_append_own _ rfl (.tmp 27) (.tmp 35) 22 rfl w.heap.size 40 i0 _ 2 16 Try.underlying22 hi0 hz0 hz1 hz2 rfl (by decide) _ ps.length (prCells ps) rfl (HOW.out.alloc _) ⟨_, 0, none⟩ 1 1 [.int .i64 p0, .int .i64 v] rfl rfl (World.news_of_block (V.alloc_at _ (by first | rfl | simp))) (by intro u hu; simp at hu; rcases hu with rfl | rfl <;> rfl) (by unfold maxLen; omega) (by omega) (by first | omega | (simp; done) | (simp; omega)) ?_; intro v' w4 hown4 hg4 _))
        have hb4 := (HBR.out.trans ((alloc1 _ _).mono hsb)).grown hg4 (by first | omega | (simp; omega)) (own_base HOW.out)
        have ho4 : w4.ownsRow w.heap.size 40 2 v' (ps ++ [(p0, v)]).length (prCells (ps ++ [(p0, v)])) := by rw [prCells_snoc]; simpa using hown4
        clear hown4 hg4
        go_roundg (p.length - (k + 1))
        case rel => exact ⟨k + 1, ps ++ [(p0, v)], by omega, by go_num, Nat.le_refl _, ho4, hb4, by simp; omega, Lib.hid (by rw [HP.out, HN.out]; simp)⟩
        case measure => omega
    · obtain rfl : k = p.length := by omega
      have HE := Lib.hid (show comp p q = ps by rw [HP.out, List.drop_length]; simp [comp])
      obtain ⟨RA, rcap, rfl, -, -⟩ := own_form hown
      clear HP
      go_wp2_with fail
      go_ret
      exact ⟨RA, rcap, by rw [HE.out]; rfl, by rw [HE.out]; exact hown, hbr⟩

theorem ps_at {ps : List Pr} {j : Nat} (h : j < ps.length) : ∃ p : Pr, p = ps[j] := ⟨_, rfl⟩
set_option maxRecDepth 100000 in
set_option maxHeartbeats 4000000 in
theorem rids_any (A B : Option Addr) (c c' : Nat) (a b : List Int) (w : World) (hA : IntsIn w A a) (hB : IntsIn w B b) (ha : a.length ≤ 60) (hb : b.length ≤ 60) :
    Calls Try.prog 12 #[.slice A a.length c, .slice B b.length c'] w (PsEnd w (ids a b)) := by
  obtain ⟨i0, hi0, hz0, hz1, hz2⟩ := info_parts infoPair
  have HON := Lib.hid (ronce_any A B c c' a b w hA hB ha hb)
  have hul := N.oU_len a b a.length
  have HNN := Lib.hid (fun k (h : k < (oU a b a.length).length) => ((oU_all a b a.length (Nat.le_refl _)).1 _ (List.getElem_mem h)).2.2.1)
  have HID := Lib.hid (show ids a b = rise (-1) (oU a b a.length) from rfl)
  obtain ⟨us, hus⟩ : ∃ us, us = oU a b a.length := ⟨_, rfl⟩
  rw [← hus] at HON HID hul
  have HNN2 : Hid (∀ k (h : k < us.length), 0 ≤ us[k].2) := Lib.hid (by subst hus; exact HNN.out)
  clear hus hA hB HNN
  go_enter Try.func12, Try.ntmps12
  go_wp2_with fail
  refine HON.out.mono ?_
  rintro e w1 ⟨U, uc, rfl, hu, hb1⟩
  have HU := Lib.hid (pr_own hu)
  have HB1 := Lib.hid hb1
  clear hu hb1 HON
  obtain ⟨W0, hW0⟩ : ∃ W : World, W = w1.alloc (.cells #[] 40) := ⟨_, rfl⟩
  have HB0 := Lib.hid (show Below w1.heap.size w1 W0 by rw [hW0]; exact alloc1 _ _)
  have HO0 := Lib.hid (show W0.ownsRow w1.heap.size 40 2 (.slice (some ⟨w1.heap.size, 0, none⟩) 0 0) 0 [] by rw [hW0]; exact World.ownsRow_made w1 #[] 0 (Nat.le_refl _) (Nat.zero_le _) rfl)
  go_wp2_with fail
  rw [← hW0]
  clear hW0
  go_loopg [6, 7] us.length (fun m v i wr => ∃ (k : Nat) (t : Int) (ps : List Pr), k ≤ us.length ∧ i = .int .i64 k ∧ us.length - k ≤ m ∧ wr.ownsRow w1.heap.size 40 2 v ps.length (prCells ps) ∧ Below w1.heap.size w1 wr ∧ ps.length ≤ k ∧ Hid (ids a b = ps ++ rise t (us.drop k)) ∧ ((ps.length = 0 ∧ t = -1) ∨ (∃ j, ps.length = j + 1 ∧ ∃ h : j < ps.length, ps[j].2 = t)))
  case atStart => exact ⟨0, -1, [], Nat.zero_le _, rfl, by omega, HO0.out, HB0.out, Nat.le_refl _, HID, .inl ⟨rfl, rfl⟩⟩
  case round =>
    obtain ⟨k, t, ps, hk, rfl, hmm, hown, hbr, hpl, HP, hpt⟩ := hrel
    by_cases hlt : k < us.length
    · obtain ⟨bk, off, hAe, hbk, hI⟩ := HU.out (by omega)
      subst hAe
      obtain ⟨q0, q1⟩ := hI k hlt
      have c0 := (hbr.cell (p := ⟨bk, off + k * 2, none⟩) hbk).trans q0
      have c1 := (hbr.cell (p := ⟨bk, off + k * 2 + 1, none⟩) hbk).trans q1
      have HN := Lib.hid (rise_at hlt t)
      have HPOS := Lib.hid (HNN2.out k hlt)
      have h0k : (0 : Int) ≤ (k : Int) := by omega
      have hki : (k : Int) < (us.length : Int) := by omega
      have hsb := hbr.size
      obtain ⟨RA, rcap, rfl, -, -⟩ := own_form hown
      have HPR := Lib.hid (pr_own hown)
      have HOW := Lib.hid hown
      have HBR := Lib.hid hbr
      clear hI q0 q1 hown hbr
      obtain ⟨p, hp⟩ : ∃ p, p = us[k] := ⟨_, rfl⟩
      rw [← hp] at c0 c1 HN HPOS
      clear hp
      obtain ⟨p0, p1⟩ := p
      simp only at c0 c1 HN HPOS
      have HBD := Lib.hid (fun (q : Nat) => (HBR.out.trans ((drawn_below wr q).mono hsb) : Below w1.heap.size w1 (wr.drewN q)))
      have HLAST : Hid (∃ j, (ps ++ [(p0, p1)]).length = j + 1 ∧ ∃ h : j < (ps ++ [(p0, p1)]).length, (ps ++ [(p0, p1)])[j].2 = p1) := Lib.hid ⟨ps.length, by simp, by simp, by simp⟩
      rcases hpt with ⟨hl0, ht0⟩ | ⟨j, hlj, hj, hjt⟩
      · have HX := Lib.hid (HN.out.trans (if_pos (by have := HPOS.out; omega)))
        have z1 : ((ps.length : Int) == 0) = true := beq_iff_eq.2 (by omega)
        have z2 : decide (ps.length = 0) = true := decide_eq_true hl0
        have HL0 := Lib.hid hl0
        have hle : ps.length ≤ 60 := by omega
        clear HN hl0 ht0 HPR
        obtain ⟨L, hL⟩ : ∃ L, L = ps.length := ⟨_, rfl⟩
        go_wp2_with fail
        go_quiet (fail)
        go_wp2_with (at_builtin; refine wpList_append_own _ rfl (.tmp 36) (.tmp 41) 22 rfl w1.heap.size 40 i0 _ 2 16 Try.underlying22 hi0 hz0 hz1 hz2 rfl (by decide) _ ps.length (prCells ps) rfl ((own_below HOW.out (drawn_below wr _)).alloc _) ⟨_, 0, none⟩ 1 1 [.int .i64 p0, .int .i64 p1] rfl rfl (World.news_of_block (V.alloc_at _ (by first | rfl | simp))) (by intro u hu; simp at hu; rcases hu with rfl | rfl <;> rfl) (by unfold maxLen; omega) (by omega) (by first | omega | (simp; done) | (simp; omega)) ?_; intro v' w4 hown4 hg4 _)
        have hb4 := ((HBD.out _).trans ((alloc1 _ _).mono (HBD.out _).size)).grown hg4 (by first | omega | (simp; omega)) (own_base HOW.out)
        have ho4 : w4.ownsRow w1.heap.size 40 2 v' (ps ++ [(p0, p1)]).length (prCells (ps ++ [(p0, p1)])) := by rw [prCells_snoc]; simpa using hown4
        clear hown4 hg4
        go_roundg (us.length - (k + 1))
        case rel => exact ⟨k + 1, p1, ps ++ [(p0, p1)], by omega, by go_num, Nat.le_refl _, ho4, hb4, by simp; omega, Lib.hid (by rw [HP.out, HX.out]; simp), .inr HLAST.out⟩
        case measure => omega
      · obtain ⟨b2, o2, hRe, hb2, hQ⟩ := HPR.out (by omega)
        subst hRe
        obtain ⟨d0, d1⟩ := hQ j hj
        rw [hjt] at d1
        have z1 : ((ps.length : Int) == 0) = false := beq_eq_false_iff_ne.2 (by omega)
        have z2 : decide (ps.length = 0) = false := decide_eq_false (by omega)
        have hw1 : IntKind.i64.wrap ((ps.length : Int) - 1) = (j : Int) := by rw [IntKind.wrap_i64]; omega
        have h0j : (0 : Int) ≤ (j : Int) := by omega
        have hji : (j : Int) < (ps.length : Int) := by omega
        have hle : ps.length ≤ 60 := by omega
        have HKEEP := Lib.hid (show ∃ j, ps.length = j + 1 ∧ ∃ h : j < ps.length, ps[j].2 = t from ⟨j, hlj, hj, hjt⟩)
        clear hQ hlj hjt HPR
        by_cases ht : t < p1
        · have HX := Lib.hid (HN.out.trans (if_pos ht))
          clear HN
          go_wp2_with fail
          go_quiet (fail)
          go_wp2_with (at_builtin; refine wpList_append_own _ rfl (.tmp 36) (.tmp 41) 22 rfl w1.heap.size 40 i0 _ 2 16 Try.underlying22 hi0 hz0 hz1 hz2 rfl (by decide) _ ps.length (prCells ps) rfl ((own_below HOW.out (drawn_below wr _)).alloc _) ⟨_, 0, none⟩ 1 1 [.int .i64 p0, .int .i64 p1] rfl rfl (World.news_of_block (V.alloc_at _ (by first | rfl | simp))) (by intro u hu; simp at hu; rcases hu with rfl | rfl <;> rfl) (by unfold maxLen; omega) (by omega) (by first | omega | (simp; done) | (simp; omega)) ?_; intro v' w4 hown4 hg4 _)
          have hb4 := ((HBD.out _).trans ((alloc1 _ _).mono (HBD.out _).size)).grown hg4 (by first | omega | (simp; omega)) (own_base HOW.out)
          have ho4 : w4.ownsRow w1.heap.size 40 2 v' (ps ++ [(p0, p1)]).length (prCells (ps ++ [(p0, p1)])) := by rw [prCells_snoc]; simpa using hown4
          clear hown4 hg4
          go_roundg (us.length - (k + 1))
          case rel => exact ⟨k + 1, p1, ps ++ [(p0, p1)], by omega, by go_num, Nat.le_refl _, ho4, hb4, by simp; omega, Lib.hid (by rw [HP.out, HX.out]; simp), .inr HLAST.out⟩
          case measure => omega
        · have HX := Lib.hid (HN.out.trans (if_neg ht))
          clear HN
          go_wp2_with fail
          go_quiet (fail)
          go_wp2_with fail
          go_roundg (us.length - (k + 1))
          case rel => exact ⟨k + 1, t, ps, by omega, by go_num, Nat.le_refl _, own_below HOW.out (drawn_below wr _), HBR.out.trans ((drawn_below wr _).mono hsb), by omega, Lib.hid (by rw [HP.out, HX.out]), .inr HKEEP.out⟩
          case measure => omega
    · obtain rfl : k = us.length := by omega
      have HE := Lib.hid (show ids a b = ps by rw [HP.out, List.drop_length]; simp [rise])
      obtain ⟨RA, rcap, rfl, -, -⟩ := own_form hown
      clear HP HID hpt
      go_wp2_with fail
      go_ret
      exact ⟨RA, rcap, by rw [HE.out]; rfl, by rw [HE.out]; exact V.own_base_le hown HB1.out.size, HB1.out.trans (hbr.mono HB1.out.size)⟩
end Go.Proofs.Ythcmljknpealhaa.Mt

namespace Go.Proofs.Ythcmljknpealhaa.Mt
open Go.RowKit
open T
open N (PrIn PrIn.below prCells prCells_snoc pr_own PsEnd infoPair)
open V (drawn_below)
open I (alloc1 own_at own_below)

theorem rt_at {ps : List Pr} {k : Nat} (hk : k < ps.length) (n m a b : Int) : rt n m a b (ps.drop k) = (decide (a < ps[k].1) && decide (ps[k].1 < n) && decide (b < ps[k].2) && decide (ps[k].2 < m) && rt n m ps[k].1 ps[k].2 (ps.drop (k + 1))) := by rw [List.drop_eq_getElem_cons hk, rt]
theorem rt_bad {a b n m : Int} {t : Bool} {p : Pr} (hb : ¬ (a < p.1 ∧ p.1 < n ∧ b < p.2 ∧ p.2 < m)) : (decide (a < p.1) && decide (p.1 < n) && decide (b < p.2) && decide (p.2 < m) && t) = false := by
  rw [Bool.eq_false_iff]
  intro h
  simp only [Bool.and_eq_true, decide_eq_true_eq] at h
  exact hb ⟨h.1.1.1.1, h.1.1.1.2, h.1.1.2, h.1.2⟩
theorem rt_good {a b n m : Int} {t : Bool} {p : Pr} (hb : a < p.1 ∧ p.1 < n ∧ b < p.2 ∧ p.2 < m) : (decide (a < p.1) && decide (p.1 < n) && decide (b < p.2) && decide (p.2 < m) && t) = t := by
  obtain ⟨h1, h2, h3, h4⟩ := hb
  rw [decide_eq_true h1, decide_eq_true h2, decide_eq_true h3, decide_eq_true h4]; rfl
theorem four_ways (a b n m p q : Int) : p ≤ a ∨ (¬ p ≤ a ∧ n ≤ p) ∨ (¬ p ≤ a ∧ ¬ n ≤ p ∧ q ≤ b) ∨ (¬ p ≤ a ∧ ¬ n ≤ p ∧ ¬ q ≤ b ∧ m ≤ q) ∨ (¬ p ≤ a ∧ ¬ n ≤ p ∧ ¬ q ≤ b ∧ ¬ m ≤ q) := by omega

set_option maxRecDepth 100000 in
set_option maxHeartbeats 4000000 in
theorem right_any (A : Option Addr) (cap : Nat) (ps : List Pr) (n m : Int) (w : World) (hA : PrIn w A ps) (hl : ps.length ≤ maxLen) :
    Calls Try.prog 13 #[.slice A ps.length cap, .int .i64 n, .int .i64 m] w fun e w' => e = .returned (.bool (right ps n m)) ∧ Below w.heap.size w w' := by
  have HA := Lib.hid hA
  unfold maxLen at hl
  clear hA
  obtain ⟨W0, hW0⟩ : ∃ W : World, W = w.alloc (.cells #[.int .i64 (-1), .int .i64 (-1)] 40) := ⟨_, rfl⟩
  have HB0 := Lib.hid (show Below w.heap.size w W0 by rw [hW0]; exact alloc1 _ _)
  have HX0 := Lib.hid (show W0.heap[w.heap.size]? = some (.cells #[.int .i64 (-1), .int .i64 (-1)] 40 (0, 0)) by rw [hW0]; exact heap_alloc_new w _)
  go_enter Try.func13, Try.ntmps13
  go_wp2_with fail
  rw [← hW0]
  clear hW0
  go_loopg [13] ps.length (fun q iv wx => ∃ (k : Nat) (a b : Int), k ≤ ps.length ∧ iv = .int .i64 k ∧ ps.length - k ≤ q ∧ Below w.heap.size w wx ∧ wx.heap[w.heap.size]? = some (.cells #[.int .i64 a, .int .i64 b] 40 (0, 0)) ∧ Hid (right ps n m = rt n m a b (ps.drop k)))
  case atStart => exact ⟨0, -1, -1, Nat.zero_le _, rfl, by omega, HB0.out, HX0.out, Lib.hid rfl⟩
  case round =>
    obtain ⟨k, a, b, hk, rfl, hm, hbr, hx, HF⟩ := hrel
    by_cases hlt : k < ps.length
    · obtain ⟨bk, off, hAe, hbk, hI⟩ := HA.out (by omega)
      subst hAe
      obtain ⟨q0, q1⟩ := hI k hlt
      have c0 := (hbr.cell (p := ⟨bk, off + k * 2, none⟩) hbk).trans q0
      have c1 := (hbr.cell (p := ⟨bk, off + k * 2 + 1, none⟩) hbk).trans q1
      have HN := Lib.hid (HF.out.trans (rt_at hlt n m a b))
      have h0k : (0 : Int) ≤ (k : Int) := by omega
      have hki : (k : Int) < (ps.length : Int) := by omega
      have HBR := Lib.hid hbr
      have hbs := hbr.size
      have hxl := L.blk_lt hx
      clear hI q0 q1 hbr HF
      obtain ⟨p, hp⟩ : ∃ p, p = ps[k] := ⟨_, rfl⟩
      rw [← hp] at c0 c1 HN
      clear hp
      have HBAD := Lib.hid (fun (hb : ¬ (a < p.1 ∧ p.1 < n ∧ b < p.2 ∧ p.2 < m)) => HN.out.trans (rt_bad hb))
      have HGOOD := Lib.hid (fun (hb : a < p.1 ∧ p.1 < n ∧ b < p.2 ∧ p.2 < m) => HN.out.trans (rt_good hb))
      obtain ⟨p0, p1⟩ := p
      simp only at c0 c1 HBAD HGOOD
      have hx1 : (wr.alloc (.cells #[.int .i64 p0, .int .i64 p1] 40)).heap[w.heap.size]? = some (.cells #[.int .i64 a, .int .i64 b] 40 (0, 0)) := (Below.heap_alloc _ _ _ hxl).trans hx
      have x0 := L.blk_cell hx1 0
      have x1 := L.blk_cell hx1 1
      simp only [List.getElem?_toArray, List.getElem?_cons_zero, List.getElem?_cons_succ] at x0 x1
      have z0 := L.blk_free hx1 0
      have z1 := L.blk_free hx1 1
      have y0 := L.blk_cell hx 0
      have y1 := L.blk_cell hx 1
      simp only [List.getElem?_toArray, List.getElem?_cons_zero, List.getElem?_cons_succ] at y0 y1
      have HX2 := Lib.hid (L.blk_set hx 0 (.int .i64 p0))
      have z2 := L.blk_free ((Below.heap_alloc (wr.setCell ⟨w.heap.size, 0, none⟩ (.int .i64 p0)) (.cells #[.int .i64 p0, .int .i64 p1] 40) w.heap.size (by simpa using hxl)).trans HX2.out) 1
      have HX3 := Lib.hid (L.blk_set HX2.out 1 (.int .i64 p1))
      have HX1 := Lib.hid hx1
      have HB1 := Lib.hid (HBR.out.trans ((alloc1 wr (.cells #[.int .i64 p0, .int .i64 p1] 40)).mono hbs))
      clear hx hx1 HN
      rcases four_ways a b n m p0 p1 with h1 | ⟨h1, h2⟩ | ⟨h1, h2, h3⟩ | ⟨h1, h2, h3, h4⟩ | ⟨h1, h2, h3, h4⟩
      all_goals try
        have HV := Lib.hid (show right ps n m = false from HBAD.out (by omega))
        clear HBAD HGOOD
        go_wp2_with fail
        go_ret
        exact ⟨by rw [HV.out]; rfl, HB1.out⟩
      have HV := Lib.hid (show right ps n m = rt n m p0 p1 (ps.drop (k + 1)) from HGOOD.out (by omega))
      clear HBAD HGOOD HA
      go_wp2_with fail
      go_roundg (ps.length - (k + 1))
      case rel => exact ⟨k + 1, p0, p1, by omega, by go_num, Nat.le_refl _, ((HBR.out.setCell (p := ⟨w.heap.size, 0, none⟩) (Nat.le_refl _) _).setCell (p := ⟨w.heap.size, 1, none⟩) (Nat.le_refl _) _).trans ((alloc1 _ _).mono (by simpa using hbs)), (Below.heap_alloc _ _ _ (by simpa using hxl)).trans HX3.out, HV⟩
      case measure => omega
    · obtain rfl : k = ps.length := by omega
      have HV := Lib.hid (show right ps n m = true by rw [HF.out, List.drop_length]; rfl)
      clear HF
      go_wp2_with fail
      go_ret
      exact ⟨by rw [HV.out]; rfl, hbr⟩

theorem ref_ways (n m p q : Int) : p < 0 ∨ (¬ p < 0 ∧ n ≤ p) ∨ (¬ p < 0 ∧ ¬ n ≤ p ∧ q < 0) ∨ (¬ p < 0 ∧ ¬ n ≤ p ∧ ¬ q < 0 ∧ m ≤ q) ∨ (¬ p < 0 ∧ ¬ n ≤ p ∧ ¬ q < 0 ∧ ¬ m ≤ q) := by omega
set_option maxRecDepth 100000 in
set_option maxHeartbeats 4000000 in
theorem rright_any (A : Option Addr) (cap : Nat) (ps : List Pr) (n m : Int) (w : World) (hA : PrIn w A ps) (hl : ps.length ≤ maxLen) :
    Calls Try.prog 14 #[.slice A ps.length cap, .int .i64 n, .int .i64 m] w fun e w' => e = .returned (.bool (right ps n m)) ∧ Below w.heap.size w w' := by
  have HA := Lib.hid hA
  unfold maxLen at hl
  clear hA
  go_enter Try.func14, Try.ntmps14
  go_wp2_with fail
  go_loopg [7] ps.length (fun q iv wx => ∃ (k : Nat) (a b : Int), k ≤ ps.length ∧ iv = .int .i64 k ∧ ps.length - k ≤ q ∧ (∃ d, wx = w.drewN d) ∧ Hid (right ps n m = rt n m a b (ps.drop k)) ∧ ((k = 0 ∧ a = -1 ∧ b = -1) ∨ (0 < k ∧ 0 ≤ a ∧ 0 ≤ b ∧ ∃ j, k = j + 1 ∧ ∃ h : j < ps.length, ps[j] = (a, b))))
  case atStart => exact ⟨0, -1, -1, Nat.zero_le _, rfl, by omega, ⟨0, rfl⟩, Lib.hid rfl, .inl ⟨rfl, rfl, rfl⟩⟩
  case round =>
    obtain ⟨k, a, b, hk, rfl, hm, ⟨d, rfl⟩, HF, hab⟩ := hrel
    by_cases hlt : k < ps.length
    · obtain ⟨bk, off, hAe, hbk, hI⟩ := HA.out (by omega)
      subst hAe
      have HI := Lib.hid hI
      obtain ⟨c0, c1⟩ := hI k hlt
      have HN := Lib.hid (HF.out.trans (rt_at hlt n m a b))
      have h0k : (0 : Int) ≤ (k : Int) := by omega
      have hki : (k : Int) < (ps.length : Int) := by omega
      have HPK := Lib.hid (show ∃ h : k < ps.length, ps[k] = ps[k] from ⟨hlt, rfl⟩)
      clear hI HF
      obtain ⟨p, hp⟩ : ∃ p, p = ps[k] := ⟨_, rfl⟩
      have HP := Lib.hid hp
      rw [← hp] at c0 c1 HN
      clear hp
      have HBAD := Lib.hid (fun (hb : ¬ (a < p.1 ∧ p.1 < n ∧ b < p.2 ∧ p.2 < m)) => HN.out.trans (rt_bad hb))
      have HGOOD := Lib.hid (fun (hb : a < p.1 ∧ p.1 < n ∧ b < p.2 ∧ p.2 < m) => HN.out.trans (rt_good hb))
      obtain ⟨p0, p1⟩ := p
      simp only at c0 c1 HBAD HGOOD
      clear HN HPK
      rcases ref_ways n m p0 p1 with h1 | ⟨h1, h2⟩ | ⟨h1, h2, h3⟩ | ⟨h1, h2, h3, h4⟩ | ⟨h1, h2, h3, h4⟩
      all_goals try
        have HV := Lib.hid (show right ps n m = false from HBAD.out (by rcases hab with ⟨-, rfl, rfl⟩ | ⟨-, h5, h6, -⟩ <;> omega))
        clear HBAD HGOOD HI HP hab
        go_wp2_with fail
        go_ret
        exact ⟨by rw [HV.out]; rfl, by first | exact drawn_below _ _ | (rw [N.drewN_add]; exact drawn_below _ _)⟩
      rcases hab with ⟨hk0, rfl, rfl⟩ | ⟨h0, h5, h6, j, hkj, hj, hjp⟩
      · have HV := Lib.hid (show right ps n m = rt n m p0 p1 (ps.drop (k + 1)) from HGOOD.out (by omega))
        have hz1 : ¬ (0 : Int) < (k : Int) := by omega
        have hz2 : decide (0 < k) = false := decide_eq_false (by omega)
        have HNX := Lib.hid (show 0 ≤ p0 ∧ 0 ≤ p1 ∧ ∃ j, k + 1 = j + 1 ∧ ∃ h : j < ps.length, ps[j] = (p0, p1) from ⟨by omega, by omega, k, rfl, hlt, HP.out.symm⟩)
        clear HBAD HGOOD HI hk0
        go_wp2_with fail
        go_quiet (fail)
        go_wp2_with fail
        go_roundg (ps.length - (k + 1))
        case rel => exact ⟨k + 1, p0, p1, by omega, by go_num, Nat.le_refl _, ⟨_, rfl⟩, HV, .inr ⟨by omega, HNX.out⟩⟩
        case measure => omega
      · obtain ⟨d0, d1⟩ := HI.out j hj
        rw [hjp] at d0 d1
        simp only at d0 d1
        have hw1 : IntKind.i64.wrap ((k : Int) - 1) = (j : Int) := by rw [IntKind.wrap_i64]; omega
        have h0j : (0 : Int) ≤ (j : Int) := by omega
        have hji : (j : Int) < (ps.length : Int) := by omega
        have hk1 : (0 : Int) < (k : Int) := by omega
        have hk2 : decide (0 < k) = true := decide_eq_true (by omega)
        have HNX := Lib.hid (show 0 ≤ p0 ∧ 0 ≤ p1 ∧ ∃ j, k + 1 = j + 1 ∧ ∃ h : j < ps.length, ps[j] = (p0, p1) from ⟨by omega, by omega, k, rfl, hlt, HP.out.symm⟩)
        by_cases h7 : p0 ≤ a
        · have HV := Lib.hid (show right ps n m = false from HBAD.out (by omega))
          clear HBAD HGOOD HI HP hkj
          go_wp2_with fail
          go_quiet (fail)
          go_wp2_with fail
          go_ret
          exact ⟨by rw [HV.out]; rfl, by first | exact drawn_below _ _ | (rw [N.drewN_add]; exact drawn_below _ _)⟩
        · by_cases h8 : p1 ≤ b
          · have HV := Lib.hid (show right ps n m = false from HBAD.out (by omega))
            clear HBAD HGOOD HI HP hkj
            go_wp2_with fail
            go_quiet (fail)
            go_wp2_with fail
            go_ret
            exact ⟨by rw [HV.out]; rfl, by first | exact drawn_below _ _ | (rw [N.drewN_add]; exact drawn_below _ _)⟩
          · have HV := Lib.hid (show right ps n m = rt n m p0 p1 (ps.drop (k + 1)) from HGOOD.out (by omega))
            clear HBAD HGOOD HI hkj
            go_wp2_with fail
            go_quiet (fail)
            go_wp2_with fail
            go_roundg (ps.length - (k + 1))
            case rel => exact ⟨k + 1, p0, p1, by omega, by go_num, Nat.le_refl _, ⟨_, rfl⟩, HV, .inr ⟨by omega, HNX.out⟩⟩
            case measure => omega
    · obtain rfl : k = ps.length := by omega
      have HV := Lib.hid (show right ps n m = true by rw [HF.out, List.drop_length]; rfl)
      clear HF
      go_wp2_with fail
      go_ret
      exact ⟨by rw [HV.out]; rfl, by first | exact drawn_below _ _ | (rw [N.drewN_add]; exact drawn_below _ _)⟩
end Go.Proofs.Ythcmljknpealhaa.Mt

namespace Go.Proofs.Ythcmljknpealhaa.Mt
open Go.RowKit
open T
open N (PrIn PrIn.below prCells prCells_snoc pr_own PsEnd)
open V (drawn_below IntsIn alloc_at)
open I (alloc1 own_at own_below)

def gpV (g : Gp) : Value := .agg #[.int .i64 g.a, .int .i64 g.an, .int .i64 g.b, .int .i64 g.bn]
def gpCells (gs : List Gp) : List Value := gs.flatMap fun g => [.int .i64 g.a, .int .i64 g.an, .int .i64 g.b, .int .i64 g.bn]
theorem gpCells_snoc (gs : List Gp) (g : Gp) : gpCells (gs ++ [g]) = gpCells gs ++ [.int .i64 g.a, .int .i64 g.an, .int .i64 g.b, .int .i64 g.bn] := by simp [gpCells]
theorem gpCells_length (gs : List Gp) : (gpCells gs).length = gs.length * 4 := by
  induction gs with
  | nil => rfl
  | cons g r ih => rw [show gpCells (g :: r) = [.int .i64 g.a, .int .i64 g.an, .int .i64 g.b, .int .i64 g.bn] ++ gpCells r from rfl, List.length_append, ih]; simp; omega
theorem gpCells_at : ∀ (gs : List Gp) (j : Nat) (h : j < gs.length), (gpCells gs)[j * 4]? = some (.int .i64 gs[j].a) ∧ (gpCells gs)[j * 4 + 1]? = some (.int .i64 gs[j].an) ∧ (gpCells gs)[j * 4 + 2]? = some (.int .i64 gs[j].b) ∧ (gpCells gs)[j * 4 + 3]? = some (.int .i64 gs[j].bn)
  | [], j, h => by simp at h
  | p :: r, 0, _ => ⟨rfl, rfl, rfl, rfl⟩
  | p :: r, j + 1, h => by
    have := gpCells_at r j (by simpa using h)
    rw [show (j + 1) * 4 = j * 4 + 4 by omega]
    exact this
/-- Gaps in memory, to be read. -/
def GpIn (w : World) (A : Option Addr) (gs : List Gp) : Prop :=
  0 < gs.length → ∃ bk, A = some ⟨bk, 0, none⟩ ∧ bk < w.heap.size ∧ ∀ j (h : j < gs.length), w.cell? ⟨bk, j * 4, none⟩ = some (.int .i64 gs[j].a) ∧ w.cell? ⟨bk, j * 4 + 1, none⟩ = some (.int .i64 gs[j].an) ∧ w.cell? ⟨bk, j * 4 + 2, none⟩ = some (.int .i64 gs[j].b) ∧ w.cell? ⟨bk, j * 4 + 3, none⟩ = some (.int .i64 gs[j].bn)
theorem GpIn.below {w w' : World} {A : Option Addr} {gs : List Gp} (h : GpIn w A gs) (hb : Below w.heap.size w w') : GpIn w' A gs := fun hp => by
  obtain ⟨bk, e, hlt, hl⟩ := h hp
  exact ⟨bk, e, Nat.lt_of_lt_of_le hlt hb.size, fun j hj => ⟨(hb.cell (p := ⟨bk, _, none⟩) hlt).trans (hl j hj).1, (hb.cell (p := ⟨bk, _, none⟩) hlt).trans (hl j hj).2.1, (hb.cell (p := ⟨bk, _, none⟩) hlt).trans (hl j hj).2.2.1, (hb.cell (p := ⟨bk, _, none⟩) hlt).trans (hl j hj).2.2.2⟩⟩
theorem gp_own {w : World} {base : Nat} {A : Option Addr} {cap : Nat} {gs : List Gp} (h : w.ownsRow base 37 4 (.slice A gs.length cap) gs.length (gpCells gs)) : GpIn w A gs := fun hp => by
  obtain ⟨g, hA, _, hlt, hc⟩ := own_at h hp
  refine ⟨g, hA, hlt, fun j hj => ?_⟩
  obtain ⟨h0, h1, h2, h3⟩ := gpCells_at gs j hj
  exact ⟨hc _ _ h0, hc _ _ h1, hc _ _ h2, hc _ _ h3⟩
theorem infoGap : (Try.prog.info? 37).map (fun i => (i.zero, i.size, i.bytes)) = some (some (.agg #[.int .i64 0, .int .i64 0, .int .i64 0, .int .i64 0]), 4, 32) := by kernel_rfl

/-- What lies below n0 stays, and every row of pairs. -/
def KpG (n0 : Nat) (W W' : World) : Prop := Below n0 W W' ∧ ∀ (k : Nat) (cs : Array Value), W.heap[k]? = some (.cells cs 40 (0, 0)) → W'.heap[k]? = W.heap[k]?
theorem lt_blk {w : World} {g : Nat} {o : Obj} (h : w.heap[g]? = some o) : g < w.heap.size := L.blk_lt h
theorem box_kept {W W' : World} {Bp : Nat} {o : Obj} (h : W.heap[Bp]? = some o) (hb : Below W.heap.size W W') : W'.heap[Bp]? = some o := (hb.block Bp (L.blk_lt h)).trans h
/-- Behind an append to a row of gaps, and a store of it into its box. -/
theorem put_back {W w4 : World} {Bp : Nat} {v v' : Value} {T e : TypeId} {size n m : Nat} {xs ys : List Value} {o1 o2 : Obj}
    (hbx : W.heap[Bp]? = some (.cells #[v] T (0, 0))) (hown : W.ownsRow (Bp + 1) e size v n xs) (he : e ≠ 40) (hT : T ≠ 40)
    (hg : ((W.alloc o1).alloc o2).grownBy w4 v.ownBlock) (hown4 : w4.ownsRow (Bp + 1) e size v' m ys) :
    w4.heap[Bp]? = some (.cells #[v] T (0, 0)) ∧ (w4.setCell ⟨Bp, 0, none⟩ v').heap[Bp]? = some (.cells #[v'] T (0, 0)) ∧ (w4.setCell ⟨Bp, 0, none⟩ v').ownsRow (Bp + 1) e size v' m ys ∧ KpG Bp W (w4.setCell ⟨Bp, 0, none⟩ v') := by
  have hlt := L.blk_lt hbx
  have ha : Below W.heap.size W ((W.alloc o1).alloc o2) := (alloc1 W o1).trans ((alloc1 _ o2).mono (by simp))
  have h1 : w4.heap[Bp]? = some (.cells #[v] T (0, 0)) := by
    rw [hg.block Bp (by simp; omega) (fun e => by have := own_base hown Bp e.symm; omega)]
    exact ha.block Bp hlt |>.trans hbx
  refine ⟨h1, by have := L.blk_set h1 0 v'; simpa using this, ownsRow_setCell_below hown4 (by simp) v', ?_, ?_⟩
  · exact ((ha.mono (by omega)).grown hg (by simp; omega) (fun k ek => by have := own_base hown k ek; omega)).setCell (by simp) _
  · intro k cs hk
    have hkl := L.blk_lt hk
    have hkB : k ≠ Bp := fun e => by
      subst e; rw [hbx] at hk; injection hk with hk; injection hk with _ hk; exact hT hk
    rw [L.blk_far hkB, hg.block k (by simp; omega) (fun ek => ?_)]
    · exact ha.block k hkl
    · rcases hown.2 with ⟨rfl, _⟩ | ⟨g, cap, cur, rfl, _, hh, _⟩
      · simp [Value.ownBlock] at ek
      · simp only [Value.ownBlock, Option.some.injEq] at ek
        subst ek
        rw [hk] at hh; injection hh with hh; injection hh with _ hh
        exact he hh.symm
/-- Whoever is told. -/
structure Told (fn : FuncId) (p : Value) (n0 : Nat) (J : List Gp → World → Prop) : Prop where
  enters : ∀ (args : Array Value) (w : World), (callFunc fn args).run Try.prog w = .ok (.enter fn args) w
  keeps : ∀ l W W', J l W → Below W.heap.size W W' → J l W'
  tells : ∀ l (g : Gp) W, J l W → n0 ≤ W.heap.size → l.length ≤ 1000000 → Calls Try.prog fn #[.agg #[.int .i64 g.a, .int .i64 g.an, .int .i64 g.b, .int .i64 g.bn], p] W fun e W' => e = .returned (.tuple #[]) ∧ J (l ++ keep g) W' ∧ KpG n0 W W'
/-- Gaps, in the box at Bp. -/
def JG (w0 : World) (Bp : Nat) (l : List Gp) (W : World) : Prop :=
  ∃ v, W.heap[Bp]? = some (.cells #[v] 34 (0, 0)) ∧ W.ownsRow (Bp + 1) 37 4 v l.length (gpCells l) ∧ Below Bp w0 W
set_option maxRecDepth 100000 in
set_option maxHeartbeats 1000000 in
theorem tellG_any (w0 : World) (Bp : Nat) (l : List Gp) (g : Gp) (W : World) (hJ : JG w0 Bp l W) (hl : l.length ≤ 1000000) :
    Calls Try.prog 23 #[.agg #[.int .i64 g.a, .int .i64 g.an, .int .i64 g.b, .int .i64 g.bn], .pointer (some ⟨Bp, 0, none⟩)] W fun e W' => e = .returned (.tuple #[]) ∧ JG w0 Bp (l ++ keep g) W' ∧ KpG Bp W W' := by
  obtain ⟨i0, hi0, hz0, hz1, hz2⟩ := info_parts infoGap
  obtain ⟨v, hbx, hown, hb⟩ := hJ
  have c0 := L.blk_cell hbx 0
  have f0 := L.blk_free hbx 0
  simp only [List.getElem?_toArray, List.getElem?_cons_zero] at c0
  have HBX := Lib.hid hbx
  have HOW := Lib.hid hown
  have HB := Lib.hid hb
  have hbl := L.blk_lt hbx
  have hb1 : ∀ o, (W.alloc o).cell? ⟨Bp, 0, none⟩ = some v := fun o => (((alloc1 W o).cell (p := ⟨Bp, 0, none⟩) hbl)).trans c0
  have HKA : Hid (∀ o, KpG Bp W (W.alloc o)) := Lib.hid (fun o => ⟨(alloc1 W o).mono (by omega), fun k cs hk => (alloc1 W o).block k (L.blk_lt hk)⟩)
  obtain ⟨n, hn⟩ : ∃ n, n = l.length := ⟨_, rfl⟩
  rw [← hn] at HOW hl
  have HN := Lib.hid hn
  clear hbx hown hb hn
  by_cases hk : 0 < g.an ∨ 0 < g.bn
  · have HK := Lib.hid (show keep g = [g] from if_pos hk)
    have HM : Hid (gpCells l ++ [.int .i64 g.a, .int .i64 g.an, .int .i64 g.b, .int .i64 g.bn] = gpCells (l ++ keep g)) := Lib.hid (by rw [HK.out, gpCells_snoc])
    have HLN : Hid (n + 1 = (l ++ keep g).length) := Lib.hid (by rw [HK.out, HN.out]; simp)
    clear HK
    obtain ⟨ga, gn, gb, gm⟩ := g
    simp only at hk ⊢ HM HLN
    by_cases h1 : 0 < gn
    all_goals
      have h2 : 0 < gn ∨ 0 < gm := hk
      try (have h3 : 0 < gm := by omega)
      clear hk h2
      go_enter Try.func23, Try.ntmps23
      go_wp2_with (at_builtin; refine wpList_append_own _ rfl _ _ 34 rfl (Bp + 1) 37 i0 _ 4 32 Try.underlying34 hi0 hz0 hz1 hz2 rfl (by decide) _ n _ rfl ((HOW.out.alloc _).alloc _) ⟨_, 0, none⟩ 1 1 [.int .i64 ga, .int .i64 gn, .int .i64 gb, .int .i64 gm] rfl rfl (World.news_of_block (alloc_at _ (by first | rfl | simp))) (by intro u hu; simp at hu; rcases hu with rfl | rfl | rfl | rfl <;> rfl) (by simp only [maxLen]; omega) (by omega) (by first | omega | (simp; done) | (simp; omega)) ?_; intro v' w4 hown4 hg4 _; obtain ⟨VA, vcap, rfl, -, -⟩ := own_form hown4; obtain ⟨p1, p2, p3, p4⟩ := put_back HBX.out HOW.out (by decide) (by decide) hg4 hown4; have c4 := L.blk_cell p1 0; have f4 := L.blk_free p1 0; simp only [List.getElem?_toArray, List.getElem?_cons_zero] at c4; have P2 := Lib.hid p2; have P3 := Lib.hid p3; have P4 := Lib.hid p4; clear p1 p2 p3 p4 hown4 hg4)
      go_end0
      exact ⟨rfl, ⟨_, P2.out, by rw [← HM.out, ← HLN.out]; exact P3.out, HB.out.trans P4.out.1⟩, P4.out⟩
  · have HK := Lib.hid (show keep g = [] from if_neg hk)
    obtain ⟨ga, gn, gb, gm⟩ := g
    simp only at hk ⊢ HK
    have h1 : ¬ 0 < gn := fun h => hk (.inl h)
    have h2 : ¬ 0 < gm := fun h => hk (.inr h)
    clear hk
    go_enter Try.func23, Try.ntmps23
    go_wp2_with fail
    go_end0
    exact ⟨rfl, ⟨v, ((alloc1 W _).block Bp hbl).trans HBX.out, by rw [HK.out, List.append_nil, ← HN.out]; exact HOW.out.alloc _, HB.out.trans (HKA.out _).1⟩, HKA.out _⟩
theorem tellG (w0 : World) (Bp : Nat) : Told 23 (.pointer (some ⟨Bp, 0, none⟩)) Bp (JG w0 Bp) :=
  ⟨Go.Proofs.enters_of Try.func23 (by kernel_rfl) rfl,
   fun l W W' ⟨v, h1, h2, h3⟩ hb => ⟨v, box_kept h1 hb, own_below h2 hb, h3.trans (hb.mono (by have := L.blk_lt h1; omega))⟩,
   fun l g W hJ _ hl => tellG_any w0 Bp l g W hJ hl⟩
end Go.Proofs.Ythcmljknpealhaa.Mt

namespace Go.Proofs.Ythcmljknpealhaa.Mt
open Go.RowKit
open T
open N (PrIn PrIn.below prCells prCells_snoc pr_own PsEnd)
open V (drawn_below IntsIn alloc_at)
open I (alloc1 own_at own_below)

/-- Pairs that lie below n0. -/
def PrLow (w : World) (n0 : Nat) (A : Option Addr) (ps : List Pr) : Prop :=
  0 < ps.length → ∃ bk off, A = some ⟨bk, off, none⟩ ∧ bk < n0 ∧ ∀ j (h : j < ps.length), w.cell? ⟨bk, off + j * 2, none⟩ = some (.int .i64 ps[j].1) ∧ w.cell? ⟨bk, off + j * 2 + 1, none⟩ = some (.int .i64 ps[j].2)
theorem pr_low {w w' : World} {A : Option Addr} {ps : List Pr} (h : PrIn w A ps) (hb : Below w.heap.size w w') : PrLow w' w.heap.size A ps := fun hp => by
  obtain ⟨bk, off, e, hlt, hl⟩ := h hp
  exact ⟨bk, off, e, hlt, fun j hj => ⟨(hb.cell (p := ⟨bk, off + j * 2, none⟩) hlt).trans (hl j hj).1, (hb.cell (p := ⟨bk, off + j * 2 + 1, none⟩) hlt).trans (hl j hj).2⟩⟩
theorem gp_at {ps : List Pr} {k : Nat} (hk : k < ps.length) (n m a b : Int) : gp n m a b (ps.drop k) = keep ⟨a, ps[k].1 - a, b, ps[k].2 - b⟩ ++ gp n m (ps[k].1 + 1) (ps[k].2 + 1) (ps.drop (k + 1)) := by rw [List.drop_eq_getElem_cons hk, gp]

set_option maxRecDepth 100000 in
set_option maxHeartbeats 4000000 in
theorem stretches_any (fn : FuncId) (p : Value) (n0 : Nat) (J : List Gp → World → Prop) (HT : Told fn p n0 J) (A : Option Addr) (cap : Nat) (ps : List Pr) (n m : Int) (w : World) (hA : PrLow w n0 A ps) (hR : Rt ps n m) (hl : ps.length ≤ 900000)
    (hn : 0 ≤ n ∧ n ≤ 1000000) (hm : 0 ≤ m ∧ m ≤ 1000000) (hn0 : n0 ≤ w.heap.size) (h0 : J [] w) :
    Calls Try.prog 22 #[.slice A ps.length cap, .int .i64 n, .int .i64 m, .func (.func fn) #[] #[p]] w fun e w' => e = .returned (.tuple #[]) ∧ J (gp n m 0 0 ps) w' ∧ Below n0 w w' := by
  have HA := Lib.hid hA
  have HR := Lib.hid hR
  have HJ0 := Lib.hid h0
  have hent := HT.enters
  clear hA hR h0
  go_enter Try.func22, Try.ntmps22
  go_wp2_with fail
  go_loopg [8, 9, 14] ps.length (fun q x8 x9 x14 wx => ∃ (k : Nat) (a b : Int) (l : List Gp), x8 = .int .i64 a ∧ x9 = .int .i64 b ∧ x14 = .int .i64 k ∧ k ≤ ps.length ∧ ps.length - k ≤ q ∧ 0 ≤ a ∧ a ≤ n ∧ 0 ≤ b ∧ b ≤ m ∧ Hid (J l wx) ∧ Hid (l.length ≤ k) ∧ Hid (gp n m 0 0 ps = l ++ gp n m a b (ps.drop k)) ∧ Hid (Below n0 w wx) ∧ Hid (n0 ≤ wx.heap.size))
  case atStart => exact ⟨0, 0, 0, [], rfl, rfl, rfl, Nat.zero_le _, by omega, by omega, by omega, by omega, by omega, HJ0, Lib.hid (Nat.le_refl _), Lib.hid rfl, Lib.hid (Below.refl _ _), Lib.hid hn0⟩
  case round =>
    obtain ⟨k, a, b, l, rfl, rfl, rfl, hk, hmm, ha0, han, hb0, hbm, HJ, HLL, HG, HB, HS⟩ := hrel
    by_cases hlt : k < ps.length
    · obtain ⟨bk, off, hAe, hbk, hI⟩ := HA.out (by omega)
      subst hAe
      obtain ⟨q0, q1⟩ := hI k hlt
      have c0 := (HB.out.cell (p := ⟨bk, off + k * 2, none⟩) hbk).trans q0
      have c1 := (HB.out.cell (p := ⟨bk, off + k * 2 + 1, none⟩) hbk).trans q1
      have HN := Lib.hid (HG.out.trans (congrArg (l ++ ·) (gp_at hlt n m a b)))
      have hin := HR.out.all _ (List.getElem_mem hlt)
      have h0k : (0 : Int) ≤ (k : Int) := by omega
      have hki : (k : Int) < (ps.length : Int) := by omega
      clear hI q0 q1 HG
      obtain ⟨z, hz⟩ : ∃ z, z = ps[k] := ⟨_, rfl⟩
      rw [← hz] at c0 c1 HN hin
      clear hz
      obtain ⟨p0, p1⟩ := z
      simp only at c0 c1 HN hin
      obtain ⟨hi1, hi2, hi3, hi4⟩ := hin
      have hw1 : IntKind.i64.wrap (p0 - a) = p0 - a := by rw [IntKind.wrap_i64]; omega
      have hw2 : IntKind.i64.wrap (p1 - b) = p1 - b := by rw [IntKind.wrap_i64]; omega
      have hw3 : IntKind.i64.wrap (p0 + 1) = p0 + 1 := by rw [IntKind.wrap_i64]; omega
      have hw4 : IntKind.i64.wrap (p1 + 1) = p1 + 1 := by rw [IntKind.wrap_i64]; omega
      obtain ⟨W1, hW1⟩ : ∃ W : World, W = wr.alloc (.cells #[.int .i64 p0, .int .i64 p1] 40) := ⟨_, rfl⟩
      have hbw : Below wr.heap.size wr W1 := by rw [hW1]; exact alloc1 _ _
      have HX1 := Lib.hid (show W1.heap[wr.heap.size]? = some (.cells #[.int .i64 p0, .int .i64 p1] 40 (0, 0)) by rw [hW1]; exact heap_alloc_new wr _)
      have HT1 := Lib.hid (HT.tells l ⟨a, p0 - a, b, p1 - b⟩ W1 (HT.keeps _ _ _ HJ.out hbw) (Nat.le_trans HS.out hbw.size) (by have := HLL.out; omega))
      have HB1 := Lib.hid (HB.out.trans (hbw.mono HS.out))
      have HS1 := Lib.hid (Nat.le_trans HS.out hbw.size)
      clear hbw HB HJ
      simp only at HT1
      go_wp2_with fail
      rw [← hW1]
      clear hW1
      with_reducible refine HT1.out.mono ?_
      rintro e w2 ⟨rfl, hJ2, hk2⟩
      have hx2 := (hk2.2 _ _ HX1.out).trans HX1.out
      have x0 := L.blk_cell hx2 0
      have x1 := L.blk_cell hx2 1
      simp only [List.getElem?_toArray, List.getElem?_cons_zero, List.getElem?_cons_succ] at x0 x1
      have HJ2 := Lib.hid hJ2
      have HB2 := Lib.hid (HB1.out.trans hk2.1)
      have HS2 := Lib.hid (Nat.le_trans HS1.out hk2.1.size)
      clear hx2 hJ2 hk2 HT1 HX1 HB1 HS1
      go_wp2_with fail
      go_quiet (fail)
      go_wp2_with fail
      go_roundg (ps.length - (k + 1))
      case rel => exact ⟨k + 1, p0 + 1, p1 + 1, _, by go_num, by go_num, by go_num, by omega, Nat.le_refl _, by omega, by omega, by omega, by omega, Lib.hid (HT.keeps _ _ _ HJ2.out (drawn_below _ _)), Lib.hid (by have := HLL.out; have := keep_len ⟨a, p0 - a, b, p1 - b⟩; rw [List.length_append]; omega), Lib.hid (by rw [HN.out, List.append_assoc]), Lib.hid (HB2.out.trans ((drawn_below _ _).mono HS2.out)), Lib.hid (by have := HS2.out; simpa using this)⟩
      case measure => omega
    · obtain rfl : k = ps.length := by omega
      have HE := Lib.hid (show gp n m 0 0 ps = l ++ keep ⟨a, n - a, b, m - b⟩ by rw [HG.out, List.drop_length]; rfl)
      have hw1 : IntKind.i64.wrap (n - a) = n - a := by rw [IntKind.wrap_i64]; omega
      have hw2 : IntKind.i64.wrap (m - b) = m - b := by rw [IntKind.wrap_i64]; omega
      have HT1 := Lib.hid (HT.tells l ⟨a, n - a, b, m - b⟩ wr HJ.out HS.out (by have := HLL.out; omega))
      clear HG
      simp only at HT1
      go_wp2_with fail
      with_reducible refine HT1.out.mono ?_
      rintro e w2 ⟨rfl, hJ2, hk2⟩
      have HJ2 := Lib.hid hJ2
      have HB2 := Lib.hid (HB.out.trans hk2.1)
      clear hJ2 hk2 HT1
      go_wp2_with fail
      go_end0
      exact ⟨rfl, by rw [HE.out]; exact HJ2.out, HB2.out⟩

def GsEnd (W : World) (gs : List Gp) (e : Ending) (w' : World) : Prop := ∃ A cap, e = .returned (.slice A gs.length cap) ∧ GpIn w' A gs ∧ Below W.heap.size W w'
set_option maxRecDepth 100000 in
set_option maxHeartbeats 4000000 in
theorem gaps_any (A : Option Addr) (cap : Nat) (ps : List Pr) (n m : Int) (w : World) (hA : PrIn w A ps) (hl : ps.length ≤ 900000) (hn : n ≤ 1000000) (hm : m ≤ 1000000) :
    Calls Try.prog 16 #[.slice A ps.length cap, .int .i64 n, .int .i64 m] w (GsEnd w (gaps ps n m)) := by
  have hmf : ∀ (fn : Fn) (first cap : Array Value) (w : World), (Instr.makeFunc fn first cap).run Try.prog w = .ok (.func fn first cap) w := fun _ _ _ _ => rfl
  have HRI := Lib.hid (right_any A cap ps n m w hA (by unfold maxLen; omega))
  have HA := Lib.hid hA
  clear hA
  by_cases hn0 : n < 0
  · have HE := Lib.hid (show gaps ps n m = [] from if_neg (fun q => by omega))
    clear HRI
    go_enter Try.func16, Try.ntmps16
    go_wp2_with fail
    go_ret
    exact ⟨none, 0, by rw [HE.out]; rfl, by rw [HE.out]; exact fun h => absurd h (by simp), Below.refl _ _⟩
  · by_cases hm0 : m < 0
    · have HE := Lib.hid (show gaps ps n m = [] from if_neg (fun q => by omega))
      clear HRI
      go_enter Try.func16, Try.ntmps16
      go_wp2_with fail
      go_ret
      exact ⟨none, 0, by rw [HE.out]; rfl, by rw [HE.out]; exact fun h => absurd h (by simp), Below.refl _ _⟩
    · cases hr : right ps n m with
      | false =>
        have HE := Lib.hid (show gaps ps n m = [] from if_neg (fun q => by rw [hr] at q; exact Bool.noConfusion q.2.2))
        rw [hr] at HRI
        clear hr
        go_enter Try.func16, Try.ntmps16
        go_wp2_with (go_at_call 13; with_reducible refine HRI.out.mono ?_; rintro e w1 ⟨rfl, hb1⟩)
        go_ret
        exact ⟨none, 0, by rw [HE.out]; rfl, by rw [HE.out]; exact fun h => absurd h (by simp), hb1⟩
      | true =>
        have HE := Lib.hid (show gaps ps n m = gp n m 0 0 ps from if_pos ⟨by omega, by omega, hr⟩)
        have HRT := Lib.hid (right_iff.1 hr)
        rw [hr] at HRI
        clear hr
        go_enter Try.func16, Try.ntmps16
        go_wp2_with (go_at_call 13; with_reducible refine HRI.out.mono ?_; rintro e w1 ⟨rfl, hb1⟩; have HB1 := Lib.hid hb1; clear hb1)
        obtain ⟨W0, hW0⟩ : ∃ W : World, W = w1.alloc (.cells #[.slice none 0 0] 34) := ⟨_, rfl⟩
        have HB0 := Lib.hid (show Below w1.heap.size w1 W0 by rw [hW0]; exact alloc1 _ _)
        have HX0 := Lib.hid (show W0.heap[w1.heap.size]? = some (.cells #[.slice none 0 0] 34 (0, 0)) by rw [hW0]; exact heap_alloc_new w1 _)
        have HWK := Lib.hid (stretches_any 23 _ w1.heap.size (JG w1 w1.heap.size) (tellG w1 w1.heap.size) A cap ps n m W0 (pr_low (HA.out.below HB1.out) HB0.out) HRT.out hl ⟨by omega, hn⟩ ⟨by omega, hm⟩ HB0.out.size ⟨_, HX0.out, World.ownsRow_nil _ _ _ _, HB0.out⟩)
        try rw [← hW0]
        clear hW0
        with_reducible refine HWK.out.mono ?_
        rintro e w2 ⟨rfl, ⟨v, hbx, hown, hbl⟩, -⟩
        have c0 := L.blk_cell hbx 0
        simp only [List.getElem?_toArray, List.getElem?_cons_zero] at c0
        have HOW := Lib.hid hown
        clear hown hbx
        go_wp2_with fail
        go_ret
        have ho := HOW.out
        obtain ⟨VA, vcap, rfl, -, -⟩ := own_form ho
        exact ⟨VA, vcap, by rw [HE.out]; rfl, by rw [HE.out]; exact gp_own ho, HB1.out.trans (hbl.mono HB1.out.size)⟩
end Go.Proofs.Ythcmljknpealhaa.Mt
