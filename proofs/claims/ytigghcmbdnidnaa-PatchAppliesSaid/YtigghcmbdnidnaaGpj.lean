/-
  What the reference's Invert comes to, and its Same on equal scripts; Normal and Invert in one form each.
  The reference's Same on a script and its like.
  Of lists the first five count, and of each sixty lines.
  The contract of the reference's Numbers.
-/
import Derived.Test.YtigghcmbdnidnaaGpi
import Derived.Test.YtigghcmbdnidnaaGpd
import Derived.Test.YtigghcmbdnidnaaGpg
import Derived.Deep.AppendLies
import Derived.Deep.RegionLaw
import Derived.Deep.DeepCutAuto
import Derived.Deep.CutRange
import Derived.Test.YtigghcmbdnidnaaGpc
namespace Go.Proofs.Ytigghcmbdnidnaa.S
open Go.RowKit
open T
open V (grown_of IntsIn numCells numCells_snoc ints_own drawn_below)
open I (alloc1 own_at own_below)
open N (Ln)

theorem rnormal_any (A : Option Addr) (c b : Nat) (es : List Ed) (w : World) (hE : EdsIn b w A es) (hok : EdsOk es) :
    Calls Try.prog 32 #[.slice A es.length c] w (RnEnd w (nrm es) (ck es)) := by
  unfold nrm
  by_cases hc : ck es = 0
  · rw [if_pos hc, hc]; exact rnormal_good A c b es w hE hok hc
  · rw [if_neg hc]; exact rnormal_bad A c b es w hE hok hc
theorem normal_any (A : Option Addr) (c b : Nat) (es : List Ed) (w : World) (hE : EdsIn b w A es) (hok : EdsOk es) :
    Calls Try.prog 49 #[.slice A es.length c] w (NrEnd w (nrm es) (ck es)) := by
  unfold nrm
  by_cases hc : ck es = 0
  · rw [if_pos hc, hc]; exact normal_good A c b es w hE hok hc
  · rw [if_neg hc]; exact normal_bad A c b es w hE hok hc
theorem invert_any (A : Option Addr) (c b : Nat) (es : List Ed) (w : World) (hE : EdsIn b w A es) (hok : EdsOk es) :
    Calls Try.prog 35 #[.slice A es.length c] w (NrEnd w (inv es) (ck es)) := by
  unfold inv
  by_cases hc : ck es = 0
  · rw [if_pos hc, hc]; exact invert_good A c b es w hE hc
  · rw [if_neg hc]; exact invert_bad A c b es w hE hok hc
theorem EdsOk.iv {es : List Ed} (h : EdsOk es) : EdsOk (es.map iv) := ⟨by rw [List.length_map]; exact h.len, fun e he => by
  obtain ⟨x, hx, rfl⟩ := List.mem_map.1 he
  exact h.ls x hx⟩
theorem take_riv {rs : List Raw} {k : Nat} (hk : k < rs.length) : rawCells ((rs.take k).map riv) ++ [.int .i64 (tn rs[k].d), .slice rs[k].A rs[k].n rs[k].c] = rawCells ((rs.take (k + 1)).map riv) := by
  rw [List.take_succ_eq_append_getElem hk, List.map_append, rawCells_app]
  rfl

set_option maxRecDepth 100000 in
set_option maxHeartbeats 8000000 in
theorem rinvert_any (A : Option Addr) (c b : Nat) (es : List Ed) (w : World) (hE : EdsIn b w A es) (hok : EdsOk es) (hsz : es.length * 32 ≤ 140737488351232) :
    Calls Try.prog 37 #[.slice A es.length c] w (RnEnd w (inv es) (ck es)) := by
  obtain ⟨i0, hi0, hz0, hz1, hz2⟩ := info_parts infoEdit
  obtain ⟨rs, hr, hc⟩ := eds_raws (hE.low (Nat.zero_le b))
  have HR := Lib.hid hr
  have HC := Lib.hid hc
  have HIV : Hid (nrm (es.map iv) = inv es ∧ ck (es.map iv) = ck es) := Lib.hid ⟨by unfold nrm inv; rw [ck_iv], ck_iv es⟩
  have HOI := Lib.hid hok.iv
  have hrl : rs.length = es.length := hr.1
  obtain ⟨n, hn⟩ : ∃ n, n = es.length := ⟨_, rfl⟩
  have HN := Lib.hid (And.intro hn (hrl.trans hn.symm))
  rw [← hn] at hsz ⊢
  obtain ⟨W0, hW0⟩ : ∃ W : World, W = w.alloc (.cells #[] 54) := ⟨_, rfl⟩
  have HB0 := Lib.hid (show Below w.heap.size w W0 by rw [hW0]; exact alloc1 _ _)
  have HO0 : Hid (W0.ownsRow w.heap.size 54 2 (.slice (some ⟨w.heap.size, 0, none⟩) 0 0) 0 (rawCells ((rs.take 0).map riv))) := Lib.hid (by rw [hW0]; exact World.ownsRow_made (size := 2) (e := 54) w #[] 0 (Nat.le_refl _) (by unfold maxLen; omega) rfl)
  clear hr hc hn hrl hE hok
  go_enter Try.func37, Try.ntmps37
  go_wp2_with fail
  rw [← hW0]
  clear hW0
  go_loopg [4, 5] n (fun m ov iv wr => ∃ (k : Nat), k ≤ n ∧ iv = .int .i64 k ∧ n - k ≤ m ∧ Hid (wr.ownsRow w.heap.size 54 2 ov k (rawCells ((rs.take k).map riv))) ∧ Hid (Below w.heap.size w wr))
  case atStart => exact ⟨0, Nat.zero_le _, rfl, by omega, HO0, HB0⟩
  case round =>
    clear HO0 HB0
    obtain ⟨k, hk, rfl, hmm, HO, HB⟩ := hrel
    obtain ⟨oA, ocap, rfl, -, -⟩ := own_form HO.out
    by_cases hlt : k < n
    · have hkr : k < rs.length := by have := HN.out.2; omega
      obtain ⟨bk, off, hA, -, hbk, hcc⟩ := HC.out (by have := HN.out.1; omega)
      subst hA
      obtain ⟨q0, q1⟩ := rawCells_at rs k hkr
      have c0 : wr.cell? ⟨bk, off + k * 2, none⟩ = some (.int .i64 rs[k].d) := (HB.out.cell (p := ⟨bk, off + k * 2, none⟩) hbk).trans (hcc _ _ q0)
      have c1 : wr.cell? ⟨bk, off + k * 2 + 1, none⟩ = some (.slice rs[k].A rs[k].n rs[k].c) := (HB.out.cell (p := ⟨bk, off + k * 2 + 1, none⟩) hbk).trans (by have := hcc _ _ q1; rw [← Nat.add_assoc] at this; exact this)
      have cA : ∀ o, (wr.alloc o).cell? ⟨bk, off + k * 2, none⟩ = some (.int .i64 rs[k].d) := fun o => ((alloc1 wr o).cell (p := ⟨bk, off + k * 2, none⟩) (Nat.lt_of_lt_of_le hbk HB.out.size)).trans c0
      have HTK := Lib.hid (take_riv hkr)
      have h0k : (0 : Int) ≤ (k : Int) := by omega
      have hki : (k : Int) < (n : Int) := by omega
      have hbr := HB.out.size
      clear hcc q0 q1
      generalize rs[k] = r at *
      obtain ⟨d, rA, rn, rc⟩ := r
      simp only at c0 c1 cA HTK
      by_cases h2 : d = 2
      · subst h2
        obtain ⟨W1, hW1⟩ : ∃ W : World, W = wr.alloc (.cells #[.int .i64 3, .slice rA rn rc] 54) := ⟨_, rfl⟩
        have hX := heap_alloc_new wr (.cells #[.int .i64 3, .slice rA rn rc] 54)
        rw [← hW1] at hX
        have hb1 : Below wr.heap.size wr W1 := by rw [hW1]; exact alloc1 _ _
        have HB1 := Lib.hid (HB.out.trans (hb1.mono hbr))
        have HO1 := Lib.hid (own_below HO.out hb1)
        have hs1 : w.heap.size ≤ W1.heap.size := HB1.out.size
        have x0 := L.blk_cell hX 0
        have x1 := L.blk_cell hX 1
        simp only [List.getElem?_toArray, List.getElem?_cons_zero, List.getElem?_cons_succ] at x0 x1
        have HTQ : Hid (rawCells ((rs.take k).map riv) ++ [.int .i64 3, .slice rA rn rc] = rawCells ((rs.take (k + 1)).map riv)) := Lib.hid HTK.out
        clear hb1 hX HTK
        go_upto_region 10 with fail
        rw [← hW1]
        obtain ⟨xb, hxb⟩ : ∃ xb, xb = wr.heap.size := ⟨_, rfl⟩
        rw [← hxb] at x0 x1 ⊢
        clear hW1 hxb c0 c1 cA
        go_wp2_with (at_builtin; refine wpList_append_own _ rfl (.tmp 32) (.tmp 34) 40 rfl w.heap.size 54 i0 _ 2 32 Try.underlying40 hi0 hz0 hz1 hz2 rfl (by decide) _ k (rawCells ((rs.take k).map riv)) rfl (HO1.out.alloc _) ⟨W1.heap.size, 0, none⟩ 1 1 [.int .i64 3, .slice rA rn rc] rfl rfl (World.news_of_block (heap_alloc_new W1 _)) (by intro u hu; simp at hu; rcases hu with rfl | rfl <;> rfl) (by simp only [maxLen]; omega) (by omega) (by simp; omega) ?_; intro v' w4 hown4 hg4 _; rw [HTQ.out] at hown4; have HO4 := Lib.hid hown4; have HB4 : Hid (Below w.heap.size w w4) := Lib.hid ((HB1.out.alloc hs1 _).grown hg4 (by simp; omega) (fun q eq => own_base HO1.out q eq)); clear hown4 hg4)
        go_roundg (n - (k + 1))
        case rel => exact ⟨k + 1, by omega, by go_num, Nat.le_refl _, HO4, HB4⟩
        case measure => omega
      · have d2 : (d == 2) = false := beq_eq_false_iff_ne.2 h2
        by_cases h3 : d = 3
        · subst h3
          obtain ⟨W1, hW1⟩ : ∃ W : World, W = wr.alloc (.cells #[.int .i64 2, .slice rA rn rc] 54) := ⟨_, rfl⟩
          have hX := heap_alloc_new wr (.cells #[.int .i64 2, .slice rA rn rc] 54)
          rw [← hW1] at hX
          have hb1 : Below wr.heap.size wr W1 := by rw [hW1]; exact alloc1 _ _
          have HB1 := Lib.hid (HB.out.trans (hb1.mono hbr))
          have HO1 := Lib.hid (own_below HO.out hb1)
          have hs1 : w.heap.size ≤ W1.heap.size := HB1.out.size
          have x0 := L.blk_cell hX 0
          have x1 := L.blk_cell hX 1
          simp only [List.getElem?_toArray, List.getElem?_cons_zero, List.getElem?_cons_succ] at x0 x1
          have HTQ : Hid (rawCells ((rs.take k).map riv) ++ [.int .i64 2, .slice rA rn rc] = rawCells ((rs.take (k + 1)).map riv)) := Lib.hid HTK.out
          clear hb1 hX HTK
          go_upto_region 10 with fail
          rw [← hW1]
          obtain ⟨xb, hxb⟩ : ∃ xb, xb = wr.heap.size := ⟨_, rfl⟩
          rw [← hxb] at x0 x1 ⊢
          clear hW1 hxb c0 c1 cA
          go_wp2_with (at_builtin; refine wpList_append_own _ rfl (.tmp 32) (.tmp 34) 40 rfl w.heap.size 54 i0 _ 2 32 Try.underlying40 hi0 hz0 hz1 hz2 rfl (by decide) _ k (rawCells ((rs.take k).map riv)) rfl (HO1.out.alloc _) ⟨W1.heap.size, 0, none⟩ 1 1 [.int .i64 2, .slice rA rn rc] rfl rfl (World.news_of_block (heap_alloc_new W1 _)) (by intro u hu; simp at hu; rcases hu with rfl | rfl <;> rfl) (by simp only [maxLen]; omega) (by omega) (by simp; omega) ?_; intro v' w4 hown4 hg4 _; rw [HTQ.out] at hown4; have HO4 := Lib.hid hown4; have HB4 : Hid (Below w.heap.size w w4) := Lib.hid ((HB1.out.alloc hs1 _).grown hg4 (by simp; omega) (fun q eq => own_base HO1.out q eq)); clear hown4 hg4)
          go_roundg (n - (k + 1))
          case rel => exact ⟨k + 1, by omega, by go_num, Nat.le_refl _, HO4, HB4⟩
          case measure => omega
        · have d3 : (d == 3) = false := beq_eq_false_iff_ne.2 h3
          have HTN : Hid (tn d = d) := Lib.hid (by unfold tn; rw [if_neg h2, if_neg h3])
          rw [HTN.out] at HTK
          clear h2 h3
          obtain ⟨W1, hW1⟩ : ∃ W : World, W = wr.alloc (.cells #[.int .i64 d, .slice rA rn rc] 54) := ⟨_, rfl⟩
          have hX := heap_alloc_new wr (.cells #[.int .i64 d, .slice rA rn rc] 54)
          rw [← hW1] at hX
          have hb1 : Below wr.heap.size wr W1 := by rw [hW1]; exact alloc1 _ _
          have HB1 := Lib.hid (HB.out.trans (hb1.mono hbr))
          have HO1 := Lib.hid (own_below HO.out hb1)
          have hs1 : w.heap.size ≤ W1.heap.size := HB1.out.size
          have x0 := L.blk_cell hX 0
          have x1 := L.blk_cell hX 1
          simp only [List.getElem?_toArray, List.getElem?_cons_zero, List.getElem?_cons_succ] at x0 x1
          have HTQ : Hid (rawCells ((rs.take k).map riv) ++ [.int .i64 d, .slice rA rn rc] = rawCells ((rs.take (k + 1)).map riv)) := Lib.hid HTK.out
          clear hb1 hX HTK
          go_upto_region 10 with fail
          rw [← hW1]
          obtain ⟨xb, hxb⟩ : ∃ xb, xb = wr.heap.size := ⟨_, rfl⟩
          rw [← hxb] at x0 x1 ⊢
          clear hW1 hxb c0 c1 cA
          go_wp2_with (at_builtin; refine wpList_append_own _ rfl (.tmp 32) (.tmp 34) 40 rfl w.heap.size 54 i0 _ 2 32 Try.underlying40 hi0 hz0 hz1 hz2 rfl (by decide) _ k (rawCells ((rs.take k).map riv)) rfl (HO1.out.alloc _) ⟨W1.heap.size, 0, none⟩ 1 1 [.int .i64 d, .slice rA rn rc] rfl rfl (World.news_of_block (heap_alloc_new W1 _)) (by intro u hu; simp at hu; rcases hu with rfl | rfl <;> rfl) (by simp only [maxLen]; omega) (by omega) (by simp; omega) ?_; intro v' w4 hown4 hg4 _; rw [HTQ.out] at hown4; have HO4 := Lib.hid hown4; have HB4 : Hid (Below w.heap.size w w4) := Lib.hid ((HB1.out.alloc hs1 _).grown hg4 (by simp; omega) (fun q eq => own_base HO1.out q eq)); clear hown4 hg4)
          go_roundg (n - (k + 1))
          case rel => exact ⟨k + 1, by omega, by go_num, Nat.le_refl _, HO4, HB4⟩
          case measure => omega
    · obtain rfl : k = n := by omega
      have HEI : Hid (EdsIn 0 wr oA (es.map iv)) := Lib.hid (by
        have ho := HO.out
        have h1 := HN.out.1
        have h2 := HN.out.2
        rw [← h2, List.take_length, HR.out.1, ← List.length_map (f := iv)] at ho
        exact raws_eds ho ((HR.out.below HB.out).iv) (Nat.zero_le _))
      have HNG : Hid (Calls Try.prog 32 #[.slice oA k ocap] wr (RnEnd wr (inv es) (ck es))) := Lib.hid (by
        have := rnormal_any oA ocap 0 (es.map iv) wr HEI.out HOI.out
        rw [List.length_map, ← HN.out.1, HIV.out.1, HIV.out.2] at this
        exact this)
      clear HEI
      generalize ck es = q at *
      go_wp2_with fail
      with_reducible refine (HNG.out).mono ?_
      rintro e w4 ⟨NA, ncap, rfl, hE4, hb4⟩
      have HE4 := Lib.hid hE4
      have HB4 : Hid (Below w.heap.size w w4) := Lib.hid (HB.out.trans (hb4.mono HB.out.size))
      clear hE4 hb4
      go_wp2_with fail
      go_ret2
      exact ⟨NA, ncap, rfl, HE4.out, HB4.out⟩

end Go.Proofs.Ytigghcmbdnidnaa.S

namespace Go.Proofs.Ytigghcmbdnidnaa.S
open Go.RowKit
open T
open V (grown_of IntsIn numCells numCells_snoc ints_own drawn_below)
open I (alloc1 own_at own_below)
open N (Ln)

set_option maxHeartbeats 1000000 in
set_option maxRecDepth 100000 in
theorem rsame_q (A A' : Option Addr) (cap cap' : Nat) (xs : List Ln) (w : World) (hb : xs.length ≤ maxLen) (hA : LinesIn w A xs) (hA' : LinesIn w A' xs) :
    Calls Try.prog 13 #[.slice A xs.length cap, .slice A' xs.length cap'] w fun e w' => e = .returned (.bool true) ∧ ∃ m, w' = w.drewN m := by
  unfold maxLen at hb
  have HA := Lib.hid hA
  have HB := Lib.hid hA'
  clear hA hA'
  have hne : ((xs.length : Int) != (xs.length : Int)) = false := by simp
  go_enter Try.func13, Try.ntmps13
  go_wp2_with fail
  go_loopg [5] xs.length (fun n i wr => ∃ k : Nat, k ≤ xs.length ∧ i = .int .i64 k ∧ xs.length - k ≤ n ∧ ∃ q, wr = w.drewN q)
  case atStart => exact ⟨0, Nat.zero_le _, rfl, by omega, 0, rfl⟩
  case round =>
    obtain ⟨k, hk, rfl, hn, q, rfl⟩ := hrel
    by_cases hlt : k < xs.length
    · obtain ⟨bk, off, hAe, hbk, hL⟩ := HA.out (by omega)
      obtain ⟨bk', off', hAe', hbk', hL'⟩ := HB.out (by omega)
      subst hAe hAe'
      obtain ⟨c0, c1⟩ := hL k hlt
      obtain ⟨d0, d1⟩ := hL' k hlt
      have h0k : (0 : Int) ≤ (k : Int) := Int.natCast_nonneg _
      have h1k : (k : Int) < (xs.length : Int) := by omega
      clear hL hL'
      generalize xs[k].2 = b at *
      generalize xs[k].1 = t at *
      go_wp2_with fail
      go_quiet (fail)
      go_wp2_with fail
      go_roundg (xs.length - (k + 1))
      case measure => omega
      case rel => exact ⟨k + 1, by omega, by go_num, Nat.le_refl _, _, rfl⟩
    · obtain rfl : k = xs.length := by omega
      go_wp2_with fail
      go_ret
      exact ⟨rfl, q, rfl⟩
set_option maxHeartbeats 2000000 in
set_option maxRecDepth 100000 in
theorem esame_any (A B : Option Addr) (c c' : Nat) (es : List Ed) (w : World) (hok : EdsOk es) (hA : EdsIn 0 w A es) (hB : EdsIn 0 w B es) :
    Calls Try.prog 38 #[.slice A es.length c, .slice B es.length c'] w fun e w' => e = .returned (.bool true) ∧ ∃ m, w' = w.drewN m := by
  have hl := hok.len
  have HLS := Lib.hid hok.ls
  unfold maxLen at hl
  have HA := Lib.hid hA
  have HB := Lib.hid hB
  clear hA hB hok
  have hne : ((es.length : Int) != (es.length : Int)) = false := by simp
  go_enter Try.func38, Try.ntmps38
  go_wp2_with fail
  go_loopg [5] es.length (fun n i wr => ∃ k : Nat, k ≤ es.length ∧ i = .int .i64 k ∧ es.length - k ≤ n ∧ Hid (∃ q, wr = w.drewN q))
  case atStart => exact ⟨0, Nat.zero_le _, rfl, by omega, Lib.hid ⟨0, rfl⟩⟩
  case round =>
    obtain ⟨k, hk, rfl, hn, HQ⟩ := hrel
    by_cases hlt : k < es.length
    · have hbw : Below w.heap.size w wr := by obtain ⟨q, rfl⟩ := HQ.out; exact drawn_below w q
      obtain ⟨bk, off, LA, lc, hAe, c0, c1, g2, -⟩ := edit_at HA.out hbw hlt
      obtain ⟨bk', off', LB, lc', hBe, d0, d1, g3, -⟩ := edit_at HB.out hbw hlt
      subst hAe hBe
      have hll := HLS.out _ (List.getElem_mem hlt)
      have HC : Hid (∀ n, Calls Try.prog 13 #[.slice LA es[k].2.length lc, .slice LB es[k].2.length lc'] (wr.drewN n) fun e w' => e = .returned (.bool true) ∧ ∃ m, w' = (wr.drewN n).drewN m) := Lib.hid (fun n => rsame_q LA LB lc lc' es[k].2 (wr.drewN n) hll ((g2.below hbw).below (drawn_below wr n)) ((g3.below hbw).below (drawn_below wr n)))
      have h0k : (0 : Int) ≤ (k : Int) := Int.natCast_nonneg _
      have h1k : (k : Int) < (es.length : Int) := by omega
      clear hbw g2 g3 hll
      generalize es[k].2 = l at *
      generalize es[k].1 = d at *
      have hnd : (d != d) = false := by simp
      go_wp2_with fail
      go_quiet ((go_at_call 13; exact Calls.quiet_of (HC.out _)))
      go_wp2_with fail
      go_roundg (es.length - (k + 1))
      case measure => omega
      case rel => exact ⟨k + 1, by omega, by go_num, Nat.le_refl _, Lib.hid (by obtain ⟨q, rfl⟩ := HQ.out; exact ⟨_, World.drewN_drewN _ _ _⟩)⟩
    · obtain rfl : k = es.length := by omega
      go_wp2_with fail
      go_ret
      exact ⟨rfl, HQ.out⟩
end Go.Proofs.Ytigghcmbdnidnaa.S

namespace Go.Proofs.Ytigghcmbdnidnaa.N
set_option linter.unusedVariables false
set_option linter.unusedSimpArgs false
open Go.RowKit
open T
open V (grown_of IntsIn numCells numCells_snoc ints_own drawn_below)
open I (alloc1 own_at own_below)

def fewL (ls : List (List Ln)) : List (List Ln) := (ls.take 5).map (·.take 60)
theorem few_take {ls : List (List Ln)} {k : Nat} (hk : k < ls.length) (h5 : k < 5) : (ls.take (k + 1)).map (·.take 60) = (ls.take k).map (·.take 60) ++ [ls[k].take 60] := by
  rw [List.take_succ_eq_append_getElem hk, List.map_append]; rfl
/-- Slices of lists, as values. -/
def Lss (w : World) (vs : List Value) (ls : List (List Ln)) : Prop :=
  vs.length = ls.length ∧ ∀ j (h : j < ls.length) (h' : j < vs.length), ∃ A c, vs[j] = .slice A ls[j].length c ∧ LinesIn w A ls[j] ∧ ls[j].length ≤ c
theorem Lss.snoc {w : World} {vs : List Value} {ls : List (List Ln)} (h : Lss w vs ls) {A : Option Addr} {c : Nat} {l : List Ln} (hl : LinesIn w A l) (hc : l.length ≤ c) : Lss w (vs ++ [.slice A l.length c]) (ls ++ [l]) := by
  refine ⟨by simp [h.1], fun j hj hj' => ?_⟩
  by_cases e : j < ls.length
  · have e' : j < vs.length := by rw [h.1]; exact e
    rw [List.getElem_append_left e', List.getElem_append_left e]
    exact h.2 j e e'
  · obtain rfl : j = ls.length := by simp at hj; omega
    rw [List.getElem_append_right (by rw [h.1]; exact Nat.le_refl _), List.getElem_append_right (Nat.le_refl _)]
    exact ⟨A, c, by simp [h.1], by simpa using hl, by simpa using hc⟩
theorem lines_take {w : World} {A : Option Addr} {l : List Ln} (h : LinesIn w A l) (n : Nat) : LinesIn w A (l.take n) := fun hp => by
  rw [List.length_take] at hp
  obtain ⟨bk, off, e, hlt, hl⟩ := h (by omega)
  refine ⟨bk, off, e, hlt, fun j hj => ?_⟩
  rw [List.length_take] at hj
  have := hl j (by omega)
  simp only [List.getElem_take]
  exact this
theorem lists_of {w w' : World} {base : Nat} {A : Option Addr} {cap : Nat} {vs : List Value} {ls : List (List Ln)} (ho : w'.ownsRow base 23 1 (.slice A vs.length cap) vs.length vs) (h : Lss w vs ls) (hb : Below w.heap.size w w') : ListsIn w' A ls := fun hp => by
  obtain ⟨g, e, _, hg, hat⟩ := own_at ho (by rw [h.1]; exact hp)
  refine ⟨g, 0, e, hg, fun j hj => ?_⟩
  have hj' : j < vs.length := by rw [h.1]; exact hj
  obtain ⟨B, c, e2, hl, hc⟩ := h.2 j hj hj'
  refine ⟨B, c, ?_, hl.below hb, hc⟩
  rw [Nat.zero_add]
  exact hat j _ (by rw [List.getElem?_eq_getElem hj', e2])
theorem infoLns : (Try.prog.info? 23).map (fun i => (i.zero, i.size, i.bytes)) = some (some (.slice none 0 0), 1, 24) := by kernel_rfl

end Go.Proofs.Ytigghcmbdnidnaa.N

namespace Go.Proofs.Ytigghcmbdnidnaa.N
set_option linter.unusedVariables false
set_option linter.unusedSimpArgs false
open Go.RowKit
open T
open V (grown_of IntsIn numCells numCells_snoc ints_own drawn_below lines_own)
open I (alloc1 own_at own_below)

theorem own_lt {w : World} {base : Nat} {e : TypeId} {size n : Nat} {v : Value} {xs : List Value} (h : w.ownsRow base e size v n xs) : ∀ g, v.ownBlock = some g → g < w.heap.size := fun g e' => by
  rcases h.2 with ⟨rfl, _⟩ | ⟨g', cap, cur, rfl, _, hg, _⟩
  · cases e'
  · simp only [Value.ownBlock, Option.some.injEq] at e'; subst e'; exact L.blk_lt hg
/-- The place of the first line that is like x, or how many there are. -/
def pos (ks : List Ln) (x : Ln) : Nat := ks.idxOf x
theorem pos_in {ks : List Ln} {x : Ln} (h : x ∈ ks) : (add ks x).idxOf x = pos ks x := by unfold add pos; rw [if_pos h]
theorem pos_not {ks : List Ln} {x : Ln} (h : x ∉ ks) : (add ks x).idxOf x = pos ks x := by
  unfold add pos
  rw [if_neg h, List.idxOf_append, if_neg h, List.idxOf_eq_length h]
  simp
theorem pos_le (ks : List Ln) (x : Ln) : pos ks x ≤ ks.length := List.idxOf_le_length
theorem pos_is {ks : List Ln} {x : Ln} {n : Nat} (h : ∀ j (hj : j < ks.length), j < n → ¬ ks[j] = x) (hn : n ≤ ks.length) (hs : ∀ hn : n < ks.length, ks[n] = x) : pos ks x = n := by
  unfold pos
  by_cases e : n < ks.length
  · have := hs e
    have h1 : ks.idxOf x ≤ n := by
      refine Nat.le_of_not_lt fun hlt => ?_
      have := List.not_of_lt_findIdx (p := (· == x)) (xs := ks) (i := n) hlt
      simp [this, hs e] at this
    have h2 : ¬ ks.idxOf x < n := fun hlt => by
      have hm : x ∈ ks := by rw [← this]; exact List.getElem_mem e
      have hi := List.idxOf_lt_length_iff.2 hm
      exact h _ hi hlt (List.getElem_idxOf hi)
    omega
  · obtain rfl : n = ks.length := by omega
    refine List.idxOf_eq_length fun hm => ?_
    obtain ⟨j, hj, e2⟩ := List.mem_iff_getElem.1 hm
    exact h j hj hj e2
theorem ln_ne {a b : Ln} (h : ¬ a = b) : (⟨a.1.toArray⟩ : ByteArray).toList ≠ (⟨b.1.toArray⟩ : ByteArray).toList ∨ ((⟨a.1.toArray⟩ : ByteArray) = ⟨b.1.toArray⟩ ∧ a.2 ≠ b.2) := by
  obtain ⟨a1, a2⟩ := a
  obtain ⟨b1, b2⟩ := b
  by_cases h1 : a1 = b1
  · exact .inr ⟨by rw [h1], fun e => h (by simp only at e; rw [h1, e])⟩
  · exact .inl fun e => h1 (by simpa [Lib.toList_data] using e)

/-- The rows of a round: the lines that are known, the numbers so far, the rows that are done. -/
structure Rn (w : World) (r0 : Nat) (kv rv ov : Value) (kx : List Ln) (ys : List Int) (vs : List Value) (rs : List (List Int)) (W : World) : Prop where
  k : W.ownsRow w.heap.size 59 2 kv kx.length (lineCells kx)
  r : W.ownsRow r0 3 1 rv ys.length (numCells ys)
  o : W.ownsRow w.heap.size 28 1 ov vs.length vs
  rw : Rws W w.heap.size vs rs
  b : Below w.heap.size w W
  s : r0 ≤ W.heap.size
  s0 : w.heap.size ≤ r0
  sep : ∀ j (h : j < vs.length) (_ : j < rs.length) g, vs[j].ownBlock = some g → g < r0
theorem Rn.below {w : World} {r0 : Nat} {kv rv ov : Value} {kx : List Ln} {ys : List Int} {vs : List Value} {rs : List (List Int)} {W W' : World} (h : Rn w r0 kv rv ov kx ys vs rs W) (hb : Below W.heap.size W W') : Rn w r0 kv rv ov kx ys vs rs W' :=
  ⟨own_below h.k hb, own_below h.r hb, own_below h.o hb, h.rw.below hb, h.b.trans (hb.mono h.b.size), Nat.le_trans h.s hb.size, h.s0, h.sep⟩
theorem Rn.addK {w : World} {r0 : Nat} {kv kv' rv ov : Value} {kx kx' : List Ln} {ys : List Int} {vs : List Value} {rs : List (List Int)} {W W' : World} (h : Rn w r0 kv rv ov kx ys vs rs W) (hg : W.grownBy W' kv.ownBlock) (hk : W'.ownsRow w.heap.size 59 2 kv' kx'.length (lineCells kx')) : Rn w r0 kv' rv ov kx' ys vs rs W' :=
  ⟨hk, h.r.kept hg (V.own_apart (by decide) h.r h.k), h.o.kept hg (V.own_apart (by decide) h.o h.k), h.rw.kept hg (fun j a b => V.own_apart (by decide) (h.rw.2 j a b) h.k), h.b.grown hg h.b.size (own_base h.k), Nat.le_trans h.s hg.size, h.s0, h.sep⟩
theorem Rn.addR {w : World} {r0 : Nat} {kv rv rv' ov : Value} {kx : List Ln} {ys ys' : List Int} {vs : List Value} {rs : List (List Int)} {W W' : World} (h : Rn w r0 kv rv ov kx ys vs rs W) (hg : W.grownBy W' rv.ownBlock) (hk : W'.ownsRow r0 3 1 rv' ys'.length (numCells ys')) : Rn w r0 kv rv' ov kx ys' vs rs W' :=
  ⟨h.k.kept hg (V.own_apart (by decide) h.k h.r), hk, h.o.kept hg (V.own_apart (by decide) h.o h.r), h.rw.kept hg (fun j a b => by
    cases hv : (vs[j]).ownBlock with
    | none => exact .inl rfl
    | some g => exact .inr fun e => absurd (own_base h.r g e.symm) (Nat.not_le.2 (h.sep j b a g hv))), h.b.grown hg h.b.size (fun g e => Nat.le_trans h.s0 (own_base h.r g e)), Nat.le_trans h.s hg.size, h.s0, h.sep⟩

set_option maxRecDepth 100000 in
set_option maxHeartbeats 8000000 in
theorem rnumbers_any (A : Option Addr) (cap : Nat) (ls : List (List Ln)) (w : World) (hA : ListsIn w A ls) (h5 : ls.length ≤ 5) (h60 : ∀ l ∈ ls, l.length ≤ 60) :
    Calls Try.prog 30 #[.slice A ls.length cap] w (NmEnd w (numsAll [] ls)) := by
  obtain ⟨i0, hi0, hz0, hz1, hz2⟩ := info_parts infoRow
  obtain ⟨l0, hl0, ly0, ly1, ly2⟩ := info_parts infoLine
  obtain ⟨n0, hn0, ny0, ny1, ny2⟩ := info_parts L.infoInt
  have HA := Lib.hid hA
  have H60 := Lib.hid h60
  clear hA h60
  obtain ⟨W0, hW0⟩ : ∃ W : World, W = (w.alloc (.cells #[] 59)).alloc (.cells #[] 28) := ⟨_, rfl⟩
  have HB0 := Lib.hid (show Below w.heap.size w W0 by rw [hW0]; exact (alloc1 _ _).alloc (by simp) _)
  have HK0 := Lib.hid (show W0.ownsRow w.heap.size 59 2 (.slice (some ⟨w.heap.size, 0, none⟩) 0 0) 0 [] by rw [hW0]; exact (World.ownsRow_made w #[] 0 (Nat.le_refl _) (Nat.zero_le _) rfl).alloc _)
  have HO0 := Lib.hid (show W0.ownsRow w.heap.size 28 1 (.slice (some ⟨w.heap.size + 1, 0, none⟩) 0 0) 0 [] by
    have := World.ownsRow_made (e := 28) (size := 1) (w.alloc (.cells #[] 59)) #[] 0 (Nat.le_refl _) (Nat.zero_le _) rfl
    rw [World.size_alloc] at this
    rw [hW0]
    exact own_more this (by omega))
  go_enter Try.func30, Try.ntmps30
  go_wp2_with fail
  rw [← hW0]
  clear hW0
  go_loopg [3, 4, 5] ls.length (fun q kv ov i wr => ∃ (k : Nat) (vs : List Value), k ≤ ls.length ∧ i = .int .i64 k ∧ ls.length - k ≤ q ∧ wr.ownsRow w.heap.size 59 2 kv (knownAll [] (ls.take k)).length (lineCells (knownAll [] (ls.take k))) ∧ wr.ownsRow w.heap.size 28 1 ov vs.length vs ∧ Rws wr w.heap.size vs (numsAll [] (ls.take k)) ∧ Below w.heap.size w wr ∧ vs.length = k)
  case atStart => exact ⟨0, [], Nat.zero_le _, rfl, by omega, by simpa [knownAll, lineCells] using HK0.out, HO0.out, by simpa [numsAll] using Rws.nil W0 w.heap.size, HB0.out, rfl⟩
  case round =>
    obtain ⟨k, vs, hk, rfl, hmm, hkn, hout, hrw, hbr, hvl⟩ := hrel
    by_cases hlt : k < ls.length
    · obtain ⟨bk, off, hAe, hbk, hI⟩ := HA.out (by omega)
      subst hAe
      obtain ⟨B, cB, q0, q1, q2⟩ := hI k hlt
      have HQ0 := Lib.hid q0
      have HQ1 := Lib.hid q1
      have HBK := Lib.hid hbk
      have HN := Lib.hid (numsAll_take (ks := []) hlt)
      have HKA := Lib.hid (knownAll_take (ks := []) hlt)
      have h0k : (0 : Int) ≤ (k : Int) := by omega
      have hki : (k : Int) < (ls.length : Int) := by omega
      have hkl := knownAll_length (ls.take k) [] (fun y hy => H60.out y (List.mem_of_mem_take hy))
      have hll := H60.out _ (List.getElem_mem hlt)
      have hkl2 : (knownAll [] (ls.take k)).length ≤ 300 := by rw [List.length_take] at hkl; simp at hkl; omega
      obtain ⟨l, hl⟩ : ∃ l, l = ls[k] := ⟨_, rfl⟩
      obtain ⟨kk, hkk⟩ : ∃ kk, kk = knownAll [] (ls.take k) := ⟨_, rfl⟩
      obtain ⟨rs, hrs⟩ : ∃ rs, rs = numsAll [] (ls.take k) := ⟨_, rfl⟩
      rw [← hl] at HQ0 HQ1 HN HKA hll
      rw [← hkk] at HN HKA hkl2 hkn
      rw [← hrs] at HN hrw
      clear hI q0 q1 hl hkk hrs hkl
      have HSEP := Lib.hid (fun j (h : j < vs.length) (h' : j < rs.length) g (hg : vs[j].ownBlock = some g) => own_lt (hrw.2 j h' h) g hg)
      obtain ⟨W1, hW1⟩ : ∃ W : World, W = wr.alloc (.cells #[] 3) := ⟨_, rfl⟩
      have hb1 : Below wr.heap.size wr W1 := by rw [hW1]; exact alloc1 _ _
      have HR1 := Lib.hid (show W1.ownsRow wr.heap.size 3 1 (.slice (some ⟨wr.heap.size, 0, none⟩) 0 0) 0 [] by rw [hW1]; exact World.ownsRow_made wr #[] 0 (Nat.le_refl _) (Nat.zero_le _) rfl)
      have HK1 := Lib.hid (own_below hkn hb1)
      have HO1 := Lib.hid (own_below hout hb1)
      have HW1 := Lib.hid (hrw.below hb1)
      have hbs := hbr.size
      have hs1 := hb1.size
      have HB1 := Lib.hid (hbr.trans (hb1.mono hbs))
      clear hkn hout hrw hbr hb1
      go_wp2_with fail
      rw [← hW1]
      clear hW1
      obtain ⟨r0, hr0⟩ : ∃ r, r = wr.heap.size := ⟨_, rfl⟩
      rw [← hr0] at HSEP HR1 hbs hs1 ⊢
      clear hr0
      have HRN0 := Lib.hid (show Rn w r0 u3 (.slice (some ⟨r0, 0, none⟩) 0 0) u4 kk [] vs rs W1 from ⟨HK1.out, HR1.out, HO1.out, HW1.out, HB1.out, by omega, hbs, fun j h h' g hg => HSEP.out j h h' g hg⟩)
      go_loopg [3, 6, 7] l.length (fun q kv rv i wx => ∃ (j : Nat) (ys : List Int), j ≤ l.length ∧ i = .int .i64 j ∧ l.length - j ≤ q ∧ Rn w r0 kv rv u4 (known kk (l.take j)) ys vs rs wx ∧ ys.length = j ∧ Hid (ys = row kk (l.take j)))
      case atStart => exact ⟨0, [], Nat.zero_le _, rfl, by omega, by simpa [known] using HRN0.out, rfl, Lib.hid (by simp [row])⟩
      case round =>
        obtain ⟨j, ys, hj, rfl, hjm, hrn, hyl, HY⟩ := hrel
        have HYL := Lib.hid hyl
        have hyb : ys.length ≤ 60 := by omega
        clear hyl
        have c0 := (hrn.b.cell (p := ⟨bk, off + k, none⟩) HBK.out).trans HQ0.out
        have hkxl : (known kk (l.take j)).length ≤ 300 + 60 := by
          have := known_length (l.take j) kk
          rw [List.length_take] at this
          omega
        obtain ⟨KA, kcap, rfl, -, -⟩ := own_form hrn.k
        obtain ⟨RA, rcap, rfl, -, -⟩ := own_form hrn.r
        by_cases hjl : j < l.length
        · obtain ⟨bl, ol, hBe, hbl, hL⟩ := HQ1.out (by omega)
          subst hBe
          obtain ⟨p0, p1⟩ := hL j hjl
          have c1 := (hrn.b.cell (p := ⟨bl, ol + j * 2, none⟩) hbl).trans p0
          have c2 := (hrn.b.cell (p := ⟨bl, ol + j * 2 + 1, none⟩) hbl).trans p1
          have HRT := Lib.hid (row_take (ks := kk) hjl)
          have HKT := Lib.hid (known_take (ks := kk) hjl)
          rw [← HY.out] at HRT
          have h0j : (0 : Int) ≤ (j : Int) := by omega
          have hji : (j : Int) < (l.length : Int) := by omega
          obtain ⟨x, hx⟩ : ∃ x, x = l[j] := ⟨_, rfl⟩
          obtain ⟨kx, hkx⟩ : ∃ kx, kx = known kk (l.take j) := ⟨_, rfl⟩
          rw [← hx] at c1 c2 HRT HKT
          rw [← hkx] at HRT HKT hrn hkxl ⊢
          have HRN := Lib.hid hrn
          have HKL := Lib.hid (V.lines_own hrn.k)
          clear hx hkx hL p0 p1 hrn
          go_wp2_with fail
          go_loopg [8] kx.length (fun q nv wn => ∃ n, n ≤ kx.length ∧ nv = .int .i64 n ∧ kx.length - n ≤ q ∧ (∃ d, wn = wr.drewN d) ∧ Hid (∀ i (hi : i < kx.length), i < n → ¬ kx[i] = x))
          case atStart => exact ⟨0, Nat.zero_le _, rfl, by omega, ⟨0, rfl⟩, Lib.hid fun i hi h => absurd h (by omega)⟩
          case round =>
            obtain ⟨n, hn, rfl, hnm, ⟨d, rfl⟩, HJ⟩ := hrel
            by_cases hnk : n < kx.length
            · obtain ⟨bq, oq, hQe, hbq, hQ⟩ := HKL.out (by omega)
              subst hQe
              obtain ⟨d0, d1⟩ := hQ n hnk
              have h0n : (0 : Int) ≤ (n : Int) := by omega
              have hni : (n : Int) < (kx.length : Int) := by omega
              have HXN := Lib.hid (fun (h : ¬ kx[n] = x) => fun i (hi : i < kx.length) (hin : i < n + 1) => (by
                by_cases e : i = n
                · subst e; exact h
                · exact HJ.out i hi (by omega) : ¬ kx[i] = x))
              have HXY := Lib.hid (fun (h : kx[n] = x) => (⟨by unfold add; rw [if_pos (by rw [← h]; exact List.getElem_mem hnk)], pos_is HJ.out hn (fun _ => h)⟩ : add kx x = kx ∧ pos kx x = n))
              obtain ⟨y, hy⟩ : ∃ y, y = kx[n] := ⟨_, rfl⟩
              rw [← hy] at d0 d1 HXN HXY
              clear hy hQ HJ
              obtain ⟨y1, y2⟩ := y
              by_cases he : (y1, y2) = x
              · obtain ⟨ha, hp⟩ := HXY.out he
                subst he
                rw [ha] at HRT HKT
                have hpi : ((kx.idxOf (y1, y2) : Nat) : Int) = (n : Int) := by unfold pos at hp; rw [hp]
                rw [hpi] at HRT
                clear ha hp hpi HXN HXY
                simp only at c1 c2 d0 d1
                obtain ⟨s, hs⟩ : ∃ s : ByteArray, s = ⟨y1.toArray⟩ := ⟨_, rfl⟩
                rw [← hs] at c1 d0
                have hnn : ((n : Int) == (kx.length : Int)) = false := by simp; omega
                go_wp2_with fail
                have hsr := HRN.out.s
                go_quiet (fail)
                go_wp2_with (at_builtin; refine wpList_append_own _ rfl _ _ 28 rfl r0 3 n0 _ 1 8 Try.underlying28 hn0 ny0 ny1 ny2 rfl (by decide) _ ys.length (numCells ys) rfl ((HRN.out.below (drawn_below wr _)).r.alloc _) ⟨_, 0, none⟩ 1 1 [.int .i64 n] rfl rfl (World.news_of_block (alloc_at _ (by first | rfl | simp))) (by intro u hu; simp at hu; rcases hu with rfl; rfl) (by simp only [maxLen]; omega) (by omega) (by first | omega | (simp; omega)) ?_; intro v' w4 hown4 hg4 _)
                have hrn5 : Rn w r0 (.slice (some ⟨bq, oq, none⟩) kx.length kcap) v' u4 kx (ys ++ [(n : Int)]) vs rs w4 := ((HRN.out.below (drawn_below wr _)).below (alloc1 _ _)).addR hg4 (by rw [numCells_snoc]; simpa using hown4)
                clear hown4 hg4
                go_wp2_with fail
                go_roundg (l.length - (j + 1))
                case rel => exact ⟨j + 1, ys ++ [(n : Int)], by omega, by go_num, Nat.le_refl _, by rw [HKT.out]; exact hrn5, by simp [HYL.out], Lib.hid (by rw [HRT.out])⟩
                case measure => omega
              · have HX2 := Lib.hid (HXN.out he)
                clear HXN HXY
                obtain ⟨x1, x2⟩ := x
                simp only at c1 c2 d0 d1
                have HE := Lib.hid (ln_ne he)
                clear he
                simp only at HE
                obtain ⟨s, hs⟩ : ∃ s : ByteArray, s = ⟨y1.toArray⟩ := ⟨_, rfl⟩
                obtain ⟨t, ht⟩ : ∃ t : ByteArray, t = ⟨x1.toArray⟩ := ⟨_, rfl⟩
                rw [← hs] at d0 HE
                rw [← ht] at c1 HE
                clear hs ht
                rcases HE.out with h | ⟨rfl, h⟩
                all_goals
                  have hn1 := beq_eq_false_iff_ne.2 h
                  have hn2 := bne_iff_ne.2 h
                  clear HE
                  go_wp2_with fail
                  go_quiet (fail)
                  go_wp2_with fail
                  go_roundg (kx.length - (n + 1))
                  case rel => exact ⟨n + 1, by omega, by go_num, Nat.le_refl _, ⟨_, rfl⟩, HX2⟩
                  case measure => omega
            · obtain rfl : n = kx.length := by omega
              have hnotin : x ∉ kx := fun hm => by
                obtain ⟨i, hi, e⟩ := List.mem_iff_getElem.1 hm
                exact HJ.out i hi hi e
              have hadd : add kx x = kx ++ [x] := by unfold add; rw [if_neg hnotin]
              have hpos : ((((kx ++ [x]).idxOf x : Nat)) : Int) = (kx.length : Int) := by rw [List.idxOf_append, if_neg hnotin]; simp
              rw [hadd] at HRT HKT
              rw [hpos] at HRT
              clear hadd hpos hnotin HJ
              obtain ⟨x1, x2⟩ := x
              simp only at c1 c2
              have hlc : lineCells (kx ++ [(x1, x2)]) = lineCells kx ++ [.string ⟨x1.toArray⟩, .bool x2] := lineCells_snoc kx x1 x2
              obtain ⟨s, hs⟩ : ∃ s : ByteArray, s = ⟨x1.toArray⟩ := ⟨_, rfl⟩
              rw [← hs] at c1 hlc
              have HLC := Lib.hid hlc
              clear hs hlc
              have hsr := HRN.out.s
              have hsb := HRN.out.b.size
              go_wp2_with fail
              go_quiet (fail)
              go_wp2_with (first
               | (at_builtin; refine wpList_append_own _ rfl _ _ 23 rfl w.heap.size 59 l0 _ 2 24 Try.underlying23 hl0 ly0 ly1 ly2 rfl (by decide) _ kx.length (lineCells kx) rfl ((HRN.out.below (drawn_below wr _)).k.alloc _) ⟨_, 0, none⟩ 1 1 [.string s, .bool x2] rfl rfl (World.news_of_block (alloc_at _ (by first | rfl | simp))) (by intro u hu; simp at hu; rcases hu with rfl | rfl <;> rfl) (by simp only [maxLen]; omega) (by omega) (by first | omega | (simp; omega)) ?_; intro v' w4 hown4 hg4 _; have HR4 := Lib.hid (((HRN.out.below (drawn_below wr _)).below (alloc1 _ _)).addK (kx' := kx ++ [(x1, x2)]) hg4 (by rw [HLC.out]; simpa using hown4)); clear hown4 hg4; have hsr4 := HR4.out.s)
               | (at_builtin; refine wpList_append_own _ rfl _ _ 28 rfl r0 3 n0 _ 1 8 Try.underlying28 hn0 ny0 ny1 ny2 rfl (by decide) _ ys.length (numCells ys) rfl (HR4.out.r.alloc _) ⟨_, 0, none⟩ 1 1 [.int .i64 kx.length] rfl rfl (World.news_of_block (alloc_at _ (by first | rfl | simp))) (by intro u hu; simp at hu; rcases hu with rfl; rfl) (by simp only [maxLen]; omega) (by omega) (by first | omega | (simp; omega)) ?_; intro v5 w5 hown5 hg5 _))
              have hrn5 : Rn w r0 v' v5 u4 (kx ++ [(x1, x2)]) (ys ++ [(kx.length : Int)]) vs rs w5 := (HR4.out.below (alloc1 _ _)).addR hg5 (by rw [numCells_snoc]; simpa using hown5)
              clear hown5 hg5
              go_wp2_with fail
              go_roundg (l.length - (j + 1))
              case rel => exact ⟨j + 1, ys ++ [(kx.length : Int)], by omega, by go_num, Nat.le_refl _, by rw [HKT.out]; exact hrn5, by simp [HYL.out], Lib.hid (by rw [HRT.out])⟩
              case measure => omega
        · obtain rfl : j = l.length := by omega
          have hy := HY.out
          rw [List.take_length] at hy hrn
          rw [← hy] at HN
          obtain ⟨OA, ocap, rfl, -, -⟩ := own_form hrn.o
          have HRN := Lib.hid hrn
          have hsr := hrn.s
          clear hrn hy HY
          have hvk : vs.length ≤ 5 := by omega
          have HVL := Lib.hid hvl
          clear hvl
          go_wp2_with (at_builtin; refine wpList_append_own _ rfl _ _ 66 rfl w.heap.size 28 i0 _ 1 24 Try.underlying66 hi0 hz0 hz1 hz2 rfl (by decide) _ vs.length vs rfl (HRN.out.o.alloc _) ⟨_, 0, none⟩ 1 1 [.slice RA ys.length rcap] rfl rfl (World.news_of_block (alloc_at _ (by first | rfl | simp))) (by intro u hu; simp at hu; rcases hu with rfl; rfl) (by simp only [maxLen]; omega) (by omega) (by first | omega | (simp; omega)) ?_; intro v' w4 hown4 hg4 _)
          have h1 := HRN.out.below (alloc1 wr (.cells #[.slice RA ys.length rcap] 28))
          have hsn := h1.rw.snoc (own_more h1.r hbs)
          have hrw4 := hsn.kept hg4 (fun i a b => V.own_apart (by decide) (hsn.2 i a b) h1.o)
          have hk4 := h1.k.kept hg4 (V.own_apart (by decide) h1.k h1.o)
          have hb4 := h1.b.grown hg4 h1.b.size (own_base h1.o)
          clear hsn h1 hg4
          go_wp2_with fail
          go_roundg (ls.length - (k + 1))
          case rel => exact ⟨k + 1, vs ++ [.slice RA ys.length rcap], by omega, by go_num, Nat.le_refl _, by rw [HKA.out]; exact hk4, by simpa using hown4, by rw [HN.out]; exact hrw4, hb4, by simp [HVL.out]⟩
          case measure => omega
    · obtain rfl : k = ls.length := by omega
      rw [List.take_length] at hrw
      obtain ⟨RA, rcap, rfl, -, -⟩ := own_form hout
      go_wp2_with fail
      go_ret
      exact ⟨RA, rcap, vs, rfl, hout, hrw, hbr⟩
end Go.Proofs.Ytigghcmbdnidnaa.N
