/-
  The contracts of the reference's pick, Join and Meet for labels.
  The contracts of the reference's Join and Meet for labels.
  The law ViewMore, walked over what the code's functions come to.
  The law ViewBlind, walked over what the code's functions come to.
-/
import Derived.Test.YtllgeffjkjdadaaGvb
import Derived.Deep.RegionHeld3
import Derived.Deep.DeepCutAuto
import Derived.Test.YtllgeffjkjdadaaGvd
namespace Go.Proofs.Ytllgeffjkjdadaa.L
open Go.RowKit
open T

def pickOf (c d : Nat) (both : Bool) : Nat := if both then c &&& d else c ||| d
theorem pick_bit (c d p : Nat) (both : Bool) : (pickOf c d both).testBit p = ((c.testBit p && d.testBit p) || (!both && (c.testBit p || d.testBit p))) := by
  unfold pickOf
  cases both
  · rw [if_neg (by simp), Nat.testBit_or]; cases c.testBit p <;> cases d.testBit p <;> rfl
  · rw [if_pos rfl, Nat.testBit_and]; cases c.testBit p <;> cases d.testBit p <;> rfl
theorem pick_small {c d : Nat} (hc : c < 18446744073709551616) (hd : d < 18446744073709551616) (both : Bool) : pickOf c d both < 18446744073709551616 := by
  unfold pickOf
  cases both
  · exact or_small hc hd
  · exact Nat.lt_of_le_of_lt Nat.and_le_left hc
theorem half (x p : Nat) : x / 2 ^ p = 2 * (x / 2 ^ (p + 1)) + (if x.testBit p then 1 else 0) := by
  rw [Nat.testBit_eq_decide_div_mod_eq, Nat.pow_succ, ← Nat.div_div_eq_div_mul]
  generalize x / 2 ^ p = y
  by_cases h : y % 2 = 1
  · rw [decide_eq_true h]; simp; omega
  · rw [decide_eq_false h]; simp; omega
theorem above {x p : Nat} (hx : x < 18446744073709551616) (hp : p < 64) : x / 2 ^ (p + 1) ≤ 9223372036854775807 := by
  have h1 : 2 ^ 1 ≤ 2 ^ (p + 1) := Nat.pow_le_pow_right (by omega) (by omega)
  have h2 : x / 2 ^ (p + 1) ≤ x / 2 ^ 1 := Nat.div_le_div_left h1 (by omega)
  omega

def PickRel (w : World) (l : Int) (c : Nat) (m : Int) (d : Nat) (x : Nat) (n : Nat) (ov iv : Value) (wr : World) : Prop :=
  (∃ p o : Nat, p < 64 ∧ iv = .int .i64 p ∧ ov = .int .u64 (o : Int) ∧ o = x / 2 ^ (p + 1) ∧ p + 1 ≤ n ∧ Held2 w l c m d wr) ∨
  (iv = .int .i64 (-1) ∧ ov = .int .u64 (x : Int) ∧ Held2 w l c m d wr)
theorem rel_next {w wr : World} {l m : Int} {c d x p : Nat} {ov iv : Int} (o : Nat) (hi : iv = (p : Int) - 1) (hov : ov = (o : Int)) (ho : x / 2 ^ p = o) (hp : p < 64) (hH : Held2 w l c m d wr) : PickRel w l c m d x p (.int .u64 ov) (.int .i64 iv) wr := by
  subst hov
  cases p with
  | zero => exact .inr ⟨by rw [hi]; rfl, by rw [← ho]; simp, hH⟩
  | succ q => exact .inl ⟨q, o, by omega, by rw [hi]; congr 1; omega, rfl, ho.symm, Nat.le_refl _, hH⟩

set_option maxHeartbeats 1000000 in
set_option maxRecDepth 100000 in
theorem pick_any (l m : Int) (c d : Nat) (both : Bool) (w : World) (hc : c < 18446744073709551616) (hd : d < 18446744073709551616) :
    Calls Try.prog 18 #[lab l c, lab m d, .bool both] w fun e w' => e = .returned (.int .u64 (pickOf c d both : Nat)) ∧ Below w.heap.size w w' := by
  have hx := pick_small hc hd both
  have HB := Lib.hid (pick_bit c d · both)
  generalize pickOf c d both = x at *
  go_enter Try.func18, Try.ntmps18
  go_wp2_with fail
  go_loopg [7, 8] 64 (fun n ov iv wr => PickRel w l c m d x n ov iv wr)
  case atStart => exact .inl ⟨63, 0, by omega, rfl, rfl, (Nat.div_eq_of_lt (by omega)).symm, Nat.le_refl _, held2_start w l m c d⟩
  case round =>
    rcases hrel with ⟨p, o, hp, rfl, rfl, ho, hn, hH⟩ | ⟨rfl, rfl, hH⟩
    · have hob : o ≤ 9223372036854775807 := by rw [ho]; exact above hx hp
      have HP := Lib.hid (half x p)
      rw [← ho] at HP
      have hbit := HB.out p
      clear ho
      cases hcb : c.testBit p <;> cases hdb : d.testBit p <;> cases both
      all_goals
        rw [hcb, hdb] at hbit
        simp only [Bool.and_self, Bool.and_true, Bool.and_false, Bool.or_self, Bool.or_true, Bool.or_false, Bool.not_true, Bool.not_false] at hbit
        rw [hbit] at HP
        have HC := Lib.hid (hs_is (l := l) hp hcb)
        have HD := Lib.hid (hs_is (l := m) hp hdb)
        clear hcb hdb hbit
        go_wp2_with (first
          | (go_at_call 32; with_reducible refine (HC.out.call _).mono ?_; rintro r w1 ⟨rfl, hb1⟩; replace hH := held2_below hH hb1; clear hb1)
          | (go_at_call 32; with_reducible refine (HD.out.call _).mono ?_; rintro r w1 ⟨rfl, hb1⟩; replace hH := held2_below hH hb1; clear hb1))
      all_goals
        go_roundg p
        case measure => omega
        case rel =>
          first
            | exact rel_next (2 * o) rfl (by omega) (by rw [HP.out]; simp) hp hH
            | exact rel_next (2 * o + 1) rfl (by omega) (by rw [HP.out]; simp) hp hH
    · go_wp2_with fail
      go_ret
      exact ⟨rfl, held2_end hH⟩

end Go.Proofs.Ytllgeffjkjdadaa.L

namespace Go.Proofs.Ytllgeffjkjdadaa.L
open Go.RowKit
open T

/-- Two labels in boxes, and a result's own block behind them. -/
abbrev HeldR (w : World) (l : Int) (c : Nat) (m : Int) (d : Nat) (w' : World) : Prop :=
  w'.cell? ⟨w.heap.size, 0, none⟩ = some (.int .i64 l) ∧ w'.cell? ⟨w.heap.size, 1, none⟩ = some (.int .u64 (c : Int)) ∧ w'.cell? ⟨w.heap.size + 1, 0, none⟩ = some (.int .i64 m) ∧ w'.cell? ⟨w.heap.size + 1, 1, none⟩ = some (.int .u64 (d : Int)) ∧ w.heap.size + 3 ≤ w'.heap.size ∧ Hid (w'.heap[w.heap.size + 1 + 1]? = some (.cells #[.int .i64 0, .int .u64 0] 25 (0, 0))) ∧ Below w.heap.size w w'
section
variable {w W W' : World} {l m : Int} {c d : Nat}
theorem heldR_below (h : HeldR w l c m d W) (hb : Below W.heap.size W W') : HeldR w l c m d W' := by
  obtain ⟨h1, h2, h3, h4, h5, h6, h7⟩ := h
  have hs := hb.size
  exact ⟨(bcell hb _ _ (by omega)).trans h1, (bcell hb _ _ (by omega)).trans h2, (bcell hb _ _ (by omega)).trans h3, (bcell hb _ _ (by omega)).trans h4, by omega, Lib.hid ((hb.block _ (by omega)).trans h6.out), h7.trans (hb.mono h7.size)⟩
theorem heldR_alloc (h : HeldR w l c m d W) (o : Obj) : HeldR w l c m d (W.alloc o) := heldR_below h ((Below.refl _ _).alloc (Nat.le_refl _) o)
theorem heldR_set (h : HeldR w l c m d W) {g i : Nat} (hg : w.heap.size + 3 ≤ g) (u : Value) : HeldR w l c m d (W.setCell ⟨g, i, none⟩ u) := by
  obtain ⟨h1, h2, h3, h4, h5, h6, h7⟩ := h
  have hf := fun (b o : Nat) (hb : b < w.heap.size + 3) => World.cell?_setCell_other W ⟨g, i, none⟩ ⟨b, o, none⟩ u (fun e => by injection e with e1; omega)
  exact ⟨(hf _ _ (by omega)).trans h1, (hf _ _ (by omega)).trans h2, (hf _ _ (by omega)).trans h3, (hf _ _ (by omega)).trans h4, by simpa [World.setCell] using h5, Lib.hid ((blk_far (by omega) u).trans h6.out), h7.setCell (p := ⟨g, i, none⟩) (by show w.heap.size ≤ g; omega) u⟩
end
theorem heldR_re {w W : World} {l m : Int} {c d : Nat} {o1 : Obj} (h : HeldR w l c m d (W.alloc o1)) (hs : w.heap.size + 3 ≤ W.heap.size) (o2 : Obj) : HeldR w l c m d (W.alloc o2) := by
  obtain ⟨h1, h2, h3, h4, h5, h6, h7⟩ := h
  have hf : ∀ (o : Obj) (b i : Nat), b < w.heap.size + 3 → (W.alloc o).cell? ⟨b, i, none⟩ = W.cell? ⟨b, i, none⟩ := fun o b i hb => World.cell?_alloc_lt W o ⟨b, i, none⟩ (by show b < W.heap.size; omega)
  refine ⟨?_, ?_, ?_, ?_, by simp; omega, Lib.hid ?_, ⟨h7.os, h7.tape, h7.output, by have := h7.size; simp at this ⊢; omega, fun k hk => ?_⟩⟩
  · rw [hf _ _ _ (by omega)] at h1 ⊢; exact h1
  · rw [hf _ _ _ (by omega)] at h2 ⊢; exact h2
  · rw [hf _ _ _ (by omega)] at h3 ⊢; exact h3
  · rw [hf _ _ _ (by omega)] at h4 ⊢; exact h4
  · rw [Below.heap_alloc _ _ _ (by omega)] at h6 ⊢; exact h6.out
  · have := h7.block k hk
    rw [Below.heap_alloc _ _ _ (by omega)] at this ⊢; exact this
theorem heldR_size (w : World) (l m : Int) (c d : Nat) (W : World) (h : HeldR w l c m d W) : w.heap.size + 3 ≤ W.heap.size := h.2.2.2.2.1
theorem heldR_start (w : World) (l m : Int) (c d : Nat) : HeldR w l c m d ((((w.alloc (.cells #[.int .i64 l, .int .u64 (c : Int)] 25)).alloc (.cells #[.int .i64 m, .int .u64 (d : Int)] 25)).alloc (.cells #[.int .i64 0, .int .u64 0] 25)).drew) := by
  obtain ⟨b0, b1⟩ := two_blocks w (.cells #[.int .i64 l, .int .u64 (c : Int)] 25) (.cells #[.int .i64 m, .int .u64 (d : Int)] 25)
  have b2 := heap_alloc_new ((w.alloc (.cells #[.int .i64 l, .int .u64 (c : Int)] 25)).alloc (.cells #[.int .i64 m, .int .u64 (d : Int)] 25)) (.cells #[.int .i64 0, .int .u64 0] 25)
  rw [World.size_alloc, World.size_alloc] at b2
  have b0' := (Below.heap_alloc ((w.alloc (.cells #[.int .i64 l, .int .u64 (c : Int)] 25)).alloc (.cells #[.int .i64 m, .int .u64 (d : Int)] 25)) (.cells #[.int .i64 0, .int .u64 0] 25) _ (blk_lt b0)).trans b0
  have b1' := (Below.heap_alloc ((w.alloc (.cells #[.int .i64 l, .int .u64 (c : Int)] 25)).alloc (.cells #[.int .i64 m, .int .u64 (d : Int)] 25)) (.cells #[.int .i64 0, .int .u64 0] 25) _ (blk_lt b1)).trans b1
  have hs : w.heap.size + 3 ≤ (((w.alloc (.cells #[.int .i64 l, .int .u64 (c : Int)] 25)).alloc (.cells #[.int .i64 m, .int .u64 (d : Int)] 25)).alloc (.cells #[.int .i64 0, .int .u64 0] 25)).heap.size := by
    rw [World.size_alloc, World.size_alloc, World.size_alloc]; omega
  exact ⟨blk_cell b0' 0, blk_cell b0' 1, blk_cell b1' 0, blk_cell b1' 1, hs, Lib.hid b2, (three w _ _ _).drew⟩
theorem heldR_drew {w W : World} {l m : Int} {c d : Nat} (h : HeldR w l c m d W) : HeldR w l c m d W.drew := ⟨h.1, h.2.1, h.2.2.1, h.2.2.2.1, h.2.2.2.2.1, h.2.2.2.2.2.1, h.2.2.2.2.2.2.drew⟩
theorem heldR_undrew {w W : World} {l m : Int} {c d : Nat} (h : HeldR w l c m d W.drew) : HeldR w l c m d W :=
  ⟨h.1, h.2.1, h.2.2.1, h.2.2.2.1, h.2.2.2.2.1, h.2.2.2.2.2.1, ⟨h.2.2.2.2.2.2.os, h.2.2.2.2.2.2.tape, h.2.2.2.2.2.2.output, h.2.2.2.2.2.2.size, h.2.2.2.2.2.2.block⟩⟩
theorem heldR_ad {w W : World} {l m : Int} {c d : Nat} (h : HeldR w l c m d W.drew) (o : Obj) : HeldR w l c m d (W.alloc o).drew := heldR_drew (heldR_alloc (heldR_undrew h) o)
theorem four_new (w : World) (a b c o : Obj) : ((((w.alloc a).alloc b).alloc c).alloc o).drew.heap[w.heap.size + 1 + 1 + 1]? = some o := by
  have h := heap_alloc_new (((w.alloc a).alloc b).alloc c) o
  rw [World.size_alloc, World.size_alloc, World.size_alloc] at h
  exact h
theorem bfro {W w1 : World} (hb : Below W.heap.size W w1) (b o : Nat) (h : b < W.heap.size) : w1.frozen? ⟨b, o, none⟩ = W.frozen? ⟨b, o, none⟩ := hb.frozen (p := ⟨b, o, none⟩) h

set_option maxHeartbeats 8000000 in
set_option maxRecDepth 100000 in
theorem refJoin_walk (l m k : Int) (c d x : Nat) (w : World) (hk : k = max l m)
    (HP : Hid (∀ w : World, Calls Try.prog 18 #[lab l c, lab m d, .bool false] w fun e w' => e = .returned (.int .u64 (x : Int)) ∧ Below w.heap.size w w')) :
    Calls Try.prog 8 #[lab l c, lab m d] w fun e w' => e = .returned (lab k x) ∧ Below w.heap.size w w' := by
  go_enter Try.func8, Try.ntmps8
  go_upto_region 1 with fail
  go_cut [5] (fun s wx => ∃ g : Nat, s = .pointer (some ⟨g, 0, none⟩) ∧ w.heap.size + 3 ≤ g ∧ Hid (wx.heap[g]? = some (.cells #[.int .i64 l, .int .u64 (x : Int)] 25 (0, 0))) ∧ HeldR w l c m d wx)
  case first =>
    go_region_held3 (fun w' => w'.cell? ⟨w.heap.size, 0, none⟩ = some (.int .i64 l) ∧ w'.cell? ⟨w.heap.size, 1, none⟩ = some (.int .u64 (c : Int)) ∧ w'.cell? ⟨w.heap.size + 1, 0, none⟩ = some (.int .i64 m) ∧ w'.cell? ⟨w.heap.size + 1, 1, none⟩ = some (.int .u64 (d : Int)) ∧ w.heap.size + 3 ≤ w'.heap.size ∧ Hid (w'.heap[w.heap.size + 1 + 1]? = some (.cells #[.int .i64 0, .int .u64 0] 25 (0, 0))) ∧ Below w.heap.size w w')
      (first | with_reducible exact heldR_start w l m c d | with_reducible exact heldR_ad (by assumption) _ | with_reducible exact heldR_alloc (by assumption) _ | with_reducible exact heldR_below (by assumption) hbq | with_reducible exact heldR_re (by assumption) hzq _ | with_reducible exact heldR_set (heldR_set (by assumption) (Nat.le_refl _) _) (Nat.le_refl _) _)
      (first
        | (go_at_call 18; with_reducible refine (HP.out _).mono ?_; rintro r wq ⟨rfl, hbq⟩; have hzq := Nat.le_trans (heldR_size w l m c d _ (by assumption)) hbq.size; have hbc := bcell hbq; have hbf := bfro hbq; have hbz := hbq.size))
    · go_wp2_with fail
      go_meet
      exact ⟨wq.heap.size, rfl, hzq, Lib.hid (heap_alloc_new wq _), by assumption⟩
    · go_wp2_with fail
      go_meet
      exact ⟨w.heap.size + 1 + 1 + 1, rfl, Nat.le_refl _, Lib.hid (blk_set (blk_set ((hbq.block (w.heap.size + 1 + 1 + 1) (by simp)).trans (four_new w _ _ _ _)) 0 _) 1 _), by assumption⟩
  case rest =>
    obtain ⟨g, rfl, hg, HG, hH⟩ := hcut
    obtain ⟨h1, h2, h3, h4, hsz, HK, hbel⟩ := hH
    have g0 := (res_cells HG.out).1
    have g1 := (res_cells HG.out).2
    have f0 := blk_free HG.out 0
    have d0 := (res_cells HK.out).1
    have d1 := (res_cells HK.out).2
    have e0 := blk_free HK.out 0
    have e1 := blk_free HK.out 1
    by_cases hlm : m ≤ l
    · obtain rfl : k = l := by omega
      clear hk
      go_wp2_with fail
      have hfin := blk_set (blk_set HK.out 0 (.int .i64 k)) 1 (.int .u64 (x : Int))
      have hbf := (hbel.setCell (p := ⟨w.heap.size + 1 + 1, 0, none⟩) (by show w.heap.size ≤ w.heap.size + 1 + 1; omega) (.int .i64 k)).setCell (p := ⟨w.heap.size + 1 + 1, 1, none⟩) (by show w.heap.size ≤ w.heap.size + 1 + 1; omega) (.int .u64 (x : Int))
      clear d0 d1 e0 e1 g0 g1 f0 h1 h2 h3 h4 
      generalize (wc.setCell ⟨w.heap.size + 1 + 1, 0, none⟩ (.int .i64 k)).setCell ⟨w.heap.size + 1 + 1, 1, none⟩ (.int .u64 (x : Int)) = wf at *
      have z0 : wf.cell? ⟨w.heap.size + 1 + 1, 0, none⟩ = some (.int .i64 k) := blk_cell hfin 0
      have z1 : wf.cell? ⟨w.heap.size + 1 + 1, 1, none⟩ = some (.int .u64 (x : Int)) := blk_cell hfin 1
      exact bodyPost_ret (v := lab k x) (by simp [results, Try.results8, go_sem, z0, z1]) rfl ⟨rfl, hbf⟩
    · obtain rfl : k = m := by omega
      clear hk
      have hgn : g ≠ w.heap.size + 1 + 1 := by omega
      have HKg := Lib.hid ((blk_far (w := wc) (i := 0) (fun e => hgn e.symm) (.int .i64 k)).trans HK.out)
      have p0 : (wc.setCell ⟨g, 0, none⟩ (.int .i64 k)).cell? ⟨w.heap.size + 1 + 1, 0, none⟩ = some (.int .i64 0) := (res_cells ((blk_far (fun e => hgn e.symm) _).trans HK.out)).1
      have p1 : (wc.setCell ⟨g, 0, none⟩ (.int .i64 k)).cell? ⟨w.heap.size + 1 + 1, 1, none⟩ = some (.int .u64 0) := (res_cells ((blk_far (fun e => hgn e.symm) _).trans HK.out)).2
      have r0 : (wc.setCell ⟨g, 0, none⟩ (.int .i64 k)).cell? ⟨g, 0, none⟩ = some (.int .i64 k) := blk_cell (blk_set HG.out 0 _) 0
      have r1 : (wc.setCell ⟨g, 0, none⟩ (.int .i64 k)).cell? ⟨g, 1, none⟩ = some (.int .u64 (x : Int)) := blk_cell (blk_set HG.out 0 _) 1
      have q2 : (wc.setCell ⟨g, 0, none⟩ (.int .i64 k)).frozen? ⟨w.heap.size + 1 + 1, 0, none⟩ = false := blk_free ((blk_far (fun e => hgn e.symm) _).trans HK.out) 0
      have q3 : (wc.setCell ⟨g, 0, none⟩ (.int .i64 k)).frozen? ⟨w.heap.size + 1 + 1, 1, none⟩ = false := blk_free ((blk_far (fun e => hgn e.symm) _).trans HK.out) 1
      go_wp2_with fail
      have hfin := blk_set (blk_set HKg.out 0 (.int .i64 k)) 1 (.int .u64 (x : Int))
      have hbf := ((hbel.setCell (p := ⟨g, 0, none⟩) (by show w.heap.size ≤ g; omega) (.int .i64 k)).setCell (p := ⟨w.heap.size + 1 + 1, 0, none⟩) (by show w.heap.size ≤ w.heap.size + 1 + 1; omega) (.int .i64 k)).setCell (p := ⟨w.heap.size + 1 + 1, 1, none⟩) (by show w.heap.size ≤ w.heap.size + 1 + 1; omega) (.int .u64 (x : Int))
      clear d0 d1 e0 e1 g0 g1 f0 h1 h2 h3 h4 p0 p1 r0 r1 q2 q3
      generalize ((wc.setCell ⟨g, 0, none⟩ (.int .i64 k)).setCell ⟨w.heap.size + 1 + 1, 0, none⟩ (.int .i64 k)).setCell ⟨w.heap.size + 1 + 1, 1, none⟩ (.int .u64 (x : Int)) = wf at *
      have z0 : wf.cell? ⟨w.heap.size + 1 + 1, 0, none⟩ = some (.int .i64 k) := blk_cell hfin 0
      have z1 : wf.cell? ⟨w.heap.size + 1 + 1, 1, none⟩ = some (.int .u64 (x : Int)) := blk_cell hfin 1
      exact bodyPost_ret (v := lab k x) (by simp [results, Try.results8, go_sem, z0, z1]) rfl ⟨rfl, hbf⟩

theorem refJoin_any (l m : Int) (c d : Nat) (w : World) (hc : c < 18446744073709551616) (hd : d < 18446744073709551616) :
    Calls Try.prog 8 #[lab l c, lab m d] w fun e w' => e = .returned (lab (max l m) (c ||| d)) ∧ Below w.heap.size w w' :=
  refJoin_walk l m _ c d _ w rfl (Lib.hid fun w => pick_any l m c d false w hc hd)
end Go.Proofs.Ytllgeffjkjdadaa.L

namespace Go.Proofs.Ytllgeffjkjdadaa.V
set_option linter.unusedVariables false
set_option linter.unusedSimpArgs false
open Go.RowKit
open T
open I (It Lb ItemsIn ItemsAt ItemsOk itCells itCells_snoc itCells_at items_cells items_own own_at own_below infoItem alloc1)

/-- The one view's lines are found among the other's, in order. -/
structure Found (ts us : List Int) (ls ms : List (List UInt8 × Bool)) (pos : Nat → Nat) : Prop where
  lt : ∀ i, i < ts.length → pos i < us.length
  is : ∀ i (hi : i < ts.length) (hp : pos i < us.length), us[pos i] = ts[i]
  no : ∀ i (hi : i < ts.length) q (hq : q < us.length), q < pos i → ¬ us[q] = ts[i]
  up : ∀ i, i + 1 < ts.length → pos i ≤ pos (i + 1)
  tx : ∀ i (h1 : i < ls.length) (h2 : pos i < ms.length), ms[pos i].1 = ls[i].1
  l1 : ls.length = ts.length
  l2 : ms.length = us.length
def RjC (f0 g0 j0 : Int) (f1 g1 j1 : Nat) : Prop := ∀ W : World, Calls Try.prog 8 #[.agg #[.int .i64 f0, .int .u64 (f1 : Int)], .agg #[.int .i64 g0, .int .u64 (g1 : Int)]] W fun e w' => e = .returned (.agg #[.int .i64 j0, .int .u64 (j1 : Int)]) ∧ Below W.heap.size W w'
theorem RjC.at {f0 g0 j0 : Int} {f1 g1 j1 : Nat} (h : RjC f0 g0 j0 f1 g1 j1) (W : World) : Calls Try.prog 8 #[.agg #[.int .i64 f0, .int .u64 (f1 : Int)], .agg #[.int .i64 g0, .int .u64 (g1 : Int)]] W fun e w' => e = .returned (.agg #[.int .i64 j0, .int .u64 (j1 : Int)]) ∧ Below W.heap.size W w' := h W

end Go.Proofs.Ytllgeffjkjdadaa.V

namespace Go.Proofs.Ytllgeffjkjdadaa.V
set_option linter.unusedVariables false
set_option linter.unusedSimpArgs false
open Go.RowKit
open T
open I (It Lb ItemsIn ItemsAt ItemsOk itCells itCells_snoc itCells_at items_cells items_own own_at own_below infoItem alloc1)

end Go.Proofs.Ytllgeffjkjdadaa.V
