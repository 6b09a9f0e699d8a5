/-
  The law RemapAdds.
-/
import Derived.Test.YtlkfmaeillnhhaaGid
import Derived.BigQuiet
import Derived.Deep.RegionHeld3
import Derived.Deep.AppendLies
import Derived.Test.YtlkfmaeillnhhaaGib
namespace Go.Proofs.Ytlkfmaeillnhhaa.Rm
set_option linter.unusedVariables false
set_option linter.unusedSimpArgs false
open Go.RowKit
open T
open I (Lb alloc1 own_at own_below)
open V (grown_of drawn_below IntsIn numCells numCells_snoc ints_own BlC RbC)

theorem lbCells_one (l : List Lb) : ∀ u ∈ lbCells l, u.oneCell' = true := fun u hu => by
  simp only [lbCells, List.mem_flatMap, List.mem_cons, List.not_mem_nil, or_false] at hu
  obtain ⟨a, -, rfl | rfl⟩ := hu <;> rfl
theorem labs_news {w : World} {bk off : Nat} {l : List Lb} (h : LabsAt w bk off l) : ∀ (j : Nat) (u : Value), (lbCells l)[j]? = some u → w.cell? ((⟨bk, off, none⟩ : Addr).add j) = some u := fun j u hu => by
  have hj : j < l.length * 2 := by rw [← lbCells_len]; exact (List.getElem?_eq_some_iff.1 hu).1
  have hk : j / 2 < l.length := by omega
  obtain ⟨c0, c1⟩ := h (j / 2) hk
  obtain ⟨d0, d1⟩ := lbCells_at l (j / 2) hk
  have ea : (⟨bk, off, none⟩ : Addr).add j = ⟨bk, off + j, none⟩ := by
    unfold Addr.add
    split
    · rename_i h0; simp only [h0, Nat.add_zero]
    · rfl
  rw [ea]
  rcases Nat.mod_two_eq_zero_or_one j with h2 | h2
  · rw [show j / 2 * 2 = j by omega] at c0 d0
    rw [d0] at hu
    rw [← hu]; exact c0
  · rw [show off + j / 2 * 2 + 1 = off + j by omega] at c1
    rw [show j / 2 * 2 + 1 = j by omega] at d1
    rw [d1] at hu
    rw [← hu]; exact c1
theorem ints_take {w : World} {A : Option Addr} {t : List Int} (n : Nat) (h : IntsIn w A t) : IntsIn w A (t.take n) := fun hp => by
  have hl := List.length_take (i := n) (l := t)
  obtain ⟨bk, off, e, hlt, hc⟩ := h (by omega)
  exact ⟨bk, off, e, hlt, fun j hj => by rw [hc j (by omega), List.getElem_take]⟩
theorem adds_fin {w0 W : World} {l : List Lb} {m : Lb} {g cap : Nat} (h : W.ownsRow w0.heap.size 25 2 (.slice (some ⟨g, 0, none⟩) (l.length + 1) cap) (l.length + 1) (lbCells l ++ [.int .i64 m.1, .int .u64 (m.2 : Int)])) (hb : Keeps w0 W) : LabsIn W (some ⟨g, 0, none⟩) (l ++ [m]) ∧ Keeps w0 W := by
  rw [← lbCells_snoc] at h
  have e : (l ++ [m]).length = l.length + 1 := by simp
  rw [← e] at h
  exact ⟨labs_own h, hb⟩
structure Ax (w : World) (f0 g0 : Int) (f1 g1 : Nat) (A : Option Addr) (l : List Lb) (B : Option Addr) (W : World) : Prop where
  be : Below w.heap.size w W
  lx : Lx W w.heap.size f0 f1
  mx : Lx W (w.heap.size + 1) g0 g1
  la : LabsIn W A l
  lb : LabsIn W B (l ++ [(g0, g1)])
section
variable {w : World} {f0 g0 : Int} {f1 g1 : Nat} {A B : Option Addr} {l : List Lb} {W W' : World}
theorem Ax.below (h : Ax w f0 g0 f1 g1 A l B W) (hb : Below W.heap.size W W') : Ax w f0 g0 f1 g1 A l B W' := ⟨h.be.trans (hb.mono h.be.size), h.lx.below hb, h.mx.below hb, h.la.below hb, h.lb.below hb⟩
abbrev AxS (w : World) (f0 g0 : Int) (f1 g1 : Nat) (A : Option Addr) (l : List Lb) (B : Option Addr) (W : World) : Prop := W.cell? ⟨w.heap.size, 0, none⟩ = some (.int .i64 f0) ∧ W.cell? ⟨w.heap.size, 1, none⟩ = some (.int .u64 (f1 : Int)) ∧ Ax w f0 g0 f1 g1 A l B W
theorem ax_of (h : Ax w f0 g0 f1 g1 A l B W) : AxS w f0 g0 f1 g1 A l B W := ⟨h.lx.cells.1, h.lx.cells.2, h⟩
theorem ax_start (h : Ax w f0 g0 f1 g1 A l B W) : AxS w f0 g0 f1 g1 A l B W.drew := ax_of (h.below (drawn_below W 1))
theorem ax_below (h : AxS w f0 g0 f1 g1 A l B W) (hb : Below W.heap.size W W') : AxS w f0 g0 f1 g1 A l B W' := ax_of (h.2.2.below hb)
theorem ax_la (h : AxS w f0 g0 f1 g1 A l B W) : LabsIn W A l := h.2.2.la
theorem ax_lb (h : AxS w f0 g0 f1 g1 A l B W) : LabsIn W B (l ++ [(g0, g1)]) := h.2.2.lb
theorem ax_ax (h : AxS w f0 g0 f1 g1 A l B W) : Ax w f0 g0 f1 g1 A l B W := h.2.2
end
set_option maxRecDepth 100000 in
set_option maxHeartbeats 4000000 in
theorem radds_walk {A : Option Addr} {cap : Nat} {l : List Lb} {f0 g0 : Int} {f1 g1 : Nat} (w : World) (hA : LabsIn w A l) (hn16 : l.length * 16 ≤ 140737488351232) {s t : List Int} {b b5 : Bool} {k : Int} (H1 : Hid (SnC 15 l f0 f1 s)) (H2 : Hid (∀ (W : World) (A : Option Addr) (cap : Nat), LabsIn W A (l ++ [(g0, g1)]) → Calls Try.prog 15 #[.slice A (l.length + 1) cap, .agg #[.int .i64 f0, .int .u64 (f1 : Int)]] W fun e w' => ∃ A' c', e = .returned (.slice A' t.length c') ∧ IntsIn w' A' t ∧ t.length ≤ c' ∧ Below W.heap.size W w')) (HR : Hid (RbC g0 f0 g1 f1 b)) (H3 : Hid (∀ (W : World) (A : Option Addr) (cap : Nat), LabsIn W A (l ++ [(g0, g1)]) → Calls Try.prog 10 #[.slice A (l.length + 1) cap, .agg #[.int .i64 f0, .int .u64 (f1 : Int)], .int .i64 (l.length : Int)] W fun e w' => e = .returned (.tuple #[.int .i64 k, .bool b5]) ∧ Below W.heap.size W w')) (HT : Hid (b = false ∧ s = t ∨ b = true ∧ b5 = true ∧ k = (s.length : Int) ∧ t.length = s.length + 1 ∧ t.take s.length = s)) (HS : Hid (s.length ≤ l.length)) (HI : Hid (NtC 14 s s true)) (HV : Hid (LvC 13)) :
    Calls Try.prog 6 #[.slice A l.length cap, .agg #[.int .i64 f0, .int .u64 (f1 : Int)], .agg #[.int .i64 g0, .int .u64 (g1 : Int)]] w fun e w' => e = .returned (.bool true) ∧ Below w.heap.size w w' := by
  obtain ⟨i0, hi0, hz0, hz1, hz2⟩ := info_parts infoLab
  obtain ⟨w0, hw0⟩ : ∃ W : World, W = (w.alloc (.cells #[.int .i64 f0, .int .u64 (f1 : Int)] 25)).alloc (.cells #[.int .i64 g0, .int .u64 (g1 : Int)] 25) := ⟨_, rfl⟩
  have HB0 := Lib.hid (show Below w.heap.size w w0 by rw [hw0]; exact (alloc1 _ _).alloc (by simp) _)
  have HO := Lib.hid (show Lx w0 w.heap.size f0 f1 by rw [hw0]; exact V.alloc_old _ (V.alloc_at _ rfl))
  have HM := Lib.hid (show Lx w0 (w.heap.size + 1) g0 g1 by rw [hw0]; exact V.alloc_at _ (by simp))
  have HA := Lib.hid (hA.below HB0.out)
  clear hA
  go_enter Try.func6, Try.ntmps6
  go_wp2_with fail
  rw [← hw0]
  clear hw0
  go_upto_region 1 with fail
  go_cut [7] (fun v wx => ∃ g c7, v = .slice (some ⟨g, 0, none⟩) (l.length + 1) c7 ∧ Hid (LabsIn wx (some ⟨g, 0, none⟩) (l ++ [(g0, g1)]) ∧ Keeps w0 wx))
  case first =>
    by_cases hpos : 0 < l.length
    · obtain ⟨bk, off, rfl, hbk, hI⟩ := HA.out hpos
      refine wp_region_held_drew (S := (Keeps w0)) (by kernel_rfl) (keeps_drew _) (fun hK0 => ?_)
      refine wpAnyH_take (i := 1) (oi := { dst := some 13, op := Go.Op.move (Go.Operand.tmp 0), type := 22, pos := "law.go:60", after := #[], guard := none }) (v := ?_) rfl (by kernel_rfl) (by kernel_rfl) (by kernel_rfl) (fun _ _ _ h => h) (Or.inl ⟨by rfl, ?_⟩) hK0 ?_
      rotate_left
      · (intro wz hSz; (try dsimp only at hSz); go_simp; try with_reducible rfl)
      simp only [Act.put, List.setIfInBounds_toArray, List.set_cons_zero, List.set_cons_succ]
      refine wpAnyH_take (i := 3) (oi := { dst := some 15, op := Go.Op.load 25 (Go.Operand.tmp 5), type := 25, pos := "law.go:60", after := #[], guard := none }) (v := ?_) rfl (by kernel_rfl) (by kernel_rfl) (by kernel_rfl) (fun _ _ _ h => h) (Or.inl ⟨by rfl, ?_⟩) hK0 ?_
      rotate_left
      · (intro wz hSz; obtain ⟨xm0, xm1⟩ := (HM.out.below hSz).cells; go_simp; try with_reducible rfl)
      simp only [Act.put, List.setIfInBounds_toArray, List.set_cons_zero, List.set_cons_succ]
      refine wpAnyH_ready (rs := [0, 4]) (by kernel_rfl) (by simp) ?_
      refine AllReadyH.cons (o := { dst := some 12, op := Go.Op.buildSlice 22 0 #[], type := 22, pos := "law.go:60", after := #[], guard := none }) rfl (fun K hK => ?_) (AllReadyH.cons (o := { dst := some 16, op := Go.Op.buildSlice 22 1 #[(0, Go.Operand.tmp 15)], type := 22, pos := "law.go:60", after := #[{ on := 3, ground := Go.Ground.data }], guard := none }) rfl (fun K hK => ?_) AllReadyH.nil)
      · skip
        go_simp
        obtain ⟨wq1, hwq⟩ : ∃ W : World, W = (w0.alloc (.cells #[] 25)).drew := ⟨_, rfl⟩
        rw [← hwq]
        have hbq : Below w0.heap.size w0 wq1 := by rw [hwq]; exact (alloc1 _ _).drew
        have hS : Keeps w0 wq1 := hbq
        have hz : wq1.heap.size = w0.heap.size + 1 := by rw [hwq]; simp
        obtain ⟨ga, hgn⟩ : ∃ g, g = w0.heap.size := ⟨_, rfl⟩
        have hg : wq1.ownsRow w0.heap.size 25 2 (.slice (some ⟨ga, 0, none⟩) 0 0) 0 [] := by rw [hwq, hgn]; exact (World.ownsRow_made w0 #[] 0 (Nat.le_refl _) (Nat.zero_le _) rfl).drew
        have hlo : w0.heap.size ≤ w0.heap.size := Nat.le_refl _
        rw [← hgn]
        have HLTA : Hid (ga < wq1.heap.size) := Lib.hid (by omega)
        have HOWN := Lib.hid hg
        clear hbq hg hgn hwq hz hlo
        refine hK.out _ _ hS (fun hK1 => ?_)
        clear hK K hS hK0
        try simp only [Act.put, List.setIfInBounds_toArray, List.set_cons_zero, List.set_cons_succ]
        refine wpAnyH_ready (rs := [2, 4]) (by kernel_rfl) (by simp) ?_
        refine AllReadyH.cons (o := { dst := some 14, op := Go.Op.call { callee := Go.Callee.builtin Go.Builtin.append, args := #[Go.Operand.tmp 12, Go.Operand.tmp 13], argTypes := #[22, 22] }, type := 22, pos := "law.go:60", after := #[{ on := 0, ground := Go.Ground.data }, { on := 1, ground := Go.Ground.data }], guard := none }) rfl (fun K hK => ?_) (AllReadyH.cons (o := { dst := some 16, op := Go.Op.buildSlice 22 1 #[(0, Go.Operand.tmp 15)], type := 22, pos := "law.go:60", after := #[{ on := 3, ground := Go.Ground.data }], guard := none }) rfl (fun K hK => ?_) AllReadyH.nil)
        · skip
          have HNW := Lib.hid (labs_news (hI.below hK1 hbk))
          have hsz : w0.heap.size ≤ wq1.heap.size := Below.size hK1
          refine step_append_lies _ (by rfl) (.tmp 12) (.tmp 13) 22 (by rfl) w0.heap.size 25 i0 _ 2 16 Try.underlying22 hi0 hz0 hz1 hz2 rfl (by decide) (.slice (some ⟨ga, 0, none⟩) 0 0) 0 [] (by rfl) HOWN.out ⟨bk, off, none⟩ l.length cap (lbCells l) (by rfl) (lbCells_len l) HNW.out (lbCells_one l) hpos (by unfold maxLen; omega) (by omega) hsz _ rfl ?_
          intro gb cap2 wq2 hown2 hg2 hat2 hlt2
          have hbq : Below w0.heap.size wq1 wq2 := (Below.refl _ _).grown hg2 hsz (own_base HOWN.out)
          have hS : Keeps w0 wq2 := Below.trans hK1 hbq
          rw [Nat.zero_add, List.nil_append] at hown2
          replace HOWN := Lib.hid hown2
          clear hbq hown2 hg2 hat2 HNW hsz
          refine hK.out _ _ hS (fun hK2 => ?_)
          clear hK K hS hK1
          try simp only [Act.put, List.setIfInBounds_toArray, List.set_cons_zero, List.set_cons_succ]
          refine wpAnyH_ready (rs := [4]) (by kernel_rfl) (by simp) ?_
          refine AllReadyH.cons (o := { dst := some 16, op := Go.Op.buildSlice 22 1 #[(0, Go.Operand.tmp 15)], type := 22, pos := "law.go:60", after := #[{ on := 3, ground := Go.Ground.data }], guard := none }) rfl (fun K hK => ?_) AllReadyH.nil
          go_simp
          obtain ⟨wq3, hwq⟩ : ∃ W : World, W = (wq2.alloc (.cells #[.int .i64 g0, .int .u64 (g1 : Int)] 25)) := ⟨_, rfl⟩
          rw [← hwq]
          have hbq : Below wq2.heap.size wq2 wq3 := by rw [hwq]; exact (alloc1 _ _)
          have hS : Keeps w0 wq3 := Keeps.trans hK2 hbq
          have hz : wq3.heap.size = wq2.heap.size + 1 := by rw [hwq]; simp
          obtain ⟨gc, hgn⟩ : ∃ g, g = wq2.heap.size := ⟨_, rfl⟩
          have hg : wq3.heap[gc]? = some (.cells #[.int .i64 g0, .int .u64 (g1 : Int)] 25 (0, 0)) := by rw [hwq, hgn]; exact heap_alloc_new wq2 _
          have hlo : w0.heap.size ≤ wq2.heap.size := Below.size hK2
          rw [← hgn]
          replace HOWN := Lib.hid (own_below HOWN.out hbq)
          have HLTC : Hid (gc < wq3.heap.size) := Lib.hid (by omega)
          have HGC := Lib.hid hg
          clear hbq hg hgn hwq hz hlo
          refine hK.out _ _ hS (fun hK3 => ?_)
          clear hK K hS hK2
          try simp only [Act.put, List.setIfInBounds_toArray, List.set_cons_zero, List.set_cons_succ]
          refine wpAnyH_ready (rs := [5]) (by kernel_rfl) (by simp) ?_
          refine AllReadyH.cons (o := { dst := some 17, op := Go.Op.call { callee := Go.Callee.builtin Go.Builtin.append, args := #[Go.Operand.tmp 14, Go.Operand.tmp 16], argTypes := #[22, 22] }, type := 22, pos := "law.go:60", after := #[{ on := 2, ground := Go.Ground.data }, { on := 4, ground := Go.Ground.data }, { on := 2, ground := Go.Ground.chain }], guard := none }) rfl (fun K hK => ?_) AllReadyH.nil
          have HNW := Lib.hid (World.news_of_block HGC.out)
          have H1C : Hid (∀ u ∈ ([.int .i64 g0, .int .u64 (g1 : Int)] : List Value), u.oneCell' = true) := Lib.hid (by intro u hu; simp at hu; rcases hu with rfl | rfl <;> rfl)
          have hsz : w0.heap.size ≤ wq3.heap.size := Below.size hK3
          refine step_append_lies _ (by rfl) (.tmp 14) (.tmp 16) 22 (by rfl) w0.heap.size 25 i0 _ 2 16 Try.underlying22 hi0 hz0 hz1 hz2 rfl (by decide) (.slice (some ⟨gb, 0, none⟩) l.length cap2) (l.length) (lbCells l) (by first | rfl | (simp only [Nat.zero_add]; rfl)) HOWN.out ⟨gc, 0, none⟩ 1 1 [.int .i64 g0, .int .u64 (g1 : Int)] (by rfl) rfl HNW.out H1C.out (by omega) (by unfold maxLen; omega) (by omega) hsz _ rfl ?_
          intro gd cap4 wq4 hown4 hg4 hat4 hlt4
          have hbq : Below w0.heap.size wq3 wq4 := (Below.refl _ _).grown hg4 hsz (own_base HOWN.out)
          have hS : Keeps w0 wq4 := Below.trans hK3 hbq
          have HFIN := Lib.hid (And.intro hown4 hS)
          clear hbq hown4 hg4 hat4 HNW H1C hsz HOWN HGC
          refine hK.out _ _ hS (fun hK4 => ?_)
          clear hK K hS hK3
          try simp only [Act.put, List.setIfInBounds_toArray, List.set_cons_zero, List.set_cons_succ]
          refine wpAnyH_take (i := 6) (oi := { dst := some 7, op := Go.Op.assign (Go.Operand.tmp 17), type := 22, pos := "law.go:60", after := #[{ on := 5, ground := Go.Ground.data }, { on := 5, ground := Go.Ground.chain }, { on := 0, ground := Go.Ground.phase }, { on := 1, ground := Go.Ground.phase }, { on := 2, ground := Go.Ground.phase }, { on := 3, ground := Go.Ground.phase }, { on := 4, ground := Go.Ground.phase }, { on := 5, ground := Go.Ground.phase }], guard := none }) (v := ?_) rfl (by kernel_rfl) (by kernel_rfl) (by kernel_rfl) (fun _ _ _ h => h) (Or.inl ⟨by rfl, ?_⟩) hK4 ?_
          rotate_left
          · (intro wz hSz; (try dsimp only at hSz); go_simp; try with_reducible rfl)
          simp only [Act.put, List.setIfInBounds_toArray, List.set_cons_zero, List.set_cons_succ]
          refine wpAnyH_done (by kernel_rfl) ?_ _
          go_wp2_with fail
          go_meet
          case rel => exact ⟨gd, _, rfl, Lib.hid (adds_fin HFIN.out.1 HFIN.out.2)⟩
        · skip
          go_simp
          obtain ⟨wq2, hwq⟩ : ∃ W : World, W = (wq1.alloc (.cells #[.int .i64 g0, .int .u64 (g1 : Int)] 25)) := ⟨_, rfl⟩
          rw [← hwq]
          have hbq : Below wq1.heap.size wq1 wq2 := by rw [hwq]; exact (alloc1 _ _)
          have hS : Keeps w0 wq2 := Keeps.trans hK1 hbq
          have hz : wq2.heap.size = wq1.heap.size + 1 := by rw [hwq]; simp
          obtain ⟨gc, hgn⟩ : ∃ g, g = wq1.heap.size := ⟨_, rfl⟩
          have hg : wq2.heap[gc]? = some (.cells #[.int .i64 g0, .int .u64 (g1 : Int)] 25 (0, 0)) := by rw [hwq, hgn]; exact heap_alloc_new wq1 _
          have hlo : w0.heap.size ≤ wq1.heap.size := Below.size hK1
          rw [← hgn]
          have HNE : Hid (ga ≠ gc) := Lib.hid (by have := HLTA.out; omega)
          replace HLTA := Lib.hid (Nat.lt_of_lt_of_le HLTA.out (Below.size hbq))
          replace HOWN := Lib.hid (own_below HOWN.out hbq)
          have HLTC : Hid (gc < wq2.heap.size) := Lib.hid (by omega)
          have HGC := Lib.hid hg
          clear hbq hg hgn hwq hz hlo
          refine hK.out _ _ hS (fun hK2 => ?_)
          clear hK K hS hK1
          try simp only [Act.put, List.setIfInBounds_toArray, List.set_cons_zero, List.set_cons_succ]
          refine wpAnyH_ready (rs := [2]) (by kernel_rfl) (by simp) ?_
          refine AllReadyH.cons (o := { dst := some 14, op := Go.Op.call { callee := Go.Callee.builtin Go.Builtin.append, args := #[Go.Operand.tmp 12, Go.Operand.tmp 13], argTypes := #[22, 22] }, type := 22, pos := "law.go:60", after := #[{ on := 0, ground := Go.Ground.data }, { on := 1, ground := Go.Ground.data }], guard := none }) rfl (fun K hK => ?_) AllReadyH.nil
          have HNW := Lib.hid (labs_news (hI.below hK2 hbk))
          have hsz : w0.heap.size ≤ wq2.heap.size := Below.size hK2
          refine step_append_lies _ (by rfl) (.tmp 12) (.tmp 13) 22 (by rfl) w0.heap.size 25 i0 _ 2 16 Try.underlying22 hi0 hz0 hz1 hz2 rfl (by decide) (.slice (some ⟨ga, 0, none⟩) 0 0) 0 [] (by rfl) HOWN.out ⟨bk, off, none⟩ l.length cap (lbCells l) (by rfl) (lbCells_len l) HNW.out (lbCells_one l) hpos (by unfold maxLen; omega) (by omega) hsz _ rfl ?_
          intro gb cap3 wq3 hown3 hg3 hat3 hlt3
          have hbq : Below w0.heap.size wq2 wq3 := (Below.refl _ _).grown hg3 hsz (own_base HOWN.out)
          have hS : Keeps w0 wq3 := Below.trans hK2 hbq
          replace HGC := Lib.hid (V.blk_grown HGC.out hg3 (fun e => HNE.out (by injection e)))
          clear HNE
          rw [Nat.zero_add, List.nil_append] at hown3
          replace HOWN := Lib.hid hown3
          clear hbq hown3 hg3 hat3 HNW hsz
          refine hK.out _ _ hS (fun hK3 => ?_)
          clear hK K hS hK2
          try simp only [Act.put, List.setIfInBounds_toArray, List.set_cons_zero, List.set_cons_succ]
          refine wpAnyH_ready (rs := [5]) (by kernel_rfl) (by simp) ?_
          refine AllReadyH.cons (o := { dst := some 17, op := Go.Op.call { callee := Go.Callee.builtin Go.Builtin.append, args := #[Go.Operand.tmp 14, Go.Operand.tmp 16], argTypes := #[22, 22] }, type := 22, pos := "law.go:60", after := #[{ on := 2, ground := Go.Ground.data }, { on := 4, ground := Go.Ground.data }, { on := 2, ground := Go.Ground.chain }], guard := none }) rfl (fun K hK => ?_) AllReadyH.nil
          have HNW := Lib.hid (World.news_of_block HGC.out)
          have H1C : Hid (∀ u ∈ ([.int .i64 g0, .int .u64 (g1 : Int)] : List Value), u.oneCell' = true) := Lib.hid (by intro u hu; simp at hu; rcases hu with rfl | rfl <;> rfl)
          have hsz : w0.heap.size ≤ wq3.heap.size := Below.size hK3
          refine step_append_lies _ (by rfl) (.tmp 14) (.tmp 16) 22 (by rfl) w0.heap.size 25 i0 _ 2 16 Try.underlying22 hi0 hz0 hz1 hz2 rfl (by decide) (.slice (some ⟨gb, 0, none⟩) l.length cap3) (l.length) (lbCells l) (by first | rfl | (simp only [Nat.zero_add]; rfl)) HOWN.out ⟨gc, 0, none⟩ 1 1 [.int .i64 g0, .int .u64 (g1 : Int)] (by rfl) rfl HNW.out H1C.out (by omega) (by unfold maxLen; omega) (by omega) hsz _ rfl ?_
          intro gd cap4 wq4 hown4 hg4 hat4 hlt4
          have hbq : Below w0.heap.size wq3 wq4 := (Below.refl _ _).grown hg4 hsz (own_base HOWN.out)
          have hS : Keeps w0 wq4 := Below.trans hK3 hbq
          have HFIN := Lib.hid (And.intro hown4 hS)
          clear hbq hown4 hg4 hat4 HNW H1C hsz HOWN HGC
          refine hK.out _ _ hS (fun hK4 => ?_)
          clear hK K hS hK3
          try simp only [Act.put, List.setIfInBounds_toArray, List.set_cons_zero, List.set_cons_succ]
          refine wpAnyH_take (i := 6) (oi := { dst := some 7, op := Go.Op.assign (Go.Operand.tmp 17), type := 22, pos := "law.go:60", after := #[{ on := 5, ground := Go.Ground.data }, { on := 5, ground := Go.Ground.chain }, { on := 0, ground := Go.Ground.phase }, { on := 1, ground := Go.Ground.phase }, { on := 2, ground := Go.Ground.phase }, { on := 3, ground := Go.Ground.phase }, { on := 4, ground := Go.Ground.phase }, { on := 5, ground := Go.Ground.phase }], guard := none }) (v := ?_) rfl (by kernel_rfl) (by kernel_rfl) (by kernel_rfl) (fun _ _ _ h => h) (Or.inl ⟨by rfl, ?_⟩) hK4 ?_
          rotate_left
          · (intro wz hSz; (try dsimp only at hSz); go_simp; try with_reducible rfl)
          simp only [Act.put, List.setIfInBounds_toArray, List.set_cons_zero, List.set_cons_succ]
          refine wpAnyH_done (by kernel_rfl) ?_ _
          go_wp2_with fail
          go_meet
          case rel => exact ⟨gd, _, rfl, Lib.hid (adds_fin HFIN.out.1 HFIN.out.2)⟩
      · skip
        go_simp
        obtain ⟨wq1, hwq⟩ : ∃ W : World, W = (w0.alloc (.cells #[.int .i64 g0, .int .u64 (g1 : Int)] 25)).drew := ⟨_, rfl⟩
        rw [← hwq]
        have hbq : Below w0.heap.size w0 wq1 := by rw [hwq]; exact (alloc1 _ _).drew
        have hS : Keeps w0 wq1 := hbq
        have hz : wq1.heap.size = w0.heap.size + 1 := by rw [hwq]; simp
        obtain ⟨gc, hgn⟩ : ∃ g, g = w0.heap.size := ⟨_, rfl⟩
        have hg : wq1.heap[gc]? = some (.cells #[.int .i64 g0, .int .u64 (g1 : Int)] 25 (0, 0)) := by rw [hwq, hgn]; exact heap_alloc_new w0 _
        have hlo : w0.heap.size ≤ w0.heap.size := Nat.le_refl _
        rw [← hgn]
        have HLTC : Hid (gc < wq1.heap.size) := Lib.hid (by omega)
        have HGC := Lib.hid hg
        clear hbq hg hgn hwq hz hlo
        refine hK.out _ _ hS (fun hK1 => ?_)
        clear hK K hS hK0
        try simp only [Act.put, List.setIfInBounds_toArray, List.set_cons_zero, List.set_cons_succ]
        refine wpAnyH_ready (rs := [0]) (by kernel_rfl) (by simp) ?_
        refine AllReadyH.cons (o := { dst := some 12, op := Go.Op.buildSlice 22 0 #[], type := 22, pos := "law.go:60", after := #[], guard := none }) rfl (fun K hK => ?_) AllReadyH.nil
        go_simp
        obtain ⟨wq2, hwq⟩ : ∃ W : World, W = (wq1.alloc (.cells #[] 25)) := ⟨_, rfl⟩
        rw [← hwq]
        have hbq : Below wq1.heap.size wq1 wq2 := by rw [hwq]; exact (alloc1 _ _)
        have hS : Keeps w0 wq2 := Keeps.trans hK1 hbq
        have hz : wq2.heap.size = wq1.heap.size + 1 := by rw [hwq]; simp
        obtain ⟨ga, hgn⟩ : ∃ g, g = wq1.heap.size := ⟨_, rfl⟩
        have hg : wq2.ownsRow w0.heap.size 25 2 (.slice (some ⟨ga, 0, none⟩) 0 0) 0 [] := by rw [hwq, hgn]; exact World.ownsRow_made wq1 #[] 0 (show w0.heap.size ≤ wq1.heap.size from Below.size hK1) (Nat.zero_le _) rfl
        have hlo : w0.heap.size ≤ wq1.heap.size := Below.size hK1
        rw [← hgn]
        have HNE : Hid (ga ≠ gc) := Lib.hid (by have := HLTC.out; omega)
        replace HLTC := Lib.hid (Nat.lt_of_lt_of_le HLTC.out (Below.size hbq))
        replace HGC := Lib.hid ((Below.block hbq _ (L.blk_lt HGC.out)).trans HGC.out)
        have HLTA : Hid (ga < wq2.heap.size) := Lib.hid (by omega)
        have HOWN := Lib.hid hg
        clear hbq hg hgn hwq hz hlo
        refine hK.out _ _ hS (fun hK2 => ?_)
        clear hK K hS hK1
        try simp only [Act.put, List.setIfInBounds_toArray, List.set_cons_zero, List.set_cons_succ]
        refine wpAnyH_ready (rs := [2]) (by kernel_rfl) (by simp) ?_
        refine AllReadyH.cons (o := { dst := some 14, op := Go.Op.call { callee := Go.Callee.builtin Go.Builtin.append, args := #[Go.Operand.tmp 12, Go.Operand.tmp 13], argTypes := #[22, 22] }, type := 22, pos := "law.go:60", after := #[{ on := 0, ground := Go.Ground.data }, { on := 1, ground := Go.Ground.data }], guard := none }) rfl (fun K hK => ?_) AllReadyH.nil
        have HNW := Lib.hid (labs_news (hI.below hK2 hbk))
        have hsz : w0.heap.size ≤ wq2.heap.size := Below.size hK2
        refine step_append_lies _ (by rfl) (.tmp 12) (.tmp 13) 22 (by rfl) w0.heap.size 25 i0 _ 2 16 Try.underlying22 hi0 hz0 hz1 hz2 rfl (by decide) (.slice (some ⟨ga, 0, none⟩) 0 0) 0 [] (by rfl) HOWN.out ⟨bk, off, none⟩ l.length cap (lbCells l) (by rfl) (lbCells_len l) HNW.out (lbCells_one l) hpos (by unfold maxLen; omega) (by omega) hsz _ rfl ?_
        intro gb cap3 wq3 hown3 hg3 hat3 hlt3
        have hbq : Below w0.heap.size wq2 wq3 := (Below.refl _ _).grown hg3 hsz (own_base HOWN.out)
        have hS : Keeps w0 wq3 := Below.trans hK2 hbq
        replace HGC := Lib.hid (V.blk_grown HGC.out hg3 (fun e => HNE.out (by injection e)))
        clear HNE
        rw [Nat.zero_add, List.nil_append] at hown3
        replace HOWN := Lib.hid hown3
        clear hbq hown3 hg3 hat3 HNW hsz
        refine hK.out _ _ hS (fun hK3 => ?_)
        clear hK K hS hK2
        try simp only [Act.put, List.setIfInBounds_toArray, List.set_cons_zero, List.set_cons_succ]
        refine wpAnyH_ready (rs := [5]) (by kernel_rfl) (by simp) ?_
        refine AllReadyH.cons (o := { dst := some 17, op := Go.Op.call { callee := Go.Callee.builtin Go.Builtin.append, args := #[Go.Operand.tmp 14, Go.Operand.tmp 16], argTypes := #[22, 22] }, type := 22, pos := "law.go:60", after := #[{ on := 2, ground := Go.Ground.data }, { on := 4, ground := Go.Ground.data }, { on := 2, ground := Go.Ground.chain }], guard := none }) rfl (fun K hK => ?_) AllReadyH.nil
        have HNW := Lib.hid (World.news_of_block HGC.out)
        have H1C : Hid (∀ u ∈ ([.int .i64 g0, .int .u64 (g1 : Int)] : List Value), u.oneCell' = true) := Lib.hid (by intro u hu; simp at hu; rcases hu with rfl | rfl <;> rfl)
        have hsz : w0.heap.size ≤ wq3.heap.size := Below.size hK3
        refine step_append_lies _ (by rfl) (.tmp 14) (.tmp 16) 22 (by rfl) w0.heap.size 25 i0 _ 2 16 Try.underlying22 hi0 hz0 hz1 hz2 rfl (by decide) (.slice (some ⟨gb, 0, none⟩) l.length cap3) (l.length) (lbCells l) (by first | rfl | (simp only [Nat.zero_add]; rfl)) HOWN.out ⟨gc, 0, none⟩ 1 1 [.int .i64 g0, .int .u64 (g1 : Int)] (by rfl) rfl HNW.out H1C.out (by omega) (by unfold maxLen; omega) (by omega) hsz _ rfl ?_
        intro gd cap4 wq4 hown4 hg4 hat4 hlt4
        have hbq : Below w0.heap.size wq3 wq4 := (Below.refl _ _).grown hg4 hsz (own_base HOWN.out)
        have hS : Keeps w0 wq4 := Below.trans hK3 hbq
        have HFIN := Lib.hid (And.intro hown4 hS)
        clear hbq hown4 hg4 hat4 HNW H1C hsz HOWN HGC
        refine hK.out _ _ hS (fun hK4 => ?_)
        clear hK K hS hK3
        try simp only [Act.put, List.setIfInBounds_toArray, List.set_cons_zero, List.set_cons_succ]
        refine wpAnyH_take (i := 6) (oi := { dst := some 7, op := Go.Op.assign (Go.Operand.tmp 17), type := 22, pos := "law.go:60", after := #[{ on := 5, ground := Go.Ground.data }, { on := 5, ground := Go.Ground.chain }, { on := 0, ground := Go.Ground.phase }, { on := 1, ground := Go.Ground.phase }, { on := 2, ground := Go.Ground.phase }, { on := 3, ground := Go.Ground.phase }, { on := 4, ground := Go.Ground.phase }, { on := 5, ground := Go.Ground.phase }], guard := none }) (v := ?_) rfl (by kernel_rfl) (by kernel_rfl) (by kernel_rfl) (fun _ _ _ h => h) (Or.inl ⟨by rfl, ?_⟩) hK4 ?_
        rotate_left
        · (intro wz hSz; (try dsimp only at hSz); go_simp; try with_reducible rfl)
        simp only [Act.put, List.setIfInBounds_toArray, List.set_cons_zero, List.set_cons_succ]
        refine wpAnyH_done (by kernel_rfl) ?_ _
        go_wp2_with fail
        go_meet
        case rel => exact ⟨gd, _, rfl, Lib.hid (adds_fin HFIN.out.1 HFIN.out.2)⟩
    · obtain rfl : l = [] := List.length_eq_zero_iff.1 (by omega)
      simp only [List.length_nil]
      refine wp_region_held_drew (S := (Keeps w0)) (by kernel_rfl) (keeps_drew _) (fun hK0 => ?_)
      refine wpAnyH_take (i := 1) (oi := { dst := some 13, op := Go.Op.move (Go.Operand.tmp 0), type := 22, pos := "law.go:60", after := #[], guard := none }) (v := ?_) rfl (by kernel_rfl) (by kernel_rfl) (by kernel_rfl) (fun _ _ _ h => h) (Or.inl ⟨by rfl, ?_⟩) hK0 ?_
      rotate_left
      · (intro wz hSz; (try dsimp only at hSz); go_simp; try with_reducible rfl)
      simp only [Act.put, List.setIfInBounds_toArray, List.set_cons_zero, List.set_cons_succ]
      refine wpAnyH_take (i := 3) (oi := { dst := some 15, op := Go.Op.load 25 (Go.Operand.tmp 5), type := 25, pos := "law.go:60", after := #[], guard := none }) (v := ?_) rfl (by kernel_rfl) (by kernel_rfl) (by kernel_rfl) (fun _ _ _ h => h) (Or.inl ⟨by rfl, ?_⟩) hK0 ?_
      rotate_left
      · (intro wz hSz; obtain ⟨xm0, xm1⟩ := (HM.out.below hSz).cells; go_simp; try with_reducible rfl)
      simp only [Act.put, List.setIfInBounds_toArray, List.set_cons_zero, List.set_cons_succ]
      refine wpAnyH_ready (rs := [0, 4]) (by kernel_rfl) (by simp) ?_
      refine AllReadyH.cons (o := { dst := some 12, op := Go.Op.buildSlice 22 0 #[], type := 22, pos := "law.go:60", after := #[], guard := none }) rfl (fun K hK => ?_) (AllReadyH.cons (o := { dst := some 16, op := Go.Op.buildSlice 22 1 #[(0, Go.Operand.tmp 15)], type := 22, pos := "law.go:60", after := #[{ on := 3, ground := Go.Ground.data }], guard := none }) rfl (fun K hK => ?_) AllReadyH.nil)
      · skip
        go_simp
        obtain ⟨wq1, hwq⟩ : ∃ W : World, W = (w0.alloc (.cells #[] 25)).drew := ⟨_, rfl⟩
        rw [← hwq]
        have hbq : Below w0.heap.size w0 wq1 := by rw [hwq]; exact (alloc1 _ _).drew
        have hS : Keeps w0 wq1 := hbq
        have hz : wq1.heap.size = w0.heap.size + 1 := by rw [hwq]; simp
        obtain ⟨ga, hgn⟩ : ∃ g, g = w0.heap.size := ⟨_, rfl⟩
        have hg : wq1.ownsRow w0.heap.size 25 2 (.slice (some ⟨ga, 0, none⟩) 0 0) 0 [] := by rw [hwq, hgn]; exact (World.ownsRow_made w0 #[] 0 (Nat.le_refl _) (Nat.zero_le _) rfl).drew
        have hlo : w0.heap.size ≤ w0.heap.size := Nat.le_refl _
        rw [← hgn]
        have HLTA : Hid (ga < wq1.heap.size) := Lib.hid (by omega)
        have HOWN := Lib.hid hg
        clear hbq hg hgn hwq hz hlo
        refine hK.out _ _ hS (fun hK1 => ?_)
        clear hK K hS hK0
        try simp only [Act.put, List.setIfInBounds_toArray, List.set_cons_zero, List.set_cons_succ]
        refine wpAnyH_take (i := 2) (oi := { dst := some 14, op := Go.Op.call { callee := Go.Callee.builtin Go.Builtin.append, args := #[Go.Operand.tmp 12, Go.Operand.tmp 13], argTypes := #[22, 22] }, type := 22, pos := "law.go:60", after := #[{ on := 0, ground := Go.Ground.data }, { on := 1, ground := Go.Ground.data }], guard := none }) (v := .slice (some ⟨ga, 0, none⟩) 0 0) rfl (by kernel_rfl) (by kernel_rfl) (by kernel_rfl) (fun _ _ _ h => h) (Or.inl ⟨by rfl, ?_⟩) hK1 ?_
        · (intro wz hSz; rcases A with _ | a <;> go_simp <;> simp [storeCells, go_sem] <;> try with_reducible rfl)
        try simp only [Act.put, List.setIfInBounds_toArray, List.set_cons_zero, List.set_cons_succ]
        refine wpAnyH_ready (rs := [4]) (by kernel_rfl) (by simp) ?_
        refine AllReadyH.cons (o := { dst := some 16, op := Go.Op.buildSlice 22 1 #[(0, Go.Operand.tmp 15)], type := 22, pos := "law.go:60", after := #[{ on := 3, ground := Go.Ground.data }], guard := none }) rfl (fun K hK => ?_) AllReadyH.nil
        go_simp
        obtain ⟨wq2, hwq⟩ : ∃ W : World, W = (wq1.alloc (.cells #[.int .i64 g0, .int .u64 (g1 : Int)] 25)) := ⟨_, rfl⟩
        rw [← hwq]
        have hbq : Below wq1.heap.size wq1 wq2 := by rw [hwq]; exact (alloc1 _ _)
        have hS : Keeps w0 wq2 := Keeps.trans hK1 hbq
        have hz : wq2.heap.size = wq1.heap.size + 1 := by rw [hwq]; simp
        obtain ⟨gc, hgn⟩ : ∃ g, g = wq1.heap.size := ⟨_, rfl⟩
        have hg : wq2.heap[gc]? = some (.cells #[.int .i64 g0, .int .u64 (g1 : Int)] 25 (0, 0)) := by rw [hwq, hgn]; exact heap_alloc_new wq1 _
        have hlo : w0.heap.size ≤ wq1.heap.size := Below.size hK1
        rw [← hgn]
        have HNE : Hid (ga ≠ gc) := Lib.hid (by have := HLTA.out; omega)
        replace HLTA := Lib.hid (Nat.lt_of_lt_of_le HLTA.out (Below.size hbq))
        replace HOWN := Lib.hid (own_below HOWN.out hbq)
        have HLTC : Hid (gc < wq2.heap.size) := Lib.hid (by omega)
        have HGC := Lib.hid hg
        clear hbq hg hgn hwq hz hlo
        refine hK.out _ _ hS (fun hK2 => ?_)
        clear hK K hS hK1
        try simp only [Act.put, List.setIfInBounds_toArray, List.set_cons_zero, List.set_cons_succ]
        refine wpAnyH_ready (rs := [5]) (by kernel_rfl) (by simp) ?_
        refine AllReadyH.cons (o := { dst := some 17, op := Go.Op.call { callee := Go.Callee.builtin Go.Builtin.append, args := #[Go.Operand.tmp 14, Go.Operand.tmp 16], argTypes := #[22, 22] }, type := 22, pos := "law.go:60", after := #[{ on := 2, ground := Go.Ground.data }, { on := 4, ground := Go.Ground.data }, { on := 2, ground := Go.Ground.chain }], guard := none }) rfl (fun K hK => ?_) AllReadyH.nil
        have HNW := Lib.hid (World.news_of_block HGC.out)
        have H1C : Hid (∀ u ∈ ([.int .i64 g0, .int .u64 (g1 : Int)] : List Value), u.oneCell' = true) := Lib.hid (by intro u hu; simp at hu; rcases hu with rfl | rfl <;> rfl)
        have hsz : w0.heap.size ≤ wq2.heap.size := Below.size hK2
        refine step_append_lies _ (by rfl) (.tmp 14) (.tmp 16) 22 (by rfl) w0.heap.size 25 i0 _ 2 16 Try.underlying22 hi0 hz0 hz1 hz2 rfl (by decide) (.slice (some ⟨ga, 0, none⟩) 0 0) (0) [] (by first | rfl | (simp only [Nat.zero_add]; rfl)) HOWN.out ⟨gc, 0, none⟩ 1 1 [.int .i64 g0, .int .u64 (g1 : Int)] (by rfl) rfl HNW.out H1C.out (by omega) (by unfold maxLen; omega) (by omega) hsz _ rfl ?_
        intro gd cap3 wq3 hown3 hg3 hat3 hlt3
        have hbq : Below w0.heap.size wq2 wq3 := (Below.refl _ _).grown hg3 hsz (own_base HOWN.out)
        have hS : Keeps w0 wq3 := Below.trans hK2 hbq
        have HFIN := Lib.hid (And.intro hown3 hS)
        clear hbq hown3 hg3 hat3 HNW H1C hsz HOWN HGC
        refine hK.out _ _ hS (fun hK3 => ?_)
        clear hK K hS hK2
        try simp only [Act.put, List.setIfInBounds_toArray, List.set_cons_zero, List.set_cons_succ]
        refine wpAnyH_take (i := 6) (oi := { dst := some 7, op := Go.Op.assign (Go.Operand.tmp 17), type := 22, pos := "law.go:60", after := #[{ on := 5, ground := Go.Ground.data }, { on := 5, ground := Go.Ground.chain }, { on := 0, ground := Go.Ground.phase }, { on := 1, ground := Go.Ground.phase }, { on := 2, ground := Go.Ground.phase }, { on := 3, ground := Go.Ground.phase }, { on := 4, ground := Go.Ground.phase }, { on := 5, ground := Go.Ground.phase }], guard := none }) (v := ?_) rfl (by kernel_rfl) (by kernel_rfl) (by kernel_rfl) (fun _ _ _ h => h) (Or.inl ⟨by rfl, ?_⟩) hK3 ?_
        rotate_left
        · (intro wz hSz; (try dsimp only at hSz); go_simp; try with_reducible rfl)
        simp only [Act.put, List.setIfInBounds_toArray, List.set_cons_zero, List.set_cons_succ]
        refine wpAnyH_done (by kernel_rfl) ?_ _
        go_wp2_with fail
        go_meet
        case rel => exact ⟨gd, _, rfl, Lib.hid (adds_fin HFIN.out.1 HFIN.out.2)⟩
      · skip
        go_simp
        obtain ⟨wq1, hwq⟩ : ∃ W : World, W = (w0.alloc (.cells #[.int .i64 g0, .int .u64 (g1 : Int)] 25)).drew := ⟨_, rfl⟩
        rw [← hwq]
        have hbq : Below w0.heap.size w0 wq1 := by rw [hwq]; exact (alloc1 _ _).drew
        have hS : Keeps w0 wq1 := hbq
        have hz : wq1.heap.size = w0.heap.size + 1 := by rw [hwq]; simp
        obtain ⟨gc, hgn⟩ : ∃ g, g = w0.heap.size := ⟨_, rfl⟩
        have hg : wq1.heap[gc]? = some (.cells #[.int .i64 g0, .int .u64 (g1 : Int)] 25 (0, 0)) := by rw [hwq, hgn]; exact heap_alloc_new w0 _
        have hlo : w0.heap.size ≤ w0.heap.size := Nat.le_refl _
        rw [← hgn]
        have HLTC : Hid (gc < wq1.heap.size) := Lib.hid (by omega)
        have HGC := Lib.hid hg
        clear hbq hg hgn hwq hz hlo
        refine hK.out _ _ hS (fun hK1 => ?_)
        clear hK K hS hK0
        try simp only [Act.put, List.setIfInBounds_toArray, List.set_cons_zero, List.set_cons_succ]
        refine wpAnyH_ready (rs := [0]) (by kernel_rfl) (by simp) ?_
        refine AllReadyH.cons (o := { dst := some 12, op := Go.Op.buildSlice 22 0 #[], type := 22, pos := "law.go:60", after := #[], guard := none }) rfl (fun K hK => ?_) AllReadyH.nil
        go_simp
        obtain ⟨wq2, hwq⟩ : ∃ W : World, W = (wq1.alloc (.cells #[] 25)) := ⟨_, rfl⟩
        rw [← hwq]
        have hbq : Below wq1.heap.size wq1 wq2 := by rw [hwq]; exact (alloc1 _ _)
        have hS : Keeps w0 wq2 := Keeps.trans hK1 hbq
        have hz : wq2.heap.size = wq1.heap.size + 1 := by rw [hwq]; simp
        obtain ⟨ga, hgn⟩ : ∃ g, g = wq1.heap.size := ⟨_, rfl⟩
        have hg : wq2.ownsRow w0.heap.size 25 2 (.slice (some ⟨ga, 0, none⟩) 0 0) 0 [] := by rw [hwq, hgn]; exact World.ownsRow_made wq1 #[] 0 (show w0.heap.size ≤ wq1.heap.size from Below.size hK1) (Nat.zero_le _) rfl
        have hlo : w0.heap.size ≤ wq1.heap.size := Below.size hK1
        rw [← hgn]
        have HNE : Hid (ga ≠ gc) := Lib.hid (by have := HLTC.out; omega)
        replace HLTC := Lib.hid (Nat.lt_of_lt_of_le HLTC.out (Below.size hbq))
        replace HGC := Lib.hid ((Below.block hbq _ (L.blk_lt HGC.out)).trans HGC.out)
        have HLTA : Hid (ga < wq2.heap.size) := Lib.hid (by omega)
        have HOWN := Lib.hid hg
        clear hbq hg hgn hwq hz hlo
        refine hK.out _ _ hS (fun hK2 => ?_)
        clear hK K hS hK1
        try simp only [Act.put, List.setIfInBounds_toArray, List.set_cons_zero, List.set_cons_succ]
        refine wpAnyH_take (i := 2) (oi := { dst := some 14, op := Go.Op.call { callee := Go.Callee.builtin Go.Builtin.append, args := #[Go.Operand.tmp 12, Go.Operand.tmp 13], argTypes := #[22, 22] }, type := 22, pos := "law.go:60", after := #[{ on := 0, ground := Go.Ground.data }, { on := 1, ground := Go.Ground.data }], guard := none }) (v := .slice (some ⟨ga, 0, none⟩) 0 0) rfl (by kernel_rfl) (by kernel_rfl) (by kernel_rfl) (fun _ _ _ h => h) (Or.inl ⟨by rfl, ?_⟩) hK2 ?_
        · (intro wz hSz; rcases A with _ | a <;> go_simp <;> simp [storeCells, go_sem] <;> try with_reducible rfl)
        try simp only [Act.put, List.setIfInBounds_toArray, List.set_cons_zero, List.set_cons_succ]
        refine wpAnyH_ready (rs := [5]) (by kernel_rfl) (by simp) ?_
        refine AllReadyH.cons (o := { dst := some 17, op := Go.Op.call { callee := Go.Callee.builtin Go.Builtin.append, args := #[Go.Operand.tmp 14, Go.Operand.tmp 16], argTypes := #[22, 22] }, type := 22, pos := "law.go:60", after := #[{ on := 2, ground := Go.Ground.data }, { on := 4, ground := Go.Ground.data }, { on := 2, ground := Go.Ground.chain }], guard := none }) rfl (fun K hK => ?_) AllReadyH.nil
        have HNW := Lib.hid (World.news_of_block HGC.out)
        have H1C : Hid (∀ u ∈ ([.int .i64 g0, .int .u64 (g1 : Int)] : List Value), u.oneCell' = true) := Lib.hid (by intro u hu; simp at hu; rcases hu with rfl | rfl <;> rfl)
        have hsz : w0.heap.size ≤ wq2.heap.size := Below.size hK2
        refine step_append_lies _ (by rfl) (.tmp 14) (.tmp 16) 22 (by rfl) w0.heap.size 25 i0 _ 2 16 Try.underlying22 hi0 hz0 hz1 hz2 rfl (by decide) (.slice (some ⟨ga, 0, none⟩) 0 0) (0) [] (by first | rfl | (simp only [Nat.zero_add]; rfl)) HOWN.out ⟨gc, 0, none⟩ 1 1 [.int .i64 g0, .int .u64 (g1 : Int)] (by rfl) rfl HNW.out H1C.out (by omega) (by unfold maxLen; omega) (by omega) hsz _ rfl ?_
        intro gd cap3 wq3 hown3 hg3 hat3 hlt3
        have hbq : Below w0.heap.size wq2 wq3 := (Below.refl _ _).grown hg3 hsz (own_base HOWN.out)
        have hS : Keeps w0 wq3 := Below.trans hK2 hbq
        have HFIN := Lib.hid (And.intro hown3 hS)
        clear hbq hown3 hg3 hat3 HNW H1C hsz HOWN HGC
        refine hK.out _ _ hS (fun hK3 => ?_)
        clear hK K hS hK2
        try simp only [Act.put, List.setIfInBounds_toArray, List.set_cons_zero, List.set_cons_succ]
        refine wpAnyH_take (i := 6) (oi := { dst := some 7, op := Go.Op.assign (Go.Operand.tmp 17), type := 22, pos := "law.go:60", after := #[{ on := 5, ground := Go.Ground.data }, { on := 5, ground := Go.Ground.chain }, { on := 0, ground := Go.Ground.phase }, { on := 1, ground := Go.Ground.phase }, { on := 2, ground := Go.Ground.phase }, { on := 3, ground := Go.Ground.phase }, { on := 4, ground := Go.Ground.phase }, { on := 5, ground := Go.Ground.phase }], guard := none }) (v := ?_) rfl (by kernel_rfl) (by kernel_rfl) (by kernel_rfl) (fun _ _ _ h => h) (Or.inl ⟨by rfl, ?_⟩) hK3 ?_
        rotate_left
        · (intro wz hSz; (try dsimp only at hSz); go_simp; try with_reducible rfl)
        simp only [Act.put, List.setIfInBounds_toArray, List.set_cons_zero, List.set_cons_succ]
        refine wpAnyH_done (by kernel_rfl) ?_ _
        go_wp2_with fail
        go_meet
        case rel => exact ⟨gd, _, rfl, Lib.hid (adds_fin HFIN.out.1 HFIN.out.2)⟩
  case rest =>
  obtain ⟨gz, c7, rfl, HZ⟩ := hcut
  generalize wc = w4 at *
  have HAX := Lib.hid (Ax.mk (HB0.out.trans (HZ.out.2.mono HB0.out.size)) (HO.out.below HZ.out.2) (HM.out.below HZ.out.2) (HA.out.below HZ.out.2) HZ.out.1 : Ax w f0 g0 f1 g1 A l (some ⟨gz, 0, none⟩) w4)
  clear HZ HB0 HO HM HA
  obtain ⟨xo0, xo1⟩ := HAX.out.lx.cells
  go_wp2_with fail
  go_region_held3 (fun w' => w'.cell? ⟨w.heap.size, 0, none⟩ = some (.int .i64 f0) ∧ w'.cell? ⟨w.heap.size, 1, none⟩ = some (.int .u64 (f1 : Int)) ∧ Ax w f0 g0 f1 g1 A l (some ⟨gz, 0, none⟩) w')
    (first | with_reducible exact ax_start HAX.out | with_reducible exact ax_below (by assumption) hbq)
    (first
      | (go_at_call 15; with_reducible refine (H1.out.ex _ (ax_la (by assumption))).mono ?_; rintro r wq ⟨A8, c8, rfl, hI8, hc8, hbq⟩; have HI8 := Lib.hid hI8; clear hI8)
      | (go_at_call 15; with_reducible refine (H2.out _ _ _ (ax_lb (by assumption))).mono ?_; rintro r wq ⟨A9, c9, rfl, hI9, hc9, hbq⟩; have HBQ9 := Lib.hid hbq))
  all_goals
    have HAY := Lib.hid (ax_ax (by assumption))
    have HI8' := Lib.hid (HI8.out.below HBQ9.out)
    have HI9 := Lib.hid hI9
    have HC9 := Lib.hid hc9
    clear hI9 hc9 HBQ9 HI8 hbq HAX
    obtain ⟨xo0, xo1⟩ := HAY.out.lx.cells
    obtain ⟨xm0, xm1⟩ := HAY.out.mx.cells
    go_wp2_with fail
    clear xo0 xo1 xm0 xm1
    with_reducible refine (HR.out.call _).mono ?_
    rintro e w10 ⟨rfl, hb⟩
    replace HAY := Lib.hid (HAY.out.below hb)
    replace HI8' := Lib.hid (HI8'.out.below hb)
    replace HI9 := Lib.hid (HI9.out.below hb)
    clear hb
    rcases HT.out with ⟨rfl, rfl⟩ | ⟨rfl, rfl, rfl, hl, ht⟩
    · clear HT
      go_wp2_with fail
      with_reducible refine (HV.out.at _).mono ?_
      rintro e w11 ⟨rfl, hb⟩
      replace HAY := Lib.hid (HAY.out.below hb)
      replace HI8' := Lib.hid (HI8'.out.below hb)
      replace HI9 := Lib.hid (HI9.out.below hb)
      clear hb
      go_wp2_with fail
      with_reducible refine (HI.out.at _ HI8'.out HI9.out).mono ?_
      rintro e w12 ⟨rfl, hb⟩
      replace HAY := Lib.hid (HAY.out.below hb)
      go_wp2_with fail
      go_ret
      exact ⟨rfl, HAY.out.be⟩
    · clear HT
      obtain ⟨xo0, xo1⟩ := HAY.out.lx.cells
      go_wp2_with fail
      clear xo0 xo1
      with_reducible refine (H3.out _ _ _ HAY.out.lb).mono ?_
      rintro e w11 ⟨rfl, hb⟩
      replace HAY := Lib.hid (HAY.out.below hb)
      replace HI8' := Lib.hid (HI8'.out.below hb)
      replace HI9 := Lib.hid (HI9.out.below hb)
      clear hb
      go_wp2_with fail
      with_reducible refine (HV.out.at _).mono ?_
      rintro e w12 ⟨rfl, hb⟩
      replace HAY := Lib.hid (HAY.out.below hb)
      replace HI8' := Lib.hid (HI8'.out.below hb)
      replace HI9 := Lib.hid (ints_take s.length (HI9.out.below hb))
      rw [ht] at HI9
      clear hb
      have hc9 := HC9.out
      have hsl := HS.out
      have hw1 : IntKind.i64.wrap ((s.length : Int) + 1) = ((s.length + 1 : Nat) : Int) := by rw [IntKind.wrap_i64]; omega
      have he1 : ((t.length : Int) == ((s.length + 1 : Nat) : Int)) = true := by simp; omega
      have hs0 : (0 : Int) ≤ (s.length : Int) := by omega
      have hs1 : (s.length : Int) ≤ (c9 : Int) := by omega
      have hs2 : s.length ≤ c9 := by omega
      go_wp2_with fail
      with_reducible refine (HI.out.at _ HI9.out HI8'.out).mono ?_
      rintro e w13 ⟨rfl, hb⟩
      replace HAY := Lib.hid (HAY.out.below hb)
      clear hb
      go_wp2_with fail
      go_ret
      exact ⟨rfl, HAY.out.be⟩
theorem sn_one (o m : Lb) (l : List Lb) : snI o (l ++ [m]) = snI o l ++ (if bl o m = true then [(l.length : Int)] else []) := by
  unfold snI
  rw [sn_snoc, Nat.zero_add, List.map_append]
  split <;> simp
theorem radds_law {A : Option Addr} {cap : Nat} {l : List Lb} {f0 g0 : Int} {f1 g1 : Nat} (w : World) (hA : LabsIn w A l) (hn16 : l.length * 16 ≤ 140737488351232) (hok : LOk l) (h1 : f1 < 18446744073709551616) (h2 : g1 < 18446744073709551616) :
    Calls Try.prog 6 #[.slice A l.length cap, .agg #[.int .i64 f0, .int .u64 (f1 : Int)], .agg #[.int .i64 g0, .int .u64 (g1 : Int)]] w fun e w' => e = .returned (.bool true) ∧ Below w.heap.size w w' := by
  have hm : (l ++ [((g0, g1) : Lb)]).length = l.length + 1 := by simp
  have hok2 : LOk (l ++ [(g0, g1)]) := fun x hx => by
    rcases List.mem_append.1 hx with h | h
    · exact hok x h
    · rw [List.mem_singleton.1 h]; exact h2
  have hl : l.length ≤ maxLen := by unfold maxLen; omega
  have hl2 : (l ++ [((g0, g1) : Lb)]).length ≤ maxLen := by rw [hm]; unfold maxLen; omega
  have H2 := c_seen (f0 := f0) hok2 h1 hl2 (by omega)
  have H3 := c_own (f0 := f0) hok2 h1 hl2 (l.length : Int)
  unfold SnC SnEnd at H2
  unfold TwC at H3
  rw [hm] at H2 H3
  have hle : (snI (f0, f1) l).length ≤ l.length := by rw [snI_length]; exact sn_le _ _ _
  have HI := c_ints (snI (f0, f1) l) (snI (f0, f1) l) (by omega)
  rw [decide_eq_true rfl] at HI
  refine radds_walk w hA hn16 (Lib.hid (c_seen hok h1 hl (by omega))) (Lib.hid H2) (Lib.hid (rb_is (f0, f1) (g0, g1) h2)) (Lib.hid H3) (Lib.hid ?_) (Lib.hid hle) (Lib.hid HI) (Lib.hid live17)
  have hs := sn_one (f0, f1) (g0, g1) l
  cases hb : bl (f0, f1) (g0, g1) with
  | false =>
    rw [hb] at hs
    exact .inl ⟨rfl, by rw [hs]; simp⟩
  | true =>
    rw [hb] at hs
    simp only [if_true] at hs
    have ho : own (sn (f0, f1) 0 (l ++ [(g0, g1)])) (l.length : Int) = some (sn (f0, f1) 0 l).length := by
      unfold own
      rw [sn_snoc, if_pos hb, Nat.zero_add, List.findIdx?_eq_some_iff_getElem]
      refine ⟨by simp, by simp, fun j hj => ?_⟩
      rw [List.getElem_append_left hj]
      have := (sn_lt (f0, f1) l 0 _ (List.getElem_mem hj)).2
      simp
      omega
    refine .inr ⟨rfl, by rw [ho]; rfl, by rw [ho, snI_length]; rfl, by rw [hs]; simp, by rw [hs]; simp⟩
end Go.Proofs.Ytlkfmaeillnhhaa.Rm
