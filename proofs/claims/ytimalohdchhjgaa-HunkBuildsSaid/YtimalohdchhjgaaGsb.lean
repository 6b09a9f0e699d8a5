/-
  What edits comes to.
-/
import Derived.Test.YtimalohdchhjgaaGsa
import Derived.Deep.DeepCutAuto
namespace Go.Proofs.Ytimalohdchhjgaa.S
open Go.RowKit
open T
open V (grown_of IntsIn numCells numCells_snoc ints_own drawn_below)
open I (alloc1 own_at own_below)
open N (Ln)

/-- What the loop holds at place k: the stretches that are told, up to f. -/
structure GrI (d : List Sl) (k f : Nat) (rs : List Rg) : Prop where
  le : f ≤ k
  eq : grp d = rs.map (rgEd (d.map (·.2))) ++ grp (d.drop f)
  run : ∀ (hk : k < d.length) j (hj : j < d.length), f ≤ j → j ≤ k → d[j].1 = d[k].1
  fin : k = d.length → f = k
  fit : ∀ r ∈ rs, r.2.1 < r.2.2 ∧ r.2.2 ≤ (d.map (·.2)).length
  few : rs.length ≤ f
theorem GrI.start (d : List Sl) : GrI d 0 0 [] := ⟨Nat.le_refl _, by simp, fun hk j hj h1 h2 => by obtain rfl : j = 0 := (by omega); rfl, fun h => rfl, fun r hr => by simp at hr, Nat.le_refl _⟩
theorem GrI.same {d : List Sl} {k f : Nat} {rs : List Rg} (h : GrI d k f rs) (hk : k + 1 < d.length) (e : d[k + 1].1 = d[k].1) : GrI d (k + 1) f rs :=
  ⟨Nat.le_succ_of_le h.le, h.eq, fun _ j hj h1 h2 => by
    by_cases q : j = k + 1
    · subst q; rfl
    · rw [h.run (by omega) j hj h1 (by omega), e], fun q => by omega, h.fit, h.few⟩
theorem GrI.cut {d : List Sl} {k f : Nat} {rs : List Rg} (h : GrI d k f rs) (hk : k < d.length) (hn : ∀ q : k + 1 < d.length, d[k + 1].1 ≠ d[k].1) : GrI d (k + 1) (k + 1) (rs ++ [(d[k].1, f, k + 1)]) := by
  have hc := grp_cut h.le hk (h.run hk) hn
  refine ⟨Nat.le_refl _, ?_, fun q j hj h1 h2 => by obtain rfl : j = k + 1 := (by omega); rfl, fun q => rfl, fun r hr => ?_, by have := h.few; have := h.le; rw [List.length_append, List.length_singleton]; omega⟩
  · rw [h.eq, hc, List.map_append, List.append_assoc]
    rfl
  · rcases List.mem_append.1 hr with hr | hr
    · exact h.fit r hr
    · have := h.le
      rw [List.mem_singleton] at hr
      subst hr
      simp only [List.length_map]
      omega
theorem GrI.done {d : List Sl} {f : Nat} {rs : List Rg} (h : GrI d d.length f rs) : rs.map (rgEd (d.map (·.2))) = grp d := by
  have e := h.fin rfl
  subst e
  rw [h.eq, List.drop_length]
  simp [grp]
def EsEnd (b : Nat) (w : World) (es : List Ed) (e : Ending) (w' : World) : Prop := ∃ A cap, e = .returned (.slice A es.length cap) ∧ EdsIn b w' A es ∧ Below w.heap.size w w'

set_option maxRecDepth 100000 in
set_option maxHeartbeats 4000000 in
theorem edits_any (base db : Nat) (vl vs : Value) (d : List Sl) (w : World) (hD : Dn w base db vl vs (d.map (·.2)) (d.map (·.1))) (hd : d.length ≤ 1000000) (hbw : base ≤ w.heap.size) :
    Calls Try.prog 39 #[.pointer (some ⟨db, 0, none⟩)] w (EsEnd base w (grp d)) := by
  obtain ⟨i0, hi0, hz0, hz1, hz2⟩ := info_parts infoEdit
  obtain ⟨vA, vcap, hvl, hvc, hvA⟩ := own_form hD.l
  obtain ⟨vB, scap, hvs, hsc, hvB⟩ := own_form hD.s
  subst hvl hvs
  simp only [List.length_map] at hvc hvA hsc hvB hD
  have HD := Lib.hid hD
  have HVA := Lib.hid hvA
  have HVB := Lib.hid hvB
  have hdb := hD.lt
  have y1 := L.blk_cell hD.blk 1
  simp only [List.getElem?_toArray, List.getElem?_cons_zero, List.getElem?_cons_succ] at y1
  clear hD hvA hvB
  go_enter Try.func39, Try.ntmps39
  go_wp2_with fail
  go_loopg [3, 4, 12] d.length (fun m sv fv iv wr => ∃ (k f : Nat) (rs : List Rg), k ≤ d.length ∧ iv = .int .i64 k ∧ fv = .int .i64 f ∧ d.length - k ≤ m ∧ Hid (∀ gl : Nat, vA = some ⟨gl, 0, none⟩ → wr.ownsRow w.heap.size 47 2 sv rs.length (rgCells gl rs)) ∧ (∃ A cap, sv = .slice A rs.length cap) ∧ Hid (GrI d k f rs) ∧ Hid (Below w.heap.size w wr))
  case atStart => exact ⟨0, 0, [], Nat.zero_le _, rfl, rfl, by omega, Lib.hid (fun gl _ => World.ownsRow_nil _ _ _ _), ⟨none, 0, rfl⟩, Lib.hid (GrI.start d), Lib.hid (Below.refl _ _)⟩
  case round =>
    obtain ⟨k, f, rs, hk, rfl, rfl, hmm, HO, ⟨RA, rcap, rfl⟩, HG, HB⟩ := hrel
    by_cases hlt : k < d.length
    · obtain ⟨gl, hgl, -, hglw, -⟩ := HVA.out (by omega)
      obtain ⟨gs, hgs, -, hgsw, hst⟩ := HVB.out (by omega)
      subst hgl hgs
      have hcs : ∀ j (hj : j < d.length), wr.cell? ⟨gs, j, none⟩ = some (.int .i64 d[j].1) := fun j hj => (HB.out.cell (p := ⟨gs, j, none⟩) hgsw).trans (hst j _ (by simp [stepCells, numCells, List.getElem?_eq_getElem hj]))
      have c0 := (HB.out.cell (p := ⟨db, 0, none⟩) hdb).trans (L.blk_cell HD.out.blk 0)
      have c1 := (HB.out.cell (p := ⟨db, 1, none⟩) hdb).trans (L.blk_cell HD.out.blk 1)
      simp only [List.getElem?_toArray, List.getElem?_cons_zero, List.getElem?_cons_succ] at c0 c1
      have ck := hcs k hlt
      have HOW := Lib.hid (HO.out gl rfl)
      have hfk := HG.out.le
      have hfw := HG.out.few
      have h0k : (0 : Int) ≤ (k : Int) := by omega
      have hki : (k : Int) < (d.length : Int) := by omega
      have hwr : IntKind.i64.wrap ((k : Int) + 1) = (k : Int) + 1 := by rw [IntKind.wrap_i64]; omega
      go_upto_region 7 with fail
      by_cases hn : k + 1 < d.length
      · have ck1 := hcs (k + 1) hn
        have hn1 : (k : Int) + 1 < (d.length : Int) := by omega
        have h01 : (0 : Int) ≤ (k : Int) + 1 := by omega
        clear hcs hst
        by_cases he : d[k + 1].1 = d[k].1
        · have HSM := Lib.hid (HG.out.same hn he)
          rw [he] at ck1
          clear he
          generalize d[k].1 = t0 at ck ck1
          go_quiet (fail)
          go_wp2_with fail
          go_roundg (d.length - (k + 1))
          case rel => exact ⟨k + 1, f, rs, by omega, by go_num, rfl, Nat.le_refl _, Lib.hid (fun gl' e => by have e' := Option.some.inj e; injection e' with e'; subst e'; exact own_below HOW.out (drawn_below wr _)), ⟨_, _, rfl⟩, HSM, Lib.hid (HB.out.trans ((drawn_below wr _).mono HB.out.size))⟩
          case measure => omega
        · have HC := Lib.hid (HG.out.cut hlt (fun _ => he))
          have hne : (d[k + 1].1 == d[k].1) = false := beq_eq_false_iff_ne.2 he
          generalize d[k + 1].1 = t1 at ck1 hne
          generalize d[k].1 = t0 at ck hne HC
          clear he
          go_quiet (fail)
          have hs1 : (f : Int) ≤ (k : Int) + 1 := by omega
          have hs2 : (k : Int) + 1 ≤ (vcap : Int) := by omega
          have hs3 : (0 : Int) ≤ (f : Int) := by omega
          have hs4 : ¬ k + 1 = f := by omega
          obtain ⟨W, hW⟩ : ∃ W, W = wr.drewN nq := ⟨_, rfl⟩
          have e0 : W.cell? ⟨db, 0, none⟩ = some (.slice (some ⟨gl, 0, none⟩) d.length vcap) := by rw [hW]; exact c0
          have e1 : W.cell? ⟨db, 1, none⟩ = some (.slice (some ⟨gs, 0, none⟩) d.length scap) := by rw [hW]; exact c1
          have ek : W.cell? ⟨gs, k, none⟩ = some (.int .i64 t0) := by rw [hW]; exact ck
          go_upto_region 8 with fail
          rw [← hW]
          have HOW1 : Hid (W.ownsRow w.heap.size 47 2 (.slice RA rs.length rcap) rs.length (rgCells gl rs)) := Lib.hid (by rw [hW]; exact own_below HOW.out (drawn_below wr _))
          have HBW : Hid (Below w.heap.size w W) := Lib.hid (by rw [hW]; exact HB.out.trans ((drawn_below wr _).mono HB.out.size))
          have hsw : w.heap.size ≤ W.heap.size := HBW.out.size
          clear hW c0 c1 ck ck1
          have HOA : Hid ((W.alloc (.cells #[.int .i64 t0, .slice (some ⟨gl, f * 2, none⟩) (k + 1 - f) (k + 1 - f)] 47)).drew.ownsRow w.heap.size 47 2 (.slice RA rs.length rcap) rs.length (rgCells gl rs)) := Lib.hid (World.ownsRow.alloc HOW1.out _)
          have HNW := Lib.hid (World.news_of_block (w := (W.alloc (.cells #[.int .i64 t0, .slice (some ⟨gl, f * 2, none⟩) (k + 1 - f) (k + 1 - f)] 47)).drew) (heap_alloc_new W _))
          have H1C : Hid (∀ u ∈ ([.int .i64 t0, .slice (some ⟨gl, f * 2, none⟩) (k + 1 - f) (k + 1 - f)] : List Value), u.oneCell' = true) := Lib.hid (by intro u hu; simp at hu; rcases hu with rfl | rfl <;> rfl)
          go_region_law ((refine step_append_lies _ (by rfl) (.tmp 41) (.tmp 58) 22 (by rfl) w.heap.size 47 i0 _ 2 32 Try.underlying22 hi0 hz0 hz1 hz2 rfl (by decide) (.slice RA rs.length rcap) rs.length (rgCells gl rs) (by rfl) HOA.out ⟨W.heap.size, 0, none⟩ 1 1 [.int .i64 t0, .slice (some ⟨gl, f * 2, none⟩) (k + 1 - f) (k + 1 - f)] (by rfl) rfl HNW.out H1C.out (by omega) (by unfold maxLen; omega) (by omega) (by simp; omega) _ rfl ?_; intro g3 cap3 w4 hown3 hgrow3 hat3 hlt3))
          all_goals
            have HO3 : Hid (w4.ownsRow w.heap.size 47 2 (.slice (some ⟨g3, 0, none⟩) (rs.length + 1) cap3) (rs ++ [(t0, f, k + 1)]).length (rgCells gl (rs ++ [(t0, f, k + 1)]))) := Lib.hid (by rw [rgCells_snoc, List.length_append]; exact hown3)
            have HB3 : Hid (Below w.heap.size w w4) := Lib.hid (((HBW.out.alloc hsw _).drew).grown hgrow3 (by simp; omega) (fun q eq => own_base HOW1.out q eq))
            clear hown3 hgrow3 hat3 hlt3
            go_wp2_with fail
            go_roundg (d.length - (k + 1))
            case rel => exact ⟨k + 1, k + 1, rs ++ [(t0, f, k + 1)], by omega, by go_num, by go_num, Nat.le_refl _, Lib.hid (fun gl' e => by have e' := Option.some.inj e; injection e' with e'; subst e'; exact HO3.out), ⟨some ⟨g3, 0, none⟩, cap3, by rw [List.length_append]; rfl⟩, HC, HB3⟩
            case measure => omega
      · have hke : k + 1 = d.length := by omega
        have hn0 : ¬ (k : Int) + 1 < (d.length : Int) := by omega
        have hdn : decide ((k : Int) + 1 < (d.length : Int)) = false := decide_eq_false hn0
        have HC := Lib.hid (HG.out.cut hlt (fun q => absurd q hn))
        generalize d[k].1 = t0 at ck HC
        have hn2 : k + 1 ≤ d.length := by omega
        clear hcs hst hke hn
        go_quiet (fail)
        clear hdn hn0
        have hs1 : (f : Int) ≤ (k : Int) + 1 := by omega
        have hs2 : (k : Int) + 1 ≤ (vcap : Int) := by omega
        have hs3 : (0 : Int) ≤ (f : Int) := by omega
        have hs4 : ¬ k + 1 = f := by omega
        obtain ⟨W, hW⟩ : ∃ W, W = wr.drewN nq := ⟨_, rfl⟩
        have e0 : W.cell? ⟨db, 0, none⟩ = some (.slice (some ⟨gl, 0, none⟩) d.length vcap) := by rw [hW]; exact c0
        have e1 : W.cell? ⟨db, 1, none⟩ = some (.slice (some ⟨gs, 0, none⟩) d.length scap) := by rw [hW]; exact c1
        have ek : W.cell? ⟨gs, k, none⟩ = some (.int .i64 t0) := by rw [hW]; exact ck
        go_upto_region 8 with fail
        rw [← hW]
        have HOW1 : Hid (W.ownsRow w.heap.size 47 2 (.slice RA rs.length rcap) rs.length (rgCells gl rs)) := Lib.hid (by rw [hW]; exact own_below HOW.out (drawn_below wr _))
        have HBW : Hid (Below w.heap.size w W) := Lib.hid (by rw [hW]; exact HB.out.trans ((drawn_below wr _).mono HB.out.size))
        have hsw : w.heap.size ≤ W.heap.size := HBW.out.size
        clear hW c0 c1 ck
        have HOA : Hid ((W.alloc (.cells #[.int .i64 t0, .slice (some ⟨gl, f * 2, none⟩) (k + 1 - f) (k + 1 - f)] 47)).drew.ownsRow w.heap.size 47 2 (.slice RA rs.length rcap) rs.length (rgCells gl rs)) := Lib.hid (World.ownsRow.alloc HOW1.out _)
        have HNW := Lib.hid (World.news_of_block (w := (W.alloc (.cells #[.int .i64 t0, .slice (some ⟨gl, f * 2, none⟩) (k + 1 - f) (k + 1 - f)] 47)).drew) (heap_alloc_new W _))
        have H1C : Hid (∀ u ∈ ([.int .i64 t0, .slice (some ⟨gl, f * 2, none⟩) (k + 1 - f) (k + 1 - f)] : List Value), u.oneCell' = true) := Lib.hid (by intro u hu; simp at hu; rcases hu with rfl | rfl <;> rfl)
        go_region_law ((refine step_append_lies _ (by rfl) (.tmp 41) (.tmp 58) 22 (by rfl) w.heap.size 47 i0 _ 2 32 Try.underlying22 hi0 hz0 hz1 hz2 rfl (by decide) (.slice RA rs.length rcap) rs.length (rgCells gl rs) (by rfl) HOA.out ⟨W.heap.size, 0, none⟩ 1 1 [.int .i64 t0, .slice (some ⟨gl, f * 2, none⟩) (k + 1 - f) (k + 1 - f)] (by rfl) rfl HNW.out H1C.out (by omega) (by unfold maxLen; omega) (by omega) (by simp; omega) _ rfl ?_; intro g3 cap3 w4 hown3 hgrow3 hat3 hlt3))
        all_goals
          have HO3 : Hid (w4.ownsRow w.heap.size 47 2 (.slice (some ⟨g3, 0, none⟩) (rs.length + 1) cap3) (rs ++ [(t0, f, k + 1)]).length (rgCells gl (rs ++ [(t0, f, k + 1)]))) := Lib.hid (by rw [rgCells_snoc, List.length_append]; exact hown3)
          have HB3 : Hid (Below w.heap.size w w4) := Lib.hid (((HBW.out.alloc hsw _).drew).grown hgrow3 (by simp; omega) (fun q eq => own_base HOW1.out q eq))
          clear hown3 hgrow3 hat3 hlt3
          go_wp2_with fail
          go_roundg (d.length - (k + 1))
          case rel => exact ⟨k + 1, k + 1, rs ++ [(t0, f, k + 1)], by omega, by go_num, by go_num, Nat.le_refl _, Lib.hid (fun gl' e => by have e' := Option.some.inj e; injection e' with e'; subst e'; exact HO3.out), ⟨some ⟨g3, 0, none⟩, cap3, by rw [List.length_append]; rfl⟩, HC, HB3⟩
          case measure => omega
    · obtain rfl : k = d.length := by omega
      have hdn := HG.out.done
      have hf := HG.out.fin rfl
      subst hf
      have HRT : Hid (EdsIn base wr RA (grp d) ∧ rs.length = (grp d).length) := Lib.hid ⟨by
        by_cases hp : 0 < d.length
        · obtain ⟨gl, hgl, hgb, hglw, hlc⟩ := HVA.out hp
          rw [← hdn]
          refine eds_of_own (HO.out gl hgl) hbw hgb (Nat.lt_of_lt_of_le hglw HB.out.size) (fun j hj => ?_) HG.out.fit
          obtain ⟨q0, q1⟩ := lineCells_at _ j hj
          exact ⟨by rw [Nat.zero_add]; exact (HB.out.cell (p := ⟨gl, _, none⟩) hglw).trans (hlc _ _ q0), by rw [Nat.zero_add]; exact (HB.out.cell (p := ⟨gl, _, none⟩) hglw).trans (hlc _ _ q1)⟩
        · intro h0
          have := HG.out.few
          rw [← hdn, List.length_map] at h0
          omega, by rw [← hdn, List.length_map]⟩
      clear hdn
      go_wp2_with fail
      go_ret
      exact ⟨RA, rcap, by rw [HRT.out.2]; rfl, HRT.out.1, HB.out⟩
end Go.Proofs.Ytimalohdchhjgaa.S
