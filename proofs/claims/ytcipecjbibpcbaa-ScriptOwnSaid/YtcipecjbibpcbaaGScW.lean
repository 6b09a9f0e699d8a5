/-
  What Normal comes to, once more: its lines lie in memory that may be written; a script whose lines are written.
-/
import Derived.Test.YtcipecjbibpcbaaGsh
import Derived.Laws.OwnMore
namespace Go.Proofs.Ytcipecjbibpcbaa.S
open Go.RowKit
open T
open V (grown_of IntsIn numCells numCells_snoc ints_own drawn_below)
open I (alloc1 own_at own_below)
open N (Ln)

/-- The blocks in which a script's lines lie may be written. -/
def EdsFree (w : World) (A : Option Addr) (es : List Ed) : Prop :=
  ∀ bk off, A = some ⟨bk, off, none⟩ → ∀ j, j < es.length → ∀ LA n c, w.cell? ⟨bk, off + j * 2 + 1, none⟩ = some (.slice LA n c) → ∀ p, LA = some p → ∀ o, w.frozen? ⟨p.block, o, none⟩ = false
theorem free_of_own {w : World} {base g : Nat} {A : Option Addr} {cap : Nat} {rs : List Rg} {ls : List Ln} (h : w.ownsRow base 42 2 (.slice A rs.length cap) rs.length (rgCells g rs)) (hz : ∀ o, w.frozen? ⟨g, o, none⟩ = false) : EdsFree w A (rs.map (rgEd ls)) := fun bk off hA j hj LA n c hc p hp o => by
  rw [List.length_map] at hj
  obtain ⟨k, hk, _, _, h3⟩ := own_at h (by omega)
  rw [hA] at hk
  injection hk with hk
  injection hk with hk1 hk2
  subst hk1 hk2
  have := h3 _ _ (rgCells_at g rs j hj).2
  rw [Nat.zero_add] at hc
  rw [hc] at this
  injection this with this
  injection this with e1 _ _
  subst e1
  injection hp with hp
  subst hp
  exact hz o
def EfEnd (b : Nat) (w : World) (es : List Ed) (e : Ending) (w' : World) : Prop := ∃ A cap, e = .returned (.slice A es.length cap) ∧ EdsIn b w' A es ∧ Below w.heap.size w w' ∧ EdsFree w' A es
def NfEnd (w : World) (r : List Ed) (e0 : Int) (e : Ending) (w' : World) : Prop :=
  ∃ A cap, e = .returned (.tuple #[.slice A r.length cap, .int .i64 e0]) ∧ EdsIn w.heap.size w' A r ∧ Below w.heap.size w w' ∧ EdsFree w' A r

set_option maxRecDepth 100000 in
set_option maxHeartbeats 4000000 in
theorem edits_free (base db : Nat) (vl vs : Value) (d : List Sl) (w : World) (hD : Dn w base db vl vs (d.map (·.2)) (d.map (·.1))) (hd : d.length ≤ 1000000) (hbw : base ≤ w.heap.size) :
    Calls Try.prog 37 #[.pointer (some ⟨db, 0, none⟩)] w (EfEnd base w (grp d)) := by
  obtain ⟨i0, hi0, hz0, hz1, hz2⟩ := info_parts infoEdit
  obtain ⟨vA, vcap, hvl, hvc, hvA⟩ := own_form hD.l
  obtain ⟨vB, scap, hvs, hsc, hvB⟩ := own_form hD.s
  subst hvl hvs
  simp only [List.length_map] at hvc hvA hsc hvB hD
  have HD := Lib.hid hD
  have HVA := Lib.hid hvA
  have HVB := Lib.hid hvB
  have hdb := hD.lt
  have y1 := L.blk_cell hD.blk 1
  simp only [List.getElem?_toArray, List.getElem?_cons_zero, List.getElem?_cons_succ] at y1
  clear hD hvA hvB
  go_enter Try.func37, Try.ntmps37
  go_wp2_with fail
  go_loopg [3, 4, 12] d.length (fun m sv fv iv wr => ∃ (k f : Nat) (rs : List Rg), k ≤ d.length ∧ iv = .int .i64 k ∧ fv = .int .i64 f ∧ d.length - k ≤ m ∧ Hid (∀ gl : Nat, vA = some ⟨gl, 0, none⟩ → wr.ownsRow w.heap.size 42 2 sv rs.length (rgCells gl rs)) ∧ (∃ A cap, sv = .slice A rs.length cap) ∧ Hid (GrI d k f rs) ∧ Hid (Below w.heap.size w wr))
  case atStart => exact ⟨0, 0, [], Nat.zero_le _, rfl, rfl, by omega, Lib.hid (fun gl _ => World.ownsRow_nil _ _ _ _), ⟨none, 0, rfl⟩, Lib.hid (GrI.start d), Lib.hid (Below.refl _ _)⟩
  case round =>
    obtain ⟨k, f, rs, hk, rfl, rfl, hmm, HO, ⟨RA, rcap, rfl⟩, HG, HB⟩ := hrel
    by_cases hlt : k < d.length
    · obtain ⟨gl, hgl, -, hglw, -⟩ := HVA.out (by omega)
      obtain ⟨gs, hgs, -, hgsw, hst⟩ := HVB.out (by omega)
      subst hgl hgs
      have hcs : ∀ j (hj : j < d.length), wr.cell? ⟨gs, j, none⟩ = some (.int .i64 d[j].1) := fun j hj => (HB.out.cell (p := ⟨gs, j, none⟩) hgsw).trans (hst j _ (by simp [stepCells, numCells, List.getElem?_eq_getElem hj]))
      have c0 := (HB.out.cell (p := ⟨db, 0, none⟩) hdb).trans (L.blk_cell HD.out.blk 0)
      have c1 := (HB.out.cell (p := ⟨db, 1, none⟩) hdb).trans (L.blk_cell HD.out.blk 1)
      simp only [List.getElem?_toArray, List.getElem?_cons_zero, List.getElem?_cons_succ] at c0 c1
      have ck := hcs k hlt
      have HOW := Lib.hid (HO.out gl rfl)
      have hfk := HG.out.le
      have hfw := HG.out.few
      have h0k : (0 : Int) ≤ (k : Int) := by omega
      have hki : (k : Int) < (d.length : Int) := by omega
      have hwr : IntKind.i64.wrap ((k : Int) + 1) = (k : Int) + 1 := by rw [IntKind.wrap_i64]; omega
      go_upto_region 7 with fail
      by_cases hn : k + 1 < d.length
      · have ck1 := hcs (k + 1) hn
        have hn1 : (k : Int) + 1 < (d.length : Int) := by omega
        have h01 : (0 : Int) ≤ (k : Int) + 1 := by omega
        clear hcs hst
        by_cases he : d[k + 1].1 = d[k].1
        · have HSM := Lib.hid (HG.out.same hn he)
          rw [he] at ck1
          clear he
          generalize d[k].1 = t0 at ck ck1
          go_quiet (fail)
          go_wp2_with fail
          go_roundg (d.length - (k + 1))
          case rel => exact ⟨k + 1, f, rs, by omega, by go_num, rfl, Nat.le_refl _, Lib.hid (fun gl' e => by have e' := Option.some.inj e; injection e' with e'; subst e'; exact own_below HOW.out (drawn_below wr _)), ⟨_, _, rfl⟩, HSM, Lib.hid (HB.out.trans ((drawn_below wr _).mono HB.out.size))⟩
          case measure => omega
        · have HC := Lib.hid (HG.out.cut hlt (fun _ => he))
          have hne : (d[k + 1].1 == d[k].1) = false := beq_eq_false_iff_ne.2 he
          generalize d[k + 1].1 = t1 at ck1 hne
          generalize d[k].1 = t0 at ck hne HC
          clear he
          go_quiet (fail)
          have hs1 : (f : Int) ≤ (k : Int) + 1 := by omega
          have hs2 : (k : Int) + 1 ≤ (vcap : Int) := by omega
          have hs3 : (0 : Int) ≤ (f : Int) := by omega
          have hs4 : ¬ k + 1 = f := by omega
          obtain ⟨W, hW⟩ : ∃ W, W = wr.drewN nq := ⟨_, rfl⟩
          have e0 : W.cell? ⟨db, 0, none⟩ = some (.slice (some ⟨gl, 0, none⟩) d.length vcap) := by rw [hW]; exact c0
          have e1 : W.cell? ⟨db, 1, none⟩ = some (.slice (some ⟨gs, 0, none⟩) d.length scap) := by rw [hW]; exact c1
          have ek : W.cell? ⟨gs, k, none⟩ = some (.int .i64 t0) := by rw [hW]; exact ck
          go_upto_region 8 with fail
          rw [← hW]
          have HOW1 : Hid (W.ownsRow w.heap.size 42 2 (.slice RA rs.length rcap) rs.length (rgCells gl rs)) := Lib.hid (by rw [hW]; exact own_below HOW.out (drawn_below wr _))
          have HBW : Hid (Below w.heap.size w W) := Lib.hid (by rw [hW]; exact HB.out.trans ((drawn_below wr _).mono HB.out.size))
          have hsw : w.heap.size ≤ W.heap.size := HBW.out.size
          clear hW c0 c1 ck ck1
          have HOA : Hid ((W.alloc (.cells #[.int .i64 t0, .slice (some ⟨gl, f * 2, none⟩) (k + 1 - f) (k + 1 - f)] 42)).drew.ownsRow w.heap.size 42 2 (.slice RA rs.length rcap) rs.length (rgCells gl rs)) := Lib.hid (World.ownsRow.alloc HOW1.out _)
          have HNW := Lib.hid (World.news_of_block (w := (W.alloc (.cells #[.int .i64 t0, .slice (some ⟨gl, f * 2, none⟩) (k + 1 - f) (k + 1 - f)] 42)).drew) (heap_alloc_new W _))
          have H1C : Hid (∀ u ∈ ([.int .i64 t0, .slice (some ⟨gl, f * 2, none⟩) (k + 1 - f) (k + 1 - f)] : List Value), u.oneCell' = true) := Lib.hid (by intro u hu; simp at hu; rcases hu with rfl | rfl <;> rfl)
          go_region_law ((refine step_append_lies _ (by rfl) (.tmp 41) (.tmp 58) 24 (by rfl) w.heap.size 42 i0 _ 2 32 Try.underlying24 hi0 hz0 hz1 hz2 rfl (by decide) (.slice RA rs.length rcap) rs.length (rgCells gl rs) (by rfl) HOA.out ⟨W.heap.size, 0, none⟩ 1 1 [.int .i64 t0, .slice (some ⟨gl, f * 2, none⟩) (k + 1 - f) (k + 1 - f)] (by rfl) rfl HNW.out H1C.out (by omega) (by unfold maxLen; omega) (by omega) (by simp; omega) _ rfl ?_; intro g3 cap3 w4 hown3 hgrow3 hat3 hlt3))
          all_goals
            have HO3 : Hid (w4.ownsRow w.heap.size 42 2 (.slice (some ⟨g3, 0, none⟩) (rs.length + 1) cap3) (rs ++ [(t0, f, k + 1)]).length (rgCells gl (rs ++ [(t0, f, k + 1)]))) := Lib.hid (by rw [rgCells_snoc, List.length_append]; exact hown3)
            have HB3 : Hid (Below w.heap.size w w4) := Lib.hid (((HBW.out.alloc hsw _).drew).grown hgrow3 (by simp; omega) (fun q eq => own_base HOW1.out q eq))
            clear hown3 hgrow3 hat3 hlt3
            go_wp2_with fail
            go_roundg (d.length - (k + 1))
            case rel => exact ⟨k + 1, k + 1, rs ++ [(t0, f, k + 1)], by omega, by go_num, by go_num, Nat.le_refl _, Lib.hid (fun gl' e => by have e' := Option.some.inj e; injection e' with e'; subst e'; exact HO3.out), ⟨some ⟨g3, 0, none⟩, cap3, by rw [List.length_append]; rfl⟩, HC, HB3⟩
            case measure => omega
      · have hke : k + 1 = d.length := by omega
        have hn0 : ¬ (k : Int) + 1 < (d.length : Int) := by omega
        have hdn : decide ((k : Int) + 1 < (d.length : Int)) = false := decide_eq_false hn0
        have HC := Lib.hid (HG.out.cut hlt (fun q => absurd q hn))
        generalize d[k].1 = t0 at ck HC
        have hn2 : k + 1 ≤ d.length := by omega
        clear hcs hst hke hn
        go_quiet (fail)
        clear hdn hn0
        have hs1 : (f : Int) ≤ (k : Int) + 1 := by omega
        have hs2 : (k : Int) + 1 ≤ (vcap : Int) := by omega
        have hs3 : (0 : Int) ≤ (f : Int) := by omega
        have hs4 : ¬ k + 1 = f := by omega
        obtain ⟨W, hW⟩ : ∃ W, W = wr.drewN nq := ⟨_, rfl⟩
        have e0 : W.cell? ⟨db, 0, none⟩ = some (.slice (some ⟨gl, 0, none⟩) d.length vcap) := by rw [hW]; exact c0
        have e1 : W.cell? ⟨db, 1, none⟩ = some (.slice (some ⟨gs, 0, none⟩) d.length scap) := by rw [hW]; exact c1
        have ek : W.cell? ⟨gs, k, none⟩ = some (.int .i64 t0) := by rw [hW]; exact ck
        go_upto_region 8 with fail
        rw [← hW]
        have HOW1 : Hid (W.ownsRow w.heap.size 42 2 (.slice RA rs.length rcap) rs.length (rgCells gl rs)) := Lib.hid (by rw [hW]; exact own_below HOW.out (drawn_below wr _))
        have HBW : Hid (Below w.heap.size w W) := Lib.hid (by rw [hW]; exact HB.out.trans ((drawn_below wr _).mono HB.out.size))
        have hsw : w.heap.size ≤ W.heap.size := HBW.out.size
        clear hW c0 c1 ck
        have HOA : Hid ((W.alloc (.cells #[.int .i64 t0, .slice (some ⟨gl, f * 2, none⟩) (k + 1 - f) (k + 1 - f)] 42)).drew.ownsRow w.heap.size 42 2 (.slice RA rs.length rcap) rs.length (rgCells gl rs)) := Lib.hid (World.ownsRow.alloc HOW1.out _)
        have HNW := Lib.hid (World.news_of_block (w := (W.alloc (.cells #[.int .i64 t0, .slice (some ⟨gl, f * 2, none⟩) (k + 1 - f) (k + 1 - f)] 42)).drew) (heap_alloc_new W _))
        have H1C : Hid (∀ u ∈ ([.int .i64 t0, .slice (some ⟨gl, f * 2, none⟩) (k + 1 - f) (k + 1 - f)] : List Value), u.oneCell' = true) := Lib.hid (by intro u hu; simp at hu; rcases hu with rfl | rfl <;> rfl)
        go_region_law ((refine step_append_lies _ (by rfl) (.tmp 41) (.tmp 58) 24 (by rfl) w.heap.size 42 i0 _ 2 32 Try.underlying24 hi0 hz0 hz1 hz2 rfl (by decide) (.slice RA rs.length rcap) rs.length (rgCells gl rs) (by rfl) HOA.out ⟨W.heap.size, 0, none⟩ 1 1 [.int .i64 t0, .slice (some ⟨gl, f * 2, none⟩) (k + 1 - f) (k + 1 - f)] (by rfl) rfl HNW.out H1C.out (by omega) (by unfold maxLen; omega) (by omega) (by simp; omega) _ rfl ?_; intro g3 cap3 w4 hown3 hgrow3 hat3 hlt3))
        all_goals
          have HO3 : Hid (w4.ownsRow w.heap.size 42 2 (.slice (some ⟨g3, 0, none⟩) (rs.length + 1) cap3) (rs ++ [(t0, f, k + 1)]).length (rgCells gl (rs ++ [(t0, f, k + 1)]))) := Lib.hid (by rw [rgCells_snoc, List.length_append]; exact hown3)
          have HB3 : Hid (Below w.heap.size w w4) := Lib.hid (((HBW.out.alloc hsw _).drew).grown hgrow3 (by simp; omega) (fun q eq => own_base HOW1.out q eq))
          clear hown3 hgrow3 hat3 hlt3
          go_wp2_with fail
          go_roundg (d.length - (k + 1))
          case rel => exact ⟨k + 1, k + 1, rs ++ [(t0, f, k + 1)], by omega, by go_num, by go_num, Nat.le_refl _, Lib.hid (fun gl' e => by have e' := Option.some.inj e; injection e' with e'; subst e'; exact HO3.out), ⟨some ⟨g3, 0, none⟩, cap3, by rw [List.length_append]; rfl⟩, HC, HB3⟩
          case measure => omega
    · obtain rfl : k = d.length := by omega
      have hdn := HG.out.done
      have hf := HG.out.fin rfl
      subst hf
      have HRT : Hid (EdsIn base wr RA (grp d) ∧ rs.length = (grp d).length ∧ EdsFree wr RA (grp d)) := Lib.hid ⟨by
        by_cases hp : 0 < d.length
        · obtain ⟨gl, hgl, hgb, hglw, hlc⟩ := HVA.out hp
          rw [← hdn]
          refine eds_of_own (HO.out gl hgl) hbw hgb (Nat.lt_of_lt_of_le hglw HB.out.size) (fun j hj => ?_) HG.out.fit
          obtain ⟨q0, q1⟩ := lineCells_at _ j hj
          exact ⟨by rw [Nat.zero_add]; exact (HB.out.cell (p := ⟨gl, _, none⟩) hglw).trans (hlc _ _ q0), by rw [Nat.zero_add]; exact (HB.out.cell (p := ⟨gl, _, none⟩) hglw).trans (hlc _ _ q1)⟩
        · intro h0
          have := HG.out.few
          rw [← hdn, List.length_map] at h0
          omega, by rw [← hdn, List.length_map], by
        by_cases hp : 0 < d.length
        · obtain ⟨gl, hgl, hgb, hglw, hlc⟩ := HVA.out hp
          rw [← hdn]
          refine free_of_own (HO.out gl hgl) (fun o => ?_)
          have hl := HD.out.l
          rw [hgl, List.length_map] at hl
          exact (HB.out.frozen (p := ⟨gl, o, none⟩) hglw).trans (World.ownsRow.frozenAt hl o)
        · intro bk off _ j hj
          have := HG.out.few
          rw [← hdn, List.length_map] at hj
          omega⟩
      clear hdn
      go_wp2_with fail
      go_ret
      exact ⟨RA, rcap, by rw [HRT.out.2.1]; rfl, HRT.out.1, HB.out, HRT.out.2.2⟩
set_option maxRecDepth 100000 in
set_option maxHeartbeats 4000000 in
theorem normal_free (A : Option Addr) (c b : Nat) (es : List Ed) (w : World) (hE : EdsIn b w A es) (hok : EdsOk es) (hc : ck es = 0) :
    Calls Try.prog 25 #[.slice A es.length c] w (NfEnd w (norm es) 0) := by
  have HC := Lib.hid (check_any A c b es w hE hok)
  rw [hc] at HC
  obtain ⟨hel, htl, hd3⟩ := ck_ok hc
  have HE := Lib.hid hE
  have HD3 := Lib.hid hd3
  clear hE hok hc hd3
  go_enter Try.func25, Try.ntmps25
  go_wp2_with fail
  with_reducible refine (HC.out).mono ?_
  rintro e w1 ⟨rfl, hb1⟩
  have HB1 := Lib.hid hb1
  clear hb1
  go_upto_region 5 with fail
  obtain ⟨W0, hW0⟩ : ∃ W : World, W = w1.alloc (.cells #[.slice none 0 0, .slice none 0 0] 55) := ⟨_, rfl⟩
  rw [← hW0]
  have HN0 : Hid (Nw w W0 w1.heap.size w1.heap.size (.slice none 0 0) (.slice none 0 0) (.slice none 0 0) (.slice none 0 0) ⟨[], [], []⟩) := Lib.hid (by
    have hs := HB1.out.size
    refine ⟨⟨Nat.le_refl _, by rw [hW0]; exact heap_alloc_new w1 _, World.ownsRow_nil _ _ _ _, World.ownsRow_nil _ _ _ _⟩, World.ownsRow_nil _ _ _ _, World.ownsRow_nil _ _ _ _, Apart.nil _, Apart.nil _, Apart.nil _, ?_, hs⟩
    rw [hW0]; exact HB1.out.trans ((alloc1 _ _).mono hs))
  obtain ⟨db, hdb⟩ : ∃ n, n = w1.heap.size := ⟨_, rfl⟩
  rw [← hdb] at HN0 ⊢
  have hbs : db ≤ W0.heap.size := by rw [hdb, hW0]; simp
  clear hW0 hdb HB1 HC
  go_wp2_with fail
  go_loopg [6, 7, 17] es.length (fun m vo vi iv wr => ∃ (k : Nat) (vl vs : Value) (t : Nst), k ≤ es.length ∧ iv = .int .i64 k ∧ es.length - k ≤ m ∧ Hid (t = nsts (es.take k)) ∧ Hid (Nw w wr db db vl vs vo vi t) ∧ db ≤ wr.heap.size)
  case atStart => exact ⟨0, _, _, _, Nat.zero_le _, rfl, by omega, Lib.hid rfl, HN0, hbs⟩
  case round =>
    clear HN0 hbs
    obtain ⟨k, vl, vs, ⟨td, tu, ti⟩, hk, rfl, hmm, HT, HN, hbr⟩ := hrel
    obtain ⟨oA, ocap, rfl, hoc, -⟩ := own_form HN.out.o
    obtain ⟨iA, icap, rfl, hic, -⟩ := own_form HN.out.i
    have hnl : td.length + tu.length + ti.length ≤ tl es := by
      have h1 := nsts_len (es.take k)
      rw [← HT.out] at h1
      have h2 := tl_le es k
      simp only [nlen] at h1
      omega
    simp only at hoc hic
    have hol : (Nst.mk td tu ti).o.length = tu.length := rfl
    have hil : (Nst.mk td tu ti).i.length = ti.length := rfl
    rw [hol, hil] at *
    clear hol hil
    by_cases hlt : k < es.length
    · obtain ⟨bk, off, hAe, -, hbk, hI⟩ := HE.out (by omega)
      subst hAe
      obtain ⟨LA, lc, g0, g1, g2, -, g4, -⟩ := hI k hlt
      have c0 := (HN.out.b.cell (p := ⟨bk, off + k * 2, none⟩) hbk).trans g0
      have c1 := (HN.out.b.cell (p := ⟨bk, off + k * 2 + 1, none⟩) hbk).trans g1
      have HLI := Lib.hid (g2.below HN.out.b)
      have HLF : Hid (0 < es[k].2.length → ∀ p, LA = some p → p.block < w.heap.size) := Lib.hid (fun h p hp => by
        obtain ⟨q, o', e', hq, -⟩ := g2 h
        rw [e'] at hp; injection hp with hp; rw [← hp]; exact hq)
      have HLN := Lib.hid g4
      have HNS : Hid (nsts (es.take (k + 1)) = nst ⟨td, tu, ti⟩ es[k]) := Lib.hid (by rw [nsts_take hlt, ← HT.out])
      have hel2 := tl_take hlt
      have hel3 := tl_le es (k + 1)
      have hel4 : td.length + tu.length + ti.length + es[k].2.length ≤ 800 := by
        have h1 := nsts_len (es.take k)
        rw [← HT.out] at h1
        simp only [nlen] at h1
        omega
      have H3 := HD3.out _ (List.getElem_mem hlt)
      clear hel2 hel3
      generalize es[k] = e at *
      obtain ⟨d, l⟩ := e
      simp only at c0 c1 hel4 H3 HLI HLF HLN
      obtain ⟨W1, hW1⟩ : ∃ W : World, W = wr.alloc (.cells #[.int .i64 d, .slice LA l.length lc] 42) := ⟨_, rfl⟩
      have hX := heap_alloc_new wr (.cells #[.int .i64 d, .slice LA l.length lc] 42)
      rw [← hW1] at hX
      have x0 := L.blk_cell hX 0
      have x1 := L.blk_cell hX 1
      simp only [List.getElem?_toArray, List.getElem?_cons_zero, List.getElem?_cons_succ] at x0 x1
      have HX := Lib.hid hX
      have HL0 : Hid (LinesIn w LA l) := Lib.hid g2
      have hbel : Below wr.heap.size wr W1 := by rw [hW1]; exact alloc1 _ _
      have HN1 := Lib.hid (HN.out.below hbel)
      have HL1 := Lib.hid (HLI.out.below hbel)
      have hbr1 : db ≤ W1.heap.size := Nat.le_trans hbr hbel.size
      have h0k : (0 : Int) ≤ (k : Int) := by omega
      have hki : (k : Int) < (es.length : Int) := by omega
      clear hI g0 g1 g2 g4 hX hbel HN HLI HT
      rcases H3 with rfl | rfl | rfl
      · have HLG : Hid (∀ p, LA = some p → 0 < l.length → p.block < w.heap.size) := Lib.hid (fun p hp h => HLF.out h p hp)
        obtain ⟨n, hn⟩ : ∃ n, n = l.length := ⟨_, rfl⟩
        have HLE := Lib.hid hn
        by_cases hl0 : l.length = 0
        · have hz : ¬ 0 < l.length := by omega
          have hl1 : decide (0 < l.length) = false := decide_eq_false hz
          have hln : l = [] := List.length_eq_zero_iff.1 hl0
          clear hl0 hn
          have HNT : Hid (nst ⟨td, tu, ti⟩ (1, l) = ⟨td, tu, ti⟩) := Lib.hid (by simp [nst, hln])
          clear hln
          go_upto_region 9 with fail
          rw [← hW1]
          clear hW1
          go_wp2_with fail
          go_roundg (es.length - (k + 1))
          case rel => exact ⟨k + 1, vl, vs, _, by omega, by go_num, Nat.le_refl _, Lib.hid (by rw [HNS.out, HNT.out]), HN1, hbr1⟩
          case measure => omega
        · have hz : 0 < l.length := by omega
          have hl1 : decide (0 < l.length) = true := decide_eq_true hz
          have HNT : Hid (nst ⟨td, tu, ti⟩ (1, l) = ⟨td ++ tag 2 tu ++ tag 3 ti ++ tag 1 l, [], []⟩) := Lib.hid (by
            have hln : l ≠ [] := fun e => hl0 (by rw [e]; rfl)
            simp [nst, hln])
          clear hl0 hn
          go_upto_region 9 with fail
          rw [← hW1]
          obtain ⟨xb, hxb⟩ : ∃ xb, xb = wr.heap.size := ⟨_, rfl⟩
          rw [← hxb] at HX x0 x1 ⊢
          clear hW1 hxb
          go_wp2_with fail
          with_reducible refine (add_any db db vl vs (td.map (·.2)) (td.map (·.1)) 2 oA ocap tu W1 HN1.out.dn (own_lines HN1.out.o) HN1.out.far (by rw [List.length_map]; omega) (by rw [List.length_map]; omega) hbr1).mono ?_
          rintro e w2 ⟨rfl, vl2, vs2, hd2, hf2⟩
          have HN2 := Lib.hid (HN1.out.put (d' := td ++ tag 2 tu) (by rw [← map_tag1, ← map_tag2]; exact hd2) hf2)
          have HX2 := Lib.hid (HN1.out.box HX.out hf2)
          have hbr2 := Nat.le_trans hbr1 hf2.size
          clear hd2 hf2 x0 x1
          go_wp2_with fail
          with_reducible refine (add_any db db vl2 vs2 ((td ++ tag 2 tu).map (·.2)) ((td ++ tag 2 tu).map (·.1)) 3 iA icap ti w2 HN2.out.dn (own_lines HN2.out.i) HN2.out.turn.far (by rw [List.length_map, List.length_append, tag_len]; omega) (by rw [List.length_map, List.length_append, tag_len]; omega) hbr2).mono ?_
          rintro e w3 ⟨rfl, vl3, vs3, hd3, hf3⟩
          have HN3 := Lib.hid (HN2.out.put (d' := td ++ tag 2 tu ++ tag 3 ti) (by rw [← map_tag1, ← map_tag2]; exact hd3) hf3)
          have HX3 := Lib.hid (HN2.out.box HX2.out hf3)
          have hbr3 := Nat.le_trans hbr2 hf3.size
          clear hd3 hf3
          have x1 := L.blk_cell HX3.out 1
          simp only [List.getElem?_toArray, List.getElem?_cons_zero, List.getElem?_cons_succ] at x1
          go_wp2_with fail
          with_reducible refine (add_any db db vl3 vs3 ((td ++ tag 2 tu ++ tag 3 ti).map (·.2)) ((td ++ tag 2 tu ++ tag 3 ti).map (·.1)) 1 LA lc l w3 HN3.out.dn (HL0.out.below HN3.out.b) (HN3.out.far0 (fun p hp => HLG.out p hp hz)) (by rw [List.length_map, List.length_append, List.length_append, tag_len, tag_len]; omega) (by rw [List.length_map, List.length_append, List.length_append, tag_len, tag_len]; omega) hbr3).mono ?_
          rintro e w4 ⟨rfl, vl4, vs4, hd4, hf4⟩
          have HN4 := Lib.hid (HN3.out.put (d' := td ++ tag 2 tu ++ tag 3 ti ++ tag 1 l) (by rw [← map_tag1, ← map_tag2]; exact hd4) hf4)
          have hbr4 := Nat.le_trans hbr3 hf4.size
          clear hd4 hf4 x1
          go_wp2_with fail
          go_roundg (es.length - (k + 1))
          case rel => exact ⟨k + 1, vl4, vs4, _, by omega, by go_num, Nat.le_refl _, Lib.hid (by rw [HNS.out, HNT.out]), Lib.hid HN4.out.clear, hbr4⟩
          case measure => omega
      · go_upto_region 9 with fail
        rw [← hW1]
        clear hW1
        go_wp2_with (at_builtin; refine wpList_append_lines (w := W1) rfl (.tmp 25) (.tmp 27) rfl db (.slice oA tu.length ocap) tu l rfl HN1.out.o LA lc rfl HL1.out HLN.out (by omega) hbr1 ?_; intro v' w4 ho4 hg4 hat4; have HN4 := Lib.hid (HN1.out.addO hg4 ho4 hat4); have hbr4 := Nat.le_trans hbr1 hg4.size; clear ho4 hg4 hat4)
        go_roundg (es.length - (k + 1))
        case rel => exact ⟨k + 1, vl, vs, _, by omega, by go_num, Nat.le_refl _, Lib.hid (by rw [HNS.out]; rfl), HN4, hbr4⟩
        case measure => omega
      · go_upto_region 9 with fail
        rw [← hW1]
        clear hW1
        go_wp2_with (at_builtin; refine wpList_append_lines (w := W1) rfl (.tmp 33) (.tmp 35) rfl db (.slice iA ti.length icap) ti l rfl HN1.out.i LA lc rfl HL1.out HLN.out (by omega) hbr1 ?_; intro v' w4 ho4 hg4 hat4; have HN4 := Lib.hid ((HN1.out.turn.addO hg4 ho4 hat4).turn); have hbr4 := Nat.le_trans hbr1 hg4.size; clear ho4 hg4 hat4)
        go_roundg (es.length - (k + 1))
        case rel => exact ⟨k + 1, vl, vs, _, by omega, by go_num, Nat.le_refl _, Lib.hid (by rw [HNS.out]; rfl), HN4, hbr4⟩
        case measure => omega
    · obtain rfl : k = es.length := by omega
      rw [List.take_length] at HT
      go_wp2_with fail
      with_reducible refine (add_any db db vl vs (td.map (·.2)) (td.map (·.1)) 2 oA ocap tu wr HN.out.dn (own_lines HN.out.o) HN.out.far (by rw [List.length_map]; omega) (by rw [List.length_map]; omega) hbr).mono ?_
      rintro e w2 ⟨rfl, vl2, vs2, hd2, hf2⟩
      have HN2 := Lib.hid (HN.out.put (d' := td ++ tag 2 tu) (by rw [← map_tag1, ← map_tag2]; exact hd2) hf2)
      have hbr2 := Nat.le_trans hbr hf2.size
      clear hd2 hf2
      go_wp2_with fail
      with_reducible refine (add_any db db vl2 vs2 ((td ++ tag 2 tu).map (·.2)) ((td ++ tag 2 tu).map (·.1)) 3 iA icap ti w2 HN2.out.dn (own_lines HN2.out.i) HN2.out.turn.far (by rw [List.length_map, List.length_append, tag_len]; omega) (by rw [List.length_map, List.length_append, tag_len]; omega) hbr2).mono ?_
      rintro e w3 ⟨rfl, vl3, vs3, hd3, hf3⟩
      have HN3 := Lib.hid (HN2.out.put (d' := td ++ tag 2 tu ++ tag 3 ti) (by rw [← map_tag1, ← map_tag2]; exact hd3) hf3)
      have hbr3 := Nat.le_trans hbr2 hf3.size
      have HLD : Hid (laid es = td ++ tag 2 tu ++ tag 3 ti) := Lib.hid (by unfold laid; rw [← HT.out])
      clear hd3 hf3
      go_wp2_with fail
      with_reducible refine (edits_free db db vl3 vs3 (td ++ tag 2 tu ++ tag 3 ti) w3 HN3.out.dn (by simp only [List.length_append, tag_len]; omega) hbr3).mono ?_
      rintro e w4 ⟨RA, rcap, rfl, hR, hb4, hF⟩
      rw [← HLD.out] at hR hF ⊢
      have HF : Hid (EdsFree w4 RA (norm es)) := Lib.hid hF
      have HR : Hid (EdsIn w.heap.size w4 RA (norm es)) := Lib.hid (hR.low HN3.out.hb)
      have HB4 : Hid (Below w.heap.size w w4) := Lib.hid (HN3.out.b.trans (hb4.mono HN3.out.b.size))
      clear hR hb4 hF
      go_wp2_with fail
      go_ret2
      exact ⟨RA, rcap, rfl, HR.out, HB4.out, HF.out⟩

theorem normal_own (A : Option Addr) (c b : Nat) (es : List Ed) (w : World) (hE : EdsIn b w A es) (hok : EdsOk es) :
    Calls Try.prog 25 #[.slice A es.length c] w (NfEnd w (nrm es) (ck es)) := by
  unfold nrm
  by_cases hc : ck es = 0
  · rw [if_pos hc, hc]; exact normal_free A c b es w hE hok hc
  · rw [if_neg hc]
    exact (normal_bad A c b es w hE hok hc).mono fun e w' h => by
      obtain ⟨A, cap, h1, h2, h3⟩ := h
      exact ⟨A, cap, h1, h2, h3, fun _ _ _ j hj => by simp at hj⟩
/-- A script whose lines' texts are being written: its cells stand, each text is some text that may be written. -/
structure Ow (B : Nat) (w : World) (bk off : Nat) (rs : List Raw) : Prop where
  cells : ∀ j u, (rawCells rs)[j]? = some u → w.cell? ⟨bk, off + j, none⟩ = some u
  lines : ∀ j (h : j < rs.length) k, k < rs[j].n → ∃ lb lo, rs[j].A = some ⟨lb, lo, none⟩ ∧ B ≤ lb ∧ (∃ s, w.cell? ⟨lb, lo + k * 2, none⟩ = some (.string s)) ∧ w.frozen? ⟨lb, lo + k * 2, none⟩ = false
theorem rawCells_kind : ∀ (rs : List Raw) (u : Value), u ∈ rawCells rs → ∀ s, u ≠ .string s := fun rs u hu s e => by
  simp only [rawCells, List.mem_flatMap] at hu
  obtain ⟨r, _, hu⟩ := hu
  simp at hu
  rcases hu with rfl | rfl <;> cases e
theorem Ow.store {B : Nat} {w : World} {bk off : Nat} {rs : List Raw} (h : Ow B w bk off rs) {p : Addr} {s0 : ByteArray} (hp : w.cell? p = some (.string s0)) (s : ByteArray) : Ow B (w.setCell p (.string s)) bk off rs := by
  refine ⟨fun j u hu => ?_, fun j hj k hk => ?_⟩
  · have hc := h.cells j u hu
    by_cases e : p = ⟨bk, off + j, none⟩
    · rw [e, hc] at hp
      exact absurd (Option.some.inj hp) (rawCells_kind rs u (List.mem_of_getElem? hu) s0)
    · rw [World.cell?_setCell_other _ _ _ _ e]; exact hc
  · obtain ⟨lb, lo, h1, h2, ⟨s1, h3⟩, h4⟩ := h.lines j hj k hk
    refine ⟨lb, lo, h1, h2, ?_, by rw [World.frozen?_setCell]; exact h4⟩
    by_cases e : p = ⟨lb, lo + k * 2, none⟩
    · subst e
      exact ⟨s, World.cell?_setCell_same _ _ _ h3⟩
    · exact ⟨s1, by rw [World.cell?_setCell_other _ _ _ _ e]; exact h3⟩
theorem ow_of {B : Nat} {w : World} {A : Option Addr} {es : List Ed} (h : EdsIn B w A es) (hf : EdsFree w A es) (hp : 0 < es.length) : ∃ bk off rs, A = some ⟨bk, off, none⟩ ∧ rs.length = es.length ∧ Ow B w bk off rs := by
  obtain ⟨rs, hr, hc⟩ := eds_raws h
  obtain ⟨bk, off, hA, -, hbk, hcc⟩ := hc hp
  refine ⟨bk, off, rs, hA, hr.1, hcc, fun j hj k hk => ?_⟩
  have hje : j < es.length := by rw [← hr.1]; exact hj
  have ho := hr.2 j hj hje
  rw [ho.n] at hk
  obtain ⟨lb, lo, hLA, hlb, hI⟩ := ho.l (by omega)
  refine ⟨lb, lo, hLA, ho.b _ hLA, ⟨_, (hI k hk).1⟩, ?_⟩
  have hq := hcc _ _ (rawCells_at rs j hj).2
  rw [← Nat.add_assoc] at hq
  exact hf bk off hA j hje _ _ _ hq _ hLA _
end Go.Proofs.Ytcipecjbibpcbaa.S
