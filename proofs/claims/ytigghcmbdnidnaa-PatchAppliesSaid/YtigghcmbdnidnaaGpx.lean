/-
  Single: a script of many lines, line by line.
  The reference's Reverse.
  An argument that is hunks: how many lines they have, by its bulk.
-/
import Derived.Test.YtigghcmbdnidnaaGpq
import Derived.Test.YtigghcmbdnidnaaGps
import Derived.Deep.RegionHeldLaw
import Derived.Test.YtigghcmbdnidnaaGpw
import Derived.Test.YtigghcmbdnidnaaGpr
import Derived.Test.YtigghcmbdnidnaaGpo
import Derived.Test.YtigghcmbdnidnaaGpv
import Derived.Test.YtigghcmbdnidnaaGpp
namespace Go.Proofs.Ytigghcmbdnidnaa.Pa
set_option linter.unusedVariables false
set_option linter.unusedSimpArgs false
open Go.RowKit
open T S H
open V (grown_of)
open I (alloc1 own_at own_below)
open N (Ln)

set_option maxRecDepth 100000 in
set_option maxHeartbeats 8000000 in
theorem single_wide (A : Option Addr) (c : Nat) (es : List Ed) (w : World) (hE : EdsIn 0 w A es) (hn : es.length ≤ 2000000) (ht : tl es ≤ 2000000) :
    Calls Try.prog 22 #[.slice A es.length c] w fun e w' => ∃ SA cap rs, e = .returned (.slice SA rs.length cap) ∧ Gt w w' (.slice SA rs.length cap) rs (sgl es) := by
  obtain ⟨i0, hi0, hz0, hz1, hz2⟩ := info_parts infoEdit
  have HE := Lib.hid hE
  obtain ⟨W0, hW0⟩ : ∃ W : World, W = w.alloc (.cells #[] 54) := ⟨_, rfl⟩
  have HG0 : Hid (Gt w W0 (.slice (some ⟨w.heap.size, 0, none⟩) ([] : List Raw).length 0) [] []) := Lib.hid (by
    have hb : Below w.heap.size w W0 := by rw [hW0]; exact alloc1 _ _
    exact ⟨by rw [hW0]; exact World.ownsRow_made (size := 2) (e := 54) w #[] 0 (Nat.le_refl _) (by unfold maxLen; omega) rfl, World.ownsRow_nil _ _ _ _, World.ownsRow_nil _ _ _ _, World.ownsRow_nil _ _ _ _, Apart.nil _, Apart.nil _, Apart.nil _, ⟨rfl, fun j h => by simp at h⟩, fun r hr => by simp at hr, hb, Nat.le_refl _, hb.size⟩)
  clear hE
  go_enter Try.func22, Try.ntmps22
  go_upto_region 2 with fail
  rw [← hW0]
  obtain ⟨ob, hob⟩ : ∃ ob, ob = w.heap.size := ⟨_, rfl⟩
  have HG0 : Hid (Gt w W0 (.slice (some ⟨ob, 0, none⟩) ([] : List Raw).length 0) [] []) := by rw [hob]; exact HG0
  rw [← hob]
  clear hW0 hob
  go_wp2_with fail
  go_loopg [4, 3] es.length (fun m iv sv wr => ∃ (k : Nat) (SA : Option Addr) (cap : Nat) (rs : List Raw), k ≤ es.length ∧ iv = .int .i64 k ∧ sv = .slice SA rs.length cap ∧ es.length - k ≤ m ∧ Hid (Gt w wr (.slice SA rs.length cap) rs (sgl (es.take k))))
  case atStart => exact ⟨0, _, _, [], Nat.zero_le _, rfl, rfl, by omega, HG0⟩
  case round =>
    clear HG0
    obtain ⟨k, SA, cap, rs, hk, rfl, rfl, hmm, HG⟩ := hrel
    by_cases hlt : k < es.length
    · have h0k : (0 : Int) ≤ (k : Int) := by omega
      have hki : (k : Int) < (es.length : Int) := by omega
      have HST := Lib.hid (sgl_take hlt)
      have hll : es[k].2.length ≤ 2000000 := by have := tl_take hlt; have := tl_le es (k + 1); omega
      have hpl := sgl_le es k
      obtain ⟨bk, off, LA, lc, hAe, hcell, hln, -⟩ := edit_in HE.out hlt
      subst hAe
      have HCE := Lib.hid hcell
      have HLN := Lib.hid hln
      clear hcell hln
      generalize hpre : sgl (es.take k) = pre at *
      clear hpre
      generalize es[k] = ed at *
      obtain ⟨d, l⟩ := ed
      simp only at HST HCE HLN hll
      go_wp2_with fail
      go_loopg [5, 3] l.length (fun m jv sv wx => ∃ (j : Nat) (SA : Option Addr) (cap : Nat) (rs : List Raw), j ≤ l.length ∧ jv = .int .i64 j ∧ sv = .slice SA rs.length cap ∧ l.length - j ≤ m ∧ Hid (Gt w wx (.slice SA rs.length cap) rs (pre ++ (tag d (l.take j)).map sng)))
      case atStart => exact ⟨0, SA, cap, rs, Nat.zero_le _, rfl, rfl, by omega, Lib.hid (by simpa [tag] using HG.out)⟩
      case round =>
        clear HG
        obtain ⟨j, SA, cap, rs, hj, rfl, rfl, hmj, HG⟩ := hrel
        obtain ⟨c0, c1⟩ := HCE.out wr HG.out.b
        by_cases hjt : j < l.length
        · have h0j : (0 : Int) ≤ (j : Int) := by omega
          have hji : (j : Int) < (l.length : Int) := by omega
          obtain ⟨lb, lo, hLe, hlb, hI⟩ := HLN.out (by omega)
          subst hLe
          obtain ⟨g0, g1⟩ := hI j hjt
          have HTT := Lib.hid (tag_take (s := d) hjt)
          have hrn : rs.length ≤ 5000000 := by
            have := HG.out.r.1
            rw [List.length_append, List.length_map, tag_len, List.length_take] at this
            omega
          have hbk : bk < w.heap.size := World.block_lt_of_cell? w _ (HCE.out w (Below.refl _ _)).1
          generalize l[j] = y at *
          obtain ⟨tx, ba⟩ := y
          simp only at g0 g1
          obtain ⟨s, hs⟩ : ∃ s : ByteArray, s = ⟨tx.toArray⟩ := ⟨_, rfl⟩
          rw [← hs] at g0
          have HS := Lib.hid hs
          have hSX : ∀ wz, Kx wr (.slice SA rs.length cap) wz → wz.cell? ⟨bk, off + k * 2, none⟩ = some (.int .i64 d) ∧ wz.cell? ⟨bk, off + k * 2 + 1, none⟩ = some (.slice (some ⟨lb, lo, none⟩) l.length lc) ∧ wz.cell? ⟨lb, lo + j * 2, none⟩ = some (.string s) ∧ wz.cell? ⟨lb, lo + j * 2 + 1, none⟩ = some (.bool ba) ∧ Kx wr (.slice SA rs.length cap) wz := fun wz hz => by
            have hb : Below w.heap.size w wz := HG.out.b.grown hz.g HG.out.b.size (fun q e => own_base HG.out.o q e)
            obtain ⟨e0, e1⟩ := HCE.out wz hb
            exact ⟨e0, e1, (hb.cell (p := ⟨lb, _, none⟩) hlb).trans g0, (hb.cell (p := ⟨lb, _, none⟩) hlb).trans g1, hz⟩
          have HSX := Lib.hid hSX
          have HAD : Hid (∀ (w5 w6 : World) (x g6 cap6 : Nat), Below wr.heap.size wr w5 → w5.heap[x]? = some (.cells #[.string s, .bool ba] 59 (0, 0)) → wr.heap.size ≤ x → w6.ownsRow w.heap.size 54 2 (.slice (some ⟨g6, 0, none⟩) (rs.length + 1) cap6) (rs.length + 1) (rawCells rs ++ [.int .i64 d, .slice (some ⟨x, 0, none⟩) 1 1]) → w5.grownBy w6 (Value.slice SA rs.length cap).ownBlock → ((Value.slice SA rs.length cap).ownBlock = some g6 ∨ g6 = w5.heap.size) → Gt w w6 (.slice (some ⟨g6, 0, none⟩) (rs ++ [Raw.mk d (some ⟨x, 0, none⟩) 1 1]).length cap6) (rs ++ [Raw.mk d (some ⟨x, 0, none⟩) 1 1]) (pre ++ (tag d (l.take (j + 1))).map sng)) := Lib.hid (fun w5 w6 x g6 cap6 hb5 hx hwx ho6 hg6 hat => by
            rw [HTT.out, ← List.append_assoc]
            refine HG.out.addO hb5 hg6 (by rw [List.length_append, rawCells_app]; exact ho6) (by
              rcases hat with h | h
              · exact .inl (by rw [h]; rfl)
              · exact .inr (by rw [h]; rfl)) ⟨rfl, rfl, lines_ones (x := (tx, ba)) (by rw [hx, HS.out]), Nat.le_refl _, (fun e => by cases e), fun _ _ => Nat.zero_le _⟩ (fun p hp => ?_)
            obtain rfl := Option.some.inj hp
            exact ⟨hwx, L.blk_lt hx⟩)
          have HGO := Lib.hid (HG.out.o)
          have hsw : w.heap.size ≤ wr.heap.size := HG.out.hs
          clear hI g0 g1 hs hSX HG hpl
          go_upto_region 8 with fail
          clear c0 c1
          refine wp_region_held_drew (S := fun wz => wz.cell? ⟨bk, off + k * 2, none⟩ = some (.int .i64 d) ∧ wz.cell? ⟨bk, off + k * 2 + 1, none⟩ = some (.slice (some ⟨lb, lo, none⟩) l.length lc) ∧ wz.cell? ⟨lb, lo + j * 2, none⟩ = some (.string s) ∧ wz.cell? ⟨lb, lo + j * 2 + 1, none⟩ = some (.bool ba) ∧ Kx wr (.slice SA rs.length cap) wz) (by kernel_rfl) (HSX.out _ ⟨grown_of ((Below.refl _ _).drew) _⟩) (fun hH0 => ?_)
          have HBA := Lib.hid ((Below.refl wr.heap.size wr).drew)
          generalize wr.drew = wA at *
          refine wpAnyH_take (i := 0) (v := ?_) rfl (by kernel_rfl) (by kernel_rfl) (by kernel_rfl) (fun _ _ _ h => h) (Or.inl ⟨by rfl, ?_⟩) hH0 ?_
          rotate_left
          · (intro wz hSz; (try dsimp only at hSz); go_simp; try with_reducible rfl)
          try simp only [Act.put, List.setIfInBounds_toArray, List.set_cons_zero, List.set_cons_succ]
          refine wpAnyH_take (i := 1) (v := ?_) rfl (by kernel_rfl) (by kernel_rfl) (by kernel_rfl) (fun _ _ _ h => h) (Or.inl ⟨by rfl, ?_⟩) hH0 ?_
          rotate_left
          · (intro wz hSz; (try dsimp only at hSz); go_simp; try with_reducible rfl)
          try simp only [Act.put, List.setIfInBounds_toArray, List.set_cons_zero, List.set_cons_succ]
          refine wpAnyH_take (i := 2) (v := ?_) rfl (by kernel_rfl) (by kernel_rfl) (by kernel_rfl) (fun _ _ _ h => h) (Or.inl ⟨by rfl, ?_⟩) hH0 ?_
          rotate_left
          · (intro wz hSz; (try dsimp only at hSz); go_simp; try with_reducible rfl)
          try simp only [Act.put, List.setIfInBounds_toArray, List.set_cons_zero, List.set_cons_succ]
          refine wpAnyH_take (i := 3) (v := ?_) rfl (by kernel_rfl) (by kernel_rfl) (by kernel_rfl) (fun _ _ _ h => h) (Or.inl ⟨by rfl, ?_⟩) hH0 ?_
          rotate_left
          · (intro wz hSz; (try dsimp only at hSz); go_simp; try with_reducible rfl)
          try simp only [Act.put, List.setIfInBounds_toArray, List.set_cons_zero, List.set_cons_succ]
          refine wpAnyH_take (i := 4) (v := ?_) rfl (by kernel_rfl) (by kernel_rfl) (by kernel_rfl) (fun _ _ _ h => h) (Or.inl ⟨by rfl, ?_⟩) hH0 ?_
          rotate_left
          · (intro wz hSz; (try dsimp only at hSz); go_simp; try with_reducible rfl)
          try simp only [Act.put, List.setIfInBounds_toArray, List.set_cons_zero, List.set_cons_succ]
          refine wpAnyH_take (i := 5) (v := ?_) rfl (by kernel_rfl) (by kernel_rfl) (by kernel_rfl) (fun _ _ _ h => h) (Or.inl ⟨by rfl, ?_⟩) hH0 ?_
          rotate_left
          · (intro wz hSz; (try dsimp only at hSz); go_simp; try with_reducible rfl)
          try simp only [Act.put, List.setIfInBounds_toArray, List.set_cons_zero, List.set_cons_succ]
          refine wpAnyH_take (i := 6) (v := ?_) rfl (by kernel_rfl) (by kernel_rfl) (by kernel_rfl) (fun _ _ _ h => h) (Or.inl ⟨by rfl, ?_⟩) hH0 ?_
          rotate_left
          · (intro wz hSz; (try dsimp only at hSz); go_simp; try with_reducible rfl)
          try simp only [Act.put, List.setIfInBounds_toArray, List.set_cons_zero, List.set_cons_succ]
          refine wpAnyH_take (i := 7) (v := ?_) rfl (by kernel_rfl) (by kernel_rfl) (by kernel_rfl) (fun _ _ _ h => h) (Or.inl ⟨by rfl, ?_⟩) hH0 ?_
          rotate_left
          · (intro wz hSz; (try dsimp only at hSz); go_simp; try with_reducible rfl)
          try simp only [Act.put, List.setIfInBounds_toArray, List.set_cons_zero, List.set_cons_succ]
          refine wpAnyH_take (i := 8) (v := ?_) rfl (by kernel_rfl) (by kernel_rfl) (by kernel_rfl) (fun _ _ _ h => h) (Or.inl ⟨by rfl, ?_⟩) hH0 ?_
          rotate_left
          · (intro wz hSz; (try dsimp only at hSz); go_simp; try with_reducible rfl)
          try simp only [Act.put, List.setIfInBounds_toArray, List.set_cons_zero, List.set_cons_succ]
          refine wpAnyH_take (i := 9) (v := ?_) rfl (by kernel_rfl) (by kernel_rfl) (by kernel_rfl) (fun _ _ _ h => h) (Or.inl ⟨by rfl, ?_⟩) hH0 ?_
          rotate_left
          · (intro wz hSz; (try dsimp only at hSz); go_simp; try with_reducible rfl)
          try simp only [Act.put, List.setIfInBounds_toArray, List.set_cons_zero, List.set_cons_succ]
          refine wpAnyH_take (i := 10) (v := ?_) rfl (by kernel_rfl) (by kernel_rfl) (by kernel_rfl) (fun _ _ _ h => h) (Or.inl ⟨by rfl, ?_⟩) hH0 ?_
          rotate_left
          · (intro wz hSz; (try dsimp only at hSz); go_simp; try with_reducible rfl)
          try simp only [Act.put, List.setIfInBounds_toArray, List.set_cons_zero, List.set_cons_succ]
          refine wpAnyH_take (i := 11) (v := ?_) rfl (by kernel_rfl) (by kernel_rfl) (by kernel_rfl) (fun _ _ _ h => h) (Or.inl ⟨by rfl, ?_⟩) hH0 ?_
          rotate_left
          · (intro wz hSz; (try dsimp only at hSz); go_simp; try with_reducible rfl)
          try simp only [Act.put, List.setIfInBounds_toArray, List.set_cons_zero, List.set_cons_succ]
          refine wpAnyH_take (i := 12) (v := ?_) rfl (by kernel_rfl) (by kernel_rfl) (by kernel_rfl) (fun _ _ _ h => h) (Or.inl ⟨by rfl, ?_⟩) hH0 ?_
          rotate_left
          · (intro wz hSz; (try dsimp only at hSz); go_simp; try with_reducible rfl)
          try simp only [Act.put, List.setIfInBounds_toArray, List.set_cons_zero, List.set_cons_succ]
          refine wpAnyH_take (i := 13) (v := ?_) rfl (by kernel_rfl) (by kernel_rfl) (by kernel_rfl) (fun _ _ _ h => h) (Or.inl ⟨by rfl, ?_⟩) hH0 ?_
          rotate_left
          · (intro wz hSz; (try dsimp only at hSz); go_simp; try with_reducible rfl)
          try simp only [Act.put, List.setIfInBounds_toArray, List.set_cons_zero, List.set_cons_succ]
          refine wpAnyH_ready (rs := [14]) (by kernel_rfl) (by simp) ?_
          refine AllReadyH.cons rfl (fun K hK => ?_) AllReadyH.nil
          go_simp
          refine hK.out _ _ (HSX.out _ (hH0.2.2.2.2.below (alloc1 wA _))) (fun hH1 => ?_)
          have hx4 := heap_alloc_new wA (.cells #[.string s, .bool ba] 59)
          have HB4 := Lib.hid (HBA.out.trans ((alloc1 wA (.cells #[.string s, .bool ba] 59)).mono HBA.out.size))
          have hwx : wr.heap.size ≤ wA.heap.size := HBA.out.size
          clear hK K hH0 HBA
          generalize wA.alloc (.cells #[.string s, .bool ba] 59) = w4 at *
          generalize wA.heap.size = xb at *
          have HX4 := Lib.hid hx4
          clear hx4
          try simp only [Act.put, List.setIfInBounds_toArray, List.set_cons_zero, List.set_cons_succ]
          refine wpAnyH_take (i := 15) (v := ?_) rfl (by kernel_rfl) (by kernel_rfl) (by kernel_rfl) (fun _ _ _ h => h) (Or.inl ⟨by rfl, ?_⟩) hH1 ?_
          rotate_left
          · (intro wz hSz; (try dsimp only at hSz); go_simp; try with_reducible rfl)
          try simp only [Act.put, List.setIfInBounds_toArray, List.set_cons_zero, List.set_cons_succ]
          refine wpAnyH_ready (rs := [16]) (by kernel_rfl) (by simp) ?_
          refine AllReadyH.cons rfl (fun K hK => ?_) AllReadyH.nil
          go_simp
          refine hK.out _ _ (HSX.out _ (hH1.2.2.2.2.below (alloc1 w4 _))) (fun hH2 => ?_)
          have HNW := Lib.hid (World.news_of_block (heap_alloc_new w4 (.cells #[.int .i64 d, .slice (some ⟨xb, 0, none⟩) 1 1] 54)))
          have HB5 := Lib.hid (HB4.out.trans ((alloc1 w4 (.cells #[.int .i64 d, .slice (some ⟨xb, 0, none⟩) 1 1] 54)).mono HB4.out.size))
          have HX5 := Lib.hid (((alloc1 w4 (.cells #[.int .i64 d, .slice (some ⟨xb, 0, none⟩) 1 1] 54)).block _ (L.blk_lt HX4.out)).trans HX4.out)
          have H1C : Hid (∀ u ∈ ([.int .i64 d, .slice (some ⟨xb, 0, none⟩) 1 1] : List Value), u.oneCell' = true) := Lib.hid (by intro u hu; simp at hu; rcases hu with rfl | rfl <;> rfl)
          clear hK K hH1 HB4 HX4
          generalize w4.alloc (.cells #[.int .i64 d, .slice (some ⟨xb, 0, none⟩) 1 1] 54) = w5 at *
          generalize w4.heap.size = hb5 at *
          have HV5 := Lib.hid (own_below HGO.out HB5.out)
          have hsz : w.heap.size ≤ w5.heap.size := Nat.le_trans hsw HB5.out.size
          try simp only [Act.put, List.setIfInBounds_toArray, List.set_cons_zero, List.set_cons_succ]
          refine wpAnyH_ready (rs := [17]) (by kernel_rfl) (by simp) ?_
          refine AllReadyH.cons rfl (fun K hK => ?_) AllReadyH.nil
          refine step_append_lies _ (by rfl) (.tmp 23) (.tmp 39) 40 (by rfl) w.heap.size 54 i0 _ 2 32 Try.underlying40 hi0 hz0 hz1 hz2 rfl (by decide) (.slice SA rs.length cap) rs.length (rawCells rs) (by rfl) HV5.out ⟨hb5, 0, none⟩ 1 1 [.int .i64 d, .slice (some ⟨xb, 0, none⟩) 1 1] (by rfl) rfl HNW.out H1C.out (by omega) (by unfold maxLen; omega) (by omega) (by omega) _ rfl ?_
          intro g6 cap6 w6 hown6 hg6 hat6 hlt6
          refine hK.out _ _ (HSX.out _ ⟨(grown_of HB5.out _).trans hg6⟩) (fun hH3 => ?_)
          have HFG := Lib.hid (HAD.out w5 w6 xb g6 cap6 HB5.out HX5.out hwx hown6 hg6 hat6)
          clear hK K hH2 HV5 HNW H1C hsz hown6 hg6 hat6 HB5 HX5
          try simp only [Act.put, List.setIfInBounds_toArray, List.set_cons_zero, List.set_cons_succ]
          refine wpAnyH_take (i := 18) (v := ?_) rfl (by kernel_rfl) (by kernel_rfl) (by kernel_rfl) (fun _ _ _ h => h) (Or.inl ⟨by rfl, ?_⟩) hH3 ?_
          rotate_left
          · (intro wz hSz; (try dsimp only at hSz); go_simp; try with_reducible rfl)
          try simp only [Act.put, List.setIfInBounds_toArray, List.set_cons_zero, List.set_cons_succ]
          refine wpAnyH_done (by kernel_rfl) ?_ _
          clear hH3
          go_wp2_with fail
          go_roundg (l.length - (j + 1))
          case rel => exact ⟨j + 1, some ⟨g6, 0, none⟩, cap6, rs ++ [⟨d, some ⟨xb, 0, none⟩, 1, 1⟩], by omega, by go_num, by rw [List.length_append]; rfl, Nat.le_refl _, HFG⟩
          case measure => omega
        · obtain rfl : j = l.length := by omega
          have HGE : Hid (Gt w wr (.slice SA rs.length cap) rs (sgl (es.take (k + 1)))) := Lib.hid (by rw [HST.out]; have := HG.out; rwa [List.take_length] at this)
          clear HG
          go_wp2_with fail
          go_roundg (es.length - (k + 1))
          case rel => exact ⟨k + 1, SA, cap, rs, by omega, by go_num, rfl, Nat.le_refl _, HGE⟩
          case measure => omega
    · obtain rfl : k = es.length := by omega
      rw [List.take_length] at HG
      go_wp2_with fail
      go_ret
      exact ⟨SA, cap, rs, rfl, HG.out⟩
/-- The reference's Single, its edits to be read. -/
def SgC (es L : List Ed) : Prop := ∀ (w : World) (A : Option Addr) (c : Nat), EdsIn 0 w A es → Calls Try.prog 22 #[.slice A es.length c] w (JnEnd w L)
theorem SgC.at {es L : List Ed} (h : SgC es L) {w : World} {A : Option Addr} (c : Nat) (hE : EdsIn 0 w A es) : Calls Try.prog 22 #[.slice A es.length c] w (JnEnd w L) := h w A c hE
theorem c_single {es : List Ed} (hn : es.length ≤ 2000000) (ht : tl es ≤ 2000000) : SgC es (sgl es) := fun w A c hE => (single_wide A c es w hE hn ht).mono fun e w' ⟨SA, cap, rs, he, hg⟩ => by
  have hl := hg.r.1
  have ho := hg.o
  rw [hl] at ho he
  exact ⟨SA, cap, he, raws_eds ho hg.r (Nat.zero_le _), hg.b⟩
end Go.Proofs.Ytigghcmbdnidnaa.Pa

namespace Go.Proofs.Ytigghcmbdnidnaa.Pa
set_option linter.unusedVariables false
set_option linter.unusedSimpArgs false
open Go.RowKit
open T S H
open V (grown_of drawn_below)
open I (alloc1 own_at own_below)
open N (Ln)

set_option maxRecDepth 100000 in
set_option maxHeartbeats 4000000 in
theorem rreverse_any (A : Option Addr) (c : Nat) (hs : List Hk) (w : World) (hH : HksIn 0 w A hs) (hok : HksOk hs) :
    Calls Try.prog 20 #[.slice A hs.length c] w (HnEnd w (rev hs).1 (rev hs).2) := by
  obtain ⟨j0, hj0, hy0, hy1, hy2⟩ := info_parts infoHunk
  have HCK := Lib.hid (rhcheck_any A c 0 hs w hH hok)
  by_cases hk : hck hs = 0
  · have HRV := Lib.hid (show rev hs = (rvs hs, 0) from if_pos hk)
    have hl4 := (hck_ok hk).1
    have HRG := Lib.hid (chain_mem (hck_ok hk).2)
    rw [hk] at HCK
    have HH := Lib.hid hH
    have HOK := Lib.hid hok
    clear hk hH hok
    go_enter Try.func20, Try.ntmps20
    go_wp2_with fail
    with_reducible refine HCK.out.mono ?_
    rintro e w1 ⟨rfl, hb1⟩
    have HB1 := Lib.hid hb1
    obtain ⟨W0, hW0⟩ : ∃ W : World, W = w1.alloc (.cells #[] 65) := ⟨_, rfl⟩
    have HB0 := Lib.hid (show Below w1.heap.size w1 W0 by rw [hW0]; exact alloc1 _ _)
    have HR0 : Hid (Rw W0 w1.heap.size (.slice (some ⟨w1.heap.size, 0, none⟩) ([] : List Hq).length 0) []) := Lib.hid ⟨by rw [hW0]; exact World.ownsRow_made (size := 5) (e := 65) w1 #[] 0 (Nat.le_refl _) (by unfold maxLen; omega) rfl, fun q hq => by simp at hq⟩
    simp only [List.length_nil] at HR0
    clear hb1 HCK
    go_upto_region 5 with fail
    rw [← hW0]
    clear hW0
    go_wp2_with fail
    go_loopg [5, 6] hs.length (fun m v iv wr => ∃ (k : Nat) (qs : List Hq), k ≤ hs.length ∧ iv = .int .i64 k ∧ hs.length - k ≤ m ∧ Hid (Rw wr w1.heap.size v qs) ∧ Hid (Below w1.heap.size w1 wr) ∧ qs.length = k ∧ Hid (qs.map (·.h) = rvs (hs.take k)))
    case atStart => exact ⟨0, [], Nat.zero_le _, rfl, by omega, HR0, HB0, rfl, Lib.hid rfl⟩
    case round =>
      clear HR0 HB0
      obtain ⟨k, qs, hkl, rfl, hmm, HR, HB, hql, HQ⟩ := hrel
      obtain ⟨RA, rcap, rfl, -, -⟩ := own_form HR.out.own
      have HQL := Lib.hid hql
      have hql4 : qs.length ≤ 400 := by omega
      clear hql
      by_cases hlt : k < hs.length
      · obtain ⟨bk, off, EA, ec, hAe, c0, c1, c2, c3, c4, hE, -, -⟩ := hunk_at HH.out HB1.out hlt
        subst hAe
        have hrg := HRG.out _ (List.getElem_mem hlt)
        have HES := Lib.hid (HOK.out.es _ (List.getElem_mem hlt))
        have HTK : Hid (rvs (hs.take (k + 1)) = rvs (hs.take k) ++ [rv hs[k]]) := Lib.hid (by unfold rvs; rw [List.take_succ_eq_append_getElem hlt, List.map_append]; rfl)
        have HCE := Lib.hid (rgt_ck hrg)
        have h0k : (0 : Int) ≤ (k : Int) := by omega
        have hki : (k : Int) < (hs.length : Int) := by omega
        have hh : hs[k] = ⟨hs[k].oa, hs[k].o, hs[k].na, hs[k].n, hs[k].es⟩ := rfl
        rw [hh] at HTK
        simp only [rv] at HTK
        have hbk : bk < w1.heap.size := World.block_lt_of_cell? w1 _ c0
        replace c4 := (HB.out.cell (p := ⟨bk, _, none⟩) hbk).trans c4
        clear hrg hh
        generalize hs[k].oa = oa at *
        generalize hs[k].o = o at *
        generalize hs[k].na = na at *
        generalize hs[k].n = nn at *
        generalize hs[k].es = es at *
        have HIV := Lib.hid (S2.rinvert_any EA ec 0 es wr (hE.below (HB1.out.trans (HB.out.mono HB1.out.size))) HES.out HCE.out)
        have HLT := Lib.hid (fun g (e : (Value.slice RA qs.length rcap).ownBlock = some g) => S.own_lt HR.out.own g e)
        have HC0 : Hid (∀ wz, Below w1.heap.size w1 wz → wz.cell? ⟨bk, off + k * 5, none⟩ = some (.int .i64 oa) ∧ wz.cell? ⟨bk, off + k * 5 + 1, none⟩ = some (.int .i64 o) ∧ wz.cell? ⟨bk, off + k * 5 + 2, none⟩ = some (.int .i64 na) ∧ wz.cell? ⟨bk, off + k * 5 + 3, none⟩ = some (.int .i64 nn)) := Lib.hid (fun wz hz => ⟨(hz.cell (p := ⟨bk, _, none⟩) hbk).trans c0, (hz.cell (p := ⟨bk, _, none⟩) hbk).trans c1, (hz.cell (p := ⟨bk, _, none⟩) hbk).trans c2, (hz.cell (p := ⟨bk, _, none⟩) hbk).trans c3⟩)
        clear hE HES HCE c0 c1 c2 c3 hbk
        go_wp2_with fail
        with_reducible refine HIV.out.mono ?_
        rintro e w2 ⟨IA, ic, rfl, hI2, hic, hin, hb2⟩
        have HR2 := Lib.hid (HR.out.below hb2)
        have HB2 := Lib.hid (HB.out.trans (hb2.mono HB.out.size))
        have HKQ2 := Lib.hid (Kq.of (vh := .slice RA qs.length rcap) hI2 (fun g e => HLT.out g e))
        have HIC := Lib.hid (And.intro hic hin)
        have HSX : Hid (∀ wz, Kx w2 (.slice RA qs.length rcap) wz → wz.cell? ⟨bk, off + k * 5, none⟩ = some (.int .i64 oa) ∧ wz.cell? ⟨bk, off + k * 5 + 1, none⟩ = some (.int .i64 o) ∧ wz.cell? ⟨bk, off + k * 5 + 2, none⟩ = some (.int .i64 na) ∧ wz.cell? ⟨bk, off + k * 5 + 3, none⟩ = some (.int .i64 nn) ∧ Kx w2 (.slice RA qs.length rcap) wz) := Lib.hid (fun wz hz => by
          obtain ⟨q0, q1, q2, q3⟩ := HC0.out wz (HB2.out.grown hz.g HB2.out.size (fun b e => own_base HR2.out.own b e))
          exact ⟨q0, q1, q2, q3, hz⟩)
        clear c4 hI2 hic hin hb2 HIV HC0 HR HB HLT
        obtain ⟨il, hil⟩ : ∃ n, n = (inv es).length := ⟨_, rfl⟩
        have HIL := Lib.hid hil
        rw [← hil]
        have HQE : Hid (hqCell ⟨⟨na, nn, oa, o, inv es⟩, IA, ic⟩ = [.int .i64 na, .int .i64 nn, .int .i64 oa, .int .i64 o, .slice IA il ic]) := Lib.hid (by unfold hqCell; rw [HIL.out])
        have H1C : Hid (∀ u ∈ ([.int .i64 na, .int .i64 nn, .int .i64 oa, .int .i64 o, .slice IA il ic] : List Value), u.oneCell' = true) := Lib.hid (by intro u hu; simp only [List.mem_cons, List.not_mem_nil, or_false] at hu; rcases hu with rfl | rfl | rfl | rfl | rfl <;> rfl)
        clear hil
        go_upto_region 9 with fail
        refine wp_region_held_drew (S := fun wz => wz.cell? ⟨bk, off + k * 5, none⟩ = some (.int .i64 oa) ∧ wz.cell? ⟨bk, off + k * 5 + 1, none⟩ = some (.int .i64 o) ∧ wz.cell? ⟨bk, off + k * 5 + 2, none⟩ = some (.int .i64 na) ∧ wz.cell? ⟨bk, off + k * 5 + 3, none⟩ = some (.int .i64 nn) ∧ Kx w2 (.slice RA qs.length rcap) wz) (by kernel_rfl) (HSX.out _ ⟨grown_of ((Below.refl _ _).drew) _⟩) (fun hH0 => ?_)
        have HBA := Lib.hid ((Below.refl w2.heap.size w2).drew)
        generalize w2.drew = wA at *
        refine wpAnyH_take (i := 0) (v := ?_) rfl (by kernel_rfl) (by kernel_rfl) (by kernel_rfl) (fun _ _ _ h => h) (Or.inl ⟨by rfl, ?_⟩) hH0 ?_
        rotate_left
        · (intro wz hSz; (try dsimp only at hSz); go_simp; try with_reducible rfl)
        try simp only [Act.put, List.setIfInBounds_toArray, List.set_cons_zero, List.set_cons_succ]
        refine wpAnyH_take (i := 1) (v := ?_) rfl (by kernel_rfl) (by kernel_rfl) (by kernel_rfl) (fun _ _ _ h => h) (Or.inl ⟨by rfl, ?_⟩) hH0 ?_
        rotate_left
        · (intro wz hSz; (try dsimp only at hSz); go_simp; try with_reducible rfl)
        try simp only [Act.put, List.setIfInBounds_toArray, List.set_cons_zero, List.set_cons_succ]
        refine wpAnyH_take (i := 2) (v := ?_) rfl (by kernel_rfl) (by kernel_rfl) (by kernel_rfl) (fun _ _ _ h => h) (Or.inl ⟨by rfl, ?_⟩) hH0 ?_
        rotate_left
        · (intro wz hSz; (try dsimp only at hSz); go_simp; try with_reducible rfl)
        try simp only [Act.put, List.setIfInBounds_toArray, List.set_cons_zero, List.set_cons_succ]
        refine wpAnyH_take (i := 3) (v := ?_) rfl (by kernel_rfl) (by kernel_rfl) (by kernel_rfl) (fun _ _ _ h => h) (Or.inl ⟨by rfl, ?_⟩) hH0 ?_
        rotate_left
        · (intro wz hSz; (try dsimp only at hSz); go_simp; try with_reducible rfl)
        try simp only [Act.put, List.setIfInBounds_toArray, List.set_cons_zero, List.set_cons_succ]
        refine wpAnyH_take (i := 4) (v := ?_) rfl (by kernel_rfl) (by kernel_rfl) (by kernel_rfl) (fun _ _ _ h => h) (Or.inl ⟨by rfl, ?_⟩) hH0 ?_
        rotate_left
        · (intro wz hSz; (try dsimp only at hSz); go_simp; try with_reducible rfl)
        try simp only [Act.put, List.setIfInBounds_toArray, List.set_cons_zero, List.set_cons_succ]
        refine wpAnyH_take (i := 5) (v := ?_) rfl (by kernel_rfl) (by kernel_rfl) (by kernel_rfl) (fun _ _ _ h => h) (Or.inl ⟨by rfl, ?_⟩) hH0 ?_
        rotate_left
        · (intro wz hSz; (try dsimp only at hSz); go_simp; try with_reducible rfl)
        try simp only [Act.put, List.setIfInBounds_toArray, List.set_cons_zero, List.set_cons_succ]
        refine wpAnyH_take (i := 6) (v := ?_) rfl (by kernel_rfl) (by kernel_rfl) (by kernel_rfl) (fun _ _ _ h => h) (Or.inl ⟨by rfl, ?_⟩) hH0 ?_
        rotate_left
        · (intro wz hSz; (try dsimp only at hSz); go_simp; try with_reducible rfl)
        try simp only [Act.put, List.setIfInBounds_toArray, List.set_cons_zero, List.set_cons_succ]
        refine wpAnyH_take (i := 7) (v := ?_) rfl (by kernel_rfl) (by kernel_rfl) (by kernel_rfl) (fun _ _ _ h => h) (Or.inl ⟨by rfl, ?_⟩) hH0 ?_
        rotate_left
        · (intro wz hSz; (try dsimp only at hSz); go_simp; try with_reducible rfl)
        try simp only [Act.put, List.setIfInBounds_toArray, List.set_cons_zero, List.set_cons_succ]
        refine wpAnyH_take (i := 8) (v := ?_) rfl (by kernel_rfl) (by kernel_rfl) (by kernel_rfl) (fun _ _ _ h => h) (Or.inl ⟨by rfl, ?_⟩) hH0 ?_
        rotate_left
        · (intro wz hSz; (try dsimp only at hSz); go_simp; try with_reducible rfl)
        try simp only [Act.put, List.setIfInBounds_toArray, List.set_cons_zero, List.set_cons_succ]
        refine wpAnyH_take (i := 9) (v := ?_) rfl (by kernel_rfl) (by kernel_rfl) (by kernel_rfl) (fun _ _ _ h => h) (Or.inl ⟨by rfl, ?_⟩) hH0 ?_
        rotate_left
        · (intro wz hSz; (try dsimp only at hSz); go_simp; try with_reducible rfl)
        try simp only [Act.put, List.setIfInBounds_toArray, List.set_cons_zero, List.set_cons_succ]
        refine wpAnyH_take (i := 10) (v := ?_) rfl (by kernel_rfl) (by kernel_rfl) (by kernel_rfl) (fun _ _ _ h => h) (Or.inl ⟨by rfl, ?_⟩) hH0 ?_
        rotate_left
        · (intro wz hSz; (try dsimp only at hSz); go_simp; try with_reducible rfl)
        try simp only [Act.put, List.setIfInBounds_toArray, List.set_cons_zero, List.set_cons_succ]
        refine wpAnyH_take (i := 11) (v := ?_) rfl (by kernel_rfl) (by kernel_rfl) (by kernel_rfl) (fun _ _ _ h => h) (Or.inl ⟨by rfl, ?_⟩) hH0 ?_
        rotate_left
        · (intro wz hSz; (try dsimp only at hSz); go_simp; try with_reducible rfl)
        try simp only [Act.put, List.setIfInBounds_toArray, List.set_cons_zero, List.set_cons_succ]
        refine wpAnyH_take (i := 12) (v := ?_) rfl (by kernel_rfl) (by kernel_rfl) (by kernel_rfl) (fun _ _ _ h => h) (Or.inl ⟨by rfl, ?_⟩) hH0 ?_
        rotate_left
        · (intro wz hSz; (try dsimp only at hSz); go_simp; try with_reducible rfl)
        try simp only [Act.put, List.setIfInBounds_toArray, List.set_cons_zero, List.set_cons_succ]
        refine wpAnyH_take (i := 13) (v := ?_) rfl (by kernel_rfl) (by kernel_rfl) (by kernel_rfl) (fun _ _ _ h => h) (Or.inl ⟨by rfl, ?_⟩) hH0 ?_
        rotate_left
        · (intro wz hSz; (try dsimp only at hSz); go_simp; try with_reducible rfl)
        try simp only [Act.put, List.setIfInBounds_toArray, List.set_cons_zero, List.set_cons_succ]
        refine wpAnyH_take (i := 14) (v := ?_) rfl (by kernel_rfl) (by kernel_rfl) (by kernel_rfl) (fun _ _ _ h => h) (Or.inl ⟨by rfl, ?_⟩) hH0 ?_
        rotate_left
        · (intro wz hSz; (try dsimp only at hSz); go_simp; try with_reducible rfl)
        try simp only [Act.put, List.setIfInBounds_toArray, List.set_cons_zero, List.set_cons_succ]
        refine wpAnyH_take (i := 15) (v := ?_) rfl (by kernel_rfl) (by kernel_rfl) (by kernel_rfl) (fun _ _ _ h => h) (Or.inl ⟨by rfl, ?_⟩) hH0 ?_
        rotate_left
        · (intro wz hSz; (try dsimp only at hSz); go_simp; try with_reducible rfl)
        try simp only [Act.put, List.setIfInBounds_toArray, List.set_cons_zero, List.set_cons_succ]
        refine wpAnyH_take (i := 16) (v := ?_) rfl (by kernel_rfl) (by kernel_rfl) (by kernel_rfl) (fun _ _ _ h => h) (Or.inl ⟨by rfl, ?_⟩) hH0 ?_
        rotate_left
        · (intro wz hSz; (try dsimp only at hSz); go_simp; try with_reducible rfl)
        try simp only [Act.put, List.setIfInBounds_toArray, List.set_cons_zero, List.set_cons_succ]
        refine wpAnyH_take (i := 17) (v := ?_) rfl (by kernel_rfl) (by kernel_rfl) (by kernel_rfl) (fun _ _ _ h => h) (Or.inl ⟨by rfl, ?_⟩) hH0 ?_
        rotate_left
        · (intro wz hSz; (try dsimp only at hSz); go_simp; try with_reducible rfl)
        try simp only [Act.put, List.setIfInBounds_toArray, List.set_cons_zero, List.set_cons_succ]
        refine wpAnyH_take (i := 18) (v := ?_) rfl (by kernel_rfl) (by kernel_rfl) (by kernel_rfl) (fun _ _ _ h => h) (Or.inl ⟨by rfl, ?_⟩) hH0 ?_
        rotate_left
        · (intro wz hSz; (try dsimp only at hSz); go_simp; try with_reducible rfl)
        try simp only [Act.put, List.setIfInBounds_toArray, List.set_cons_zero, List.set_cons_succ]
        refine wpAnyH_take (i := 19) (v := ?_) rfl (by kernel_rfl) (by kernel_rfl) (by kernel_rfl) (fun _ _ _ h => h) (Or.inl ⟨by rfl, ?_⟩) hH0 ?_
        rotate_left
        · (intro wz hSz; (try dsimp only at hSz); go_simp; try with_reducible rfl)
        try simp only [Act.put, List.setIfInBounds_toArray, List.set_cons_zero, List.set_cons_succ]
        refine wpAnyH_take (i := 20) (v := ?_) rfl (by kernel_rfl) (by kernel_rfl) (by kernel_rfl) (fun _ _ _ h => h) (Or.inl ⟨by rfl, ?_⟩) hH0 ?_
        rotate_left
        · (intro wz hSz; (try dsimp only at hSz); go_simp; try with_reducible rfl)
        try simp only [Act.put, List.setIfInBounds_toArray, List.set_cons_zero, List.set_cons_succ]
        refine wpAnyH_take (i := 21) (v := ?_) rfl (by kernel_rfl) (by kernel_rfl) (by kernel_rfl) (fun _ _ _ h => h) (Or.inl ⟨by rfl, ?_⟩) hH0 ?_
        rotate_left
        · (intro wz hSz; (try dsimp only at hSz); go_simp; try with_reducible rfl)
        try simp only [Act.put, List.setIfInBounds_toArray, List.set_cons_zero, List.set_cons_succ]
        refine wpAnyH_take (i := 22) (v := ?_) rfl (by kernel_rfl) (by kernel_rfl) (by kernel_rfl) (fun _ _ _ h => h) (Or.inl ⟨by rfl, ?_⟩) hH0 ?_
        rotate_left
        · (intro wz hSz; (try dsimp only at hSz); go_simp; try with_reducible rfl)
        try simp only [Act.put, List.setIfInBounds_toArray, List.set_cons_zero, List.set_cons_succ]
        refine wpAnyH_ready (rs := [23]) (by kernel_rfl) (by simp) ?_
        refine AllReadyH.cons rfl (fun K hK => ?_) AllReadyH.nil
        go_simp
        refine hK.out _ _ (HSX.out _ (hH0.2.2.2.2.below (alloc1 wA _))) (fun hH1 => ?_)
        have HNW := Lib.hid (World.news_of_block (heap_alloc_new wA (.cells #[.int .i64 na, .int .i64 nn, .int .i64 oa, .int .i64 o, .slice IA il ic] 65)))
        have HB5 := Lib.hid (HBA.out.trans ((alloc1 wA (.cells #[.int .i64 na, .int .i64 nn, .int .i64 oa, .int .i64 o, .slice IA il ic] 65)).mono HBA.out.size))
        clear hK K hH0 HBA
        generalize wA.alloc (.cells #[.int .i64 na, .int .i64 nn, .int .i64 oa, .int .i64 o, .slice IA il ic] 65) = w5 at *
        generalize wA.heap.size = hb5 at *
        have HR5 := Lib.hid (HR2.out.below HB5.out)
        have HKQ5 := Lib.hid (HKQ2.out.below HB5.out)
        have hsz : w1.heap.size ≤ w5.heap.size := Nat.le_trans HB2.out.size HB5.out.size
        try simp only [Act.put, List.setIfInBounds_toArray, List.set_cons_zero, List.set_cons_succ]
        refine wpAnyH_ready (rs := [24]) (by kernel_rfl) (by simp) ?_
        refine AllReadyH.cons rfl (fun K hK => ?_) AllReadyH.nil
        refine step_append_lies _ (by rfl) (.tmp 30) (.tmp 53) 22 (by rfl) w1.heap.size 65 j0 _ 5 56 Try.underlying22 hj0 hy0 hy1 hy2 rfl (by decide) (.slice RA qs.length rcap) qs.length (hqCells qs) (by rfl) HR5.out.own ⟨hb5, 0, none⟩ 1 1 [.int .i64 na, .int .i64 nn, .int .i64 oa, .int .i64 o, .slice IA il ic] (by rfl) rfl HNW.out H1C.out (by omega) (by unfold maxLen; omega) (by omega) (by omega) _ rfl ?_
        intro g6 cap6 w6 hown6 hg6 hat6 hlt6
        refine hK.out _ _ (HSX.out _ ⟨(grown_of HB5.out _).trans hg6⟩) (fun hH3 => ?_)
        have HR6 := Lib.hid (HR5.out.add (z := ⟨⟨na, nn, oa, o, inv es⟩, IA, ic⟩) HKQ5.out HIC.out.1 HIC.out.2 hg6 (by rw [HQE.out]; exact hown6) (by
          rcases hat6 with h | h
          · exact .inl (by rw [h]; rfl)
          · exact .inr (by rw [h]; rfl)))
        have HB6 := Lib.hid ((HB2.out.trans (HB5.out.mono HB2.out.size)).grown hg6 hsz (fun b e => own_base HR5.out.own b e))
        clear hK K hH1 HR5 HKQ5 HNW hsz hown6 hg6 hat6 hlt6 HB5
        try simp only [Act.put, List.setIfInBounds_toArray, List.set_cons_zero, List.set_cons_succ]
        refine wpAnyH_take (i := 25) (v := ?_) rfl (by kernel_rfl) (by kernel_rfl) (by kernel_rfl) (fun _ _ _ h => h) (Or.inl ⟨by rfl, ?_⟩) hH3 ?_
        rotate_left
        · (intro wz hSz; (try dsimp only at hSz); go_simp; try with_reducible rfl)
        try simp only [Act.put, List.setIfInBounds_toArray, List.set_cons_zero, List.set_cons_succ]
        refine wpAnyH_done (by kernel_rfl) ?_ _
        clear hH3
        go_wp2_with fail
        go_roundg (hs.length - (k + 1))
        case rel => exact ⟨k + 1, qs ++ [⟨⟨na, nn, oa, o, inv es⟩, IA, ic⟩], by omega, by go_num, Nat.le_refl _, HR6, HB6, by rw [List.length_append, HQL.out]; rfl, Lib.hid (by rw [HTK.out, List.map_append, HQ.out]; rfl)⟩
        case measure => omega
      · obtain rfl : k = hs.length := by omega
        have HE := Lib.hid (show qs.map (·.h) = rvs hs by rw [HQ.out, List.take_length])
        obtain ⟨-, hrd⟩ := HR.out.read
        have HRD := Lib.hid hrd
        have HBF := Lib.hid (HB1.out.trans (HB.out.mono HB1.out.size))
        have hql2 : qs.length = (rvs hs).length := by rw [← HE.out, List.length_map]
        clear hrd HQ
        go_wp2_with fail
        refine bodyPost_ret (v := .tuple #[.slice RA qs.length rcap, .int .i64 0]) (by simp [results, Try.results20, go_sem]) rfl ?_
        rw [HRV.out]
        exact ⟨RA, rcap, by rw [hql2], by rw [← HE.out]; exact HRD.out, HBF.out⟩
  · have HRV := Lib.hid (show rev hs = ([], hck hs) from if_neg hk)
    have hne : (hck hs != 0) = true := by simp [hk]
    rw [HRV.out]
    generalize hck hs = q at *
    clear hk hH hok
    go_enter Try.func20, Try.ntmps20
    go_wp2_with fail
    with_reducible refine HCK.out.mono ?_
    rintro e w1 ⟨rfl, hb1⟩
    go_wp2_with fail
    refine bodyPost_ret (v := .tuple #[.slice none 0 0, .int .i64 q]) (by simp [results, Try.results20, go_sem]) rfl ⟨none, 0, rfl, fun h => absurd h (by simp), hb1⟩
end Go.Proofs.Ytigghcmbdnidnaa.Pa

namespace Go.Proofs.Ytigghcmbdnidnaa.RH
set_option linter.unusedVariables false
set_option linter.unusedSimpArgs false
open Go.ChangeShapes Go.WideShapes Go.ChangeAt Go.RowKit Go.Deep Go.Joins
theorem bulkAll_app {H : Type} : ∀ a b : List (DataW H), Rows.uptoBulkAll (a ++ b) = Rows.uptoBulkAll a + Rows.uptoBulkAll b
  | [], b => by simp [Rows.uptoBulkAll]
  | d :: r, b => by
    have := bulkAll_app r b
    simp only [List.cons_append, Rows.uptoBulkAll, this]; omega
theorem bulkAll_range {H : Type} (F : Nat → DataW H) (k : Nat) : Rows.uptoBulkAll ((List.range (k + 1)).map F) = Rows.uptoBulkAll ((List.range k).map F) + Rows.uptoBulk (F k) := by
  rw [List.range_succ, List.map_append, bulkAll_app]
  simp [Rows.uptoBulkAll]
section
variable {H : Type} {enc : TypeId × Value → H} {w : World} {base : Nat} {spare : Nat → Bool} {held : Bool} {fuel : Nat} {cs : List Value} {x : DataW H × List MemPlace}
theorem eds_bulk {A : Option Addr} {cap : Nat} {es : List S.Ed} (hE : S.EdsIn 0 w A es) (h : DataW.trod enc Try.prog w base spare held fuel 40 [.slice A es.length cap] = some x) : S.tl es * 3 ≤ Rows.uptoBulk x.1 := by
  by_cases hp : 0 < es.length
  · obtain ⟨bk, off, rfl, -, -, hI⟩ := hE hp
    rcases Deep.open_slice_pairs Try.underlying40 Try.underlying54 RZ.cellsEd rfl rfl RZ.cellsStp RZ.cellsLns h with ⟨hcs, hx⟩ | ⟨a, len, cap', m, n, V0, V1, D0, D1, P0, P1, hcs, _, hl, hm, hmm, hx, hcell⟩
    · simp at hcs
    · simp only [List.cons.injEq, Value.slice.injEq, Option.some.injEq, and_true] at hcs
      obtain ⟨rfl, rfl, rfl⟩ := hcs
      have hle : es.length ≤ m := by rw [hmm]; split <;> omega
      have key : ∀ k, k ≤ es.length → S.tl (es.take k) * 3 ≤ Rows.uptoBulkAll ((List.range k).map fun i => DataW.agg [D0 i, D1 i]) := by
        intro k
        induction k with
        | zero => intro _; simp [S.tl]
        | succ k ih =>
          intro hk
          have ih := ih (by omega)
          rw [S.tl_take (by omega), bulkAll_range]
          obtain ⟨c0, c1, t0, t1⟩ := hcell k (by omega)
          obtain ⟨LA, lc, g0, g1, -⟩ := hI k (by omega)
          have e : V1 k = .slice LA es[k].2.length lc := by
            rw [add_plain, ← Nat.add_assoc] at c1
            rw [c1] at g1
            exact Option.some.inj g1
          rw [e] at t1
          have hb := lines_bulk t1
          simp only at hb
          simp only [Rows.uptoBulk, Rows.uptoBulkAll]
          omega
      have := key es.length (Nat.le_refl _)
      rw [List.take_length] at this
      rw [hx]
      simp only [Rows.uptoBulk]
      omega
  · have : es = [] := List.length_eq_zero_iff.1 (by omega)
    subst this
    simp [S.tl]
theorem hks_bulk {A : Option Addr} {cap : Nat} {us : List Go.Proofs.Ytigghcmbdnidnaa.H.Hk} (hE : Go.Proofs.Ytigghcmbdnidnaa.H.HksIn 0 w A us) (h : DataW.trod enc Try.prog w base spare held fuel 22 [.slice A us.length cap] = some x) : S.tl (Go.Proofs.Ytigghcmbdnidnaa.H.join us) * 3 ≤ Rows.uptoBulk x.1 := by
  by_cases hp : 0 < us.length
  · obtain ⟨bk, off, rfl, -, -, hI⟩ := hE hp
    rcases open_slice Try.underlying22 h with ⟨hcs, hx⟩ | ⟨a, len, cap', m, n, D, Pl, hcs, _, hl, hm, hmm, hx, hcell⟩
    · simp at hcs
    · simp only [List.cons.injEq, Value.slice.injEq, Option.some.injEq, and_true] at hcs
      obtain ⟨rfl, rfl, rfl⟩ := hcs
      have hle : us.length ≤ m := by rw [hmm]; split <;> omega
      have key : ∀ k, k ≤ us.length → S.tl (Go.Proofs.Ytigghcmbdnidnaa.H.join (us.take k)) * 3 ≤ Rows.uptoBulkAll ((List.range k).map D) := by
        intro k
        induction k with
        | zero => intro _; simp [S.tl, Go.Proofs.Ytigghcmbdnidnaa.H.join]
        | succ k ih =>
          intro hk
          have ih := ih (by omega)
          rw [Go.Proofs.Ytigghcmbdnidnaa.H.join_take (by omega), S.tl_app, bulkAll_range]
          obtain ⟨cs', c1, c2⟩ := hcell k (by omega)
          rw [cHunk] at c1
          obtain ⟨_, hlen, hat⟩ := World.cells?_some c1
          obtain ⟨v0, v1, v2, v3, v4, rfl⟩ := list5 (by simpa using hlen)
          obtain ⟨n', y0, y1, y2, y3, y4, hxx, h0, h1, h2, h3, h4⟩ := hunk_fields c2
          have q4 := hat 4 (by omega)
          obtain ⟨EA, ec, g0, g1, g2, g3, g4, g5, -⟩ := hI k (by omega)
          have e : v4 = .slice EA us[k].es.length ec := by
            rw [Go.Deep.add_add, add_plain, ← Nat.add_assoc] at q4
            rw [g4] at q4
            exact (Option.some.inj q4).symm
          rw [e] at h4
          have hb := eds_bulk g5 h4
          have hD : Rows.uptoBulk y4.1 ≤ Rows.uptoBulk (D k) := by
            have : D k = .agg [y0.1, y1.1, y2.1, y3.1, y4.1] := hxx
            rw [this]
            simp only [Rows.uptoBulk, Rows.uptoBulkAll]
            omega
          omega
      have := key us.length (Nat.le_refl _)
      rw [List.take_length] at this
      rw [hx]
      simp only [Rows.uptoBulk]
      omega
  · have : us = [] := List.length_eq_zero_iff.1 (by omega)
    subst this
    simp [S.tl, Go.Proofs.Ytigghcmbdnidnaa.H.join]
theorem hunks_tl {A : Option Addr} {cap : Nat} {us : List Go.Proofs.Ytigghcmbdnidnaa.H.Hk} {d : DataW H} {p : List MemPlace} (hE : Go.Proofs.Ytigghcmbdnidnaa.H.HksIn 0 w A us) (h : DataW.Trod enc Try.prog w base spare held 22 (.slice A us.length cap) d p) : S.tl (Go.Proofs.Ytigghcmbdnidnaa.H.join us) * 3 ≤ Rows.uptoBulk d := by
  obtain ⟨fuel, hf⟩ := h
  exact hks_bulk hE hf
theorem join_tl_le (us : List Go.Proofs.Ytigghcmbdnidnaa.H.Hk) (k : Nat) : S.tl (Go.Proofs.Ytigghcmbdnidnaa.H.join (us.take k)) ≤ S.tl (Go.Proofs.Ytigghcmbdnidnaa.H.join us) := by
  have : Go.Proofs.Ytigghcmbdnidnaa.H.join (us.take k) ++ Go.Proofs.Ytigghcmbdnidnaa.H.join (us.drop k) = Go.Proofs.Ytigghcmbdnidnaa.H.join us := by
    unfold Go.Proofs.Ytigghcmbdnidnaa.H.join
    rw [← List.flatMap_append, List.take_append_drop]
  rw [← this, S.tl_app]; omega
end
end Go.Proofs.Ytigghcmbdnidnaa.RH
