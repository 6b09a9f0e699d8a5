/-
  Join, the code's and the reference's.
  The reference's Join; stay, stands and Whole.
  Whole.
-/
import Derived.Test.YtimalohdchhjgaaGhf
import Derived.Deep.RegionWith
namespace Go.Proofs.Ytimalohdchhjgaa.H
set_option linter.unusedVariables false
set_option linter.unusedSimpArgs false
open Go.RowKit
open T S
open V (grown_of)
open I (alloc1 own_at own_below)
open N (Ln)

def LcEnd (w : World) (l : List Ln) (e : Ending) (w' : World) : Prop :=
  ∃ A cap, e = .returned (.slice A l.length cap) ∧ w'.ownsRow w.heap.size 51 2 (.slice A l.length cap) l.length (lineCells l) ∧ Below w.heap.size w w'
set_option maxRecDepth 100000 in
set_option maxHeartbeats 4000000 in
theorem lclone_any (A : Option Addr) (c : Nat) (l : List Ln) (w : World) (hL : LinesIn w A l) (hz : A = none → c = 0) (hl : l.length ≤ 1000000) :
    Calls Try.prog 32 #[.slice A l.length c] w (LcEnd w l) := by
  have HL := Lib.hid hL
  have HZ := Lib.hid hz
  clear hL hz
  cases A with
  | none =>
    have hq := fun (w : World) (n c : Nat) => Lib.run_eql_slice_nil (P := Try.prog) w 37 51 none n c 0 0 Try.underlying37
    have hln : l = [] := by
      rcases Nat.eq_zero_or_pos l.length with h0 | hp
      · exact List.length_eq_zero_iff.1 h0
      · obtain ⟨_, _, h0, _⟩ := HL.out hp; cases h0
    subst hln
    go_enter Try.func32, Try.ntmps32
    go_wp2_with fail
    go_ret
    exact ⟨none, 0, rfl, World.ownsRow_nil _ _ _ _, Below.refl _ _⟩
  | some ad =>
    have hq := fun (w : World) (n c : Nat) => Lib.run_eql_slice_nil (P := Try.prog) w 37 51 (some ad) n c 0 0 Try.underlying37
    have HO0 : Hid ((w.alloc (.cells #[] 51)).ownsRow w.heap.size 51 2 (.slice (some ⟨w.heap.size, 0, none⟩) 0 0) ([] : List Ln).length (lineCells [])) := Lib.hid (World.ownsRow_made (size := 2) (e := 51) w #[] 0 (Nat.le_refl _) (by unfold maxLen; omega) rfl)
    have HL0 := Lib.hid (HL.out.below (alloc1 w (.cells #[] 51)))
    have hs0 : w.heap.size ≤ (w.alloc (.cells #[] 51)).heap.size := (alloc1 w _).size
    go_enter Try.func32, Try.ntmps32
    go_upto_region 3 with fail
    go_wp2_with (at_builtin; refine wpList_append_lines (w := w.alloc (.cells #[] 51)) rfl (.tmp 5) (.tmp 6) rfl w.heap.size (.slice (some ⟨w.heap.size, 0, none⟩) 0 0) [] l rfl HO0.out (some ad) c rfl HL0.out HZ.out (by simp; omega) hs0 ?_; intro v1 w1 ho1 hg1 hat1; rw [List.nil_append] at ho1; obtain ⟨NA, nc, rfl, -, -⟩ := own_form ho1; have HO1 := Lib.hid ho1; have HB1 : Hid (Below w.heap.size w w1) := Lib.hid ((alloc1 w _).grown hg1 hs0 (fun q e => own_base HO0.out q e)); clear ho1 hg1 hat1)
    go_ret
    exact ⟨NA, nc, rfl, HO1.out, HB1.out⟩
def JnEnd (w : World) (es : List Ed) (e : Ending) (w' : World) : Prop :=
  ∃ A cap, e = .returned (.slice A es.length cap) ∧ EdsIn 0 w' A es ∧ Below w.heap.size w w'
/-- Edits that are gathered. -/
abbrev Gt (w0 w : World) (vs : Value) (rs : List Raw) (es : List Ed) : Prop := Rq w0 w w0.heap.size vs (.slice none 0 0) (.slice none 0 0) (.slice none 0 0) rs es [] [] []
/-- Where only that row has grown. -/
structure Kx (W : World) (vs : Value) (wz : World) : Prop where
  g : W.grownBy wz vs.ownBlock
theorem Kx.below {W wz w' : World} {vs : Value} (h : Kx W vs wz) (hb : Below wz.heap.size wz w') : Kx W vs w' := ⟨h.g.trans (grown_of hb _)⟩
theorem Gt.nil (w : World) : Gt w w (.slice none 0 0) [] [] :=
  ⟨World.ownsRow_nil _ _ _ _, World.ownsRow_nil _ _ _ _, World.ownsRow_nil _ _ _ _, World.ownsRow_nil _ _ _ _, Apart.nil _, Apart.nil _, Apart.nil _, ⟨rfl, fun j h => by simp at h⟩, fun r hr => by simp at hr, Below.refl _ _, Nat.le_refl _, Nat.le_refl _⟩
theorem join_take {hs : List Hk} {k : Nat} (hk : k < hs.length) : join (hs.take (k + 1)) = join (hs.take k) ++ hs[k].es := by
  unfold join
  rw [List.take_succ_eq_append_getElem hk, List.flatMap_append]
  simp
theorem join_le (hs : List Hk) (k : Nat) : (join (hs.take k)).length ≤ (join hs).length := by
  have : join (hs.take k) ++ join (hs.drop k) = join hs := by
    unfold join
    rw [← List.flatMap_append, List.take_append_drop]
  rw [← this, List.length_append]; omega
set_option maxRecDepth 100000 in
set_option maxHeartbeats 4000000 in
theorem join_any (A : Option Addr) (c b : Nat) (hs : List Hk) (w : World) (hH : HksIn b w A hs) (hok : HksOk hs) (hj : (join hs).length ≤ 2000000) (hll : ∀ h ∈ hs, ∀ e ∈ h.es, e.2.length ≤ 1000000) :
    Calls Try.prog 16 #[.slice A hs.length c] w (JnEnd w (join hs)) := by
  obtain ⟨i0, hi0, hz0, hz1, hz2⟩ := info_parts infoEdit
  have HH := Lib.hid (hH.low (Nat.zero_le _))
  have hl := hok.len
  have HES := Lib.hid hok.es
  have HLL := Lib.hid hll
  unfold maxLen at hl
  clear hH hok hll
  go_enter Try.func16, Try.ntmps16
  go_wp2_with fail
  go_loopg [10, 3] hs.length (fun m iv sv wr => ∃ (k : Nat) (SA : Option Addr) (cap : Nat) (rs : List Raw), k ≤ hs.length ∧ iv = .int .i64 k ∧ sv = .slice SA rs.length cap ∧ hs.length - k ≤ m ∧ Hid (Gt w wr (.slice SA rs.length cap) rs (join (hs.take k))))
  case atStart => exact ⟨0, none, 0, [], Nat.zero_le _, rfl, rfl, by omega, Lib.hid (Gt.nil w)⟩
  case round =>
    obtain ⟨k, SA, cap, rs, hk, rfl, rfl, hmm, HG⟩ := hrel
    by_cases hlt : k < hs.length
    · obtain ⟨bk, off, EA, ec, hAe, c0, c1, c2, c3, c4, hE, -, -⟩ := hunk_at HH.out HG.out.b hlt
      subst hAe
      have HJ := Lib.hid (join_take hlt)
      have hjl := join_le hs (k + 1)
      rw [HJ.out, List.length_append] at hjl
      have hes := HES.out _ (List.getElem_mem hlt)
      have hel := hes.len
      have HE := Lib.hid hE
      have HLE := Lib.hid (HLL.out _ (List.getElem_mem hlt))
      generalize hs[k] = h at *
      obtain ⟨oa, o, na, nn, es⟩ := h
      simp only at c0 c1 c2 c3 c4 HJ hjl hes HE hel HLE
      obtain ⟨W1, hW1⟩ : ∃ W : World, W = wr.alloc (hkC oa o na nn EA es.length ec) := ⟨_, rfl⟩
      have hX := heap_alloc_new wr (hkC oa o na nn EA es.length ec)
      rw [← hW1] at hX
      obtain ⟨x0, x1, x2, x3, x4⟩ := hkC_cells hX
      have HG1 := Lib.hid (HG.out.below (show Below wr.heap.size wr W1 by rw [hW1]; exact alloc1 _ _))
      have h0k : (0 : Int) ≤ (k : Int) := by omega
      have hki : (k : Int) < (hs.length : Int) := by omega
      obtain ⟨pre, hpre⟩ : ∃ pre, pre = join (hs.take k) := ⟨_, rfl⟩
      rw [← hpre] at HJ HG1 hjl
      clear hX hE hes HG hpre
      unfold maxLen at hel
      go_upto_region 5 with fail
      rw [← hW1]
      obtain ⟨xb, hxb⟩ : ∃ xb, xb = wr.heap.size := ⟨_, rfl⟩
      rw [← hxb] at x0 x1 x2 x3 x4 ⊢
      clear hW1 hxb c0 c1 c2 c3 c4
      go_wp2_with fail
      go_loopg [17, 3] es.length (fun m iv sv wx => ∃ (j : Nat) (SA : Option Addr) (cap : Nat) (rs : List Raw), j ≤ es.length ∧ iv = .int .i64 j ∧ sv = .slice SA rs.length cap ∧ es.length - j ≤ m ∧ Hid (Gt w wx (.slice SA rs.length cap) rs (pre ++ es.take j)))
      case atStart => exact ⟨0, SA, cap, rs, Nat.zero_le _, rfl, rfl, by omega, Lib.hid (by simpa using HG1.out)⟩
      case round =>
        clear HG1
        obtain ⟨j, SA, cap, rs, hj2, rfl, rfl, hmj, HG⟩ := hrel
        by_cases hjt : j < es.length
        · obtain ⟨bk, off, LA, lc, hAe, d0, d1, g2, g3, g4⟩ := edit_at HE.out HG.out.b hjt
          subst hAe
          have HT := Lib.hid (List.take_succ_eq_append_getElem hjt)
          have hlj := HLE.out _ (List.getElem_mem hjt)
          generalize es[j] = e at *
          obtain ⟨d, l⟩ := e
          simp only at d0 d1 g2 g3 hlj
          obtain ⟨W2, hW2⟩ : ∃ W : World, W = wr.alloc (.cells #[.int .i64 d, .slice LA l.length lc] 47) := ⟨_, rfl⟩
          have hX := heap_alloc_new wr (.cells #[.int .i64 d, .slice LA l.length lc] 47)
          rw [← hW2] at hX
          have HG2 := Lib.hid (HG.out.below (show Below wr.heap.size wr W2 by rw [hW2]; exact alloc1 _ _))
          have hCL : ∀ W, Kx W2 (.slice SA rs.length cap) W → Calls Try.prog 32 #[.slice LA l.length lc] W (LcEnd W l) := fun W h => lclone_any LA lc l W (g2.below (HG2.out.b.grown h.g HG2.out.b.size (fun q e => own_base HG.out.o q e))) g4 hlj
          have HCL := Lib.hid hCL
          have h0j : (0 : Int) ≤ (j : Int) := by omega
          have hji : (j : Int) < (es.length : Int) := by omega
          have HSX : Hid (∀ wz, Kx W2 (.slice SA rs.length cap) wz → wz.cell? ⟨wr.heap.size, 0, none⟩ = some (.int .i64 d) ∧ wz.cell? ⟨wr.heap.size, 1, none⟩ = some (.slice LA l.length lc) ∧ Kx W2 (.slice SA rs.length cap) wz) := Lib.hid (fun wz hz => by
            have := (hz.g.block _ (L.blk_lt hX) (fun e => Nat.lt_irrefl _ (S.own_lt HG.out.o _ e.symm))).trans hX
            exact ⟨L.blk_cell this 0, L.blk_cell this 1, hz⟩)
          have HAD : Hid (∀ (w5 w6 : World) (NA : Option Addr) (nc g6 cap6 : Nat), Below W2.heap.size W2 w5 → w5.ownsRow W2.heap.size 51 2 (.slice NA l.length nc) l.length (lineCells l) → w6.ownsRow w.heap.size 47 2 (.slice (some ⟨g6, 0, none⟩) (rs.length + 1) cap6) (rs.length + 1) (rawCells rs ++ [.int .i64 d, .slice NA l.length nc]) → w5.grownBy w6 (Value.slice SA rs.length cap).ownBlock → ((Value.slice SA rs.length cap).ownBlock = some g6 ∨ g6 = w5.heap.size) → Gt w w6 (.slice (some ⟨g6, 0, none⟩) (rs ++ [Raw.mk d NA l.length nc]).length cap6) (rs ++ [Raw.mk d NA l.length nc]) (pre ++ es.take j ++ [(d, l)])) := Lib.hid (fun w5 w6 NA nc g6 cap6 hb5 ho5 ho6 hg6 hat => by
            refine HG2.out.addO hb5 hg6 (by rw [List.length_append, rawCells_app]; exact ho6) (by
              rcases hat with h | h
              · exact .inl (by rw [h]; rfl)
              · exact .inr (by rw [h]; rfl)) ⟨rfl, rfl, own_lines ho5, ?_, fun e => ?_, fun _ _ => Nat.zero_le _⟩ (fun p hp => ?_)
            · obtain ⟨_, _, e, hc, _⟩ := own_form ho5
              injection e with _ _ e
              simp only; omega
            · simp only at e; subst e; exact own_none ho5
            · obtain ⟨q1, q2⟩ := own_addr ho5 p hp
              exact ⟨q2, S.own_lt ho5 _ q1⟩)
          have hrn : rs.length ≤ 2000000 := by
            have := HG.out.r.1
            rw [List.length_append, List.length_take] at this
            omega
          clear hX g2 g3 g4 hCL HG
          go_upto_region 8 with fail
          rw [← hW2]
          obtain ⟨xe, hxe⟩ : ∃ xe, xe = wr.heap.size := ⟨_, rfl⟩
          rw [← hxe] at HSX ⊢
          clear hW2 hxe d0 d1
          refine wp_region_held_drew (S := fun wz => wz.cell? ⟨xe, 0, none⟩ = some (.int .i64 d) ∧ wz.cell? ⟨xe, 1, none⟩ = some (.slice LA l.length lc) ∧ Kx W2 (.slice SA rs.length cap) wz) (by kernel_rfl) (HSX.out _ ⟨grown_of ((Below.refl _ _).drew) _⟩) (fun hH0 => ?_)
          have HBA := Lib.hid ((Below.refl W2.heap.size W2).drew)
          generalize W2.drew = wA at *
          refine wpAnyH_take (i := 0) (v := ?_) rfl (by kernel_rfl) (by kernel_rfl) (by kernel_rfl) (fun _ _ _ h => h) (Or.inl ⟨by rfl, ?_⟩) hH0 ?_
          rotate_left
          · (intro wz hSz; (try dsimp only at hSz); go_simp; try with_reducible rfl)
          try simp only [Act.put, List.setIfInBounds_toArray, List.set_cons_zero, List.set_cons_succ]
          refine wpAnyH_take (i := 1) (v := ?_) rfl (by kernel_rfl) (by kernel_rfl) (by kernel_rfl) (fun _ _ _ h => h) (Or.inl ⟨by rfl, ?_⟩) hH0 ?_
          rotate_left
          · (intro wz hSz; (try dsimp only at hSz); go_simp; try with_reducible rfl)
          try simp only [Act.put, List.setIfInBounds_toArray, List.set_cons_zero, List.set_cons_succ]
          refine wpAnyH_take (i := 2) (v := ?_) rfl (by kernel_rfl) (by kernel_rfl) (by kernel_rfl) (fun _ _ _ h => h) (Or.inl ⟨by rfl, ?_⟩) hH0 ?_
          rotate_left
          · (intro wz hSz; (try dsimp only at hSz); go_simp; try with_reducible rfl)
          try simp only [Act.put, List.setIfInBounds_toArray, List.set_cons_zero, List.set_cons_succ]
          refine wpAnyH_take (i := 3) (v := ?_) rfl (by kernel_rfl) (by kernel_rfl) (by kernel_rfl) (fun _ _ _ h => h) (Or.inl ⟨by rfl, ?_⟩) hH0 ?_
          rotate_left
          · (intro wz hSz; (try dsimp only at hSz); go_simp; try with_reducible rfl)
          try simp only [Act.put, List.setIfInBounds_toArray, List.set_cons_zero, List.set_cons_succ]
          refine wpAnyH_take (i := 4) (v := ?_) rfl (by kernel_rfl) (by kernel_rfl) (by kernel_rfl) (fun _ _ _ h => h) (Or.inl ⟨by rfl, ?_⟩) hH0 ?_
          rotate_left
          · (intro wz hSz; (try dsimp only at hSz); go_simp; try with_reducible rfl)
          try simp only [Act.put, List.setIfInBounds_toArray, List.set_cons_zero, List.set_cons_succ]
          refine wpAnyH_ready (rs := [5]) (by kernel_rfl) (by simp) ?_
          refine AllReadyH.cons rfl (fun K hK => ?_) AllReadyH.nil
          go_simp
          with_reducible refine (HCL.out wA hH0.2.2).mono ?_
          rintro r w4 ⟨NA, nc, rfl, hon, hbq⟩
          go_wp2_with fail
          refine hK.out _ _ (HSX.out _ (hH0.2.2.below hbq)) (fun hH1 => ?_)
          have HON := Lib.hid (V.own_base_le hon HBA.out.size)
          have HB4 := Lib.hid (HBA.out.trans (hbq.mono HBA.out.size))
          clear hK K hbq hH0 HBA hon
          try simp only [Act.put, List.setIfInBounds_toArray, List.set_cons_zero, List.set_cons_succ]
          refine wpAnyH_take (i := 6) (v := ?_) rfl (by kernel_rfl) (by kernel_rfl) (by kernel_rfl) (fun _ _ _ h => h) (Or.inl ⟨by rfl, ?_⟩) hH1 ?_
          rotate_left
          · (intro wz hSz; (try dsimp only at hSz); go_simp; try with_reducible rfl)
          try simp only [Act.put, List.setIfInBounds_toArray, List.set_cons_zero, List.set_cons_succ]
          refine wpAnyH_ready (rs := [7]) (by kernel_rfl) (by simp) ?_
          refine AllReadyH.cons rfl (fun K hK => ?_) AllReadyH.nil
          go_simp
          refine hK.out _ _ (HSX.out _ (hH1.2.2.below (alloc1 w4 _))) (fun hH2 => ?_)
          have HNW := Lib.hid (World.news_of_block (heap_alloc_new w4 (.cells #[.int .i64 d, .slice NA l.length nc] 47)))
          have HB5 := Lib.hid (HB4.out.trans ((alloc1 w4 (.cells #[.int .i64 d, .slice NA l.length nc] 47)).mono HB4.out.size))
          have HON5 := Lib.hid (own_below HON.out (alloc1 w4 (.cells #[.int .i64 d, .slice NA l.length nc] 47)))
          have H1C : Hid (∀ u ∈ ([.int .i64 d, .slice NA l.length nc] : List Value), u.oneCell' = true) := Lib.hid (by intro u hu; simp at hu; rcases hu with rfl | rfl <;> rfl)
          clear hK K hH1 HB4 HON
          generalize w4.alloc (.cells #[.int .i64 d, .slice NA l.length nc] 47) = w5 at *
          generalize w4.heap.size = hb5 at *
          have HV5 := Lib.hid (own_below HG2.out.o HB5.out)
          have hsz : w.heap.size ≤ w5.heap.size := Nat.le_trans HG2.out.hs HB5.out.size
          try simp only [Act.put, List.setIfInBounds_toArray, List.set_cons_zero, List.set_cons_succ]
          refine wpAnyH_ready (rs := [8]) (by kernel_rfl) (by simp) ?_
          refine AllReadyH.cons rfl (fun K hK => ?_) AllReadyH.nil
          refine step_append_lies _ (by rfl) (.tmp 21) (.tmp 28) 22 (by rfl) w.heap.size 47 i0 _ 2 32 Try.underlying22 hi0 hz0 hz1 hz2 rfl (by decide) (.slice SA rs.length cap) rs.length (rawCells rs) (by rfl) HV5.out ⟨hb5, 0, none⟩ 1 1 [.int .i64 d, .slice NA l.length nc] (by rfl) rfl HNW.out H1C.out (by omega) (by unfold maxLen; omega) (by omega) (by omega) _ rfl ?_
          intro g6 cap6 w6 hown6 hg6 hat6 hlt6
          refine hK.out _ _ (HSX.out _ ⟨(grown_of HB5.out _).trans hg6⟩) (fun hH3 => ?_)
          have HFG := Lib.hid (HAD.out w5 w6 NA nc g6 cap6 HB5.out HON5.out hown6 hg6 hat6)
          clear hK K hH2 HV5 HNW H1C hsz hown6 hg6 hat6 HB5 HON5
          try simp only [Act.put, List.setIfInBounds_toArray, List.set_cons_zero, List.set_cons_succ]
          refine wpAnyH_take (i := 9) (v := ?_) rfl (by kernel_rfl) (by kernel_rfl) (by kernel_rfl) (fun _ _ _ h => h) (Or.inl ⟨by rfl, ?_⟩) hH3 ?_
          rotate_left
          · (intro wz hSz; (try dsimp only at hSz); go_simp; try with_reducible rfl)
          try simp only [Act.put, List.setIfInBounds_toArray, List.set_cons_zero, List.set_cons_succ]
          refine wpAnyH_done (by kernel_rfl) ?_ _
          clear hH3
          go_wp2_with fail
          go_roundg (es.length - (j + 1))
          case rel => exact ⟨j + 1, some ⟨g6, 0, none⟩, cap6, rs ++ [⟨d, NA, l.length, nc⟩], by omega, by go_num, by rw [List.length_append]; rfl, Nat.le_refl _, Lib.hid (by rw [HT.out, ← List.append_assoc]; exact HFG.out)⟩
          case measure => omega
        · obtain rfl : j = es.length := by omega
          have HGE : Hid (Gt w wr (.slice SA rs.length cap) rs (join (hs.take (k + 1)))) := Lib.hid (by rw [HJ.out, ← List.take_length (l := es)]; exact HG.out)
          clear HG
          go_wp2_with fail
          go_roundg (hs.length - (k + 1))
          case rel => exact ⟨k + 1, SA, cap, rs, by omega, by go_num, rfl, Nat.le_refl _, HGE⟩
          case measure => omega
    · obtain rfl : k = hs.length := by omega
      have HGE := Lib.hid (HG.out)
      have hrl : rs.length = (join hs).length := by have := HG.out.r.1; rw [List.take_length] at this; exact this
      go_wp2_with fail
      go_ret
      have h1 := HGE.out.o
      have h2 := HGE.out.r
      rw [List.take_length] at h2
      rw [hrl] at h1
      exact ⟨SA, cap, by rw [← hrl]; rfl, raws_eds h1 h2 (Nat.zero_le _), HGE.out.b⟩
end Go.Proofs.Ytimalohdchhjgaa.H

namespace Go.Proofs.Ytimalohdchhjgaa.H
set_option linter.unusedVariables false
set_option linter.unusedSimpArgs false
open Go.RowKit
open T S
open V (grown_of)
open I (alloc1 own_at own_below)
open N (Ln)

/-- Where raw edits stand. -/
def RawAt (w : World) (A : Option Addr) (rs : List Raw) : Prop := 0 < rs.length → ∃ bk off, A = some ⟨bk, off, none⟩ ∧ bk < w.heap.size ∧ ∀ j u, (rawCells rs)[j]? = some u → w.cell? ⟨bk, off + j, none⟩ = some u
theorem RawAt.below {w w' : World} {A : Option Addr} {rs : List Raw} (h : RawAt w A rs) (hb : Below w.heap.size w w') : RawAt w' A rs := fun hp => by
  obtain ⟨bk, off, e, hlt, hI⟩ := h hp
  exact ⟨bk, off, e, Nat.lt_of_lt_of_le hlt hb.size, fun j u hu => (hb.cell (p := ⟨bk, off + j, none⟩) hlt).trans (hI j u hu)⟩
theorem eds_rawAt {b : Nat} {w : World} {A : Option Addr} {es : List Ed} (h : EdsIn b w A es) : ∃ rs : List Raw, RawsOk b w rs es ∧ RawAt w A rs := by
  obtain ⟨rs, h1, h2⟩ := eds_raws h
  refine ⟨rs, h1, fun hp => ?_⟩
  obtain ⟨bk, off, e, _, hlt, hI⟩ := h2 (by rw [← h1.1]; exact hp)
  exact ⟨bk, off, e, hlt, hI⟩
theorem wpList_append_eds {w : World} {ops : Array Oper} {rest : List Oper} {o : Oper} {a : Act} {Q : Exit → Act → World → Prop} (hgd : o.guard = none) (s x : Operand)
    (ho : o.op = .call { callee := .builtin .append, args := #[s, x], argTypes := #[22, 22] })
    (base : Nat) (v : Value) (r0 rs : List Raw) (hs : a.eval s = v) (hown : w.ownsRow base 47 2 v r0.length (rawCells r0))
    (LA : Option Addr) (lc n : Nat) (hx : a.eval x = .slice LA n lc) (hnn : n = rs.length) (hL : RawAt w LA rs) (hn : LA = none → lc = 0) (hsm : r0.length + rs.length ≤ 4000000) (hbase : base ≤ w.heap.size)
    (h : ∀ v' w', w'.ownsRow base 47 2 v' (r0 ++ rs).length (rawCells (r0 ++ rs)) → w.grownBy w' v.ownBlock → wpList Try.prog ops Q rest (a.put o.dst v') w') :
    wpList Try.prog ops Q (o :: rest) a w := by
  obtain ⟨i0, hi0, hz0, hz1, hz2⟩ := info_parts infoEdit
  subst hnn
  have hlen : (rawCells rs).length = rs.length * 2 := rawCells_len rs
  cases LA with
  | none =>
    have hl0 : rs = [] := by
      rcases Nat.eq_zero_or_pos rs.length with h0 | hp
      · exact List.length_eq_zero_iff.1 h0
      · obtain ⟨_, _, h0, _⟩ := hL hp; cases h0
    obtain rfl := hn rfl
    subst hl0
    refine wpList_append_own_none hgd s x _ ho base 47 i0 2 Try.underlying22 hi0 v _ _ hs hown hx (h v w (by simpa using hown) ⟨rfl, rfl, rfl, Nat.le_refl _, fun _ _ _ => rfl⟩)
  | some ad =>
    refine wpList_append_own_at w hgd s x _ ho base 47 i0 _ 2 32 Try.underlying22 hi0 hz0 hz1 hz2 rfl (by decide) v _ _ hs hown ad rs.length lc (rawCells rs) hx hlen (fun j u hu => ?_) (rawCells_one rs) (by unfold maxLen; omega) (by omega) hbase (fun v' w' h1 h2 _ h4 => h v' w' (by rw [List.length_append, rawCells_app]; exact h1) h2)
    have hj : j < rs.length * 2 := by rw [← hlen]; exact (List.getElem?_eq_some_iff.1 hu).1
    obtain ⟨bk, off, e, _, hI⟩ := hL (by omega)
    injection e with e
    subst e
    rw [show (⟨bk, off, none⟩ : Addr).add j = ⟨bk, off + j, none⟩ by simp [Addr.add]]
    exact hI j u hu
/-- Edits that are gathered, whose lines were there before. -/
structure Jr (w0 w : World) (v : Value) (rs : List Raw) (es : List Ed) : Prop where
  own : w.ownsRow w0.heap.size 47 2 v rs.length (rawCells rs)
  r : RawsOk 0 w0 rs es
  b : Below w0.heap.size w0 w
theorem RawsOk.app {b : Nat} {w : World} {rs rs' : List Raw} {es es' : List Ed} (h : RawsOk b w rs es) (h' : RawsOk b w rs' es') : RawsOk b w (rs ++ rs') (es ++ es') := by
  refine ⟨by rw [List.length_append, List.length_append, h.1, h'.1], fun j h1 h2 => ?_⟩
  by_cases hj : j < rs.length
  · have hj' : j < es.length := by rw [← h.1]; exact hj
    rw [List.getElem_append_left hj, List.getElem_append_left hj']
    exact h.2 j hj hj'
  · have hj' : ¬ j < es.length := by rw [← h.1]; exact hj
    rw [List.getElem_append_right (by omega), List.getElem_append_right (by omega)]
    rw [List.length_append] at h1 h2
    have e : j - rs.length = j - es.length := by rw [h.1]
    have := h'.2 (j - rs.length) (by omega) (by rw [e]; omega)
    simp only [e] at this ⊢
    exact this
theorem Jr.below {w0 w w' : World} {v : Value} {rs : List Raw} {es : List Ed} (h : Jr w0 w v rs es) (hb : Below w.heap.size w w') : Jr w0 w' v rs es := ⟨own_below h.own hb, h.r, h.b.trans (hb.mono h.b.size)⟩
theorem Jr.nil (w : World) : Jr w w (.slice none 0 0) [] [] := ⟨World.ownsRow_nil _ _ _ _, ⟨rfl, fun j h => by simp at h⟩, Below.refl _ _⟩
theorem Jr.add {w0 w w1 w2 : World} {v v' : Value} {rs rs' : List Raw} {es es' : List Ed} (h : Jr w0 w v rs es) (hb : Below w.heap.size w w1) (hg : w1.grownBy w2 v.ownBlock) (ho : w2.ownsRow w0.heap.size 47 2 v' (rs ++ rs').length (rawCells (rs ++ rs'))) (hr : RawsOk 0 w0 rs' es') : Jr w0 w2 v' (rs ++ rs') (es ++ es') :=
  ⟨ho, RawsOk.app h.r hr, (h.below hb).b.grown hg (h.below hb).b.size (fun q e => own_base h.own q e)⟩
theorem Jr.read {w0 w : World} {A : Option Addr} {cap : Nat} {rs : List Raw} {es : List Ed} (h : Jr w0 w (.slice A rs.length cap) rs es) : rs.length = es.length ∧ EdsIn 0 w A es := by
  have h1 := h.own
  rw [h.r.1] at h1
  exact ⟨h.r.1, raws_eds h1 (h.r.below h.b) (Nat.zero_le _)⟩
set_option maxRecDepth 100000 in
set_option maxHeartbeats 4000000 in
theorem rjoin_any (A : Option Addr) (c b : Nat) (hs : List Hk) (w : World) (hH : HksIn b w A hs) (hok : HksOk hs) (hj : (join hs).length ≤ 2000000) :
    Calls Try.prog 17 #[.slice A hs.length c] w (JnEnd w (join hs)) := by
  have HH := Lib.hid (hH.low (Nat.zero_le _))
  have hl := hok.len
  unfold maxLen at hl
  obtain ⟨W0, hW0⟩ : ∃ W : World, W = w.alloc (.cells #[] 47) := ⟨_, rfl⟩
  have HJ0 : Hid (Jr w W0 (.slice (some ⟨w.heap.size, 0, none⟩) ([] : List Raw).length 0) [] []) := Lib.hid ⟨by rw [hW0]; exact World.ownsRow_made (size := 2) (e := 47) w #[] 0 (Nat.le_refl _) (by unfold maxLen; omega) rfl, ⟨rfl, fun j h => by simp at h⟩, by rw [hW0]; exact alloc1 _ _⟩
  clear hH hok
  go_enter Try.func17, Try.ntmps17
  go_upto_region 2 with fail
  rw [← hW0]
  obtain ⟨ob, hob⟩ : ∃ ob, ob = w.heap.size := ⟨_, rfl⟩
  rw [← hob] at HJ0 ⊢
  clear hW0 hob
  go_wp2_with fail
  go_loopg [4, 3] hs.length (fun m iv sv wr => ∃ (k : Nat) (SA : Option Addr) (cap : Nat) (rs : List Raw), k ≤ hs.length ∧ iv = .int .i64 k ∧ sv = .slice SA rs.length cap ∧ hs.length - k ≤ m ∧ Hid (Jr w wr (.slice SA rs.length cap) rs (join (hs.take k))))
  case atStart => exact ⟨0, _, _, [], Nat.zero_le _, rfl, rfl, by omega, HJ0⟩
  case round =>
    clear HJ0
    obtain ⟨k, SA, cap, rs, hk, rfl, rfl, hmm, HG⟩ := hrel
    by_cases hlt : k < hs.length
    · obtain ⟨bk, off, EA, ec, hAe, c0, c1, c2, c3, c4, hE, -, hez⟩ := hunk_at HH.out HG.out.b hlt
      subst hAe
      obtain ⟨rs', hr', hat'⟩ := eds_rawAt hE
      have HR := Lib.hid hr'
      have HAT := Lib.hid (hat'.below HG.out.b)
      have HEZ := Lib.hid hez
      have HJT := Lib.hid (join_take hlt)
      have hjl := join_le hs (k + 1)
      rw [HJT.out, List.length_append] at hjl
      have hrl := HG.out.r.1
      have hrl' := hr'.1
      rw [← hrl'] at c4
      have HBW := Lib.hid (show w.heap.size ≤ wr.heap.size from HG.out.b.size)
      have HADD : Hid (∀ v' w2, w2.ownsRow w.heap.size 47 2 v' (rs ++ rs').length (rawCells (rs ++ rs')) → wr.grownBy w2 (Value.slice SA rs.length cap).ownBlock → Jr w w2 v' (rs ++ rs') (join (hs.take (k + 1)))) := Lib.hid (fun v' w2 h1 h2 => by rw [HJT.out]; exact HG.out.add (Below.refl _ _) h2 h1 HR.out)
      have h0k : (0 : Int) ≤ (k : Int) := by omega
      have hki : (k : Int) < (hs.length : Int) := by omega
      have hbd : rs.length + rs'.length ≤ 4000000 := by omega
      clear hE hr' hat' hez c0 c1 c2 c3 hrl hrl' hjl
      go_wp2_with (at_builtin; refine wpList_append_eds (w := wr) rfl (.tmp 12) (.tmp 17) rfl w.heap.size (.slice SA rs.length cap) rs rs' rfl HG.out.own EA ec rs'.length rfl rfl HAT.out HEZ.out hbd HBW.out ?_; intro v' w2 ho2 hg2; have HN := Lib.hid (HADD.out v' w2 ho2 hg2); clear ho2 hg2)
      obtain ⟨VA, vc, rfl, -, -⟩ := own_form HN.out.own
      go_roundg (hs.length - (k + 1))
      case rel => exact ⟨k + 1, VA, vc, rs ++ rs', by omega, by go_num, rfl, Nat.le_refl _, HN⟩
      case measure => omega
    · obtain rfl : k = hs.length := by omega
      rw [List.take_length] at HG
      obtain ⟨h1, h2⟩ := HG.out.read
      have HE := Lib.hid h2
      have HB := Lib.hid HG.out.b
      have HRL := Lib.hid h1
      clear h1 h2
      go_wp2_with fail
      go_ret
      exact ⟨SA, cap, by rw [← HRL.out]; rfl, HE.out, HB.out⟩
/-- A stretch of lines that stay. -/
def StEnd (B : Option Addr) (a : List Ln) (w : World) (l : List Ln) (e : Ending) (w' : World) : Prop :=
  ∃ A, e = .returned (.agg #[.int .i64 1, .slice A l.length l.length]) ∧ (∀ w0, LinesIn w0 B a → LinesIn w0 A l) ∧ (A = none → l.length = 0) ∧ Below w.heap.size w w'
set_option maxRecDepth 100000 in
set_option maxHeartbeats 4000000 in
theorem stay_any (A : Option Addr) (c p q : Nat) (a : List Ln) (w : World) (hL : LinesIn w A a) (hc : a.length ≤ c) (hpq : p ≤ q) (hq : q ≤ a.length) :
    Calls Try.prog 36 #[.slice A a.length c, .int .i64 (p : Int), .int .i64 (q : Int)] w (StEnd A a w ((a.drop p).take (q - p))) := by
  have hlen : ((a.drop p).take (q - p)).length = q - p := by rw [List.length_take, List.length_drop]; omega
  have h0p : (0 : Int) ≤ (p : Int) := by omega
  have hpq' : (p : Int) ≤ (q : Int) := by omega
  have hqn : (q : Int) ≤ (a.length : Int) := by omega
  have hqc : (q : Int) ≤ (c : Int) := by omega
  have HL := Lib.hid hL
  unfold StEnd
  rw [hlen]
  obtain ⟨n, hn⟩ : ∃ n, n = a.length := ⟨_, rfl⟩
  have HN := Lib.hid hn
  rw [← hn] at hc hqn hq ⊢
  have hx0 := heap_alloc_new w (.cells #[.int .i64 0, .slice none 0 0] 47)
  have HB1 := Lib.hid (alloc1 w (.cells #[.int .i64 0, .slice none 0 0] 47))
  clear hL hn
  cases A with
  | none =>
    have h0 : n = 0 := by
      rcases Nat.eq_zero_or_pos n with h | h
      · exact h
      · obtain ⟨_, _, e, _⟩ := HL.out (by rw [← HN.out]; exact h); cases e
    obtain rfl : q = 0 := by omega
    obtain rfl : p = 0 := by omega
    subst h0
    clear hx0
    have hx0 := heap_alloc_new w (.cells #[.int .i64 1, .slice none 0 0] 47)
    have q0 := L.blk_cell hx0 0
    have q1 := L.blk_cell hx0 1
    simp only [List.getElem?_toArray, List.getElem?_cons_zero, List.getElem?_cons_succ] at q0 q1
    have HQ := Lib.hid (And.intro q0 q1)
    clear q0 q1 hx0
    go_enter Try.func36, Try.ntmps36
    go_wp2_with fail
    obtain ⟨q0, q1⟩ := HQ.out
    exact bodyPost_ret (v := .agg #[.int .i64 1, .slice none 0 0]) (by simp [results, Try.results36, go_sem, q0, q1]) rfl ⟨none, rfl, fun _ _ h => absurd h (by simp), (fun _ => by first | rfl | trivial), alloc1 w _⟩
  | some ad =>
    clear hx0
    by_cases hpe : p = q
    · subst hpe
      have hx0 := heap_alloc_new w (.cells #[.int .i64 1, .slice (some ad) 0 0] 47)
      have q0 := L.blk_cell hx0 0
      have q1 := L.blk_cell hx0 1
      simp only [List.getElem?_toArray, List.getElem?_cons_zero, List.getElem?_cons_succ] at q0 q1
      have HQ := Lib.hid (And.intro q0 q1)
      rw [Nat.sub_self]
      clear q0 q1 hx0
      go_enter Try.func36, Try.ntmps36
      go_wp2_with fail
      obtain ⟨q0, q1⟩ := HQ.out
      exact bodyPost_ret (v := .agg #[.int .i64 1, .slice (some ad) 0 0]) (by simp [results, Try.results36, go_sem, q0, q1]) rfl ⟨some ad, rfl, fun _ _ h => absurd h (by simp), (fun e => by cases e), alloc1 w _⟩
    · have hqp : ¬ q = p := fun e => hpe e.symm
      obtain ⟨k, off, he, -, -⟩ := HL.out (by rw [← HN.out]; omega)
      obtain rfl := Option.some.inj he
      have hx0 := heap_alloc_new w (.cells #[.int .i64 1, .slice (some ⟨k, off + p * 2, none⟩) (q - p) (q - p)] 47)
      have q0 := L.blk_cell hx0 0
      have q1 := L.blk_cell hx0 1
      simp only [List.getElem?_toArray, List.getElem?_cons_zero, List.getElem?_cons_succ] at q0 q1
      have HQ := Lib.hid (And.intro q0 q1)
      have HLL : Hid (∀ w0, LinesIn w0 (some ⟨k, off, none⟩) a → LinesIn w0 (some ⟨k, off + p * 2, none⟩) ((a.drop p).take (q - p))) := Lib.hid (fun w0 h => lines_take (lines_drop h p) (q - p))
      clear q0 q1 hx0 hlen he
      go_enter Try.func36, Try.ntmps36
      go_wp2_with fail
      obtain ⟨q0, q1⟩ := HQ.out
      exact bodyPost_ret (v := .agg #[.int .i64 1, .slice (some ⟨k, off + p * 2, none⟩) (q - p) (q - p)]) (by simp [results, Try.results36, go_sem, q0, q1]) rfl ⟨some ⟨k, off + p * 2, none⟩, rfl, HLL.out, (fun e => by cases e), alloc1 w _⟩
set_option maxRecDepth 100000 in
set_option maxHeartbeats 4000000 in
theorem stands_any (EA B : Option Addr) (ec c : Nat) (h : Hk) (a : List Ln) (w : World) (hE : EdsIn 0 w EA h.es) (hok : EdsOk h.es) (hL : LinesIn w B a) (hc : a.length ≤ c) (ha : a.length ≤ 400) (h1 : ok4 h.oa) (h2 : ok4 h.o) (hck : ck h.es = 0) :
    Calls Try.prog 35 #[hkV h.oa h.o h.na h.n EA h.es.length ec, .slice B a.length c] w (BlEnd w (stn a h)) := by
  obtain ⟨oa, o, na, nn, es⟩ := h
  simp only at hE hok h1 h2 hck
  obtain ⟨p, rfl⟩ : ∃ p : Nat, oa = (p : Int) := ⟨oa.toNat, by have := h1.1; omega⟩
  obtain ⟨m, rfl⟩ : ∃ m : Nat, o = (m : Int) := ⟨o.toNat, by have := h2.1; omega⟩
  obtain ⟨h1a, h1b⟩ := h1
  obtain ⟨h2a, h2b⟩ := h2
  have hST : stn a ⟨p, m, na, nn, es⟩ = decide (p + m ≤ a.length ∧ (sides es).1 = (a.drop p).take m) := by
    unfold stn
    simp only [Int.toNat_natCast]
    rw [decide_eq_decide]
    constructor
    · rintro ⟨q1, q2⟩; exact ⟨by omega, q2⟩
    · rintro ⟨q1, q2⟩; exact ⟨by omega, q2⟩
  have hsl := sides_len es
  obtain ⟨W1, hW1⟩ : ∃ W : World, W = w.alloc (hkC p m na nn EA es.length ec) := ⟨_, rfl⟩
  have hX := heap_alloc_new w (hkC p m na nn EA es.length ec)
  rw [← hW1] at hX
  have hb1 : Below w.heap.size w W1 := by rw [hW1]; exact alloc1 _ _
  have HB1 := Lib.hid hb1
  have HX := Lib.hid hX
  have HSD := Lib.hid (sides_read EA ec 0 es W1 (hE.below hb1) hok)
  rw [hck] at HSD
  have HL := Lib.hid hL
  obtain ⟨x0, x1, x2, x3, x4⟩ := hkC_cells hX
  have hw : IntKind.i64.wrap ((p : Int) + (m : Int)) = (p : Int) + (m : Int) := by rw [IntKind.wrap_i64]; omega
  unfold BlEnd hkV
  rw [hST]
  simp only
  clear hX hb1 hE hok hL hck hST
  obtain ⟨n, hn⟩ : ∃ n, n = a.length := ⟨_, rfl⟩
  have HN := Lib.hid hn
  rw [← hn] at hc ha ⊢
  clear hn
  obtain ⟨R, hR⟩ : ∃ R, R = decide (p + m ≤ n ∧ (sides es).1 = (a.drop p).take m) := ⟨_, rfl⟩
  rw [← hR]
  have HR := Lib.hid hR
  clear hR
  go_enter Try.func35, Try.ntmps35
  go_upto_region 1 with fail
  rw [← hW1]
  obtain ⟨xb, hxb⟩ : ∃ xb, xb = w.heap.size := ⟨_, rfl⟩
  rw [← hxb] at x0 x1 x2 x3 x4 HX ⊢
  clear hW1 hxb
  go_wp2_with fail
  with_reducible refine (HSD.out).mono ?_
  rintro e w2 ⟨XA, xc, YA, yc, rfl, hX2, -, hb2⟩
  have HX2 := Lib.hid hX2
  have hx2 := (hb2.block _ (L.blk_lt HX.out)).trans HX.out
  have HB2 := Lib.hid (HB1.out.trans (hb2.mono HB1.out.size))
  clear HSD hX2 hb2 x0 x1 x2 x3 x4
  obtain ⟨x0, x1, x2, x3, x4⟩ := hkC_cells hx2
  clear hx2 HX
  by_cases hle : p + m ≤ n
  · have hd : decide ((p : Int) + (m : Int) ≤ (n : Int)) = true := decide_eq_true (by omega)
    have hpm : (p : Int) ≤ (p : Int) + (m : Int) := by omega
    have hmc : (p : Int) + (m : Int) ≤ (c : Int) := by omega
    have hmn : (p : Int) + (m : Int) ≤ (n : Int) := by omega
    have h0p : (0 : Int) ≤ (p : Int) := by omega
    have hlm : ((a.drop p).take m).length = m := by rw [List.length_take, List.length_drop, ← HN.out]; omega
    have HRES : Hid (R = decide ((sides es).1 = (a.drop p).take m)) := Lib.hid (by rw [HR.out]; simp [hle])
    have HEQ := Lib.hid (fun (A2 : Option Addr) (hA : LinesIn w2 A2 ((a.drop p).take m)) => equal_gen XA A2 xc m (sides es).1 ((a.drop p).take m) w2 (by unfold maxLen; omega) (by unfold maxLen; omega) HX2.out hA)
    rw [hlm, ← HRES.out] at HEQ
    have HL2 := Lib.hid (HL.out.below HB2.out)
    have HLM := Lib.hid hlm
    clear HRES hlm hle HR
    generalize (sides es).1.length = sl at *
    generalize (sides es).2.length = sl2 at *
    cases B with
    | none =>
      have h0 : n = 0 := by
        rcases Nat.eq_zero_or_pos n with h | h
        · exact h
        · obtain ⟨_, _, e, _⟩ := HL.out (by rw [← HN.out]; exact h); cases e
      obtain rfl : p = 0 := by omega
      obtain rfl : m = 0 := by omega
      have HQ := Lib.hid (HEQ.out none (fun h => absurd h (by rw [HLM.out]; simp)))
      clear HEQ
      subst h0
      go_wp2_with fail
      with_reducible refine (HQ.out).mono ?_
      rintro e w3 ⟨rfl, hb3⟩
      have HB3 := Lib.hid (HB2.out.trans (hb3.mono HB2.out.size))
      clear hb3 HQ
      go_wp2_with fail
      go_ret
      exact ⟨rfl, HB3.out⟩
    | some ad =>
      by_cases hm0 : m = 0
      · subst hm0
        have HQ := Lib.hid (HEQ.out (some ad) (fun h => absurd h (by rw [HLM.out]; simp)))
        clear HEQ
        go_wp2_with fail
        with_reducible refine (HQ.out).mono ?_
        rintro e w3 ⟨rfl, hb3⟩
        have HB3 := Lib.hid (HB2.out.trans (hb3.mono HB2.out.size))
        clear hb3 HQ
        go_wp2_with fail
        go_ret
        exact ⟨rfl, HB3.out⟩
      · obtain ⟨k, off, he, -, -⟩ := HL.out (by rw [← HN.out]; omega)
        obtain rfl := Option.some.inj he
        have HQ := Lib.hid (HEQ.out (some ⟨k, off + p * 2, none⟩) (lines_take (lines_drop HL2.out p) m))
        clear HEQ he
        go_wp2_with fail
        with_reducible refine (HQ.out).mono ?_
        rintro e w3 ⟨rfl, hb3⟩
        have HB3 := Lib.hid (HB2.out.trans (hb3.mono HB2.out.size))
        clear hb3 HQ
        go_wp2_with fail
        go_ret
        exact ⟨rfl, HB3.out⟩
  · have hd : decide ((p : Int) + (m : Int) ≤ (n : Int)) = false := decide_eq_false (by omega)
    have HRES : Hid (R = false) := Lib.hid (by rw [HR.out]; simp [hle])
    go_wp2_with fail
    go_ret
    exact ⟨by rw [HRES.out]; rfl, HB2.out⟩
end Go.Proofs.Ytimalohdchhjgaa.H

namespace Go.Proofs.Ytimalohdchhjgaa.H
set_option linter.unusedVariables false
set_option linter.unusedSimpArgs false
open Go.RowKit
open T S
open V (grown_of)
open I (alloc1 own_at own_below)
open N (Ln)

theorem chain_mem : ∀ {hs : List Hk} {x y : Int}, chain x y hs = true → ∀ h ∈ hs, rgt h = true
  | h :: r, x, y, hc, z, hz => by
    rw [chain, Bool.and_eq_true, Bool.and_eq_true] at hc
    rcases List.mem_cons.1 hz with rfl | hz
    · exact hc.1.1
    · exact chain_mem hc.2 z hz
theorem rgt_ck {h : Hk} (hr : rgt h = true) : ck h.es = 0 := by
  by_cases e : ck h.es = 0
  · exact e
  · unfold rgt at hr; rw [decide_eq_false e] at hr; simp at hr
theorem wl_len (a : List Ln) : ∀ (hs : List Hk) (p : Nat), (∀ h ∈ hs, h.es.length ≤ 800) → (wl a p hs).length ≤ 1 + hs.length * 801
  | [], p, _ => by simp [wl]
  | h :: r, p, hh => by
    have := wl_len a r (h.oa + h.o).toNat (fun z hz => hh z (List.mem_cons_of_mem _ hz))
    have h1 := hh h (List.mem_cons_self ..)
    rw [wl, List.length_cons, List.length_append, List.length_cons]
    omega
theorem wl_lines (a : List Ln) (ha : a.length ≤ 400) : ∀ (hs : List Hk) (p : Nat), (∀ h ∈ hs, ∀ e ∈ h.es, e.2.length ≤ 800) → ∀ e ∈ wl a p hs, e.2.length ≤ 800
  | [], p, _, e, he => by
    simp only [wl, List.mem_singleton] at he
    subst he
    simp only [List.length_drop]; omega
  | h :: r, p, hh, e, he => by
    rw [wl] at he
    rcases List.mem_cons.1 he with rfl | he
    · simp only [List.length_take, List.length_drop]; omega
    · rcases List.mem_append.1 he with he | he
      · exact hh h (List.mem_cons_self ..) e he
      · exact wl_lines a ha r _ (fun z hz => hh z (List.mem_cons_of_mem _ hz)) e he
theorem tl_each {es : List Ed} {e : Ed} (he : e ∈ es) : e.2.length ≤ tl es := by
  induction es with
  | nil => cases he
  | cons x r ih =>
    rw [show tl (x :: r) = x.2.length + tl r by simp [tl]]
    rcases List.mem_cons.1 he with rfl | he
    · omega
    · have := ih he; omega
theorem hck_ok {hs : List Hk} (h : hck hs = 0) : hs.length ≤ 400 ∧ chain 0 0 hs = true := by
  unfold hck at h
  split at h
  · cases h
  · rename_i h1
    split at h
    · rename_i h2; exact ⟨by omega, h2⟩
    · cases h
theorem raw1_at {w : World} {x : Nat} {d : Int} {A : Option Addr} {n c : Nat} (h : w.heap[x]? = some (.cells #[.int .i64 d, .slice A n c] 47 (0, 0))) : RawAt w (some ⟨x, 0, none⟩) [⟨d, A, n, c⟩] := fun _ => ⟨x, 0, rfl, L.blk_lt h, fun j u hu => by
  have hj : j < 2 := by have := (List.getElem?_eq_some_iff.1 hu).1; simpa [rawCells] using this
  rw [Nat.zero_add, L.blk_cell h j]
  match j, hj with
  | 0, _ => exact hu
  | 1, _ => exact hu⟩
set_option maxRecDepth 100000 in
set_option maxHeartbeats 8000000 in
theorem whole_any (A B : Option Addr) (c c' b : Nat) (hs : List Hk) (a : List Ln) (w : World) (hH : HksIn b w A hs) (hok : HksOk hs) (hL : LinesIn w B a) (hc : a.length ≤ c') (ham : a.length ≤ maxLen) :
    Calls Try.prog 20 #[.slice A hs.length c, .slice B a.length c'] w (RnEnd w (whl hs a).1 (whl hs a).2) := by
  have HC := Lib.hid (hcheck_any A c b hs w hH hok)
  have HH := Lib.hid (hH.low (Nat.zero_le _))
  have hl := hok.len
  have HES := Lib.hid hok.es
  have HL := Lib.hid hL
  unfold maxLen at hl ham
  unfold CkEnd at HC
  clear hH hok hL
  by_cases hq0 : hck hs = 0
  · rw [hq0] at HC
    by_cases halong : 400 < a.length
    · have HW : Hid (whl hs a = ([], 4)) := Lib.hid (by unfold whl; rw [if_pos hq0, if_pos halong])
      rw [HW.out]
      have h4 : (400 : Int) < (a.length : Int) := by omega
      clear hq0 halong HW
      go_enter Try.func20, Try.ntmps20
      go_wp2_with fail
      with_reducible refine (HC.out).mono ?_
      rintro e w1 ⟨rfl, hb1⟩
      go_wp2_with fail
      go_ret2
      exact ⟨none, 0, rfl, fun h => absurd h (by simp), hb1⟩
    · have h4 : ¬ (400 : Int) < (a.length : Int) := by omega
      have ha4 : a.length ≤ 400 := by omega
      obtain ⟨hn4, hch⟩ := hck_ok hq0
      have HW8 : Hid (hs.all (stn a) = false → whl hs a = ([], 8)) := Lib.hid (fun h => by unfold whl; rw [if_pos hq0, if_neg halong, if_neg (by rw [h]; simp)])
      have HW0 : Hid (hs.all (stn a) = true → whl hs a = (nrm (wl a 0 hs), ck (wl a 0 hs))) := Lib.hid (fun h => by unfold whl; rw [if_pos hq0, if_neg halong, if_pos h])
      generalize whl hs a = RES at *
      obtain ⟨res, eres⟩ := RES
      have HCH := Lib.hid hch
      have HEL : Hid (∀ h ∈ hs, h.es.length ≤ 800 ∧ ∀ e ∈ h.es, e.2.length ≤ 800) := Lib.hid (fun h hm => by
        have := ck_ok (rgt_ck (chain_mem hch h hm))
        exact ⟨this.1, fun e he => Nat.le_trans (tl_each he) this.2.1⟩)
      clear hq0 halong hch
      simp only at HW8 HW0 ⊢
      obtain ⟨an, han⟩ : ∃ n, n = a.length := ⟨_, rfl⟩
      have HAN := Lib.hid han
      rw [← han] at h4 ha4 hc ham ⊢
      clear han
      go_enter Try.func20, Try.ntmps20
      go_wp2_with fail
      with_reducible refine (HC.out).mono ?_
      rintro e w1 ⟨rfl, hb1⟩
      have HB1 := Lib.hid hb1
      clear hb1 HC
      go_wp2_with fail
      go_loopg [21, 7, 8] hs.length (fun m iv sv pv wr => ∃ (k p : Nat) (y : Int) (SA : Option Addr) (cap : Nat) (rs : List Raw) (es0 : List Ed), k ≤ hs.length ∧ iv = .int .i64 k ∧ sv = .slice SA rs.length cap ∧ pv = .int .i64 p ∧ hs.length - k ≤ m ∧ p ≤ an ∧ rs.length ≤ k * 801 ∧ Hid (Jr w1 wr (.slice SA rs.length cap) rs es0) ∧ Hid (es0 ++ wl a p (hs.drop k) = wl a 0 hs) ∧ Hid ((hs.take k).all (stn a) = true) ∧ Hid (chain (p : Int) y (hs.drop k) = true))
      case atStart => exact ⟨0, 0, 0, none, 0, [], [], Nat.zero_le _, rfl, rfl, rfl, by omega, Nat.zero_le _, by simp, Lib.hid (Jr.nil w1), Lib.hid (by simp), Lib.hid rfl, Lib.hid (by simpa using HCH.out)⟩
      case round =>
        obtain ⟨k, p, y, SA, cap, rs, es0, hk, rfl, rfl, rfl, hmm, hpa, hrn, HJ, HWL, HAL, HCN⟩ := hrel
        have HBW := Lib.hid (HB1.out.trans (HJ.out.b.mono HB1.out.size))
        by_cases hlt : k < hs.length
        · obtain ⟨bk, off, EA, ec, hAe, c0, c1, c2, c3, c4, hE, -, hez⟩ := hunk_at HH.out HBW.out hlt
          subst hAe
          have hcc := HCN.out
          rw [chain_cons hlt, Bool.and_eq_true, Bool.and_eq_true] at hcc
          obtain ⟨⟨hr, hf⟩, hcn⟩ := hcc
          have hnum := rgt_nums hr
          have hckh := rgt_ck hr
          have hel := (HEL.out _ (List.getElem_mem hlt)).1
          have hes := HES.out _ (List.getElem_mem hlt)
          have hwl : wl a p (hs.drop k) = (1, (a.drop p).take (hs[k].oa.toNat - p)) :: (hs[k].es ++ wl a (hs[k].oa + hs[k].o).toNat (hs.drop (k + 1))) := by rw [List.drop_eq_getElem_cons hlt, wl]
          have HTA : Hid ((hs.take (k + 1)).all (stn a) = ((hs.take k).all (stn a) && stn a hs[k])) := Lib.hid (by rw [List.take_succ_eq_append_getElem hlt, List.all_append]; simp)
          have HFA : Hid (stn a hs[k] = false → hs.all (stn a) = false) := Lib.hid (fun h => by
            rw [List.all_eq_false]
            exact ⟨hs[k], List.getElem_mem hlt, by rw [h]; simp⟩)
          have hpo : (p : Int) ≤ hs[k].oa := (of_decide_eq_true hf).1
          have hh : hs[k] = ⟨hs[k].oa, hs[k].o, hs[k].na, hs[k].n, hs[k].es⟩ := rfl
          have hstn : stn a hs[k] = true → hs[k].oa + hs[k].o ≤ (a.length : Int) := fun h => (of_decide_eq_true h).1
          rw [hh] at HTA HFA hstn
          simp only at HTA HFA hstn
          rw [hwl] at HWL
          clear hwl hh HCN hf
          obtain ⟨⟨n1a, n1b⟩, ⟨n2a, n2b⟩, -, -⟩ := hnum
          obtain ⟨q, hq⟩ : ∃ q : Nat, hs[k].oa = (q : Int) := ⟨hs[k].oa.toNat, by omega⟩
          obtain ⟨m, hm⟩ : ∃ m : Nat, hs[k].o = (m : Int) := ⟨hs[k].o.toNat, by omega⟩
          rw [hq] at c0 n1a n1b hpo hcn HWL HTA HFA hstn
          rw [hm] at c1 n2a n2b hcn HWL HTA HFA hstn
          rw [show ((q : Int) + (m : Int)).toNat = q + m by omega, Int.toNat_natCast] at HWL
          rw [show ((q : Int) + (m : Int)) = ((q + m : Nat) : Int) by omega] at hcn
          rw [← HAN.out] at hstn
          have HCN1 := Lib.hid hcn
          clear hcn hq hm hr
          generalize hs[k].na + hs[k].n = y1 at *
          generalize hs[k].na = na at *
          generalize hs[k].n = nn at *
          generalize hs[k].es = es at *
          obtain ⟨W1, hW1⟩ : ∃ W : World, W = wr.alloc (hkC q m na nn EA es.length ec) := ⟨_, rfl⟩
          have hX := heap_alloc_new wr (hkC q m na nn EA es.length ec)
          rw [← hW1] at hX
          have hb1 : Below wr.heap.size wr W1 := by rw [hW1]; exact alloc1 _ _
          have HBX := Lib.hid (HBW.out.trans (hb1.mono HBW.out.size))
          have HJ1 := Lib.hid (HJ.out.below hb1)
          have HX := Lib.hid hX
          have HST := Lib.hid (stands_any EA B ec c' ⟨q, m, na, nn, es⟩ a W1 (hE.below HBX.out) hes (HL.out.below HBX.out) (by rw [← HAN.out]; exact hc) (by rw [← HAN.out]; exact ha4) ⟨n1a, n1b⟩ ⟨n2a, n2b⟩ hckh)
          unfold hkV BlEnd at HST
          simp only at HST
          rw [← HAN.out] at HST
          have HE := Lib.hid (hE.below HB1.out)
          have HEZ := Lib.hid hez
          obtain ⟨x0, x1, x2, x3, x4⟩ := hkC_cells hX
          have h0k : (0 : Int) ≤ (k : Int) := by omega
          have hki : (k : Int) < (hs.length : Int) := by omega
          have hwq : IntKind.i64.wrap ((q : Int) + (m : Int)) = (q : Int) + (m : Int) := by rw [IntKind.wrap_i64]; omega
          clear hX hE hes HJ hb1 hez hckh
          go_upto_region 11 with fail
          rw [← hW1]
          obtain ⟨xb, hxb⟩ : ∃ xb, xb = wr.heap.size := ⟨_, rfl⟩
          rw [← hxb] at x0 x1 x2 x3 x4 HX ⊢
          clear hW1 hxb c0 c1 c2 c3 c4
          cases hst : stn a ⟨q, m, na, nn, es⟩ with
          | false =>
            rw [hst] at HST
            have HR := Lib.hid (HW8.out (HFA.out hst))
            obtain ⟨rfl, rfl⟩ : res = [] ∧ eres = 8 := by have := HR.out; injection this with h1 h2; exact ⟨h1, h2⟩
            clear hst HW8 HW0 HR
            go_wp2_with fail
            with_reducible refine (HST.out).mono ?_
            rintro e w2 ⟨rfl, hb2⟩
            have HB2 := Lib.hid (HBX.out.trans (hb2.mono HBX.out.size))
            clear hb2 HST
            go_wp2_with fail
            go_ret2
            exact ⟨none, 0, rfl, fun h => absurd h (by simp), HB2.out⟩
          | true =>
            rw [hst] at HST
            have hqm := hstn hst
            have HAL1 : Hid ((hs.take (k + 1)).all (stn a) = true) := Lib.hid (by rw [HTA.out, HAL.out, hst]; rfl)
            clear hst hstn HTA HFA HAL
            go_wp2_with fail
            with_reducible refine (HST.out).mono ?_
            rintro e w2 ⟨rfl, hb2⟩
            have HB2 := Lib.hid (HBX.out.trans (hb2.mono HBX.out.size))
            have HX2 := Lib.hid ((hb2.block _ (L.blk_lt HX.out)).trans HX.out)
            have HJ2 := Lib.hid (HJ1.out.below hb2)
            clear hb2 HST x0 x1 x2 x3 x4 HX HJ1
            obtain ⟨x0, x1, x2, x3, x4⟩ := hkC_cells HX2.out
            have hpq : p ≤ q := by omega
            have hqn : q ≤ an := by omega
            obtain ⟨sl, hsl⟩ : ∃ l, l = (a.drop p).take (q - p) := ⟨_, rfl⟩
            have HSA := Lib.hid (stay_any B c' p q a w2 (HL.out.below HB2.out) (by rw [← HAN.out]; exact hc) hpq (by rw [← HAN.out]; exact hqn))
            rw [← hsl] at HSA HWL
            rw [← HAN.out] at HSA
            clear hsl
            go_wp2_with fail
            with_reducible refine (HSA.out).mono ?_
            rintro e w3 ⟨LA, rfl, hLA, hLz, hb3⟩
            have HB3 := Lib.hid (HB2.out.trans (hb3.mono HB2.out.size))
            have HX3 := Lib.hid ((hb3.block _ (L.blk_lt HX2.out)).trans HX2.out)
            have HJ3 := Lib.hid (HJ2.out.below hb3)
            have HR1 : Hid (RawsOk 0 w1 [⟨1, LA, sl.length, sl.length⟩] [(1, sl)]) := Lib.hid ⟨rfl, fun j h1 h2 => by
              obtain rfl : j = 0 := by simpa using h1
              exact ⟨rfl, rfl, hLA w1 (HL.out.below HB1.out), Nat.le_refl _, hLz, fun _ _ => Nat.zero_le _⟩⟩
            clear hb3 HSA x0 x1 x2 x3 x4 HX2 HJ2 hLA hLz
            have hx5 := heap_alloc_new w3 (.cells #[.int .i64 1, .slice LA sl.length sl.length] 47)
            have HRA := Lib.hid (raw1_at hx5)
            have HJA := Lib.hid (HJ3.out.below (alloc1 w3 (.cells #[.int .i64 1, .slice LA sl.length sl.length] 47)))
            have HXA := Lib.hid (((alloc1 w3 (.cells #[.int .i64 1, .slice LA sl.length sl.length] 47)).block _ (L.blk_lt HX3.out)).trans HX3.out)
            have hbs : w1.heap.size ≤ (w3.alloc (.cells #[.int .i64 1, .slice LA sl.length sl.length] 47)).heap.size := HJA.out.b.size
            have hrs1 : rs.length + ([⟨1, LA, sl.length, sl.length⟩] : List Raw).length ≤ 4000000 := by simp; omega
            clear hx5 HX3 HJ3
            go_upto_region 14 with (at_builtin; refine wpList_append_eds (w := w3.alloc (.cells #[.int .i64 1, .slice LA sl.length sl.length] 47)) rfl (.tmp 29) (.tmp 35) rfl w1.heap.size (.slice SA rs.length cap) rs [⟨1, LA, sl.length, sl.length⟩] rfl HJA.out.own (some ⟨w3.heap.size, 0, none⟩) 1 1 rfl rfl HRA.out (fun e => by cases e) hrs1 hbs ?_; intro v4 w4 ho4 hg4; have HO4 := Lib.hid ho4; have HG4 := Lib.hid hg4; clear ho4 hg4)
            obtain ⟨SB, cap4, rfl, -, -⟩ := own_form HO4.out
            have HJ4 := Lib.hid (HJA.out.add (Below.refl _ _) HG4.out HO4.out HR1.out)
            have hx4 := (HG4.out.block _ (L.blk_lt HXA.out) (fun e => own_type HJA.out.own HXA.out (by decide) e.symm)).trans HXA.out
            have HX4 := Lib.hid hx4
            clear HO4 HG4 HJA HXA HRA HR1 hbs hrs1 hx4
            obtain ⟨x0, x1, x2, x3, x4⟩ := hkC_cells HX4.out
            obtain ⟨rs', hr', hat'⟩ := eds_rawAt HE.out
            have HR' := Lib.hid hr'
            have HAT := Lib.hid (hat'.below HJ4.out.b)
            have hnn := hr'.1.symm
            have hbs : w1.heap.size ≤ w4.heap.size := HJ4.out.b.size
            have hrs2 : (rs ++ [(⟨1, LA, sl.length, sl.length⟩ : Raw)]).length + rs'.length ≤ 4000000 := by rw [← hnn]; simp; omega
            have hrs3 : (rs ++ [(⟨1, LA, sl.length, sl.length⟩ : Raw)] ++ rs').length ≤ (k + 1) * 801 := by rw [List.length_append, ← hnn]; simp; omega
            have HNN := Lib.hid hnn
            have HRS3 := Lib.hid hrs3
            generalize hrr : rs ++ [(⟨1, LA, sl.length, sl.length⟩ : Raw)] = r2 at *
            obtain ⟨n2, hn2⟩ : ∃ n2, n2 = r2.length := ⟨_, rfl⟩
            have HN2 := Lib.hid hn2
            clear hr' hat' hrs3 hrr hnn
            rw [← hn2]
            have HV4 : Hid (w4.ownsRow w1.heap.size 47 2 (.slice SB n2 cap4) r2.length (rawCells r2)) := Lib.hid (by rw [hn2]; exact HJ4.out.own)
            clear hn2
            go_upto_region 15 with (at_builtin; refine wpList_append_eds (w := w4) rfl (.tmp 37) (.tmp 39) rfl w1.heap.size (.slice SB n2 cap4) r2 rs' rfl HV4.out EA ec es.length rfl HNN.out HAT.out HEZ.out hrs2 hbs ?_; intro v5 w5 ho5 hg5; have HO5 := Lib.hid ho5; have HG5 := Lib.hid hg5; clear ho5 hg5)
            obtain ⟨SC, cap5, rfl, -, -⟩ := own_form HO5.out
            have HG5' : Hid (w4.grownBy w5 (Value.slice SB r2.length cap4).ownBlock) := Lib.hid (by rw [← HN2.out]; exact HG5.out)
            have HJ5 := Lib.hid (HJ4.out.add (Below.refl _ _) HG5'.out HO5.out HR'.out)
            have hx5 := (HG5'.out.block _ (L.blk_lt HX4.out) (fun e => own_type HJ4.out.own HX4.out (by decide) e.symm)).trans HX4.out
            clear HO5 HG5 HG5' HJ4 HAT HV4 x0 x1 x2 x3 x4 HX4 hrs2 hbs HNN
            obtain ⟨x0, x1, x2, x3, x4⟩ := hkC_cells hx5
            clear hx5
            go_wp2_with fail
            go_roundg (hs.length - (k + 1))
            case rel => exact ⟨k + 1, q + m, y1, SC, cap5, r2 ++ rs', es0 ++ [(1, sl)] ++ es, by omega, by go_num, rfl, by push_cast; rfl, Nat.le_refl _, by omega, HRS3.out, HJ5, Lib.hid (by rw [← HWL.out]; simp), HAL1, HCN1⟩
            case measure => omega
        · obtain rfl : k = hs.length := by omega
          have HRES := Lib.hid (HW0.out (by have := HAL.out; rwa [List.take_length] at this))
          obtain ⟨rfl, rfl⟩ : res = nrm (wl a 0 hs) ∧ eres = ck (wl a 0 hs) := by have := HRES.out; injection this with h1 h2; exact ⟨h1, h2⟩
          have hfin : es0 ++ [(1, a.drop p)] = wl a 0 hs := by have := HWL.out; rw [List.drop_length] at this; exact this
          have hwlen := wl_len a hs 0 (fun h hm => (HEL.out h hm).1)
          have hwln := wl_lines a (by rw [← HAN.out]; exact ha4) hs 0 (fun h hm => (HEL.out h hm).2)
          rw [← hfin] at hwlen hwln
          have HFN := Lib.hid hfin
          have HOKF : Hid (EdsOk (es0 ++ [(1, a.drop p)])) := Lib.hid ⟨by unfold maxLen; omega, fun e he => by have := hwln e he; unfold maxLen; omega⟩
          have HSA := Lib.hid (stay_any B c' p an a wr (HL.out.below HBW.out) (by rw [← HAN.out]; exact hc) hpa (by rw [HAN.out]; exact Nat.le_refl _))
          have htk : (a.drop p).take (an - p) = a.drop p := List.take_of_length_le (by rw [List.length_drop, HAN.out]; exact Nat.le_refl _)
          rw [htk] at HSA
          rw [← HAN.out] at HSA
          generalize a.drop p = sl at *
          clear HW8 HW0 HRES hfin hwlen hwln htk HWL HAL HCN
          go_wp2_with fail
          with_reducible refine (HSA.out).mono ?_
          rintro e w3 ⟨LA, rfl, hLA, hLz, hb3⟩
          have HB3 := Lib.hid (HBW.out.trans (hb3.mono HBW.out.size))
          have HJ3 := Lib.hid (HJ.out.below hb3)
          have HR1 : Hid (RawsOk 0 w1 [⟨1, LA, sl.length, sl.length⟩] [(1, sl)]) := Lib.hid ⟨rfl, fun j h1 h2 => by
            obtain rfl : j = 0 := by simpa using h1
            exact ⟨rfl, rfl, hLA w1 (HL.out.below HB1.out), Nat.le_refl _, hLz, fun _ _ => Nat.zero_le _⟩⟩
          clear hb3 HSA HJ hLA hLz
          have hx5 := heap_alloc_new w3 (.cells #[.int .i64 1, .slice LA sl.length sl.length] 47)
          have HRA := Lib.hid (raw1_at hx5)
          have HJA := Lib.hid (HJ3.out.below (alloc1 w3 (.cells #[.int .i64 1, .slice LA sl.length sl.length] 47)))
          have hbs : w1.heap.size ≤ (w3.alloc (.cells #[.int .i64 1, .slice LA sl.length sl.length] 47)).heap.size := HJA.out.b.size
          have hrs1 : rs.length + ([⟨1, LA, sl.length, sl.length⟩] : List Raw).length ≤ 4000000 := by simp; omega
          have HFIN : Hid (∀ (v4 : Value) (w4 : World), w4.ownsRow w1.heap.size 47 2 v4 (rs ++ [(⟨1, LA, sl.length, sl.length⟩ : Raw)]).length (rawCells (rs ++ [(⟨1, LA, sl.length, sl.length⟩ : Raw)])) → (w3.alloc (.cells #[.int .i64 1, .slice LA sl.length sl.length] 47)).grownBy w4 (Value.slice SA rs.length cap).ownBlock → ∃ VA vc n5, v4 = .slice VA n5 vc ∧ Below w.heap.size w w4 ∧ Calls Try.prog 23 #[.slice VA n5 vc] w4 (NrEnd w4 (nrm (es0 ++ [(1, sl)])) (ck (es0 ++ [(1, sl)])))) := Lib.hid (fun v4 w4 h1 h2 => by
            obtain ⟨VA, vc, rfl, -, -⟩ := own_form h1
            have hj := HJA.out.add (Below.refl _ _) h2 h1 HR1.out
            obtain ⟨e1, e2⟩ := hj.read
            refine ⟨VA, vc, (es0 ++ [(1, sl)]).length, by rw [e1], HB1.out.trans (hj.b.mono HB1.out.size), ?_⟩
            exact normal_any VA vc 0 (es0 ++ [(1, sl)]) w4 e2 HOKF.out)
          have HVA := Lib.hid HJA.out.own
          clear hx5 HJ3 HJA HR1
          go_wp2_with (at_builtin; refine wpList_append_eds (w := w3.alloc (.cells #[.int .i64 1, .slice LA sl.length sl.length] 47)) rfl (.tmp 47) (.tmp 53) rfl w1.heap.size (.slice SA rs.length cap) rs [⟨1, LA, sl.length, sl.length⟩] rfl HVA.out (some ⟨w3.heap.size, 0, none⟩) 1 1 rfl rfl HRA.out (fun e => by cases e) hrs1 hbs ?_; intro v4 w4 ho4 hg4; obtain ⟨VA, vc, n5, rfl, hB4, hN4⟩ := HFIN.out v4 w4 ho4 hg4; have HB4 := Lib.hid hB4; have HN4 := Lib.hid hN4; clear ho4 hg4 hB4 hN4)
          with_reducible refine (HN4.out).mono ?_
          intro e w5 h5
          obtain ⟨NA, nc, rfl, hE5, hb5⟩ := h5.read
          have HE5 := Lib.hid hE5
          have HB5 := Lib.hid (HB4.out.trans (hb5.mono HB4.out.size))
          clear h5 hE5 hb5 HN4
          go_wp2_with fail
          go_ret2
          exact ⟨NA, nc, by rw [← HFN.out]; rfl, by rw [← HFN.out]; exact HE5.out, HB5.out⟩
  · have HW : Hid (whl hs a = ([], hck hs)) := Lib.hid (by unfold whl; rw [if_neg hq0])
    rw [HW.out]
    generalize hck hs = q at *
    have h0 : (q == 0) = false := beq_eq_false_iff_ne.2 hq0
    have h1 : (q != 0) = true := by simp [bne, h0]
    clear hq0 HW
    go_enter Try.func20, Try.ntmps20
    go_wp2_with fail
    with_reducible refine (HC.out).mono ?_
    rintro e w1 ⟨rfl, hb1⟩
    go_wp2_with fail
    go_ret2
    exact ⟨none, 0, rfl, fun h => absurd h (by simp), hb1⟩
end Go.Proofs.Ytimalohdchhjgaa.H
