/-
  The contract of the reference's Of.
-/
import Derived.Test.YtkflhcfopejigaaGgh
import Derived.Test.YtkflhcfopejigaaGgi
import Derived.Deep.AppendLies
namespace Go.Proofs.Ytkflhcfopejigaa.Ck
set_option linter.unusedVariables false
set_option linter.unusedSimpArgs false
open Go.RowKit Go.Shelf
open T
open Mt (Pr fnd Rt right right_iff)
open N (PrIn PrIn.below)
open V (drawn_below grown_of)
open I (alloc1)

/-- What the reference's Of holds: the row of chunks, not in the box of the place at hand. -/
structure Ro (w0 : World) (s X : Nat) (VA : Option Addr) (vc : Nat) (l : List Ck) (t : Tr) (W : World) : Prop where
  row : W.ownsRow s 41 7 (.slice VA l.length vc) l.length (ckCells l)
  ne : (Value.slice VA l.length vc).ownBlock ≠ some X
  box : W.heap[X]? = some (.cells #[.bool false, .int .i64 t.1, .int .i64 0, .int .i64 t.2.1, .int .i64 0, .int .i64 t.2.2, .int .i64 0] 41 (0, 0))
  be : Below s w0 W
theorem Ro.below {w0 W W' : World} {s X : Nat} {VA : Option Addr} {vc : Nat} {l : List Ck} {t : Tr} (h : Ro w0 s X VA vc l t W) (hs : s ≤ W.heap.size) (hb : Below W.heap.size W W') : Ro w0 s X VA vc l t W' :=
  ⟨I.own_below h.row hb, h.ne, (hb.block X (L.blk_lt h.box)).trans h.box, h.be.trans (hb.mono hs)⟩
theorem own_far {Y : World} {s g n cap X i : Nat} {xs : List Value} (hgX : g ≠ X) (v : Value) (hY : Y.ownsRow s 41 7 (.slice (some ⟨g, 0, none⟩) n cap) n xs) : (Y.setCell ⟨X, i, none⟩ v).ownsRow s 41 7 (.slice (some ⟨g, 0, none⟩) n cap) n xs := hY.kept (V.grown_set Y ⟨X, i, none⟩ v) (.inr (by simp only [Value.ownBlock, ne_eq, Option.some.injEq]; exact hgX))
theorem set7 {W : World} {X : Nat} {T : TypeId} {c0 c1 c2 c3 c4 c5 c6 v0 v1 v2 v3 v4 v5 v6 : Value} (h : W.heap[X]? = some (.cells #[c0, c1, c2, c3, c4, c5, c6] T (0, 0))) :
    (((((((W.setCell ⟨X, 0, none⟩ v0).setCell ⟨X, 1, none⟩ v1).setCell ⟨X, 2, none⟩ v2).setCell ⟨X, 3, none⟩ v3).setCell ⟨X, 4, none⟩ v4).setCell ⟨X, 5, none⟩ v5).setCell ⟨X, 6, none⟩ v6).heap[X]? = some (.cells #[v0, v1, v2, v3, v4, v5, v6] T (0, 0)) := by
  have h0 : (W.setCell ⟨X, 0, none⟩ v0).heap[X]? = some (.cells #[v0, c1, c2, c3, c4, c5, c6] T (0, 0)) := L.blk_set h 0 v0
  have h1 : ((W.setCell ⟨X, 0, none⟩ v0).setCell ⟨X, 1, none⟩ v1).heap[X]? = some (.cells #[v0, v1, c2, c3, c4, c5, c6] T (0, 0)) := L.blk_set h0 1 v1
  generalize (W.setCell ⟨X, 0, none⟩ v0).setCell ⟨X, 1, none⟩ v1 = W1 at h1 ⊢
  have h2 : (W1.setCell ⟨X, 2, none⟩ v2).heap[X]? = some (.cells #[v0, v1, v2, c3, c4, c5, c6] T (0, 0)) := L.blk_set h1 2 v2
  have h3 : ((W1.setCell ⟨X, 2, none⟩ v2).setCell ⟨X, 3, none⟩ v3).heap[X]? = some (.cells #[v0, v1, v2, v3, c4, c5, c6] T (0, 0)) := L.blk_set h2 3 v3
  generalize (W1.setCell ⟨X, 2, none⟩ v2).setCell ⟨X, 3, none⟩ v3 = W2 at h3 ⊢
  have h4 : (W2.setCell ⟨X, 4, none⟩ v4).heap[X]? = some (.cells #[v0, v1, v2, v3, v4, c5, c6] T (0, 0)) := L.blk_set h3 4 v4
  have h5 : ((W2.setCell ⟨X, 4, none⟩ v4).setCell ⟨X, 5, none⟩ v5).heap[X]? = some (.cells #[v0, v1, v2, v3, v4, v5, c6] T (0, 0)) := L.blk_set h4 5 v5
  exact L.blk_set h5 6 v6
theorem Ro.put {w0 W W1 W2 : World} {s X g cap : Nat} {VA : Option Addr} {vc : Nat} {l : List Ck} {t u : Tr} {tmp : Obj} (c : Ck) (h : Ro w0 s X VA vc l t W) (hs : s ≤ W.heap.size) (hsX : s ≤ X)
    (hown : W1.ownsRow s 41 7 (.slice (some ⟨g, 0, none⟩) (l.length + 1) cap) (l.length + 1) (ckCells l ++ [.bool c.st, .int .i64 c.o, .int .i64 c.on, .int .i64 c.a, .int .i64 c.an, .int .i64 c.b, .int .i64 c.bn])) (hg : (W.alloc tmp).grownBy W1 (Value.slice VA l.length vc).ownBlock) (hat : (Value.slice VA l.length vc).ownBlock = some g ∨ g = (W.alloc tmp).heap.size)
    (hW2 : W2 = ((((((W1.setCell ⟨X, 0, none⟩ (.bool false)).setCell ⟨X, 1, none⟩ (.int .i64 u.1)).setCell ⟨X, 2, none⟩ (.int .i64 0)).setCell ⟨X, 3, none⟩ (.int .i64 u.2.1)).setCell ⟨X, 4, none⟩ (.int .i64 0)).setCell ⟨X, 5, none⟩ (.int .i64 u.2.2)).setCell ⟨X, 6, none⟩ (.int .i64 0)) : Ro w0 s X (some ⟨g, 0, none⟩) cap (l ++ [c]) u W2 := by
  have hX := L.blk_lt h.box
  have hgX : g ≠ X := by
    rcases hat with h1 | h1
    · intro e; rw [e] at h1; exact h.ne h1
    · intro e; rw [e] at h1; simp at h1; omega
  have hb1 : W1.heap[X]? = some (.cells #[.bool false, .int .i64 t.1, .int .i64 0, .int .i64 t.2.1, .int .i64 0, .int .i64 t.2.2, .int .i64 0] 41 (0, 0)) := (hg.block X (by simp; omega) (fun e => h.ne e.symm)).trans ((Below.heap_alloc _ _ _ hX).trans h.box)
  have hlen : (l ++ [c]).length = l.length + 1 := by simp
  refine ⟨?_, ?_, ?_, ?_⟩
  · rw [hlen, ckCells_snoc, hW2]
    exact own_far hgX _ (own_far hgX _ (own_far hgX _ (own_far hgX _ (own_far hgX _ (own_far hgX _ (own_far hgX _ hown))))))
  · simp only [Value.ownBlock, ne_eq, Option.some.injEq]; exact hgX
  · rw [hW2]
    exact set7 hb1
  · rw [hW2]
    have h1 : Below s w0 W1 := (h.be.alloc hs tmp).grown hg (by simp; omega) (fun k e => own_base h.row k e)
    have h2 := h1.setCell (p := ⟨X, 0, none⟩) hsX (.bool false)
    have h3 := h2.setCell (p := ⟨X, 1, none⟩) hsX (.int .i64 u.1)
    have h4 := h3.setCell (p := ⟨X, 2, none⟩) hsX (.int .i64 0)
    have h5 := h4.setCell (p := ⟨X, 3, none⟩) hsX (.int .i64 u.2.1)
    have h6 := h5.setCell (p := ⟨X, 4, none⟩) hsX (.int .i64 0)
    have h7 := h6.setCell (p := ⟨X, 5, none⟩) hsX (.int .i64 u.2.2)
    exact h7.setCell (p := ⟨X, 6, none⟩) hsX (.int .i64 0)
theorem beh_unst (t x : Tr) : beh (unst t x) = x := tr_ext (by simp only [beh, unst]; omega) (by simp only [beh, unst]; omega) (by simp only [beh, unst]; omega)
theorem beh_stab (t0 t1 t2 : Int) (n : Nat) : beh (stab (t0, t1, t2) n) = (t0 + (n : Int), t1 + (n : Int), t2 + (n : Int)) := rfl
theorem bad_bound {p q : List Pr} {o a b : Int} (h : ¬ (bound o ∧ bound a ∧ bound b)) : chunks p q o a b = [] ∧ err p q o a b = 2 := by
  have hc : ¬ can p q o a b := fun hc => h hc.1
  exact ⟨if_neg hc, if_neg hc⟩
set_option maxRecDepth 100000 in
set_option maxHeartbeats 4000000 in
theorem rof_any (A B : Option Addr) (ca cb : Nat) (p q : List Pr) (o a b : Int) (w : World) (hpl : p.length ≤ 1000) (hql : q.length ≤ 1000) (hA : PrIn w A p) (hB : PrIn w B q) :
    Calls Try.prog 27 #[.slice A p.length ca, .slice B q.length cb, .int .i64 o, .int .i64 a, .int .i64 b] w (CkEnd w (chunks p q o a b) (err p q o a b)) := by
  obtain ⟨i0, hi0, hz0, hz1, hz2⟩ := info_parts infoCk
  have HRA := Lib.hid (Mt.rright_any A ca p o a w hA (by unfold maxLen; omega))
  have HRB := Lib.hid (fun (w1 : World) (h : Below w.heap.size w w1) => Mt.rright_any B cb q o b w1 (hB.below h) (by unfold maxLen; omega))

  by_cases hlo : o < 0
  · have HV := Lib.hid (bad_bound (p := p) (q := q) (fun h => by have := h.1.1; omega : ¬ (bound o ∧ bound a ∧ bound b)))
    go_enter Try.func27, Try.ntmps27
    go_wp2_with fail
    refine bodyPost_ret (v := .tuple #[.slice none 0 0, .int .i64 2]) (by simp [results, Try.results27, go_sem]) rfl ?_
    rw [HV.out.1, HV.out.2]
    exact ⟨none, 0, rfl, World.ownsRow_nil _ _ _ _, Below.refl _ _⟩
  by_cases hho : 400 < o
  · have HV := Lib.hid (bad_bound (p := p) (q := q) (fun h => by have := h.1.2; omega : ¬ (bound o ∧ bound a ∧ bound b)))
    go_enter Try.func27, Try.ntmps27
    go_wp2_with fail
    refine bodyPost_ret (v := .tuple #[.slice none 0 0, .int .i64 2]) (by simp [results, Try.results27, go_sem]) rfl ?_
    rw [HV.out.1, HV.out.2]
    exact ⟨none, 0, rfl, World.ownsRow_nil _ _ _ _, Below.refl _ _⟩
  by_cases hla : a < 0
  · have HV := Lib.hid (bad_bound (p := p) (q := q) (fun h => by have := h.2.1.1; omega : ¬ (bound o ∧ bound a ∧ bound b)))
    go_enter Try.func27, Try.ntmps27
    go_wp2_with fail
    refine bodyPost_ret (v := .tuple #[.slice none 0 0, .int .i64 2]) (by simp [results, Try.results27, go_sem]) rfl ?_
    rw [HV.out.1, HV.out.2]
    exact ⟨none, 0, rfl, World.ownsRow_nil _ _ _ _, Below.refl _ _⟩
  by_cases hha : 400 < a
  · have HV := Lib.hid (bad_bound (p := p) (q := q) (fun h => by have := h.2.1.2; omega : ¬ (bound o ∧ bound a ∧ bound b)))
    go_enter Try.func27, Try.ntmps27
    go_wp2_with fail
    refine bodyPost_ret (v := .tuple #[.slice none 0 0, .int .i64 2]) (by simp [results, Try.results27, go_sem]) rfl ?_
    rw [HV.out.1, HV.out.2]
    exact ⟨none, 0, rfl, World.ownsRow_nil _ _ _ _, Below.refl _ _⟩
  by_cases hlb : b < 0
  · have HV := Lib.hid (bad_bound (p := p) (q := q) (fun h => by have := h.2.2.1; omega : ¬ (bound o ∧ bound a ∧ bound b)))
    go_enter Try.func27, Try.ntmps27
    go_wp2_with fail
    refine bodyPost_ret (v := .tuple #[.slice none 0 0, .int .i64 2]) (by simp [results, Try.results27, go_sem]) rfl ?_
    rw [HV.out.1, HV.out.2]
    exact ⟨none, 0, rfl, World.ownsRow_nil _ _ _ _, Below.refl _ _⟩
  by_cases hhb : 400 < b
  · have HV := Lib.hid (bad_bound (p := p) (q := q) (fun h => by have := h.2.2.2; omega : ¬ (bound o ∧ bound a ∧ bound b)))
    go_enter Try.func27, Try.ntmps27
    go_wp2_with fail
    refine bodyPost_ret (v := .tuple #[.slice none 0 0, .int .i64 2]) (by simp [results, Try.results27, go_sem]) rfl ?_
    rw [HV.out.1, HV.out.2]
    exact ⟨none, 0, rfl, World.ownsRow_nil _ _ _ _, Below.refl _ _⟩
  have HBD := Lib.hid (show bound o ∧ bound a ∧ bound b from ⟨⟨by omega, by omega⟩, ⟨by omega, by omega⟩, ⟨by omega, by omega⟩⟩)
  by_cases h1 : right p o a = true
  · rw [h1] at HRA
    by_cases h2 : right q o b = true
    · rw [h2] at HRB
      have HCN := Lib.hid (show can p q o a b from ⟨HBD.out, h1, h2⟩)
      have HRT := Lib.hid (And.intro (right_iff.1 h1) (right_iff.1 h2))
      have HEN := Lib.hid (show Okt (o, a, b) ∧ Le3 (0, 0, 0) (o, a, b) from ⟨⟨⟨HBD.out.1.1, Int.le_trans HBD.out.1.2 (by decide)⟩, ⟨HBD.out.2.1.1, Int.le_trans HBD.out.2.1.2 (by decide)⟩, ⟨HBD.out.2.2.1, Int.le_trans HBD.out.2.2.2 (by decide)⟩⟩, HBD.out.1.1, HBD.out.2.1.1, HBD.out.2.2.1⟩)
      have HCH := Lib.hid (show chunks p q o a b = walk p q (o, a, b) (0, 0, 0) ∧ err p q o a b = 0 from ⟨if_pos HCN.out, if_pos HCN.out⟩)
      have HLN : Hid ((walk p q (o, a, b) (0, 0, 0)).length ≤ 1200) := Lib.hid (by rw [← HCH.out.1]; exact chunks_len p q o a b)
      have HAB := Lib.hid (And.intro hA hB)
      clear h1 h2 hA hB

      go_enter Try.func27, Try.ntmps27
      go_wp2_with fail
      with_reducible refine (HRA.out).mono ?_
      rintro e w1 ⟨rfl, hb1⟩
      go_wp2_with fail
      with_reducible refine (HRB.out _ hb1).mono ?_
      rintro e w2 ⟨rfl, hb2⟩
      have HB2 := Lib.hid (hb1.trans (hb2.mono hb1.size))
      clear hb1 hb2 HRA HRB
      obtain ⟨W3, hW3⟩ : ∃ W : World, W = (w2.alloc (.cells #[] 41)).alloc (.cells #[.bool false, .int .i64 0, .int .i64 0, .int .i64 0, .int .i64 0, .int .i64 0, .int .i64 0] 41) := ⟨_, rfl⟩
      have HR3 : Hid (Ro w2 w2.heap.size (w2.heap.size + 1) (some ⟨w2.heap.size, 0, none⟩) 0 [] (0, 0, 0) W3) := Lib.hid (by
        rw [hW3]
        refine ⟨(World.ownsRow_made (e := 41) (size := 7) w2 #[] 0 (Nat.le_refl _) (Nat.zero_le _) rfl).alloc _, by simp [Value.ownBlock], (L.two_blocks w2 _ _).2, (alloc1 _ _).alloc (by simp) _⟩)
      have hz3 : W3.heap.size = w2.heap.size + 1 + 1 := by rw [hW3]; simp
      obtain ⟨s, hs⟩ : ∃ s, s = w2.heap.size := ⟨_, rfl⟩
      go_wp2_with fail
      rw [← hW3]
      rw [← hs] at hz3 HR3 ⊢
      have hs2 : s ≤ w2.heap.size := by omega
      have HWS : Hid (w.heap.size ≤ s) := Lib.hid (by have := HB2.out.size; omega)
      clear hW3 hs
      go_loopg [12] 1200 (fun mm x12 wr => ∃ (t : Tr) (l : List Ck) (VA : Option Addr) (vc : Nat), x12 = .slice VA l.length vc ∧ s + 1 + 1 ≤ wr.heap.size ∧ fu (o, a, b) t ≤ mm ∧ Hid (Ro w2 s (s + 1) VA vc l t wr) ∧ (0 ≤ t.1 ∧ 0 ≤ t.2.1 ∧ 0 ≤ t.2.2) ∧ Le3 t (o, a, b) ∧ Hid (walk p q (o, a, b) (0, 0, 0) = l ++ walk p q (o, a, b) t))
      case atStart => exact ⟨(0, 0, 0), [], _, 0, rfl, by omega, by unfold fu; simp only; omega, HR3, ⟨Int.le_refl _, Int.le_refl _, Int.le_refl _⟩, HEN.out.2, Lib.hid rfl⟩
      case round =>
        obtain ⟨t, l, VA, vc, rfl, hsz, hmm, HRO, htp, hle, HW⟩ := hrel
        have HBX := Lib.hid HRO.out.box
        have g1 := L.blk_cell HRO.out.box 1
        have g3 := L.blk_cell HRO.out.box 3
        have g5 := L.blk_cell HRO.out.box 5
        obtain ⟨t0, t1, t2⟩ := t
        simp only [List.getElem?_toArray, List.getElem?_cons_zero, List.getElem?_cons_succ] at g1 g3 g5
        by_cases ht : ((t0, t1, t2) : Tr) = (o, a, b)
        · have HE := Lib.hid (show chunks p q o a b = l by rw [HCH.out.1, HW.out, ht, walk_end, List.append_nil])
          simp only [Prod.mk.injEq] at ht
          obtain ⟨rfl, rfl, rfl⟩ := ht
          have hn0 : ¬ t0 < t0 := Int.lt_irrefl _
          have hn1 : ¬ t1 < t1 := Int.lt_irrefl _
          have hn2 : ¬ t2 < t2 := Int.lt_irrefl _
          go_wp2_with fail
          refine bodyPost_ret (v := .tuple #[.slice VA l.length vc, .int .i64 0]) (by simp [results, Try.results27, go_sem]) rfl ?_
          rw [HE.out, HCH.out.2]
          exact ⟨VA, vc, rfl, own_more HRO.out.row HWS.out, HB2.out.trans (HRO.out.be.mono HWS.out)⟩
        · have hst := step_ok HRT.out.1 HRT.out.2 hle ht
          have HWS2 := Lib.hid (walk_step HRT.out.1 HRT.out.2 hle ht)
          have hok : Okt (t0, t1, t2) := okt_le htp hle HEN.out.1
          have HLL : Hid (l.length < 1200) := Lib.hid (by
            have h1 := congrArg List.length HW.out
            have h2 := HLN.out
            rw [HWS2.out, List.length_append, List.length_cons] at h1
            omega)
          have hll : l.length < 1200 := HLL.out
          have HRC := Lib.hid (rrun_any A B ca cb p q o a b ⟨false, t0, 0, t1, 0, t2, 0⟩ wr HRT.out.1 HRT.out.2 hpl hql hok (HAB.out.1.below (HB2.out.trans (HRO.out.be.mono HWS.out))) (HAB.out.2.below (HB2.out.trans (HRO.out.be.mono HWS.out))))
          have HNC := Lib.hid (fun (w1 : World) (h : Below wr.heap.size wr w1) => rnext_any A B ca cb p q o a b ⟨false, t0, 0, t1, 0, t2, 0⟩ w1 HRT.out.1 HRT.out.2 hpl hql (HAB.out.1.below ((HB2.out.trans (HRO.out.be.mono HWS.out)).trans (h.mono (by have := HRO.out.be.size; have := HWS.out; omega)))) (HAB.out.2.below ((HB2.out.trans (HRO.out.be.mono HWS.out)).trans (h.mono (by have := HRO.out.be.size; have := HWS.out; omega)))))
          have HFU := Lib.hid hst.fu
          have HLE := Lib.hid hst.le
          have HNN : Hid (0 ≤ (beh (step p q (o, a, b) (t0, t1, t2))).1 ∧ 0 ≤ (beh (step p q (o, a, b) (t0, t1, t2))).2.1 ∧ 0 ≤ (beh (step p q (o, a, b) (t0, t1, t2))).2.2) := Lib.hid (by
            obtain ⟨⟨h1, h2, h3⟩, h4, h5, h6, -⟩ := hst
            simp only [beh]
            simp only at h1 h2 h3 htp
            omega)
          have HNK := Lib.hid (fun (x : Tr) (hx : nxt p q (t0, t1, t2) = some x) => sh_bound (e := (o, a, b)) HRT.out.1 HRT.out.2 (nxt_mem hx).1)
          have HST := Lib.hid (show step p q (o, a, b) (t0, t1, t2) = if run p q (t0, t1, t2) = 0 then unst (t0, t1, t2) ((nxt p q (t0, t1, t2)).getD (o, a, b)) else stab (t0, t1, t2) (run p q (t0, t1, t2)) from rfl)
          have hrl : run p q (t0, t1, t2) ≤ 1000 := Nat.le_trans (run_le p q (t0, t1, t2)) hpl
          obtain ⟨⟨ht0, ht0'⟩, ⟨ht1, ht1'⟩, ⟨ht2, ht2'⟩⟩ := hok
          obtain ⟨hle0, hle1, hle2⟩ := hle
          simp only at ht0 ht0' ht1 ht1' ht2 ht2' hle0 hle1 hle2
          simp only [ckV] at HRC HNC
          obtain ⟨c, hc⟩ : ∃ c, c = step p q (o, a, b) (t0, t1, t2) := ⟨_, rfl⟩
          rw [← hc] at HST HWS2 HFU HLE HNN
          obtain ⟨rv, hrv⟩ : ∃ r, r = run p q (t0, t1, t2) := ⟨_, rfl⟩
          obtain ⟨nv, hnv⟩ : ∃ r, r = nxt p q (t0, t1, t2) := ⟨_, rfl⟩
          rw [← hrv, ← hnv] at HST
          rw [← hrv] at HRC hrl
          rw [← hnv] at HNC HNK
          have HTW : Hid (t0 < o ∨ (¬ t0 < o ∧ t1 < a) ∨ (¬ t0 < o ∧ ¬ t1 < a ∧ t2 < b)) := Lib.hid (by
            simp only [Prod.mk.injEq] at ht
            omega)
          clear hc hrv hnv hst ht htp
          have g0 := L.blk_cell HBX.out 0
          have g2 := L.blk_cell HBX.out 2
          have g4 := L.blk_cell HBX.out 4
          have g6 := L.blk_cell HBX.out 6
          simp only [List.getElem?_toArray, List.getElem?_cons_zero, List.getElem?_cons_succ] at g0 g2 g4 g6
          rcases HTW.out with h1 | ⟨h1, h2⟩ | ⟨h1, h2, h3⟩
          all_goals
            go_wp2_with fail
            with_reducible refine (HRC.out).mono ?_
            rintro e w4 ⟨rfl, hb4⟩
            have HR4 := Lib.hid (HRO.out.below (by omega) hb4)
            have HB4 := Lib.hid hb4
            have hz4 := hb4.size
            clear hb4 g0 g1 g2 g3 g4 g5 g6
            have g0 := L.blk_cell HR4.out.box 0
            have g1 := L.blk_cell HR4.out.box 1
            have g2 := L.blk_cell HR4.out.box 2
            have g3 := L.blk_cell HR4.out.box 3
            have g4 := L.blk_cell HR4.out.box 4
            have g5 := L.blk_cell HR4.out.box 5
            have g6 := L.blk_cell HR4.out.box 6
            have gf := fun i => L.blk_free HR4.out.box i
            simp only [List.getElem?_toArray, List.getElem?_cons_zero, List.getElem?_cons_succ] at g0 g1 g2 g3 g4 g5 g6
            by_cases hr : rv = 0
            · subst hr
              have HV := Lib.hid (HST.out.trans (if_pos rfl))
              clear HST
              go_wp2_with fail
              with_reducible refine (HNC.out w4 HB4.out).mono ?_
              rintro e w5 ⟨rfl, hb5⟩
              have HR5 := Lib.hid (HR4.out.below (by omega) hb5)
              have hz5 := hb5.size
              clear hb5 g0 g1 g2 g3 g4 g5 g6 gf HR4
              have g0 := L.blk_cell HR5.out.box 0
              have g1 := L.blk_cell HR5.out.box 1
              have g2 := L.blk_cell HR5.out.box 2
              have g3 := L.blk_cell HR5.out.box 3
              have g4 := L.blk_cell HR5.out.box 4
              have g5 := L.blk_cell HR5.out.box 5
              have g6 := L.blk_cell HR5.out.box 6
              have gf := fun i => L.blk_free HR5.out.box i
              simp only [List.getElem?_toArray, List.getElem?_cons_zero, List.getElem?_cons_succ] at g0 g1 g2 g3 g4 g5 g6
              cases nv with
              | none =>
                have hc := HV.out
                simp only [Option.getD_none] at hc
                subst hc
                rw [beh_unst] at HFU HLE HNN HWS2
                have hw0 : IntKind.i64.wrap (o - t0) = o - t0 := by rw [IntKind.wrap_i64]; omega
                have hw1 : IntKind.i64.wrap (a - t1) = a - t1 := by rw [IntKind.wrap_i64]; omega
                have hw2 : IntKind.i64.wrap (b - t2) = b - t2 := by rw [IntKind.wrap_i64]; omega
                simp only [nxV, Option.getD_none, Option.isSome_none]
                go_wp2_with (at_builtin; refine wpList_append_lies _ rfl _ _ 52 rfl s 41 i0 _ 7 56 Try.underlying52 hi0 hz0 hz1 hz2 rfl (by decide) (.slice VA l.length vc) l.length (ckCells l) rfl (HR5.out.row.alloc _) ⟨_, 0, none⟩ 1 1 [.bool false, .int .i64 t0, .int .i64 (o - t0), .int .i64 t1, .int .i64 (a - t1), .int .i64 t2, .int .i64 (b - t2)] rfl rfl (World.news_of_block (V.alloc_at _ (by first | rfl | simp))) (by intro u hu; simp at hu; rcases hu with rfl | rfl | rfl | rfl | rfl | rfl | rfl <;> rfl) (by decide) (by unfold maxLen; omega) (by omega) (by simp; omega) _ rfl ?_; intro g' cap' w9 hown9 hg9 hat9 hlt9; have hx9 := (hg9.block (s + 1) (by simp; omega) (fun e => HR5.out.ne e.symm)).trans ((Below.heap_alloc _ _ _ (L.blk_lt HR5.out.box)).trans HR5.out.box); have f0 := L.blk_cell hx9 0; have f1 := L.blk_cell hx9 1; have f2 := L.blk_cell hx9 2; have f3 := L.blk_cell hx9 3; have f4 := L.blk_cell hx9 4; have f5 := L.blk_cell hx9 5; have f6 := L.blk_cell hx9 6; have ff := fun i => L.blk_free hx9 i; simp only [List.getElem?_toArray, List.getElem?_cons_zero, List.getElem?_cons_succ] at f0 f1 f2 f3 f4 f5 f6; have HO9 := Lib.hid hown9; have HG9 := Lib.hid hg9; have HA9 := Lib.hid hat9; clear hown9 hg9 hat9 hx9; clear g0 g1 g2 g3 g4 g5 g6 gf)
                have hz9 := HG9.out.size
                go_roundg (fu (o, a, b) (o, a, b))
                case measure => have := HFU.out; omega
                case rel => exact ⟨(o, a, b), l ++ [(unst (t0, t1, t2) (o, a, b))], some ⟨g', 0, none⟩, cap', by simp, by simp at hz9 ⊢; omega, Nat.le_refl _, Lib.hid (HR5.out.put (unst (t0, t1, t2) (o, a, b)) (by omega) (by omega) HO9.out HG9.out HA9.out rfl), HNN.out, HLE.out, Lib.hid (by rw [HW.out, HWS2.out]; simp)⟩
              | some x =>
                have hc := HV.out
                simp only [Option.getD_some] at hc
                subst hc
                rw [beh_unst] at HFU HLE HNN HWS2
                obtain ⟨x0, x1, x2⟩ := x
                obtain ⟨⟨y0, y1⟩, ⟨y2, y3⟩, ⟨y4, y5⟩⟩ := HNK.out _ rfl
                simp only at y0 y1 y2 y3 y4 y5
                have hw0 : IntKind.i64.wrap (x0 - t0) = x0 - t0 := by rw [IntKind.wrap_i64]; omega
                have hw1 : IntKind.i64.wrap (x1 - t1) = x1 - t1 := by rw [IntKind.wrap_i64]; omega
                have hw2 : IntKind.i64.wrap (x2 - t2) = x2 - t2 := by rw [IntKind.wrap_i64]; omega
                simp only [nxV, Option.getD_some, Option.isSome_some]
                go_wp2_with (at_builtin; refine wpList_append_lies _ rfl _ _ 52 rfl s 41 i0 _ 7 56 Try.underlying52 hi0 hz0 hz1 hz2 rfl (by decide) (.slice VA l.length vc) l.length (ckCells l) rfl (HR5.out.row.alloc _) ⟨_, 0, none⟩ 1 1 [.bool false, .int .i64 t0, .int .i64 (x0 - t0), .int .i64 t1, .int .i64 (x1 - t1), .int .i64 t2, .int .i64 (x2 - t2)] rfl rfl (World.news_of_block (V.alloc_at _ (by first | rfl | simp))) (by intro u hu; simp at hu; rcases hu with rfl | rfl | rfl | rfl | rfl | rfl | rfl <;> rfl) (by decide) (by unfold maxLen; omega) (by omega) (by simp; omega) _ rfl ?_; intro g' cap' w9 hown9 hg9 hat9 hlt9; have hx9 := (hg9.block (s + 1) (by simp; omega) (fun e => HR5.out.ne e.symm)).trans ((Below.heap_alloc _ _ _ (L.blk_lt HR5.out.box)).trans HR5.out.box); have f0 := L.blk_cell hx9 0; have f1 := L.blk_cell hx9 1; have f2 := L.blk_cell hx9 2; have f3 := L.blk_cell hx9 3; have f4 := L.blk_cell hx9 4; have f5 := L.blk_cell hx9 5; have f6 := L.blk_cell hx9 6; have ff := fun i => L.blk_free hx9 i; simp only [List.getElem?_toArray, List.getElem?_cons_zero, List.getElem?_cons_succ] at f0 f1 f2 f3 f4 f5 f6; have HO9 := Lib.hid hown9; have HG9 := Lib.hid hg9; have HA9 := Lib.hid hat9; clear hown9 hg9 hat9 hx9; clear g0 g1 g2 g3 g4 g5 g6 gf)
                have hz9 := HG9.out.size
                go_roundg (fu (o, a, b) (x0, x1, x2))
                case measure => have := HFU.out; omega
                case rel => exact ⟨(x0, x1, x2), l ++ [(unst (t0, t1, t2) (x0, x1, x2))], some ⟨g', 0, none⟩, cap', by simp, by simp at hz9 ⊢; omega, Nat.le_refl _, Lib.hid (HR5.out.put (unst (t0, t1, t2) (x0, x1, x2)) (by omega) (by omega) HO9.out HG9.out HA9.out rfl), HNN.out, HLE.out, Lib.hid (by rw [HW.out, HWS2.out]; simp)⟩
            · have hr1 : 0 < rv := by omega
              have hc := HST.out.trans (if_neg hr)
              subst hc
              rw [beh_stab] at HFU HLE HNN HWS2
              have hw0 : IntKind.i64.wrap (t0 + (rv : Int)) = t0 + rv := by rw [IntKind.wrap_i64]; omega
              have hw1 : IntKind.i64.wrap (t1 + (rv : Int)) = t1 + rv := by rw [IntKind.wrap_i64]; omega
              have hw2 : IntKind.i64.wrap (t2 + (rv : Int)) = t2 + rv := by rw [IntKind.wrap_i64]; omega
              clear hr HST
              go_wp2_with (at_builtin; refine wpList_append_lies _ rfl _ _ 52 rfl s 41 i0 _ 7 56 Try.underlying52 hi0 hz0 hz1 hz2 rfl (by decide) (.slice VA l.length vc) l.length (ckCells l) rfl (HR4.out.row.alloc _) ⟨_, 0, none⟩ 1 1 [.bool true, .int .i64 t0, .int .i64 rv, .int .i64 t1, .int .i64 rv, .int .i64 t2, .int .i64 rv] rfl rfl (World.news_of_block (V.alloc_at _ (by first | rfl | simp))) (by intro u hu; simp at hu; rcases hu with rfl | rfl | rfl | rfl | rfl | rfl | rfl <;> rfl) (by decide) (by unfold maxLen; omega) (by omega) (by simp; omega) _ rfl ?_; intro g' cap' w9 hown9 hg9 hat9 hlt9; have hx9 := (hg9.block (s + 1) (by simp; omega) (fun e => HR4.out.ne e.symm)).trans ((Below.heap_alloc _ _ _ (L.blk_lt HR4.out.box)).trans HR4.out.box); have f0 := L.blk_cell hx9 0; have f1 := L.blk_cell hx9 1; have f2 := L.blk_cell hx9 2; have f3 := L.blk_cell hx9 3; have f4 := L.blk_cell hx9 4; have f5 := L.blk_cell hx9 5; have f6 := L.blk_cell hx9 6; have ff := fun i => L.blk_free hx9 i; simp only [List.getElem?_toArray, List.getElem?_cons_zero, List.getElem?_cons_succ] at f0 f1 f2 f3 f4 f5 f6; have HO9 := Lib.hid hown9; have HG9 := Lib.hid hg9; have HA9 := Lib.hid hat9; clear hown9 hg9 hat9 hx9; clear g0 g1 g2 g3 g4 g5 g6 gf)
              have hz9 := HG9.out.size
              go_roundg (fu (o, a, b) (t0 + (rv : Int), t1 + (rv : Int), t2 + (rv : Int)))
              case measure => have := HFU.out; omega
              case rel => exact ⟨(t0 + (rv : Int), t1 + (rv : Int), t2 + (rv : Int)), l ++ [(stab (t0, t1, t2) rv)], some ⟨g', 0, none⟩, cap', by simp, by simp at hz9 ⊢; omega, Nat.le_refl _, Lib.hid (HR4.out.put (stab (t0, t1, t2) rv) (by omega) (by omega) HO9.out HG9.out HA9.out rfl), HNN.out, HLE.out, Lib.hid (by rw [HW.out, HWS2.out]; simp)⟩
    · have hr2 : right q o b = false := by simpa using h2
      rw [hr2] at HRB
      have HV := Lib.hid (bad_right (Or.inr h2) : chunks p q o a b = [] ∧ err p q o a b = 2)
      clear hr2

      go_enter Try.func27, Try.ntmps27
      go_wp2_with fail
      with_reducible refine (HRA.out).mono ?_
      rintro e w1 ⟨rfl, hb1⟩
      go_wp2_with fail
      with_reducible refine (HRB.out _ hb1).mono ?_
      rintro e w2 ⟨rfl, hb2⟩
      have HB2 := Lib.hid (hb1.trans (hb2.mono hb1.size))
      go_wp2_with fail
      refine bodyPost_ret (v := .tuple #[.slice none 0 0, .int .i64 2]) (by simp [results, Try.results27, go_sem]) rfl ?_
      rw [HV.out.1, HV.out.2]
      exact ⟨none, 0, rfl, World.ownsRow_nil _ _ _ _, HB2.out⟩
  · have hr1 : right p o a = false := by simpa using h1
    rw [hr1] at HRA
    have HV := Lib.hid (bad_right (Or.inl h1) : chunks p q o a b = [] ∧ err p q o a b = 2)
    clear hr1
    go_enter Try.func27, Try.ntmps27
    go_wp2_with fail
    with_reducible refine (HRA.out).mono ?_
    rintro e w1 ⟨rfl, hb1⟩
    have HB1 := Lib.hid hb1
    go_wp2_with fail
    refine bodyPost_ret (v := .tuple #[.slice none 0 0, .int .i64 2]) (by simp [results, Try.results27, go_sem]) rfl ?_
    rw [HV.out.1, HV.out.2]
    exact ⟨none, 0, rfl, World.ownsRow_nil _ _ _ _, HB1.out⟩
end Go.Proofs.Ytkflhcfopejigaa.Ck
