/-
  The contract of the reference's Add; of New, Len and Fork, the code's and the reference's.
  Logs in memory, to be read; the contracts of New, Len, Of, Full and Fork, and of the reference's Of and Fork.
  The contracts of the reference's Of, of New, Len and Fork, of Full.
  The contracts of Seen, the code's and the reference's, and of the reference's Same.
  The contracts of audit's line and Print.
  The contract of the reference's Decimal, by induction over the number.
-/
import Derived.Test.YtbfohfmipfapdaaDoorGud
import Derived.Test.YtbfohfmipfapdaaDoorGuc
import Derived.BigRegion
import Derived.BigQuiet
import Derived.StillTailTactics
import Derived.Test.YtbfohfmipfapdaaDoorGub
import Derived.Deep.RegionHeldLaw
import Derived.Deep.RegionHeld3
namespace Go.Proofs.YtbfohfmipfapdaaDoor.Au
set_option linter.unusedVariables false
set_option linter.unusedSimpArgs false
open Go.RowKit
open T
open V (drawn_below grown_of)
open I (alloc1 own_at own_below)

/-- append of a row of entries, wherever they lie, to a row of the call's own. -/
theorem step_append_ets {w : World} {ops : Array Oper} {o : Oper} {a : Act} {K : Act → World → Prop} {Q : Exit → Act → World → Prop} {E : Prop} (hgd : o.guard = none) (s x : Operand)
    (ho : o.op = .call { callee := .builtin .append, args := #[s, x], argTypes := #[22, 22] })
    {base : Nat} {v : Value} {l : List Et} {B : Option Addr} {d n : Nat} (hs : a.eval s = v) (hR : w.ownsRow base 40 6 v 0 []) (hx : a.eval x = .slice B n d) (hn : n = l.length) (hI : EtsIn w B l) (hB : B = none → d = 0 ∧ l = []) (hl : l.length ≤ 1000000) (hbase : base ≤ w.heap.size)
    (h : ∀ v' w', w'.ownsRow base 40 6 v' l.length (etCells l) → w.grownBy w' v.ownBlock → (v'.ownBlock = v.ownBlock ∨ v'.ownBlock = some w.heap.size) → K (a.put o.dst v') w') :
    if Region.wanted o (yielded ops a.tmps) = true then Oper.wp Tryd.prog o a w K Q else E := by
  obtain ⟨i0, hi0, hz0, hz1, hz2⟩ := info_parts infoEt
  have hw : Region.wanted o (yielded ops a.tmps) = true := by simp [Region.wanted, hgd]
  rw [if_pos hw]
  subst hn
  cases B with
  | none =>
    obtain ⟨rfl, rfl⟩ := hB rfl
    have hrun := run_append_owned_none (P := Tryd.prog) (w := w) base 22 o.type 40 i0 6 Tryd.underlying22 hi0 v 0 [] hR
    unfold Oper.wp
    simp [execOp, ho, resolve, invoke, builtin, hs, hx, hrun, Result.andThen]
    exact h v w (by simpa [etCells] using hR) ⟨rfl, rfl, rfl, Nat.le_refl _, fun _ _ _ => rfl⟩ (.inl rfl)
  | some b =>
    have hnews : ∀ j u, (etCells l)[j]? = some u → w.cell? (b.add j) = some u := by
      by_cases hp : 0 < l.length
      · obtain ⟨bk, off, e, _, hE⟩ := hI hp
        injection e with e
        subst e
        exact ets_news hE
      · intro j u hu
        have := (List.getElem?_eq_some_iff.1 hu).1
        rw [etCells_length] at this
        omega
    obtain ⟨v', w', hr, h1, h2, -, h4⟩ := run_append_own_at (P := Tryd.prog) w base 22 o.type 40 i0 _ 6 80 Tryd.underlying22 hi0 hz0 hz1 hz2 rfl (by decide) v 0 [] hR b l.length d (etCells l) (etCells_length l) hnews (etCells_one l) (by unfold maxLen; omega) (by omega) hbase
    rw [Nat.zero_add, List.nil_append] at h1
    unfold Oper.wp execOp
    simp only [ho, resolve, invoke, builtin, Sem.run_bind, Sem.run_pure, Result.andThen_ok, List.map_toArray, List.map_cons, List.map_nil, hs, hx, hr]
    exact h v' w' h1 h2 h4
theorem at_new (w : World) {g : Nat} {o : Obj} (h : g = w.heap.size) : (w.alloc o).heap[g]? = some o := by rw [h]; exact heap_alloc_new w o
theorem made_at (w : World) {g base : Nat} (h : g = w.heap.size) (hb : base ≤ w.heap.size) : (w.alloc (.cells #[] 40)).ownsRow base 40 6 (.slice (some ⟨g, 0, none⟩) 0 0) 0 [] := by
  subst h
  exact World.ownsRow_made w #[] 0 hb (by unfold maxLen; omega) rfl
theorem blk_ne {a b : Nat} (h : a ≠ b) : some a ≠ some b := fun e => h (by injection e)
/-- What the reference's Add comes to. -/
def RaEnd (w : World) (b : Nat) (B : Option Addr) (l : List Et) (e : Et) (x : Ending) (w' : World) : Prop :=
  x = .returned (.int .i64 (ckE e)) ∧ Kp w w' b none ∧ ∃ B' d', w'.heap[b]? = some (.cells #[.slice B' (addE l e).length d'] 50 (0, 0)) ∧ EtsIn w' B' (addE l e) ∧ (addE l e).length ≤ d' ∧ (B' = none → d' = 0) ∧ ((¬ okE e = true ∧ B' = B) ∨ ∃ g o, B' = some ⟨g, o, none⟩ ∧ w.heap.size ≤ g)
theorem radd_end {w w2 w4 : World} {b g cap n : Nat} {B : Option Addr} {v : Value} {l : List Et} {e : Et} (he : okE e = true) (hB : Below w.heap.size w w2) (hX : w2.heap[b]? = some (.cells #[v] 50 (0, 0))) (hn : n = l.length) (hb4 : Below w2.heap.size w2 w4) (ho : w4.ownsRow w2.heap.size 40 6 (.slice (some ⟨g, 0, none⟩) (l.length + 1) cap) (l.length + 1) (etCells (l ++ [e]))) :
    RaEnd w b B l e (.returned (.int .i64 0)) (w4.setCell ⟨b, 0, none⟩ (.slice (some ⟨g, 0, none⟩) (n + 1) cap)) := by
  subst hn
  have hb := L.blk_lt hX
  have h4 : w4.heap[b]? = some (.cells #[v] 50 (0, 0)) := (hb4.block b hb).trans hX
  have e1 : addE l e = l ++ [e] := if_pos he
  have hlen : (l ++ [e]).length = l.length + 1 := by simp
  have hg := World.ownsRow.lt ho g rfl
  obtain ⟨_, _, hv, hc, -⟩ := own_form ho
  injection hv with _ _ hv
  subst hv
  rw [RaEnd, e1, hlen]
  refine ⟨by rw [ckE_zero he], ((Kp.of hB b none).trans (Kp.of hb4 b none) (.inl rfl)).trans (Kp.set w4 b _ none) (.inl rfl), some ⟨g, 0, none⟩, cap, L.blk_set h4 0 _, ?_, hc, (fun e => by cases e), Or.inr ⟨g, 0, rfl, Nat.le_trans hB.size hg.1⟩⟩
  rw [← hlen] at ho
  refine ets_own (ho.kept (V.grown_set w4 ⟨b, 0, none⟩ _) (.inr ?_))
  show some g ≠ some b
  intro h
  injection h with h
  omega
set_option maxRecDepth 100000 in
set_option maxHeartbeats 4000000 in
theorem radd_any {w : World} {b d : Nat} {B : Option Addr} {l : List Et} {e : Et} (hok : EtOk e) (hX : w.heap[b]? = some (.cells #[.slice B l.length d] 50 (0, 0))) (hI : EtsIn w B l) (hB : B = none → d = 0) (hd : l.length ≤ d) (hl : l.length ≤ 1000) :
    Calls Tryd.prog 21 #[.pointer (some ⟨b, 0, none⟩), etV e] w (RaEnd w b B l e) := by
  have HCK := Lib.hid (c_rcheck hok)
  have hb := L.blk_lt hX
  have HBN : Hid (B = none → d = 0 ∧ l = []) := Lib.hid (fun h => ⟨hB h, List.length_eq_zero_iff.1 (by have := hB h; omega)⟩)
  have HD0 := Lib.hid hB
  obtain ⟨W1, hW1⟩ : ∃ W : World, W = w.alloc (.cells #[.string e.us, .int .i64 e.lv, .int .u64 (e.ct : Int), .string e.ve, .string e.fi, .string e.oc] 40) := ⟨_, rfl⟩
  have hx1 : W1.heap[w.heap.size]? = some (.cells #[.string e.us, .int .i64 e.lv, .int .u64 (e.ct : Int), .string e.ve, .string e.fi, .string e.oc] 40 (0, 0)) := by rw [hW1]; exact heap_alloc_new w _
  have hB1 : Below w.heap.size w W1 := by rw [hW1]; exact alloc1 _ _
  have HB1 := Lib.hid hB1
  have HR1 := Lib.hid (hI.below hB1)
  have HX1 := Lib.hid ((hB1.block b hb).trans hX)
  have HE1 := Lib.hid hx1
  obtain ⟨us, lv, ct, ve, fi, oc⟩ := e
  obtain ⟨xb, hxb⟩ : ∃ q, q = w.heap.size := ⟨_, rfl⟩
  rw [← hxb] at hx1 HE1
  have HZB := Lib.hid hxb
  have e0 := L.blk_cell hx1 0
  have e1 := L.blk_cell hx1 1
  have e2 := L.blk_cell hx1 2
  have e3 := L.blk_cell hx1 3
  have e4 := L.blk_cell hx1 4
  have e5 := L.blk_cell hx1 5
  simp only [List.getElem?_toArray, List.getElem?_cons_zero, List.getElem?_cons_succ] at e0 e1 e2 e3 e4 e5
  simp only [etV]
  clear hx1 hB1 hX hI hB
  by_cases hk : okE ⟨us, lv, ct, ve, fi, oc⟩ = true
  · have HK := Lib.hid hk
    have HZ := Lib.hid (ckE_zero hk)
    clear hk
    go_enter Tryd.func21, Tryd.ntmps21
    go_upto_region 1 with fail
    rw [← hW1, ← hxb]
    clear hW1 hxb
    go_wp2_with fail
    with_reducible refine (HCK.out.call _).mono ?_
    rintro x w2 ⟨rfl, hb2⟩
    rw [HZ.out]
    have HB2 := Lib.hid (HB1.out.trans (hb2.mono HB1.out.size))
    have HR2 := Lib.hid (HR1.out.below hb2)
    have hx2 := (hb2.block _ (L.blk_lt HX1.out)).trans HX1.out
    have he2 := (hb2.block _ (L.blk_lt HE1.out)).trans HE1.out
    have HX2 := Lib.hid hx2
    clear e0 e1 e2 e3 e4 e5 HR1 HX1 HE1 hb2 HCK HB1
    have e0 := L.blk_cell he2 0
    have e1 := L.blk_cell he2 1
    have e2 := L.blk_cell he2 2
    have e3 := L.blk_cell he2 3
    have e4 := L.blk_cell he2 4
    have e5 := L.blk_cell he2 5
    simp only [List.getElem?_toArray, List.getElem?_cons_zero, List.getElem?_cons_succ] at e0 e1 e2 e3 e4 e5
    have k0 := L.blk_cell hx2 0
    have z0 := L.blk_free hx2 0
    have hbl := L.blk_lt hx2
    have hxl := L.blk_lt he2
    simp only [List.getElem?_toArray, List.getElem?_cons_zero] at k0
    have hlt : (l.length : Int) < 1000000 := by omega
    have hlt2 : decide ((1000000 : Int) ≤ (l.length : Int)) = false := decide_eq_false (by omega)
    clear hx2 he2
    obtain ⟨n, hn⟩ : ∃ n, n = l.length := ⟨_, rfl⟩
    have HN := Lib.hid hn
    rw [← hn] at hl hlt hlt2 k0
    clear hn
    go_upto_region 6 with fail
    go_region_law (first
      | (refine step_append_ets (base := w2.heap.size) (by rfl) (.tmp 18) (.tmp 22) (by rfl) (by rfl) ?g1 (by rfl) HN.out ?g2 HBN.out (by rw [← HN.out]; omega) (by first | (simp; done) | (simp; omega)) ?_
         case g1 => first | exact made_at _ (by first | rfl | (simp; done) | (simp; omega)) (by first | exact Nat.le_refl _ | (simp; done) | (simp; omega)) | exact (made_at _ (by first | rfl | (simp; done) | (simp; omega)) (by first | exact Nat.le_refl _ | (simp; done) | (simp; omega))).alloc _
         case g2 => exact HR2.out.below (by repeat' (first | with_reducible exact Below.refl _ _ | with_reducible refine Below.drew ?_ | with_reducible refine Below.alloc ?_ (by first | exact Nat.le_refl _ | (simp; done) | (simp; omega)) _))
         intro v3 w3 hown3 hgrow3 hat3
         have hb3 : Below w2.heap.size w2 w3 := Below.grown (by repeat' (first | with_reducible exact Below.refl _ _ | with_reducible refine Below.drew ?_ | with_reducible refine Below.alloc ?_ (by first | exact Nat.le_refl _ | (simp; done) | (simp; omega)) _)) hgrow3 (by first | (simp; done) | (simp; omega)) (fun k e => by injection (show some _ = some k from e) with e2; rw [← e2]; first | exact Nat.le_refl _ | (simp; done) | (simp; omega))
         have s3 := hb3.size
         have q0 := (hb3.cell (p := ⟨xb, 0, none⟩) hxl).trans e0
         have q1 := (hb3.cell (p := ⟨xb, 1, none⟩) hxl).trans e1
         have q2 := (hb3.cell (p := ⟨xb, 2, none⟩) hxl).trans e2
         have q3 := (hb3.cell (p := ⟨xb, 3, none⟩) hxl).trans e3
         have q4 := (hb3.cell (p := ⟨xb, 4, none⟩) hxl).trans e4
         have q5 := (hb3.cell (p := ⟨xb, 5, none⟩) hxl).trans e5
         have HO3 := Lib.hid hown3
         have HG3 := Lib.hid hgrow3
         have HB3 := Lib.hid hb3
         clear hown3 hgrow3 hat3 hb3)
      | (refine step_append_rw (base := w2.heap.size) (r := v3.ownBlock) (v := v3) (by rfl) (.tmp 23) (.tmp 25) (by rfl) (by rfl) ?g3 ⟨us, lv, ct, ve, fi, oc⟩ _ 1 (by rfl) ?g4 (by rw [← HN.out]; omega) ?g5 _ rfl ?_
         case g3 => first | exact .inl ⟨HO3.out, rfl⟩ | exact .inl ⟨HO3.out.alloc _, rfl⟩
         case g4 => first | exact World.news_of_block (at_new _ (by first | rfl | (simp; done) | (simp; omega))) | exact World.news_of_block ((HG3.out.block _ (by first | (simp; done) | (simp; omega)) (show some _ ≠ some _ from blk_ne (by first | (simp; done) | (simp; omega)))).trans (at_new _ (by first | rfl | (simp; done) | (simp; omega)))) | exact World.news_of_block ((HG3.out.block _ (by first | (simp; done) | (simp; omega)) (show some _ ≠ some _ from blk_ne (by first | (simp; done) | (simp; omega)))).trans ((Below.heap_alloc _ _ _ (by first | (simp; done) | (simp; omega))).trans (at_new _ (by first | rfl | (simp; done) | (simp; omega)))))
         case g5 => first | exact s3 | (simp; omega)
         rw [← HN.out]
         intro g4 cap4 w4 hown4 hgrow4 hat4 hlt4
         have hb4 : Below w2.heap.size w2 w4 := Below.grown (by first | exact HB3.out | exact HB3.out.alloc s3 _) hgrow4 (by first | exact s3 | (simp; omega)) (own_base HO3.out)
         have HX4 := Lib.hid hb4
         have hc4 := hb4.cell (p := ⟨b, 0, none⟩) hbl
         have hz4 := (hb4.frozen (p := ⟨b, 0, none⟩) hbl).trans z0
         have HO4 := Lib.hid hown4
         clear hown4 hgrow4 hat4 hlt4 hb4))
    all_goals
      go_wp2_with fail
      go_ret
      exact radd_end HK.out HB2.out HX2.out HN.out HX4.out (by rw [← HN.out]; exact HO4.out)
  · have HZ := Lib.hid (ckE_two hk)
    have HNK := Lib.hid hk
    have HA : Hid (addE l ⟨us, lv, ct, ve, fi, oc⟩ = l) := Lib.hid (if_neg hk)
    clear hk
    go_enter Tryd.func21, Tryd.ntmps21
    go_upto_region 1 with fail
    rw [← hW1, ← hxb]
    clear hW1 hxb
    go_wp2_with fail
    with_reducible refine (HCK.out.call _).mono ?_
    rintro x w2 ⟨rfl, hb2⟩
    rw [HZ.out]
    have HB2 := Lib.hid (HB1.out.trans (hb2.mono HB1.out.size))
    have HR2 := Lib.hid (HR1.out.below hb2)
    have HX2 := Lib.hid ((hb2.block _ (L.blk_lt HX1.out)).trans HX1.out)
    clear e0 e1 e2 e3 e4 e5 HR1 HX1 HE1 hb2 HCK HB1
    go_wp2_with fail
    go_ret
    exact ⟨by rw [HZ.out]; rfl, Kp.of HB2.out b none, B, d, by rw [HA.out]; exact HX2.out, by rw [HA.out]; exact HR2.out, by rw [HA.out]; exact hd, HD0.out, .inl ⟨HNK.out, rfl⟩⟩
end Go.Proofs.YtbfohfmipfapdaaDoor.Au

namespace Go.Proofs.YtbfohfmipfapdaaDoor.Au
set_option linter.unusedVariables false
set_option linter.unusedSimpArgs false
open Go.RowKit
open T
open V (drawn_below grown_of)
open I (alloc1 own_at own_below)

/-- A log in memory, to be read: its box, its row. -/
structure LgA (W : World) (t : TypeId) (b : Nat) (A : Option Addr) (c : Nat) (l : List Et) : Prop where
  x : W.heap[b]? = some (.cells #[.slice A l.length c] t (0, 0))
  r : l.length ≤ c
  z : A = none → c = 0
  i : EtsIn W A l
def LgR (W : World) (t : TypeId) (b : Nat) (l : List Et) : Prop := ∃ A c, LgA W t b A c l
theorem LgA.below {W W' : World} {t : TypeId} {b : Nat} {A : Option Addr} {c : Nat} {l : List Et} (h : LgA W t b A c l) (hb : Below W.heap.size W W') : LgA W' t b A c l := ⟨(hb.block b (L.blk_lt h.x)).trans h.x, h.r, h.z, h.i.below hb⟩
theorem LgR.below {W W' : World} {t : TypeId} {b : Nat} {l : List Et} (h : LgR W t b l) (hb : Below W.heap.size W W') : LgR W' t b l := by
  obtain ⟨A, c, h⟩ := h
  exact ⟨A, c, h.below hb⟩
theorem LgA.cell {W : World} {t : TypeId} {b : Nat} {A : Option Addr} {c : Nat} {l : List Et} (h : LgA W t b A c l) : W.cell? ⟨b, 0, none⟩ = some (.slice A l.length c) := L.blk_cell h.x 0
/-- How an entry's label and another label compare. -/
theorem lab_has (x0 a0 : Int) (x1 a1 : Nat) (e : Et) (h0 : e.lv = x0) (h1 : e.ct = x1) : (hasE a0 a1 e = true ∧ (x0 == a0) = true ∧ ((x1 : Int) == (a1 : Int)) = true) ∨ (hasE a0 a1 e = false ∧ (x0 == a0) = false) ∨ (hasE a0 a1 e = false ∧ (x0 == a0) = true ∧ ((x1 : Int) == (a1 : Int)) = false) := by
  unfold hasE
  rw [h0, h1]
  by_cases g0 : x0 = a0
  · by_cases g1 : x1 = a1
    · exact .inl ⟨by simp [g0, g1], by simp [g0], by simp [g1]⟩
    · exact .inr (.inr ⟨by simp [g1], by simp [g0], by simp; omega⟩)
  · exact .inr (.inl ⟨by simp [g0], by simp [g0]⟩)
set_option maxRecDepth 100000 in
set_option maxHeartbeats 1000000 in
theorem of_any {w : World} {b : Nat} {l : List Et} (a0 : Int) (a1 : Nat) (hL : LgR w 52 b l) (hl : l.length ≤ 1000) :
    Calls Tryd.prog 9 #[.pointer (some ⟨b, 0, none⟩), .agg #[.int .i64 a0, .int .u64 (a1 : Int)]] w fun e w' => e = .returned (.int .i64 ((cnt a0 a1 l : Nat) : Int)) ∧ Below w.heap.size w w' := by
  obtain ⟨A, c, hL⟩ := hL
  obtain ⟨W0, hW0⟩ : ∃ W : World, W = w.alloc (.cells #[.int .i64 a0, .int .u64 (a1 : Int)] 25) := ⟨_, rfl⟩
  have hB0 : Below w.heap.size w W0 := by rw [hW0]; exact alloc1 _ _
  have HL := Lib.hid (hL.below hB0)
  have HB0 := Lib.hid hB0
  have HX0 := Lib.hid (show W0.heap[w.heap.size]? = some (.cells #[.int .i64 a0, .int .u64 (a1 : Int)] 25 (0, 0)) by rw [hW0]; exact heap_alloc_new w _)
  obtain ⟨xb, hxb⟩ : ∃ q, q = w.heap.size := ⟨_, rfl⟩
  rw [← hxb] at HX0
  have k0 := HL.out.cell
  clear hL hB0
  go_enter Tryd.func9, Tryd.ntmps9
  go_upto_region 1 with fail
  rw [← hW0, ← hxb]
  clear hW0 hxb
  go_wp2_with fail
  go_loopg [5, 15] l.length (fun q o i wr => ∃ k : Nat, k ≤ l.length ∧ o = .int .i64 ((cnt a0 a1 (l.take k) : Nat) : Int) ∧ i = .int .i64 k ∧ l.length - k ≤ q ∧ Hid (Below W0.heap.size W0 wr))
  case atStart => exact ⟨0, Nat.zero_le _, rfl, rfl, by omega, Lib.hid (Below.refl _ _)⟩
  case round =>
    obtain ⟨k, hk, rfl, rfl, hm, HBR⟩ := hrel
    by_cases hlt : k < l.length
    · obtain ⟨bk, off, hAe, hbk, c0, c1, c2, c3, c4, c5⟩ := et_at (HL.out.i.below HBR.out) hlt
      subst hAe
      have h0k : (0 : Int) ≤ (k : Int) := by omega
      have hki : (k : Int) < (l.length : Int) := by omega
      have HC := Lib.hid (cnt_take a0 a1 hlt)
      have hcl : cnt a0 a1 (l.take k) ≤ 1000 := Nat.le_trans (cnt_le _ _ _) (by rw [List.length_take]; omega)
      obtain ⟨n, hn⟩ : ∃ n, n = cnt a0 a1 (l.take k) := ⟨_, rfl⟩
      rw [← hn] at HC hcl ⊢
      clear hn
      obtain ⟨e, he⟩ : ∃ e, e = l[k]'hlt := ⟨_, rfl⟩
      rw [← he] at c0 c1 c2 c3 c4 c5 HC
      have HH := Lib.hid (lab_has e.lv a0 e.ct a1 e rfl rfl)
      clear he
      obtain ⟨us, x0, x1, ve, fi, oc⟩ := e
      simp only at c0 c1 c2 c3 c4 c5 HH
      generalize hasE a0 a1 ⟨us, x0, x1, ve, fi, oc⟩ = hb at *
      obtain ⟨w1, hw1⟩ : ∃ W : World, W = wr.alloc (.cells #[.string us, .int .i64 x0, .int .u64 (x1 : Int), .string ve, .string fi, .string oc] 40) := ⟨_, rfl⟩
      have hb1 : Below wr.heap.size wr w1 := by rw [hw1]; exact alloc1 _ _
      have HR := Lib.hid (HBR.out.trans (hb1.mono HBR.out.size))
      have hy := (HR.out.block xb (L.blk_lt HX0.out)).trans HX0.out
      have y0 := L.blk_cell hy 0
      have y1 := L.blk_cell hy 1
      have hx1 : w1.heap[wr.heap.size]? = some (.cells #[.string us, .int .i64 x0, .int .u64 (x1 : Int), .string ve, .string fi, .string oc] 40 (0, 0)) := by rw [hw1]; exact heap_alloc_new wr _
      have g1 := L.blk_cell hx1 1
      have g2 := L.blk_cell hx1 2
      simp only [List.getElem?_toArray, List.getElem?_cons_zero, List.getElem?_cons_succ] at y0 y1 g1 g2
      clear hb1 hy hbk hx1
      have hw : IntKind.i64.wrap ((n : Int) + 1) = ((n + 1 : Nat) : Int) := by rw [IntKind.wrap_i64]; omega
      rcases HH.out with ⟨rfl, h1, h2⟩ | ⟨rfl, h1⟩ | ⟨rfl, h1, h2⟩
      · clear HH
        go_upto_region 7 with fail
        rw [← hw1]
        clear hw1 c0 c1 c2 c3 c4 c5
        go_wp2_with fail
        go_roundg (l.length - (k + 1))
        case rel => exact ⟨k + 1, by omega, by rw [HC.out]; rfl, by go_num, Nat.le_refl _, HR⟩
        case measure => omega
      · clear HH
        go_upto_region 7 with fail
        rw [← hw1]
        clear hw1 c0 c1 c2 c3 c4 c5
        go_wp2_with fail
        go_roundg (l.length - (k + 1))
        case rel => exact ⟨k + 1, by omega, by rw [HC.out]; rfl, by go_num, Nat.le_refl _, HR⟩
        case measure => omega
      · clear HH
        go_upto_region 7 with fail
        rw [← hw1]
        clear hw1 c0 c1 c2 c3 c4 c5
        go_wp2_with fail
        go_roundg (l.length - (k + 1))
        case rel => exact ⟨k + 1, by omega, by rw [HC.out]; rfl, by go_num, Nat.le_refl _, HR⟩
        case measure => omega
    · obtain rfl : k = l.length := by omega
      rw [List.take_length]
      go_wp2_with fail
      go_ret
      exact ⟨rfl, HB0.out.trans (HBR.out.mono HB0.out.size)⟩
end Go.Proofs.YtbfohfmipfapdaaDoor.Au

namespace Go.Proofs.YtbfohfmipfapdaaDoor.Au
set_option linter.unusedVariables false
set_option linter.unusedSimpArgs false
open Go.RowKit
open T
open V (drawn_below grown_of)
open I (alloc1 own_at own_below)

set_option maxRecDepth 100000 in
set_option maxHeartbeats 1000000 in
theorem rof_any {w : World} {b : Nat} {l : List Et} (a0 : Int) (a1 : Nat) (hL : LgR w 50 b l) (hl : l.length ≤ 1000) :
    Calls Tryd.prog 10 #[.pointer (some ⟨b, 0, none⟩), .agg #[.int .i64 a0, .int .u64 (a1 : Int)]] w fun e w' => e = .returned (.int .i64 ((cnt a0 a1 l : Nat) : Int)) ∧ Below w.heap.size w w' := by
  obtain ⟨A, c, hL⟩ := hL
  obtain ⟨W0, hW0⟩ : ∃ W : World, W = w.alloc (.cells #[.int .i64 a0, .int .u64 (a1 : Int)] 25) := ⟨_, rfl⟩
  have hB0 : Below w.heap.size w W0 := by rw [hW0]; exact alloc1 _ _
  have HL := Lib.hid (hL.below hB0)
  have HB0 := Lib.hid hB0
  have HX0 := Lib.hid (show W0.heap[w.heap.size]? = some (.cells #[.int .i64 a0, .int .u64 (a1 : Int)] 25 (0, 0)) by rw [hW0]; exact heap_alloc_new w _)
  obtain ⟨xb, hxb⟩ : ∃ q, q = w.heap.size := ⟨_, rfl⟩
  rw [← hxb] at HX0
  clear hL hB0
  go_enter Tryd.func10, Tryd.ntmps10
  go_upto_region 1 with fail
  rw [← hW0, ← hxb]
  clear hW0 hxb
  go_wp2_with fail
  go_loopg [5, 6] l.length (fun q o i wr => ∃ k : Nat, k ≤ l.length ∧ o = .int .i64 ((cnt a0 a1 (l.take k) : Nat) : Int) ∧ i = .int .i64 k ∧ l.length - k ≤ q ∧ Hid (Below W0.heap.size W0 wr))
  case atStart => exact ⟨0, Nat.zero_le _, rfl, rfl, by omega, Lib.hid (Below.refl _ _)⟩
  case round =>
    obtain ⟨k, hk, rfl, rfl, hm, HBR⟩ := hrel
    have k0 := (HL.out.below HBR.out).cell
    by_cases hlt : k < l.length
    · obtain ⟨bk, off, hAe, hbk, c0, c1, c2, c3, c4, c5⟩ := et_at (HL.out.i.below HBR.out) hlt
      subst hAe
      have h0k : (0 : Int) ≤ (k : Int) := by omega
      have hki : (k : Int) < (l.length : Int) := by omega
      have HC := Lib.hid (cnt_take a0 a1 hlt)
      have hcl : cnt a0 a1 (l.take k) ≤ 1000 := Nat.le_trans (cnt_le _ _ _) (by rw [List.length_take]; omega)
      obtain ⟨n, hn⟩ : ∃ n, n = cnt a0 a1 (l.take k) := ⟨_, rfl⟩
      rw [← hn] at HC hcl ⊢
      clear hn
      obtain ⟨e, he⟩ : ∃ e, e = l[k]'hlt := ⟨_, rfl⟩
      rw [← he] at c0 c1 c2 c3 c4 c5 HC
      have HH := Lib.hid (lab_has e.lv a0 e.ct a1 e rfl rfl)
      clear he
      obtain ⟨us, x0, x1, ve, fi, oc⟩ := e
      simp only at c0 c1 c2 c3 c4 c5 HH
      generalize hasE a0 a1 ⟨us, x0, x1, ve, fi, oc⟩ = hb at *
      have hy := (HBR.out.block xb (L.blk_lt HX0.out)).trans HX0.out
      have y0 := L.blk_cell hy 0
      have y1 := L.blk_cell hy 1
      simp only [List.getElem?_toArray, List.getElem?_cons_zero, List.getElem?_cons_succ] at y0 y1
      have HR : Hid (∀ q, Below W0.heap.size W0 (wr.drewN q)) := Lib.hid (fun q => HBR.out.trans ((drawn_below wr q).mono HBR.out.size))
      clear hy hbk c0 c3 c4 c5
      have hw : IntKind.i64.wrap ((n : Int) + 1) = ((n + 1 : Nat) : Int) := by rw [IntKind.wrap_i64]; omega
      rcases HH.out with ⟨rfl, h1, h2⟩ | ⟨rfl, h1⟩ | ⟨rfl, h1, h2⟩
      · clear HH
        go_wp2_with fail
        go_quiet (fail)
        go_wp2_with fail
        go_roundg (l.length - (k + 1))
        case rel => exact ⟨k + 1, by omega, by rw [HC.out]; rfl, by go_num, Nat.le_refl _, Lib.hid (HR.out _)⟩
        case measure => omega
      · clear HH
        go_wp2_with fail
        go_quiet (fail)
        go_wp2_with fail
        go_roundg (l.length - (k + 1))
        case rel => exact ⟨k + 1, by omega, by rw [HC.out]; rfl, by go_num, Nat.le_refl _, Lib.hid (HR.out _)⟩
        case measure => omega
      · clear HH
        go_wp2_with fail
        go_quiet (fail)
        go_wp2_with fail
        go_roundg (l.length - (k + 1))
        case rel => exact ⟨k + 1, by omega, by rw [HC.out]; rfl, by go_num, Nat.le_refl _, Lib.hid (HR.out _)⟩
        case measure => omega
    · obtain rfl : k = l.length := by omega
      rw [List.take_length]
      go_wp2_with fail
      go_ret
      exact ⟨rfl, HB0.out.trans (HBR.out.mono HB0.out.size)⟩
set_option maxRecDepth 100000 in
theorem len_any {w : World} {b : Nat} {l : List Et} (hL : LgR w 52 b l) :
    Calls Tryd.prog 22 #[.pointer (some ⟨b, 0, none⟩)] w fun e w' => e = .returned (.int .i64 (l.length : Int)) ∧ w' = w := by
  obtain ⟨A, c, hL⟩ := hL
  have k0 := hL.cell
  generalize l.length = n at *
  clear hL
  go_enter Tryd.func22, Tryd.ntmps22
  go_wp2_with fail
  go_ret
  exact ⟨rfl, rfl⟩
set_option maxRecDepth 100000 in
theorem new_any (w : World) : Calls Tryd.prog 23 #[] w fun e w' => e = .returned (.pointer (some ⟨w.heap.size, 0, none⟩)) ∧ w' = w.alloc (.cells #[.slice none 0 0] 52) := by
  go_enter Tryd.func23, Tryd.ntmps23
  go_wp2_with fail
  go_ret
  exact ⟨rfl, rfl⟩
theorem cut_run {A : Option Addr} {n c : Nat} (hnc : n ≤ c) (hz : A = none → c = 0) (W : World) : Sem.run Tryd.prog (Instr.sliceAt 22 (.slice A n c) none (some (.int .i64 (n : Int))) (some (.int .i64 (n : Int)))) W = .ok (.slice A n n) W := by
  have h0 : (0 : Int) ≤ (n : Int) := by omega
  have hc : (n : Int) ≤ (c : Int) := by omega
  cases A with
  | none =>
    obtain rfl := hz rfl
    obtain rfl : n = 0 := by omega
    go_simp
  | some ad =>
    by_cases hn : n = 0
    · subst hn; go_simp
    · go_simp
set_option maxRecDepth 100000 in
theorem fork_any {w : World} {b : Nat} {A : Option Addr} {c : Nat} {l : List Et} (hL : LgA w 52 b A c l) :
    Calls Tryd.prog 19 #[.pointer (some ⟨b, 0, none⟩)] w fun e w' => e = .returned (.pointer (some ⟨w.heap.size, 0, none⟩)) ∧ w' = w.alloc (.cells #[.slice A l.length l.length] 52) := by
  have k0 := hL.cell
  have hrun := fun W => cut_run (A := A) hL.r hL.z W
  generalize l.length = n at *
  clear hL
  go_enter Tryd.func19, Tryd.ntmps19
  go_wp2_with fail
  go_ret
  exact ⟨rfl, rfl⟩
set_option maxRecDepth 100000 in
theorem rfork_any {w : World} {b : Nat} {A : Option Addr} {c : Nat} {l : List Et} (hL : LgA w 50 b A c l) :
    Calls Tryd.prog 20 #[.pointer (some ⟨b, 0, none⟩)] w fun e w' => e = .returned (.pointer (some ⟨w.heap.size, 0, none⟩)) ∧ w' = w.alloc (.cells #[.slice A l.length c] 50) := by
  have k0 := hL.cell
  generalize l.length = n at *
  clear hL
  go_enter Tryd.func20, Tryd.ntmps20
  go_wp2_with fail
  go_ret
  exact ⟨rfl, rfl⟩
def OfC (fn : FuncId) (t : TypeId) (b : Nat) (l : List Et) (a0 : Int) (a1 : Nat) (n : Nat) : Prop := ∀ W : World, LgR W t b l → Calls Tryd.prog fn #[.pointer (some ⟨b, 0, none⟩), .agg #[.int .i64 a0, .int .u64 (a1 : Int)]] W fun e w' => e = .returned (.int .i64 (n : Int)) ∧ Below W.heap.size W w'
theorem OfC.at {fn : FuncId} {t : TypeId} {b : Nat} {l : List Et} {a0 : Int} {a1 n : Nat} (h : OfC fn t b l a0 a1 n) {W : World} (h1 : LgR W t b l) : Calls Tryd.prog fn #[.pointer (some ⟨b, 0, none⟩), .agg #[.int .i64 a0, .int .u64 (a1 : Int)]] W fun e w' => e = .returned (.int .i64 (n : Int)) ∧ Below W.heap.size W w' := h W h1
set_option maxRecDepth 100000 in
theorem full_any {w : World} {b : Nat} {l : List Et} {a0 : Int} {a1 n : Nat} (q : Int) (hL : LgR w 52 b l) (HF : Hid (OfC 9 52 b l a0 a1 n)) :
    Calls Tryd.prog 11 #[.pointer (some ⟨b, 0, none⟩), .agg #[.int .i64 a0, .int .u64 (a1 : Int)], .int .i64 q] w fun e w' => e = .returned (.bool (decide (q ≤ (n : Int)))) ∧ Below w.heap.size w w' := by
  obtain ⟨W0, hW0⟩ : ∃ W : World, W = w.alloc (.cells #[.int .i64 a0, .int .u64 (a1 : Int)] 25) := ⟨_, rfl⟩
  have hB0 : Below w.heap.size w W0 := by rw [hW0]; exact alloc1 _ _
  have HL := Lib.hid (hL.below hB0)
  have HB0 := Lib.hid hB0
  have hx0 : W0.heap[w.heap.size]? = some (.cells #[.int .i64 a0, .int .u64 (a1 : Int)] 25 (0, 0)) := by rw [hW0]; exact heap_alloc_new w _
  have y0 := L.blk_cell hx0 0
  have y1 := L.blk_cell hx0 1
  simp only [List.getElem?_toArray, List.getElem?_cons_zero, List.getElem?_cons_succ] at y0 y1
  obtain ⟨xb, hxb⟩ : ∃ q, q = w.heap.size := ⟨_, rfl⟩
  rw [← hxb] at y0 y1
  clear hL hB0 hx0
  go_enter Tryd.func11, Tryd.ntmps11
  go_upto_region 1 with fail
  rw [← hW0, ← hxb]
  clear hW0 hxb
  go_wp2_with fail
  with_reducible refine (HF.out.at HL.out).mono ?_
  rintro e w1 ⟨rfl, hb1⟩
  have HB1 := Lib.hid (HB0.out.trans (hb1.mono HB0.out.size))
  clear hb1
  go_wp2_with fail
  go_ret
  exact ⟨rfl, HB1.out⟩
end Go.Proofs.YtbfohfmipfapdaaDoor.Au

namespace Go.Proofs.YtbfohfmipfapdaaDoor.Au
set_option linter.unusedVariables false
set_option linter.unusedSimpArgs false
open Go.RowKit
open T
open V (drawn_below grown_of RbC RbC.call)
open I (alloc1 own_at own_below)

def BlC (l m : Int) (c d : Nat) (b : Bool) : Prop := ∀ W : World, Calls Tryd.prog 26 #[L.lab l c, L.lab m d] W fun e w' => e = .returned (.bool b) ∧ Below W.heap.size W w'
theorem BlC.call {l m : Int} {c d : Nat} {b : Bool} (h : BlC l m c d b) (W : World) : Calls Tryd.prog 26 #[L.lab l c, L.lab m d] W fun e w' => e = .returned (.bool b) ∧ Below W.heap.size W w' := h W
/-- What Seen comes to: a new row. -/
def SeEnd (w : World) (s : List Et) (e : Ending) (w' : World) : Prop := ∃ A c, e = .returned (.slice A s.length c) ∧ w'.ownsRow w.heap.size 40 6 (.slice A s.length c) s.length (etCells s) ∧ Below w.heap.size w w'
theorem se_of {w w' : World} {base : Nat} {v : Value} {s ys : List Et} (h : w'.ownsRow base 40 6 v ys.length (etCells ys)) (hs : ys = s) (hb : w.heap.size ≤ base) (hB : Below w.heap.size w w') : SeEnd w s (.returned v) w' := by
  subst hs
  obtain ⟨A, c, rfl, -, -⟩ := own_form h
  exact ⟨A, c, rfl, own_more h hb, hB⟩
set_option maxRecDepth 100000 in
set_option maxHeartbeats 2000000 in
theorem seen_any {w : World} {b : Nat} {l : List Et} (a0 : Int) (a1 : Nat) (hL : LgR w 52 b l) (hl : l.length ≤ 1000) (hct : ∀ e ∈ l, e.ct < 18446744073709551616) (ha : a1 < 18446744073709551616) :
    Calls Tryd.prog 13 #[.pointer (some ⟨b, 0, none⟩), .agg #[.int .i64 a0, .int .u64 (a1 : Int)]] w (SeEnd w (seen a0 a1 l)) := by
  obtain ⟨i0, hi0, hz0, hz1, hz2⟩ := info_parts infoEt
  obtain ⟨A, c, hL⟩ := hL
  have HB := Lib.hid (fun (k : Nat) (h : k < l.length) => show BlC l[k].lv a0 l[k].ct a1 (blE a0 a1 l[k]) from fun w => L.below_any _ _ _ _ w (hct _ (List.getElem_mem h)) ha)
  obtain ⟨W0, hW0⟩ : ∃ W : World, W = w.alloc (.cells #[.int .i64 a0, .int .u64 (a1 : Int)] 25) := ⟨_, rfl⟩
  have hB0 : Below w.heap.size w W0 := by rw [hW0]; exact alloc1 _ _
  have HL := Lib.hid (hL.below hB0)
  have HB0 := Lib.hid hB0
  have HX0 := Lib.hid (show W0.heap[w.heap.size]? = some (.cells #[.int .i64 a0, .int .u64 (a1 : Int)] 25 (0, 0)) by rw [hW0]; exact heap_alloc_new w _)
  obtain ⟨xb, hxb⟩ : ∃ q, q = w.heap.size := ⟨_, rfl⟩
  rw [← hxb] at HX0
  have k0 := HL.out.cell
  clear hL hB0 hct
  go_enter Tryd.func13, Tryd.ntmps13
  go_upto_region 1 with fail
  rw [← hW0, ← hxb]
  clear hW0 hxb
  go_wp2_with fail
  go_loopg [5, 15] l.length (fun q v i wr => ∃ (k : Nat) (ys : List Et), k ≤ l.length ∧ i = .int .i64 k ∧ l.length - k ≤ q ∧ ys.length ≤ 1000 ∧ Hid (wr.ownsRow W0.heap.size 40 6 v ys.length (etCells ys)) ∧ Hid (ys = seen a0 a1 (l.take k)) ∧ Hid (Below W0.heap.size W0 wr))
  case atStart => exact ⟨0, [], Nat.zero_le _, rfl, by omega, by simp, Lib.hid (World.ownsRow_nil _ _ _ _), Lib.hid (by simp [seen]), Lib.hid (Below.refl _ _)⟩
  case round =>
    obtain ⟨k, ys, hk, rfl, hm, hyl, HO, HY, HBR⟩ := hrel
    by_cases hlt : k < l.length
    · obtain ⟨bk, off, hAe, hbk, c0, c1, c2, c3, c4, c5⟩ := et_at (HL.out.i.below HBR.out) hlt
      subst hAe
      have h0k : (0 : Int) ≤ (k : Int) := by omega
      have hki : (k : Int) < (l.length : Int) := by omega
      have HN := Lib.hid (seen_take a0 a1 hlt)
      rw [← HY.out] at HN
      have HBK := Lib.hid (HB.out k hlt)
      have HLN : Hid ((seen a0 a1 (l.take (k + 1))).length ≤ 1000) := Lib.hid (Nat.le_trans (seen_len _ _ _) (by rw [List.length_take]; omega))
      obtain ⟨e, he⟩ : ∃ e, e = l[k]'hlt := ⟨_, rfl⟩
      rw [← he] at c0 c1 c2 c3 c4 c5 HN HBK
      clear he HY
      obtain ⟨us, x0, x1, ve, fi, oc⟩ := e
      simp only at c0 c1 c2 c3 c4 c5 HBK
      obtain ⟨bv, hbv⟩ : ∃ q, q = blE a0 a1 ⟨us, x0, x1, ve, fi, oc⟩ := ⟨_, rfl⟩
      rw [← hbv] at HN HBK
      clear hbv
      obtain ⟨w1, hw1⟩ : ∃ W : World, W = wr.alloc (.cells #[.string us, .int .i64 x0, .int .u64 (x1 : Int), .string ve, .string fi, .string oc] 40) := ⟨_, rfl⟩
      have hb1 : Below wr.heap.size wr w1 := by rw [hw1]; exact alloc1 _ _
      have HR := Lib.hid (HBR.out.trans (hb1.mono HBR.out.size))
      have HO1 := Lib.hid (own_below HO.out hb1)
      have hy := (HR.out.block xb (L.blk_lt HX0.out)).trans HX0.out
      have y0 := L.blk_cell hy 0
      have y1 := L.blk_cell hy 1
      have hx1 : w1.heap[wr.heap.size]? = some (.cells #[.string us, .int .i64 x0, .int .u64 (x1 : Int), .string ve, .string fi, .string oc] 40 (0, 0)) := by rw [hw1]; exact heap_alloc_new wr _
      have HX1 := Lib.hid hx1
      have g1 := L.blk_cell hx1 1
      have g2 := L.blk_cell hx1 2
      simp only [List.getElem?_toArray, List.getElem?_cons_zero, List.getElem?_cons_succ] at y0 y1 g1 g2
      clear hb1 hy hbk hx1 HO
      go_upto_region 7 with fail
      rw [← hw1]
      obtain ⟨eb, heb⟩ : ∃ q, q = wr.heap.size := ⟨_, rfl⟩
      rw [← heb] at HX1 g1 g2 ⊢
      clear hw1 c0 c1 c2 c3 c4 c5 heb
      go_wp2_with fail
      with_reducible refine (HBK.out.call _).mono ?_
      rintro z w2 ⟨rfl, hb2⟩
      have HB2 := Lib.hid (HR.out.trans (hb2.mono HR.out.size))
      have HO2 := Lib.hid (own_below HO1.out hb2)
      have hx2 := (hb2.block _ (L.blk_lt HX1.out)).trans HX1.out
      clear g1 g2 y0 y1 HX1 HO1 HR HBK hb2
      cases bv with
      | false =>
        clear hx2
        go_wp2_with fail
        go_roundg (l.length - (k + 1))
        case rel => exact ⟨k + 1, ys, by omega, by go_num, Nat.le_refl _, hyl, HO2, Lib.hid (by rw [HN.out]; simp), HB2⟩
        case measure => omega
      | true =>
        have g0 := L.blk_cell hx2 0
        have g1 := L.blk_cell hx2 1
        have g2 := L.blk_cell hx2 2
        have g3 := L.blk_cell hx2 3
        have g4 := L.blk_cell hx2 4
        have g5 := L.blk_cell hx2 5
        simp only [List.getElem?_toArray, List.getElem?_cons_zero, List.getElem?_cons_succ] at g0 g1 g2 g3 g4 g5
        have HOA := Lib.hid (World.ownsRow.alloc HO2.out (.cells #[.string us, .int .i64 x0, .int .u64 (x1 : Int), .string ve, .string fi, .string oc] 40))
        have HNW := Lib.hid (World.news_of_block (w := w2.alloc (.cells #[.string us, .int .i64 x0, .int .u64 (x1 : Int), .string ve, .string fi, .string oc] 40)) (heap_alloc_new w2 _))
        have hs2 := HB2.out.size
        clear hx2
        go_wp2_with (at_builtin; refine wpList_append_own _ rfl (.tmp 23) (.tmp 25) 22 rfl W0.heap.size 40 i0 _ 6 80 Tryd.underlying22 hi0 hz0 hz1 hz2 rfl (by decide) _ ys.length (etCells ys) rfl HOA.out ⟨w2.heap.size, 0, none⟩ 1 1 (etCells [⟨us, x0, x1, ve, fi, oc⟩]) rfl rfl HNW.out (etCells_one _) ?c3 ?c4 ?c5 ?_)
        case c3 => unfold maxLen; omega
        case c4 => omega
        case c5 => simp; omega
        intro v' w4 hown4 hg4 _
        have HB4 : Hid (Below W0.heap.size W0 w4) := Lib.hid ((HB2.out.alloc hs2 _).grown hg4 (by simp; omega) (own_base HO2.out))
        rw [show ys.length + 1 = (ys ++ [(⟨us, x0, x1, ve, fi, oc⟩ : Et)]).length by simp, show etCells ys ++ etCells [(⟨us, x0, x1, ve, fi, oc⟩ : Et)] = etCells (ys ++ [⟨us, x0, x1, ve, fi, oc⟩]) by simp [etCells]] at hown4
        have HO4 := Lib.hid hown4
        clear hown4 hg4
        go_wp2_with fail
        go_roundg (l.length - (k + 1))
        case rel => exact ⟨k + 1, ys ++ [⟨us, x0, x1, ve, fi, oc⟩], by omega, by go_num, Nat.le_refl _, by have := HLN.out; rw [HN.out] at this; simpa using this, HO4, Lib.hid (by rw [HN.out]; simp), HB4⟩
        case measure => omega
    · obtain rfl : k = l.length := by omega
      rw [List.take_length] at HY
      go_wp2_with fail
      go_ret
      exact se_of HO.out HY.out HB0.out.size (HB0.out.trans (HBR.out.mono HB0.out.size))
set_option maxRecDepth 100000 in
set_option maxHeartbeats 2000000 in
theorem rseen_any {w : World} {b : Nat} {l : List Et} (a0 : Int) (a1 : Nat) (hL : LgR w 50 b l) (hl : l.length ≤ 1000) (hct : ∀ e ∈ l, e.ct < 18446744073709551616) :
    Calls Tryd.prog 14 #[.pointer (some ⟨b, 0, none⟩), .agg #[.int .i64 a0, .int .u64 (a1 : Int)]] w (SeEnd w (seen a0 a1 l)) := by
  obtain ⟨i0, hi0, hz0, hz1, hz2⟩ := info_parts infoEt
  obtain ⟨A, c, hL⟩ := hL
  have HB := Lib.hid (fun (k : Nat) (h : k < l.length) => show RbC l[k].lv a0 l[k].ct a1 (blE a0 a1 l[k]) from fun w => L.refBelow_any _ _ _ _ w (hct _ (List.getElem_mem h)))
  obtain ⟨W00, hW00⟩ : ∃ W : World, W = w.alloc (.cells #[.int .i64 a0, .int .u64 (a1 : Int)] 25) := ⟨_, rfl⟩
  have hs00 : W00.heap.size = w.heap.size + 1 := by rw [hW00]; simp
  have HX00 := Lib.hid (show W00.heap[w.heap.size]? = some (.cells #[.int .i64 a0, .int .u64 (a1 : Int)] 25 (0, 0)) by rw [hW00]; exact heap_alloc_new w _)
  have hB00 : Below w.heap.size w W00 := by rw [hW00]; exact alloc1 _ _
  obtain ⟨W0, hW0⟩ : ∃ W : World, W = W00.alloc (.cells #[] 40) := ⟨_, rfl⟩
  have HO0 := Lib.hid (show W0.ownsRow W00.heap.size 40 6 (.slice (some ⟨w.heap.size + 1, 0, none⟩) 0 0) 0 [] by rw [hW0]; exact made_at W00 hs00.symm (Nat.le_refl _))
  have HBW := Lib.hid (show Below W00.heap.size W00 W0 by rw [hW0]; exact alloc1 _ _)
  have HB00 := Lib.hid hB00
  have HL := Lib.hid (hL.below hB00)
  obtain ⟨xb, hxb⟩ : ∃ q, q = w.heap.size := ⟨_, rfl⟩
  rw [← hxb] at HX00 HO0
  clear hL hB00 hct hs00
  go_enter Tryd.func14, Tryd.ntmps14
  go_upto_region 2 with fail
  rw [← hW00, ← hW0, ← hxb]
  clear hW0 hW00 hxb
  go_wp2_with fail
  go_loopg [5, 6] l.length (fun q v i wr => ∃ (k : Nat) (ys : List Et), k ≤ l.length ∧ i = .int .i64 k ∧ l.length - k ≤ q ∧ ys.length ≤ 1000 ∧ Hid (wr.ownsRow W00.heap.size 40 6 v ys.length (etCells ys)) ∧ Hid (ys = seen a0 a1 (l.take k)) ∧ Hid (Below W00.heap.size W00 wr))
  case atStart => exact ⟨0, [], Nat.zero_le _, rfl, by omega, by simp, HO0, Lib.hid (by simp [seen]), HBW⟩
  case round =>
    obtain ⟨k, ys, hk, rfl, hm, hyl, HO, HY, HBR⟩ := hrel
    have k0 := (HL.out.below HBR.out).cell
    by_cases hlt : k < l.length
    · obtain ⟨bk, off, hAe, hbk, c0, c1, c2, c3, c4, c5⟩ := et_at (HL.out.below HBR.out).i hlt
      subst hAe
      have h0k : (0 : Int) ≤ (k : Int) := by omega
      have hki : (k : Int) < (l.length : Int) := by omega
      have HN := Lib.hid (seen_take a0 a1 hlt)
      rw [← HY.out] at HN
      have HBK := Lib.hid (HB.out k hlt)
      have HLN : Hid ((seen a0 a1 (l.take (k + 1))).length ≤ 1000) := Lib.hid (Nat.le_trans (seen_len _ _ _) (by rw [List.length_take]; omega))
      obtain ⟨e, he⟩ : ∃ e, e = l[k]'hlt := ⟨_, rfl⟩
      rw [← he] at c0 c1 c2 c3 c4 c5 HN HBK
      clear he HY
      obtain ⟨us, x0, x1, ve, fi, oc⟩ := e
      simp only at c0 c1 c2 c3 c4 c5 HBK
      obtain ⟨bv, hbv⟩ : ∃ q, q = blE a0 a1 ⟨us, x0, x1, ve, fi, oc⟩ := ⟨_, rfl⟩
      rw [← hbv] at HN HBK
      clear hbv
      have y0 := L.blk_cell ((HBR.out.block xb (L.blk_lt HX00.out)).trans HX00.out) 0
      have y1 := L.blk_cell ((HBR.out.block xb (L.blk_lt HX00.out)).trans HX00.out) 1
      simp only [List.getElem?_toArray, List.getElem?_cons_zero, List.getElem?_cons_succ] at y0 y1
      have HC : Hid (wr.cell? ⟨bk, off + k * 6, none⟩ = some (.string us) ∧ wr.cell? ⟨bk, off + k * 6 + 1, none⟩ = some (.int .i64 x0) ∧ wr.cell? ⟨bk, off + k * 6 + 2, none⟩ = some (.int .u64 (x1 : Int)) ∧ wr.cell? ⟨bk, off + k * 6 + 3, none⟩ = some (.string ve) ∧ wr.cell? ⟨bk, off + k * 6 + 4, none⟩ = some (.string fi) ∧ wr.cell? ⟨bk, off + k * 6 + 5, none⟩ = some (.string oc)) := Lib.hid ⟨c0, c1, c2, c3, c4, c5⟩
      clear c0 c3 c4 c5
      go_wp2_with fail
      go_still_tail 9, (by kernel_rfl)
      change wpList _ _ _ _ _ (World.drew _)
      clear y0 y1 c1 c2 k0
      go_wp2_with fail
      with_reducible refine (HBK.out.call _).mono ?_
      rintro z w2 ⟨rfl, hb2'⟩
      have hb2 : Below wr.heap.size wr w2 := (Below.refl _ _).drew.trans hb2'
      have HB2 := Lib.hid (HBR.out.trans (hb2.mono HBR.out.size))
      have HO2 := Lib.hid (own_below HO.out hb2)
      obtain ⟨c0', c1', c2', c3', c4', c5'⟩ := HC.out
      have c0 := (hb2.cell (p := ⟨bk, off + k * 6, none⟩) hbk).trans c0'
      have c1 := (hb2.cell (p := ⟨bk, off + k * 6 + 1, none⟩) hbk).trans c1'
      have c2 := (hb2.cell (p := ⟨bk, off + k * 6 + 2, none⟩) hbk).trans c2'
      have c3 := (hb2.cell (p := ⟨bk, off + k * 6 + 3, none⟩) hbk).trans c3'
      have c4 := (hb2.cell (p := ⟨bk, off + k * 6 + 4, none⟩) hbk).trans c4'
      have c5 := (hb2.cell (p := ⟨bk, off + k * 6 + 5, none⟩) hbk).trans c5'
      have k0 := (HL.out.below HB2.out).cell
      clear HO HBR HBK hb2 hb2' HC c0' c1' c2' c3' c4' c5'
      cases bv with
      | false =>
        go_wp2_with fail
        go_roundg (l.length - (k + 1))
        case rel => exact ⟨k + 1, ys, by omega, by go_num, Nat.le_refl _, hyl, HO2, Lib.hid (by rw [HN.out]; simp), HB2⟩
        case measure => omega
      | true =>
        have HOA := Lib.hid (World.ownsRow.alloc HO2.out (.cells #[.string us, .int .i64 x0, .int .u64 (x1 : Int), .string ve, .string fi, .string oc] 40))
        have HNW := Lib.hid (World.news_of_block (w := w2.alloc (.cells #[.string us, .int .i64 x0, .int .u64 (x1 : Int), .string ve, .string fi, .string oc] 40)) (heap_alloc_new w2 _))
        have hbs := HB2.out.size
        go_wp2_with (at_builtin; refine wpList_append_own _ rfl (.tmp 27) (.tmp 35) 22 rfl W00.heap.size 40 i0 _ 6 80 Tryd.underlying22 hi0 hz0 hz1 hz2 rfl (by decide) _ ys.length (etCells ys) rfl HOA.out ⟨w2.heap.size, 0, none⟩ 1 1 (etCells [⟨us, x0, x1, ve, fi, oc⟩]) rfl rfl HNW.out (etCells_one _) ?c3 ?c4 ?c5 ?_)
        case c3 => unfold maxLen; omega
        case c4 => omega
        case c5 => simp; omega
        intro v' w4 hown4 hg4 _
        have HG4 := Lib.hid ((grown_of (alloc1 w2 (.cells #[.string us, .int .i64 x0, .int .u64 (x1 : Int), .string ve, .string fi, .string oc] 40)) _).trans hg4)
        have HB4 : Hid (Below W00.heap.size W00 w4) := Lib.hid (HB2.out.grown HG4.out hbs (own_base HO2.out))
        rw [show ys.length + 1 = (ys ++ [(⟨us, x0, x1, ve, fi, oc⟩ : Et)]).length by simp, show etCells ys ++ etCells [(⟨us, x0, x1, ve, fi, oc⟩ : Et)] = etCells (ys ++ [⟨us, x0, x1, ve, fi, oc⟩]) by simp [etCells]] at hown4
        have HO4 := Lib.hid hown4
        clear hown4 hg4
        go_wp2_with fail
        go_roundg (l.length - (k + 1))
        case rel => exact ⟨k + 1, ys ++ [⟨us, x0, x1, ve, fi, oc⟩], by omega, by go_num, Nat.le_refl _, by have := HLN.out; rw [HN.out] at this; simpa using this, HO4, Lib.hid (by rw [HN.out]; simp), HB4⟩
        case measure => omega
    · obtain rfl : k = l.length := by omega
      rw [List.take_length] at HY
      go_wp2_with fail
      go_ret
      exact se_of HO.out HY.out HB00.out.size (HB00.out.trans (HBR.out.mono HB00.out.size))
set_option maxRecDepth 100000 in
set_option maxHeartbeats 2000000 in
theorem same_any {A B : Option Addr} {c d : Nat} {l : List Et} (w : World) (hA : EtsIn w A l) (hB : EtsIn w B l) (hl : l.length ≤ 1000) :
    Calls Tryd.prog 12 #[.slice A l.length c, .slice B l.length d] w fun e w' => e = .returned (.bool true) ∧ Below w.heap.size w w' := by
  have HA := Lib.hid hA
  have HB := Lib.hid hB
  clear hA hB
  have hne : ((l.length : Int) != (l.length : Int)) = false := by simp
  go_enter Tryd.func12, Tryd.ntmps12
  go_wp2_with fail
  go_loopg [5] l.length (fun n i wr => ∃ k : Nat, k ≤ l.length ∧ i = .int .i64 k ∧ l.length - k ≤ n ∧ ∃ q, wr = w.drewN q)
  case atStart => exact ⟨0, Nat.zero_le _, rfl, by omega, 0, rfl⟩
  case round =>
    obtain ⟨k, hk, rfl, hn, q, rfl⟩ := hrel
    by_cases hlt : k < l.length
    · obtain ⟨bk, off, hAe, hbk, c0, c1, c2, c3, c4, c5⟩ := et_at HA.out hlt
      obtain ⟨bk', off', hAe', hbk', d0, d1, d2, d3, d4, d5⟩ := et_at HB.out hlt
      subst hAe hAe'
      have h0k : (0 : Int) ≤ (k : Int) := Int.natCast_nonneg _
      have h1k : (k : Int) < (l.length : Int) := by omega
      have hq := fun W => et_neq W l[k] l[k]
      obtain ⟨us, x0, x1, ve, fi, oc⟩ := l[k]
      simp only [etV, decide_true, Bool.not_true] at hq c0 c1 c2 c3 c4 c5 d0 d1 d2 d3 d4 d5
      go_wp2_with fail
      go_quiet (fail)
      go_wp2_with fail
      go_roundg (l.length - (k + 1))
      case measure => omega
      case rel => exact ⟨k + 1, by omega, by go_num, Nat.le_refl _, _, rfl⟩
    · obtain rfl : k = l.length := by omega
      go_wp2_with fail
      go_ret
      exact ⟨rfl, drawn_below w q⟩
end Go.Proofs.YtbfohfmipfapdaaDoor.Au

namespace Go.Proofs.YtbfohfmipfapdaaDoor.Au
set_option linter.unusedVariables false
set_option linter.unusedSimpArgs false
open Go.RowKit
open T
open V (drawn_below grown_of)
open I (alloc1 own_at own_below)

theorem cat2 {a b : ByteArray} (h : a.data.toList.length + b.data.toList.length ≤ 9223372036854775807) : ∃ z : ByteArray, (∀ w : World, (Op.stringOp .add a b).run Tryd.prog w = .ok (.string z) w) ∧ z.data.toList = a.data.toList ++ b.data.toList :=
  ⟨a ++ b, fun w => run_string_add_sum w a b (by rw [Lib.size_eq, Lib.size_eq]; omega), by simp⟩
theorem ln_join (n : Int) (e : Et) : Lib.join [P.decimal n, e.us.data.toList, L.print e.lv e.ct, e.ve.data.toList, e.fi.data.toList, e.oc.data.toList] [32] ++ [10] = ln n e := by
  unfold ln Lib.join
  simp [List.intercalate]
theorem words_at (w : World) (a0 a1 a2 a3 a4 a5 : ByteArray) : ∀ (j : Nat) x, [a0, a1, a2, a3, a4, a5][j]? = some x → (w.alloc (.cells #[.string a0, .string a1, .string a2, .string a3, .string a4, .string a5] 9)).cell? ⟨w.heap.size, 0 + j, none⟩ = some (.string x) := by
  intro j x hj
  have hb := heap_alloc_new w (.cells #[.string a0, .string a1, .string a2, .string a3, .string a4, .string a5] 9)
  rw [Nat.zero_add]
  match j, hj with
  | 0, hj => injection hj with hj; subst hj; exact L.blk_cell hb 0
  | 1, hj => injection hj with hj; subst hj; exact L.blk_cell hb 1
  | 2, hj => injection hj with hj; subst hj; exact L.blk_cell hb 2
  | 3, hj => injection hj with hj; subst hj; exact L.blk_cell hb 3
  | 4, hj => injection hj with hj; subst hj; exact L.blk_cell hb 4
  | 5, hj => injection hj with hj; subst hj; exact L.blk_cell hb 5
def LiC (n : Int) (e : Et) : Prop := ∀ w : World, Tab w → Calls Tryd.prog 27 #[.int .i64 n, .agg #[.string e.us, .int .i64 e.lv, .int .u64 (e.ct : Int), .string e.ve, .string e.fi, .string e.oc]] w fun x w' => x = .returned (.string ⟨(ln n e).toArray⟩) ∧ Below w.heap.size w w'
set_option maxRecDepth 100000 in
set_option maxHeartbeats 4000000 in
theorem line_walk (n lv : Int) (ct : Nat) (us ve fi oc dS pS y z : ByteArray) (w : World) (HT : Hid (Tab w)) (HD : Hid (∀ W, Tab W → Calls Tryd.prog 36 #[.int .i64 n] W fun e w' => e = .returned (.string dS) ∧ Below W.heap.size W w'))
    (HP : Hid (∀ W, Tab W → Calls Tryd.prog 37 #[.agg #[.int .i64 lv, .int .u64 (ct : Int)]] W fun e w' => e = .returned (.string pS) ∧ Below W.heap.size W w'))
    (HJ : Hid (∀ W : World, Calls Tryd.prog 38 #[.slice (some ⟨W.heap.size, 0, none⟩) 6 6, .string ⟨#[32]⟩] (W.alloc (.cells #[.string dS, .string us, .string pS, .string ve, .string fi, .string oc] 9)) fun e w' => e = .returned (.string y) ∧ Below (W.alloc (.cells #[.string dS, .string us, .string pS, .string ve, .string fi, .string oc] 9)).heap.size (W.alloc (.cells #[.string dS, .string us, .string pS, .string ve, .string fi, .string oc] 9)) w'))
    (hz : ∀ w : World, (Op.stringOp .add y ⟨#[10]⟩).run Tryd.prog w = .ok (.string z) w) :
    Calls Tryd.prog 27 #[.int .i64 n, .agg #[.string us, .int .i64 lv, .int .u64 (ct : Int), .string ve, .string fi, .string oc]] w fun x w' => x = .returned (.string z) ∧ Below w.heap.size w w' := by
  obtain ⟨W1, hW1⟩ : ∃ W : World, W = w.alloc (.cells #[.string us, .int .i64 lv, .int .u64 (ct : Int), .string ve, .string fi, .string oc] 40) := ⟨_, rfl⟩
  have hx1 : W1.heap[w.heap.size]? = some (.cells #[.string us, .int .i64 lv, .int .u64 (ct : Int), .string ve, .string fi, .string oc] 40 (0, 0)) := by rw [hW1]; exact heap_alloc_new w _
  have HB1 := Lib.hid (show Below w.heap.size w W1 by rw [hW1]; exact alloc1 _ _)
  obtain ⟨xb, hxb⟩ : ∃ q, q = w.heap.size := ⟨_, rfl⟩
  rw [← hxb] at hx1
  have HSX : Hid (∀ W, Below W1.heap.size W1 W → W.cell? ⟨xb, 0, none⟩ = some (.string us) ∧ W.cell? ⟨xb, 1, none⟩ = some (.int .i64 lv) ∧ W.cell? ⟨xb, 2, none⟩ = some (.int .u64 (ct : Int)) ∧ W.cell? ⟨xb, 3, none⟩ = some (.string ve) ∧ W.cell? ⟨xb, 4, none⟩ = some (.string fi) ∧ W.cell? ⟨xb, 5, none⟩ = some (.string oc) ∧ Below W1.heap.size W1 W) := Lib.hid (fun W h => by
    have hx := (h.block xb (L.blk_lt hx1)).trans hx1
    exact ⟨L.blk_cell hx 0, L.blk_cell hx 1, L.blk_cell hx 2, L.blk_cell hx 3, L.blk_cell hx 4, L.blk_cell hx 5, h⟩)
  have HFS : Hid (∀ W, (W.cell? ⟨xb, 0, none⟩ = some (.string us) ∧ W.cell? ⟨xb, 1, none⟩ = some (.int .i64 lv) ∧ W.cell? ⟨xb, 2, none⟩ = some (.int .u64 (ct : Int)) ∧ W.cell? ⟨xb, 3, none⟩ = some (.string ve) ∧ W.cell? ⟨xb, 4, none⟩ = some (.string fi) ∧ W.cell? ⟨xb, 5, none⟩ = some (.string oc) ∧ Below W1.heap.size W1 W) → Below W1.heap.size W1 W) := Lib.hid (fun W h => h.2.2.2.2.2.2)
  have HT1 : Hid (∀ W, Below W1.heap.size W1 W → Tab W) := Lib.hid (fun W h => Tab.later (Tab.later HT.out HB1.out) h)
  have HD1 : Hid (∀ W, Below W1.heap.size W1 W → Calls Tryd.prog 36 #[.int .i64 n] W fun e w' => e = .returned (.string dS) ∧ Below W1.heap.size W1 w') := Lib.hid (fun W h => (HD.out W (HT1.out W h)).mono fun e w' g => ⟨g.1, h.trans (g.2.mono h.size)⟩)
  have HP1 : Hid (∀ W, Below W1.heap.size W1 W → Calls Tryd.prog 37 #[.agg #[.int .i64 lv, .int .u64 (ct : Int)]] W fun e w' => e = .returned (.string pS) ∧ Below W1.heap.size W1 w') := Lib.hid (fun W h => (HP.out W (HT1.out W h)).mono fun e w' g => ⟨g.1, h.trans (g.2.mono h.size)⟩)
  have hsw := HB1.out.size
  clear hx1 HT1 HD HP HT
  go_enter Tryd.func27, Tryd.ntmps27
  go_upto_region 1 with fail
  rw [← hW1, ← hxb]
  clear hW1 hxb
  go_region_held3 (fun W => W.cell? ⟨xb, 0, none⟩ = some (.string us) ∧ W.cell? ⟨xb, 1, none⟩ = some (.int .i64 lv) ∧ W.cell? ⟨xb, 2, none⟩ = some (.int .u64 (ct : Int)) ∧ W.cell? ⟨xb, 3, none⟩ = some (.string ve) ∧ W.cell? ⟨xb, 4, none⟩ = some (.string fi) ∧ W.cell? ⟨xb, 5, none⟩ = some (.string oc) ∧ Below W1.heap.size W1 W)
    (first | exact HSX.out _ ((Below.refl _ _).drew) | exact HSX.out _ (by assumption) | exact HSX.out _ (Below.alloc (by assumption) (by assumption) _))
    (first | (go_at_call 36; with_reducible refine (HD1.out _ (by first | assumption | exact (Below.refl _ _).drew)).mono ?_; rintro r wq ⟨rfl, hbq⟩; have hsq := hbq.size) | (go_at_call 37; with_reducible refine (HP1.out _ (by first | assumption | exact (Below.refl _ _).drew)).mono ?_; rintro r wq ⟨rfl, hbq⟩; have hsq := hbq.size))
  all_goals
    go_wp2_with fail
    with_reducible refine (HJ.out _).mono ?_
    rintro r w5 ⟨rfl, hb5⟩
    have HB5 : Hid (Below w.heap.size w w5) := Lib.hid (HB1.out.trans (Below.mono (Below.trans (HFS.out _ (by assumption)) (hb5.mono (Below.size (HFS.out _ (by assumption))))) hsw))
    clear hb5 HSX HD1 HP1 HJ HFS
    go_wp2_with fail
    go_ret
    exact ⟨rfl, HB5.out⟩
theorem c_line {e : Et} (hok : okE e = true) (hct : e.ct < 18446744073709551616) {n : Int} (h0 : 0 ≤ n) (h1 : n ≤ 2147483647) : LiC n e := fun w hT => by
  have hlv : 0 ≤ e.lv ∧ e.lv ≤ 15 := by
    unfold okE L.rightB at hok
    simp only [Bool.and_eq_true, decide_eq_true_eq] at hok
    exact hok.1
  obtain ⟨q1, q2, q3, q4⟩ := okE_name hok
  have s1 := nm_size q1
  have s2 := nm_size q2
  have s3 := nm_size q3
  have s4 := nm_size q4
  have hln := ln_len hok n
  obtain ⟨dS, hdS⟩ : ∃ d : ByteArray, d = ⟨(P.decimal n).toArray⟩ := ⟨_, rfl⟩
  obtain ⟨pS, hpS⟩ : ∃ d : ByteArray, d = ⟨(L.print e.lv e.ct).toArray⟩ := ⟨_, rfl⟩
  have hj : (Lib.join ([dS, e.us, pS, e.ve, e.fi, e.oc].map (·.data.toList)) [32]) ++ [10] = ln n e := by
    rw [← ln_join n e, hdS, hpS]
    simp
  have hjl : (Lib.join ([dS, e.us, pS, e.ve, e.fi, e.oc].map (·.data.toList)) [32]).length ≤ 140737488355328 := by
    have := congrArg List.length hj
    rw [List.length_append] at this
    omega
  obtain ⟨y, hy⟩ : ∃ y : ByteArray, y = ⟨(Lib.join ([dS, e.us, pS, e.ve, e.fi, e.oc].map (·.data.toList)) [32]).toArray⟩ := ⟨_, rfl⟩
  obtain ⟨z, hz, hzl⟩ := cat2 (a := y) (b := ⟨#[10]⟩) (by rw [hy]; simp only [List.length_cons, List.length_nil]; omega)
  have hze : z = ⟨(ln n e).toArray⟩ := by
    rw [← Lib.mk_data z, hzl, hy, ← hj]
  rw [← hze]
  refine line_walk n e.lv e.ct e.us e.ve e.fi e.oc dS pS y z w (Lib.hid hT) (Lib.hid fun W h => ?_) (Lib.hid fun W h => ?_) (Lib.hid fun W => ?_) hz
  · rw [hdS]; exact decimal_any n W (by omega) (by omega) h
  · rw [hpS]; exact L.print_any e.lv e.ct W (by omega) (by omega) hct h
  · rw [hy]
    exact Tryd.strings_Join W.heap.size 0 6 [dS, e.us, pS, e.ve, e.fi, e.oc] ⟨#[32]⟩ _ (words_at W dS e.us pS e.ve e.fi e.oc) (by simp) (by simp) (by simp) hjl
end Go.Proofs.YtbfohfmipfapdaaDoor.Au

namespace Go.Proofs.YtbfohfmipfapdaaDoor.T
open Go.RowKit

theorem bcell {W w1 : World} (hb : Below W.heap.size W w1) (b o : Nat) (h : b < W.heap.size) : w1.cell? ⟨b, o, none⟩ = W.cell? ⟨b, o, none⟩ := hb.cell (p := ⟨b, o, none⟩) h
theorem conv_one (c : UInt8) (W : World) (a : Nat) (h : W.cell? ⟨a, 0, none⟩ = some (.int .u8 (c.toNat : Int))) : (convert 35 9 (.slice (some ⟨a, 0, none⟩) 1 1)).run Tryd.prog W = .ok (.string ⟨#[c]⟩) W :=
  conv_bytes W a 0 1 1 [c] rfl (fun j hj => by
    match j, hj with
    | 0, _ => simpa using h)
theorem dec_small (m : Nat) (h : m < 10) : Lib.decDigits m = [UInt8.ofNat (48 + m)] := Lib.decDigits_one h
theorem dec_big (m : Nat) (h : ¬ m < 10) : Lib.decDigits m = Lib.decDigits (m / 10) ++ [UInt8.ofNat (48 + m % 10)] := by
  conv => lhs; rw [Lib.decDigits, dif_neg h]
theorem str_append (l r : List UInt8) : (⟨l.toArray⟩ : ByteArray) ++ ⟨r.toArray⟩ = ⟨(l ++ r).toArray⟩ := by
  apply ByteArray.ext
  simp

set_option maxHeartbeats 1000000 in
set_option maxRecDepth 100000 in
theorem refDecimal_in : ∀ (m : Nat) (w : World), m ≤ 2147483647 →
    Calls Tryd.prog 28 #[.int .i64 m] w fun e w' => e = .returned (.string ⟨(Lib.decDigits m).toArray⟩) ∧ Below w.heap.size w w' := by
  intro m
  induction m using Nat.strongRecOn with
  | ind m ih =>
    intro w hm
    have IH := Lib.hid ih
    clear ih
    by_cases h : m < 10
    · have HD := Lib.hid (dec_small m h)
      have hd := P.digit m h
      generalize UInt8.ofNat (48 + m) = c at *
      have hcv := conv_one c
      have hd' : (c.toNat : Int) = 48 + (m : Int) := by omega
      clear hd
      rw [hd'] at hcv
      clear hd'
      go_enter Tryd.func28, Tryd.ntmps28
      go_wp2_with fail
      go_ret
      exact ⟨ret_of (by rw [HD.out]; rfl), (Below.refl _ _).alloc (Nat.le_refl _) _⟩
    · have HD := Lib.hid (dec_big m h)
      have hd := P.digit (m % 10) (by omega)
      have ihq := IH.out (m / 10) (by omega)
      clear IH
      generalize UInt8.ofNat (48 + m % 10) = c at *
      have hln : (Lib.decDigits (m / 10)).length ≤ 10 := by
        have := P.decimal_length ((m / 10 : Nat) : Int)
        rwa [P.decimal_in _ (by omega) (by omega), Int.toNat_natCast] at this
      generalize Lib.decDigits (m / 10) = l at *
      have hadd : (⟨l.toArray⟩ : ByteArray).size + (⟨#[c]⟩ : ByteArray).size ≤ 9223372036854775807 := by
        rw [list_size]; show l.length + 1 ≤ _; omega
      have hcv := conv_one c
      have hd' : (c.toNat : Int) = IntKind.u8.wrap (IntKind.i64.wrap (48 + (m : Int).tmod 10)) := by
        rw [Int.tmod_eq_emod_of_nonneg (by omega), IntWalk.i64_in _ (by omega), IntKind.wrap_u8]; omega
      clear hd
      rw [hd'] at hcv
      clear hd'
      have IQ : Hid (∀ w : World, Calls Tryd.prog 28 #[.int .i64 (IntKind.i64.wrap ((m : Int) / 10))] w fun e w' => e = .returned (.string ⟨l.toArray⟩) ∧ Below w.heap.size w w') := Lib.hid fun w => by
        have := ihq w (by omega)
        rwa [show ((m / 10 : Nat) : Int) = IntKind.i64.wrap ((m : Int) / 10) by rw [IntWalk.i64_in _ (by omega)]; omega] at this
      clear ihq
      go_enter Tryd.func28, Tryd.ntmps28
      go_wp2_with fail
      go_region_with (go_at_call 28; with_reducible refine (IQ.out _).mono ?_; rintro e w' ⟨rfl, hbq⟩; have hbc := bcell hbq; have hbz := hbq.size)
      all_goals
        go_wp2_with fail
        go_ret
        refine ⟨ret_of (by rw [HD.out, ← str_append]; rfl), ?_⟩
        first
          | exact (((Below.refl w.heap.size w).drew).trans (hbq.mono (Nat.le_refl _))).alloc hbz _
          | exact (((Below.refl w.heap.size w).drew.alloc (Nat.le_refl _) _)).trans (hbq.mono (by simp))
          | exact (((Below.refl w.heap.size w).alloc (Nat.le_refl _) _).drew).trans (hbq.mono (by simp))

theorem refDecimal_any (n : Int) (w : World) :
    Calls Tryd.prog 28 #[.int .i64 n] w fun e w' => e = .returned (.string ⟨(P.decimal n).toArray⟩) ∧ Below w.heap.size w w' := by
  by_cases h0 : n < 0
  · have HD := Lib.hid (P.decimal_out n (.inl h0))
    go_enter Tryd.func28, Tryd.ntmps28
    go_wp2_with fail
    go_ret
    exact ⟨ret_of (by rw [HD.out]; rfl), Below.refl _ _⟩
  by_cases h1 : 2147483647 < n
  · have HD := Lib.hid (P.decimal_out n (.inr h1))
    go_enter Tryd.func28, Tryd.ntmps28
    go_wp2_with fail
    go_ret
    exact ⟨ret_of (by rw [HD.out]; rfl), Below.refl _ _⟩
  · obtain ⟨m, rfl⟩ := Int.eq_ofNat_of_zero_le (show 0 ≤ n by omega)
    rw [P.decimal_in _ (by omega) (by omega), Int.toNat_natCast]
    exact refDecimal_in m w (by omega)
end Go.Proofs.YtbfohfmipfapdaaDoor.T
