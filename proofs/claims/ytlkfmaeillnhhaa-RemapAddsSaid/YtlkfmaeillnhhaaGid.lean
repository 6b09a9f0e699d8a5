/-
  The contract of remap's Last.
  The contracts of remap's Count, and of the reference's Seen, Full, Own and Count.
  The contracts of the reference's Seen, Full and Own (layer 17).
  The contracts of layer 17 in one form for the laws; what its laws ask of a program at all.
  The contracts of the reference's pick, Join and Meet for labels.
  The contracts of the reference's Join and Meet for labels.
-/
import Derived.Test.YtlkfmaeillnhhaaGic
import Derived.BigQuiet
import Derived.Test.YtlkfmaeillnhhaaGib
import Derived.BigRegion
import Derived.Deep.RegionHeld3
import Derived.Test.YtlkfmaeillnhhaaGia
import Derived.Deep.DeepCutAuto
namespace Go.Proofs.Ytlkfmaeillnhhaa.Rm
set_option linter.unusedVariables false
set_option linter.unusedSimpArgs false
open Go.RowKit Go.Shelf
open T
open I (Lb alloc1 own_at own_below)
open V (grown_of KpZ KpZ.t KpZ.b KpZ.of KpZ.refl BlC BlC.call drawn_below boxed_le)
attribute [local go_sem] Oper.semAt_some

/-- The last that was told. -/
def lastK (pre : List (Nat × Nat)) : Int := match pre.getLast? with | some x => (x.2 : Int) | none => 0
def lastB (pre : List (Nat × Nat)) : Bool := pre.getLast?.isSome
theorem lastK_snoc (pre : List (Nat × Nat)) (x : Nat × Nat) : lastK (pre ++ [x]) = (x.2 : Int) := by simp [lastK]
theorem lastB_snoc (pre : List (Nat × Nat)) (x : Nat × Nat) : lastB (pre ++ [x]) = true := by simp [lastB]
theorem enu_last : ∀ (s : List Nat) (j : Nat), ((enu j s).getLast?).map (·.2) = s.getLast?
  | [], _ => rfl
  | [x], _ => rfl
  | x :: y :: r, j => by
    have := enu_last (y :: r) (j + 1)
    rw [enu] at this ⊢
    rw [enu, List.getLast?_cons_cons, List.getLast?_cons_cons]
    exact this
theorem prs_last (o : Lb) (l : List Lb) : lastK (prs o l) = nm ((sn o 0 l).getLast?) ∧ lastB (prs o l) = ((sn o 0 l).getLast?).isSome := by
  have h := enu_last (sn o 0 l) 0
  unfold lastK lastB prs nm
  rw [← h]
  cases (enu 0 (sn o 0 l)).getLast? <;> simp
theorem five (w : World) (o0 o1 o2 o3 o4 : Obj) : ∃ W : World, W = ((((w.alloc o0).alloc o1).alloc o2).alloc o3).alloc o4 ∧ W.heap[w.heap.size]? = some o0 ∧ W.heap[w.heap.size + 1]? = some o1 ∧ W.heap[w.heap.size + 2]? = some o2 ∧ W.heap[w.heap.size + 3]? = some o3 ∧ W.heap[w.heap.size + 4]? = some o4 ∧ Below w.heap.size w W ∧ W.heap.size = w.heap.size + 5 := by
  refine ⟨_, rfl, ?_, ?_, ?_, ?_, ?_, ?_, ?_⟩
  · exact V.alloc_old _ (V.alloc_old _ (V.alloc_old _ (V.alloc_old _ (V.alloc_at _ rfl))))
  · exact V.alloc_old _ (V.alloc_old _ (V.alloc_old _ (V.alloc_at _ (by simp))))
  · exact V.alloc_old _ (V.alloc_old _ (V.alloc_at _ (by simp)))
  · exact V.alloc_old _ (V.alloc_at _ (by simp))
  · exact V.alloc_at _ (by simp)
  · exact ((((alloc1 _ _).alloc (by simp) _).alloc (by simp; omega) _).alloc (by simp; omega) _).alloc (by simp; omega) _
  · simp
set_option maxRecDepth 100000 in
set_option maxHeartbeats 4000000 in
theorem last_in (n : Nat) (hn : 6 ≤ n) (A : Option Addr) (cap : Nat) (l : List Lb) (f0 : Int) (f1 : Nat) (w : World) (hA : LabsIn w A l) (hll : l.length ≤ maxLen) (HB : Hid (∀ x ∈ l, BlC x.1 f0 x.2 f1 (bl (f0, f1) x))) :
    CallsIn Fence.wide n Try.prog 12 #[.slice A l.length cap, .agg #[.int .i64 f0, .int .u64 (f1 : Int)]] w fun e W' => e = .returned (.tuple #[.int .i64 (lastK (prs (f0, f1) l)), .bool (lastB (prs (f0, f1) l))]) ∧ Below w.heap.size w W' := by
  have h1 : 1 ≤ n := by omega
  obtain ⟨W0, hW0, k0, k1, k2, k3, k4, hB0, hsz⟩ := five w (.cells #[.int .i64 f0, .int .u64 (f1 : Int)] 25) (.cells #[.int .i64 0] 3) (.cells #[.bool false] 4) (.cells #[.slice A l.length cap] 22) (.cells #[.int .i64 f0, .int .u64 (f1 : Int)] 25)
  refine callsIn_of_wp_marks Try.func12 rfl trivial ?_ rfl
  simp only [Try.ntmps12, List.size_toArray, List.length_cons, List.length_nil, Nat.reduceAdd, Nat.reduceSub, Array.replicate_succ, Array.replicate_zero, List.push_toArray, List.append_toArray, List.nil_append, List.cons_append]
  gi_wp2
  refine ⟨trivial, ?_⟩
  refine (seen_in (n - 1) A l.length cap f0 f1 _).mono ?_
  rintro e w' ⟨rfl, hw'⟩
  rw [← hW0] at hw'
  subst hw'
  simp only [World.size_alloc]
  clear hW0
  have hIt0 := hA.of hB0
  obtain ⟨b0, hb0⟩ : ∃ b, b = w.heap.size := ⟨_, rfl⟩
  rw [← hb0] at hsz hB0 k0 k1 k2 k3 k4 hIt0 ⊢
  have HBE := Lib.hid hb0
  have hbw : b0 ≤ w.heap.size := by omega
  clear hb0
  gi_wp2
  refine wpIn_rangeFunc_ownH rfl h1 (gf := 23) (lb := #[.pointer (some ⟨b0 + 1 + 1 + 1, 0, none⟩), .pointer (some ⟨b0 + 1 + 1 + 1 + 1, 0, none⟩)]) rfl trivial (enters_of Try.func23 (by kernel_rfl) rfl)
    (seen_stops (n - 1) (by omega) (b0 + 3) (b0 + 4) b0 (b0 + 3) (b0 + 5) A cap l f0 f1 hll HB w' (by omega) (by omega) (by omega) (by omega) (L.blk_cell k3 0) k4 hIt0) KpZ.t (KpZ.b (by omega) (by omega)) (Below.refl _ _) (fun _ => rfl)
    (fun (pre : List (Nat × Nat)) W => (W.heap[b0 + 1]? = some (.cells #[.int .i64 (lastK pre)] 3 (0, 0)) ∧ W.heap[b0 + 2]? = some (.cells #[.bool (lastB pre)] 4 (0, 0))) ∧ (Below b0 w W ∧ b0 + 5 ≤ W.heap.size))
    (fun _ _ _ => False)
    (OwnFrom.and (fun pre X Y row hs hg hr => ⟨V.blk_grown hs.1 hg (V.row_cells hs.1 (fun r hr' => (hr r hr').2)), V.blk_grown hs.2 hg (V.row_cells hs.2 (fun r hr' => (hr r hr').2))⟩) (OwnFrom.and (ownFrom_below hbw (by omega)) (fun _ _ _ _ hs hg _ => boxed_le hs hg)))
    (fun _ _ _ _ _ hs _ _ => hs)
    ⟨⟨k1, k2⟩, hB0, by omega⟩
    (fun (x : Nat × Nat) a' _ => a' = { tmps := #[.slice A l.length cap, .agg #[.int .i64 f0, .int .u64 (f1 : Int)], undef, .pointer (some ⟨b0, 0, none⟩), .int .i64 0, .bool false, .pointer (some ⟨b0 + 1, 0, none⟩), .pointer (some ⟨b0 + 1 + 1, 0, none⟩), undef, .int .i64 (x.2 : Int), .slice A l.length cap, .agg #[.int .i64 f0, .int .u64 (f1 : Int)], .func (.func 23) #[] #[.pointer (some ⟨b0 + 1 + 1 + 1, 0, none⟩), .pointer (some ⟨b0 + 1 + 1 + 1 + 1, 0, none⟩)], .int .i64 (x.1 : Int), .int .i64 (x.2 : Int), undef, undef, undef], defers := [] })
    (fun x a' _ X Y row hs hg hr => hs)
    ?assign ?body ?done ?stop
  case assign =>
    rintro lp pre x W K ⟨hg, hB, hs4⟩ hK
    dsimp only at hK ⊢
    gi_wp2
    exact hK _ _ ((KeepsOthers.refl _).from _) (KpZ.refl _ _ _ _) ⟨hg, hB, hs4⟩ rfl
  case body =>
    rintro lp pre x a' W hlp ⟨r, hr⟩ ⟨⟨g1, g2⟩, hB, hs4⟩ rfl hlt
    obtain ⟨q, y⟩ := x
    simp only
    have HBW := Lib.hid hB
    have HG := Lib.hid (And.intro g1 g2)
    have c2 := boxed_cell g1
    have f2 := L.blk_free g1 0
    have c3 := boxed_cell g2
    have f3 := L.blk_free g2 0
    obtain ⟨W2, hW2⟩ : ∃ W2 : World, W2 = (W.setCell ⟨b0 + 1, 0, none⟩ (.int .i64 (y : Int))).setCell ⟨b0 + 2, 0, none⟩ (.bool true) := ⟨_, rfl⟩
    have HW2 := Lib.hid hW2
    clear hr hlt hlp hB g1 g2 k1 k2 k3 k4 hA
    gi_wp2
    rw [← hW2]
    refine ⟨?_, ?_, ⟨?_, ?_⟩, ?_, ?_⟩
    · rw [HW2.out]
      exact ((KeepsOthers.setCell _ _ _).trans (KeepsOthers.setCell _ _ _)).from _
    · rw [HW2.out]
      exact ⟨((Below.refl b0 W).setCell (p := ⟨b0 + 1, 0, none⟩) (by show b0 ≤ b0 + 1; omega) _).setCell (p := ⟨b0 + 2, 0, none⟩) (by show b0 ≤ b0 + 2; omega) _, fun k h1 h2 => (L.blk_far (by omega) _).trans (L.blk_far (by omega) _)⟩
    · rw [HW2.out, lastK_snoc]
      exact (L.blk_far (by omega) _).trans (L.blk_set HG.out.1 0 _)
    · rw [HW2.out, lastB_snoc]
      exact L.blk_set ((L.blk_far (by omega) _).trans HG.out.2) 0 _
    · rw [HW2.out]
      exact (HBW.out.setCell (p := ⟨b0 + 1, 0, none⟩) (by show b0 ≤ b0 + 1; omega) _).setCell (p := ⟨b0 + 2, 0, none⟩) (by show b0 ≤ b0 + 2; omega) _
    · rw [HW2.out]; simpa using hs4
  case done =>
    rintro D ys W hD hys ⟨⟨g1, g2⟩, hB, hs4⟩ hK
    have c2 := boxed_cell g1
    have c3 := boxed_cell g2
    have HE := Lib.hid (And.intro hB hK)
    clear k1 k2 k3 k4 hA g1 g2 hB hK
    gi_wp2
    rename_i K hKK
    have HKK := Lib.hid hKK
    clear hKK
    refine wpIn_wide.2 ?_
    go_quiet (fail)
    refine HKK.out _ _ ?_
    generalize hwz : W.drewN nq = Wz at *
    have HZ : Hid (Below W.heap.size W Wz ∧ W.heap.size ≤ Wz.heap.size) := Lib.hid (by rw [← hwz]; exact ⟨drawn_below W nq, (drawn_below W nq).size⟩)
    clear hwz
    have hK2 := (HZ.out.1.block D (L.blk_lt HE.out.2)).trans HE.out.2
    have hB2 := HE.out.1.trans (HZ.out.1.mono (show b0 ≤ W.heap.size by omega))
    have hz2 := HZ.out.2
    gi_wp2
    refine ⟨by simp, .inl ⟨_, _, rfl, run_takeDeferred hK2, ?_⟩⟩
    refine ⟨.tuple #[.int .i64 (lastK (prs (f0, f1) l)), .bool (lastB (prs (f0, f1) l))], by simp [results, Try.results12, go_sem], ?_, ?_⟩
    · rfl
    · rw [← HBE.out]
      exact hB2.trans ((Below.refl b0 Wz).grown (grownBy_putObj' Wz D (.deferred none)) (by omega) (fun k e => by cases e; omega))
  case stop =>
    rintro D c pre W _ _ h _
    exact h.elim
end Go.Proofs.Ytlkfmaeillnhhaa.Rm

namespace Go.Proofs.Ytlkfmaeillnhhaa.Rm
set_option linter.unusedVariables false
set_option linter.unusedSimpArgs false
open Go.RowKit
open T
open I (Lb alloc1 own_at own_below)
open V (grown_of drawn_below IntsIn numCells numCells_snoc ints_own)

theorem cnt_take {l : List Lb} {a : Lb} {k : Nat} (hk : k < l.length) : cnt (l.take (k + 1)) a = cnt (l.take k) a + if l[k] = a then 1 else 0 := by
  unfold cnt
  rw [List.take_succ_eq_append_getElem hk, List.count_append, List.count_singleton]
  congr 1
  by_cases h : l[k] = a <;> simp [h]
theorem cnt_le (l : List Lb) (a : Lb) (k : Nat) : cnt (l.take k) a ≤ k := Nat.le_trans List.count_le_length (by rw [List.length_take]; omega)
/-- How two labels compare. -/
theorem lab_cmp (x a : Lb) : (x = a ∧ (x.1 == a.1) = true ∧ ((x.2 : Int) == (a.2 : Int)) = true) ∨ (¬ x = a ∧ (x.1 == a.1) = false) ∨ (¬ x = a ∧ (x.1 == a.1) = true ∧ ((x.2 : Int) == (a.2 : Int)) = false) := by
  obtain ⟨x0, x1⟩ := x
  obtain ⟨a0, a1⟩ := a
  by_cases h0 : x0 = a0
  · by_cases h1 : x1 = a1
    · exact .inl ⟨by rw [h0, h1], by simp [h0], by simp [h1]⟩
    · exact .inr (.inr ⟨fun e => h1 (by injection e), by simp [h0], by simp; omega⟩)
  · exact .inr (.inl ⟨fun e => h0 (by injection e), by simp [h0]⟩)
set_option maxRecDepth 100000 in
set_option maxHeartbeats 1000000 in
theorem count_any (A : Option Addr) (cap : Nat) (l : List Lb) (a0 : Int) (a1 : Nat) (w : World) (hA : LabsIn w A l) (hl : l.length ≤ maxLen) :
    Calls Try.prog 16 #[.slice A l.length cap, .agg #[.int .i64 a0, .int .u64 (a1 : Int)]] w fun e w' => e = .returned (.int .i64 ((cnt l (a0, a1) : Nat) : Int)) ∧ Below w.heap.size w w' := by
  have HA := Lib.hid hA
  unfold maxLen at hl
  clear hA
  go_enter Try.func16, Try.ntmps16
  go_wp2_with fail
  go_loopg [5, 10] l.length (fun q o i wr => ∃ k : Nat, k ≤ l.length ∧ o = .int .i64 ((cnt (l.take k) (a0, a1) : Nat) : Int) ∧ i = .int .i64 k ∧ l.length - k ≤ q ∧ Below w.heap.size w wr ∧ w.heap.size + 1 ≤ wr.heap.size ∧ wr.heap[w.heap.size]? = some (.cells #[.int .i64 a0, .int .u64 (a1 : Int)] 25 (0, 0)))
  case atStart => exact ⟨0, Nat.zero_le _, rfl, rfl, by omega, alloc1 _ _, by simp, heap_alloc_new w _⟩
  case round =>
    obtain ⟨k, hk, rfl, rfl, hm, hb, hsz, hbo⟩ := hrel
    by_cases hlt : k < l.length
    · obtain ⟨bk, off, hAe, hbk, hI⟩ := HA.out (by omega)
      subst hAe
      have c0 := (hb.cell (p := ⟨bk, off + k * 2, none⟩) hbk).trans (hI k hlt).1
      have c1 := (hb.cell (p := ⟨bk, off + k * 2 + 1, none⟩) hbk).trans (hI k hlt).2
      have h0k : (0 : Int) ≤ (k : Int) := by omega
      have hki : (k : Int) < (l.length : Int) := by omega
      have HC := Lib.hid (cnt_take (a := (a0, a1)) hlt)
      have hcl := cnt_le l (a0, a1) k
      obtain ⟨c, hc⟩ : ∃ c, c = cnt (l.take k) (a0, a1) := ⟨_, rfl⟩
      rw [← hc] at HC hcl ⊢
      clear hc hI
      obtain ⟨⟨x0, x1⟩, hx⟩ : ∃ x, x = l[k] := ⟨_, rfl⟩
      rw [← hx] at c0 c1 HC
      clear hx
      simp only at c0 c1
      obtain ⟨w1, hw1⟩ : ∃ W : World, W = wr.alloc (.cells #[.int .i64 x0, .int .u64 (x1 : Int)] 25) := ⟨_, rfl⟩
      have hb1 : Below wr.heap.size wr w1 := by rw [hw1]; exact alloc1 _ _
      have HR := Lib.hid (And.intro (hb.trans (hb1.mono hb.size)) (And.intro (Nat.le_trans hsz hb1.size) ((hb1.block w.heap.size (by omega)).trans hbo)))
      have y0 := L.blk_cell ((hb1.block w.heap.size (by omega)).trans hbo) 0
      have y1 := L.blk_cell ((hb1.block w.heap.size (by omega)).trans hbo) 1
      simp only [List.getElem?_toArray, List.getElem?_cons_zero, List.getElem?_cons_succ] at y0 y1
      rw [hw1] at y0 y1
      clear hb hsz hbo hb1
      rcases lab_cmp (x0, x1) (a0, a1) with ⟨he, h1, h2⟩ | ⟨he, h1⟩ | ⟨he, h1, h2⟩
      · have hcc := HC.out
        rw [if_pos he] at hcc
        have hw : IntKind.i64.wrap ((c : Int) + 1) = ((c + 1 : Nat) : Int) := by rw [IntKind.wrap_i64]; omega
        simp only at h1 h2
        clear he
        go_wp2_with fail
        rw [← hw1]
        go_roundg (l.length - (k + 1))
        case rel => exact ⟨k + 1, by omega, by rw [hcc]; rfl, by go_num, Nat.le_refl _, HR.out.1, HR.out.2.1, HR.out.2.2⟩
        case measure => omega
      · have hcc := HC.out
        rw [if_neg he] at hcc
        simp only at h1
        clear he
        go_wp2_with fail
        rw [← hw1]
        go_roundg (l.length - (k + 1))
        case rel => exact ⟨k + 1, by omega, by rw [hcc]; rfl, by go_num, Nat.le_refl _, HR.out.1, HR.out.2.1, HR.out.2.2⟩
        case measure => omega
      · have hcc := HC.out
        rw [if_neg he] at hcc
        simp only at h1 h2
        clear he
        go_wp2_with fail
        rw [← hw1]
        go_roundg (l.length - (k + 1))
        case rel => exact ⟨k + 1, by omega, by rw [hcc]; rfl, by go_num, Nat.le_refl _, HR.out.1, HR.out.2.1, HR.out.2.2⟩
        case measure => omega
    · obtain rfl : k = l.length := by omega
      rw [List.take_length]
      go_wp2_with fail
      go_ret
      exact ⟨rfl, hb⟩
set_option maxRecDepth 100000 in
set_option maxHeartbeats 1000000 in
theorem rcount_any (A : Option Addr) (cap : Nat) (l : List Lb) (a0 : Int) (a1 : Nat) (w : World) (hA : LabsIn w A l) (hl : l.length ≤ maxLen) :
    Calls Try.prog 17 #[.slice A l.length cap, .agg #[.int .i64 a0, .int .u64 (a1 : Int)]] w fun e w' => e = .returned (.int .i64 ((cnt l (a0, a1) : Nat) : Int)) ∧ Below w.heap.size w w' := by
  have HA := Lib.hid hA
  unfold maxLen at hl
  clear hA
  go_enter Try.func17, Try.ntmps17
  go_wp2_with fail
  go_loopg [5, 6] l.length (fun q o i wr => ∃ k : Nat, k ≤ l.length ∧ o = .int .i64 ((cnt (l.take k) (a0, a1) : Nat) : Int) ∧ i = .int .i64 k ∧ l.length - k ≤ q ∧ Below w.heap.size w wr ∧ w.heap.size + 1 ≤ wr.heap.size ∧ wr.heap[w.heap.size]? = some (.cells #[.int .i64 a0, .int .u64 (a1 : Int)] 25 (0, 0)))
  case atStart => exact ⟨0, Nat.zero_le _, rfl, rfl, by omega, alloc1 _ _, by simp, heap_alloc_new w _⟩
  case round =>
    obtain ⟨k, hk, rfl, rfl, hm, hb, hsz, hbo⟩ := hrel
    by_cases hlt : k < l.length
    · obtain ⟨bk, off, hAe, hbk, hI⟩ := HA.out (by omega)
      subst hAe
      have c0 := (hb.cell (p := ⟨bk, off + k * 2, none⟩) hbk).trans (hI k hlt).1
      have c1 := (hb.cell (p := ⟨bk, off + k * 2 + 1, none⟩) hbk).trans (hI k hlt).2
      have h0k : (0 : Int) ≤ (k : Int) := by omega
      have hki : (k : Int) < (l.length : Int) := by omega
      have HC := Lib.hid (cnt_take (a := (a0, a1)) hlt)
      have hcl := cnt_le l (a0, a1) k
      obtain ⟨c, hc⟩ : ∃ c, c = cnt (l.take k) (a0, a1) := ⟨_, rfl⟩
      rw [← hc] at HC hcl ⊢
      clear hc hI
      obtain ⟨⟨x0, x1⟩, hx⟩ : ∃ x, x = l[k] := ⟨_, rfl⟩
      rw [← hx] at c0 c1 HC
      clear hx
      simp only at c0 c1
      have y0 := L.blk_cell hbo 0
      have y1 := L.blk_cell hbo 1
      simp only [List.getElem?_toArray, List.getElem?_cons_zero, List.getElem?_cons_succ] at y0 y1
      have HR : Hid (∀ q, Below w.heap.size w (wr.drewN q) ∧ w.heap.size + 1 ≤ (wr.drewN q).heap.size ∧ (wr.drewN q).heap[w.heap.size]? = some (.cells #[.int .i64 a0, .int .u64 (a1 : Int)] 25 (0, 0))) := Lib.hid (fun q => ⟨hb.trans ((drawn_below wr q).mono hb.size), Nat.le_trans hsz (drawn_below wr q).size, ((drawn_below wr q).block _ (by omega)).trans hbo⟩)
      clear hb hsz hbo
      rcases lab_cmp (x0, x1) (a0, a1) with ⟨he, h1, h2⟩ | ⟨he, h1⟩ | ⟨he, h1, h2⟩
      · have hcc := HC.out
        rw [if_pos he] at hcc
        have hw : IntKind.i64.wrap ((c : Int) + 1) = ((c + 1 : Nat) : Int) := by rw [IntKind.wrap_i64]; omega
        simp only at h1 h2
        clear he
        go_wp2_with fail
        go_quiet (fail)
        go_wp2_with fail
        go_roundg (l.length - (k + 1))
        case rel => exact ⟨k + 1, by omega, by rw [hcc]; rfl, by go_num, Nat.le_refl _, (HR.out _).1, (HR.out _).2.1, (HR.out _).2.2⟩
        case measure => omega
      · have hcc := HC.out
        rw [if_neg he] at hcc
        simp only at h1
        clear he
        go_wp2_with fail
        go_quiet (fail)
        go_wp2_with fail
        go_roundg (l.length - (k + 1))
        case rel => exact ⟨k + 1, by omega, by rw [hcc]; rfl, by go_num, Nat.le_refl _, (HR.out _).1, (HR.out _).2.1, (HR.out _).2.2⟩
        case measure => omega
      · have hcc := HC.out
        rw [if_neg he] at hcc
        simp only at h1 h2
        clear he
        go_wp2_with fail
        go_quiet (fail)
        go_wp2_with fail
        go_roundg (l.length - (k + 1))
        case rel => exact ⟨k + 1, by omega, by rw [hcc]; rfl, by go_num, Nat.le_refl _, (HR.out _).1, (HR.out _).2.1, (HR.out _).2.2⟩
        case measure => omega
    · obtain rfl : k = l.length := by omega
      rw [List.take_length]
      go_wp2_with fail
      go_ret
      exact ⟨rfl, hb⟩
end Go.Proofs.Ytlkfmaeillnhhaa.Rm

namespace Go.Proofs.Ytlkfmaeillnhhaa.Rm
set_option linter.unusedVariables false
set_option linter.unusedSimpArgs false
open Go.RowKit
open T
open I (Lb alloc1 own_at own_below)
open V (grown_of drawn_below IntsIn numCells numCells_snoc ints_own RbC RbC.call lab_cells)

theorem rb_is (o y : Lb) (hc : y.2 < 18446744073709551616) : RbC y.1 o.1 y.2 o.2 (bl o y) := fun w => L.refBelow_any y.1 o.1 y.2 o.2 w hc
theorem snI_take {o : Lb} {l : List Lb} {k : Nat} (hk : k < l.length) : snI o (l.take (k + 1)) = snI o (l.take k) ++ (if bl o l[k] = true then [(k : Int)] else []) := by
  unfold snI
  rw [sn_take hk, List.map_append]
  split <;> simp
theorem snI_le (o : Lb) (l : List Lb) (k : Nat) : (snI o (l.take k)).length ≤ k := by
  rw [snI_length]
  exact Nat.le_trans (sn_le _ _ _) (by rw [List.length_take]; omega)

set_option maxRecDepth 100000 in
set_option maxHeartbeats 2000000 in
theorem rsees_any (A : Option Addr) (cap : Nat) (l : List Lb) (o : Lb) (w : World) (hA : LabsIn w A l) (hok : ∀ x ∈ l, x.2 < 18446744073709551616) (hn : l.length * 8 ≤ 140737488355328) :
    Calls Try.prog 7 #[.slice A l.length cap, L.lab o.1 o.2] w fun e w' => (∃ v, e = .returned v ∧ w'.ownsRow w.heap.size 3 1 v (snI o l).length (numCells (snI o l))) ∧ Below w.heap.size w w' := by
  obtain ⟨i0, hi0, hz0, hz1, hz2⟩ := info_parts L.infoInt
  have HOK := Lib.hid hok
  obtain ⟨W0, hW0⟩ : ∃ W : World, W = w.alloc (.cells #[.int .i64 o.1, .int .u64 (o.2 : Int)] 25) := ⟨_, rfl⟩
  have hs0 : W0.heap.size = w.heap.size + 1 := by rw [hW0]; simp
  have HB0 := Lib.hid (show Below w.heap.size w W0 by rw [hW0]; exact alloc1 _ _)
  have HX0 := Lib.hid (show W0.heap[w.heap.size]? = some (.cells #[.int .i64 o.1, .int .u64 (o.2 : Int)] 25 (0, 0)) by rw [hW0]; exact heap_alloc_new w _)
  obtain ⟨W1, hW1⟩ : ∃ W : World, W = W0.alloc (.cells #[] 3) := ⟨_, rfl⟩
  have HO0 := Lib.hid (show W1.ownsRow W0.heap.size 3 1 (.slice (some ⟨W0.heap.size, 0, none⟩) 0 0) 0 [] by rw [hW1]; exact World.ownsRow_made W0 #[] 0 (Nat.le_refl _) (Nat.zero_le _) rfl)
  have HB1 := Lib.hid (show Below W0.heap.size W0 W1 by rw [hW1]; exact alloc1 _ _)
  have HA := Lib.hid (hA.below HB0.out)
  rw [hs0] at HO0
  have HS0 := Lib.hid hs0
  clear hs0
  clear hA hok
  obtain ⟨f0, f1⟩ := o
  simp only at hW0 HX0 ⊢
  go_enter Try.func7, Try.ntmps7
  go_wp2_with fail
  rw [← hW0, ← hW1]
  clear hW0 hW1
  go_loopg [5, 6] l.length (fun m v i wr => ∃ (k : Nat) (ys : List Int), k ≤ l.length ∧ i = .int .i64 k ∧ l.length - k ≤ m ∧ wr.ownsRow W0.heap.size 3 1 v ys.length (numCells ys) ∧ Below W0.heap.size W0 wr ∧ Hid (ys = snI (f0, f1) (l.take k)))
  case atStart => exact ⟨0, [], Nat.zero_le _, rfl, by omega, by rw [HS0.out]; exact HO0.out, HB1.out, Lib.hid (by simp [snI, sn])⟩
  case round =>
    obtain ⟨k, ys, hk, rfl, hm, hown, hbr, HY⟩ := hrel
    by_cases hlt : k < l.length
    · obtain ⟨bk, off, hAe, hbk, hI⟩ := HA.out (by omega)
      subst hAe
      have c0 := (hbr.cell (p := ⟨bk, off + k * 2, none⟩) hbk).trans (hI k hlt).1
      have c1 := (hbr.cell (p := ⟨bk, off + k * 2 + 1, none⟩) hbk).trans (hI k hlt).2
      have HC := Lib.hid (rb_is (f0, f1) l[k] (HOK.out _ (List.getElem_mem hlt)))
      have hyl : ys.length ≤ k := by rw [HY.out]; exact snI_le _ _ _
      have HN := Lib.hid (snI_take (o := (f0, f1)) hlt)
      rw [← HY.out] at HN
      obtain ⟨x0, x1⟩ := lab_cells ((hbr.block _ (L.blk_lt HX0.out)).trans HX0.out)
      have h0k : (0 : Int) ≤ (k : Int) := by omega
      have hki : (k : Int) < (l.length : Int) := by omega
      have HOW := Lib.hid hown
      have HBR := Lib.hid hbr
      clear hI hown hbr HY
      generalize l[k] = y at *
      obtain ⟨b, hb⟩ : ∃ b, b = bl (f0, f1) y := ⟨_, rfl⟩
      rw [← hb] at HC HN
      clear hb
      go_wp2_with fail
      go_still_tail 5, (by kernel_rfl)
      change wpList _ _ _ _ _ (World.drew _)
      clear x0 x1 c0 c1
      go_wp2_with fail
      with_reducible refine (HC.out.call _).mono ?_
      rintro e w3 ⟨rfl, hb3'⟩
      have hb3 : Below wr.heap.size wr w3 := (Below.refl _ _).drew.trans hb3'
      replace HOW := Lib.hid (own_below HOW.out hb3)
      replace HBR := Lib.hid (HBR.out.trans (hb3.mono HBR.out.size))
      clear hb3 hb3' HC
      cases b with
      | false =>
        go_wp2_with fail
        go_roundg (l.length - (k + 1))
        case rel => exact ⟨k + 1, ys, by omega, by go_num, Nat.le_refl _, HOW.out, HBR.out, Lib.hid (by rw [HN.out]; simp)⟩
        case measure => omega
      | true =>
        have hbs := HBR.out.size
        have HOA := Lib.hid (World.ownsRow.alloc HOW.out (.cells #[.int .i64 (k : Int)] 3))
        have HNW := Lib.hid (World.news_of_block (w := w3.alloc (.cells #[.int .i64 (k : Int)] 3)) (B := w3.heap.size) (heap_alloc_new w3 (.cells #[.int .i64 (k : Int)] 3)))
        have HB2 := Lib.hid (HBR.out.trans ((alloc1 w3 (.cells #[.int .i64 (k : Int)] 3)).mono hbs))
        go_wp2_with (at_builtin; refine wpList_append_own _ rfl (.tmp 20) (.tmp 22) 26 rfl W0.heap.size 3 i0 _ 1 8 Try.underlying26 hi0 hz0 hz1 hz2 rfl (by decide) _ ys.length (numCells ys) rfl HOA.out ⟨w3.heap.size, 0, none⟩ 1 1 [.int .i64 (k : Int)] rfl rfl HNW.out ?c2 ?c3 ?c4 ?c5 ?_)
        case c2 => first | exact ⟨rfl⟩ | (intro u hu; simp at hu; subst hu; rfl)
        case c3 => simp only [maxLen]; omega
        case c4 => omega
        case c5 => first | omega | (simp; omega)
        intro v' w4 hown4 hg4 _
        have hbel4 : Below W0.heap.size W0 w4 := HB2.out.grown hg4 (by simp; omega) (own_base HOW.out)
        have e1 : numCells ys ++ [.int .i64 (k : Int)] = numCells (ys ++ [(k : Int)]) := by rw [numCells_snoc]
        rw [e1] at hown4
        have hl4 : (ys ++ [(k : Int)]).length = ys.length + 1 := by simp
        rw [← hl4] at hown4
        clear e1 hg4
        go_wp2_with fail
        go_roundg (l.length - (k + 1))
        case rel => exact ⟨k + 1, ys ++ [(k : Int)], by omega, by go_num, Nat.le_refl _, hown4, hbel4, Lib.hid (by rw [HN.out]; simp)⟩
        case measure => omega
    · obtain rfl : k = l.length := by omega
      have he := HY.out
      rw [List.take_length] at he
      subst he
      have HB9 := Lib.hid (HB0.out.trans (hbr.mono HB0.out.size))
      have HO9 := Lib.hid (own_more hown HB0.out.size)
      clear hown hbr
      go_wp2_with fail
      go_ret
      exact ⟨⟨_, rfl, HO9.out⟩, HB9.out⟩
/-- A call that tells the places. -/
def SnEnd (W : World) (s : List Int) (e : Ending) (w' : World) : Prop := ∃ A cap, e = .returned (.slice A s.length cap) ∧ IntsIn w' A s ∧ s.length ≤ cap ∧ Below W.heap.size W w'
theorem snEnd_of {W w' : World} {s : List Int} {e : Ending} {v : Value} (he : e = .returned v) (h : w'.ownsRow W.heap.size 3 1 v s.length (numCells s)) (hb : Below W.heap.size W w') : SnEnd W s e w' := by
  rcases h.2 with ⟨hv, h0⟩ | ⟨g, cap, cur, hv, _, _, h1, _⟩
  · subst hv
    exact ⟨none, 0, by rw [he, h0], ints_own (by rw [h0] at h ⊢; exact h), by omega, hb⟩
  · subst hv
    exact ⟨_, cap, he, ints_own h, h1, hb⟩
theorem full_map (s : List Nat) (k : Int) : full s k = none ∧ (k < 0 ∨ (s.length : Int) ≤ k) ∨ ∃ n, full s k = some n ∧ 0 ≤ k ∧ k < (s.length : Int) ∧ (s.map fun n : Nat => (n : Int)).getD k.toNat 0 = (n : Int) := by
  unfold full
  by_cases h0 : 0 ≤ k
  · rw [if_pos h0]
    by_cases h1 : k.toNat < s.length
    · refine .inr ⟨s[k.toNat], List.getElem?_eq_getElem h1, h0, by omega, ?_⟩
      rw [List.getD_eq_getElem?_getD, List.getElem?_map, List.getElem?_eq_getElem h1]
      rfl
    · exact .inl ⟨List.getElem?_eq_none (by omega), .inr (by omega)⟩
  · rw [if_neg h0]; exact .inl ⟨rfl, .inl (by omega)⟩
set_option maxRecDepth 100000 in
set_option maxHeartbeats 2000000 in
theorem rfull_any (A : Option Addr) (cap : Nat) (l : List Lb) (o : Lb) (k : Int) (w : World) (hA : LabsIn w A l) (hok : ∀ x ∈ l, x.2 < 18446744073709551616) (hn : l.length * 8 ≤ 140737488355328) :
    Calls Try.prog 9 #[.slice A l.length cap, L.lab o.1 o.2, .int .i64 k] w fun e w' => e = .returned (.tuple #[.int .i64 (nm (full (sn o 0 l) k)), .bool (full (sn o 0 l) k).isSome]) ∧ Below w.heap.size w w' := by
  have HS := Lib.hid (fun (w : World) (h : LabsIn w A l) => (rsees_any A cap l o w h hok hn).mono (fun e w' (h : (∃ v, e = .returned v ∧ w'.ownsRow w.heap.size 3 1 v (snI o l).length (numCells (snI o l))) ∧ Below w.heap.size w w') => (by obtain ⟨⟨v, h1, h2⟩, h3⟩ := h; exact snEnd_of h1 h2 h3 : SnEnd w (snI o l) e w')))
  have HF := Lib.hid (full_map (sn o 0 l) k)
  have HL := snI_length o l
  have hle := Nat.le_trans (Nat.le_of_eq HL) (sn_le o l 0)
  obtain ⟨s, hs⟩ : ∃ s, s = snI o l := ⟨_, rfl⟩
  rw [← hs] at HS HL hle
  have hs' : (sn o 0 l).map (fun n : Nat => (n : Int)) = s := hs.symm
  rw [hs', ← HL] at HF
  clear hs hs' HL hok
  obtain ⟨q, hq⟩ : ∃ q, q = full (sn o 0 l) k := ⟨_, rfl⟩
  rw [← hq] at HF ⊢
  clear hq
  have HA := Lib.hid (hA.below (alloc1 w (.cells #[.int .i64 o.1, .int .u64 (o.2 : Int)] 25)))
  clear hA
  obtain ⟨f0, f1⟩ := o
  simp only at HA ⊢
  have hb1 := alloc1 w (.cells #[.int .i64 f0, .int .u64 (f1 : Int)] 25)
  go_enter Try.func9, Try.ntmps9
  go_wp2_with fail
  with_reducible refine (HS.out _ HA.out).mono ?_
  rintro e w2 ⟨B, c2, rfl, hI, -, hb2⟩
  have HB := Lib.hid (hb1.trans (hb2.mono hb1.size))
  clear hb1 hb2 HS HA
  rcases HF.out with ⟨rfl, h | h⟩ | ⟨n, rfl, h0, h1, h2⟩
  · have hd : decide (k < 0) = true := decide_eq_true h
    go_wp2_with fail
    refine bodyPost_ret (v := .tuple #[.int .i64 0, .bool false]) (by simp [results, Try.results9, go_sem]) rfl ⟨rfl, HB.out⟩
  · by_cases h' : k < 0
    · have hd : decide (k < 0) = true := decide_eq_true h'
      go_wp2_with fail
      refine bodyPost_ret (v := .tuple #[.int .i64 0, .bool false]) (by simp [results, Try.results9, go_sem]) rfl ⟨rfl, HB.out⟩
    · have hd : decide (k < 0) = false := decide_eq_false h'
      have hd2 : decide (k ≥ (s.length : Int)) = true := decide_eq_true h
      have hd3 : decide ((s.length : Int) ≤ k) = true := decide_eq_true h
      go_wp2_with fail
      refine bodyPost_ret (v := .tuple #[.int .i64 0, .bool false]) (by simp [results, Try.results9, go_sem]) rfl ⟨rfl, HB.out⟩
  · have hd : decide (k < 0) = false := decide_eq_false (by omega)
    have hd3 : decide ((s.length : Int) ≤ k) = false := decide_eq_false (by omega)
    obtain ⟨j, rfl⟩ := Int.eq_ofNat_of_zero_le h0
    have hj : j < s.length := by omega
    obtain ⟨bk, off, rfl, hbk, hc⟩ := hI (by omega)
    have c0 := hc j hj
    rw [List.getD_eq_getElem?_getD, Int.toNat_natCast, List.getElem?_eq_getElem hj] at h2
    simp only [Option.getD_some] at h2
    rw [h2] at c0
    clear h2 hc
    go_wp2_with fail
    refine bodyPost_ret (v := .tuple #[.int .i64 (n : Int), .bool true]) (by simp [results, Try.results9, go_sem]) rfl ⟨rfl, HB.out⟩
/-- Where a place stands, from a place on. -/
def ownFrom (n : Int) : Nat → List Int → Option Nat
  | _, [] => none
  | j, x :: r => if x = n then some j else ownFrom n (j + 1) r
theorem ownFrom_drop {n : Int} {s : List Int} {j : Nat} (hj : j < s.length) : ownFrom n j (s.drop j) = if s[j] = n then some j else ownFrom n (j + 1) (s.drop (j + 1)) := by
  rw [List.drop_eq_getElem_cons hj, ownFrom]
theorem own_from (n : Int) : ∀ (s : List Nat) (j : Nat), ownFrom n j (s.map fun x : Nat => (x : Int)) = (s.findIdx? fun x : Nat => decide ((x : Int) = n)).map (· + j)
  | [], j => by simp [ownFrom]
  | x :: r, j => by
    rw [List.map_cons, ownFrom, List.findIdx?_cons]
    by_cases h : (x : Int) = n
    · have h2 : (decide ((x : Int) = n)) = true := decide_eq_true h
      rw [if_pos h, h2]
      simp
    · have h2 : (decide ((x : Int) = n)) = false := decide_eq_false h
      rw [if_neg h, h2, own_from n r (j + 1)]
      cases r.findIdx? (fun x : Nat => decide ((x : Int) = n)) with
      | none => simp
      | some q => simp; omega
theorem own_is (o : Lb) (l : List Lb) (n : Int) : own (sn o 0 l) n = ownFrom n 0 (snI o l) := by
  unfold own snI
  rw [own_from]
  cases (sn o 0 l).findIdx? (fun x : Nat => decide ((x : Int) = n)) <;> simp
set_option maxRecDepth 100000 in
set_option maxHeartbeats 2000000 in
theorem rown_any (A : Option Addr) (cap : Nat) (l : List Lb) (o : Lb) (n : Int) (w : World) (hA : LabsIn w A l) (hok : ∀ x ∈ l, x.2 < 18446744073709551616) (hl : l.length ≤ maxLen) (hn : l.length * 8 ≤ 140737488355328) :
    Calls Try.prog 11 #[.slice A l.length cap, L.lab o.1 o.2, .int .i64 n] w fun e w' => e = .returned (.tuple #[.int .i64 (nm (own (sn o 0 l) n)), .bool (own (sn o 0 l) n).isSome]) ∧ Below w.heap.size w w' := by
  have HS := Lib.hid (fun (w : World) (h : LabsIn w A l) => (rsees_any A cap l o w h hok hn).mono (fun e w' (h : (∃ v, e = .returned v ∧ w'.ownsRow w.heap.size 3 1 v (snI o l).length (numCells (snI o l))) ∧ Below w.heap.size w w') => (by obtain ⟨⟨v, h1, h2⟩, h3⟩ := h; exact snEnd_of h1 h2 h3 : SnEnd w (snI o l) e w')))
  have hle := Nat.le_trans (Nat.le_of_eq (snI_length o l)) (sn_le o l 0)
  unfold maxLen at hl
  rw [own_is]
  obtain ⟨s, hs⟩ : ∃ s, s = snI o l := ⟨_, rfl⟩
  rw [← hs] at HS hle ⊢
  clear hs hok
  have HA := Lib.hid (hA.below (alloc1 w (.cells #[.int .i64 o.1, .int .u64 (o.2 : Int)] 25)))
  clear hA
  obtain ⟨f0, f1⟩ := o
  simp only at HA ⊢
  have hb1 := alloc1 w (.cells #[.int .i64 f0, .int .u64 (f1 : Int)] 25)
  go_enter Try.func11, Try.ntmps11
  go_wp2_with fail
  with_reducible refine (HS.out _ HA.out).mono ?_
  rintro e w2 ⟨B, c2, rfl, hI, -, hb2⟩
  have HB := Lib.hid (hb1.trans (hb2.mono hb1.size))
  have HI := Lib.hid hI
  clear hb1 hb2 HS HA hI
  go_wp2_with fail
  go_loopg [9] s.length (fun m i wr => ∃ k : Nat, k ≤ s.length ∧ i = .int .i64 k ∧ s.length - k ≤ m ∧ wr = w2 ∧ Hid (ownFrom n 0 s = ownFrom n k (s.drop k)))
  case atStart => exact ⟨0, Nat.zero_le _, rfl, by omega, rfl, Lib.hid rfl⟩
  case round =>
    obtain ⟨k, hk, rfl, hm, rfl, HY⟩ := hrel
    by_cases hlt : k < s.length
    · obtain ⟨bk, off, hAe, hbk, hc⟩ := HI.out (by omega)
      subst hAe
      have c0 := hc k hlt
      have HN := Lib.hid (ownFrom_drop (n := n) hlt)
      have h0k : (0 : Int) ≤ (k : Int) := by omega
      have hki : (k : Int) < (s.length : Int) := by omega
      clear hc
      generalize s[k] = y at *
      by_cases he : y = n
      · subst he
        have HR := Lib.hid (show ownFrom y 0 s = some k by rw [HY.out, HN.out, if_pos rfl])
        clear HY HN
        go_wp2_with fail
        refine bodyPost_ret (v := .tuple #[.int .i64 (k : Int), .bool true]) (by simp [results, Try.results11, go_sem]) rfl ⟨by rw [HR.out]; rfl, HB.out⟩
      · have HR := Lib.hid (show ownFrom n 0 s = ownFrom n (k + 1) (s.drop (k + 1)) by rw [HY.out, HN.out, if_neg he])
        have hb : (y == n) = false := beq_eq_false_iff_ne.2 he
        clear HY HN
        go_wp2_with fail
        go_roundg (s.length - (k + 1))
        case rel => exact ⟨k + 1, by omega, by go_num, Nat.le_refl _, rfl, HR⟩
        case measure => omega
    · obtain rfl : k = s.length := by omega
      have HR := Lib.hid (show ownFrom n 0 s = none by rw [HY.out, List.drop_length, ownFrom])
      clear HY
      go_wp2_with fail
      refine bodyPost_ret (v := .tuple #[.int .i64 0, .bool false]) (by simp [results, Try.results11, go_sem]) rfl ⟨by rw [HR.out]; rfl, HB.out⟩
end Go.Proofs.Ytlkfmaeillnhhaa.Rm

namespace Go.Proofs.Ytlkfmaeillnhhaa.Rm
set_option linter.unusedVariables false
set_option linter.unusedSimpArgs false
open Go.RowKit
open T
open I (Lb alloc1 own_at own_below)
open V (grown_of drawn_below IntsIn numCells numCells_snoc ints_own BlC RbC)

def SnC (fn : FuncId) (l : List Lb) (f0 : Int) (f1 : Nat) (s : List Int) : Prop := ∀ (W : World) (A : Option Addr) (cap : Nat), LabsIn W A l → Calls Try.prog fn #[.slice A l.length cap, .agg #[.int .i64 f0, .int .u64 (f1 : Int)]] W (SnEnd W s)
theorem SnC.at {fn : FuncId} {l : List Lb} {f0 : Int} {f1 : Nat} {s : List Int} (h : SnC fn l f0 f1 s) (W : World) {A : Option Addr} {cap : Nat} (h1 : LabsIn W A l) : Calls Try.prog fn #[.slice A l.length cap, .agg #[.int .i64 f0, .int .u64 (f1 : Int)]] W (SnEnd W s) := h W A cap h1
theorem SnC.ex {fn : FuncId} {l : List Lb} {f0 : Int} {f1 : Nat} {s : List Int} (h : SnC fn l f0 f1 s) (W : World) {A : Option Addr} {cap : Nat} (h1 : LabsIn W A l) : Calls Try.prog fn #[.slice A l.length cap, .agg #[.int .i64 f0, .int .u64 (f1 : Int)]] W fun e w' => ∃ A' c', e = .returned (.slice A' s.length c') ∧ IntsIn w' A' s ∧ s.length ≤ c' ∧ Below W.heap.size W w' := h W A cap h1
def TwC (fn : FuncId) (l : List Lb) (f0 : Int) (f1 : Nat) (k v : Int) (b : Bool) : Prop := ∀ (W : World) (A : Option Addr) (cap : Nat), LabsIn W A l → Calls Try.prog fn #[.slice A l.length cap, .agg #[.int .i64 f0, .int .u64 (f1 : Int)], .int .i64 k] W fun e w' => e = .returned (.tuple #[.int .i64 v, .bool b]) ∧ Below W.heap.size W w'
theorem TwC.at {fn : FuncId} {l : List Lb} {f0 : Int} {f1 : Nat} {k v : Int} {b : Bool} (h : TwC fn l f0 f1 k v b) (W : World) {A : Option Addr} {cap : Nat} (h1 : LabsIn W A l) : Calls Try.prog fn #[.slice A l.length cap, .agg #[.int .i64 f0, .int .u64 (f1 : Int)], .int .i64 k] W fun e w' => e = .returned (.tuple #[.int .i64 v, .bool b]) ∧ Below W.heap.size W w' := h W A cap h1
def LaC (fn : FuncId) (l : List Lb) (f0 : Int) (f1 : Nat) (v : Int) (b : Bool) : Prop := ∀ (W : World) (A : Option Addr) (cap : Nat), LabsIn W A l → Calls Try.prog fn #[.slice A l.length cap, .agg #[.int .i64 f0, .int .u64 (f1 : Int)]] W fun e w' => e = .returned (.tuple #[.int .i64 v, .bool b]) ∧ Below W.heap.size W w'
theorem LaC.at {fn : FuncId} {l : List Lb} {f0 : Int} {f1 : Nat} {v : Int} {b : Bool} (h : LaC fn l f0 f1 v b) (W : World) {A : Option Addr} {cap : Nat} (h1 : LabsIn W A l) : Calls Try.prog fn #[.slice A l.length cap, .agg #[.int .i64 f0, .int .u64 (f1 : Int)]] W fun e w' => e = .returned (.tuple #[.int .i64 v, .bool b]) ∧ Below W.heap.size W w' := h W A cap h1
def CnC (fn : FuncId) (l : List Lb) (f0 : Int) (f1 : Nat) (n : Int) : Prop := ∀ (W : World) (A : Option Addr) (cap : Nat), LabsIn W A l → Calls Try.prog fn #[.slice A l.length cap, .agg #[.int .i64 f0, .int .u64 (f1 : Int)]] W fun e w' => e = .returned (.int .i64 n) ∧ Below W.heap.size W w'
theorem CnC.at {fn : FuncId} {l : List Lb} {f0 : Int} {f1 : Nat} {n : Int} (h : CnC fn l f0 f1 n) (W : World) {A : Option Addr} {cap : Nat} (h1 : LabsIn W A l) : Calls Try.prog fn #[.slice A l.length cap, .agg #[.int .i64 f0, .int .u64 (f1 : Int)]] W fun e w' => e = .returned (.int .i64 n) ∧ Below W.heap.size W w' := h W A cap h1
def LvC (fn : FuncId) : Prop := ∀ W : World, Calls Try.prog fn #[] W fun e w' => e = .returned (.bool true) ∧ Below W.heap.size W w'
theorem LvC.at {fn : FuncId} (h : LvC fn) (W : World) : Calls Try.prog fn #[] W fun e w' => e = .returned (.bool true) ∧ Below W.heap.size W w' := h W
def NtC (fn : FuncId) (s t : List Int) (b : Bool) : Prop := ∀ (W : World) (A B : Option Addr) (c c' : Nat), IntsIn W A s → IntsIn W B t → Calls Try.prog fn #[.slice A s.length c, .slice B t.length c'] W fun e w' => e = .returned (.bool b) ∧ Below W.heap.size W w'
theorem NtC.at {fn : FuncId} {s t : List Int} {b : Bool} (h : NtC fn s t b) (W : World) {A B : Option Addr} {c c' : Nat} (h1 : IntsIn W A s) (h2 : IntsIn W B t) : Calls Try.prog fn #[.slice A s.length c, .slice B t.length c'] W fun e w' => e = .returned (.bool b) ∧ Below W.heap.size W w' := h W A B c c' h1 h2

/-- A label in a box. -/
def Lx (W : World) (b : Nat) (f0 : Int) (f1 : Nat) : Prop := W.heap[b]? = some (.cells #[.int .i64 f0, .int .u64 (f1 : Int)] 25 (0, 0))
theorem Lx.cells {W : World} {b : Nat} {f0 : Int} {f1 : Nat} (h : Lx W b f0 f1) : W.cell? ⟨b, 0, none⟩ = some (.int .i64 f0) ∧ W.cell? ⟨b, 1, none⟩ = some (.int .u64 (f1 : Int)) := ⟨L.blk_cell h 0, L.blk_cell h 1⟩
theorem Lx.below {W W' : World} {b : Nat} {f0 : Int} {f1 : Nat} (h : Lx W b f0 f1) (hb : Below W.heap.size W W') : Lx W' b f0 f1 := (hb.block b (L.blk_lt h)).trans h
/-- Labels whose numbers are machine numbers. -/
def LOk (l : List Lb) : Prop := ∀ x ∈ l, x.2 < 18446744073709551616
theorem bl_hid {l : List Lb} (hok : LOk l) {f0 : Int} {f1 : Nat} (h1 : f1 < 18446744073709551616) : Hid (∀ x ∈ l, BlC x.1 f0 x.2 f1 (bl (f0, f1) x)) := Lib.hid fun x hx w => L.below_any x.1 f0 x.2 f1 w (hok x hx) h1
section
variable {l : List Lb} {f0 : Int} {f1 : Nat}
theorem c_seen (hok : LOk l) (h1 : f1 < 18446744073709551616) (hl : l.length ≤ maxLen) (hn : l.length * 8 ≤ 140737488355328) : SnC 15 l f0 f1 (snI (f0, f1) l) := fun W A cap h =>
  (callsIn_wide.1 (sees_in 6 (by omega) A cap l f0 f1 W h hl (bl_hid hok h1) hn)).mono fun e w' h => by
    obtain ⟨v, he, ho, hb⟩ := h
    exact snEnd_of he ho hb
theorem c_rseen (hok : LOk l) (hn : l.length * 8 ≤ 140737488355328) : SnC 7 l f0 f1 (snI (f0, f1) l) := fun W A cap h =>
  (rsees_any A cap l (f0, f1) W h hok hn).mono fun e w' h => by
    obtain ⟨⟨v, he, ho⟩, hb⟩ := h
    exact snEnd_of he ho hb
theorem c_full (hok : LOk l) (h1 : f1 < 18446744073709551616) (hl : l.length ≤ maxLen) (k : Int) : TwC 8 l f0 f1 k (nm (full (sn (f0, f1) 0 l) k)) (full (sn (f0, f1) 0 l) k).isSome := fun W A cap h =>
  (callsIn_wide.1 (full_in 6 (by omega) A cap l f0 f1 k W h hl (bl_hid hok h1))).mono fun e w' h => by
    obtain ⟨he, hb⟩ := h
    refine ⟨?_, hb⟩
    rw [he, fullV, ← prs_full]
    simp
theorem c_own (hok : LOk l) (h1 : f1 < 18446744073709551616) (hl : l.length ≤ maxLen) (k : Int) : TwC 10 l f0 f1 k (nm (own (sn (f0, f1) 0 l) k)) (own (sn (f0, f1) 0 l) k).isSome := fun W A cap h =>
  (callsIn_wide.1 (own_in 6 (by omega) A cap l f0 f1 k W h hl (bl_hid hok h1))).mono fun e w' h => by
    obtain ⟨he, hb⟩ := h
    refine ⟨?_, hb⟩
    rw [he, ownV, ← prs_own]
    simp
theorem c_rfull (hok : LOk l) (hn : l.length * 8 ≤ 140737488355328) (k : Int) : TwC 9 l f0 f1 k (nm (full (sn (f0, f1) 0 l) k)) (full (sn (f0, f1) 0 l) k).isSome := fun W A cap h => rfull_any A cap l (f0, f1) k W h hok hn
theorem c_rown (hok : LOk l) (hl : l.length ≤ maxLen) (hn : l.length * 8 ≤ 140737488355328) (k : Int) : TwC 11 l f0 f1 k (nm (own (sn (f0, f1) 0 l) k)) (own (sn (f0, f1) 0 l) k).isSome := fun W A cap h => rown_any A cap l (f0, f1) k W h hok hl hn
theorem c_last (hok : LOk l) (h1 : f1 < 18446744073709551616) (hl : l.length ≤ maxLen) : LaC 12 l f0 f1 (nm (sn (f0, f1) 0 l).getLast?) (sn (f0, f1) 0 l).getLast?.isSome := fun W A cap h => by
  have := callsIn_wide.1 (last_in 6 (by omega) A cap l f0 f1 W h hl (bl_hid hok h1))
  rw [(prs_last (f0, f1) l).1, (prs_last (f0, f1) l).2] at this
  exact this
theorem c_count (hl : l.length ≤ maxLen) : CnC 16 l f0 f1 (cnt l (f0, f1) : Nat) := fun W A cap h => count_any A cap l f0 f1 W h hl
theorem c_rcount (hl : l.length ≤ maxLen) : CnC 17 l f0 f1 (cnt l (f0, f1) : Nat) := fun W A cap h => rcount_any A cap l f0 f1 W h hl
end
theorem c_ints (s t : List Int) (hs : s.length ≤ maxLen) : NtC 14 s t (decide (s = t)) := fun W A B c c' h1 h2 => V.rints_any A B c c' s t W hs h1 h2

def lv3 : List Lb := [(0, 0), (1, 0), (0, 0)]
theorem lv3_ok : LOk lv3 := fun x hx => by
  simp only [lv3, List.mem_cons, List.not_mem_nil, or_false] at hx
  rcases hx with h | h | h <;> (rw [h]; decide)
theorem lv3_in (w : World) (T : TypeId) : LabsIn (w.alloc (.cells #[.int .i64 0, .int .u64 0, .int .i64 1, .int .u64 0, .int .i64 0, .int .u64 0] T)) (some ⟨w.heap.size, 0, none⟩) lv3 := fun _ => by
  have hb := heap_alloc_new w (.cells #[.int .i64 0, .int .u64 0, .int .i64 1, .int .u64 0, .int .i64 0, .int .u64 0] T)
  refine ⟨_, _, rfl, by simp, fun j hj => ?_⟩
  have h3 : j < 3 := hj
  rcases (show j = 0 ∨ j = 1 ∨ j = 2 by omega) with rfl | rfl | rfl
  · exact ⟨L.blk_cell hb 0, L.blk_cell hb 1⟩
  · exact ⟨L.blk_cell hb 2, L.blk_cell hb 3⟩
  · exact ⟨L.blk_cell hb 4, L.blk_cell hb 5⟩
set_option maxRecDepth 100000 in
set_option maxHeartbeats 4000000 in
theorem live17_walk (HF : Hid (∀ (W : World) (A : Option Addr) (cap : Nat), LabsIn W A lv3 → Calls Try.prog 8 #[.slice A 3 cap, .agg #[.int .i64 0, .int .u64 0], .int .i64 1] W fun e w' => e = .returned (.tuple #[.int .i64 2, .bool true]) ∧ Below W.heap.size W w'))
    (HL : Hid (∀ (W : World) (A : Option Addr) (cap : Nat), LabsIn W A lv3 → Calls Try.prog 12 #[.slice A 3 cap, .agg #[.int .i64 1, .int .u64 0]] W fun e w' => e = .returned (.tuple #[.int .i64 2, .bool true]) ∧ Below W.heap.size W w'))
    (HC : Hid (∀ (W : World) (A : Option Addr) (cap : Nat), LabsIn W A lv3 → Calls Try.prog 16 #[.slice A 3 cap, .agg #[.int .i64 0, .int .u64 0]] W fun e w' => e = .returned (.int .i64 2) ∧ Below W.heap.size W w')) : LvC 13 := fun w => by
  obtain ⟨w0, hw0⟩ : ∃ W : World, W = w.alloc (.cells #[.int .i64 0, .int .u64 0, .int .i64 1, .int .u64 0, .int .i64 0, .int .u64 0] 25) := ⟨_, rfl⟩
  have HB0 := Lib.hid (show Below w.heap.size w w0 by rw [hw0]; exact alloc1 _ _)
  have HA := Lib.hid (show LabsIn w0 (some ⟨w.heap.size, 0, none⟩) lv3 by rw [hw0]; exact lv3_in w _)
  go_enter Try.func13, Try.ntmps13
  go_wp2_with fail
  rw [← hw0]
  clear hw0
  with_reducible refine (HF.out _ _ _ HA.out).mono ?_
  rintro e w1 ⟨rfl, hb1⟩
  replace HA := Lib.hid (HA.out.below hb1)
  replace HB0 := Lib.hid (HB0.out.trans (hb1.mono HB0.out.size))
  clear hb1
  go_wp2_with fail
  with_reducible refine (HL.out _ _ _ HA.out).mono ?_
  rintro e w2 ⟨rfl, hb2⟩
  replace HA := Lib.hid (HA.out.below hb2)
  replace HB0 := Lib.hid (HB0.out.trans (hb2.mono HB0.out.size))
  clear hb2
  go_wp2_with fail
  with_reducible refine (HC.out _ _ _ HA.out).mono ?_
  rintro e w3 ⟨rfl, hb3⟩
  replace HB0 := Lib.hid (HB0.out.trans (hb3.mono HB0.out.size))
  go_wp2_with fail
  go_ret
  exact ⟨rfl, HB0.out⟩
theorem live17 : LvC 13 := by
  refine live17_walk (Lib.hid ?_) (Lib.hid ?_) (Lib.hid ?_)
  · have := c_full (f0 := 0) (f1 := 0) lv3_ok (by decide) (show lv3.length ≤ maxLen by decide) 1
    exact this
  · have := c_last (f0 := 1) (f1 := 0) lv3_ok (by decide) (show lv3.length ≤ maxLen by decide)
    exact this
  · have := c_count (f0 := 0) (f1 := 0) (show lv3.length ≤ maxLen by decide)
    exact this
end Go.Proofs.Ytlkfmaeillnhhaa.Rm

namespace Go.Proofs.Ytlkfmaeillnhhaa.L
open Go.RowKit
open T

def pickOf (c d : Nat) (both : Bool) : Nat := if both then c &&& d else c ||| d
theorem pick_bit (c d p : Nat) (both : Bool) : (pickOf c d both).testBit p = ((c.testBit p && d.testBit p) || (!both && (c.testBit p || d.testBit p))) := by
  unfold pickOf
  cases both
  · rw [if_neg (by simp), Nat.testBit_or]; cases c.testBit p <;> cases d.testBit p <;> rfl
  · rw [if_pos rfl, Nat.testBit_and]; cases c.testBit p <;> cases d.testBit p <;> rfl
theorem pick_small {c d : Nat} (hc : c < 18446744073709551616) (hd : d < 18446744073709551616) (both : Bool) : pickOf c d both < 18446744073709551616 := by
  unfold pickOf
  cases both
  · exact or_small hc hd
  · exact Nat.lt_of_le_of_lt Nat.and_le_left hc
theorem half (x p : Nat) : x / 2 ^ p = 2 * (x / 2 ^ (p + 1)) + (if x.testBit p then 1 else 0) := by
  rw [Nat.testBit_eq_decide_div_mod_eq, Nat.pow_succ, ← Nat.div_div_eq_div_mul]
  generalize x / 2 ^ p = y
  by_cases h : y % 2 = 1
  · rw [decide_eq_true h]; simp; omega
  · rw [decide_eq_false h]; simp; omega
theorem above {x p : Nat} (hx : x < 18446744073709551616) (hp : p < 64) : x / 2 ^ (p + 1) ≤ 9223372036854775807 := by
  have h1 : 2 ^ 1 ≤ 2 ^ (p + 1) := Nat.pow_le_pow_right (by omega) (by omega)
  have h2 : x / 2 ^ (p + 1) ≤ x / 2 ^ 1 := Nat.div_le_div_left h1 (by omega)
  omega

def PickRel (w : World) (l : Int) (c : Nat) (m : Int) (d : Nat) (x : Nat) (n : Nat) (ov iv : Value) (wr : World) : Prop :=
  (∃ p o : Nat, p < 64 ∧ iv = .int .i64 p ∧ ov = .int .u64 (o : Int) ∧ o = x / 2 ^ (p + 1) ∧ p + 1 ≤ n ∧ Held2 w l c m d wr) ∨
  (iv = .int .i64 (-1) ∧ ov = .int .u64 (x : Int) ∧ Held2 w l c m d wr)
theorem rel_next {w wr : World} {l m : Int} {c d x p : Nat} {ov iv : Int} (o : Nat) (hi : iv = (p : Int) - 1) (hov : ov = (o : Int)) (ho : x / 2 ^ p = o) (hp : p < 64) (hH : Held2 w l c m d wr) : PickRel w l c m d x p (.int .u64 ov) (.int .i64 iv) wr := by
  subst hov
  cases p with
  | zero => exact .inr ⟨by rw [hi]; rfl, by rw [← ho]; simp, hH⟩
  | succ q => exact .inl ⟨q, o, by omega, by rw [hi]; congr 1; omega, rfl, ho.symm, Nat.le_refl _, hH⟩

set_option maxHeartbeats 1000000 in
set_option maxRecDepth 100000 in
theorem pick_any (l m : Int) (c d : Nat) (both : Bool) (w : World) (hc : c < 18446744073709551616) (hd : d < 18446744073709551616) :
    Calls Try.prog 22 #[lab l c, lab m d, .bool both] w fun e w' => e = .returned (.int .u64 (pickOf c d both : Nat)) ∧ Below w.heap.size w w' := by
  have hx := pick_small hc hd both
  have HB := Lib.hid (pick_bit c d · both)
  generalize pickOf c d both = x at *
  go_enter Try.func22, Try.ntmps22
  go_wp2_with fail
  go_loopg [7, 8] 64 (fun n ov iv wr => PickRel w l c m d x n ov iv wr)
  case atStart => exact .inl ⟨63, 0, by omega, rfl, rfl, (Nat.div_eq_of_lt (by omega)).symm, Nat.le_refl _, held2_start w l m c d⟩
  case round =>
    rcases hrel with ⟨p, o, hp, rfl, rfl, ho, hn, hH⟩ | ⟨rfl, rfl, hH⟩
    · have hob : o ≤ 9223372036854775807 := by rw [ho]; exact above hx hp
      have HP := Lib.hid (half x p)
      rw [← ho] at HP
      have hbit := HB.out p
      clear ho
      cases hcb : c.testBit p <;> cases hdb : d.testBit p <;> cases both
      all_goals
        rw [hcb, hdb] at hbit
        simp only [Bool.and_self, Bool.and_true, Bool.and_false, Bool.or_self, Bool.or_true, Bool.or_false, Bool.not_true, Bool.not_false] at hbit
        rw [hbit] at HP
        have HC := Lib.hid (hs_is (l := l) hp hcb)
        have HD := Lib.hid (hs_is (l := m) hp hdb)
        clear hcb hdb hbit
        go_wp2_with (first
          | (go_at_call 21; with_reducible refine (HC.out.call _).mono ?_; rintro r w1 ⟨rfl, hb1⟩; replace hH := held2_below hH hb1; clear hb1)
          | (go_at_call 21; with_reducible refine (HD.out.call _).mono ?_; rintro r w1 ⟨rfl, hb1⟩; replace hH := held2_below hH hb1; clear hb1))
      all_goals
        go_roundg p
        case measure => omega
        case rel =>
          first
            | exact rel_next (2 * o) rfl (by omega) (by rw [HP.out]; simp) hp hH
            | exact rel_next (2 * o + 1) rfl (by omega) (by rw [HP.out]; simp) hp hH
    · go_wp2_with fail
      go_ret
      exact ⟨rfl, held2_end hH⟩

end Go.Proofs.Ytlkfmaeillnhhaa.L

namespace Go.Proofs.Ytlkfmaeillnhhaa.L
open Go.RowKit
open T

/-- Two labels in boxes, and a result's own block behind them. -/
abbrev HeldR (w : World) (l : Int) (c : Nat) (m : Int) (d : Nat) (w' : World) : Prop :=
  w'.cell? ⟨w.heap.size, 0, none⟩ = some (.int .i64 l) ∧ w'.cell? ⟨w.heap.size, 1, none⟩ = some (.int .u64 (c : Int)) ∧ w'.cell? ⟨w.heap.size + 1, 0, none⟩ = some (.int .i64 m) ∧ w'.cell? ⟨w.heap.size + 1, 1, none⟩ = some (.int .u64 (d : Int)) ∧ w.heap.size + 3 ≤ w'.heap.size ∧ Hid (w'.heap[w.heap.size + 1 + 1]? = some (.cells #[.int .i64 0, .int .u64 0] 25 (0, 0))) ∧ Below w.heap.size w w'
section
variable {w W W' : World} {l m : Int} {c d : Nat}
theorem heldR_below (h : HeldR w l c m d W) (hb : Below W.heap.size W W') : HeldR w l c m d W' := by
  obtain ⟨h1, h2, h3, h4, h5, h6, h7⟩ := h
  have hs := hb.size
  exact ⟨(bcell hb _ _ (by omega)).trans h1, (bcell hb _ _ (by omega)).trans h2, (bcell hb _ _ (by omega)).trans h3, (bcell hb _ _ (by omega)).trans h4, by omega, Lib.hid ((hb.block _ (by omega)).trans h6.out), h7.trans (hb.mono h7.size)⟩
theorem heldR_alloc (h : HeldR w l c m d W) (o : Obj) : HeldR w l c m d (W.alloc o) := heldR_below h ((Below.refl _ _).alloc (Nat.le_refl _) o)
theorem heldR_set (h : HeldR w l c m d W) {g i : Nat} (hg : w.heap.size + 3 ≤ g) (u : Value) : HeldR w l c m d (W.setCell ⟨g, i, none⟩ u) := by
  obtain ⟨h1, h2, h3, h4, h5, h6, h7⟩ := h
  have hf := fun (b o : Nat) (hb : b < w.heap.size + 3) => World.cell?_setCell_other W ⟨g, i, none⟩ ⟨b, o, none⟩ u (fun e => by injection e with e1; omega)
  exact ⟨(hf _ _ (by omega)).trans h1, (hf _ _ (by omega)).trans h2, (hf _ _ (by omega)).trans h3, (hf _ _ (by omega)).trans h4, by simpa [World.setCell] using h5, Lib.hid ((blk_far (by omega) u).trans h6.out), h7.setCell (p := ⟨g, i, none⟩) (by show w.heap.size ≤ g; omega) u⟩
end
theorem heldR_re {w W : World} {l m : Int} {c d : Nat} {o1 : Obj} (h : HeldR w l c m d (W.alloc o1)) (hs : w.heap.size + 3 ≤ W.heap.size) (o2 : Obj) : HeldR w l c m d (W.alloc o2) := by
  obtain ⟨h1, h2, h3, h4, h5, h6, h7⟩ := h
  have hf : ∀ (o : Obj) (b i : Nat), b < w.heap.size + 3 → (W.alloc o).cell? ⟨b, i, none⟩ = W.cell? ⟨b, i, none⟩ := fun o b i hb => World.cell?_alloc_lt W o ⟨b, i, none⟩ (by show b < W.heap.size; omega)
  refine ⟨?_, ?_, ?_, ?_, by simp; omega, Lib.hid ?_, ⟨h7.os, h7.tape, h7.output, by have := h7.size; simp at this ⊢; omega, fun k hk => ?_⟩⟩
  · rw [hf _ _ _ (by omega)] at h1 ⊢; exact h1
  · rw [hf _ _ _ (by omega)] at h2 ⊢; exact h2
  · rw [hf _ _ _ (by omega)] at h3 ⊢; exact h3
  · rw [hf _ _ _ (by omega)] at h4 ⊢; exact h4
  · rw [Below.heap_alloc _ _ _ (by omega)] at h6 ⊢; exact h6.out
  · have := h7.block k hk
    rw [Below.heap_alloc _ _ _ (by omega)] at this ⊢; exact this
theorem heldR_size (w : World) (l m : Int) (c d : Nat) (W : World) (h : HeldR w l c m d W) : w.heap.size + 3 ≤ W.heap.size := h.2.2.2.2.1
theorem heldR_start (w : World) (l m : Int) (c d : Nat) : HeldR w l c m d ((((w.alloc (.cells #[.int .i64 l, .int .u64 (c : Int)] 25)).alloc (.cells #[.int .i64 m, .int .u64 (d : Int)] 25)).alloc (.cells #[.int .i64 0, .int .u64 0] 25)).drew) := by
  obtain ⟨b0, b1⟩ := two_blocks w (.cells #[.int .i64 l, .int .u64 (c : Int)] 25) (.cells #[.int .i64 m, .int .u64 (d : Int)] 25)
  have b2 := heap_alloc_new ((w.alloc (.cells #[.int .i64 l, .int .u64 (c : Int)] 25)).alloc (.cells #[.int .i64 m, .int .u64 (d : Int)] 25)) (.cells #[.int .i64 0, .int .u64 0] 25)
  rw [World.size_alloc, World.size_alloc] at b2
  have b0' := (Below.heap_alloc ((w.alloc (.cells #[.int .i64 l, .int .u64 (c : Int)] 25)).alloc (.cells #[.int .i64 m, .int .u64 (d : Int)] 25)) (.cells #[.int .i64 0, .int .u64 0] 25) _ (blk_lt b0)).trans b0
  have b1' := (Below.heap_alloc ((w.alloc (.cells #[.int .i64 l, .int .u64 (c : Int)] 25)).alloc (.cells #[.int .i64 m, .int .u64 (d : Int)] 25)) (.cells #[.int .i64 0, .int .u64 0] 25) _ (blk_lt b1)).trans b1
  have hs : w.heap.size + 3 ≤ (((w.alloc (.cells #[.int .i64 l, .int .u64 (c : Int)] 25)).alloc (.cells #[.int .i64 m, .int .u64 (d : Int)] 25)).alloc (.cells #[.int .i64 0, .int .u64 0] 25)).heap.size := by
    rw [World.size_alloc, World.size_alloc, World.size_alloc]; omega
  exact ⟨blk_cell b0' 0, blk_cell b0' 1, blk_cell b1' 0, blk_cell b1' 1, hs, Lib.hid b2, (three w _ _ _).drew⟩
theorem heldR_drew {w W : World} {l m : Int} {c d : Nat} (h : HeldR w l c m d W) : HeldR w l c m d W.drew := ⟨h.1, h.2.1, h.2.2.1, h.2.2.2.1, h.2.2.2.2.1, h.2.2.2.2.2.1, h.2.2.2.2.2.2.drew⟩
theorem heldR_undrew {w W : World} {l m : Int} {c d : Nat} (h : HeldR w l c m d W.drew) : HeldR w l c m d W :=
  ⟨h.1, h.2.1, h.2.2.1, h.2.2.2.1, h.2.2.2.2.1, h.2.2.2.2.2.1, ⟨h.2.2.2.2.2.2.os, h.2.2.2.2.2.2.tape, h.2.2.2.2.2.2.output, h.2.2.2.2.2.2.size, h.2.2.2.2.2.2.block⟩⟩
theorem heldR_ad {w W : World} {l m : Int} {c d : Nat} (h : HeldR w l c m d W.drew) (o : Obj) : HeldR w l c m d (W.alloc o).drew := heldR_drew (heldR_alloc (heldR_undrew h) o)
theorem four_new (w : World) (a b c o : Obj) : ((((w.alloc a).alloc b).alloc c).alloc o).drew.heap[w.heap.size + 1 + 1 + 1]? = some o := by
  have h := heap_alloc_new (((w.alloc a).alloc b).alloc c) o
  rw [World.size_alloc, World.size_alloc, World.size_alloc] at h
  exact h
theorem bfro {W w1 : World} (hb : Below W.heap.size W w1) (b o : Nat) (h : b < W.heap.size) : w1.frozen? ⟨b, o, none⟩ = W.frozen? ⟨b, o, none⟩ := hb.frozen (p := ⟨b, o, none⟩) h

set_option maxHeartbeats 8000000 in
set_option maxRecDepth 100000 in
theorem refJoin_walk (l m k : Int) (c d x : Nat) (w : World) (hk : k = max l m)
    (HP : Hid (∀ w : World, Calls Try.prog 22 #[lab l c, lab m d, .bool false] w fun e w' => e = .returned (.int .u64 (x : Int)) ∧ Below w.heap.size w w')) :
    Calls Try.prog 19 #[lab l c, lab m d] w fun e w' => e = .returned (lab k x) ∧ Below w.heap.size w w' := by
  go_enter Try.func19, Try.ntmps19
  go_upto_region 1 with fail
  go_cut [5] (fun s wx => ∃ g : Nat, s = .pointer (some ⟨g, 0, none⟩) ∧ w.heap.size + 3 ≤ g ∧ Hid (wx.heap[g]? = some (.cells #[.int .i64 l, .int .u64 (x : Int)] 25 (0, 0))) ∧ HeldR w l c m d wx)
  case first =>
    go_region_held3 (fun w' => w'.cell? ⟨w.heap.size, 0, none⟩ = some (.int .i64 l) ∧ w'.cell? ⟨w.heap.size, 1, none⟩ = some (.int .u64 (c : Int)) ∧ w'.cell? ⟨w.heap.size + 1, 0, none⟩ = some (.int .i64 m) ∧ w'.cell? ⟨w.heap.size + 1, 1, none⟩ = some (.int .u64 (d : Int)) ∧ w.heap.size + 3 ≤ w'.heap.size ∧ Hid (w'.heap[w.heap.size + 1 + 1]? = some (.cells #[.int .i64 0, .int .u64 0] 25 (0, 0))) ∧ Below w.heap.size w w')
      (first | with_reducible exact heldR_start w l m c d | with_reducible exact heldR_ad (by assumption) _ | with_reducible exact heldR_alloc (by assumption) _ | with_reducible exact heldR_below (by assumption) hbq | with_reducible exact heldR_re (by assumption) hzq _ | with_reducible exact heldR_set (heldR_set (by assumption) (Nat.le_refl _) _) (Nat.le_refl _) _)
      (first
        | (go_at_call 22; with_reducible refine (HP.out _).mono ?_; rintro r wq ⟨rfl, hbq⟩; have hzq := Nat.le_trans (heldR_size w l m c d _ (by assumption)) hbq.size; have hbc := bcell hbq; have hbf := bfro hbq; have hbz := hbq.size))
    · go_wp2_with fail
      go_meet
      exact ⟨wq.heap.size, rfl, hzq, Lib.hid (heap_alloc_new wq _), by assumption⟩
    · go_wp2_with fail
      go_meet
      exact ⟨w.heap.size + 1 + 1 + 1, rfl, Nat.le_refl _, Lib.hid (blk_set (blk_set ((hbq.block (w.heap.size + 1 + 1 + 1) (by simp)).trans (four_new w _ _ _ _)) 0 _) 1 _), by assumption⟩
  case rest =>
    obtain ⟨g, rfl, hg, HG, hH⟩ := hcut
    obtain ⟨h1, h2, h3, h4, hsz, HK, hbel⟩ := hH
    have g0 := (res_cells HG.out).1
    have g1 := (res_cells HG.out).2
    have f0 := blk_free HG.out 0
    have d0 := (res_cells HK.out).1
    have d1 := (res_cells HK.out).2
    have e0 := blk_free HK.out 0
    have e1 := blk_free HK.out 1
    by_cases hlm : m ≤ l
    · obtain rfl : k = l := by omega
      clear hk
      go_wp2_with fail
      have hfin := blk_set (blk_set HK.out 0 (.int .i64 k)) 1 (.int .u64 (x : Int))
      have hbf := (hbel.setCell (p := ⟨w.heap.size + 1 + 1, 0, none⟩) (by show w.heap.size ≤ w.heap.size + 1 + 1; omega) (.int .i64 k)).setCell (p := ⟨w.heap.size + 1 + 1, 1, none⟩) (by show w.heap.size ≤ w.heap.size + 1 + 1; omega) (.int .u64 (x : Int))
      clear d0 d1 e0 e1 g0 g1 f0 h1 h2 h3 h4 
      generalize (wc.setCell ⟨w.heap.size + 1 + 1, 0, none⟩ (.int .i64 k)).setCell ⟨w.heap.size + 1 + 1, 1, none⟩ (.int .u64 (x : Int)) = wf at *
      have z0 : wf.cell? ⟨w.heap.size + 1 + 1, 0, none⟩ = some (.int .i64 k) := blk_cell hfin 0
      have z1 : wf.cell? ⟨w.heap.size + 1 + 1, 1, none⟩ = some (.int .u64 (x : Int)) := blk_cell hfin 1
      exact bodyPost_ret (v := lab k x) (by simp [results, Try.results19, go_sem, z0, z1]) rfl ⟨rfl, hbf⟩
    · obtain rfl : k = m := by omega
      clear hk
      have hgn : g ≠ w.heap.size + 1 + 1 := by omega
      have HKg := Lib.hid ((blk_far (w := wc) (i := 0) (fun e => hgn e.symm) (.int .i64 k)).trans HK.out)
      have p0 : (wc.setCell ⟨g, 0, none⟩ (.int .i64 k)).cell? ⟨w.heap.size + 1 + 1, 0, none⟩ = some (.int .i64 0) := (res_cells ((blk_far (fun e => hgn e.symm) _).trans HK.out)).1
      have p1 : (wc.setCell ⟨g, 0, none⟩ (.int .i64 k)).cell? ⟨w.heap.size + 1 + 1, 1, none⟩ = some (.int .u64 0) := (res_cells ((blk_far (fun e => hgn e.symm) _).trans HK.out)).2
      have r0 : (wc.setCell ⟨g, 0, none⟩ (.int .i64 k)).cell? ⟨g, 0, none⟩ = some (.int .i64 k) := blk_cell (blk_set HG.out 0 _) 0
      have r1 : (wc.setCell ⟨g, 0, none⟩ (.int .i64 k)).cell? ⟨g, 1, none⟩ = some (.int .u64 (x : Int)) := blk_cell (blk_set HG.out 0 _) 1
      have q2 : (wc.setCell ⟨g, 0, none⟩ (.int .i64 k)).frozen? ⟨w.heap.size + 1 + 1, 0, none⟩ = false := blk_free ((blk_far (fun e => hgn e.symm) _).trans HK.out) 0
      have q3 : (wc.setCell ⟨g, 0, none⟩ (.int .i64 k)).frozen? ⟨w.heap.size + 1 + 1, 1, none⟩ = false := blk_free ((blk_far (fun e => hgn e.symm) _).trans HK.out) 1
      go_wp2_with fail
      have hfin := blk_set (blk_set HKg.out 0 (.int .i64 k)) 1 (.int .u64 (x : Int))
      have hbf := ((hbel.setCell (p := ⟨g, 0, none⟩) (by show w.heap.size ≤ g; omega) (.int .i64 k)).setCell (p := ⟨w.heap.size + 1 + 1, 0, none⟩) (by show w.heap.size ≤ w.heap.size + 1 + 1; omega) (.int .i64 k)).setCell (p := ⟨w.heap.size + 1 + 1, 1, none⟩) (by show w.heap.size ≤ w.heap.size + 1 + 1; omega) (.int .u64 (x : Int))
      clear d0 d1 e0 e1 g0 g1 f0 h1 h2 h3 h4 p0 p1 r0 r1 q2 q3
      generalize ((wc.setCell ⟨g, 0, none⟩ (.int .i64 k)).setCell ⟨w.heap.size + 1 + 1, 0, none⟩ (.int .i64 k)).setCell ⟨w.heap.size + 1 + 1, 1, none⟩ (.int .u64 (x : Int)) = wf at *
      have z0 : wf.cell? ⟨w.heap.size + 1 + 1, 0, none⟩ = some (.int .i64 k) := blk_cell hfin 0
      have z1 : wf.cell? ⟨w.heap.size + 1 + 1, 1, none⟩ = some (.int .u64 (x : Int)) := blk_cell hfin 1
      exact bodyPost_ret (v := lab k x) (by simp [results, Try.results19, go_sem, z0, z1]) rfl ⟨rfl, hbf⟩

theorem refJoin_any (l m : Int) (c d : Nat) (w : World) (hc : c < 18446744073709551616) (hd : d < 18446744073709551616) :
    Calls Try.prog 19 #[lab l c, lab m d] w fun e w' => e = .returned (lab (max l m) (c ||| d)) ∧ Below w.heap.size w w' :=
  refJoin_walk l m _ c d _ w rfl (Lib.hid fun w => pick_any l m c d false w hc hd)
end Go.Proofs.Ytlkfmaeillnhhaa.L
