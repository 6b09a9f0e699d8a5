/-
  end and begin: a hunk that is ended, and one that begins.
-/
import Derived.Test.YtimalohdchhjgaaGhb
namespace Go.Proofs.Ytimalohdchhjgaa.H
set_option linter.unusedVariables false
set_option linter.unusedSimpArgs false
open Go.RowKit
open T S
open V (grown_of)
open I (alloc1 own_at own_below)
open N (Ln)

theorem lines_drop {w : World} {k off : Nat} {l : List Ln} (h : LinesIn w (some ⟨k, off, none⟩) l) (n : Nat) : LinesIn w (some ⟨k, off + n * 2, none⟩) (l.drop n) := fun hp => by
  rw [List.length_drop] at hp
  obtain ⟨bk, o, e, hlt, hI⟩ := h (by omega)
  obtain ⟨rfl, rfl⟩ : k = bk ∧ off = o := by injection e with e; injection e with e1 e2; exact ⟨e1, e2⟩
  refine ⟨k, off + n * 2, rfl, hlt, fun j hj => ?_⟩
  rw [List.length_drop] at hj
  rw [List.getElem_drop]
  have := hI (n + j) (by omega)
  rw [show off + (n + j) * 2 = off + n * 2 + j * 2 by omega] at this
  exact this
/-- What end comes to. -/
def EnEnd (w0 : World) (base bb : Nat) (vh : Value) (c a b : Nat) (ys : List Hr) (h : Hk) (l : List Ln) (e : Ending) (w' : World) : Prop :=
  ∃ A lc, e = .returned (.slice A (l.drop c).length lc) ∧ LinesIn w0 A (l.drop c) ∧ (l.drop c).length ≤ lc ∧ (A = none → lc = 0) ∧ ∃ x' : Hr, x'.h = putH 1 (l.take c) h ∧ Bd w0 w' base bb vh c false (a + (l.take c).length) (b + (l.take c).length) (ys ++ [x'])
set_option maxRecDepth 100000 in
set_option maxHeartbeats 4000000 in
theorem end_any (w0 w : World) (base bb c a b : Nat) (vh : Value) (op : Bool) (ys : List Hr) (x : Hr) (LA : Option Addr) (lc : Nat) (l : List Ln) (hD : Bd w0 w base bb vh c op a b (ys ++ [x]))
    (hL : LinesIn w0 LA l) (hlc : l.length ≤ lc) (hz : LA = none → lc = 0) (h1 : ys.length ≤ 100000) (h2 : x.rs.length ≤ 100000) (h3 : a ≤ 100000) (h4 : b ≤ 100000) (h5 : l.length ≤ 100000) (h6 : 0 ≤ x.h.o ∧ x.h.o ≤ 100000) (h7 : 0 ≤ x.h.n ∧ x.h.n ≤ 100000) (hl : l ≠ []) :
    Calls Try.prog 41 #[.pointer (some ⟨bb, 0, none⟩), .slice LA l.length lc] w (EnEnd w0 base bb vh c a b ys x.h l) := by
  have hp : 0 < l.length := List.length_pos_iff.2 hl
  obtain ⟨k, off, rfl, -, -⟩ := hL hp
  obtain ⟨m, hm⟩ : ∃ m, m = (l.take c).length := ⟨_, rfl⟩
  have hml : m = min c l.length := by rw [hm, List.length_take]
  have hmin : min (c : Int) (l.length : Int) = (m : Int) := by omega
  have hmle : m ≤ l.length := by omega
  have HPT := Lib.hid (put_any w0 w base bb c a b vh op ys x 1 (some ⟨k, off, none⟩) m (l.take c) hD (lines_take hL c) (by omega) (fun e => by cases e) h1 h2 h3 h4 (by omega) h6 h7)
  rw [← hm] at HPT
  have HD := Lib.hid hD
  have HL := Lib.hid hL
  have cc : w.cell? ⟨bb, 0, none⟩ = some (.int .i64 (c : Int)) := L.blk_cell hD.blk 0
  unfold EnEnd
  have hld : (l.drop c).length = l.length - m := by rw [List.length_drop]; omega
  have HDR : Hid (l.drop c = l.drop m) := Lib.hid (by
    by_cases hc : c ≤ l.length
    · rw [show m = c by omega]
    · rw [List.drop_eq_nil_of_le (by omega), List.drop_eq_nil_of_le (by omega)])
  rw [hld, ← hm]
  obtain ⟨n, hn⟩ : ∃ n, n = l.length := ⟨_, rfl⟩
  have HN := Lib.hid hn
  rw [← hn] at hlc hmin hmle h5 ⊢
  clear hm hml hD hL hz hp hl hn hld h1 h2 h6 h7
  have h0m : (0 : Int) ≤ (m : Int) := by omega
  have hmn : (m : Int) ≤ (n : Int) := by omega
  have hmc : (m : Int) ≤ (lc : Int) := by omega
  have hnc : (n : Int) ≤ (lc : Int) := by omega
  go_enter Try.func41, Try.ntmps41
  go_wp2_with fail
  with_reducible refine (HPT.out).mono ?_
  rintro e w2 ⟨rfl, ⟨x', hx', hD2⟩, -⟩
  have e1 : lenO 1 (l.take c) = m := by rw [show lenO 1 (l.take c) = (l.take c).length from rfl, List.length_take, ← HN.out]; omega
  have e2 : lenN 1 (l.take c) = m := by rw [show lenN 1 (l.take c) = (l.take c).length from rfl, List.length_take, ← HN.out]; omega
  rw [e1, e2] at hD2
  have HD2 := Lib.hid hD2
  have HX := Lib.hid hx'
  have zb : w2.frozen? ⟨bb, 2, none⟩ = false := L.blk_free hD2.blk 2
  have cb : w2.cell? ⟨bb, 2, none⟩ = some (.bool op) := L.blk_cell hD2.blk 2
  have HD3 := Lib.hid (hD2.setB (op' := false) 2 (.bool false) rfl)
  clear hx' hD2 e1 e2 HPT
  by_cases hcm : lc = m
  · subst hcm
    go_wp2_with fail
    go_ret
    exact ⟨some ⟨k, off, none⟩, 0, by rw [show n - lc = 0 by omega]; rfl, by rw [HDR.out, List.drop_eq_nil_of_le (by have := HN.out; omega)]; exact fun h => absurd h (by simp), by omega, (fun e => by cases e), x', HX.out, HD3.out⟩
  · go_wp2_with fail
    go_ret
    exact ⟨some ⟨k, off + m * 2, none⟩, lc - m, rfl, by rw [HDR.out]; exact lines_drop HL.out m, by omega, (fun e => by cases e), x', HX.out, HD3.out⟩

/-- What stays when a hunk begins. -/
def Fr (w w' : World) (bb : Nat) (vh : Value) : Prop := ∀ k, k < w.heap.size → k ≠ bb → vh.ownBlock ≠ some k → w'.heap[k]? = w.heap[k]?
/-- What begin comes to. -/
def BgEnd (w0 w : World) (base bb c a b : Nat) (vh0 : Value) (xs : List Hr) (l : List Ln) (e : Ending) (w' : World) : Prop :=
  e = .returned (.tuple #[]) ∧ (∃ (vh : Value) (x' : Hr), x'.h = putH 1 (l.drop (l.length - c)) (newH (a + (l.length - c)) (b + (l.length - c))) ∧ Bd w0 w' base bb vh c true (a + l.length) (b + l.length) (xs ++ [x'])) ∧ (l = [] → Fr w w' bb vh0)
set_option maxRecDepth 100000 in
set_option maxHeartbeats 4000000 in
theorem begin_any (w0 w : World) (base bb c a b : Nat) (vh : Value) (op : Bool) (xs : List Hr) (LA : Option Addr) (lc : Nat) (l : List Ln) (hD : Bd w0 w base bb vh c op a b xs)
    (hL : LinesIn w0 LA l) (hlc : l.length ≤ lc) (hz : l = [] → LA = none ∧ lc = 0) (h1 : xs.length ≤ 100000) (h3 : a ≤ 50000) (h4 : b ≤ 50000) (h5 : l.length ≤ 50000) (hc : c ≤ 100000) :
    Calls Try.prog 42 #[.pointer (some ⟨bb, 0, none⟩), .slice LA l.length lc] w (BgEnd w0 w base bb c a b vh xs l) := by
  obtain ⟨i0, hi0, hz0, hz1, hz2⟩ := info_parts infoHunk
  obtain ⟨m, hm⟩ : ∃ m, m = l.length - c := ⟨_, rfl⟩
  have hw1 : IntKind.i64.wrap ((l.length : Int) - (c : Int)) = (l.length : Int) - (c : Int) := by rw [IntKind.wrap_i64]; omega
  have hmax : max (0 : Int) ((l.length : Int) - (c : Int)) = (m : Int) := by omega
  have hmle : m ≤ l.length := by omega
  have hwa : IntKind.i64.wrap ((a : Int) + (m : Int)) = (a : Int) + (m : Int) := by rw [IntKind.wrap_i64]; omega
  have hwb : IntKind.i64.wrap ((b : Int) + (m : Int)) = (b : Int) + (m : Int) := by rw [IntKind.wrap_i64]; omega
  have HPL : Hid (lenO 1 (l.drop m) = l.length - m ∧ lenN 1 (l.drop m) = l.length - m) := Lib.hid ⟨by show (l.drop m).length = _; rw [List.length_drop], by show (l.drop m).length = _; rw [List.length_drop]⟩
  have HL := Lib.hid (And.intro hL hz)
  unfold BgEnd
  rw [← hm]
  obtain ⟨n, hn⟩ : ∃ n, n = l.length := ⟨_, rfl⟩
  have HN := Lib.hid hn
  rw [← hn] at hlc hmax hmle h5 hw1 HPL ⊢
  have HD := Lib.hid hD
  have c0 : w.cell? ⟨bb, 0, none⟩ = some (.int .i64 (c : Int)) := L.blk_cell hD.blk 0
  have c3 : w.cell? ⟨bb, 3, none⟩ = some (.int .i64 (a : Int)) := L.blk_cell hD.blk 3
  have z3 : w.frozen? ⟨bb, 3, none⟩ = false := L.blk_free hD.blk 3
  obtain ⟨w1, hq1⟩ : ∃ W : World, W = w.setCell ⟨bb, 3, none⟩ (.int .i64 ((a : Int) + (m : Int))) := ⟨_, rfl⟩
  have hD1 := hD.setB (a' := a + m) 3 (.int .i64 ((a : Int) + (m : Int))) (by push_cast; rfl)
  rw [← hq1] at hD1
  have c4 : w1.cell? ⟨bb, 4, none⟩ = some (.int .i64 (b : Int)) := L.blk_cell hD1.blk 4
  have z4 : w1.frozen? ⟨bb, 4, none⟩ = false := L.blk_free hD1.blk 4
  obtain ⟨w2, hq2⟩ : ∃ W : World, W = w1.setCell ⟨bb, 4, none⟩ (.int .i64 ((b : Int) + (m : Int))) := ⟨_, rfl⟩
  have hD2 := hD1.setB (b' := b + m) 4 (.int .i64 ((b : Int) + (m : Int))) (by push_cast; rfl)
  rw [← hq2] at hD2
  have HD2 := Lib.hid hD2
  have HFR : Hid (w2.heap.size = w.heap.size ∧ ∀ k, k ≠ bb → w2.heap[k]? = w.heap[k]?) := Lib.hid ⟨by rw [hq2, hq1]; simp [World.setCell], fun k hk => by rw [hq2, hq1]; exact (L.blk_far hk _).trans (L.blk_far hk _)⟩
  clear hm hD hL hz hn hD1 hD2
  have h0m : (0 : Int) ≤ (m : Int) := by omega
  have hmn : (m : Int) ≤ (n : Int) := by omega
  have hnc : (n : Int) ≤ (lc : Int) := by omega
  go_enter Try.func42, Try.ntmps42
  go_upto_region 2 with fail
  rw [← hq1]
  clear hq1 c0 c3 z3 HD
  go_upto_region 3 with fail
  rw [← hq2]
  clear hq2 c4 z4
  obtain ⟨vA, vcap, rfl, -, -⟩ := own_form HD2.out.s.own
  obtain ⟨q, hq⟩ : ∃ n, n = xs.length := ⟨_, rfl⟩
  have HQ := Lib.hid hq
  have HQL : Hid (xs.length ≤ 100000) := Lib.hid h1
  rw [← hq] at HD2 h1
  clear hq
  obtain ⟨X0, hX0⟩ : ∃ X0 : List Value, X0 = hrCells xs := ⟨_, rfl⟩
  have HX0 := Lib.hid hX0
  go_cut [] (fun wx => ∃ vh2, Hid (Bd w0 wx base bb vh2 c op (a + m) (b + m) (xs ++ [Hr.mk (newH (a + m) (b + m)) none 0 []])) ∧ Hid (∀ k, k < w.heap.size → k ≠ bb → (Value.slice vA q vcap).ownBlock ≠ some k → wx.heap[k]? = w.heap[k]?))
  case first =>
    have hcf : w2.cell? ⟨bb, 1, none⟩ = some (.slice vA q vcap) := L.blk_cell HD2.out.blk 1
    have hzf : w2.frozen? ⟨bb, 1, none⟩ = false := L.blk_free HD2.out.blk 1
    have ca : w2.cell? ⟨bb, 3, none⟩ = some (.int .i64 ((a : Int) + (m : Int))) := by have := L.blk_cell HD2.out.blk 3; push_cast at this; exact this
    have cb : w2.cell? ⟨bb, 4, none⟩ = some (.int .i64 ((b : Int) + (m : Int))) := by have := L.blk_cell HD2.out.blk 4; push_cast at this; exact this
    obtain ⟨ia, hia⟩ : ∃ ia : Int, ia = (a : Int) + (m : Int) := ⟨_, rfl⟩
    obtain ⟨ib, hib⟩ : ∃ ib : Int, ib = (b : Int) + (m : Int) := ⟨_, rfl⟩
    have HIA : Hid (((a + m : Nat) : Int) = ia) := Lib.hid (by push_cast; exact hia.symm)
    have HIB : Hid (((b + m : Nat) : Int) = ib) := Lib.hid (by push_cast; exact hib.symm)
    rw [← hia] at ca
    rw [← hib] at cb
    clear hia hib
    have HOA : Hid ((w2.alloc (.cells #[.int .i64 ia, .int .i64 0, .int .i64 ib, .int .i64 0, .slice none 0 0] 44)).drew.ownsRow base 44 5 (.slice vA q vcap) q X0) := Lib.hid (by
      have h0 := HD2.out.s.own
      rw [← HQ.out, ← hX0] at h0
      exact World.ownsRow.alloc h0 _)
    have HNW := Lib.hid (World.news_of_block (w := (w2.alloc (.cells #[.int .i64 ia, .int .i64 0, .int .i64 ib, .int .i64 0, .slice none 0 0] 44)).drew) (heap_alloc_new w2 _))
    have H1C : Hid (∀ u ∈ ([.int .i64 ia, .int .i64 0, .int .i64 ib, .int .i64 0, .slice none 0 0] : List Value), u.oneCell' = true) := Lib.hid (by intro u hu; simp only [List.mem_cons, List.not_mem_nil, or_false] at hu; rcases hu with rfl | rfl | rfl | rfl | rfl <;> rfl)
    have HRT : Hid (some bb ≠ (Value.slice vA q vcap).ownBlock) := Lib.hid fun e => own_type HD2.out.s.own HD2.out.blk (by decide) e.symm
    have hrl : bb < w2.heap.size := L.blk_lt HD2.out.blk
    have hbw : base ≤ w2.heap.size := HD2.out.s.hs
    clear hX0 hwa hwb
    go_region_law ((refine step_append_lies _ (by rfl) (.tmp 33) (.tmp 43) 25 (by rfl) base 44 i0 _ 5 56 Try.underlying25 hi0 hz0 hz1 hz2 rfl (by decide) (.slice vA q vcap) q X0 (by rfl) HOA.out ⟨w2.heap.size, 0, none⟩ 1 1 [.int .i64 ia, .int .i64 0, .int .i64 ib, .int .i64 0, .slice none 0 0] (by rfl) rfl HNW.out H1C.out (by omega) (by unfold maxLen; omega) (by omega) (by simp; omega) _ rfl ?_; intro g3 cap3 w4 hown3 hgrow3 hat3 hlt3; have hc3 := hgrow3.cell_far ⟨bb, 1, none⟩ (by simp; omega) HRT.out; have hz3 := hgrow3.frozen_far ⟨bb, 1, none⟩ (by simp; omega) HRT.out))
    all_goals
      have hg4 : w2.grownBy w4 (Value.slice vA q vcap).ownBlock := (grown_of ((alloc1 w2 _).drew) _).trans hgrow3
      have ho4 : w4.ownsRow base 44 5 (.slice (some ⟨g3, 0, none⟩) (q + 1) cap3) (xs ++ [Hr.mk (newH (a + m) (b + m)) none 0 []]).length (hrCells (xs ++ [Hr.mk (newH (a + m) (b + m)) none 0 []])) := by
        rw [hrCells_app, hrCells_one, ← HX0.out, List.length_append, ← HQ.out]
        have e : hrCell (Hr.mk (newH (a + m) (b + m)) none 0 []) = [.int .i64 ia, .int .i64 0, .int .i64 ib, .int .i64 0, .slice none 0 0] := by
          rw [← HIA.out, ← HIB.out]
          simp [hrCell, newH, Hr.v]
        rw [e]
        exact hown3
      have HFK : Hid (∀ k, k < w.heap.size → k ≠ bb → (Value.slice vA q vcap).ownBlock ≠ some k → (w4.setCell ⟨bb, 1, none⟩ (.slice (some ⟨g3, 0, none⟩) (q + 1) cap3)).heap[k]? = w.heap[k]?) := Lib.hid (fun k hk h1 h2 => (L.blk_far h1 _).trans ((hg4.block k (by rw [HFR.out.1]; exact hk) (fun e => h2 e.symm)).trans (HFR.out.2 k h1)))
      have HPL4 := Lib.hid (HD2.out.add hg4 (newH (a + m) (b + m)) rfl ho4)
      clear ho4 hown3 hgrow3 hat3 hg4
      go_wp2_with fail
      go_meet
      case rel => exact ⟨_, HPL4, HFK⟩
  case rest =>
  obtain ⟨vh2, HD3, HFK⟩ := hcut
  clear HD2 HX0 hX0
  generalize wc = w5 at *
  have cb : w5.cell? ⟨bb, 2, none⟩ = some (.bool op) := L.blk_cell HD3.out.blk 2
  have zb : w5.frozen? ⟨bb, 2, none⟩ = false := L.blk_free HD3.out.blk 2
  obtain ⟨w6, hw6⟩ : ∃ W : World, W = w5.setCell ⟨bb, 2, none⟩ (.bool true) := ⟨_, rfl⟩
  have HD6 : Hid (Bd w0 w6 base bb vh2 c true (a + m) (b + m) (xs ++ [Hr.mk (newH (a + m) (b + m)) none 0 []])) := Lib.hid (by rw [hw6]; exact HD3.out.setB (op' := true) 2 (.bool true) rfl)
  have HPT := fun (A : Option Addr) (hL : LinesIn w0 A (l.drop m)) (hz : A = none → n - m = 0) => put_any w0 w6 base bb c (a + m) (b + m) vh2 true xs (Hr.mk (newH (a + m) (b + m)) none 0 []) 1 A (n - m) (l.drop m) HD6.out hL (by rw [List.length_drop]; have := HN.out; omega) hz (by have := HQL.out; omega) (Nat.zero_le _) (by omega) (by omega) (by rw [List.length_drop]; have := HN.out; omega) (by simp [newH]) (by simp [newH])
  have HPT := Lib.hid HPT
  have HDL : Hid ((l.drop m).length = n - m) := Lib.hid (by rw [List.length_drop, ← HN.out])
  rw [HDL.out] at HPT
  go_upto_region 5 with fail
  rw [← hw6]
  have HFK6 : Hid (∀ k, k < w.heap.size → k ≠ bb → (Value.slice vA q vcap).ownBlock ≠ some k → w6.heap[k]? = w.heap[k]?) := Lib.hid (fun k hk h1 h2 => by rw [hw6]; exact (L.blk_far h1 _).trans (HFK.out k hk h1 h2))
  clear hw6 cb zb HD3 HD6 HFK
  have fin : ∀ (e : Ending) (w' : World), PtEnd w0 w6 base bb vh2 c true (a + m) (b + m) xs (newH (a + m) (b + m)) 1 (l.drop m) e w' → e = .returned (.tuple #[]) ∧ (∃ (vh : Value) (x' : Hr), x'.h = putH 1 (l.drop m) (newH (a + m) (b + m)) ∧ Bd w0 w' base bb vh c true (a + n) (b + n) (xs ++ [x'])) ∧ (l = [] → Fr w w' bb (.slice vA xs.length vcap)) := fun e w' h => by
    obtain ⟨h1, ⟨x', h2, h3⟩, h4⟩ := h
    rw [HPL.out.1, HPL.out.2, show a + m + (n - m) = a + n by omega, show b + m + (n - m) = b + n by omega] at h3
    exact ⟨h1, ⟨vh2, x', h2, h3⟩, fun e => by rw [h4 (by rw [e]; simp), ← HQ.out]; exact HFK6.out⟩
  have FIN := Lib.hid fin
  clear fin
  by_cases hl : l = []
  · obtain ⟨rfl, rfl⟩ := HL.out.2 hl
    obtain rfl : n = 0 := by omega
    obtain rfl : m = 0 := by omega
    have HP := Lib.hid (HPT.out none (fun h => absurd h (by rw [HDL.out]; simp)) (fun _ => rfl))
    clear HPT
    go_wp2_with fail
    with_reducible refine (HP.out).mono ?_
    rintro e w7 h7
    obtain ⟨rfl, h8⟩ := FIN.out e w7 h7
    go_wp2_with fail
    go_end0
    exact ⟨rfl, h8⟩
  · obtain ⟨k, off, rfl, -, -⟩ := HL.out.1 (List.length_pos_iff.2 hl)
    by_cases hmn2 : m = n
    · subst hmn2
      have HP := Lib.hid (HPT.out (some ⟨k, off, none⟩) (fun h => absurd h (by rw [HDL.out]; simp)) (fun e => by cases e))
      rw [Nat.sub_self] at HP
      clear HPT
      go_wp2_with fail
      with_reducible refine (HP.out).mono ?_
      rintro e w7 h7
      obtain ⟨rfl, h8⟩ := FIN.out e w7 h7
      go_wp2_with fail
      go_end0
      exact ⟨rfl, h8⟩
    · have hnm : ¬ n = m := fun e => hmn2 e.symm
      have HP := Lib.hid (HPT.out (some ⟨k, off + m * 2, none⟩) (lines_drop HL.out.1 m) (fun e => by cases e))
      clear HPT
      go_wp2_with fail
      with_reducible refine (HP.out).mono ?_
      rintro e w7 h7
      obtain ⟨rfl, h8⟩ := FIN.out e w7 h7
      go_wp2_with fail
      go_end0
      exact ⟨rfl, h8⟩
end Go.Proofs.Ytimalohdchhjgaa.H
