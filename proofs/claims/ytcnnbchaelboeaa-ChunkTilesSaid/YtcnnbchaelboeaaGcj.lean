/-
  The contract of chunk's Of.
-/
import Derived.Test.YtcnnbchaelboeaaGci
namespace Go.Proofs.Ytcnnbchaelboeaa.Ck
set_option linter.unusedVariables false
set_option linter.unusedSimpArgs false
open Go.RowKit Go.Shelf
open T
open Mt (Pr fnd Rt right right_iff)
open N (PrIn PrIn.below)
open V (drawn_below grown_of boxed_le Tells CalmAt range_cells wpListIn_lies)
open I (alloc1)
attribute [local go_sem] Oper.semAt_some

def ckCells (l : List Ck) : List Value := l.flatMap fun c => [.bool c.st, .int .i64 c.o, .int .i64 c.on, .int .i64 c.a, .int .i64 c.an, .int .i64 c.b, .int .i64 c.bn]
theorem ckCells_snoc (l : List Ck) (c : Ck) : ckCells (l ++ [c]) = ckCells l ++ [.bool c.st, .int .i64 c.o, .int .i64 c.on, .int .i64 c.a, .int .i64 c.an, .int .i64 c.b, .int .i64 c.bn] := by simp [ckCells]
theorem infoCk : (Try.prog.info? 35).map (fun i => (i.zero, i.size, i.bytes)) = some (some (.agg #[.bool false, .int .i64 0, .int .i64 0, .int .i64 0, .int .i64 0, .int .i64 0, .int .i64 0]), 7, 56) := by kernel_rfl
theorem walk_in (n : Nat) (A B : Option Addr) (la ca lb cb : Nat) (x y z : Int) (w : World) :
    CallsIn Fence.wide n Try.prog 23 #[.slice A la ca, .slice B lb cb, .agg #[.int .i64 x, .int .i64 y, .int .i64 z]] w fun e w' => e = .returned (.func (.func 26) #[] #[.pointer (some ⟨w.heap.size + 1 + 1, 0, none⟩), .pointer (some ⟨w.heap.size, 0, none⟩), .pointer (some ⟨w.heap.size + 1, 0, none⟩)]) ∧
      w' = ((w.alloc (.cells #[.slice A la ca] 22)).alloc (.cells #[.slice B lb cb] 22)).alloc (.cells #[.int .i64 x, .int .i64 y, .int .i64 z] 47) := by
  refine callsIn_of_wp Try.func23 rfl trivial ?_ rfl
  simp only [Try.ntmps23, List.size_toArray, List.length_cons, List.length_nil, Nat.reduceAdd, Nat.reduceSub, Array.replicate_succ, Array.replicate_zero, List.push_toArray, List.append_toArray, List.nil_append, List.cons_append]
  gi_wp2
  go_ret
  exact ⟨rfl, rfl⟩
theorem walk_tells (n : Nat) (hn : 6 ≤ n) (Be Ba Bb X n₀ ca cb N : Nat) (A B : Option Addr) (p q : List Pr) (en : Tr) (hf : Fine p q) (hp : Rt p en.1 en.2.1) (hq : Rt q en.1 en.2.2) (hen : Okt en) (hen0 : Le3 (0, 0, 0) en) (hN : (walk p q en (0, 0, 0)).length ≤ N) (w : World)
    (hn₀ : n₀ ≤ w.heap.size) (hX : w.heap[X]? = some (.cells #[.slice none 0 0] 24 (0, 0))) (hBe : w.heap[Be]? = some (.cells #[.int .i64 en.1, .int .i64 en.2.1, .int .i64 en.2.2] 47 (0, 0))) (hBa : w.heap[Ba]? = some (.cells #[.slice A p.length ca] 22 (0, 0))) (hBb : w.heap[Bb]? = some (.cells #[.slice B q.length cb] 22 (0, 0)))
    (hA : PrLow w n₀ A p) (hB : PrLow w n₀ B q) : Tells n Try.prog 26 #[.pointer (some ⟨Be, 0, none⟩), .pointer (some ⟨Ba, 0, none⟩), .pointer (some ⟨Bb, 0, none⟩)] (fun c : Ck => #[ckV c]) (KpX n₀ X) (fun ys => ys = walk p q en (0, 0, 0)) N 47 w := fun lp J W hW hJ hC hY h0 => by
  have hsz := hW.size
  exact walk1_in n hn lp Be Ba Bb X n₀ ca cb N A B p q en hf hp hq hen hen0 hN J W hJ hC hY (by omega) (by have := L.blk_lt hX; omega) (fun g hg => by
    obtain ⟨v, h1, h2⟩ := hg.old (L.blk_lt hX) hW
    rw [boxed_cell hX] at h1
    injection h1 with h1
    subst h1
    cases h2) ((hW.block Be (L.blk_lt hBe)).trans hBe) ((hW.block Ba (L.blk_lt hBa)).trans hBa) ((hW.block Bb (L.blk_lt hBb)).trans hBb) (hA.kept (hW.mono hn₀)) (hB.kept (hW.mono hn₀)) h0
def CkEnd (w : World) (l : List Ck) (z : Int) (e : Ending) (w' : World) : Prop := ∃ C cc, e = .returned (.tuple #[.slice C l.length cc, .int .i64 z]) ∧ w'.ownsRow w.heap.size 35 7 (.slice C l.length cc) l.length (ckCells l) ∧ Below w.heap.size w w'
def nth3 (o a b : Int) (k : Nat) : Int := if k = 0 then o else if k = 1 then a else b
theorem fine_of {p q : List Pr} {o a b : Int} (hp : Rt p o a) (hq : Rt q o b) (ho : bound o) (ha : bound a) (hb : bound b) (h1 : p.length ≤ 1000) (h2 : q.length ≤ 1000) : Fine p q :=
  ⟨hp.up.imp fun h => h.1, hq.up.imp fun h => h.1, h1, h2, fun z hz => by have := hp.all z hz; unfold bound at *; omega, fun z hz => by have := hq.all z hz; unfold bound at *; omega⟩
theorem bad3 {o a b : Int} {k : Nat} (hk : k < 3) (h : ¬ bound (nth3 o a b k)) (p q : List Pr) : chunks p q o a b = [] ∧ err p q o a b = 2 := by
  have hc : ¬ can p q o a b := fun hc => by
    obtain ⟨⟨h1, h2, h3⟩, -⟩ := hc
    rcases (by omega : k = 0 ∨ k = 1 ∨ k = 2) with rfl | rfl | rfl
    · exact h h1
    · exact h h2
    · exact h h3
  exact ⟨if_neg hc, if_neg hc⟩
theorem bad_right {p q : List Pr} {o a b : Int} (h : ¬ right p o a = true ∨ ¬ right q o b = true) : chunks p q o a b = [] ∧ err p q o a b = 2 := by
  have hc : ¬ can p q o a b := fun hc => by
    rcases h with h | h
    · exact h hc.2.1
    · exact h hc.2.2
  exact ⟨if_neg hc, if_neg hc⟩
theorem of_calm {w : World} {X B : Nat} (hB : w.heap.size ≤ B) : CalmAt B 47 (fun (pre : List Ck) W => (∃ v, Boxed W X 24 v ∧ W.ownsRow (X + 4) 35 7 v pre.length (ckCells pre) ∧ True) ∧ (Below w.heap.size w W ∧ X + 4 ≤ W.heap.size)) := fun s Y p u hs hp hc => by
  obtain ⟨⟨v, h1, h2, -⟩, h3, h4⟩ := hs
  obtain ⟨cs, f, hc⟩ := hc
  have hg := V.grown_set Y p u
  refine ⟨⟨v, V.blk_grown h1 hg (fun e => ?_), h2.kept hg (.inr (V.own_type h2 hc (by decide))), trivial⟩, h3.setCell (by omega) u, by simpa using h4⟩
  injection e with e
  rw [e] at hc
  rw [show Y.heap[X]? = _ from h1] at hc
  injection hc with hc
  injection hc with _ hc
  exact absurd hc (by decide)
set_option maxRecDepth 100000 in
set_option maxHeartbeats 4000000 in
theorem of_in (n : Nat) (hn : 8 ≤ n) (A B : Option Addr) (ca cb : Nat) (p q : List Pr) (o a b : Int) (w : World) (hpl : p.length ≤ 1000) (hql : q.length ≤ 1000) (hqA : PrIn w A p) (hqB : PrIn w B q) :
    CallsIn Fence.wide n Try.prog 10 #[.slice A p.length ca, .slice B q.length cb, .int .i64 o, .int .i64 a, .int .i64 b] w (CkEnd w (chunks p q o a b) (err p q o a b)) := by
  have h1n : 1 ≤ n := by omega
  obtain ⟨i0, hi0, hz0, hz1, hz2⟩ := info_parts infoCk
  obtain ⟨W0, hW0⟩ : ∃ W : World, W = w.alloc (.cells #[.int .i64 o, .int .i64 a, .int .i64 b] 47) := ⟨_, rfl⟩
  have HB0 := Lib.hid (show Below w.heap.size w W0 by rw [hW0]; exact alloc1 _ _)
  have HX0 := Lib.hid (show W0.heap[w.heap.size]? = some (.cells #[.int .i64 o, .int .i64 a, .int .i64 b] 47 (0, 0)) by rw [hW0]; exact heap_alloc_new w _)
  have hs0 : W0.heap.size = w.heap.size + 1 := by rw [hW0]; simp
  refine callsIn_of_wp_marks Try.func10 rfl trivial ?_ rfl
  simp only [Try.ntmps10, List.size_toArray, List.length_cons, List.length_nil, Nat.reduceAdd, Nat.reduceSub, Array.replicate_succ, Array.replicate_zero, List.push_toArray, List.append_toArray, List.nil_append, List.cons_append]
  gi_wp2
  rw [← hW0]
  clear hW0
  gi_loopw [22] (fun x22 wr => ∃ k : Nat, k ≤ 3 ∧ x22 = .int .i64 (k : Int) ∧ wr = W0 ∧ Hid (∀ j, j < k → bound (nth3 o a b j))) (fun x22 _ => 3 - (intOf x22).toNat)
  case atStart => exact ⟨0, by omega, by first | rfl | trivial, by first | rfl | trivial, Lib.hid fun j hj => by omega⟩
  case round =>
    obtain ⟨k, hk, rfl, rfl, HK⟩ := hrel
    by_cases hlt : k < 3
    · have hki : (k : Int) < 3 := by omega
      have hix : ∀ w : World, (Instr.index 47 (.agg #[.int .i64 o, .int .i64 a, .int .i64 b]) (.int .i64 (k : Int))).run Try.prog w = .ok (.int .i64 (nth3 o a b k)) w := fun w => by
        rcases (by omega : k = 0 ∨ k = 1 ∨ k = 2) with rfl | rfl | rfl <;> kernel_rfl
      obtain ⟨x, hx⟩ : ∃ x, x = nth3 o a b k := ⟨_, rfl⟩
      rw [← hx] at hix
      have HXX := Lib.hid hx
      have HKB := Lib.hid (And.intro hk hlt)
      clear hx
      by_cases h1 : x < 0
      · have HV := Lib.hid (bad3 (o := o) (a := a) (b := b) hlt (fun h => by rw [← HXX.out] at h; exact absurd h.1 (by omega)) p q)
        gi_wp2
        refine ⟨.tuple #[.slice none 0 0, .int .i64 2], by simp [results, Try.results10, go_sem], ?_⟩
        rw [HV.out.1, HV.out.2]
        exact ⟨none, 0, rfl, World.ownsRow_nil _ _ _ _, HB0.out⟩
      · by_cases h2 : 400 < x
        · have HV := Lib.hid (bad3 (o := o) (a := a) (b := b) hlt (fun h => by rw [← HXX.out] at h; exact absurd h.2 (by omega)) p q)
          gi_wp2
          refine ⟨.tuple #[.slice none 0 0, .int .i64 2], by simp [results, Try.results10, go_sem], ?_⟩
          rw [HV.out.1, HV.out.2]
          exact ⟨none, 0, rfl, World.ownsRow_nil _ _ _ _, HB0.out⟩
        · have HKN : Hid (∀ j, j < k + 1 → bound (nth3 o a b j)) := Lib.hid (fun j hj => by
            rcases Nat.lt_or_eq_of_le (show j ≤ k by omega) with h | h
            · exact HK.out j h
            · subst h; rw [← HXX.out]; exact ⟨by omega, by omega⟩)
          gi_wp2
          go_roundw
          case rel => exact ⟨k + 1, by omega, by go_num, by first | rfl | trivial, HKN⟩
          case measure => simp [intOf]; omega
    · obtain rfl : k = 3 := by omega
      have HBD := Lib.hid (show bound o ∧ bound a ∧ bound b from ⟨HK.out 0 (by omega), HK.out 1 (by omega), HK.out 2 (by omega)⟩)
      have HRA := Lib.hid (fun (w1 : World) (h : Below w.heap.size w w1) => callsIn_wide (n := n - 1).2 (Mt.right_any A ca p o a w1 (hqA.below h) (by unfold maxLen; omega)))
      have HRB := Lib.hid (fun (w1 : World) (h : Below w.heap.size w w1) => callsIn_wide (n := n - 1).2 (Mt.right_any B cb q o b w1 (hqB.below h) (by unfold maxLen; omega)))
      clear hk hlt HK
      by_cases h1 : right p o a = true
      · rw [h1] at HRA
        by_cases h2 : right q o b = true
        · rw [h2] at HRB
          have HCN := Lib.hid (show can p q o a b from ⟨HBD.out, h1, h2⟩)
          have HRT := Lib.hid (And.intro (right_iff.1 h1) (right_iff.1 h2))
          gi_wp2
          refine ⟨trivial, ?_⟩
          refine (HRA.out _ HB0.out).mono ?_
          rintro e w2 ⟨rfl, hb2⟩
          have HB2 := Lib.hid (HB0.out.trans (hb2.mono HB0.out.size))
          have HX2 := Lib.hid ((hb2.block _ (L.blk_lt HX0.out)).trans HX0.out)
          clear hb2
          gi_wp2
          refine ⟨trivial, ?_⟩
          refine (HRB.out _ HB2.out).mono ?_
          rintro e w3 ⟨rfl, hb3⟩
          have HB3 := Lib.hid (HB2.out.trans (hb3.mono HB2.out.size))
          have HX3 := Lib.hid ((hb3.block _ (L.blk_lt HX2.out)).trans HX2.out)
          clear hb3 HB2 HX2 HB0 HX0 hs0
          have hx3 := HX3.out
          have q0 := L.blk_cell (Below.heap_alloc w3 (.cells #[.slice none 0 0] 24) w.heap.size (L.blk_lt hx3) |>.trans hx3) 0
          have q1 := L.blk_cell (Below.heap_alloc w3 (.cells #[.slice none 0 0] 24) w.heap.size (L.blk_lt hx3) |>.trans hx3) 1
          have q2 := L.blk_cell (Below.heap_alloc w3 (.cells #[.slice none 0 0] 24) w.heap.size (L.blk_lt hx3) |>.trans hx3) 2
          simp only [List.getElem?_toArray, List.getElem?_cons_zero, List.getElem?_cons_succ] at q0 q1 q2
          have hlt3 := L.blk_lt hx3
          clear hx3
          obtain ⟨W4, hW4⟩ : ∃ W : World, W = (((w3.alloc (.cells #[.slice none 0 0] 24)).alloc (.cells #[.slice A p.length ca] 22)).alloc (.cells #[.slice B q.length cb] 22)).alloc (.cells #[.int .i64 o, .int .i64 a, .int .i64 b] 47) := ⟨_, rfl⟩
          have HM : Hid (W4.heap.size = w3.heap.size + 1 + 1 + 1 + 1 ∧ Below w3.heap.size w3 W4 ∧ W4.heap[w3.heap.size]? = some (.cells #[.slice none 0 0] 24 (0, 0)) ∧ W4.heap[w3.heap.size + 1]? = some (.cells #[.slice A p.length ca] 22 (0, 0)) ∧ W4.heap[w3.heap.size + 1 + 1]? = some (.cells #[.slice B q.length cb] 22 (0, 0)) ∧ W4.heap[w3.heap.size + 1 + 1 + 1]? = some (.cells #[.int .i64 o, .int .i64 a, .int .i64 b] 47 (0, 0))) := Lib.hid (by
            rw [hW4]
            refine ⟨by simp, (((alloc1 _ _).alloc (by simp) _).alloc (by simp; omega) _).alloc (by simp; omega) _, ?_, ?_, ?_, ?_⟩
            · exact V.alloc_old _ (V.alloc_old _ (V.alloc_old _ (V.alloc_at _ rfl)))
            · exact V.alloc_old _ (V.alloc_old _ (V.alloc_at _ (by simp)))
            · exact V.alloc_old _ (V.alloc_at _ (by simp))
            · exact V.alloc_at _ (by simp))
          gi_wp2
          refine ⟨trivial, ?_⟩
          refine (walk_in (n - 1) A B p.length ca q.length cb o a b _).mono ?_
          rintro e w5 ⟨rfl, hw5⟩
          rw [← hW4] at hw5
          subst hw5
          clear hW4 q0 q1 q2
          simp only [World.size_alloc]
          obtain ⟨hz5, hb5, k1, k2, k3, k4⟩ := HM.out
          have HW5 := Lib.hid (HB3.out.trans (hb5.mono HB3.out.size))
          have hs3 := HB3.out.size
          obtain ⟨X, hX⟩ : ∃ X, X = w3.heap.size := ⟨_, rfl⟩
          rw [← hX] at hz5 k1 k2 k3 k4 hs3 ⊢
          clear HM hb5 HX3 HB3 hX hlt3
          have HPA := Lib.hid ((PrLow.of hqA).kept HW5.out)
          have HPB := Lib.hid ((PrLow.of hqB).kept HW5.out)
          have HFN := Lib.hid (fine_of HRT.out.1 HRT.out.2 HBD.out.1 HBD.out.2.1 HBD.out.2.2 hpl hql)
          have HEN := Lib.hid (show Okt (o, a, b) ∧ Le3 (0, 0, 0) (o, a, b) from ⟨⟨⟨HBD.out.1.1, Int.le_trans HBD.out.1.2 (by decide)⟩, ⟨HBD.out.2.1.1, Int.le_trans HBD.out.2.1.2 (by decide)⟩, ⟨HBD.out.2.2.1, Int.le_trans HBD.out.2.2.2 (by decide)⟩⟩, HBD.out.1.1, HBD.out.2.1.1, HBD.out.2.2.1⟩)
          have HCH := Lib.hid (show chunks p q o a b = walk p q (o, a, b) (0, 0, 0) ∧ err p q o a b = 0 from ⟨if_pos HCN.out, if_pos HCN.out⟩)
          have HLN : Hid ((walk p q (o, a, b) (0, 0, 0)).length ≤ 1200) := Lib.hid (by rw [← HCH.out.1]; exact chunks_len p q o a b)
          gi_wp2
          refine range_cells h1n (gf := 26) (lb := #[.pointer (some ⟨X + 1 + 1 + 1, 0, none⟩), .pointer (some ⟨X + 1, 0, none⟩), .pointer (some ⟨X + 1 + 1, 0, none⟩)]) rfl (enters_of Try.func26 (by kernel_rfl) rfl)
            (walk_tells (n - 1) (by omega) (X + 1 + 1 + 1) (X + 1) (X + 1 + 1) X w.heap.size ca cb 1200 A B p q (o, a, b) HFN.out HRT.out.1 HRT.out.2 HEN.out.1 HEN.out.2 HLN.out w5 (by omega) k1 k4 k2 k3 HPA.out HPB.out) KpX.t (KpX.put (by omega) (by omega)) (fun _ => rfl)
            (fun (pre : List Ck) W => (∃ v, Boxed W X 24 v ∧ W.ownsRow (X + 4) 35 7 v pre.length (ckCells pre) ∧ True) ∧ (Below w.heap.size w W ∧ X + 4 ≤ W.heap.size))
            (OwnFrom.and (Own.from (holdsRow_own (X + 4) X 24 35 7 (fun (pre : List Ck) => pre.length) (fun (pre : List Ck) => ckCells pre) (fun _ _ => True)) _) (OwnFrom.and (ownFrom_below (Nat.le_refl _) (by omega)) (fun _ _ _ _ hs hg _ => boxed_le hs hg)))
            (of_calm (by omega)) ⟨⟨_, k1, World.ownsRow_nil _ _ _ _, trivial⟩, HW5.out, by omega⟩
            (fun (c : Ck) a' W => ∃ Bx, X + 4 ≤ Bx ∧ W.heap[Bx]? = some (.cells #[.bool c.st, .int .i64 c.o, .int .i64 c.on, .int .i64 c.a, .int .i64 c.an, .int .i64 c.b, .int .i64 c.bn] 35 (0, 0)) ∧ a' = { tmps := #[.slice A p.length ca, .slice B q.length cb, .int .i64 o, .int .i64 a, .int .i64 b, undef, undef, undef, undef, undef, u10, u11, .pointer (some ⟨w.heap.size, 0, none⟩), undef, u14, .pointer (some ⟨X, 0, none⟩), .pointer (some ⟨Bx, 0, none⟩), .int .i64 o, .int .i64 a, .int .i64 b, .agg #[.int .i64 o, .int .i64 a, .int .i64 b], .agg #[.int .i64 o, .int .i64 a, .int .i64 b], .int .i64 3, .bool false, u24, u25, u26, u27, u28, u29, u30, u31, .slice A p.length ca, .int .i64 o, .int .i64 a, .bool true, .bool false, .bool false, .slice B q.length cb, .int .i64 o, .int .i64 b, .bool true, .bool false, .bool false, .slice A p.length ca, .slice B q.length cb, .agg #[.int .i64 o, .int .i64 a, .int .i64 b], .func (.func 26) #[] #[.pointer (some ⟨X + 1 + 1 + 1, 0, none⟩), .pointer (some ⟨X + 1, 0, none⟩), .pointer (some ⟨X + 1 + 1, 0, none⟩)], .agg #[.bool c.st, .int .i64 c.o, .int .i64 c.on, .int .i64 c.a, .int .i64 c.an, .int .i64 c.b, .int .i64 c.bn], undef, undef, undef, undef, undef], defers := [] })
            (fun x a' _ X Y row hs hg hr => by
              obtain ⟨Bx, h1, h2, h3⟩ := hs
              exact ⟨Bx, h1, (hg.block Bx (L.blk_lt h2) (fun e => by
                obtain ⟨_, o, ho, hc⟩ := hr Bx e.symm
                rw [h2] at ho; cases ho; cases hc)).trans h2, h3⟩)
            ?assign ?body ?done
          case assign =>
            rintro lp pre c W K ⟨⟨v, hv, hrow, -⟩, hB, hs4⟩ hK
            dsimp only [ckV] at hK ⊢
            gi_wp2
            exact hK _ _ ((KeepsOthers.alloc _ _).from _) (KpX.of (alloc1 _ _) (by have := hB.size; omega) (by omega)) ⟨⟨v, hv.alloc _, hrow.alloc _, trivial⟩, hB.alloc hB.size _, by simp; omega⟩ ⟨W.heap.size, by omega, heap_alloc_new W _, rfl⟩
          case body =>
            rintro lp pre c a' W ⟨⟨v, hv, hrow, -⟩, hB, hs4⟩ ⟨Bx, hBx, hbX, rfl⟩ hlt
            obtain ⟨cst, co, con, cca, can, ccb, cbn⟩ := c
            simp only at hbX ⊢
            have hc := hv.cell
            have hbs := hB.size
            have g0 := L.blk_cell hbX 0
            have g1 := L.blk_cell hbX 1
            have g2 := L.blk_cell hbX 2
            have g3 := L.blk_cell hbX 3
            have g4 := L.blk_cell hbX 4
            have g5 := L.blk_cell hbX 5
            have g6 := L.blk_cell hbX 6
            simp only [List.getElem?_toArray, List.getElem?_cons_zero, List.getElem?_cons_succ] at g0 g1 g2 g3 g4 g5 g6
            clear k1 k2 k3 k4 hqA hqB HPA HPB
            gi_wp2_with (gi_at_builtin; refine wpListIn_lies _ rfl _ _ 24 rfl (X + 4) 35 i0 _ 7 56 Try.underlying24 hi0 hz0 hz1 hz2 rfl (by decide) v pre.length (ckCells pre) rfl (hrow.alloc _) ⟨W.heap.size, 0, none⟩ 1 1 [.bool cst, .int .i64 co, .int .i64 con, .int .i64 cca, .int .i64 can, .int .i64 ccb, .int .i64 cbn] rfl rfl (World.news_of_block (heap_alloc_new W _)) (by intro u hu; simp at hu; rcases hu with rfl | rfl | rfl | rfl | rfl | rfl | rfl <;> rfl) (by decide) (by unfold maxLen; omega) (by omega) (by simp; omega) ?_; intro g' cap' w1 hown' hgrow hat' hlt'; obtain ⟨hv1, hv2, hr2, hk2, hb2⟩ := V.appendedZ (n₀ := w.heap.size) (za := X + 1) (zb := X + 4) hv (by decide) hrow hs4 (by omega) (by omega) (by omega) (by omega) hown' hgrow; have hc1 := hv1.cell; have hf1 := hv1.frozen)
            have e6 : ckCells pre ++ [.bool cst, .int .i64 co, .int .i64 con, .int .i64 cca, .int .i64 can, .int .i64 ccb, .int .i64 cbn] = ckCells (pre ++ [⟨cst, co, con, cca, can, ccb, cbn⟩]) := (ckCells_snoc pre ⟨cst, co, con, cca, can, ccb, cbn⟩).symm
            have e7 : (pre ++ [(⟨cst, co, con, cca, can, ccb, cbn⟩ : Ck)]).length = pre.length + 1 := by simp
            refine ⟨hk2.from _, ⟨hb2.1, by have := hgrow.size; simp at this ⊢; omega, fun k cs t hk ht => ?_, fun g hg => ?_⟩, ⟨⟨_, hv2, ?_, trivial⟩, hB.trans hb2.1, Nat.le_trans hs4 hb2.1.size⟩⟩
            · have hkX : k ≠ X := fun e => by
                subst e
                rw [show W.heap[k]? = _ from hv] at hk
                injection hk with hk
                injection hk with _ hk
                rcases ht with ht | ht | ⟨ht, -⟩ <;> (rw [ht] at hk; exact absurd hk (by decide))
              have hko : v.ownBlock ≠ some k := by
                rcases ht with ht | ht | ⟨ht, hx⟩
                · subst ht; exact V.own_type hrow hk (by decide)
                · subst ht; exact V.own_type hrow hk (by decide)
                · exact fun e => hx ⟨v, hc, e⟩
              rw [L.blk_far hkX _, hgrow.block k (by have := L.blk_lt hk; simp; omega) (fun e => hko e.symm)]
              exact (alloc1 _ _).block k (L.blk_lt hk)
            · obtain ⟨u, hu1, hu2⟩ := hg
              rw [boxed_cell hv2] at hu1
              injection hu1 with hu1
              subst hu1
              simp only [Value.ownBlock, Option.some.injEq] at hu2
              subst hu2
              rcases hat' with h1 | h1
              · exact .inl ⟨v, hc, h1⟩
              · exact .inr ⟨by rw [h1]; simp, by simpa using hlt'⟩
            · rw [← e6, e7]
              exact hr2
          case done =>
            rintro D ys W hD rfl ⟨⟨v, hv, hrow, -⟩, hB, hs4⟩ hK
            have hc := hv.cell
            clear k1 k2 k3 k4 hqA hqB HPA HPB
            obtain ⟨VA, vc, rfl, -, -⟩ := own_form hrow
            gi_wp2
            refine ⟨by simp, .inl ⟨_, _, rfl, run_takeDeferred hK, ?_⟩⟩
            refine ⟨.tuple #[.slice VA (walk p q (o, a, b) (0, 0, 0)).length vc, .int .i64 0], by simp [results, Try.results10, go_sem], ?_⟩
            rw [HCH.out.1, HCH.out.2]
            exact ⟨VA, vc, rfl, own_more (ownsRow_putObj hrow _ hK rfl) (by omega), hB.trans (belowK_b (w := w5) (by omega) W D _ _ (by omega) hK rfl rfl)⟩
        · have hr2 : right q o b = false := by simpa using h2
          rw [hr2] at HRB
          have HV := Lib.hid (bad_right (Or.inr h2) : chunks p q o a b = [] ∧ err p q o a b = 2)
          clear hr2
          gi_wp2
          refine ⟨trivial, ?_⟩
          refine (HRA.out _ HB0.out).mono ?_
          rintro e w2 ⟨rfl, hb2⟩
          have HB2 := Lib.hid (HB0.out.trans (hb2.mono HB0.out.size))
          clear hb2
          gi_wp2
          refine ⟨trivial, ?_⟩
          refine (HRB.out _ HB2.out).mono ?_
          rintro e w3 ⟨rfl, hb3⟩
          have HB3 := Lib.hid (HB2.out.trans (hb3.mono HB2.out.size))
          clear hb3
          gi_wp2
          refine ⟨.tuple #[.slice none 0 0, .int .i64 2], by simp [results, Try.results10, go_sem], ?_⟩
          rw [HV.out.1, HV.out.2]
          exact ⟨none, 0, rfl, World.ownsRow_nil _ _ _ _, HB3.out⟩
      · have hr1 : right p o a = false := by simpa using h1
        rw [hr1] at HRA
        have HV := Lib.hid (bad_right (Or.inl h1) : chunks p q o a b = [] ∧ err p q o a b = 2)
        clear hr1
        gi_wp2
        refine ⟨trivial, ?_⟩
        refine (HRA.out _ HB0.out).mono ?_
        rintro e w2 ⟨rfl, hb2⟩
        have HB2 := Lib.hid (HB0.out.trans (hb2.mono HB0.out.size))
        clear hb2
        gi_wp2
        refine ⟨trivial, ?_⟩
        gi_wp2
        refine ⟨.tuple #[.slice none 0 0, .int .i64 2], by simp [results, Try.results10, go_sem], ?_⟩
        rw [HV.out.1, HV.out.2]
        exact ⟨none, 0, rfl, World.ownsRow_nil _ _ _ _, HB2.out⟩
theorem of_any (A B : Option Addr) (ca cb : Nat) (p q : List Pr) (o a b : Int) (w : World) (hpl : p.length ≤ 1000) (hql : q.length ≤ 1000) (hA : PrIn w A p) (hB : PrIn w B q) :
    Calls Try.prog 10 #[.slice A p.length ca, .slice B q.length cb, .int .i64 o, .int .i64 a, .int .i64 b] w (CkEnd w (chunks p q o a b) (err p q o a b)) := callsIn_wide.1 (of_in 8 (Nat.le_refl _) A B ca cb p q o a b w hpl hql hA hB)
end Go.Proofs.Ytcnnbchaelboeaa.Ck
