/-
  The contracts of chunk's Run and Next: ranges over the places that are matched on both sides.
-/
import Derived.Test.YtkflhcfopejigaaGge
import Derived.Deep.RegionHeld
namespace Go.Proofs.Ytkflhcfopejigaa.Ck
set_option linter.unusedVariables false
set_option linter.unusedSimpArgs false
open Go.RowKit Go.Shelf
open T
open Mt (Pr fnd Rt right)
open N (PrIn PrIn.below)
open V (drawn_below KpZ KpZ.t KpZ.b KpZ.of KpZ.refl grown_of boxed_le region_round)
open I (alloc1)
attribute [local go_sem] Oper.semAt_some

theorem tr_eql (w : World) (t u : Tr) : (Op.equal 72 (trV t) (trV u)).run Try.prog w = .ok (decide (t = u)) w := by
  obtain ⟨i0, hi0, hz0, hz1, hz2⟩ := info_parts L.infoInt
  have hc : Try.prog.cellsOf 3 = 1 := by kernel_rfl
  have hk : Try.prog.plainKey 3 = true := by kernel_rfl
  obtain ⟨a, b, c⟩ := t
  obtain ⟨x, y, z⟩ := u
  simp only [trV]
  rw [Op.equal, Op.maxDepth, show (10000 : Nat) = 9999 + 1 from rfl, run_equalIn_array w 9999 _ _ Try.underlying72 hi0, hc]
  have p0 : ∀ x y z : Int, (part 3 #[.int .i64 x, .int .i64 y, .int .i64 z] 0).run Try.prog w = .ok (.int .i64 x) w := fun x y z => run_part_plain w hk rfl
  have p1 : ∀ x y z : Int, (part 3 #[.int .i64 x, .int .i64 y, .int .i64 z] 1).run Try.prog w = .ok (.int .i64 y) w := fun x y z => run_part_plain w hk rfl
  have p2 : ∀ x y z : Int, (part 3 #[.int .i64 x, .int .i64 y, .int .i64 z] 2).run Try.prog w = .ok (.int .i64 z) w := fun x y z => run_part_plain w hk rfl
  have q' : ∀ (d : Nat) (x y : Int), (Op.equalIn (d + 1) 3 (.int .i64 x) (.int .i64 y)).run Try.prog w = .ok (x == y) w := fun d x y => by
    simp [Op.equalIn, run_underlying Try.underlying3]
  have q := q' 9998
  simp only [show List.range 3 = [0, 1, 2] from rfl, Op.eqItems, Sem.run_bind, Nat.zero_mul, Nat.one_mul, p0, p1, p2, q, Result.andThen_ok]
  by_cases h1 : a = x <;> by_cases h2 : b = y <;> by_cases h3 : c = z <;> simp [p1, p2, q, h1, h2, h3]
theorem tr_eqIn (w : World) (a b c x y z : Int) : (Op.equalIn 10000 72 (.agg #[.int .i64 a, .int .i64 b, .int .i64 c]) (.agg #[.int .i64 x, .int .i64 y, .int .i64 z])).run Try.prog w = .ok (decide (((a, b, c) : Tr) = (x, y, z))) w := tr_eql w (a, b, c) (x, y, z)
theorem tr_eql' (w : World) (t u : Tr) : (binOp .eql 72 (trV t) (trV u)).run Try.prog w = .ok (.bool (decide (t = u))) w := by
  have h := tr_eql w t u
  simp only [trV] at h ⊢
  simp only [binOp, Sem.run_bind, h, Result.andThen_ok, Sem.run_pure]
theorem tr_neq (w : World) (t u : Tr) : (binOp .neq 72 (trV t) (trV u)).run Try.prog w = .ok (.bool (!decide (t = u))) w := by
  have h := tr_eql w t u
  simp only [trV] at h ⊢
  simp only [binOp, Sem.run_bind, h, Result.andThen_ok, Sem.run_pure]

set_option maxRecDepth 100000 in
theorem shared_in (n : Nat) (A B : Option Addr) (la ca lb cb : Nat) (o : Int) (w : World) :
    CallsIn Fence.wide n Try.prog 62 #[.slice A la ca, .slice B lb cb, .int .i64 o] w fun e w' => e = .returned (.func (.func 63) #[] #[.pointer (some ⟨w.heap.size, 0, none⟩), .pointer (some ⟨w.heap.size + 1 + 1, 0, none⟩), .pointer (some ⟨w.heap.size + 1, 0, none⟩)]) ∧
      w' = ((w.alloc (.cells #[.slice A la ca] 23)).alloc (.cells #[.slice B lb cb] 23)).alloc (.cells #[.int .i64 o] 3) := by
  refine callsIn_of_wp Try.func62 rfl trivial ?_ rfl
  simp only [Try.ntmps62, List.size_toArray, List.length_cons, List.length_nil, Nat.reduceAdd, Nat.reduceSub, Array.replicate_succ, Array.replicate_zero, List.push_toArray, List.append_toArray, List.nil_append, List.cons_append]
  gi_wp2
  go_ret
  exact ⟨rfl, rfl⟩
/-- What shared hands back tells the places that are matched on both sides, in order. -/
theorem shared_stops (n : Nat) (hn : 1 ≤ n) (Ba Bo Bb n₀ za zb ca cb : Nat) (A B : Option Addr) (p q : List Pr) (o : Int) (hp : p.Pairwise fun p q => p.1 < q.1) (hq : q.Pairwise fun p q => p.1 < q.1) (hpl : p.length ≤ 1000) (hql : q.length ≤ 1000) (hpk : okp p) (hqk : okp q)
    (hza : za ≤ Ba ∧ Ba < zb) (hzc : za ≤ Bb ∧ Bb < zb) (w : World) (hn₀ : n₀ ≤ w.heap.size) (hzb : zb ≤ w.heap.size)
    (hBa : w.heap[Ba]? = some (.cells #[.slice A p.length ca] 23 (0, 0))) (hBo : w.cell? ⟨Bo, 0, none⟩ = some (.int .i64 o)) (hBb : w.heap[Bb]? = some (.cells #[.slice B q.length cb] 23 (0, 0))) (hA : PrLow w n₀ A p) (hB : PrLow w n₀ B q) :
    SeqStopsK Fence.wide n Try.prog 63 #[.pointer (some ⟨Ba, 0, none⟩), .pointer (some ⟨Bo, 0, none⟩), .pointer (some ⟨Bb, 0, none⟩)] (fun x : TrB => #[trV x.1]) (KpZ n₀ za zb) (fun ys => ys.map (·.1) = shd p q o) (fun pre => ∃ r, pre.map (·.1) ++ r = shd p q o) p.length w := fun lp J Jx W hW hJ _ hY h0 => by
  have hsz := hW.size
  exact shared1_in n hn lp Ba Bo Bb n₀ za zb ca cb A B p q o hp hq hpl hql hpk hqk hza hzc J Jx W hJ hY (by omega) (by omega) ((hW.block Ba (L.blk_lt hBa)).trans hBa) ((hW.cell (p := ⟨Bo, 0, none⟩) (World.block_lt_of_cell? _ _ hBo)).trans hBo) ((hW.block Bb (L.blk_lt hBb)).trans hBb) (hA.kept (hW.mono hn₀)) (hB.kept (hW.mono hn₀)) h0

theorem rn_append : ∀ {l r : List Tr} {o a b : Int}, rn l o a b = l.length → rn (l ++ r) o a b = l.length + rn r (o + l.length) (a + l.length) (b + l.length)
  | [], r, o, a, b, _ => by simp
  | t :: l, r, o, a, b, h => by
    rw [rn] at h
    split at h
    · rename_i ht
      rw [List.cons_append, rn, if_pos ht, rn_append (by simpa using h)]
      simp only [List.length_cons]
      rw [show o + 1 + (l.length : Int) = o + ((l.length + 1 : Nat) : Int) by omega, show a + 1 + (l.length : Int) = a + ((l.length + 1 : Nat) : Int) by omega, show b + 1 + (l.length : Int) = b + ((l.length + 1 : Nat) : Int) by omega]
      omega
    · simp at h
theorem rn_on {l : List Tr} {o a b : Int} (h : rn l o a b = l.length) {t : Tr} (ht : t = (o + l.length, a + l.length, b + l.length)) : rn (l ++ [t]) o a b = (l ++ [t]).length := by
  rw [rn_append h, rn, if_pos ht]; simp [rn]
theorem rn_off {l r : List Tr} {o a b : Int} (h : rn l o a b = l.length) {t : Tr} (ht : t ≠ (o + l.length, a + l.length, b + l.length)) : rn (l ++ [t] ++ r) o a b = l.length := by
  rw [List.append_assoc, rn_append h, List.singleton_append, rn, if_neg ht]; rfl
theorem tr_minus {t : Tr} {o a b n : Int} : (t.1 - n, t.2.1 - n, t.2.2 - n) = (o, a, b) ↔ t = (o + n, a + n, b + n) := by
  obtain ⟨x, y, z⟩ := t
  simp only [Prod.mk.injEq]
  omega
theorem boxed_cell {W : World} {B : Nat} {t : TypeId} {v : Value} (h : W.heap[B]? = some (.cells #[v] t (0, 0))) : W.cell? ⟨B, 0, none⟩ = some v := by
  have := L.blk_cell h 0
  simpa using this

set_option maxRecDepth 100000 in
set_option maxHeartbeats 4000000 in
theorem run_in' (n : Nat) (hn : 6 ≤ n) (A B : Option Addr) (ca cb : Nat) (p q : List Pr) (c : Ck) (w : World) (hp : p.Pairwise fun p q => p.1 < q.1) (hqp : q.Pairwise fun p q => p.1 < q.1) (hpl : p.length ≤ 1000) (hql : q.length ≤ 1000) (hpk : okp p) (hqk : okp q) (hA : PrIn w A p) (hB : PrIn w B q) :
    CallsIn Fence.wide n Try.prog 59 #[.slice A p.length ca, .slice B q.length cb, ckV c] w fun e w' => e = .returned (.int .i64 (run p q (c.o, c.a, c.b) : Nat)) ∧ Below w.heap.size w w' := by
  have h1 : 1 ≤ n := by omega
  have HBG := Lib.hid (begin_any c)
  obtain ⟨cst, co, con, cca, can, ccb, cbn⟩ := c
  simp only [ckV] at HBG ⊢
  obtain ⟨W0, hW0⟩ : ∃ W : World, W = ((((w.alloc (.cells #[.bool cst, .int .i64 co, .int .i64 con, .int .i64 cca, .int .i64 can, .int .i64 ccb, .int .i64 cbn] 41)).alloc (.cells #[.int .i64 0] 3)).alloc (.cells #[.slice A p.length ca] 23)).alloc (.cells #[.slice B q.length cb] 23)).alloc (.cells #[.int .i64 co] 3) := ⟨_, rfl⟩
  have HM : Hid (W0.heap.size = w.heap.size + 1 + 1 + 1 + 1 + 1 ∧ Below w.heap.size w W0 ∧ W0.heap[w.heap.size]? = some (.cells #[.bool cst, .int .i64 co, .int .i64 con, .int .i64 cca, .int .i64 can, .int .i64 ccb, .int .i64 cbn] 41 (0, 0)) ∧ W0.heap[w.heap.size + 1]? = some (.cells #[.int .i64 0] 3 (0, 0)) ∧ W0.heap[w.heap.size + 1 + 1]? = some (.cells #[.slice A p.length ca] 23 (0, 0)) ∧ W0.heap[w.heap.size + 1 + 1 + 1]? = some (.cells #[.slice B q.length cb] 23 (0, 0)) ∧ W0.heap[w.heap.size + 1 + 1 + 1 + 1]? = some (.cells #[.int .i64 co] 3 (0, 0))) := Lib.hid (by
    rw [hW0]
    refine ⟨by simp, ((((alloc1 _ _).alloc (by simp) _).alloc (by simp; omega) _).alloc (by simp; omega) _).alloc (by simp; omega) _, ?_, ?_, ?_, ?_, ?_⟩
    · exact V.alloc_old _ (V.alloc_old _ (V.alloc_old _ (V.alloc_old _ (V.alloc_at _ rfl))))
    · exact V.alloc_old _ (V.alloc_old _ (V.alloc_old _ (V.alloc_at _ (by simp))))
    · exact V.alloc_old _ (V.alloc_old _ (V.alloc_at _ (by simp)))
    · exact V.alloc_old _ (V.alloc_at _ (by simp))
    · exact V.alloc_at _ (by simp))
  refine callsIn_of_wp_marks Try.func59 rfl trivial ?_ rfl
  simp only [Try.ntmps59, List.size_toArray, List.length_cons, List.length_nil, Nat.reduceAdd, Nat.reduceSub, Array.replicate_succ, Array.replicate_zero, List.push_toArray, List.append_toArray, List.nil_append, List.cons_append]
  gi_wp2
  refine ⟨trivial, ?_⟩
  refine (shared_in (n - 1) A B p.length ca q.length cb co _).mono ?_
  rintro e w' ⟨rfl, hw'⟩
  rw [← hW0] at hw'
  subst hw'
  simp only [World.size_alloc]
  obtain ⟨hsz, hB0, k0, k1, k2, k3, k4⟩ := HM.out
  clear hW0 HM
  obtain ⟨b0, hb0⟩ : ∃ b, b = w.heap.size := ⟨_, rfl⟩
  rw [← hb0] at hsz hB0 k0 k1 k2 k3 k4 ⊢
  have HPA := Lib.hid ((PrLow.of hA).kept (by rw [← hb0]; exact hB0))
  have HPB := Lib.hid ((PrLow.of hB).kept (by rw [← hb0]; exact hB0))
  rw [← hb0] at HPA HPB
  have HBE := Lib.hid hb0
  have hbw : b0 ≤ w.heap.size := by omega
  clear hb0
  gi_wp2
  refine wpIn_rangeFunc_ownH rfl h1 (gf := 63) (lb := #[.pointer (some ⟨b0 + 1 + 1, 0, none⟩), .pointer (some ⟨b0 + 1 + 1 + 1 + 1, 0, none⟩), .pointer (some ⟨b0 + 1 + 1 + 1, 0, none⟩)]) rfl trivial (enters_of Try.func63 (by kernel_rfl) rfl)
    (shared_stops (n - 1) (by omega) (b0 + 1 + 1) (b0 + 1 + 1 + 1 + 1) (b0 + 1 + 1 + 1) b0 (b0 + 2) (b0 + 5) ca cb A B p q co hp hqp hpl hql hpk hqk (by omega) (by omega) w' (by omega) (by omega) k2 (boxed_cell k4) k3 HPA.out HPB.out) KpZ.t (KpZ.b (by omega) (by omega)) (Below.refl _ _) (fun _ => rfl)
    (fun (pre : List TrB) W => (W.heap[b0 + 1]? = some (.cells #[.int .i64 (pre.length : Int)] 3 (0, 0)) ∧ W.heap[b0]? = some (.cells #[.bool cst, .int .i64 co, .int .i64 con, .int .i64 cca, .int .i64 can, .int .i64 ccb, .int .i64 cbn] 41 (0, 0))) ∧ (rn (pre.map (·.1)) co cca ccb = pre.length ∧ Below b0 w W ∧ b0 + 5 ≤ W.heap.size))
    (fun c (pre : List TrB) W => c = .exit 0 ∧ ∃ m : Nat, W.heap[b0 + 1]? = some (.cells #[.int .i64 (m : Int)] 3 (0, 0)) ∧ ((∀ r, rn (pre.map (·.1) ++ r) co cca ccb = m) ∧ Below b0 w W ∧ b0 + 5 ≤ W.heap.size))
    (OwnFrom.and (OwnFrom.and (Own.from (boxed_own (b0 + 1) 3 (fun (pre : List TrB) => .int .i64 (pre.length : Int))) _) (fun _ _ _ _ hs hg hr => V.blk_grown hs hg (V.row_cells hs (fun r hr' => (hr r hr').2)))) (OwnFrom.and (ownFrom_pure _ _) (OwnFrom.and (ownFrom_below hbw (by omega)) (fun _ _ _ _ hs hg _ => boxed_le hs hg))))
    (fun _ => fun pre X Y row hs hg hr => by
      obtain ⟨h0, m, h1, h2, h3, h4⟩ := hs
      exact ⟨h0, m, V.blk_grown h1 hg (V.row_cells h1 (fun r hr' => (hr r hr').2)), h2, ownFrom_below hbw (by omega) pre X Y row h3 hg hr, boxed_le h4 hg⟩)
    ⟨⟨k1, k0⟩, rfl, hB0, by omega⟩
    (fun (x : TrB) a' W => ∃ Bx, b0 + 5 ≤ Bx ∧ W.heap[Bx]? = some (.cells #[.int .i64 x.1.1, .int .i64 x.1.2.1, .int .i64 x.1.2.2] 72 (0, 0)) ∧ a' = { tmps := #[.slice A p.length ca, .slice B q.length cb, .agg #[.bool cst, .int .i64 co, .int .i64 con, .int .i64 cca, .int .i64 can, .int .i64 ccb, .int .i64 cbn], undef, undef, .pointer (some ⟨b0, 0, none⟩), .int .i64 0, .pointer (some ⟨b0 + 1, 0, none⟩), .pointer (some ⟨Bx, 0, none⟩), .slice A p.length ca, .slice B q.length cb, .pointer (some ⟨b0, 1, none⟩), .int .i64 co, .func (.func 63) #[] #[.pointer (some ⟨b0 + 1 + 1, 0, none⟩), .pointer (some ⟨b0 + 1 + 1 + 1 + 1, 0, none⟩), .pointer (some ⟨b0 + 1 + 1 + 1, 0, none⟩)], .agg #[.int .i64 x.1.1, .int .i64 x.1.2.1, .int .i64 x.1.2.2], undef, undef, undef, undef, undef, undef, undef, undef, undef, undef, undef, undef, undef, undef, undef, undef, undef, undef, undef], defers := [] })
    (fun x a' _ X Y row hs hg hr => by
      obtain ⟨Bx, h1, h2, h3⟩ := hs
      exact ⟨Bx, h1, (hg.block Bx (L.blk_lt h2) (fun e => by
        obtain ⟨_, o, ho, hc⟩ := hr Bx e.symm
        rw [h2] at ho; cases ho; cases hc)).trans h2, h3⟩)
    ?assign ?body ?done ?stop
  case assign =>
    rintro lp pre x W K ⟨⟨hv, hc0⟩, hrn, hB, hs4⟩ hK
    dsimp only [trV] at hK ⊢
    gi_wp2
    exact hK _ _ ((KeepsOthers.alloc _ _).from _) (KpZ.of (alloc1 _ _) (by omega) (by omega)) ⟨⟨(alloc1 _ _).block _ (L.blk_lt hv) |>.trans hv, (alloc1 _ _).block _ (L.blk_lt hc0) |>.trans hc0⟩, hrn, hB.alloc (by omega) _, by simp; omega⟩ ⟨W.heap.size, by omega, heap_alloc_new W _, rfl⟩
  case body =>
    rintro lp pre x a' W hlp ⟨r, hr⟩ ⟨⟨hv, hc0⟩, hrn, hB, hs4⟩ ⟨Bx, hBx, hbX, rfl⟩ hlt
    obtain ⟨⟨x0, x1, x2⟩, ⟨hx0, hx0'⟩, ⟨hx1, hx1'⟩, ⟨hx2, hx2'⟩⟩ := x
    simp only at hx0 hx0' hx1 hx1' hx2 hx2' hbX ⊢
    obtain ⟨m, hm⟩ : ∃ m, m = pre.length := ⟨_, rfl⟩
    rw [← hm] at hv hlt
    have hm9 : m ≤ 1000 := by omega
    have HRN := Lib.hid hrn
    have HMM := Lib.hid hm
    have HLT := Lib.hid (And.intro hlt hlp)
    have HBW := Lib.hid hB
    have HV := Lib.hid hv
    have HC0 := Lib.hid hc0
    have HSX := Lib.hid (fun (wz : World) (hz : Below W.heap.size W wz) => (⟨(hz.cell (p := ⟨Bx, 0, none⟩) (L.blk_lt hbX)).trans (L.blk_cell hbX 0), (hz.cell (p := ⟨Bx, 1, none⟩) (L.blk_lt hbX)).trans (L.blk_cell hbX 1), (hz.cell (p := ⟨Bx, 2, none⟩) (L.blk_lt hbX)).trans (L.blk_cell hbX 2), (hz.cell (p := ⟨b0 + 1, 0, none⟩) (L.blk_lt hv)).trans (L.blk_cell hv 0), (hz.cell (p := ⟨b0, 0, none⟩) (L.blk_lt hc0)).trans (L.blk_cell hc0 0), (hz.cell (p := ⟨b0, 1, none⟩) (L.blk_lt hc0)).trans (L.blk_cell hc0 1), (hz.cell (p := ⟨b0, 2, none⟩) (L.blk_lt hc0)).trans (L.blk_cell hc0 2), (hz.cell (p := ⟨b0, 3, none⟩) (L.blk_lt hc0)).trans (L.blk_cell hc0 3), (hz.cell (p := ⟨b0, 4, none⟩) (L.blk_lt hc0)).trans (L.blk_cell hc0 4), (hz.cell (p := ⟨b0, 5, none⟩) (L.blk_lt hc0)).trans (L.blk_cell hc0 5), (hz.cell (p := ⟨b0, 6, none⟩) (L.blk_lt hc0)).trans (L.blk_cell hc0 6)⟩ :
      wz.cell? ⟨Bx, 0, none⟩ = some (.int .i64 x0) ∧ wz.cell? ⟨Bx, 1, none⟩ = some (.int .i64 x1) ∧ wz.cell? ⟨Bx, 2, none⟩ = some (.int .i64 x2) ∧ wz.cell? ⟨b0 + 1, 0, none⟩ = some (.int .i64 (m : Int)) ∧ wz.cell? ⟨b0, 0, none⟩ = some (.bool cst) ∧ wz.cell? ⟨b0, 1, none⟩ = some (.int .i64 co) ∧ wz.cell? ⟨b0, 2, none⟩ = some (.int .i64 con) ∧ wz.cell? ⟨b0, 3, none⟩ = some (.int .i64 cca) ∧ wz.cell? ⟨b0, 4, none⟩ = some (.int .i64 can) ∧ wz.cell? ⟨b0, 5, none⟩ = some (.int .i64 ccb) ∧ wz.cell? ⟨b0, 6, none⟩ = some (.int .i64 cbn)))
    have HQ : Hid (∀ w : World, (Op.equalIn 10000 72 (.agg #[.int .i64 (IntKind.i64.wrap (x0 - (m : Int))), .int .i64 (IntKind.i64.wrap (x1 - (m : Int))), .int .i64 (IntKind.i64.wrap (x2 - (m : Int)))]) (.agg #[.int .i64 co, .int .i64 cca, .int .i64 ccb])).run Try.prog w = .ok (decide (((x0, x1, x2) : Tr) = (co + m, cca + m, ccb + m))) w) := Lib.hid (fun w => by
      rw [tr_eqIn, show IntKind.i64.wrap (x0 - (m : Int)) = x0 - m by rw [IntKind.wrap_i64]; omega, show IntKind.i64.wrap (x1 - (m : Int)) = x1 - m by rw [IntKind.wrap_i64]; omega, show IntKind.i64.wrap (x2 - (m : Int)) = x2 - m by rw [IntKind.wrap_i64]; omega]
      rw [show decide (((x0 - (m : Int), x1 - (m : Int), x2 - (m : Int)) : Tr) = (co, cca, ccb)) = decide (((x0, x1, x2) : Tr) = (co + m, cca + m, ccb + m)) from decide_eq_decide.2 (tr_minus (t := (x0, x1, x2)))])
    clear hbX hr hrn hm hlt hlp hB hv hc0 k0 k1 k2 k3 k4 hA HPA HPB hp hpk hqk
    by_cases he : ((x0, x1, x2) : Tr) = (co + m, cca + m, ccb + m)
    all_goals
      have HE := Lib.hid he
      first | rw [decide_eq_true he] at HQ | rw [decide_eq_false he] at HQ
      have hq := HQ.out
      clear he HQ
      gi_wp2
      refine region_round (S := fun wz => Below W.heap.size W wz) (by kernel_rfl) (by kernel_rfl) (fun h => ?_) (drawn_below W 1) (fun hS => ?_)
      · obtain ⟨_, _, h⟩ := h
        exact h.elim
      generalize W.drew = wc at *

      refine wpAnyH_take (i := 0) (oi := { dst := some 15, op := Go.Op.indexAddr 72 (Go.Operand.tmp 8) (Go.Operand.const (Go.Value.int Go.IntKind.i64 0)), type := 0, pos := "chunk.go:20", after := #[], guard := none }) (v := ?_) rfl (by kernel_rfl) (by kernel_rfl) (by kernel_rfl) (fun _ _ _ h => h) (Or.inl ⟨by rfl, ?_⟩) hS ?_
      rotate_left
      · (intro wz hSz; obtain ⟨z0, z1, z2, z3, y0, y1, y2, y3, y4, y5, y6⟩ := HSX.out wz hSz; go_simp; try with_reducible rfl)
      try simp only [Act.put, List.setIfInBounds_toArray, List.set_cons_zero, List.set_cons_succ]
      refine wpAnyH_take (i := 1) (oi := { dst := some 16, op := Go.Op.load 3 (Go.Operand.tmp 15), type := 3, pos := "chunk.go:20", after := #[{ on := 0, ground := Go.Ground.data }], guard := none }) (v := ?_) rfl (by kernel_rfl) (by kernel_rfl) (by kernel_rfl) (fun _ _ _ h => h) (Or.inl ⟨by rfl, ?_⟩) hS ?_
      rotate_left
      · (intro wz hSz; obtain ⟨z0, z1, z2, z3, y0, y1, y2, y3, y4, y5, y6⟩ := HSX.out wz hSz; go_simp; try with_reducible rfl)
      try simp only [Act.put, List.setIfInBounds_toArray, List.set_cons_zero, List.set_cons_succ]
      refine wpAnyH_take (i := 2) (oi := { dst := some 17, op := Go.Op.load 3 (Go.Operand.tmp 7), type := 3, pos := "chunk.go:20", after := #[], guard := none }) (v := ?_) rfl (by kernel_rfl) (by kernel_rfl) (by kernel_rfl) (fun _ _ _ h => h) (Or.inl ⟨by rfl, ?_⟩) hS ?_
      rotate_left
      · (intro wz hSz; obtain ⟨z0, z1, z2, z3, y0, y1, y2, y3, y4, y5, y6⟩ := HSX.out wz hSz; go_simp; try with_reducible rfl)
      try simp only [Act.put, List.setIfInBounds_toArray, List.set_cons_zero, List.set_cons_succ]
      refine wpAnyH_take (i := 3) (oi := { dst := some 18, op := Go.Op.binOp Go.BinOp.sub 3 (Go.Operand.tmp 16) (Go.Operand.tmp 17) 3, type := 3, pos := "chunk.go:20", after := #[{ on := 1, ground := Go.Ground.data }, { on := 2, ground := Go.Ground.data }], guard := none }) (v := ?_) rfl (by kernel_rfl) (by kernel_rfl) (by kernel_rfl) (fun _ _ _ h => h) (Or.inl ⟨by rfl, ?_⟩) hS ?_
      rotate_left
      · (intro wz hSz; obtain ⟨z0, z1, z2, z3, y0, y1, y2, y3, y4, y5, y6⟩ := HSX.out wz hSz; go_simp; try with_reducible rfl)
      try simp only [Act.put, List.setIfInBounds_toArray, List.set_cons_zero, List.set_cons_succ]
      refine wpAnyH_take (i := 4) (oi := { dst := some 19, op := Go.Op.indexAddr 72 (Go.Operand.tmp 8) (Go.Operand.const (Go.Value.int Go.IntKind.i64 1)), type := 0, pos := "chunk.go:20", after := #[], guard := none }) (v := ?_) rfl (by kernel_rfl) (by kernel_rfl) (by kernel_rfl) (fun _ _ _ h => h) (Or.inl ⟨by rfl, ?_⟩) hS ?_
      rotate_left
      · (intro wz hSz; obtain ⟨z0, z1, z2, z3, y0, y1, y2, y3, y4, y5, y6⟩ := HSX.out wz hSz; go_simp; try with_reducible rfl)
      try simp only [Act.put, List.setIfInBounds_toArray, List.set_cons_zero, List.set_cons_succ]
      refine wpAnyH_take (i := 5) (oi := { dst := some 20, op := Go.Op.load 3 (Go.Operand.tmp 19), type := 3, pos := "chunk.go:20", after := #[{ on := 4, ground := Go.Ground.data }], guard := none }) (v := ?_) rfl (by kernel_rfl) (by kernel_rfl) (by kernel_rfl) (fun _ _ _ h => h) (Or.inl ⟨by rfl, ?_⟩) hS ?_
      rotate_left
      · (intro wz hSz; obtain ⟨z0, z1, z2, z3, y0, y1, y2, y3, y4, y5, y6⟩ := HSX.out wz hSz; go_simp; try with_reducible rfl)
      try simp only [Act.put, List.setIfInBounds_toArray, List.set_cons_zero, List.set_cons_succ]
      refine wpAnyH_take (i := 6) (oi := { dst := some 21, op := Go.Op.load 3 (Go.Operand.tmp 7), type := 3, pos := "chunk.go:20", after := #[], guard := none }) (v := ?_) rfl (by kernel_rfl) (by kernel_rfl) (by kernel_rfl) (fun _ _ _ h => h) (Or.inl ⟨by rfl, ?_⟩) hS ?_
      rotate_left
      · (intro wz hSz; obtain ⟨z0, z1, z2, z3, y0, y1, y2, y3, y4, y5, y6⟩ := HSX.out wz hSz; go_simp; try with_reducible rfl)
      try simp only [Act.put, List.setIfInBounds_toArray, List.set_cons_zero, List.set_cons_succ]
      refine wpAnyH_take (i := 7) (oi := { dst := some 22, op := Go.Op.binOp Go.BinOp.sub 3 (Go.Operand.tmp 20) (Go.Operand.tmp 21) 3, type := 3, pos := "chunk.go:20", after := #[{ on := 5, ground := Go.Ground.data }, { on := 6, ground := Go.Ground.data }], guard := none }) (v := ?_) rfl (by kernel_rfl) (by kernel_rfl) (by kernel_rfl) (fun _ _ _ h => h) (Or.inl ⟨by rfl, ?_⟩) hS ?_
      rotate_left
      · (intro wz hSz; obtain ⟨z0, z1, z2, z3, y0, y1, y2, y3, y4, y5, y6⟩ := HSX.out wz hSz; go_simp; try with_reducible rfl)
      try simp only [Act.put, List.setIfInBounds_toArray, List.set_cons_zero, List.set_cons_succ]
      refine wpAnyH_take (i := 8) (oi := { dst := some 23, op := Go.Op.indexAddr 72 (Go.Operand.tmp 8) (Go.Operand.const (Go.Value.int Go.IntKind.i64 2)), type := 0, pos := "chunk.go:20", after := #[], guard := none }) (v := ?_) rfl (by kernel_rfl) (by kernel_rfl) (by kernel_rfl) (fun _ _ _ h => h) (Or.inl ⟨by rfl, ?_⟩) hS ?_
      rotate_left
      · (intro wz hSz; obtain ⟨z0, z1, z2, z3, y0, y1, y2, y3, y4, y5, y6⟩ := HSX.out wz hSz; go_simp; try with_reducible rfl)
      try simp only [Act.put, List.setIfInBounds_toArray, List.set_cons_zero, List.set_cons_succ]
      refine wpAnyH_take (i := 9) (oi := { dst := some 24, op := Go.Op.load 3 (Go.Operand.tmp 23), type := 3, pos := "chunk.go:20", after := #[{ on := 8, ground := Go.Ground.data }], guard := none }) (v := ?_) rfl (by kernel_rfl) (by kernel_rfl) (by kernel_rfl) (fun _ _ _ h => h) (Or.inl ⟨by rfl, ?_⟩) hS ?_
      rotate_left
      · (intro wz hSz; obtain ⟨z0, z1, z2, z3, y0, y1, y2, y3, y4, y5, y6⟩ := HSX.out wz hSz; go_simp; try with_reducible rfl)
      try simp only [Act.put, List.setIfInBounds_toArray, List.set_cons_zero, List.set_cons_succ]
      refine wpAnyH_take (i := 10) (oi := { dst := some 25, op := Go.Op.load 3 (Go.Operand.tmp 7), type := 3, pos := "chunk.go:20", after := #[], guard := none }) (v := ?_) rfl (by kernel_rfl) (by kernel_rfl) (by kernel_rfl) (fun _ _ _ h => h) (Or.inl ⟨by rfl, ?_⟩) hS ?_
      rotate_left
      · (intro wz hSz; obtain ⟨z0, z1, z2, z3, y0, y1, y2, y3, y4, y5, y6⟩ := HSX.out wz hSz; go_simp; try with_reducible rfl)
      try simp only [Act.put, List.setIfInBounds_toArray, List.set_cons_zero, List.set_cons_succ]
      refine wpAnyH_take (i := 11) (oi := { dst := some 26, op := Go.Op.binOp Go.BinOp.sub 3 (Go.Operand.tmp 24) (Go.Operand.tmp 25) 3, type := 3, pos := "chunk.go:20", after := #[{ on := 9, ground := Go.Ground.data }, { on := 10, ground := Go.Ground.data }], guard := none }) (v := ?_) rfl (by kernel_rfl) (by kernel_rfl) (by kernel_rfl) (fun _ _ _ h => h) (Or.inl ⟨by rfl, ?_⟩) hS ?_
      rotate_left
      · (intro wz hSz; obtain ⟨z0, z1, z2, z3, y0, y1, y2, y3, y4, y5, y6⟩ := HSX.out wz hSz; go_simp; try with_reducible rfl)
      try simp only [Act.put, List.setIfInBounds_toArray, List.set_cons_zero, List.set_cons_succ]
      refine wpAnyH_take (i := 12) (oi := { dst := some 27, op := Go.Op.build 72 #[(0, Go.Operand.tmp 18), (1, Go.Operand.tmp 22), (2, Go.Operand.tmp 26)], type := 72, pos := "chunk.go:20", after := #[{ on := 3, ground := Go.Ground.data }, { on := 7, ground := Go.Ground.data }, { on := 11, ground := Go.Ground.data }], guard := none }) (v := ?_) rfl (by kernel_rfl) (by kernel_rfl) (by kernel_rfl) (fun _ _ _ h => h) (Or.inl ⟨by rfl, ?_⟩) hS ?_
      rotate_left
      · (intro wz hSz; obtain ⟨z0, z1, z2, z3, y0, y1, y2, y3, y4, y5, y6⟩ := HSX.out wz hSz; go_simp; try with_reducible rfl)
      try simp only [Act.put, List.setIfInBounds_toArray, List.set_cons_zero, List.set_cons_succ]
      refine wpAnyH_take (i := 13) (oi := { dst := some 28, op := Go.Op.load 41 (Go.Operand.tmp 5), type := 41, pos := "chunk.go:20", after := #[], guard := none }) (v := ?_) rfl (by kernel_rfl) (by kernel_rfl) (by kernel_rfl) (fun _ _ _ h => h) (Or.inl ⟨by rfl, ?_⟩) hS ?_
      rotate_left
      · (intro wz hSz; obtain ⟨z0, z1, z2, z3, y0, y1, y2, y3, y4, y5, y6⟩ := HSX.out wz hSz; go_simp; try with_reducible rfl)
      try simp only [Act.put, List.setIfInBounds_toArray, List.set_cons_zero, List.set_cons_succ]
      refine wpAnyH_ready (rs := [14]) (by kernel_rfl) (by simp) ?_
      refine AllReadyH.cons (o := { dst := some 29, op := Go.Op.call { callee := Go.Callee.value (Go.Operand.func 55), args := #[Go.Operand.tmp 28], argTypes := #[41] }, type := 72, pos := "chunk.go:20", after := #[{ on := 13, ground := Go.Ground.data }], guard := none }) rfl (fun K hK => ?_) AllReadyH.nil
      go_simp
      with_reducible refine (HBG.out _).mono ?_
      rintro r wn ⟨rfl, hbq⟩
      go_wp2_with fail
      refine hK.out _ _ (hS.trans (hbq.mono hS.size)) (fun hS1 => ?_)
      clear hK K hbq hS
      try simp only [Act.put, List.setIfInBounds_toArray, List.set_cons_zero, List.set_cons_succ]
      refine wpAnyH_take (i := 15) (oi := { dst := some 30, op := Go.Op.binOp Go.BinOp.neq 72 (Go.Operand.tmp 27) (Go.Operand.tmp 29) 72, type := 4, pos := "chunk.go:20", after := #[{ on := 12, ground := Go.Ground.data }, { on := 14, ground := Go.Ground.data }], guard := none }) (v := ?_) rfl (by kernel_rfl) (by kernel_rfl) (by kernel_rfl) (fun _ _ _ h => h) (Or.inl ⟨by rfl, ?_⟩) hS1 ?_
      rotate_left
      · (intro wz hSz; simp only [trV]; go_simp; try with_reducible rfl)
      try simp only [Act.put, List.setIfInBounds_toArray, List.set_cons_zero, List.set_cons_succ]
      refine wpAnyH_done (by kernel_rfl) ?_ _
      have HN4 := Lib.hid ((hS1.block _ (L.blk_lt HV.out)).trans HV.out)
      have HC4 := Lib.hid ((hS1.block _ (L.blk_lt HC0.out)).trans HC0.out)
      have c4 := boxed_cell HN4.out
      have f4 := L.blk_free HN4.out 0
      have HS1 := Lib.hid hS1
      clear hq
      gi_wp2
    · have e3 : ((pre ++ [(⟨(x0, x1, x2), ⟨⟨hx0, hx0'⟩, ⟨hx1, hx1'⟩, ⟨hx2, hx2'⟩⟩⟩ : TrB)]).length : Int) = (m : Int) + 1 := by rw [HMM.out]; simp
      refine ⟨((KeepsOthers.of_grownBy (grown_of HS1.out none) (fun j o e => by cases e)).trans (KeepsOthers.setCell _ _ _)).from _, ⟨(HS1.out.mono (by omega)).setCell (p := ⟨b0 + 1, 0, none⟩) (by show b0 ≤ b0 + 1; omega) _, fun k h1 h2 => (Below.heap_setCell wn ⟨b0 + 1, 0, none⟩ _ k (by show _ ≠ _; simp only; omega)).trans (HS1.out.block k (by omega))⟩, ⟨?_, ?_⟩, ?_, (HBW.out.trans (HS1.out.mono (by omega))).setCell (p := ⟨b0 + 1, 0, none⟩) (by show b0 ≤ b0 + 1; omega) _, by have := HS1.out.size; simp; omega⟩
      · rw [e3]
        exact L.blk_set HN4.out 0 _
      · exact (L.blk_far (by omega) _).trans HC4.out
      · rw [List.map_append, List.map_cons, List.map_nil]
        have h1 := HE.out
        have h2 := HRN.out
        rw [HMM.out] at h1
        have h3 := rn_on (l := pre.map (·.1)) (o := co) (a := cca) (b := ccb) (t := (x0, x1, x2)) (by rw [h2, List.length_map]) (by rw [List.length_map]; exact h1)
        rw [h3]; simp
    · refine ⟨(KeepsOthers.of_grownBy (grown_of HS1.out none) (fun j o e => by cases e)).from _, rfl, m, HN4.out, fun r => ?_, HBW.out.trans (HS1.out.mono (by omega)), by have := HS1.out.size; omega⟩
      rw [List.map_append, List.map_cons, List.map_nil]
      have h1 := HE.out
      have h2 := HRN.out
      rw [HMM.out] at h1
      have h3 := rn_off (l := pre.map (·.1)) (r := r) (o := co) (a := cca) (b := ccb) (t := (x0, x1, x2)) (by rw [h2, List.length_map]) (by rw [List.length_map]; exact h1)
      rw [h3, List.length_map, HMM.out]
  case done =>
    rintro D ys W hD hys ⟨⟨hv, hc0⟩, hrn, hB, hs4⟩ hK
    have hc := boxed_cell hv
    have HR : Hid ((ys.length : Int) = ((run p q (co, cca, ccb) : Nat) : Int)) := Lib.hid (by unfold run; simp only; rw [← hys, hrn])
    gi_wp2
    refine ⟨by simp, .inl ⟨_, _, rfl, run_takeDeferred hK, ?_⟩⟩
    refine ⟨_, results_tmp rfl _ _ _, by rw [HR.out]; rfl, ?_⟩
    rw [← HBE.out]
    exact hB.trans (belowK_b (w := w') (by omega) W D _ _ (by omega) hK rfl rfl)
  case stop =>
    rintro D c pre W hD ⟨r, hr⟩ ⟨rfl, m, hv, hrn, hB, hs4⟩ hK
    have hc := boxed_cell hv
    have HR : Hid ((m : Int) = ((run p q (co, cca, ccb) : Nat) : Int)) := Lib.hid (by unfold run; simp only; rw [← hr, hrn])
    gi_wp2
    refine ⟨by simp, .inl ⟨_, _, rfl, run_takeDeferred hK, ?_⟩⟩
    refine ⟨_, results_tmp rfl _ _ _, by rw [HR.out]; rfl, ?_⟩
    rw [← HBE.out]
    exact hB.trans (belowK_b (w := w') (by omega) W D _ _ (by omega) hK rfl rfl)


/-- What Next's boxes hold: the chunk, its four results, and the place at hand. -/
structure NS (b0 Bx : Nat) (cs : Array Value) (x0 x1 x2 v1 v2 v3 v4 : Value) (W wc : World) : Prop where
  bx : wc.heap[Bx]? = some (.cells #[x0, x1, x2] 72 (0, 0))
  c : wc.heap[b0]? = some (.cells cs 41 (0, 0))
  r1 : wc.heap[b0 + 1]? = some (.cells #[v1] 3 (0, 0))
  r2 : wc.heap[b0 + 1 + 1]? = some (.cells #[v2] 3 (0, 0))
  r3 : wc.heap[b0 + 1 + 1 + 1]? = some (.cells #[v3] 3 (0, 0))
  r4 : wc.heap[b0 + 1 + 1 + 1 + 1]? = some (.cells #[v4] 4 (0, 0))
  ko : KeepsOthers W wc
  be : Below b0 W wc
  sz : W.heap.size ≤ wc.heap.size
section
variable {b0 Bx : Nat} {cs : Array Value} {x0 x1 x2 v1 v2 v3 v4 : Value} {W wc : World}
theorem NS.s1 (s : NS b0 Bx cs x0 x1 x2 v1 v2 v3 v4 W wc) (hB : b0 + 5 ≤ Bx) (u : Value) : NS b0 Bx cs x0 x1 x2 u v2 v3 v4 W (wc.setCell ⟨b0 + 1, 0, none⟩ u) :=
  ⟨(L.blk_far (by omega) u).trans s.bx, (L.blk_far (by omega) u).trans s.c, L.blk_set s.r1 0 u, (L.blk_far (by omega) u).trans s.r2, (L.blk_far (by omega) u).trans s.r3, (L.blk_far (by omega) u).trans s.r4, s.ko.trans (KeepsOthers.setCell _ _ _), s.be.setCell (p := ⟨b0 + 1, 0, none⟩) (by show b0 ≤ b0 + 1; omega) u, by simpa using s.sz⟩
theorem NS.s2 (s : NS b0 Bx cs x0 x1 x2 v1 v2 v3 v4 W wc) (hB : b0 + 5 ≤ Bx) (u : Value) : NS b0 Bx cs x0 x1 x2 v1 u v3 v4 W (wc.setCell ⟨b0 + 1 + 1, 0, none⟩ u) :=
  ⟨(L.blk_far (by omega) u).trans s.bx, (L.blk_far (by omega) u).trans s.c, (L.blk_far (by omega) u).trans s.r1, L.blk_set s.r2 0 u, (L.blk_far (by omega) u).trans s.r3, (L.blk_far (by omega) u).trans s.r4, s.ko.trans (KeepsOthers.setCell _ _ _), s.be.setCell (p := ⟨b0 + 1 + 1, 0, none⟩) (by show b0 ≤ b0 + 1 + 1; omega) u, by simpa using s.sz⟩
theorem NS.s3 (s : NS b0 Bx cs x0 x1 x2 v1 v2 v3 v4 W wc) (hB : b0 + 5 ≤ Bx) (u : Value) : NS b0 Bx cs x0 x1 x2 v1 v2 u v4 W (wc.setCell ⟨b0 + 1 + 1 + 1, 0, none⟩ u) :=
  ⟨(L.blk_far (by omega) u).trans s.bx, (L.blk_far (by omega) u).trans s.c, (L.blk_far (by omega) u).trans s.r1, (L.blk_far (by omega) u).trans s.r2, L.blk_set s.r3 0 u, (L.blk_far (by omega) u).trans s.r4, s.ko.trans (KeepsOthers.setCell _ _ _), s.be.setCell (p := ⟨b0 + 1 + 1 + 1, 0, none⟩) (by show b0 ≤ b0 + 1 + 1 + 1; omega) u, by simpa using s.sz⟩
theorem NS.s4 (s : NS b0 Bx cs x0 x1 x2 v1 v2 v3 v4 W wc) (hB : b0 + 5 ≤ Bx) (u : Value) : NS b0 Bx cs x0 x1 x2 v1 v2 v3 u W (wc.setCell ⟨b0 + 1 + 1 + 1 + 1, 0, none⟩ u) :=
  ⟨(L.blk_far (by omega) u).trans s.bx, (L.blk_far (by omega) u).trans s.c, (L.blk_far (by omega) u).trans s.r1, (L.blk_far (by omega) u).trans s.r2, (L.blk_far (by omega) u).trans s.r3, L.blk_set s.r4 0 u, s.ko.trans (KeepsOthers.setCell _ _ _), s.be.setCell (p := ⟨b0 + 1 + 1 + 1 + 1, 0, none⟩) (by show b0 ≤ b0 + 1 + 1 + 1 + 1; omega) u, by simpa using s.sz⟩
end

theorem next_rest {W w : World} {b0 D : Nat} {v1 v2 v3 v4 : Value} (g1 : W.heap[b0 + 1]? = some (.cells #[v1] 3 (0, 0))) (g2 : W.heap[b0 + 1 + 1]? = some (.cells #[v2] 3 (0, 0))) (g3 : W.heap[b0 + 1 + 1 + 1]? = some (.cells #[v3] 3 (0, 0))) (g4 : W.heap[b0 + 1 + 1 + 1 + 1]? = some (.cells #[v4] 4 (0, 0))) (hK : W.heap[D]? = some (.deferred (some []))) (hD : b0 + 8 ≤ D) (hB : Below b0 w W) (hs : b0 + 8 ≤ W.heap.size) :
    W.heap[D]? = some (.deferred (some [])) ∧ (W.putObj D (.deferred none)).cell? ⟨b0 + 1, 0, none⟩ = some v1 ∧ (W.putObj D (.deferred none)).cell? ⟨b0 + 1 + 1, 0, none⟩ = some v2 ∧ (W.putObj D (.deferred none)).cell? ⟨b0 + 1 + 1 + 1, 0, none⟩ = some v3 ∧ (W.putObj D (.deferred none)).cell? ⟨b0 + 1 + 1 + 1 + 1, 0, none⟩ = some v4 ∧ Below b0 w (W.putObj D (.deferred none)) := by
  have hg := grownBy_putObj' W D (.deferred none)
  have hb := (Below.refl b0 W).grown hg (by omega) (fun k e => by cases e; omega)
  exact ⟨hK, boxed_cell (V.blk_grown g1 hg (by simp; omega)), boxed_cell (V.blk_grown g2 hg (by simp; omega)), boxed_cell (V.blk_grown g3 hg (by simp; omega)), boxed_cell (V.blk_grown g4 hg (by simp; omega)), hB.trans hb⟩
theorem next_end {W W2 w : World} {b0 D : Nat} {v1 v2 v3 v4 x1 x2 x3 x4 : Value} (g1 : W.heap[b0 + 1]? = some (.cells #[v1] 3 (0, 0))) (g2 : W.heap[b0 + 1 + 1]? = some (.cells #[v2] 3 (0, 0))) (g3 : W.heap[b0 + 1 + 1 + 1]? = some (.cells #[v3] 3 (0, 0))) (g4 : W.heap[b0 + 1 + 1 + 1 + 1]? = some (.cells #[v4] 4 (0, 0))) (hK : W.heap[D]? = some (.deferred (some []))) (hD : b0 + 8 ≤ D) (hB : Below b0 w W) (hs : b0 + 8 ≤ W.heap.size)
    (hW2 : W2 = (((W.setCell ⟨b0 + 1, 0, none⟩ x1).setCell ⟨b0 + 1 + 1, 0, none⟩ x2).setCell ⟨b0 + 1 + 1 + 1, 0, none⟩ x3).setCell ⟨b0 + 1 + 1 + 1 + 1, 0, none⟩ x4) :
    W2.heap[D]? = some (.deferred (some [])) ∧ (W2.putObj D (.deferred none)).cell? ⟨b0 + 1, 0, none⟩ = some x1 ∧ (W2.putObj D (.deferred none)).cell? ⟨b0 + 1 + 1, 0, none⟩ = some x2 ∧ (W2.putObj D (.deferred none)).cell? ⟨b0 + 1 + 1 + 1, 0, none⟩ = some x3 ∧ (W2.putObj D (.deferred none)).cell? ⟨b0 + 1 + 1 + 1 + 1, 0, none⟩ = some x4 ∧ Below b0 w (W2.putObj D (.deferred none)) := by
  rw [hW2]
  have ne : ∀ j, j < 8 → D ≠ b0 + j := fun j h => by omega
  refine next_rest (v1 := x1) (v2 := x2) (v3 := x3) (v4 := x4) ?_ ?_ ?_ ?_ ?_ hD ?_ (by simpa using hs)
  · exact (L.blk_far (by omega) _).trans ((L.blk_far (by omega) _).trans ((L.blk_far (by omega) _).trans (L.blk_set g1 0 x1)))
  · exact (L.blk_far (by omega) _).trans ((L.blk_far (by omega) _).trans (L.blk_set ((L.blk_far (by omega) _).trans g2) 0 x2))
  · exact (L.blk_far (by omega) _).trans (L.blk_set ((L.blk_far (by omega) _).trans ((L.blk_far (by omega) _).trans g3)) 0 x3)
  · exact L.blk_set ((L.blk_far (by omega) _).trans ((L.blk_far (by omega) _).trans ((L.blk_far (by omega) _).trans g4))) 0 x4
  · exact (L.blk_far (by omega) _).trans ((L.blk_far (by omega) _).trans ((L.blk_far (by omega) _).trans ((L.blk_far (by omega) _).trans hK)))
  · exact (((hB.setCell (p := ⟨b0 + 1, 0, none⟩) (by show b0 ≤ b0 + 1; omega) _).setCell (p := ⟨b0 + 1 + 1, 0, none⟩) (by show b0 ≤ b0 + 1 + 1; omega) _).setCell (p := ⟨b0 + 1 + 1 + 1, 0, none⟩) (by show b0 ≤ b0 + 1 + 1 + 1; omega) _).setCell (p := ⟨b0 + 1 + 1 + 1 + 1, 0, none⟩) (by show b0 ≤ b0 + 1 + 1 + 1 + 1; omega) _
def nxV (o : Option Tr) : Value := .tuple #[.int .i64 (o.getD (0, 0, 0)).1, .int .i64 (o.getD (0, 0, 0)).2.1, .int .i64 (o.getD (0, 0, 0)).2.2, .bool o.isSome]
theorem nx_on {l : List Tr} {a b : Int} {t : Tr} (h : nx l a b = none) (ht : a ≤ t.2.1 ∧ b ≤ t.2.2) (r : List Tr) : nx (l ++ [t] ++ r) a b = some t := by
  unfold nx at h ⊢
  rw [List.append_assoc, List.find?_append, h]
  simp [List.find?_cons, ht.1, ht.2]
theorem nx_off {l : List Tr} {a b : Int} {t : Tr} (h : nx l a b = none) (ht : ¬ (a ≤ t.2.1 ∧ b ≤ t.2.2)) : nx (l ++ [t]) a b = none := by
  unfold nx at h ⊢
  rw [List.find?_append, h]
  simp only [Option.none_or, List.find?_cons, List.find?_nil]
  have : (decide (a ≤ t.2.1) && decide (b ≤ t.2.2)) = false := by
    rw [Bool.eq_false_iff]
    intro h
    simp only [Bool.and_eq_true, decide_eq_true_eq] at h
    exact ht h
  rw [this]
set_option maxRecDepth 100000 in
set_option maxHeartbeats 4000000 in
theorem next_in' (n : Nat) (hn : 6 ≤ n) (A B : Option Addr) (ca cb : Nat) (p q : List Pr) (c : Ck) (w : World) (hp : p.Pairwise fun p q => p.1 < q.1) (hqp : q.Pairwise fun p q => p.1 < q.1) (hpl : p.length ≤ 1000) (hql : q.length ≤ 1000) (hpk : okp p) (hqk : okp q) (hA : PrIn w A p) (hB : PrIn w B q) :
    CallsIn Fence.wide n Try.prog 60 #[.slice A p.length ca, .slice B q.length cb, ckV c] w fun e w' => e = .returned (nxV (nxt p q (c.o, c.a, c.b))) ∧ Below w.heap.size w w' := by
  have h1 : 1 ≤ n := by omega
  obtain ⟨cst, co, con, cca, can, ccb, cbn⟩ := c
  simp only [ckV]
  obtain ⟨W0, hW0⟩ : ∃ W : World, W = (((((((w.alloc (.cells #[.bool cst, .int .i64 co, .int .i64 con, .int .i64 cca, .int .i64 can, .int .i64 ccb, .int .i64 cbn] 41)).alloc (.cells #[.int .i64 0] 3)).alloc (.cells #[.int .i64 0] 3)).alloc (.cells #[.int .i64 0] 3)).alloc (.cells #[.bool false] 4)).alloc (.cells #[.slice A p.length ca] 23)).alloc (.cells #[.slice B q.length cb] 23)).alloc (.cells #[.int .i64 co] 3) := ⟨_, rfl⟩
  have HM : Hid (W0.heap.size = w.heap.size + 1 + 1 + 1 + 1 + 1 + 1 + 1 + 1 ∧ Below w.heap.size w W0 ∧ W0.heap[w.heap.size]? = some (.cells #[.bool cst, .int .i64 co, .int .i64 con, .int .i64 cca, .int .i64 can, .int .i64 ccb, .int .i64 cbn] 41 (0, 0)) ∧ W0.heap[w.heap.size + 1]? = some (.cells #[.int .i64 0] 3 (0, 0)) ∧ W0.heap[w.heap.size + 1 + 1]? = some (.cells #[.int .i64 0] 3 (0, 0)) ∧ W0.heap[w.heap.size + 1 + 1 + 1]? = some (.cells #[.int .i64 0] 3 (0, 0)) ∧ W0.heap[w.heap.size + 1 + 1 + 1 + 1]? = some (.cells #[.bool false] 4 (0, 0)) ∧ W0.heap[w.heap.size + 1 + 1 + 1 + 1 + 1]? = some (.cells #[.slice A p.length ca] 23 (0, 0)) ∧ W0.heap[w.heap.size + 1 + 1 + 1 + 1 + 1 + 1]? = some (.cells #[.slice B q.length cb] 23 (0, 0)) ∧ W0.heap[w.heap.size + 1 + 1 + 1 + 1 + 1 + 1 + 1]? = some (.cells #[.int .i64 co] 3 (0, 0))) := Lib.hid (by
    rw [hW0]
    refine ⟨by simp, (((((((alloc1 _ _).alloc (by simp) _).alloc (by simp; omega) _).alloc (by simp; omega) _).alloc (by simp; omega) _).alloc (by simp; omega) _).alloc (by simp; omega) _).alloc (by simp; omega) _, ?_, ?_, ?_, ?_, ?_, ?_, ?_, ?_⟩
    · exact V.alloc_old _ (V.alloc_old _ (V.alloc_old _ (V.alloc_old _ (V.alloc_old _ (V.alloc_old _ (V.alloc_old _ (V.alloc_at _ rfl)))))))
    · exact V.alloc_old _ (V.alloc_old _ (V.alloc_old _ (V.alloc_old _ (V.alloc_old _ (V.alloc_old _ (V.alloc_at _ (by simp)))))))
    · exact V.alloc_old _ (V.alloc_old _ (V.alloc_old _ (V.alloc_old _ (V.alloc_old _ (V.alloc_at _ (by simp))))))
    · exact V.alloc_old _ (V.alloc_old _ (V.alloc_old _ (V.alloc_old _ (V.alloc_at _ (by simp)))))
    · exact V.alloc_old _ (V.alloc_old _ (V.alloc_old _ (V.alloc_at _ (by simp))))
    · exact V.alloc_old _ (V.alloc_old _ (V.alloc_at _ (by simp)))
    · exact V.alloc_old _ (V.alloc_at _ (by simp))
    · exact V.alloc_at _ (by simp))
  refine callsIn_of_wp_marks Try.func60 rfl trivial ?_ rfl
  simp only [Try.ntmps60, List.size_toArray, List.length_cons, List.length_nil, Nat.reduceAdd, Nat.reduceSub, Array.replicate_succ, Array.replicate_zero, List.push_toArray, List.append_toArray, List.nil_append, List.cons_append]
  gi_wp2
  refine ⟨trivial, ?_⟩
  refine (shared_in (n - 1) A B p.length ca q.length cb co _).mono ?_
  rintro e w' ⟨rfl, hw'⟩
  rw [← hW0] at hw'
  subst hw'
  simp only [World.size_alloc]
  obtain ⟨hsz, hB0, k0, k1, k2, k3, k4, k5, k6, k7⟩ := HM.out
  clear hW0 HM
  obtain ⟨b0, hb0⟩ : ∃ b, b = w.heap.size := ⟨_, rfl⟩
  rw [← hb0] at hsz hB0 k0 k1 k2 k3 k4 k5 k6 k7 ⊢
  have HPA := Lib.hid ((PrLow.of hA).kept (by rw [← hb0]; exact hB0))
  have HPB := Lib.hid ((PrLow.of hB).kept (by rw [← hb0]; exact hB0))
  rw [← hb0] at HPA HPB
  have HBE := Lib.hid hb0
  have hbw : b0 ≤ w.heap.size := by omega
  clear hb0
  gi_wp2
  refine wpIn_rangeFunc_ownH rfl h1 (gf := 63) (lb := #[.pointer (some ⟨b0 + 1 + 1 + 1 + 1 + 1, 0, none⟩), .pointer (some ⟨b0 + 1 + 1 + 1 + 1 + 1 + 1 + 1, 0, none⟩), .pointer (some ⟨b0 + 1 + 1 + 1 + 1 + 1 + 1, 0, none⟩)]) rfl trivial (enters_of Try.func63 (by kernel_rfl) rfl)
    (shared_stops (n - 1) (by omega) (b0 + 1 + 1 + 1 + 1 + 1) (b0 + 1 + 1 + 1 + 1 + 1 + 1 + 1) (b0 + 1 + 1 + 1 + 1 + 1 + 1) b0 (b0 + 5) (b0 + 8) ca cb A B p q co hp hqp hpl hql hpk hqk (by omega) (by omega) w' (by omega) (by omega) k5 (boxed_cell k7) k6 HPA.out HPB.out) KpZ.t (KpZ.b (by omega) (by omega)) (Below.refl _ _) (fun _ => rfl)
    (fun (pre : List TrB) W => (W.heap[b0]? = some (.cells #[.bool cst, .int .i64 co, .int .i64 con, .int .i64 cca, .int .i64 can, .int .i64 ccb, .int .i64 cbn] 41 (0, 0)) ∧ W.heap[b0 + 1]? = some (.cells #[.int .i64 0] 3 (0, 0)) ∧ W.heap[b0 + 1 + 1]? = some (.cells #[.int .i64 0] 3 (0, 0)) ∧ W.heap[b0 + 1 + 1 + 1]? = some (.cells #[.int .i64 0] 3 (0, 0)) ∧ W.heap[b0 + 1 + 1 + 1 + 1]? = some (.cells #[.bool false] 4 (0, 0))) ∧ (nx (pre.map (·.1)) cca ccb = none ∧ Below b0 w W ∧ b0 + 8 ≤ W.heap.size))
    (fun c (pre : List TrB) W => c = .ret ∧ ∃ t : Tr, (W.heap[b0]? = some (.cells #[.bool cst, .int .i64 co, .int .i64 con, .int .i64 cca, .int .i64 can, .int .i64 ccb, .int .i64 cbn] 41 (0, 0)) ∧ W.heap[b0 + 1]? = some (.cells #[.int .i64 t.1] 3 (0, 0)) ∧ W.heap[b0 + 1 + 1]? = some (.cells #[.int .i64 t.2.1] 3 (0, 0)) ∧ W.heap[b0 + 1 + 1 + 1]? = some (.cells #[.int .i64 t.2.2] 3 (0, 0)) ∧ W.heap[b0 + 1 + 1 + 1 + 1]? = some (.cells #[.bool true] 4 (0, 0))) ∧ ((∀ r, nx (pre.map (·.1) ++ r) cca ccb = some t) ∧ Below b0 w W ∧ b0 + 8 ≤ W.heap.size))
    (OwnFrom.and (fun pre X Y row hs hg hr => ⟨V.blk_grown hs.1 hg (V.row_cells hs.1 (fun r hr' => (hr r hr').2)), V.blk_grown hs.2.1 hg (V.row_cells hs.2.1 (fun r hr' => (hr r hr').2)), V.blk_grown hs.2.2.1 hg (V.row_cells hs.2.2.1 (fun r hr' => (hr r hr').2)), V.blk_grown hs.2.2.2.1 hg (V.row_cells hs.2.2.2.1 (fun r hr' => (hr r hr').2)), V.blk_grown hs.2.2.2.2 hg (V.row_cells hs.2.2.2.2 (fun r hr' => (hr r hr').2))⟩) (OwnFrom.and (ownFrom_pure _ _) (OwnFrom.and (ownFrom_below hbw (by omega)) (fun _ _ _ _ hs hg _ => boxed_le hs hg))))
    (fun _ => fun pre X Y row hs hg hr => by
      obtain ⟨h0, t, h1, h2, h3, h4⟩ := hs
      exact ⟨h0, t, (⟨V.blk_grown h1.1 hg (V.row_cells h1.1 (fun r hr' => (hr r hr').2)), V.blk_grown h1.2.1 hg (V.row_cells h1.2.1 (fun r hr' => (hr r hr').2)), V.blk_grown h1.2.2.1 hg (V.row_cells h1.2.2.1 (fun r hr' => (hr r hr').2)), V.blk_grown h1.2.2.2.1 hg (V.row_cells h1.2.2.2.1 (fun r hr' => (hr r hr').2)), V.blk_grown h1.2.2.2.2 hg (V.row_cells h1.2.2.2.2 (fun r hr' => (hr r hr').2))⟩), h2, ownFrom_below hbw (by omega) pre X Y row h3 hg hr, boxed_le h4 hg⟩)
    ⟨⟨k0, k1, k2, k3, k4⟩, rfl, hB0, by omega⟩
    (fun (x : TrB) a' W => ∃ Bx, b0 + 8 ≤ Bx ∧ W.heap[Bx]? = some (.cells #[.int .i64 x.1.1, .int .i64 x.1.2.1, .int .i64 x.1.2.2] 72 (0, 0)) ∧ a' = { tmps := #[.slice A p.length ca, .slice B q.length cb, .agg #[.bool cst, .int .i64 co, .int .i64 con, .int .i64 cca, .int .i64 can, .int .i64 ccb, .int .i64 cbn], undef, undef, .pointer (some ⟨b0, 0, none⟩), .pointer (some ⟨b0 + 1, 0, none⟩), .pointer (some ⟨b0 + 1 + 1, 0, none⟩), .pointer (some ⟨b0 + 1 + 1 + 1, 0, none⟩), .pointer (some ⟨b0 + 1 + 1 + 1 + 1, 0, none⟩), .pointer (some ⟨Bx, 0, none⟩), .slice A p.length ca, .slice B q.length cb, .pointer (some ⟨b0, 1, none⟩), .int .i64 co, .func (.func 63) #[] #[.pointer (some ⟨b0 + 1 + 1 + 1 + 1 + 1, 0, none⟩), .pointer (some ⟨b0 + 1 + 1 + 1 + 1 + 1 + 1 + 1, 0, none⟩), .pointer (some ⟨b0 + 1 + 1 + 1 + 1 + 1 + 1, 0, none⟩)], .agg #[.int .i64 x.1.1, .int .i64 x.1.2.1, .int .i64 x.1.2.2], undef, undef, undef, undef, undef, undef, undef, undef, undef, undef, undef, undef, undef, undef, undef, undef, undef, undef], defers := [] })
    (fun x a' _ X Y row hs hg hr => by
      obtain ⟨Bx, h1, h2, h3⟩ := hs
      exact ⟨Bx, h1, (hg.block Bx (L.blk_lt h2) (fun e => by
        obtain ⟨_, o, ho, hc⟩ := hr Bx e.symm
        rw [h2] at ho; cases ho; cases hc)).trans h2, h3⟩)
    ?assign ?body ?done ?stop
  case assign =>
    rintro lp pre x W K ⟨⟨g0, g1, g2, g3, g4⟩, hrn, hB, hs4⟩ hK
    dsimp only [trV] at hK ⊢
    gi_wp2
    exact hK _ _ ((KeepsOthers.alloc _ _).from _) (KpZ.of (alloc1 _ _) (by omega) (by omega)) ⟨⟨V.alloc_old _ g0, V.alloc_old _ g1, V.alloc_old _ g2, V.alloc_old _ g3, V.alloc_old _ g4⟩, hrn, hB.alloc (by omega) _, by simp; omega⟩ ⟨W.heap.size, by omega, heap_alloc_new W _, rfl⟩
  case body =>
    rintro lp pre x a' W hlp ⟨r, hr⟩ ⟨⟨g0, g1, g2, g3, g4⟩, hrn, hB, hs4⟩ ⟨Bx, hBx, hbX, rfl⟩ hlt
    obtain ⟨⟨x0, x1, x2⟩, ⟨hx0, hx0'⟩, ⟨hx1, hx1'⟩, ⟨hx2, hx2'⟩⟩ := x
    simp only at hx0 hx0' hx1 hx1' hx2 hx2' hbX ⊢
    have HRN := Lib.hid hrn
    have HBW := Lib.hid hB
    have HG := Lib.hid (And.intro g0 (And.intro g1 (And.intro g2 (And.intro g3 g4))))
    have d0 := L.blk_cell hbX 0
    have d1 := L.blk_cell hbX 1
    have d2 := L.blk_cell hbX 2
    have y3 := L.blk_cell g0 3
    have y5 := L.blk_cell g0 5
    simp only [List.getElem?_toArray, List.getElem?_cons_zero, List.getElem?_cons_succ] at d0 d1 d2 y3 y5
    have HX := Lib.hid hbX
    clear hbX hr hrn hlt hlp hB g0 g1 g2 g3 g4 k0 k1 k2 k3 k4 k5 k6 k7 hA HPA HPB hp hpk hqk hqp
    by_cases h6 : cca ≤ x1
    · by_cases h7 : ccb ≤ x2
      · have HND := Lib.hid (show NS b0 Bx #[.bool cst, .int .i64 co, .int .i64 con, .int .i64 cca, .int .i64 can, .int .i64 ccb, .int .i64 cbn] (.int .i64 x0) (.int .i64 x1) (.int .i64 x2) (.int .i64 0) (.int .i64 0) (.int .i64 0) (.bool false) W W.drew from ⟨HX.out, HG.out.1, HG.out.2.1, HG.out.2.2.1, HG.out.2.2.2.1, HG.out.2.2.2.2, KeepsOthers.drew _, (drawn_below W 1).mono (by omega), Nat.le_refl _⟩)
        have hBx5 : b0 + 5 ≤ Bx := by omega
        gi_wp2
        refine region_round (S := fun wz => wz.heap[Bx]? = some (.cells #[.int .i64 x0, .int .i64 x1, .int .i64 x2] 72 (0, 0))) (by kernel_rfl) (by kernel_rfl) (fun h => ?_) HND.out.bx (fun hS => ?_)
        · obtain ⟨_, _, h⟩ := h
          exact h.elim
        clear d0 d1 d2 y3 y5
        generalize W.drew = wc at *

        refine wpAnyH_take (i := 0) (oi := { dst := some 29, op := Go.Op.indexAddr 72 (Go.Operand.tmp 10) (Go.Operand.const (Go.Value.int Go.IntKind.i64 0)), type := 0, pos := "chunk.go:32", after := #[], guard := none }) (v := ?_) rfl (by kernel_rfl) (by kernel_rfl) (by kernel_rfl) (fun _ _ _ h => h) (Or.inl ⟨by rfl, ?_⟩) hS ?_
        rotate_left
        · (intro wz hSz; have e0 := L.blk_cell hSz 0; have e1 := L.blk_cell hSz 1; have e2 := L.blk_cell hSz 2; simp only [List.getElem?_toArray, List.getElem?_cons_zero, List.getElem?_cons_succ] at e0 e1 e2; go_simp; try with_reducible rfl)
        try simp only [Act.put, List.setIfInBounds_toArray, List.set_cons_zero, List.set_cons_succ]
        refine wpAnyH_take (i := 1) (oi := { dst := some 30, op := Go.Op.load 3 (Go.Operand.tmp 29), type := 3, pos := "chunk.go:32", after := #[{ on := 0, ground := Go.Ground.data }], guard := none }) (v := ?_) rfl (by kernel_rfl) (by kernel_rfl) (by kernel_rfl) (fun _ _ _ h => h) (Or.inl ⟨by rfl, ?_⟩) hS ?_
        rotate_left
        · (intro wz hSz; have e0 := L.blk_cell hSz 0; have e1 := L.blk_cell hSz 1; have e2 := L.blk_cell hSz 2; simp only [List.getElem?_toArray, List.getElem?_cons_zero, List.getElem?_cons_succ] at e0 e1 e2; go_simp; try with_reducible rfl)
        try simp only [Act.put, List.setIfInBounds_toArray, List.set_cons_zero, List.set_cons_succ]
        refine wpAnyH_take (i := 2) (oi := { dst := some 31, op := Go.Op.indexAddr 72 (Go.Operand.tmp 10) (Go.Operand.const (Go.Value.int Go.IntKind.i64 1)), type := 0, pos := "chunk.go:32", after := #[], guard := none }) (v := ?_) rfl (by kernel_rfl) (by kernel_rfl) (by kernel_rfl) (fun _ _ _ h => h) (Or.inl ⟨by rfl, ?_⟩) hS ?_
        rotate_left
        · (intro wz hSz; have e0 := L.blk_cell hSz 0; have e1 := L.blk_cell hSz 1; have e2 := L.blk_cell hSz 2; simp only [List.getElem?_toArray, List.getElem?_cons_zero, List.getElem?_cons_succ] at e0 e1 e2; go_simp; try with_reducible rfl)
        try simp only [Act.put, List.setIfInBounds_toArray, List.set_cons_zero, List.set_cons_succ]
        refine wpAnyH_take (i := 3) (oi := { dst := some 32, op := Go.Op.load 3 (Go.Operand.tmp 31), type := 3, pos := "chunk.go:32", after := #[{ on := 2, ground := Go.Ground.data }], guard := none }) (v := ?_) rfl (by kernel_rfl) (by kernel_rfl) (by kernel_rfl) (fun _ _ _ h => h) (Or.inl ⟨by rfl, ?_⟩) hS ?_
        rotate_left
        · (intro wz hSz; have e0 := L.blk_cell hSz 0; have e1 := L.blk_cell hSz 1; have e2 := L.blk_cell hSz 2; simp only [List.getElem?_toArray, List.getElem?_cons_zero, List.getElem?_cons_succ] at e0 e1 e2; go_simp; try with_reducible rfl)
        try simp only [Act.put, List.setIfInBounds_toArray, List.set_cons_zero, List.set_cons_succ]
        refine wpAnyH_take (i := 4) (oi := { dst := some 33, op := Go.Op.indexAddr 72 (Go.Operand.tmp 10) (Go.Operand.const (Go.Value.int Go.IntKind.i64 2)), type := 0, pos := "chunk.go:32", after := #[], guard := none }) (v := ?_) rfl (by kernel_rfl) (by kernel_rfl) (by kernel_rfl) (fun _ _ _ h => h) (Or.inl ⟨by rfl, ?_⟩) hS ?_
        rotate_left
        · (intro wz hSz; have e0 := L.blk_cell hSz 0; have e1 := L.blk_cell hSz 1; have e2 := L.blk_cell hSz 2; simp only [List.getElem?_toArray, List.getElem?_cons_zero, List.getElem?_cons_succ] at e0 e1 e2; go_simp; try with_reducible rfl)
        try simp only [Act.put, List.setIfInBounds_toArray, List.set_cons_zero, List.set_cons_succ]
        refine wpAnyH_take (i := 5) (oi := { dst := some 34, op := Go.Op.load 3 (Go.Operand.tmp 33), type := 3, pos := "chunk.go:32", after := #[{ on := 4, ground := Go.Ground.data }], guard := none }) (v := ?_) rfl (by kernel_rfl) (by kernel_rfl) (by kernel_rfl) (fun _ _ _ h => h) (Or.inl ⟨by rfl, ?_⟩) hS ?_
        rotate_left
        · (intro wz hSz; have e0 := L.blk_cell hSz 0; have e1 := L.blk_cell hSz 1; have e2 := L.blk_cell hSz 2; simp only [List.getElem?_toArray, List.getElem?_cons_zero, List.getElem?_cons_succ] at e0 e1 e2; go_simp; try with_reducible rfl)
        try simp only [Act.put, List.setIfInBounds_toArray, List.set_cons_zero, List.set_cons_succ]
        have c0 := boxed_cell HND.out.r1
        have f0 := L.blk_free HND.out.r1 0
        refine wpAnyH_ready (rs := [6]) (by kernel_rfl) (by simp) ?_
        refine AllReadyH.cons (o := { dst := none, op := Go.Op.store 3 (Go.Operand.tmp 6) (Go.Operand.tmp 30), type := 0, pos := "chunk.go:32", after := #[{ on := 1, ground := Go.Ground.data }, { on := 0, ground := Go.Ground.phase }, { on := 1, ground := Go.Ground.phase }, { on := 2, ground := Go.Ground.textOnly Go.Departure.inlinedCapture }, { on := 3, ground := Go.Ground.textOnly Go.Departure.inlinedCapture }, { on := 4, ground := Go.Ground.textOnly Go.Departure.inlinedCapture }, { on := 5, ground := Go.Ground.textOnly Go.Departure.inlinedCapture }], guard := none }) rfl (fun K hK => ?_) AllReadyH.nil
        go_simp
        refine hK.out _ _ ((L.blk_far (g := Bx) (by omega) _).trans hS) (fun hS1 => ?_)
        replace HND := Lib.hid (HND.out.s1 hBx5 (.int .i64 x0))
        clear hK K c0 f0 hS
        have hS := hS1
        clear hS1
        generalize wc.setCell ⟨b0 + 1, 0, none⟩ (.int .i64 x0) = wd at *
        clear wc
        generalize hwc : wd = wc at *
        clear hwc wd
        try simp only [Act.put, List.setIfInBounds_toArray, List.set_cons_zero, List.set_cons_succ]
        have c0 := boxed_cell HND.out.r2
        have f0 := L.blk_free HND.out.r2 0
        refine wpAnyH_ready (rs := [7]) (by kernel_rfl) (by simp) ?_
        refine AllReadyH.cons (o := { dst := none, op := Go.Op.store 3 (Go.Operand.tmp 7) (Go.Operand.tmp 32), type := 0, pos := "chunk.go:32", after := #[{ on := 3, ground := Go.Ground.data }, { on := 6, ground := Go.Ground.chain }, { on := 0, ground := Go.Ground.phase }, { on := 1, ground := Go.Ground.phase }, { on := 2, ground := Go.Ground.phase }, { on := 3, ground := Go.Ground.phase }, { on := 4, ground := Go.Ground.textOnly Go.Departure.inlinedCapture }, { on := 5, ground := Go.Ground.textOnly Go.Departure.inlinedCapture }, { on := 6, ground := Go.Ground.phase }], guard := none }) rfl (fun K hK => ?_) AllReadyH.nil
        go_simp
        refine hK.out _ _ ((L.blk_far (g := Bx) (by omega) _).trans hS) (fun hS1 => ?_)
        replace HND := Lib.hid (HND.out.s2 hBx5 (.int .i64 x1))
        clear hK K c0 f0 hS
        have hS := hS1
        clear hS1
        generalize wc.setCell ⟨b0 + 1 + 1, 0, none⟩ (.int .i64 x1) = wd at *
        clear wc
        generalize hwc : wd = wc at *
        clear hwc wd
        try simp only [Act.put, List.setIfInBounds_toArray, List.set_cons_zero, List.set_cons_succ]
        have c0 := boxed_cell HND.out.r3
        have f0 := L.blk_free HND.out.r3 0
        refine wpAnyH_ready (rs := [8]) (by kernel_rfl) (by simp) ?_
        refine AllReadyH.cons (o := { dst := none, op := Go.Op.store 3 (Go.Operand.tmp 8) (Go.Operand.tmp 34), type := 0, pos := "chunk.go:32", after := #[{ on := 5, ground := Go.Ground.data }, { on := 7, ground := Go.Ground.chain }, { on := 0, ground := Go.Ground.phase }, { on := 1, ground := Go.Ground.phase }, { on := 2, ground := Go.Ground.phase }, { on := 3, ground := Go.Ground.phase }, { on := 4, ground := Go.Ground.phase }, { on := 5, ground := Go.Ground.phase }, { on := 6, ground := Go.Ground.phase }, { on := 7, ground := Go.Ground.phase }], guard := none }) rfl (fun K hK => ?_) AllReadyH.nil
        go_simp
        refine hK.out _ _ ((L.blk_far (g := Bx) (by omega) _).trans hS) (fun hS1 => ?_)
        replace HND := Lib.hid (HND.out.s3 hBx5 (.int .i64 x2))
        clear hK K c0 f0 hS
        have hS := hS1
        clear hS1
        generalize wc.setCell ⟨b0 + 1 + 1 + 1, 0, none⟩ (.int .i64 x2) = wd at *
        clear wc
        generalize hwc : wd = wc at *
        clear hwc wd
        try simp only [Act.put, List.setIfInBounds_toArray, List.set_cons_zero, List.set_cons_succ]
        have c0 := boxed_cell HND.out.r4
        have f0 := L.blk_free HND.out.r4 0
        refine wpAnyH_ready (rs := [9]) (by kernel_rfl) (by simp) ?_
        refine AllReadyH.cons (o := { dst := none, op := Go.Op.store 4 (Go.Operand.tmp 9) (Go.Operand.const (Go.Value.bool true)), type := 0, pos := "chunk.go:32", after := #[{ on := 8, ground := Go.Ground.chain }, { on := 0, ground := Go.Ground.phase }, { on := 1, ground := Go.Ground.phase }, { on := 2, ground := Go.Ground.phase }, { on := 3, ground := Go.Ground.phase }, { on := 4, ground := Go.Ground.phase }, { on := 5, ground := Go.Ground.phase }, { on := 6, ground := Go.Ground.phase }, { on := 7, ground := Go.Ground.phase }, { on := 8, ground := Go.Ground.phase }], guard := none }) rfl (fun K hK => ?_) AllReadyH.nil
        go_simp
        refine hK.out _ _ ((L.blk_far (g := Bx) (by omega) _).trans hS) (fun hS1 => ?_)
        replace HND := Lib.hid (HND.out.s4 hBx5 (.bool true))
        clear hK K c0 f0 hS
        have hS := hS1
        clear hS1
        generalize wc.setCell ⟨b0 + 1 + 1 + 1 + 1, 0, none⟩ (.bool true) = wd at *
        clear wc
        generalize hwc : wd = wc at *
        clear hwc wd
        try simp only [Act.put, List.setIfInBounds_toArray, List.set_cons_zero, List.set_cons_succ]
        refine wpAnyH_done (by kernel_rfl) ?_ _
        gi_wp2
        have hsd := HND.out.sz
        refine ⟨HND.out.ko.from _, rfl, (x0, x1, x2), ⟨HND.out.c, HND.out.r1, HND.out.r2, HND.out.r3, HND.out.r4⟩, fun r => ?_, HBW.out.trans HND.out.be, by omega⟩
        rw [List.map_append, List.map_cons, List.map_nil]
        exact nx_on HRN.out ⟨h6, h7⟩ r
      · have HE := Lib.hid (nx_off (t := (x0, x1, x2)) HRN.out (fun h => h7 h.2))
        gi_wp2
        refine ⟨(KeepsOthers.refl _).from _, KpZ.refl _ _ _ _, HG.out, ?_, HBW.out, hs4⟩
        rw [List.map_append, List.map_cons, List.map_nil]
        exact HE.out
    · have HE := Lib.hid (nx_off (t := (x0, x1, x2)) HRN.out (fun h => h6 h.1))
      gi_wp2
      refine ⟨(KeepsOthers.refl _).from _, KpZ.refl _ _ _ _, HG.out, ?_, HBW.out, hs4⟩
      rw [List.map_append, List.map_cons, List.map_nil]
      exact HE.out
  case done =>
    rintro D ys W hD hys ⟨⟨g0, g1, g2, g3, g4⟩, hrn, hB, hs4⟩ hK
    have c1 := boxed_cell g1
    have c2 := boxed_cell g2
    have c3 := boxed_cell g3
    have c4 := boxed_cell g4
    have f1 := L.blk_free g1 0
    have f2 := L.blk_free g2 0
    have f3 := L.blk_free g3 0
    have f4 := L.blk_free g4 0
    have HN : Hid (nxt p q (co, cca, ccb) = none) := Lib.hid (by unfold nxt; simp only; rw [← hys, hrn])
    obtain ⟨W2, hW2⟩ : ∃ W2 : World, W2 = (((W.setCell ⟨b0 + 1, 0, none⟩ (.int .i64 0)).setCell ⟨b0 + 1 + 1, 0, none⟩ (.int .i64 0)).setCell ⟨b0 + 1 + 1 + 1, 0, none⟩ (.int .i64 0)).setCell ⟨b0 + 1 + 1 + 1 + 1, 0, none⟩ (.bool false) := ⟨_, rfl⟩
    have HE := Lib.hid (next_end (x1 := .int .i64 0) (x2 := .int .i64 0) (x3 := .int .i64 0) (x4 := .bool false) g1 g2 g3 g4 hK (show b0 + 8 ≤ D by omega) hB hs4 hW2)
    clear k0 k1 k2 k3 k4 k5 k6 k7 hA HPA HPB hp hpk hqk hqp
    gi_wp2
    rw [← hW2]
    clear hW2 c1 c2 c3 c4 f1 f2 f3 f4 g0 g1 g2 g3 g4 hK
    refine ⟨by simp, .inl ⟨_, _, rfl, run_takeDeferred HE.out.1, ?_⟩⟩
    have e1 := HE.out.2.1
    have e2 := HE.out.2.2.1
    have e3 := HE.out.2.2.2.1
    have e4 := HE.out.2.2.2.2.1
    refine ⟨.tuple #[.int .i64 0, .int .i64 0, .int .i64 0, .bool false], by simp [results, Try.results60, go_sem, e1, e2, e3, e4], ?_, ?_⟩
    · rw [HN.out]; rfl
    · rw [← HBE.out]; exact HE.out.2.2.2.2.2
  case stop =>
    rintro D c pre W hD ⟨r, hr⟩ ⟨rfl, t, ⟨g0, g1, g2, g3, g4⟩, hrn, hB, hs4⟩ hK
    have HN : Hid (nxt p q (co, cca, ccb) = some t) := Lib.hid (by unfold nxt; simp only; rw [← hr, hrn])
    obtain ⟨t0, t1, t2⟩ := t
    simp only at g1 g2 g3 g4
    have HE := Lib.hid (next_rest g1 g2 g3 g4 hK (show b0 + 8 ≤ D by omega) hB hs4)
    clear k0 k1 k2 k3 k4 k5 k6 k7 hA HPA HPB hp hpk hqk hqp
    gi_wp2
    refine ⟨by simp, .inl ⟨_, _, rfl, run_takeDeferred HE.out.1, ?_⟩⟩
    have e1 := HE.out.2.1
    have e2 := HE.out.2.2.1
    have e3 := HE.out.2.2.2.1
    have e4 := HE.out.2.2.2.2.1
    refine ⟨.tuple #[.int .i64 t0, .int .i64 t1, .int .i64 t2, .bool true], by simp [results, Try.results60, go_sem, e1, e2, e3, e4], ?_, ?_⟩
    · rw [HN.out]; rfl
    · rw [← HBE.out]; exact HE.out.2.2.2.2.2

end Go.Proofs.Ytkflhcfopejigaa.Ck
