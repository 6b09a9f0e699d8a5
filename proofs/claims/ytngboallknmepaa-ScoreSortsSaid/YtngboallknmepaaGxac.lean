/-
  What is whole of a float, and how many thousandths it is, in plain words.
  Floats halved, how much is whole of them, and how many thousandths they are: the program's and the reference's functions.
  How much two texts have in common, a number between bounds, the reference's thousandths, the place of the greatest.
  The library's insertion sort at floats, laid.
  Rows of floats in memory: laid one behind the other, copied, sorted by insertion.
  The library's stable sort of few floats.
  Floats sorted, the one in the middle, the place of the greatest, a number between bounds, the reference's thousandths.
-/
import Derived.Test.YtngboallknmepaaGxab
import Derived.Sort.Grow
import Derived.Shelf.SlSortCmp.Insertion1
import Derived.Shelf.SlGeneric
import Derived.Ground.SlsfProg
import Derived.Test.YtngboallknmepaaProg
import Derived.Test.YtngboallknmepaaGxaa
import Derived.Sort.LotA
import Derived.Lib.OwnBridge
import Derived.BigQuiet
import Derived.Laws.AppendOwnNone
namespace Go.Proofs.Ytngboallknmepaa.Fp
set_option linter.unusedVariables false
set_option linter.unusedSimpArgs false
open Ieee
def THOU : Nat := 4652007308841189376
theorem cut_off {way : Toward} (hw : way = .down ∨ way = .zero) (n d : Nat) : way.cut false n d = n / 2 ^ d := by
  have h0 : way.cut false n d = n / 2 ^ (min d (n.log2 + 2)) := by
    unfold Toward.cut
    rcases hw with rfl | rfl <;> simp [Nat.shiftLeft_eq]
  rw [h0]
  rcases Nat.lt_or_ge (n.log2 + 2) d with h | h
  · rw [Nat.min_eq_right (by omega)]
    have h1 : n < 2 ^ (n.log2 + 1) := Nat.lt_log2_self
    have h2 : (2 : Nat) ^ (n.log2 + 2) = 2 * 2 ^ (n.log2 + 1) := by rw [Nat.pow_succ]; omega
    have h3 : 2 ^ (n.log2 + 2) ≤ 2 ^ d := Nat.pow_le_pow_right (by decide) (by omega)
    rw [Nat.div_eq_of_lt (by omega), Nat.div_eq_of_lt (by omega)]
  · rw [Nat.min_eq_left h]
theorem whole_val {way : Toward} (hw : way = .down ∨ way = .zero) (m u : Nat) : way.cut false (m <<< ((u : Int) - 1074).toNat) (-((u : Int) - 1074)).toNat = m * 2 ^ u / 2 ^ LP := by
  rw [cut_off hw, Nat.shiftLeft_eq]
  have hL : LP = 1074 := rfl
  rcases Nat.lt_or_ge u LP with h | h
  · rw [show ((u : Int) - 1074).toNat = 0 by omega, show (-((u : Int) - 1074)).toNat = LP - u by omega, Nat.pow_zero, Nat.mul_one]
    have : (2 : Nat) ^ LP = 2 ^ (LP - u) * 2 ^ u := by rw [← Nat.pow_add]; congr 1; omega
    rw [this, Nat.mul_div_mul_right _ _ (Nat.two_pow_pos u)]
  · rw [show ((u : Int) - 1074).toNat = u - LP by omega, show (-((u : Int) - 1074)).toNat = 0 by omega, Nat.pow_zero, Nat.div_one]
    have : (2 : Nat) ^ u = 2 ^ (u - LP) * 2 ^ LP := by rw [← Nat.pow_add]; congr 1; omega
    rw [this, ← Nat.mul_assoc, Nat.mul_div_cancel _ (Nat.two_pow_pos LP)]
/-- What is whole of a number that is not below 0. -/
def wq (y : Nat) : Nat := U (rg y) / 2 ^ LP
theorem floor_pos {y : Nat} (hy : rg y < INF) (sy : ng y = false) (hq : wq y < 2 ^ 53) : D.write ((D.read y).integral .down) = fl (wq y) := by
  obtain ⟨m, u, e, hu, -⟩ := read_fin hy
  rw [e, sy]
  simp only [Datum.integral, whole_val (.inl rfl), hu]
  have := of_int hq
  rw [Int.natAbs_natCast] at this
  have e2 : decide (((wq y : Nat) : Int) < 0) = false := by simp
  rw [e2] at this
  exact this
theorem trunc_pos {y : Nat} (hy : rg y < INF) (sy : ng y = false) : (D.read y).toInt .zero = some ((wq y : Nat) : Int) := by
  obtain ⟨m, u, e, hu, -⟩ := read_fin hy
  rw [e, sy]
  simp only [Datum.toInt, Datum.integral, whole_val (.inr rfl), hu, signed_eq]
  unfold sg wq
  rw [Nat.pow_zero, Nat.mul_one]
  rfl
theorem wq_fl {n : Nat} (h : n < 2 ^ 53) : wq (fl n) = n := by
  unfold wq
  rw [fl_rg h, U_fl h]
  exact Nat.mul_div_cancel n (Nat.two_pow_pos LP)
theorem read_thou : ∃ m u : Nat, D.read THOU = .number false m ((u : Int) - 1074) ∧ m * 2 ^ u = 1000 * 2 ^ LP := by
  have h : rg THOU < INF := by decide
  obtain ⟨m, u, e, hu, -⟩ := read_fin h
  have s : ng THOU = false := by decide
  rw [s] at e
  refine ⟨m, u, e, hu.trans ?_⟩
  have r : rg THOU = THOU := by decide
  rw [r]
  unfold U
  rw [if_neg (by decide)]
  have e1 : THOU / 2 ^ 52 - 1 = LP - 43 := by decide
  have e2 : 2 ^ 52 + THOU % 2 ^ 52 = 1000 * 2 ^ 43 := by decide
  have e3 : 43 + (LP - 43) = LP := by rw [LP_eq]
  rw [e1, e2, Nat.mul_assoc, ← Nat.pow_add, e3]
theorem thou_eq : THOU = fl 1000 := by
  have h : rg THOU < INF := by decide
  obtain ⟨m, u, e, hu⟩ := read_thou
  obtain ⟨m', u', e', hu', -⟩ := read_fin h
  have s : ng THOU = false := by decide
  rw [e, s] at e'
  injection e' with _ e1 e2
  have e3 : u = u' := by omega
  have : U (rg THOU) = U (fl 1000) := by rw [← hu', ← e1, ← e3, hu, U_fl (by decide)]
  have r : rg THOU = THOU := by decide
  rw [r] at this
  exact U_inj this
/-- A thousand times a number. -/
def th (x : Nat) : Nat := wd (ng x) (min (RV (1000 * U (rg x)) 0) INF)
theorem mul_thou {x : Nat} (hx : rg x < INF) : D.mul THOU x = some (th x) := by
  obtain ⟨n, v, e1, h1⟩ := read_thou
  obtain ⟨m, u, e, hu, -⟩ := read_fin hx
  unfold Format.mul
  rw [e1, e]
  simp only [Datum.product, Option.map_some]
  show some (D.nearest (false ^^ ng x) _ _) = _
  rw [nearest_eq (false ^^ ng x) (n * m) (v + u) LP _ (by rw [LP_eq]; omega), D_word, D_inf, Bool.false_xor]
  have e2 : n * m * 2 ^ (v + u) = (1000 * U (rg x)) * 2 ^ LP := by
    rw [Nat.pow_add, ← Nat.mul_assoc, Nat.mul_right_comm n m, Nat.mul_assoc (n * 2 ^ v), hu, h1, Nat.mul_right_comm]
  have := RV_scale (1000 * U (rg x)) 0 LP
  rw [Nat.zero_add] at this
  rw [e2, this]; rfl
theorem mul_thou_inf : D.mul THOU 18442240474082181120 = some 18442240474082181120 := by decide
theorem rg_one : rg ONE = ONE := by decide
/-- The thousandths of a number from 0 to below 1. -/
theorem th_lt {x : Nat} (h : rg x ≤ ONE) : RV (1000 * U (rg x)) 0 ≤ fl 1000 := by
  refine RV_mono ?_
  rw [Nat.pow_zero, Nat.mul_one, Nat.mul_one]
  refine Nat.mul_le_mul_left _ ?_
  have := U_le h
  rwa [← fl_one, U_fl (by decide), Nat.one_mul] at this
theorem rg_th {x : Nat} (h : rg x ≤ ONE) : rg (th x) = RV (1000 * U (rg x)) 0 := by
  have h1 := th_lt h
  have h2 : fl 1000 < INF := fl_lt (by decide)
  have h3 := INF_lt
  unfold th
  rw [Nat.min_eq_left (by omega), rg_wd (by omega)]
theorem ng_th {x : Nat} (h : rg x ≤ ONE) : ng (th x) = ng x := by
  have h1 := th_lt h
  have h2 : fl 1000 < INF := fl_lt (by decide)
  have h3 := INF_lt
  unfold th
  rw [Nat.min_eq_left (by omega), ng_wd (by omega)]
theorem wq_th {x : Nat} (h : rg x ≤ ONE) : wq (th x) ≤ 1000 := by
  unfold wq
  rw [rg_th h]
  have h1 := U_le (th_lt h)
  rw [U_fl (by decide)] at h1
  exact Nat.div_le_of_le_mul (Nat.le_trans h1 (Nat.le_of_eq (Nat.mul_comm _ _)))
/-- How many thousandths. -/
def ml (x : Nat) : Int := if isN x then -1 else if vl x < 0 then 0 else if vl ONE ≤ vl x then 1000 else wq (th x)
theorem ml_le (x : Nat) : -1 ≤ ml x ∧ ml x ≤ 1000 := by
  unfold ml
  split
  · omega
  · split
    · omega
    · split
      · omega
      · rename_i h1 h2 h3
        have : rg x ≤ ONE := by
          have v1 : vl ONE = (ONE : Int) := by decide
          rw [v1] at h3
          unfold vl sg at h2 h3
          generalize ng x = s at h2 h3
          cases s <;> simp at h2 h3 <;> omega
        have := wq_th this
        omega
/-- A greater number has not fewer. -/
theorem ml_mono {a b : Nat} (na : isN a = false) (nb : isN b = false) (h : vl a ≤ vl b) : ml a ≤ ml b := by
  have la := ml_le a
  have lb := ml_le b
  have v1 : vl ONE = (ONE : Int) := by decide
  unfold ml at *
  rw [na, nb] at *
  simp only [Bool.false_eq_true, ↓reduceIte] at *
  by_cases a1 : vl a < 0
  · rw [if_pos a1]
    split
    · omega
    · split <;> omega
  · rw [if_neg a1] at *
    by_cases b3 : vl ONE ≤ vl b
    · have b1 : ¬ vl b < 0 := by omega
      rw [if_neg b1, if_pos b3]; omega
    · have a3 : ¬ vl ONE ≤ vl a := by omega
      have b1 : ¬ vl b < 0 := by omega
      rw [if_neg a3, if_neg b1, if_neg b3]
      rw [v1] at a3 b3
      have ra : rg a ≤ ONE := by
        unfold vl sg at a1 a3
        generalize ng a = s at a1 a3
        cases s <;> simp at a1 a3 <;> omega
      have rb : rg b ≤ ONE := by
        unfold vl sg at b1 b3
        generalize ng b = s at b1 b3
        cases s <;> simp at b1 b3 <;> omega
      have rab : rg a ≤ rg b := by
        unfold vl sg at h a1 b1
        generalize ng a = s at h a1
        generalize ng b = t at h b1
        cases s <;> cases t <;> simp at h a1 b1 <;> omega
      have : wq (th a) ≤ wq (th b) := by
        unfold wq
        rw [rg_th ra, rg_th rb]
        refine Nat.div_le_div_right (U_le (RV_mono ?_))
        rw [Nat.pow_zero, Nat.mul_one, Nat.mul_one]
        exact Nat.mul_le_mul_left _ (U_le rab)
      omega
end Go.Proofs.Ytngboallknmepaa.Fp

namespace Go.Proofs.Ytngboallknmepaa.Fp
set_option linter.unusedVariables false
set_option linter.unusedSimpArgs false
open Go.RowKit Go.Sort
open T
open I (alloc1)

/-- Draws and blocks: nothing else. -/
def Gw (b W : World) : Prop := ∃ q os, W = grow (b.drewN q) os
theorem Gw.refl (b : World) : Gw b b := ⟨0, #[], by simp; rfl⟩
theorem Gw.drew (b : World) : Gw b b.drew := ⟨1, #[], by simp; rfl⟩
theorem Gw.trans {a b c : World} (h : Gw a b) (k : Gw b c) : Gw a c := by
  obtain ⟨q, os, rfl⟩ := h
  obtain ⟨p, os', rfl⟩ := k
  refine ⟨q + p, os ++ os', ?_⟩
  show grow (grow ((a.drewN q).drewN p) os) os' = _
  rw [grow_grow]
  congr 1
  simp [World.drewN, Nat.add_assoc, Nat.add_comm, Nat.add_left_comm]
theorem Gw.alloc {a b : World} (h : Gw a b) (o : Obj) : Gw a (b.alloc o) := h.trans ⟨0, #[o], by rw [alloc_eq_grow]; rfl⟩
theorem Gw.below {a b : World} (h : Gw a b) : Below a.heap.size a b := by
  obtain ⟨q, os, rfl⟩ := h
  exact T.below_grow a q os
/-- A word that stands for a number as it was halved n times; a NaN for a NaN. -/
structure Hv (n x r : Nat) : Prop where
  lt : r < 2 ^ 64
  nan : isN r = isN x
  val : isN x = false → r = hv n x
theorem Hv.ky {n x r r' : Nat} (h : Hv n x r) (h' : Hv n x r') : ky r = ky r' := by
  cases e : isN x
  · rw [h.val e, h'.val e]
  · rw [ky_nan (h.nan.trans e), ky_nan (h'.nan.trans e)]
theorem Hv.zero {x : Nat} (h : x < 2 ^ 64) : Hv 0 x x := ⟨h, rfl, fun _ => (hv_zero h).symm⟩
theorem Hv.step {n x r r' : Nat} (h : Hv n x r) (h' : Hv 1 r r') : Hv (n + 1) x r' := by
  refine ⟨h'.lt, h'.nan.trans h.nan, fun e => ?_⟩
  rw [h'.val (h.nan.trans e), h.val e, hv_one, hv_snoc]
theorem Hv.add {m n x r r' : Nat} (h : Hv m x r) (h' : Hv n r r') : Hv (m + n) x r' := by
  refine ⟨h'.lt, h'.nan.trans h.nan, fun e => ?_⟩
  rw [h'.val (h.nan.trans e), h.val e, hv_add]
theorem Hv.stop {k n x r r' : Nat} (h : Hv k x r) (h' : Hv 1 r r') (he : Fp.ky r' = Fp.ky r) (hk : k ≤ n) : Hv n x r := by
  refine ⟨h.lt, h.nan, fun e => ?_⟩
  have e' := h.nan.trans e
  have : r' = r := ky_inj h'.lt h.lt (h'.nan.trans e') he
  have hf1 : hf r = r := by rw [← hv_one, ← h'.val e', this]
  have := hv_fix h.lt hf1 (n - k)
  rw [h.val e, hv_add, show k + (n - k) = n by omega] at this
  rw [this, h.val e]
theorem Hv.cap {n x r r' : Nat} (h : Hv n x r) (h' : Hv (min n 3000) x r') : Fp.ky r = Fp.ky r' := by
  cases e : isN x
  · rw [h.val e, h'.val e]
    rcases Nat.lt_or_ge n 3000 with g | g
    · rw [Nat.min_eq_left (by omega)]
    · rw [hv_stop x (m := n) (n := min n 3000) (by omega) (by omega)]
  · rw [ky_nan (h.nan.trans e), ky_nan (h'.nan.trans e)]
/-- The bits that the machine chooses for a NaN. -/
def nbv (x y : Nat) (w : World) : Nat := Question.cut (.nanBits .f64 x y) (w.tape w.drawn (.nanBits .f64 x y))
theorem nbv_lt (x y : Nat) (w : World) : nbv x y w < 2 ^ 64 := nb_lt _
theorem nbv_nan (x y : Nat) (w : World) : isN (nbv x y w) = true := nb_nan _
theorem run_quo_nan (x y : Nat) (h : D.div x y = none) (w : World) : (binOp .quo 22 (.float .f64 x) (.float .f64 y)).run Try.prog w = .ok (.float .f64 (nbv x y w)) w.drew := by
  have h' : FloatKind.f64.format.div x y = none := h
  simp [binOp, Op.floatArith, h', Question.forced, nbv]
theorem run_mul (x y r : Nat) (h : D.mul x y = some r) (w : World) : (binOp .mul 22 (.float .f64 x) (.float .f64 y)).run Try.prog w = .ok (.float .f64 r) w := run_float_arith w .mul _ .f64 x y r h
theorem run_add (x y r : Nat) (h : D.add x y = some r) (w : World) : (binOp .add 22 (.float .f64 x) (.float .f64 y)).run Try.prog w = .ok (.float .f64 r) w := run_float_arith w .add _ .f64 x y r h
set_option maxHeartbeats 1000000 in
set_option maxRecDepth 100000 in
theorem half_any (x : Nat) (w : World) : Calls Try.prog 41 #[fV x] w fun e w' => ∃ r, e = .returned (fV r) ∧ Hv 1 x r ∧ Gw w w' := by
  cases nx : isN x
  · have hq := run_quo x 4611686018427387904 _ (div_two nx)
    go_enter Try.func41, Try.ntmps41
    go_wp2_with fail
    go_ret
    exact ⟨_, rfl, ⟨hv_lt 1 x, by rw [nx]; exact hv_num nx 1, fun _ => rfl⟩, Gw.refl _⟩
  · have hq := run_quo_nan x 4611686018427387904 (div_nan (.inl nx)) w
    go_enter Try.func41, Try.ntmps41
    go_wp2_with fail
    go_ret
    exact ⟨_, rfl, ⟨nbv_lt _ _ _, by rw [nx]; exact nbv_nan _ _ _, fun h => by cases h.symm.trans nx⟩, Gw.drew _⟩
set_option maxHeartbeats 1000000 in
set_option maxRecDepth 100000 in
theorem none_any (w : World) : Calls Try.prog 33 #[] w fun e w' => ∃ r, e = .returned (fV r) ∧ isN r = true ∧ r < 2 ^ 64 ∧ Gw w w' := by
  have hq := run_quo_nan 0 0 div_zero_zero w
  go_enter Try.func33, Try.ntmps33
  go_wp2_with fail
  go_ret
  exact ⟨_, rfl, nbv_nan _ _ _, nbv_lt _ _ _, Gw.drew _⟩
set_option maxHeartbeats 1000000 in
set_option maxRecDepth 100000 in
theorem halve_any (x : Nat) (hx : x < 2 ^ 64) (n : Int) (hn : n < 2 ^ 63) (w : World) : Calls Try.prog 28 #[fV x, .int .i64 n] w fun e w' => ∃ r, e = .returned (fV r) ∧ Hv n.toNat x r ∧ Gw w w' := by
  go_enter Try.func28, Try.ntmps28
  go_wp2_with fail
  go_loopg [0, 7] n.toNat (fun q xv iv wr => ∃ (k r : Nat), xv = fV r ∧ iv = .int .i64 k ∧ Hv k x r ∧ Gw w wr ∧ k ≤ n.toNat ∧ n.toNat - k ≤ q)
  case atStart => exact ⟨0, x, rfl, rfl, Hv.zero hx, Gw.refl _, Nat.zero_le _, by omega⟩
  case round =>
    obtain ⟨k, r, rfl, rfl, HV, HW, hk, hm⟩ := hrel
    by_cases hlt : (k : Int) < n
    · go_upto_region 4 with (go_at_call 41; refine (half_any _ _).mono ?_; rintro e wh ⟨r', rfl, HV', HW'⟩)
      have lr := HV.lt
      have lr' := HV'.lt
      by_cases he : ky r' = ky r
      · have hc : (cmp (ky r') (ky r) == 0) = true := beq_iff_eq.2 (cmp_zero.2 he)
        have HE := Lib.hid he
        clear he
        go_wp2_with (go_at_call 14; refine (order_any _ _ (by assumption) (by assumption) _).mono ?_; rintro e wz ⟨rfl, rfl⟩)
        go_ret
        exact ⟨r, rfl, HV.stop HV' HE.out hk, HW.trans HW'⟩
      · have hc : (cmp (ky r') (ky r) == 0) = false := beq_eq_false_iff_ne.2 (fun h => he (cmp_zero.1 h))
        clear he
        go_wp2_with (go_at_call 14; refine (order_any _ _ (by assumption) (by assumption) _).mono ?_; rintro e wz ⟨rfl, rfl⟩)
        go_roundg (n.toNat - (k + 1))
        case rel => exact ⟨k + 1, r', rfl, by go_num, HV.step HV', HW.trans HW', by omega, by omega⟩
        case measure => omega
    · go_wp2_with fail
      go_ret
      have : n.toNat = k := by omega
      exact ⟨r, rfl, this ▸ HV, HW⟩
theorem half_run (x : Nat) (hx : x < 2 ^ 64) (w : World) : ∃ r W, (binOp .quo 22 (.float .f64 x) (.float .f64 4611686018427387904)).run Try.prog w = .ok (.float .f64 r) W ∧ Hv 1 x r ∧ Gw w W := by
  cases nx : isN x
  · exact ⟨_, _, run_quo x 4611686018427387904 _ (div_two nx) w, ⟨hv_lt 1 x, by rw [nx]; exact hv_num nx 1, fun _ => rfl⟩, Gw.refl _⟩
  · exact ⟨_, _, run_quo_nan x 4611686018427387904 (div_nan (.inl nx)) w, ⟨nbv_lt _ _ _, by rw [nx]; exact nbv_nan _ _ _, fun h => by cases h.symm.trans nx⟩, Gw.drew _⟩
set_option maxHeartbeats 1000000 in
set_option maxRecDepth 100000 in
theorem rhalve_any (x : Nat) (hx : x < 2 ^ 64) (n : Int) (hn : n < 2 ^ 63) (w : World) : Calls Try.prog 29 #[fV x, .int .i64 n] w fun e w' => ∃ r, e = .returned (fV r) ∧ Hv (min n.toNat 3000) x r ∧ Gw w w' := by
  go_enter Try.func29, Try.ntmps29
  go_wp2_with fail
  go_loopg [0, 5] (min n.toNat 3000) (fun q xv iv wr => ∃ (k r : Nat), xv = fV r ∧ iv = .int .i64 k ∧ Hv k x r ∧ Gw w wr ∧ k ≤ min n.toNat 3000 ∧ min n.toNat 3000 - k ≤ q)
  case atStart => exact ⟨0, x, rfl, rfl, Hv.zero hx, Gw.refl _, Nat.zero_le _, by omega⟩
  case round =>
    obtain ⟨k, r, rfl, rfl, HV, HW, hk, hm⟩ := hrel
    by_cases hlt : (k : Int) < n
    · by_cases h3 : (k : Int) < 3000
      · obtain ⟨r', W, hq, HV', HW'⟩ := half_run r HV.lt wr
        go_wp2_with fail
        go_roundg (min n.toNat 3000 - (k + 1))
        case rel => exact ⟨k + 1, r', rfl, by go_num, HV.step HV', HW.trans HW', by omega, by omega⟩
        case measure => omega
      · go_wp2_with fail
        go_ret
        have : min n.toNat 3000 = k := by omega
        exact ⟨r, rfl, this ▸ HV, HW⟩
    · go_wp2_with fail
      go_ret
      have : min n.toNat 3000 = k := by omega
      exact ⟨r, rfl, this ▸ HV, HW⟩
theorem run_floor (y : Nat) (h : isN y = false) (w : World) : (Extern.MathFloor.toIntegral "math.archFloor" .down #[fV y]).run Try.prog w = .ok (fV (D.write ((D.read y).integral .down))) w := by
  have e : ∀ s t, FloatKind.f64.decode y ≠ .nan s t := by
    intro s t
    show D.read y ≠ _
    rcases Nat.lt_or_ge (rg y) INF with g | g
    · obtain ⟨m, u, e, -⟩ := read_fin g
      rw [e]; simp
    · have : rg y ≤ INF := by simpa [isN] using h
      rw [read_inf (by omega)]; simp
  change Sem.run _ (match FloatKind.f64.decode y with | .nan s t => _ | d => pure (Value.float .f64 (FloatKind.f64.encode (d.integral .down)))) w = _
  cases hd : FloatKind.f64.decode y with
  | nan s t => exact absurd hd (e s t)
  | number s m i =>
    have : D.read y = .number s m i := hd
    rw [this]; rfl
  | infinity s =>
    have : D.read y = .infinity s := hd
    rw [this]; rfl
set_option maxHeartbeats 1000000 in
set_option maxRecDepth 100000 in
theorem floor_any (y : Nat) (h : isN y = false) (w : World) : Calls Try.prog 42 #[fV y] w fun e w' => e = .returned (fV (D.write ((D.read y).integral .down))) ∧ w' = w := by
  go_enter Try.func42, Try.ntmps42
  go_wp2_with fail
  rw [run_callFunc_extern Try.func47 (by kernel_rfl) (by kernel_rfl) (by kernel_rfl) (e := Extern.MathFloor.toIntegral "math.archFloor" .down) (by kernel_rfl), run_floor y h]
  simp only [Result.andThen]
  rw [Oper.upon_value]
  go_wp2_with fail
  go_ret
  exact ⟨rfl, rfl⟩
theorem run_trunc (y : Nat) (n : Int) (h : (D.read y).toInt .zero = some n) (h0 : 0 ≤ n) (h1 : n ≤ 1000) (w : World) : (convert 22 3 (.float .f64 y)).run Try.prog w = .ok (.int .i64 n) w := by
  refine run_convert_float_int w _ _ .f64 .i64 y n (by kernel_rfl) (by kernel_rfl) ?_
  unfold floatToIntVal
  have : (FloatKind.f64.decode y).toInt .zero = some n := h
  rw [this]
  have a : IntKind.i64.min = -9223372036854775808 := by decide
  have b : IntKind.i64.max = 9223372036854775807 := by decide
  simp only [a, b]
  rw [if_pos (by omega)]
set_option maxHeartbeats 2000000 in
set_option maxRecDepth 100000 in
theorem mille_any (x : Nat) (hx : x < 2 ^ 64) (w : World) : Calls Try.prog 30 #[fV x] w fun e w' => e = .returned (.int .i64 (ml x)) ∧ w' = w := by
  have z0 := isN_zero
  have v0 : vl 0 = 0 := by decide
  have z1 : isN 4607182418800017408 = false := by decide
  have v1 : vl 4607182418800017408 = 4607182418800017408 := by decide
  unfold ml
  rw [show vl ONE = 4607182418800017408 from v1]
  cases nx : isN x
  · rw [if_neg (by decide)]
    by_cases h1 : vl x < 0
    · rw [if_pos h1]
      go_enter Try.func30, Try.ntmps30
      go_wp2_with (go_at_call 34; refine (isnan_any _ _).mono ?_; rintro e w' ⟨rfl, rfl⟩)
      go_ret
      exact ⟨rfl, rfl⟩
    · rw [if_neg h1]
      by_cases h2 : 4607182418800017408 ≤ vl x
      · rw [if_pos h2]
        by_cases h3 : vl x = 4607182418800017408
        · have HE := Lib.hid h3
          have h3' : (decide (vl x = 4607182418800017408)) = true := by simp [h3]
          have h4 : ¬ (4607182418800017408 < vl x) := by omega
          go_enter Try.func30, Try.ntmps30
          go_wp2_with (go_at_call 34; refine (isnan_any _ _).mono ?_; rintro e w' ⟨rfl, rfl⟩)
          go_ret
          exact ⟨rfl, rfl⟩
        · have h4 : 4607182418800017408 < vl x := by omega
          go_enter Try.func30, Try.ntmps30
          go_wp2_with (go_at_call 34; refine (isnan_any _ _).mono ?_; rintro e w' ⟨rfl, rfl⟩)
          go_ret
          exact ⟨rfl, rfl⟩
      · rw [if_neg h2]
        have h3 : ¬ (vl x = 4607182418800017408) := by omega
        have h4 : ¬ (4607182418800017408 < vl x) := by omega
        have ro : rg x ≤ ONE := by
          have : ONE = 4607182418800017408 := rfl
          unfold vl sg at h1 h2
          generalize ng x = s at h1 h2
          cases s <;> simp at h1 h2 <;> omega
        have ri : rg x < INF := by
          have : ONE < INF := by decide
          omega
        have hq := run_mul 4652007308841189376 x _ (mul_thou ri)
        have nt : isN (th x) = false := by
          have := th_lt ro
          have := fl_lt (n := 1000) (by decide)
          unfold isN
          rw [rg_th ro]
          simp; omega
        have hw1 := wq_th ro
        have HT : ∃ n : Nat, n = wq (th x) := ⟨_, rfl⟩
        obtain ⟨n, hn⟩ := HT
        rw [← hn] at hw1 ⊢
        have ht : (D.read (D.write ((D.read (th x)).integral .down))).toInt .zero = some ((n : Nat) : Int) := by
          have ri' : rg (th x) < INF := by
            have := th_lt ro
            have := fl_lt (n := 1000) (by decide)
            rw [rg_th ro]; omega
          cases sx : ng x
          · have st : ng (th x) = false := by rw [ng_th ro, sx]
            rw [floor_pos ri' st (by omega), trunc_pos (by rw [fl_rg (by omega)]; exact fl_lt (by omega)) (fl_ng (by omega)), wq_fl (by omega), hn]
          · have vx : vl x = 0 := by
              unfold vl sg at h1 ⊢
              rw [sx] at h1 ⊢
              simp at h1 ⊢; omega
            rcases zero_of hx vx with rfl | rfl
            · cases sx
            · have e1 : th 9223372036854775808 = 9223372036854775808 := by decide
              have e2 : wq 9223372036854775808 = 0 := by
                unfold wq
                rw [show rg 9223372036854775808 = 0 by decide, U_zero, Nat.zero_div]
              have e3 : (D.read (D.write ((D.read 9223372036854775808).integral .down))).toInt .zero = some 0 := by decide
              rw [hn, e1, e2]
              exact e3
        clear hn
        have hc := run_trunc _ n ht (by omega) (by omega)
        go_enter Try.func30, Try.ntmps30
        go_wp2_with (first | (go_at_call 34; refine (isnan_any _ _).mono ?_; rintro e w' ⟨rfl, rfl⟩) | (go_at_call 42; refine (floor_any _ (by assumption) _).mono ?_; rintro e w' ⟨rfl, rfl⟩))
        go_ret
        exact ⟨rfl, rfl⟩
  · rw [if_pos rfl]
    go_enter Try.func30, Try.ntmps30
    go_wp2_with (go_at_call 34; refine (isnan_any _ _).mono ?_; rintro e w' ⟨rfl, rfl⟩)
    go_ret
    exact ⟨rfl, rfl⟩
end Go.Proofs.Ytngboallknmepaa.Fp

namespace Go.Proofs.Ytngboallknmepaa.Fp
set_option linter.unusedVariables false
set_option linter.unusedSimpArgs false
open Go.RowKit Go.Sort
open T
open I (alloc1)

/-- What a share is. -/
def Rok (c n m : Int) : Prop := 0 ≤ n ∧ n ≤ 2147483647 ∧ 0 ≤ m ∧ m ≤ 2147483647 ∧ 0 ≤ c ∧ c ≤ n ∧ c ≤ m ∧ ¬ (n = 0 ∧ m = 0)
instance (c n m : Int) : Decidable (Rok c n m) := by unfold Rok; infer_instance
structure Rt (c n m : Int) (r : Nat) : Prop where
  lt : r < 2 ^ 64
  nan : ¬ Rok c n m → isN r = true
  val : Rok c n m → D.div (fl (2 * c.toNat)) (fl (n.toNat + m.toNat)) = some r
theorem share {c n m : Nat} (h : Rok c n m) : ∃ r, D.div (fl (2 * c)) (fl (n + m)) = some r ∧ r ≤ ONE := by
  obtain ⟨h1, h2, h3, h4, h5, h6, h7, h8⟩ := h
  have ha : 2 * c < 2 ^ 53 := by omega
  have hb : n + m < 2 ^ 53 := by omega
  have hp : 0 < n + m := by omega
  rw [← fl_one]
  refine div_share (by rw [fl_rg ha]; exact fl_lt ha) (by rw [fl_rg hb]; exact fl_lt hb) (fl_ng ha) (fl_ng hb) ?_ ?_
  · rw [fl_rg ha, fl_rg hb, U_fl ha, U_fl hb]
    exact Nat.mul_le_mul_right _ (by omega)
  · rw [fl_rg hb, U_fl hb]
    exact Nat.mul_pos hp (Nat.two_pow_pos _)
theorem small_num {r : Nat} (h : r ≤ ONE) : isN r = false ∧ vl r = r ∧ r < 2 ^ 64 := by
  have e : ONE = 4607182418800017408 := rfl
  have e1 : rg r = r := Nat.mod_eq_of_lt (by omega)
  have e2 : ng r = false := by
    unfold ng
    rw [Nat.div_eq_of_lt (by omega)]; rfl
  refine ⟨?_, ?_, by omega⟩
  · unfold isN INF
    rw [e1]; simp; omega
  · unfold vl sg
    rw [e1, e2]; rfl
theorem Rt.le {c n m : Int} {r : Nat} (h : Rt c n m r) (hk : Rok c n m) : r ≤ ONE := by
  have hv := h.val hk
  obtain ⟨c', rfl⟩ := Int.eq_ofNat_of_zero_le hk.2.2.2.2.1
  obtain ⟨n', rfl⟩ := Int.eq_ofNat_of_zero_le hk.1
  obtain ⟨m', rfl⟩ := Int.eq_ofNat_of_zero_le hk.2.2.1
  obtain ⟨s, e, hs⟩ := share hk
  simp only [Int.toNat_natCast] at hv
  rw [e] at hv
  cases hv
  exact hs
theorem Rt.ky {c n m : Int} {r s : Nat} (h : Rt c n m r) (h' : Rt c n m s) : Fp.ky r = Fp.ky s := by
  by_cases hk : Rok c n m
  · have e := (h.val hk).symm.trans (h'.val hk)
    cases e; rfl
  · rw [ky_nan (h.nan hk), ky_nan (h'.nan hk)]
theorem Rt.turn {c n m : Int} {r : Nat} (h : Rt c n m r) : Rt c m n r := by
  have e : Rok c m n ↔ Rok c n m := by unfold Rok; omega
  refine ⟨h.lt, fun k => h.nan (fun k' => k (e.2 k')), fun k => ?_⟩
  rw [Nat.add_comm]; exact h.val (e.1 k)
theorem f_int {n : Nat} (h : n < 2 ^ 53) : floatOfInt .f64 (n : Int) = fl n := of_int h
theorem nan_word : isN 9221120237041090561 = true := by decide
attribute [local irreducible] fl
set_option maxHeartbeats 2000000 in
set_option maxRecDepth 100000 in
theorem ratio_any (c n m : Int) (w : World) : Calls Try.prog 10 #[.int .i64 c, .int .i64 n, .int .i64 m] w fun e w' => ∃ r, e = .returned (fV r) ∧ Rt c n m r ∧ Gw w w' := by
  by_cases hk : Rok c n m
  · have HK := Lib.hid hk
    obtain ⟨c, rfl⟩ := Int.eq_ofNat_of_zero_le hk.2.2.2.2.1
    obtain ⟨n, rfl⟩ := Int.eq_ofNat_of_zero_le hk.1
    obtain ⟨m, rfl⟩ := Int.eq_ofNat_of_zero_le hk.2.2.1
    obtain ⟨r, hr, hle⟩ := share hk
    obtain ⟨h1, h2, h3, h4, h5, h6, h7, h8⟩ := hk
    have HR := Lib.hid hr
    have HLE := Lib.hid hle
    have hq := run_quo _ _ r hr
    have i1 : floatOfInt .f64 (2 * (c : Int)) = fl (2 * c) := f_int (n := 2 * c) (by omega)
    have i2 : floatOfInt .f64 ((n : Int) + (m : Int)) = fl (n + m) := f_int (n := n + m) (by omega)
    clear hr hle
    have g1 : ¬ (min (n : Int) (m : Int) < 0) := by omega
    have g2 : ¬ (max (n : Int) (m : Int) > 2147483647) := by omega
    have g3 : ¬ ((c : Int) > min (n : Int) (m : Int)) := by omega
    by_cases h9 : (n : Int) = 0
    · have h10 : ((m : Int) == 0) = false := beq_eq_false_iff_ne.2 (fun h => h8 ⟨h9, h⟩)
      have h11 : ((n : Int) == 0) = true := beq_iff_eq.2 h9
      clear h9 h8
      go_enter Try.func10, Try.ntmps10
      go_wp2_with fail
      go_ret
      exact ⟨r, rfl, ⟨Nat.lt_of_le_of_lt HLE.out (by decide), fun h => absurd HK.out h, fun _ => HR.out⟩, Gw.refl _⟩
    · have h11 : ((n : Int) == 0) = false := beq_eq_false_iff_ne.2 h9
      clear h9 h8
      go_enter Try.func10, Try.ntmps10
      go_wp2_with fail
      go_ret
      exact ⟨r, rfl, ⟨Nat.lt_of_le_of_lt HLE.out (by decide), fun h => absurd HK.out h, fun _ => HR.out⟩, Gw.refl _⟩
  · have HK := Lib.hid hk
    by_cases a1 : min n m < 0
    · go_enter Try.func10, Try.ntmps10
      go_wp2_with ((go_at_call 32; refine (nan_any _).mono ?_; rintro e w' ⟨rfl, rfl⟩))
      go_ret
      exact ⟨_, rfl, ⟨by decide, fun _ => nan_word, fun h => absurd h HK.out⟩, Gw.refl _⟩
    · by_cases a2 : max n m > 2147483647
      · go_enter Try.func10, Try.ntmps10
        go_wp2_with ((go_at_call 32; refine (nan_any _).mono ?_; rintro e w' ⟨rfl, rfl⟩))
        go_ret
        exact ⟨_, rfl, ⟨by decide, fun _ => nan_word, fun h => absurd h HK.out⟩, Gw.refl _⟩
      · by_cases a3 : c < 0
        · go_enter Try.func10, Try.ntmps10
          go_wp2_with ((go_at_call 32; refine (nan_any _).mono ?_; rintro e w' ⟨rfl, rfl⟩))
          go_ret
          exact ⟨_, rfl, ⟨by decide, fun _ => nan_word, fun h => absurd h HK.out⟩, Gw.refl _⟩
        · by_cases a4 : c > min n m
          · go_enter Try.func10, Try.ntmps10
            go_wp2_with ((go_at_call 32; refine (nan_any _).mono ?_; rintro e w' ⟨rfl, rfl⟩))
            go_ret
            exact ⟨_, rfl, ⟨by decide, fun _ => nan_word, fun h => absurd h HK.out⟩, Gw.refl _⟩
          · have e1 : n = 0 ∧ m = 0 := by
              unfold Rok at hk
              omega
            obtain ⟨rfl, rfl⟩ := e1
            clear hk
            go_enter Try.func10, Try.ntmps10
            go_wp2_with ((go_at_call 32; refine (nan_any _).mono ?_; rintro e w' ⟨rfl, rfl⟩))
            go_ret
            exact ⟨_, rfl, ⟨by decide, fun _ => nan_word, fun h => absurd h HK.out⟩, Gw.refl _⟩
set_option maxHeartbeats 2000000 in
set_option maxRecDepth 100000 in
theorem rratio_any (c n m : Int) (w : World) : Calls Try.prog 13 #[.int .i64 c, .int .i64 n, .int .i64 m] w fun e w' => ∃ r, e = .returned (fV r) ∧ Rt c n m r ∧ Gw w w' := by
  by_cases hk : Rok c n m
  · have HK := Lib.hid hk
    obtain ⟨c, rfl⟩ := Int.eq_ofNat_of_zero_le hk.2.2.2.2.1
    obtain ⟨n, rfl⟩ := Int.eq_ofNat_of_zero_le hk.1
    obtain ⟨m, rfl⟩ := Int.eq_ofNat_of_zero_le hk.2.2.1
    obtain ⟨r, hr, hle⟩ := share hk
    obtain ⟨h1, h2, h3, h4, h5, h6, h7, h8⟩ := hk
    clear h8
    have HR := Lib.hid hr
    have HLE := Lib.hid hle
    have hq := run_quo _ _ r hr
    have i1 : floatOfInt .f64 (c : Int) = fl c := f_int (by omega)
    have i2 : floatOfInt .f64 (n : Int) = fl n := f_int (by omega)
    have i3 : floatOfInt .f64 (m : Int) = fl m := f_int (by omega)
    have q1 := run_add (fl c) (fl c) _ (fl_add (by omega))
    rw [show c + c = 2 * c by omega] at q1
    have q2 := run_add (fl n) (fl m) _ (fl_add (by omega))
    clear hr hle
    go_enter Try.func13, Try.ntmps13
    go_wp2_with fail
    go_ret
    exact ⟨r, rfl, ⟨Nat.lt_of_le_of_lt HLE.out (by decide), fun h => absurd HK.out h, fun _ => HR.out⟩, Gw.refl _⟩
  · have HK := Lib.hid hk
    by_cases a0 : n < 0
    · go_enter Try.func13, Try.ntmps13
      go_wp2_with ((go_at_call 33; refine (none_any _).mono ?_; rintro e w' ⟨r, rfl, HN, HL, HW⟩))
      go_ret
      exact ⟨_, rfl, ⟨HL, fun _ => HN, fun h => absurd h HK.out⟩, HW⟩
    · by_cases a1 : n > 2147483647
      · go_enter Try.func13, Try.ntmps13
        go_wp2_with ((go_at_call 33; refine (none_any _).mono ?_; rintro e w' ⟨r, rfl, HN, HL, HW⟩))
        go_ret
        exact ⟨_, rfl, ⟨HL, fun _ => HN, fun h => absurd h HK.out⟩, HW⟩
      · by_cases a2 : m < 0
        · go_enter Try.func13, Try.ntmps13
          go_wp2_with ((go_at_call 33; refine (none_any _).mono ?_; rintro e w' ⟨r, rfl, HN, HL, HW⟩))
          go_ret
          exact ⟨_, rfl, ⟨HL, fun _ => HN, fun h => absurd h HK.out⟩, HW⟩
        · by_cases a3 : m > 2147483647
          · go_enter Try.func13, Try.ntmps13
            go_wp2_with ((go_at_call 33; refine (none_any _).mono ?_; rintro e w' ⟨r, rfl, HN, HL, HW⟩))
            go_ret
            exact ⟨_, rfl, ⟨HL, fun _ => HN, fun h => absurd h HK.out⟩, HW⟩
          · by_cases a4 : c < 0
            · go_enter Try.func13, Try.ntmps13
              go_wp2_with ((go_at_call 33; refine (none_any _).mono ?_; rintro e w' ⟨r, rfl, HN, HL, HW⟩))
              go_ret
              exact ⟨_, rfl, ⟨HL, fun _ => HN, fun h => absurd h HK.out⟩, HW⟩
            · by_cases a5 : c > n
              · go_enter Try.func13, Try.ntmps13
                go_wp2_with ((go_at_call 33; refine (none_any _).mono ?_; rintro e w' ⟨r, rfl, HN, HL, HW⟩))
                go_ret
                exact ⟨_, rfl, ⟨HL, fun _ => HN, fun h => absurd h HK.out⟩, HW⟩
              · by_cases a6 : c > m
                · go_enter Try.func13, Try.ntmps13
                  go_wp2_with ((go_at_call 33; refine (none_any _).mono ?_; rintro e w' ⟨r, rfl, HN, HL, HW⟩))
                  go_ret
                  exact ⟨_, rfl, ⟨HL, fun _ => HN, fun h => absurd h HK.out⟩, HW⟩
                · have e1 : n = 0 ∧ m = 0 ∧ c = 0 := by
                    unfold Rok at hk
                    omega
                  obtain ⟨rfl, rfl, rfl⟩ := e1
                  clear hk
                  have i0 : floatOfInt .f64 0 = 0 := by decide
                  have q1 := run_add 0 0 0 (by decide)
                  have q2 := run_quo_nan 0 0 div_zero_zero w
                  go_enter Try.func13, Try.ntmps13
                  go_wp2_with fail
                  go_ret
                  exact ⟨_, rfl, ⟨nbv_lt _ _ _, fun _ => nbv_nan _ _ _, fun h => absurd h HK.out⟩, Gw.drew _⟩
end Go.Proofs.Ytngboallknmepaa.Fp

namespace Go.Proofs.Ytngboallknmepaa.Fp
set_option linter.unusedVariables false
set_option linter.unusedSimpArgs false
open Go.Shelf
def insFl_ren : Go.Shelf.Ren := ⟨fun | 20 => 49 | n => n, fun | 24 => 22 | 22 => 29 | 3 => 3 | 25 => 27 | 4 => 4 | 0 => 0 | n => n, fun | n => n⟩
theorem insFl : SlLaysF.n20 Try.prog insFl_ren := {
  mixed := by kernel_rfl
  f20 := ⟨Try.f49.name, by decide, Try.func49.trans (congrArg some (by kernel_rfl))⟩
  t0 := Try.underlying0
  a0 := Try.isAgg0
  z0 := Try.sizeOf0
  v0 := Try.zeroValue0
  t3 := Try.underlying3
  a3 := Try.isAgg3
  z3 := Try.sizeOf3
  v3 := Try.zeroValue3
  t4 := Try.underlying4
  a4 := Try.isAgg4
  z4 := Try.sizeOf4
  v4 := Try.zeroValue4
  t22 := Try.underlying29
  a22 := Try.isAgg29
  z22 := Try.sizeOf29
  v22 := Try.zeroValue29
  a24 := Try.isAgg22
  z24 := Try.sizeOf22
  t25 := Try.underlying27
  a25 := Try.isAgg27
  z25 := Try.sizeOf27
  v25 := Try.zeroValue27 }
end Go.Proofs.Ytngboallknmepaa.Fp

namespace Go.Proofs.Ytngboallknmepaa.Fp
set_option linter.unusedVariables false
set_option linter.unusedSimpArgs false
open Go.RowKit Go.Sort Go.Shelf
open T
open I (alloc1 own_at own_below)


abbrev encF (x : UInt64) : Value := fV x.toNat
theorem u_lt (x : UInt64) : x.toNat < 2 ^ 64 := x.toNat_lt
def cF (x y : UInt64) : Int := cmp (ky x.toNat) (ky y.toNat)
theorem lt_cF (x y : UInt64) : ltOf cF x y = decide (ky x.toNat < ky y.toNat) := by
  unfold ltOf cF
  by_cases h : ky x.toNat < ky y.toNat
  · simp [cmp_lt, h]
  · simp [cmp_lt, h]
theorem swoF : SWO (ltOf cF) := by
  refine ⟨fun x => ?_, fun x y z h1 h2 => ?_, fun x y z h1 h2 => ?_⟩
  · rw [lt_cF]; simp
  · rw [lt_cF] at *; simp at *; omega
  · rw [lt_cF] at *; simp at *; omega
theorem cmpF (blk off n : Nat) (w : World) : CmpLays1 Try.prog 14 #[] encF cF blk off n w := by
  intro m os dk _ x y
  refine (order_any x.toNat y.toNat (u_lt x) (u_lt y) _).mono ?_
  rintro e w' ⟨rfl, rfl⟩
  exact ⟨rfl, 0, #[], by rw [World.drewN_zero, grow_empty]⟩
theorem oneF : OneCell encF := fun _ => rfl
theorem enters : ∀ args w, (callFunc 14 args).run Try.prog w = .ok (.enter 14 args) w := enters_of Try.func14 (by kernel_rfl) rfl

/-- A row of floats in memory. -/
def FlAt (w : World) (bk off : Nat) (l : List UInt64) : Prop := ∀ j (h : j < l.length), w.cell? ⟨bk, off + j, none⟩ = some (encF l[j])
def FlIn (w : World) (A : Option Addr) (l : List UInt64) : Prop := 0 < l.length → ∃ bk off, A = some ⟨bk, off, none⟩ ∧ bk < w.heap.size ∧ FlAt w bk off l
theorem FlAt.below {w w' : World} {n bk off : Nat} {l : List UInt64} (h : FlAt w bk off l) (hb : Below n w w') (hk : bk < n) : FlAt w' bk off l := fun j hj => (hb.cell (p := ⟨bk, off + j, none⟩) hk).trans (h j hj)
theorem FlIn.below {w w' : World} {A : Option Addr} {l : List UInt64} (h : FlIn w A l) (hb : Below w.heap.size w w') : FlIn w' A l := fun hp => by
  obtain ⟨bk, off, e, hlt, hl⟩ := h hp
  exact ⟨bk, off, e, Nat.lt_of_lt_of_le hlt hb.size, hl.below hb hlt⟩
theorem fl_own {w : World} {base : Nat} {A : Option Addr} {cap : Nat} {l : List UInt64} (h : w.ownsRow base 22 1 (.slice A l.length cap) l.length (l.map encF)) : FlIn w A l := fun hp => by
  obtain ⟨g, hA, _, hlt, hc⟩ := own_at h hp
  refine ⟨g, 0, hA, hlt, fun j hj => ?_⟩
  rw [Nat.zero_add]
  exact hc j _ (by simp [hj])
theorem infoFl : (Try.prog.info? 22).map (fun i => (i.zero, i.size, i.bytes)) = some (some (.float .f64 0), 1, 8) := by kernel_rfl
theorem map_one (l : List UInt64) : ∀ u ∈ l.map encF, u.oneCell' = true := by
  intro u hu
  simp only [List.mem_map] at hu
  obtain ⟨x, _, rfl⟩ := hu
  rfl
set_option maxRecDepth 100000 in
/-- append of a row of floats onto a row of floats that the call owns, wherever the floats lie. -/
theorem wpList_append_fls {w : World} {ops : Array Oper} {rest : List Oper} {o : Oper} {a : Act} {Q : Exit → Act → World → Prop} (hgd : o.guard = none) (s x : Operand)
    (ho : o.op = .call { callee := .builtin .append, args := #[s, x], argTypes := #[29, 29] })
    (base : Nat) (v : Value) (xs l : List UInt64) (hs : a.eval s = v) (hown : w.ownsRow base 22 1 v xs.length (xs.map encF))
    (LA : Option Addr) (lc : Nat) (hx : a.eval x = .slice LA l.length lc) (hL : FlIn w LA l) (hn : LA = none → lc = 0) (hsm : xs.length + l.length ≤ 1000000) (hbase : base ≤ w.heap.size)
    (h : ∀ v' w', w'.ownsRow base 22 1 v' (xs ++ l).length ((xs ++ l).map encF) → w.grownBy w' v.ownBlock → (v'.ownBlock = v.ownBlock ∨ v'.ownBlock = some w.heap.size) → wpList Try.prog ops Q rest (a.put o.dst v') w') :
    wpList Try.prog ops Q (o :: rest) a w := by
  obtain ⟨i0, hi0, hz0, hz1, hz2⟩ := info_parts infoFl
  have hlen : (l.map encF).length = l.length * 1 := by simp
  cases LA with
  | none =>
    have hl0 : l = [] := by
      rcases Nat.eq_zero_or_pos l.length with h0 | hp
      · exact List.length_eq_zero_iff.1 h0
      · obtain ⟨_, _, h0, _⟩ := hL hp; cases h0
    obtain rfl := hn rfl
    subst hl0
    refine wpList_append_own_none hgd s x _ ho base 22 i0 1 Try.underlying29 hi0 v _ _ hs hown hx (h v w (by simpa using hown) ⟨rfl, rfl, rfl, Nat.le_refl _, fun _ _ _ => rfl⟩ (.inl rfl))
  | some ad =>
    refine wpList_append_own_at w hgd s x _ ho base 22 i0 _ 1 8 Try.underlying29 hi0 hz0 hz1 hz2 rfl (by decide) v _ _ hs hown ad l.length lc (l.map encF) hx hlen (fun j u hu => ?_) (map_one l) (by unfold maxLen; omega) (by omega) hbase (fun v' w' h1 h2 _ h4 => h v' w' (by rw [List.length_append, List.map_append]; exact h1) h2 h4)
    by_cases hp : 0 < l.length
    · obtain ⟨bk, off, e, _, hI⟩ := hL hp
      injection e with e
      subst e
      have hj := (List.getElem?_eq_some_iff.1 hu).1
      simp at hj
      have e2 : (l.map encF)[j]? = some (encF l[j]) := by simp [hj]
      rw [e2] at hu
      injection hu with hu
      rw [← hu]
      have := hI j hj
      by_cases h0 : j = 0
      · subst h0
        simpa [Addr.add] using this
      · simpa [Addr.add, h0] using this
    · have := (List.getElem?_eq_some_iff.1 hu).1
      simp at this
      omega
def FlEnd (w : World) (l : List UInt64) (e : Ending) (w' : World) : Prop :=
  ∃ A cap, e = .returned (.slice A l.length cap) ∧ w'.ownsRow w.heap.size 22 1 (.slice A l.length cap) l.length (l.map encF) ∧ Below w.heap.size w w'
set_option maxRecDepth 100000 in
set_option maxHeartbeats 4000000 in
theorem clone_any (A : Option Addr) (c : Nat) (l : List UInt64) (w : World) (hL : FlIn w A l) (hz : A = none → c = 0) (hl : l.length ≤ 1000000) :
    Calls Try.prog 39 #[.slice A l.length c] w (FlEnd w l) := by
  have HL := Lib.hid hL
  have HZ := Lib.hid hz
  clear hL hz
  cases A with
  | none =>
    have hq := fun (w : World) (n c : Nat) => Lib.run_eql_slice_nil (P := Try.prog) w 29 22 none n c 0 0 Try.underlying29
    have hln : l = [] := by
      rcases Nat.eq_zero_or_pos l.length with h0 | hp
      · exact List.length_eq_zero_iff.1 h0
      · obtain ⟨_, _, h0, _⟩ := HL.out hp; cases h0
    subst hln
    go_enter Try.func39, Try.ntmps39
    go_wp2_with fail
    go_ret
    exact ⟨none, 0, rfl, World.ownsRow_nil _ _ _ _, Below.refl _ _⟩
  | some ad =>
    have hq := fun (w : World) (n c : Nat) => Lib.run_eql_slice_nil (P := Try.prog) w 29 22 (some ad) n c 0 0 Try.underlying29
    have HO0 : Hid ((w.alloc (.cells #[] 22)).ownsRow w.heap.size 22 1 (.slice (some ⟨w.heap.size, 0, none⟩) 0 0) ([] : List UInt64).length (([] : List UInt64).map encF)) := Lib.hid (World.ownsRow_made (size := 1) (e := 22) w #[] 0 (Nat.le_refl _) (by unfold maxLen; omega) rfl)
    have HL0 := Lib.hid (HL.out.below (alloc1 w (.cells #[] 22)))
    have hs0 : w.heap.size ≤ (w.alloc (.cells #[] 22)).heap.size := (alloc1 w _).size
    go_enter Try.func39, Try.ntmps39
    go_upto_region 3 with fail
    go_wp2_with (at_builtin; refine wpList_append_fls (w := w.alloc (.cells #[] 22)) rfl (.tmp 5) (.tmp 6) rfl w.heap.size (.slice (some ⟨w.heap.size, 0, none⟩) 0 0) [] l rfl HO0.out (some ad) c rfl HL0.out HZ.out (by simp; omega) hs0 ?_; intro v1 w1 ho1 hg1 hat1; rw [List.nil_append] at ho1; obtain ⟨NA, nc, rfl, -, -⟩ := own_form ho1; have HO1 := Lib.hid ho1; have HB1 : Hid (Below w.heap.size w w1) := Lib.hid ((alloc1 w _).grown hg1 hs0 (fun q e => own_base HO0.out q e)); clear ho1 hg1 hat1)
    go_ret
    exact ⟨NA, nc, rfl, HO1.out, HB1.out⟩

/-- The library's stable sort of that many floats, by score.Order. -/
def Stable (n : Nat) : Prop := ∀ (d0 d : Array UInt64) (blk off cap : Nat) (w0 w : World), d.size = n → Row1 encF w0 blk off d0 → d0.size = d.size → SW encF w0 blk off d w →
  Calls Try.prog 46 #[.slice (some ⟨blk, off, none⟩) d.size cap, .int .i64 (d.size : Int), .func (.func 14) #[] #[]] w fun e w' =>
    e = .returned (.tuple #[]) ∧ ∃ d', SW encF w0 blk off d' w' ∧ PermIn 0 d.size d d' ∧ SortedIn (ltOf cF) 0 d.size d'
/-- The insertion sort of the floats from a to b. -/
theorem ins_any (blk off cap a b : Nat) (d0 d : Array UInt64) (w0 w : World) (R : Row1 encF w0 blk off d0) (hs : d0.size = d.size) (S : SW encF w0 blk off d w) (hab : a ≤ b) (hb : b ≤ d.size) (hsz : d.size ≤ 1000000) :
    Calls Try.prog 49 #[.slice (some ⟨blk, off, none⟩) d.size cap, .int .i64 a, .int .i64 b, .func (.func 14) #[] #[]] w fun e w' =>
      e = .returned (.tuple #[]) ∧ ∃ d', SW encF w0 blk off d' w' ∧ PermIn a b d d' ∧ SortedIn (ltOf cF) a b d' := by
  have hsz' : d.size < 4611686018427387904 := by omega
  have hc := cmpF blk off d0.size w0
  have hcon := Any.insertionSortCmpFunc_s (P := Try.prog) (ρ := insFl_ren) insFl encF cF 14 #[] blk off cap a b d0 d w0 w enters hc R hs S hab hb hsz'
  refine Calls.mono hcon ?_
  rintro e w' ⟨rfl, h⟩
  obtain ⟨h1, h2⟩ := insertionSort_holds (lt := ltOf cF) swoF d a b hab hb
  exact ⟨rfl, _, h, h1, h2⟩
end Go.Proofs.Ytngboallknmepaa.Fp

namespace Go.Proofs.Ytngboallknmepaa.Fp
set_option linter.unusedVariables false
set_option linter.unusedSimpArgs false
open Go.RowKit Go.Sort Go.Shelf
open T
set_option maxHeartbeats 400000 in
set_option maxRecDepth 100000 in
theorem stable_small {n : Nat} (hn : n < 20) : Stable n := by
  intro d0 d blk off cap w0 w hd R hs S
  have HS := Lib.hid S
  have HR := Lib.hid R
  clear S R
  obtain ⟨m, hm⟩ : ∃ m, m = d.size := ⟨_, rfl⟩
  have HC : Hid (Calls Try.prog 49 #[.slice (some ⟨blk, off, none⟩) m cap, .int .i64 0, .int .i64 (m : Int), .func (.func 14) #[] #[]] w fun e w' =>
      e = .returned (.tuple #[]) ∧ ∃ d', SW encF w0 blk off d' w' ∧ PermIn 0 m d d' ∧ SortedIn (ltOf cF) 0 m d') := by
    have h := ins_any blk off cap 0 d.size d0 d w0 w HR.out hs HS.out (by omega) (by omega) (by omega)
    rw [hm]
    exact h
  rw [← hm] at hd ⊢
  subst hd
  clear hm HS HR hs
  go_enter Try.func46, Try.ntmps46
  go_wp2_with fail
  have hm20 : (m : Int) < 20 := by omega
  go_loopg [7, 8] 0 (fun q av bv wr => av = .int .i64 0 ∧ bv = .int .i64 20 ∧ wr = w)
  case atStart => exact ⟨rfl, rfl, rfl⟩
  case round =>
    obtain ⟨rfl, rfl, rfl⟩ := hrel
    go_wp2_with (go_at_call 49; refine HC.out.mono ?_; rintro e w' ⟨rfl, d', HS', HP', HO'⟩)
    go_loopg [6] 0 (fun q av wr => av = .int .i64 20 ∧ SW encF w0 blk off d' wr)
    case atStart => exact ⟨rfl, HS'⟩
    case round =>
      clear HS'
      obtain ⟨rfl, HS'⟩ := hrel
      go_wp2_with fail
      go_end0
      exact ⟨rfl, d', HS', HP', HO'⟩
end Go.Proofs.Ytngboallknmepaa.Fp

namespace Go.Proofs.Ytngboallknmepaa.Fp
set_option linter.unusedVariables false
set_option linter.unusedSimpArgs false
open Go.RowKit Go.Sort Go.Shelf
open T
open I (alloc1 own_at own_below)


theorem perm_all {d d' : Array UInt64} (h : PermIn 0 d.size d d') : d'.toList.Perm d.toList := by
  have e := h.2.2
  have h1 := h.1
  rw [← h1, Array.extract_size, h1, Array.extract_size] at e
  exact e
theorem sorted_pair {d : Array UInt64} (h : SortedIn (ltOf cF) 0 d.size d) : d.toList.Pairwise fun a b => ky a.toNat ≤ ky b.toNat := by
  rw [List.pairwise_iff_getElem]
  intro i j hi hj hij
  have := h i j (Nat.zero_le _) hij (by simpa using hj)
  rw [lt_cF, decide_eq_false_iff_not, getElem!_pos d j (by simpa using hj), getElem!_pos d i (by simpa using hi)] at this
  simpa using this
theorem fl_holds {w : World} {g : Nat} {cs : Array Value} {l : List UInt64} (hx : w.heap[g]? = some (.cells cs 22 (0, 0))) (h : FlAt w g 0 l) : Holds encF w g 0 l.toArray := fun t ht => by
  have ht' : t < l.length := by simpa using ht
  refine ⟨?_, by simp [World.frozen?, hx]⟩
  have := h t ht'
  rw [this, getElem!_pos l.toArray t ht]
  simp
theorem holds_fl {w : World} {g : Nat} {d : Array UInt64} (h : Holds encF w g 0 d) : FlAt w g 0 d.toList := fun j hj => by
  have hj' : j < d.size := by simpa using hj
  have := (h j hj').1
  rw [this, getElem!_pos d j hj']
  simp
set_option maxHeartbeats 1000000 in
theorem ins_none (A : Option Addr) (cap : Nat) (fv : Value) (w : World) :
    Calls Try.prog 49 #[.slice A 0 cap, .int .i64 0, .int .i64 0, fv] w fun e w' => e = .returned (.tuple #[]) ∧ w' = w := by
  go_enter Try.func49, Try.ntmps49
  go_wp2_with fail
  refine wp_loop_rounds 1 ?_
  rw [rounds_succ]
  go_wp2_with fail
  go_end0
  exact ⟨rfl, rfl⟩
set_option maxHeartbeats 1000000 in
theorem stable_none (A : Option Addr) (cap : Nat) (fv : Value) (w : World) :
    Calls Try.prog 46 #[.slice A 0 cap, .int .i64 0, fv] w fun e w' => e = .returned (.tuple #[]) ∧ w' = w := by
  go_enter Try.func46, Try.ntmps46
  go_wp2_with fail
  go_loopg [7, 8] 0 (fun q av bv wr => av = .int .i64 0 ∧ bv = .int .i64 20 ∧ wr = w)
  case atStart => exact ⟨rfl, rfl, rfl⟩
  case round =>
    obtain ⟨rfl, rfl, rfl⟩ := hrel
    go_wp2_with (go_at_call 49; refine (ins_none _ _ _ _).mono ?_; rintro e w' ⟨rfl, rfl⟩)
    go_loopg [6] 0 (fun q av w1 => av = .int .i64 20 ∧ w1 = w')
    case atStart => exact ⟨rfl, rfl⟩
    case round =>
      obtain ⟨rfl, rfl⟩ := hrel
      go_wp2_with fail
      go_end0
      exact ⟨rfl, rfl⟩
set_option maxHeartbeats 2000000 in
set_option maxRecDepth 100000 in
/-- slices.SortStableFunc(l, score.Order). -/
theorem sortf_any {w : World} {base : Nat} {A : Option Addr} {cap : Nat} {l : List UInt64} (hS : Stable l.length) (hrow : w.ownsRow base 22 1 (.slice A l.length cap) l.length (l.map encF)) (hlen : l.length ≤ 1000000) :
    Calls Try.prog 40 #[.slice A l.length cap, .func (.func 14) #[] #[]] w fun e w' => e = .returned (.tuple #[]) ∧
      ∃ l', l'.Perm l ∧ l'.Pairwise (fun a b => ky a.toNat ≤ ky b.toNat) ∧ FlIn w' A l' ∧ Below base w w' := by
  have HC : Hid (Calls Try.prog 46 #[.slice A l.length cap, .int .i64 (l.length : Int), .func (.func 14) #[] #[]] w fun e w' => e = .returned (.tuple #[]) ∧
      ∃ l', l'.Perm l ∧ l'.Pairwise (fun a b => ky a.toNat ≤ ky b.toNat) ∧ FlIn w' A l' ∧ Below base w w') := by
    by_cases h0 : l.length = 0
    · obtain rfl : l = [] := List.length_eq_zero_iff.1 h0
      refine Calls.mono (stable_none A cap _ w) ?_
      rintro e w' ⟨rfl, rfl⟩
      exact ⟨rfl, [], List.Perm.refl _, List.Pairwise.nil, fun h => absurd h (by simp), Below.refl _ _⟩
    · obtain ⟨g, cap, cur, hv, hbg, hgb⟩ : ∃ g cap' cur, Value.slice A l.length cap = .slice (some ⟨g, 0, none⟩) l.length cap' ∧ base ≤ g ∧ w.heap[g]? = some (.cells cur 22 (0, 0)) := by
        rcases hrow.2 with ⟨_, hz⟩ | ⟨g, cap, cur, h1, h2, h3, _⟩
        · exact absurd hz h0
        · exact ⟨g, cap, cur, h1, h2, h3⟩
      injection hv with hA _ hc
      subst hA
      subst hc
      obtain ⟨bk, off, hA, hbk, hL⟩ := fl_own hrow (by omega)
      cases hA
      have hH : Holds encF w g 0 l.toArray := fl_holds hgb hL
      have hcon := hS l.toArray l.toArray g 0 cap w w (by simp) ⟨oneF, hH, hbk⟩ rfl (SW.start hH)
      simp only [List.size_toArray] at hcon
      refine Calls.mono hcon ?_
      rintro e w' ⟨rfl, d', ⟨n, os, hw⟩, hp, hs⟩
      have hp' : PermIn 0 l.toArray.size l.toArray d' := by simpa using hp
      refine ⟨rfl, d'.toList, perm_all hp', ?_, fun _ => ⟨g, 0, rfl, ?_, ?_⟩, ?_⟩
      · have := hp.1
        refine sorted_pair ?_
        rw [this]
        simpa using hs
      · rw [hw]
        unfold sortWorld
        rw [size_grow, size_putRow]
        show g < w.heap.size + _
        omega
      · have h2 : SW encF w g 0 d' w' := ⟨n, os, hw⟩
        exact holds_fl (h2.holds hbk hH hp.1)
      · rw [hw]
        unfold sortWorld
        have h1 : Below base w (putRow encF (Sort.ahead w n) g 0 d') := Lib.below_putRow (Below.refl _ _) hbg
        exact h1.trans ((T.below_grow _ 0 os).mono (by simp [Sort.ahead]; omega))
  clear hrow hS
  go_enter Try.func40, Try.ntmps40
  go_wp2_with (go_at_call 46; refine HC.out.mono ?_; rintro e w' ⟨rfl, l', q1, q2, q3, q4⟩)
  go_end0
  exact ⟨rfl, l', q1, q2, q3, q4⟩
/-- A row in order. -/
def SoEnd (w : World) (l : List UInt64) (e : Ending) (w' : World) : Prop :=
  ∃ A cap l', e = .returned (.slice A l'.length cap) ∧ l'.Perm l ∧ l'.Pairwise (fun a b => ky a.toNat ≤ ky b.toNat) ∧ FlIn w' A l' ∧ Below w.heap.size w w'
set_option maxHeartbeats 2000000 in
set_option maxRecDepth 100000 in
theorem sort_any (A : Option Addr) (c : Nat) (l : List UInt64) (w : World) (hS : Stable l.length) (hL : FlIn w A l) (hz : A = none → c = 0) (hl : l.length ≤ 1000000) :
    Calls Try.prog 17 #[.slice A l.length c] w (SoEnd w l) := by
  have HC := Lib.hid (clone_any A c l w hL hz hl)
  have HS := Lib.hid hS
  clear hL hS
  go_enter Try.func17, Try.ntmps17
  go_wp2_with (first | (go_at_call 39; refine HC.out.mono ?_; rintro e w1 ⟨NA, nc, rfl, HO, HB⟩) | (go_at_call 40; refine (sortf_any HS.out HO (by assumption)).mono ?_; rintro e w2 ⟨rfl, l', q1, q2, q3, q4⟩))
  go_ret
  refine ⟨NA, nc, l', ?_, q1, q2, q3, HB.trans q4⟩
  rw [q1.length_eq]
  rfl
/-- A sum's word. -/
structure Ad (a b r : Nat) : Prop where
  lt : r < 2 ^ 64
  some : ∀ v, D.add a b = some v → r = v
  none : D.add a b = none → isN r = true
theorem add_run (a b : Nat) (w : World) : ∃ r W, (binOp .add 22 (.float .f64 a) (.float .f64 b)).run Try.prog w = .ok (.float .f64 r) W ∧ Ad a b r ∧ Gw w W := by
  cases e : D.add a b with
  | some v =>
    have h : D.add a b = some v := e
    refine ⟨v, w, run_add a b v h w, ⟨?_, fun v' h' => ?_, fun h' => ?_⟩, Gw.refl _⟩
    · have := Ieee.Format.add_lt D h
      exact this
    · cases h.symm.trans h'; rfl
    · cases h.symm.trans h'
  | none =>
    have h : FloatKind.f64.format.add a b = none := e
    refine ⟨Question.cut (.nanBits .f64 a b) (w.tape w.drawn (.nanBits .f64 a b)), w.drew, by simp [binOp, Op.floatArith, h, Question.forced], ⟨nb_lt _, fun v' h' => (by rw [e] at h'; cases h'), fun _ => nb_nan _⟩, Gw.drew _⟩
theorem half_num (x : Nat) (nx : isN x = false) (w : World) : Calls Try.prog 41 #[fV x] w fun e w' => e = .returned (fV (hf x)) ∧ w' = w := by
  have hq := run_quo x 4611686018427387904 _ (div_two nx)
  go_enter Try.func41, Try.ntmps41
  go_wp2_with fail
  go_ret
  exact ⟨rfl, rfl⟩
/-- What stands in the middle of a row in order. -/
structure Md (s : List UInt64) (r : Nat) : Prop where
  lt : r < 2 ^ 64
  none : s = [] → isN r = true
  nan : ∀ x, s.getLast? = some x → isN x.toNat = true → isN r = true
  odd : ∀ x, s.getLast? = some x → isN x.toNat = false → s.length % 2 = 1 → ∃ y, s[s.length / 2]? = some y ∧ r = y.toNat
  even : ∀ x, s.getLast? = some x → isN x.toNat = false → s.length % 2 = 0 → ∃ y z, s[s.length / 2 - 1]? = some y ∧ s[s.length / 2]? = some z ∧ isN y.toNat = false ∧ isN z.toNat = false ∧ Ad (hf y.toNat) (hf z.toNat) r
theorem pair_last {s : List UInt64} (h : s.Pairwise (fun a b => ky a.toNat ≤ ky b.toNat)) {x : UInt64} (hx : s.getLast? = some x) (hn : isN x.toNat = false) : ∀ y ∈ s, isN y.toNat = false := by
  intro y hy
  have hl : ky y.toNat ≤ ky x.toNat := by
    obtain ⟨i, hi, rfl⟩ := List.mem_iff_getElem.1 hy
    have hne : s ≠ [] := by rintro rfl; simp at hi
    rw [List.getLast?_eq_getElem?] at hx
    have hlt : s.length - 1 < s.length := by omega
    rw [List.getElem?_eq_getElem hlt] at hx
    injection hx with hx
    rw [← hx]
    rcases Nat.lt_or_ge i (s.length - 1) with g | g
    · exact List.pairwise_iff_getElem.1 h i (s.length - 1) hi hlt g
    · have : i = s.length - 1 := by omega
      subst this; exact Int.le_refl _
  cases e : isN y.toNat
  · rfl
  · have := ky_nan e; have := ky_num hn; omega
end Go.Proofs.Ytngboallknmepaa.Fp
