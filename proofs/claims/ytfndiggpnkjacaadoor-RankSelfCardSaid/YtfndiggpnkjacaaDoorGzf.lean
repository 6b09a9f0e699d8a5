/-
  What is whole of a float, and how many thousandths it is, in plain words.
  Floats halved, how much is whole of them, and how many thousandths they are: the program's and the reference's functions.
  How much two texts have in common, a number between bounds, the reference's thousandths, the place of the greatest.
  How many lines two texts have in common, and how much they are like each other, in plain words.
  Likenesses in order, in plain words: the library's insertion sort is stable; rows in that order are the same but for what is none.
  A range over the items that are seen, with their places: the iterator's contract.
  The contract of view's Cut.
-/
import Derived.Test.YtfndiggpnkjacaaDoorGze
import Derived.Sort.Grow
import Derived.Test.YtfndiggpnkjacaaDoorGzc
import Derived.Test.YtfndiggpnkjacaaDoorGzd
import Derived.Shelf.SlSortCmp.Insertion
import Derived.Sort.LotA
import Derived.RangeFuncNested
import Derived.RangeFuncBox
import Derived.RangeFuncBound
import Derived.RangeFuncCalls
import Derived.RangeFuncLeaves
import Derived.Shelf.Abstract
import Derived.Shelf.RegionOpen
import Derived.WalkKit
import Derived.OwnWalkIn
import Derived.TacticsInMore
import Derived.LoopNIn
import Derived.LoopIn
import Derived.Maps.AppendAt
namespace Go.Proofs.YtfndiggpnkjacaaDoor.Fp
set_option linter.unusedVariables false
set_option linter.unusedSimpArgs false
open Ieee
def THOU : Nat := 4652007308841189376
theorem cut_off {way : Toward} (hw : way = .down ∨ way = .zero) (n d : Nat) : way.cut false n d = n / 2 ^ d := by
  have h0 : way.cut false n d = n / 2 ^ (min d (n.log2 + 2)) := by
    unfold Toward.cut
    rcases hw with rfl | rfl <;> simp [Nat.shiftLeft_eq]
  rw [h0]
  rcases Nat.lt_or_ge (n.log2 + 2) d with h | h
  · rw [Nat.min_eq_right (by omega)]
    have h1 : n < 2 ^ (n.log2 + 1) := Nat.lt_log2_self
    have h2 : (2 : Nat) ^ (n.log2 + 2) = 2 * 2 ^ (n.log2 + 1) := by rw [Nat.pow_succ]; omega
    have h3 : 2 ^ (n.log2 + 2) ≤ 2 ^ d := Nat.pow_le_pow_right (by decide) (by omega)
    rw [Nat.div_eq_of_lt (by omega), Nat.div_eq_of_lt (by omega)]
  · rw [Nat.min_eq_left h]
theorem whole_val {way : Toward} (hw : way = .down ∨ way = .zero) (m u : Nat) : way.cut false (m <<< ((u : Int) - 1074).toNat) (-((u : Int) - 1074)).toNat = m * 2 ^ u / 2 ^ LP := by
  rw [cut_off hw, Nat.shiftLeft_eq]
  have hL : LP = 1074 := rfl
  rcases Nat.lt_or_ge u LP with h | h
  · rw [show ((u : Int) - 1074).toNat = 0 by omega, show (-((u : Int) - 1074)).toNat = LP - u by omega, Nat.pow_zero, Nat.mul_one]
    have : (2 : Nat) ^ LP = 2 ^ (LP - u) * 2 ^ u := by rw [← Nat.pow_add]; congr 1; omega
    rw [this, Nat.mul_div_mul_right _ _ (Nat.two_pow_pos u)]
  · rw [show ((u : Int) - 1074).toNat = u - LP by omega, show (-((u : Int) - 1074)).toNat = 0 by omega, Nat.pow_zero, Nat.div_one]
    have : (2 : Nat) ^ u = 2 ^ (u - LP) * 2 ^ LP := by rw [← Nat.pow_add]; congr 1; omega
    rw [this, ← Nat.mul_assoc, Nat.mul_div_cancel _ (Nat.two_pow_pos LP)]
/-- What is whole of a number that is not below 0. -/
def wq (y : Nat) : Nat := U (rg y) / 2 ^ LP
theorem floor_pos {y : Nat} (hy : rg y < INF) (sy : ng y = false) (hq : wq y < 2 ^ 53) : D.write ((D.read y).integral .down) = fl (wq y) := by
  obtain ⟨m, u, e, hu, -⟩ := read_fin hy
  rw [e, sy]
  simp only [Datum.integral, whole_val (.inl rfl), hu]
  have := of_int hq
  rw [Int.natAbs_natCast] at this
  have e2 : decide (((wq y : Nat) : Int) < 0) = false := by simp
  rw [e2] at this
  exact this
theorem trunc_pos {y : Nat} (hy : rg y < INF) (sy : ng y = false) : (D.read y).toInt .zero = some ((wq y : Nat) : Int) := by
  obtain ⟨m, u, e, hu, -⟩ := read_fin hy
  rw [e, sy]
  simp only [Datum.toInt, Datum.integral, whole_val (.inr rfl), hu, signed_eq]
  unfold sg wq
  rw [Nat.pow_zero, Nat.mul_one]
  rfl
theorem wq_fl {n : Nat} (h : n < 2 ^ 53) : wq (fl n) = n := by
  unfold wq
  rw [fl_rg h, U_fl h]
  exact Nat.mul_div_cancel n (Nat.two_pow_pos LP)
theorem read_thou : ∃ m u : Nat, D.read THOU = .number false m ((u : Int) - 1074) ∧ m * 2 ^ u = 1000 * 2 ^ LP := by
  have h : rg THOU < INF := by decide
  obtain ⟨m, u, e, hu, -⟩ := read_fin h
  have s : ng THOU = false := by decide
  rw [s] at e
  refine ⟨m, u, e, hu.trans ?_⟩
  have r : rg THOU = THOU := by decide
  rw [r]
  unfold U
  rw [if_neg (by decide)]
  have e1 : THOU / 2 ^ 52 - 1 = LP - 43 := by decide
  have e2 : 2 ^ 52 + THOU % 2 ^ 52 = 1000 * 2 ^ 43 := by decide
  have e3 : 43 + (LP - 43) = LP := by rw [LP_eq]
  rw [e1, e2, Nat.mul_assoc, ← Nat.pow_add, e3]
theorem thou_eq : THOU = fl 1000 := by
  have h : rg THOU < INF := by decide
  obtain ⟨m, u, e, hu⟩ := read_thou
  obtain ⟨m', u', e', hu', -⟩ := read_fin h
  have s : ng THOU = false := by decide
  rw [e, s] at e'
  injection e' with _ e1 e2
  have e3 : u = u' := by omega
  have : U (rg THOU) = U (fl 1000) := by rw [← hu', ← e1, ← e3, hu, U_fl (by decide)]
  have r : rg THOU = THOU := by decide
  rw [r] at this
  exact U_inj this
/-- A thousand times a number. -/
def th (x : Nat) : Nat := wd (ng x) (min (RV (1000 * U (rg x)) 0) INF)
theorem mul_thou {x : Nat} (hx : rg x < INF) : D.mul THOU x = some (th x) := by
  obtain ⟨n, v, e1, h1⟩ := read_thou
  obtain ⟨m, u, e, hu, -⟩ := read_fin hx
  unfold Format.mul
  rw [e1, e]
  simp only [Datum.product, Option.map_some]
  show some (D.nearest (false ^^ ng x) _ _) = _
  rw [nearest_eq (false ^^ ng x) (n * m) (v + u) LP _ (by rw [LP_eq]; omega), D_word, D_inf, Bool.false_xor]
  have e2 : n * m * 2 ^ (v + u) = (1000 * U (rg x)) * 2 ^ LP := by
    rw [Nat.pow_add, ← Nat.mul_assoc, Nat.mul_right_comm n m, Nat.mul_assoc (n * 2 ^ v), hu, h1, Nat.mul_right_comm]
  have := RV_scale (1000 * U (rg x)) 0 LP
  rw [Nat.zero_add] at this
  rw [e2, this]; rfl
theorem mul_thou_inf : D.mul THOU 18442240474082181120 = some 18442240474082181120 := by decide
theorem rg_one : rg ONE = ONE := by decide
/-- The thousandths of a number from 0 to below 1. -/
theorem th_lt {x : Nat} (h : rg x ≤ ONE) : RV (1000 * U (rg x)) 0 ≤ fl 1000 := by
  refine RV_mono ?_
  rw [Nat.pow_zero, Nat.mul_one, Nat.mul_one]
  refine Nat.mul_le_mul_left _ ?_
  have := U_le h
  rwa [← fl_one, U_fl (by decide), Nat.one_mul] at this
theorem rg_th {x : Nat} (h : rg x ≤ ONE) : rg (th x) = RV (1000 * U (rg x)) 0 := by
  have h1 := th_lt h
  have h2 : fl 1000 < INF := fl_lt (by decide)
  have h3 := INF_lt
  unfold th
  rw [Nat.min_eq_left (by omega), rg_wd (by omega)]
theorem ng_th {x : Nat} (h : rg x ≤ ONE) : ng (th x) = ng x := by
  have h1 := th_lt h
  have h2 : fl 1000 < INF := fl_lt (by decide)
  have h3 := INF_lt
  unfold th
  rw [Nat.min_eq_left (by omega), ng_wd (by omega)]
theorem wq_th {x : Nat} (h : rg x ≤ ONE) : wq (th x) ≤ 1000 := by
  unfold wq
  rw [rg_th h]
  have h1 := U_le (th_lt h)
  rw [U_fl (by decide)] at h1
  exact Nat.div_le_of_le_mul (Nat.le_trans h1 (Nat.le_of_eq (Nat.mul_comm _ _)))
/-- How many thousandths. -/
def ml (x : Nat) : Int := if isN x then -1 else if vl x < 0 then 0 else if vl ONE ≤ vl x then 1000 else wq (th x)
theorem ml_le (x : Nat) : -1 ≤ ml x ∧ ml x ≤ 1000 := by
  unfold ml
  split
  · omega
  · split
    · omega
    · split
      · omega
      · rename_i h1 h2 h3
        have : rg x ≤ ONE := by
          have v1 : vl ONE = (ONE : Int) := by decide
          rw [v1] at h3
          unfold vl sg at h2 h3
          generalize ng x = s at h2 h3
          cases s <;> simp at h2 h3 <;> omega
        have := wq_th this
        omega
/-- A greater number has not fewer. -/
theorem ml_mono {a b : Nat} (na : isN a = false) (nb : isN b = false) (h : vl a ≤ vl b) : ml a ≤ ml b := by
  have la := ml_le a
  have lb := ml_le b
  have v1 : vl ONE = (ONE : Int) := by decide
  unfold ml at *
  rw [na, nb] at *
  simp only [Bool.false_eq_true, ↓reduceIte] at *
  by_cases a1 : vl a < 0
  · rw [if_pos a1]
    split
    · omega
    · split <;> omega
  · rw [if_neg a1] at *
    by_cases b3 : vl ONE ≤ vl b
    · have b1 : ¬ vl b < 0 := by omega
      rw [if_neg b1, if_pos b3]; omega
    · have a3 : ¬ vl ONE ≤ vl a := by omega
      have b1 : ¬ vl b < 0 := by omega
      rw [if_neg a3, if_neg b1, if_neg b3]
      rw [v1] at a3 b3
      have ra : rg a ≤ ONE := by
        unfold vl sg at a1 a3
        generalize ng a = s at a1 a3
        cases s <;> simp at a1 a3 <;> omega
      have rb : rg b ≤ ONE := by
        unfold vl sg at b1 b3
        generalize ng b = s at b1 b3
        cases s <;> simp at b1 b3 <;> omega
      have rab : rg a ≤ rg b := by
        unfold vl sg at h a1 b1
        generalize ng a = s at h a1
        generalize ng b = t at h b1
        cases s <;> cases t <;> simp at h a1 b1 <;> omega
      have : wq (th a) ≤ wq (th b) := by
        unfold wq
        rw [rg_th ra, rg_th rb]
        refine Nat.div_le_div_right (U_le (RV_mono ?_))
        rw [Nat.pow_zero, Nat.mul_one, Nat.mul_one]
        exact Nat.mul_le_mul_left _ (U_le rab)
      omega
end Go.Proofs.YtfndiggpnkjacaaDoor.Fp

namespace Go.Proofs.YtfndiggpnkjacaaDoor.Fp
set_option linter.unusedVariables false
set_option linter.unusedSimpArgs false
open Go.RowKit Go.Sort
open T
open I (alloc1)

/-- Draws and blocks: nothing else. -/
def Gw (b W : World) : Prop := ∃ q os, W = grow (b.drewN q) os
theorem Gw.refl (b : World) : Gw b b := ⟨0, #[], by simp; rfl⟩
theorem Gw.drew (b : World) : Gw b b.drew := ⟨1, #[], by simp; rfl⟩
theorem Gw.trans {a b c : World} (h : Gw a b) (k : Gw b c) : Gw a c := by
  obtain ⟨q, os, rfl⟩ := h
  obtain ⟨p, os', rfl⟩ := k
  refine ⟨q + p, os ++ os', ?_⟩
  show grow (grow ((a.drewN q).drewN p) os) os' = _
  rw [grow_grow]
  congr 1
  simp [World.drewN, Nat.add_assoc, Nat.add_comm, Nat.add_left_comm]
theorem Gw.alloc {a b : World} (h : Gw a b) (o : Obj) : Gw a (b.alloc o) := h.trans ⟨0, #[o], by rw [alloc_eq_grow]; rfl⟩
theorem Gw.below {a b : World} (h : Gw a b) : Below a.heap.size a b := by
  obtain ⟨q, os, rfl⟩ := h
  exact T.below_grow a q os
/-- A word that stands for a number as it was halved n times; a NaN for a NaN. -/
structure Hv (n x r : Nat) : Prop where
  lt : r < 2 ^ 64
  nan : isN r = isN x
  val : isN x = false → r = hv n x
theorem Hv.ky {n x r r' : Nat} (h : Hv n x r) (h' : Hv n x r') : ky r = ky r' := by
  cases e : isN x
  · rw [h.val e, h'.val e]
  · rw [ky_nan (h.nan.trans e), ky_nan (h'.nan.trans e)]
theorem Hv.zero {x : Nat} (h : x < 2 ^ 64) : Hv 0 x x := ⟨h, rfl, fun _ => (hv_zero h).symm⟩
theorem Hv.step {n x r r' : Nat} (h : Hv n x r) (h' : Hv 1 r r') : Hv (n + 1) x r' := by
  refine ⟨h'.lt, h'.nan.trans h.nan, fun e => ?_⟩
  rw [h'.val (h.nan.trans e), h.val e, hv_one, hv_snoc]
theorem Hv.add {m n x r r' : Nat} (h : Hv m x r) (h' : Hv n r r') : Hv (m + n) x r' := by
  refine ⟨h'.lt, h'.nan.trans h.nan, fun e => ?_⟩
  rw [h'.val (h.nan.trans e), h.val e, hv_add]
theorem Hv.stop {k n x r r' : Nat} (h : Hv k x r) (h' : Hv 1 r r') (he : Fp.ky r' = Fp.ky r) (hk : k ≤ n) : Hv n x r := by
  refine ⟨h.lt, h.nan, fun e => ?_⟩
  have e' := h.nan.trans e
  have : r' = r := ky_inj h'.lt h.lt (h'.nan.trans e') he
  have hf1 : hf r = r := by rw [← hv_one, ← h'.val e', this]
  have := hv_fix h.lt hf1 (n - k)
  rw [h.val e, hv_add, show k + (n - k) = n by omega] at this
  rw [this, h.val e]
theorem Hv.cap {n x r r' : Nat} (h : Hv n x r) (h' : Hv (min n 3000) x r') : Fp.ky r = Fp.ky r' := by
  cases e : isN x
  · rw [h.val e, h'.val e]
    rcases Nat.lt_or_ge n 3000 with g | g
    · rw [Nat.min_eq_left (by omega)]
    · rw [hv_stop x (m := n) (n := min n 3000) (by omega) (by omega)]
  · rw [ky_nan (h.nan.trans e), ky_nan (h'.nan.trans e)]
/-- The bits that the machine chooses for a NaN. -/
def nbv (x y : Nat) (w : World) : Nat := Question.cut (.nanBits .f64 x y) (w.tape w.drawn (.nanBits .f64 x y))
theorem nbv_lt (x y : Nat) (w : World) : nbv x y w < 2 ^ 64 := nb_lt _
theorem nbv_nan (x y : Nat) (w : World) : isN (nbv x y w) = true := nb_nan _
theorem run_quo_nan (x y : Nat) (h : D.div x y = none) (w : World) : (binOp .quo 27 (.float .f64 x) (.float .f64 y)).run Tryd.prog w = .ok (.float .f64 (nbv x y w)) w.drew := by
  have h' : FloatKind.f64.format.div x y = none := h
  simp [binOp, Op.floatArith, h', Question.forced, nbv]
theorem run_mul (x y r : Nat) (h : D.mul x y = some r) (w : World) : (binOp .mul 27 (.float .f64 x) (.float .f64 y)).run Tryd.prog w = .ok (.float .f64 r) w := run_float_arith w .mul _ .f64 x y r h
theorem run_add (x y r : Nat) (h : D.add x y = some r) (w : World) : (binOp .add 27 (.float .f64 x) (.float .f64 y)).run Tryd.prog w = .ok (.float .f64 r) w := run_float_arith w .add _ .f64 x y r h
set_option maxHeartbeats 1000000 in
set_option maxRecDepth 100000 in
theorem none_any (w : World) : Calls Tryd.prog 29 #[] w fun e w' => ∃ r, e = .returned (fV r) ∧ isN r = true ∧ r < 2 ^ 64 ∧ Gw w w' := by
  have hq := run_quo_nan 0 0 div_zero_zero w
  go_enter Tryd.func29, Tryd.ntmps29
  go_wp2_with fail
  go_ret
  exact ⟨_, rfl, nbv_nan _ _ _, nbv_lt _ _ _, Gw.drew _⟩
theorem half_run (x : Nat) (hx : x < 2 ^ 64) (w : World) : ∃ r W, (binOp .quo 27 (.float .f64 x) (.float .f64 4611686018427387904)).run Tryd.prog w = .ok (.float .f64 r) W ∧ Hv 1 x r ∧ Gw w W := by
  cases nx : isN x
  · exact ⟨_, _, run_quo x 4611686018427387904 _ (div_two nx) w, ⟨hv_lt 1 x, by rw [nx]; exact hv_num nx 1, fun _ => rfl⟩, Gw.refl _⟩
  · exact ⟨_, _, run_quo_nan x 4611686018427387904 (div_nan (.inl nx)) w, ⟨nbv_lt _ _ _, by rw [nx]; exact nbv_nan _ _ _, fun h => by cases h.symm.trans nx⟩, Gw.drew _⟩
theorem run_floor (y : Nat) (h : isN y = false) (w : World) : (Extern.MathFloor.toIntegral "math.archFloor" .down #[fV y]).run Tryd.prog w = .ok (fV (D.write ((D.read y).integral .down))) w := by
  have e : ∀ s t, FloatKind.f64.decode y ≠ .nan s t := by
    intro s t
    show D.read y ≠ _
    rcases Nat.lt_or_ge (rg y) INF with g | g
    · obtain ⟨m, u, e, -⟩ := read_fin g
      rw [e]; simp
    · have : rg y ≤ INF := by simpa [isN] using h
      rw [read_inf (by omega)]; simp
  change Sem.run _ (match FloatKind.f64.decode y with | .nan s t => _ | d => pure (Value.float .f64 (FloatKind.f64.encode (d.integral .down)))) w = _
  cases hd : FloatKind.f64.decode y with
  | nan s t => exact absurd hd (e s t)
  | number s m i =>
    have : D.read y = .number s m i := hd
    rw [this]; rfl
  | infinity s =>
    have : D.read y = .infinity s := hd
    rw [this]; rfl
set_option maxHeartbeats 1000000 in
set_option maxRecDepth 100000 in
theorem floor_any (y : Nat) (h : isN y = false) (w : World) : Calls Tryd.prog 60 #[fV y] w fun e w' => e = .returned (fV (D.write ((D.read y).integral .down))) ∧ w' = w := by
  go_enter Tryd.func60, Tryd.ntmps60
  go_wp2_with fail
  rw [run_callFunc_extern Tryd.func65 (by kernel_rfl) (by kernel_rfl) (by kernel_rfl) (e := Extern.MathFloor.toIntegral "math.archFloor" .down) (by kernel_rfl), run_floor y h]
  simp only [Result.andThen]
  rw [Oper.upon_value]
  go_wp2_with fail
  go_ret
  exact ⟨rfl, rfl⟩
theorem run_trunc (y : Nat) (n : Int) (h : (D.read y).toInt .zero = some n) (h0 : 0 ≤ n) (h1 : n ≤ 1000) (w : World) : (convert 27 3 (.float .f64 y)).run Tryd.prog w = .ok (.int .i64 n) w := by
  refine run_convert_float_int w _ _ .f64 .i64 y n (by kernel_rfl) (by kernel_rfl) ?_
  unfold floatToIntVal
  have : (FloatKind.f64.decode y).toInt .zero = some n := h
  rw [this]
  have a : IntKind.i64.min = -9223372036854775808 := by decide
  have b : IntKind.i64.max = 9223372036854775807 := by decide
  simp only [a, b]
  rw [if_pos (by omega)]
set_option maxHeartbeats 2000000 in
set_option maxRecDepth 100000 in
theorem mille_any (x : Nat) (hx : x < 2 ^ 64) (w : World) : Calls Tryd.prog 50 #[fV x] w fun e w' => e = .returned (.int .i64 (ml x)) ∧ w' = w := by
  have z0 := isN_zero
  have v0 : vl 0 = 0 := by decide
  have z1 : isN 4607182418800017408 = false := by decide
  have v1 : vl 4607182418800017408 = 4607182418800017408 := by decide
  unfold ml
  rw [show vl ONE = 4607182418800017408 from v1]
  cases nx : isN x
  · rw [if_neg (by decide)]
    by_cases h1 : vl x < 0
    · rw [if_pos h1]
      go_enter Tryd.func50, Tryd.ntmps50
      go_wp2_with (go_at_call 32; refine (isnan_any _ _).mono ?_; rintro e w' ⟨rfl, rfl⟩)
      go_ret
      exact ⟨rfl, rfl⟩
    · rw [if_neg h1]
      by_cases h2 : 4607182418800017408 ≤ vl x
      · rw [if_pos h2]
        by_cases h3 : vl x = 4607182418800017408
        · have HE := Lib.hid h3
          have h3' : (decide (vl x = 4607182418800017408)) = true := by simp [h3]
          have h4 : ¬ (4607182418800017408 < vl x) := by omega
          go_enter Tryd.func50, Tryd.ntmps50
          go_wp2_with (go_at_call 32; refine (isnan_any _ _).mono ?_; rintro e w' ⟨rfl, rfl⟩)
          go_ret
          exact ⟨rfl, rfl⟩
        · have h4 : 4607182418800017408 < vl x := by omega
          go_enter Tryd.func50, Tryd.ntmps50
          go_wp2_with (go_at_call 32; refine (isnan_any _ _).mono ?_; rintro e w' ⟨rfl, rfl⟩)
          go_ret
          exact ⟨rfl, rfl⟩
      · rw [if_neg h2]
        have h3 : ¬ (vl x = 4607182418800017408) := by omega
        have h4 : ¬ (4607182418800017408 < vl x) := by omega
        have ro : rg x ≤ ONE := by
          have : ONE = 4607182418800017408 := rfl
          unfold vl sg at h1 h2
          generalize ng x = s at h1 h2
          cases s <;> simp at h1 h2 <;> omega
        have ri : rg x < INF := by
          have : ONE < INF := by decide
          omega
        have hq := run_mul 4652007308841189376 x _ (mul_thou ri)
        have nt : isN (th x) = false := by
          have := th_lt ro
          have := fl_lt (n := 1000) (by decide)
          unfold isN
          rw [rg_th ro]
          simp; omega
        have hw1 := wq_th ro
        have HT : ∃ n : Nat, n = wq (th x) := ⟨_, rfl⟩
        obtain ⟨n, hn⟩ := HT
        rw [← hn] at hw1 ⊢
        have ht : (D.read (D.write ((D.read (th x)).integral .down))).toInt .zero = some ((n : Nat) : Int) := by
          have ri' : rg (th x) < INF := by
            have := th_lt ro
            have := fl_lt (n := 1000) (by decide)
            rw [rg_th ro]; omega
          cases sx : ng x
          · have st : ng (th x) = false := by rw [ng_th ro, sx]
            rw [floor_pos ri' st (by omega), trunc_pos (by rw [fl_rg (by omega)]; exact fl_lt (by omega)) (fl_ng (by omega)), wq_fl (by omega), hn]
          · have vx : vl x = 0 := by
              unfold vl sg at h1 ⊢
              rw [sx] at h1 ⊢
              simp at h1 ⊢; omega
            rcases zero_of hx vx with rfl | rfl
            · cases sx
            · have e1 : th 9223372036854775808 = 9223372036854775808 := by decide
              have e2 : wq 9223372036854775808 = 0 := by
                unfold wq
                rw [show rg 9223372036854775808 = 0 by decide, U_zero, Nat.zero_div]
              have e3 : (D.read (D.write ((D.read 9223372036854775808).integral .down))).toInt .zero = some 0 := by decide
              rw [hn, e1, e2]
              exact e3
        clear hn
        have hc := run_trunc _ n ht (by omega) (by omega)
        go_enter Tryd.func50, Tryd.ntmps50
        go_wp2_with (first | (go_at_call 32; refine (isnan_any _ _).mono ?_; rintro e w' ⟨rfl, rfl⟩) | (go_at_call 60; refine (floor_any _ (by assumption) _).mono ?_; rintro e w' ⟨rfl, rfl⟩))
        go_ret
        exact ⟨rfl, rfl⟩
  · rw [if_pos rfl]
    go_enter Tryd.func50, Tryd.ntmps50
    go_wp2_with (go_at_call 32; refine (isnan_any _ _).mono ?_; rintro e w' ⟨rfl, rfl⟩)
    go_ret
    exact ⟨rfl, rfl⟩
end Go.Proofs.YtfndiggpnkjacaaDoor.Fp

namespace Go.Proofs.YtfndiggpnkjacaaDoor.Fp
set_option linter.unusedVariables false
set_option linter.unusedSimpArgs false
open Go.RowKit Go.Sort
open T
open I (alloc1)

/-- What a share is. -/
def Rok (c n m : Int) : Prop := 0 ≤ n ∧ n ≤ 2147483647 ∧ 0 ≤ m ∧ m ≤ 2147483647 ∧ 0 ≤ c ∧ c ≤ n ∧ c ≤ m ∧ ¬ (n = 0 ∧ m = 0)
instance (c n m : Int) : Decidable (Rok c n m) := by unfold Rok; infer_instance
structure Rt (c n m : Int) (r : Nat) : Prop where
  lt : r < 2 ^ 64
  nan : ¬ Rok c n m → isN r = true
  val : Rok c n m → D.div (fl (2 * c.toNat)) (fl (n.toNat + m.toNat)) = some r
theorem share {c n m : Nat} (h : Rok c n m) : ∃ r, D.div (fl (2 * c)) (fl (n + m)) = some r ∧ r ≤ ONE := by
  obtain ⟨h1, h2, h3, h4, h5, h6, h7, h8⟩ := h
  have ha : 2 * c < 2 ^ 53 := by omega
  have hb : n + m < 2 ^ 53 := by omega
  have hp : 0 < n + m := by omega
  rw [← fl_one]
  refine div_share (by rw [fl_rg ha]; exact fl_lt ha) (by rw [fl_rg hb]; exact fl_lt hb) (fl_ng ha) (fl_ng hb) ?_ ?_
  · rw [fl_rg ha, fl_rg hb, U_fl ha, U_fl hb]
    exact Nat.mul_le_mul_right _ (by omega)
  · rw [fl_rg hb, U_fl hb]
    exact Nat.mul_pos hp (Nat.two_pow_pos _)
theorem small_num {r : Nat} (h : r ≤ ONE) : isN r = false ∧ vl r = r ∧ r < 2 ^ 64 := by
  have e : ONE = 4607182418800017408 := rfl
  have e1 : rg r = r := Nat.mod_eq_of_lt (by omega)
  have e2 : ng r = false := by
    unfold ng
    rw [Nat.div_eq_of_lt (by omega)]; rfl
  refine ⟨?_, ?_, by omega⟩
  · unfold isN INF
    rw [e1]; simp; omega
  · unfold vl sg
    rw [e1, e2]; rfl
theorem Rt.le {c n m : Int} {r : Nat} (h : Rt c n m r) (hk : Rok c n m) : r ≤ ONE := by
  have hv := h.val hk
  obtain ⟨c', rfl⟩ := Int.eq_ofNat_of_zero_le hk.2.2.2.2.1
  obtain ⟨n', rfl⟩ := Int.eq_ofNat_of_zero_le hk.1
  obtain ⟨m', rfl⟩ := Int.eq_ofNat_of_zero_le hk.2.2.1
  obtain ⟨s, e, hs⟩ := share hk
  simp only [Int.toNat_natCast] at hv
  rw [e] at hv
  cases hv
  exact hs
theorem Rt.ky {c n m : Int} {r s : Nat} (h : Rt c n m r) (h' : Rt c n m s) : Fp.ky r = Fp.ky s := by
  by_cases hk : Rok c n m
  · have e := (h.val hk).symm.trans (h'.val hk)
    cases e; rfl
  · rw [ky_nan (h.nan hk), ky_nan (h'.nan hk)]
theorem Rt.turn {c n m : Int} {r : Nat} (h : Rt c n m r) : Rt c m n r := by
  have e : Rok c m n ↔ Rok c n m := by unfold Rok; omega
  refine ⟨h.lt, fun k => h.nan (fun k' => k (e.2 k')), fun k => ?_⟩
  rw [Nat.add_comm]; exact h.val (e.1 k)
theorem f_int {n : Nat} (h : n < 2 ^ 53) : floatOfInt .f64 (n : Int) = fl n := of_int h
theorem nan_word : isN 9221120237041090561 = true := by decide
attribute [local irreducible] fl
set_option maxHeartbeats 2000000 in
set_option maxRecDepth 100000 in
theorem ratio_any (c n m : Int) (w : World) : Calls Tryd.prog 28 #[.int .i64 c, .int .i64 n, .int .i64 m] w fun e w' => ∃ r, e = .returned (fV r) ∧ Rt c n m r ∧ Gw w w' := by
  by_cases hk : Rok c n m
  · have HK := Lib.hid hk
    obtain ⟨c, rfl⟩ := Int.eq_ofNat_of_zero_le hk.2.2.2.2.1
    obtain ⟨n, rfl⟩ := Int.eq_ofNat_of_zero_le hk.1
    obtain ⟨m, rfl⟩ := Int.eq_ofNat_of_zero_le hk.2.2.1
    obtain ⟨r, hr, hle⟩ := share hk
    obtain ⟨h1, h2, h3, h4, h5, h6, h7, h8⟩ := hk
    have HR := Lib.hid hr
    have HLE := Lib.hid hle
    have hq := run_quo _ _ r hr
    have i1 : floatOfInt .f64 (2 * (c : Int)) = fl (2 * c) := f_int (n := 2 * c) (by omega)
    have i2 : floatOfInt .f64 ((n : Int) + (m : Int)) = fl (n + m) := f_int (n := n + m) (by omega)
    clear hr hle
    have g1 : ¬ (min (n : Int) (m : Int) < 0) := by omega
    have g2 : ¬ (max (n : Int) (m : Int) > 2147483647) := by omega
    have g3 : ¬ ((c : Int) > min (n : Int) (m : Int)) := by omega
    by_cases h9 : (n : Int) = 0
    · have h10 : ((m : Int) == 0) = false := beq_eq_false_iff_ne.2 (fun h => h8 ⟨h9, h⟩)
      have h11 : ((n : Int) == 0) = true := beq_iff_eq.2 h9
      clear h9 h8
      go_enter Tryd.func28, Tryd.ntmps28
      go_wp2_with fail
      go_ret
      exact ⟨r, rfl, ⟨Nat.lt_of_le_of_lt HLE.out (by decide), fun h => absurd HK.out h, fun _ => HR.out⟩, Gw.refl _⟩
    · have h11 : ((n : Int) == 0) = false := beq_eq_false_iff_ne.2 h9
      clear h9 h8
      go_enter Tryd.func28, Tryd.ntmps28
      go_wp2_with fail
      go_ret
      exact ⟨r, rfl, ⟨Nat.lt_of_le_of_lt HLE.out (by decide), fun h => absurd HK.out h, fun _ => HR.out⟩, Gw.refl _⟩
  · have HK := Lib.hid hk
    by_cases a1 : min n m < 0
    · go_enter Tryd.func28, Tryd.ntmps28
      go_wp2_with ((go_at_call 27; refine (nan_any _).mono ?_; rintro e w' ⟨rfl, rfl⟩))
      go_ret
      exact ⟨_, rfl, ⟨by decide, fun _ => nan_word, fun h => absurd h HK.out⟩, Gw.refl _⟩
    · by_cases a2 : max n m > 2147483647
      · go_enter Tryd.func28, Tryd.ntmps28
        go_wp2_with ((go_at_call 27; refine (nan_any _).mono ?_; rintro e w' ⟨rfl, rfl⟩))
        go_ret
        exact ⟨_, rfl, ⟨by decide, fun _ => nan_word, fun h => absurd h HK.out⟩, Gw.refl _⟩
      · by_cases a3 : c < 0
        · go_enter Tryd.func28, Tryd.ntmps28
          go_wp2_with ((go_at_call 27; refine (nan_any _).mono ?_; rintro e w' ⟨rfl, rfl⟩))
          go_ret
          exact ⟨_, rfl, ⟨by decide, fun _ => nan_word, fun h => absurd h HK.out⟩, Gw.refl _⟩
        · by_cases a4 : c > min n m
          · go_enter Tryd.func28, Tryd.ntmps28
            go_wp2_with ((go_at_call 27; refine (nan_any _).mono ?_; rintro e w' ⟨rfl, rfl⟩))
            go_ret
            exact ⟨_, rfl, ⟨by decide, fun _ => nan_word, fun h => absurd h HK.out⟩, Gw.refl _⟩
          · have e1 : n = 0 ∧ m = 0 := by
              unfold Rok at hk
              omega
            obtain ⟨rfl, rfl⟩ := e1
            clear hk
            go_enter Tryd.func28, Tryd.ntmps28
            go_wp2_with ((go_at_call 27; refine (nan_any _).mono ?_; rintro e w' ⟨rfl, rfl⟩))
            go_ret
            exact ⟨_, rfl, ⟨by decide, fun _ => nan_word, fun h => absurd h HK.out⟩, Gw.refl _⟩
set_option maxHeartbeats 2000000 in
set_option maxRecDepth 100000 in
theorem rratio_any (c n m : Int) (w : World) : Calls Tryd.prog 30 #[.int .i64 c, .int .i64 n, .int .i64 m] w fun e w' => ∃ r, e = .returned (fV r) ∧ Rt c n m r ∧ Gw w w' := by
  by_cases hk : Rok c n m
  · have HK := Lib.hid hk
    obtain ⟨c, rfl⟩ := Int.eq_ofNat_of_zero_le hk.2.2.2.2.1
    obtain ⟨n, rfl⟩ := Int.eq_ofNat_of_zero_le hk.1
    obtain ⟨m, rfl⟩ := Int.eq_ofNat_of_zero_le hk.2.2.1
    obtain ⟨r, hr, hle⟩ := share hk
    obtain ⟨h1, h2, h3, h4, h5, h6, h7, h8⟩ := hk
    clear h8
    have HR := Lib.hid hr
    have HLE := Lib.hid hle
    have hq := run_quo _ _ r hr
    have i1 : floatOfInt .f64 (c : Int) = fl c := f_int (by omega)
    have i2 : floatOfInt .f64 (n : Int) = fl n := f_int (by omega)
    have i3 : floatOfInt .f64 (m : Int) = fl m := f_int (by omega)
    have q1 := run_add (fl c) (fl c) _ (fl_add (by omega))
    rw [show c + c = 2 * c by omega] at q1
    have q2 := run_add (fl n) (fl m) _ (fl_add (by omega))
    clear hr hle
    go_enter Tryd.func30, Tryd.ntmps30
    go_wp2_with fail
    go_ret
    exact ⟨r, rfl, ⟨Nat.lt_of_le_of_lt HLE.out (by decide), fun h => absurd HK.out h, fun _ => HR.out⟩, Gw.refl _⟩
  · have HK := Lib.hid hk
    by_cases a0 : n < 0
    · go_enter Tryd.func30, Tryd.ntmps30
      go_wp2_with ((go_at_call 29; refine (none_any _).mono ?_; rintro e w' ⟨r, rfl, HN, HL, HW⟩))
      go_ret
      exact ⟨_, rfl, ⟨HL, fun _ => HN, fun h => absurd h HK.out⟩, HW⟩
    · by_cases a1 : n > 2147483647
      · go_enter Tryd.func30, Tryd.ntmps30
        go_wp2_with ((go_at_call 29; refine (none_any _).mono ?_; rintro e w' ⟨r, rfl, HN, HL, HW⟩))
        go_ret
        exact ⟨_, rfl, ⟨HL, fun _ => HN, fun h => absurd h HK.out⟩, HW⟩
      · by_cases a2 : m < 0
        · go_enter Tryd.func30, Tryd.ntmps30
          go_wp2_with ((go_at_call 29; refine (none_any _).mono ?_; rintro e w' ⟨r, rfl, HN, HL, HW⟩))
          go_ret
          exact ⟨_, rfl, ⟨HL, fun _ => HN, fun h => absurd h HK.out⟩, HW⟩
        · by_cases a3 : m > 2147483647
          · go_enter Tryd.func30, Tryd.ntmps30
            go_wp2_with ((go_at_call 29; refine (none_any _).mono ?_; rintro e w' ⟨r, rfl, HN, HL, HW⟩))
            go_ret
            exact ⟨_, rfl, ⟨HL, fun _ => HN, fun h => absurd h HK.out⟩, HW⟩
          · by_cases a4 : c < 0
            · go_enter Tryd.func30, Tryd.ntmps30
              go_wp2_with ((go_at_call 29; refine (none_any _).mono ?_; rintro e w' ⟨r, rfl, HN, HL, HW⟩))
              go_ret
              exact ⟨_, rfl, ⟨HL, fun _ => HN, fun h => absurd h HK.out⟩, HW⟩
            · by_cases a5 : c > n
              · go_enter Tryd.func30, Tryd.ntmps30
                go_wp2_with ((go_at_call 29; refine (none_any _).mono ?_; rintro e w' ⟨r, rfl, HN, HL, HW⟩))
                go_ret
                exact ⟨_, rfl, ⟨HL, fun _ => HN, fun h => absurd h HK.out⟩, HW⟩
              · by_cases a6 : c > m
                · go_enter Tryd.func30, Tryd.ntmps30
                  go_wp2_with ((go_at_call 29; refine (none_any _).mono ?_; rintro e w' ⟨r, rfl, HN, HL, HW⟩))
                  go_ret
                  exact ⟨_, rfl, ⟨HL, fun _ => HN, fun h => absurd h HK.out⟩, HW⟩
                · have e1 : n = 0 ∧ m = 0 ∧ c = 0 := by
                    unfold Rok at hk
                    omega
                  obtain ⟨rfl, rfl, rfl⟩ := e1
                  clear hk
                  have i0 : floatOfInt .f64 0 = 0 := by decide
                  have q1 := run_add 0 0 0 (by decide)
                  have q2 := run_quo_nan 0 0 div_zero_zero w
                  go_enter Tryd.func30, Tryd.ntmps30
                  go_wp2_with fail
                  go_ret
                  exact ⟨_, rfl, ⟨nbv_lt _ _ _, fun _ => nbv_nan _ _ _, fun h => absurd h HK.out⟩, Gw.drew _⟩
end Go.Proofs.YtfndiggpnkjacaaDoor.Fp

namespace Go.Proofs.YtfndiggpnkjacaaDoor.Rk
set_option linter.unusedVariables false
set_option linter.unusedSimpArgs false
open T
open N (Ln row known add row_length)
open Fp (fl Rok Rt isN ky ky_nan ky_num vl ONE small_num)

/-! The numbers of lines. -/
theorem known_pre : ∀ (l ks : List Ln), ∃ r, known ks l = ks ++ r
  | [], ks => ⟨[], by simp [known]⟩
  | x :: t, ks => by
    obtain ⟨r, h⟩ := known_pre t (add ks x)
    have e : known ks (x :: t) = known (add ks x) t := rfl
    rw [e, h]
    unfold add
    split
    · exact ⟨r, rfl⟩
    · exact ⟨x :: r, by simp⟩
theorem add_mem (ks : List Ln) (x : Ln) : x ∈ add ks x := by unfold add; split <;> simp_all
theorem idx_pre {ks : List Ln} (r : List Ln) {x : Ln} (h : x ∈ ks) : (ks ++ r).idxOf x = ks.idxOf x := by rw [List.idxOf_append, if_pos h]
theorem known_mem : ∀ (l ks : List Ln) (x : Ln), x ∈ l → x ∈ known ks l
  | y :: t, ks, x, h => by
    have e : known ks (y :: t) = known (add ks y) t := rfl
    rw [e]
    rcases List.mem_cons.1 h with rfl | h
    · obtain ⟨r, hr⟩ := known_pre t (add ks x)
      rw [hr]
      exact List.mem_append_left _ (add_mem ks x)
    · exact known_mem t _ x h
theorem row_at : ∀ (l ks : List Ln) (i : Nat) (h : i < l.length) (h' : i < (row ks l).length), (row ks l)[i] = (((known ks l).idxOf l[i] : Nat) : Int)
  | x :: t, ks, 0, _, _ => by
    obtain ⟨r, hr⟩ := known_pre t (add ks x)
    have e : known ks (x :: t) = known (add ks x) t := rfl
    rw [e, hr]
    simp only [List.getElem_cons_zero]
    rw [idx_pre r (add_mem ks x)]
    rfl
  | x :: t, ks, i + 1, h, h' => by
    have e : known ks (x :: t) = known (add ks x) t := rfl
    rw [e]
    exact row_at t (add ks x) i (by simpa using h) (by rw [row_length]; simpa using h)
/-- Rows of numbers stand for texts: numbers of the one and of the other are the same just where the lines are. -/
structure Em {α β : Type} (xs ys : List α) (a b : List β) : Prop where
  la : xs.length = a.length
  lb : ys.length = b.length
  eq : ∀ i j (hi : i < xs.length) (hj : j < ys.length) (hi' : i < a.length) (hj' : j < b.length), xs[i] = ys[j] ↔ a[i] = b[j]
theorem nums_em (a b : List Ln) : Em (row [] a) (row (known [] a) b) a b := by
  refine ⟨row_length a [], row_length b _, fun i j hi hj hi' hj' => ?_⟩
  obtain ⟨r, hr⟩ := known_pre b (known [] a)
  have ma := known_mem a [] _ (List.getElem_mem hi')
  have mb := known_mem b (known [] a) _ (List.getElem_mem hj')
  rw [row_at a [] i hi' hi, row_at b _ j hj' hj, ← idx_pre r ma, ← hr]
  have ma' : a[i] ∈ known (known [] a) b := by rw [hr]; exact List.mem_append_left _ ma
  constructor
  · intro e
    have e' : (known (known [] a) b).idxOf a[i] = (known (known [] a) b).idxOf b[j] := by omega
    have mi := List.idxOf_lt_length_iff.2 ma'
    have mj := List.idxOf_lt_length_iff.2 mb
    have ei := List.getElem_idxOf mi
    have ej := List.getElem_idxOf mj
    rw [← ei, ← ej]
    simp only [e']
  · intro e; rw [e]
theorem Em.turn {α β : Type} {xs ys : List α} {a b : List β} (h : Em xs ys a b) : Em ys xs b a := ⟨h.lb, h.la, fun i j hi hj hi' hj' => ⟨fun e => ((h.eq j i hj hi hj' hi').1 e.symm).symm, fun e => ((h.eq j i hj hi hj' hi').2 e.symm).symm⟩⟩
theorem Em.via {α β γ : Type} {xs ys : List α} {a b : List β} {us vs : List γ} (h : Em xs ys a b) (k : Em us vs a b) : Em xs ys us vs := ⟨h.la.trans k.la.symm, h.lb.trans k.lb.symm, fun i j hi hj hi' hj' => (h.eq i j hi hj (by rw [← h.la]; exact hi) (by rw [← h.lb]; exact hj)).trans (k.eq i j hi' hj' (by rw [← h.la]; exact hi) (by rw [← h.lb]; exact hj)).symm⟩
theorem Em.left {α β : Type} {x : α} {xs ys : List α} {y : β} {a b : List β} (h : Em (x :: xs) ys (y :: a) b) : Em xs ys a b := ⟨by simpa using h.la, h.lb, fun i j hi hj hi' hj' => h.eq (i + 1) j (by simpa using hi) hj (by simpa using hi') hj'⟩
theorem Em.right {α β : Type} {x : α} {xs ys : List α} {y : β} {a b : List β} (h : Em xs (x :: ys) a (y :: b)) : Em xs ys a b := h.turn.left.turn
/-- The distance asks only which numbers are the same. -/
theorem ed_em : ∀ (n : Nat) (xs ys us vs : List Int), xs.length + ys.length ≤ n → Em xs ys us vs → M.ed xs ys = M.ed us vs
  | _, [], ys, us, vs, _, h => by
    obtain rfl : us = [] := List.length_eq_zero_iff.1 h.la.symm
    rw [M.ed_nil1, M.ed_nil1, h.lb]
  | _, x :: xs, [], us, vs, _, h => by
    obtain rfl : vs = [] := List.length_eq_zero_iff.1 h.lb.symm
    rw [M.ed_nil2, M.ed_nil2, h.la]
  | 0, x :: xs, y :: ys, _, _, hn, _ => by simp at hn
  | n + 1, x :: xs, y :: ys, [], _, _, h => by have := h.la; simp at this
  | n + 1, x :: xs, y :: ys, _ :: _, [], _, h => by have := h.lb; simp at this
  | n + 1, x :: xs, y :: ys, u :: us, v :: vs, hn, h => by
    simp only [List.length_cons] at hn
    have e : x = y ↔ u = v := h.eq 0 0 (by simp) (by simp) (by simp) (by simp)
    by_cases q : x = y
    · have q' := e.1 q
      subst q q'
      rw [M.ed_eq, M.ed_eq]
      exact ed_em n xs ys us vs (by omega) h.left.right
    · rw [M.ed_ne q, M.ed_ne (fun k => q (e.2 k)), ed_em n xs (y :: ys) us (v :: vs) (by simp; omega) h.left, ed_em n (x :: xs) ys (u :: us) vs (by simp; omega) h.right]
/-- How many lines two texts have in common. -/
def cn (a b : List Ln) : Nat := (M.pairs (row [] a) (row (known [] a) b)).length
theorem cn_ed (a b : List Ln) : M.ed (row [] a) (row (known [] a) b) + 2 * cn a b = a.length + b.length := by
  have h := M.pairs_length (row [] a) (row (known [] a) b)
  rw [row_length, row_length] at h
  exact h
theorem cn_le (a b : List Ln) : cn a b ≤ a.length ∧ cn a b ≤ b.length := by
  have h := cn_ed a b
  have k := M.ed_low _ (row [] a) (row (known [] a) b) (Nat.le_refl _)
  rw [row_length, row_length] at k
  omega
theorem cn_turn (a b : List Ln) : cn b a = cn a b := by
  have h1 := cn_ed a b
  have h2 := cn_ed b a
  have e := ed_em _ _ _ _ _ (Nat.le_refl _) ((nums_em a b).via (nums_em b a).turn)
  rw [M.ed_symm (row (known [] b) a) (row [] b)] at e
  omega
theorem cn_full (a b : List Ln) : 2 * cn a b = a.length + b.length ↔ a = b := by
  have h1 := cn_ed a b
  have hz := M.ed_zero (row [] a) (row (known [] a) b)
  have hm := nums_em a b
  constructor
  · intro h
    have e := hz.1 (by omega)
    have hl : a.length = b.length := by rw [← hm.la, ← hm.lb, e]
    refine List.ext_getElem hl fun i h1 h2 => ?_
    refine (hm.eq i i (by rw [hm.la]; exact h1) (by rw [hm.lb]; exact h2) h1 h2).1 ?_
    simp only [e]
  · rintro rfl
    have e : row [] a = row (known [] a) a := List.ext_getElem (by rw [row_length, row_length]) fun i h1 h2 => (hm.eq i i h1 h2 (by rw [row_length] at h1; exact h1) (by rw [row_length] at h1; exact h1)).2 rfl
    have := hz.2 e
    omega
theorem cn_none (a b : List Ln) : cn a b = 0 ↔ ∀ i j (hi : i < a.length) (hj : j < b.length), ¬ a[i] = b[j] := by
  have hm := nums_em a b
  constructor
  · intro h i j hi hj e
    have hi' : i < (row [] a).length := by rw [row_length]; exact hi
    have hj' : j < (row (known [] a) b).length := by rw [row_length]; exact hj
    have := ((M.Cm.start (row [] a) (row (known [] a) b)).next (Nat.zero_le i) (Nat.zero_le j) hi' hj' ((hm.eq i j hi' hj' hi hj).2 e).symm).most
    unfold cn at h
    omega
  · intro h
    cases hc : cn a b with
    | zero => rfl
    | succ n =>
      obtain ⟨p, q, -, -, -, hp, hq, e⟩ := (M.pairs_good (row [] a) (row (known [] a) b)).1 0 (by unfold cn at hc; omega)
      have hp' := hp
      have hq' := hq
      rw [row_length] at hp' hq'
      exact absurd ((hm.eq p q hp hq hp' hq').1 e) (h p q hp' hq')

/-! How much they are like each other. -/
def tblB : Bool := (List.range 41).all fun c => (List.range 81).all fun s => !(decide (2 * c ≤ s) && decide (0 < s)) || match Ieee.double.div (fl (2 * c)) (fl s) with
  | some r => (decide (r = ONE) == decide (2 * c = s)) && (decide (r = 0) == decide (c = 0))
  | none => false
theorem tbl_ok : tblB = true := by decide +kernel
theorem tbl {c s : Nat} (hc : c ≤ 40) (hs : s ≤ 80) (h : 2 * c ≤ s) (h0 : 0 < s) : ∃ r, Ieee.double.div (fl (2 * c)) (fl s) = some r ∧ (r = ONE ↔ 2 * c = s) ∧ (r = 0 ↔ c = 0) := by
  have h1 := tbl_ok
  unfold tblB at h1
  rw [List.all_eq_true] at h1
  have h2 := h1 c (List.mem_range.2 (by omega))
  rw [List.all_eq_true] at h2
  have h3 := h2 s (List.mem_range.2 (by omega))
  rw [decide_eq_true h, decide_eq_true h0] at h3
  cases hd : Ieee.double.div (fl (2 * c)) (fl s) with
  | none => rw [hd] at h3; simp at h3
  | some r =>
    rw [hd] at h3
    simp only [Bool.and_self, Bool.not_true, Bool.false_or, Bool.and_eq_true, beq_iff_eq, decide_eq_decide] at h3
    exact ⟨r, rfl, h3.1, h3.2⟩
/-- A word for how much they are like each other. -/
def lw (c n m : Nat) : Nat := if n + m = 0 then 9221120237041090561 else (Ieee.double.div (fl (2 * c)) (fl (n + m))).getD 0
def lks (a b : List Ln) : Nat := lw (cn a b) a.length b.length
/-- A word that may stand for it. -/
structure Lw (a b : List Ln) (r : Nat) : Prop where
  lt : r < 2 ^ 64
  nan : a.length + b.length = 0 → isN r = true
  num : a.length + b.length ≠ 0 → isN r = false ∧ r = lks a b ∧ r ≤ ONE ∧ vl r = r ∧ (r = ONE ↔ a = b) ∧ (r = 0 ↔ cn a b = 0)
theorem Lw.of {a b : List Ln} {r : Nat} (ha : a.length ≤ 40) (hb : b.length ≤ 40) (h : Rt (cn a b) a.length b.length r) : Lw a b r := by
  have hl := cn_le a b
  refine ⟨h.lt, fun e => h.nan (fun k => ?_), fun e => ?_⟩
  · have := k.2.2.2.2.2.2.2
    exact this ⟨by omega, by omega⟩
  · have hk : Rok (cn a b) a.length b.length := ⟨by omega, by omega, by omega, by omega, by omega, by omega, by omega, by omega⟩
    have hle := h.le hk
    obtain ⟨n1, v1, -⟩ := small_num hle
    have hv := h.val hk
    simp only [Int.toNat_natCast] at hv
    have hc := cn_full a b
    have hz := cn_ed a b
    obtain ⟨r', e1, e2, e3⟩ := tbl (c := cn a b) (s := a.length + b.length) (by omega) (by omega) (by omega) (by omega)
    have e4 : some r' = some r := e1.symm.trans hv
    cases e4
    refine ⟨n1, ?_, hle, v1, e2.trans hc, e3⟩
    unfold lks lw
    rw [if_neg e, e1]
    rfl
theorem Lw.key {a b : List Ln} {r : Nat} (h : Lw a b r) : ky r = ky (lks a b) := by
  by_cases e : a.length + b.length = 0
  · have : lks a b = 9221120237041090561 := by unfold lks lw; rw [if_pos e]
    rw [ky_nan (h.nan e), this, ky_nan (by decide)]
  · rw [← (h.num e).2.1]
theorem lks_nan (a b : List Ln) {r : Nat} (h : Lw a b r) : isN r = isN (lks a b) := by
  by_cases e : a.length + b.length = 0
  · have : lks a b = 9221120237041090561 := by unfold lks lw; rw [if_pos e]
    rw [h.nan e, this]
    decide
  · rw [← (h.num e).2.1]
theorem lks_turn (a b : List Ln) : lks b a = lks a b := by
  unfold lks
  rw [cn_turn]
  unfold lw
  rw [Nat.add_comm]
end Go.Proofs.YtfndiggpnkjacaaDoor.Rk

namespace Go.Proofs.YtfndiggpnkjacaaDoor.Rk
set_option linter.unusedVariables false
set_option linter.unusedSimpArgs false
open Go.Sort
open Fp (isN ky ky_nan ky_num cmp cmp_lt cmp_zero cmp_gt)

/-- A likeness: its place, and a word. -/
abbrev Kx := Int × UInt64
def kz (x : UInt64) : Int := if isN x.toNat then 2 ^ 64 else - ky x.toNat
theorem ky_low (b : Nat) : -(2 ^ 63) ≤ ky b := by
  have h := Fp.rg_lt b
  unfold ky
  split
  · decide
  · split <;> omega
theorem kz_num {x : UInt64} (h : isN x.toNat = false) : kz x = - ky x.toNat := by simp [kz, h]
theorem kz_nan {x : UInt64} (h : isN x.toNat = true) : kz x = 2 ^ 64 := by simp [kz, h]
theorem kz_lt {x : UInt64} (h : isN x.toNat = false) : kz x < 2 ^ 64 := by
  have := ky_low x.toNat
  rw [kz_num h]
  have e : (2 : Int) ^ 64 = 18446744073709551616 := by decide
  have e2 : (2 : Int) ^ 63 = 9223372036854775808 := by decide
  omega
theorem kz_ky {x y : UInt64} : kz x = kz y ↔ ky x.toNat = ky y.toNat := by
  cases nx : isN x.toNat
  · cases ny : isN y.toNat
    · rw [kz_num nx, kz_num ny]; omega
    · have h1 := kz_lt nx
      have h2 := ky_num nx
      rw [kz_nan ny, ky_nan ny]
      omega
  · cases ny : isN y.toNat
    · have h1 := kz_lt ny
      have h2 := ky_num ny
      rw [kz_nan nx, ky_nan nx]
      omega
    · rw [kz_nan nx, kz_nan ny, ky_nan nx, ky_nan ny]; simp
/-- Which likeness comes first: the more like one; none comes last; the lesser place breaks ties. -/
def cK (x y : Kx) : Int := cmp (kz x.2) (kz y.2)
theorem lt_cK (x y : Kx) : ltOf cK x y = decide (kz x.2 < kz y.2) := by
  unfold ltOf cK
  exact decide_eq_decide.2 cmp_lt
def lx (x y : Kx) : Bool := decide (kz x.2 < kz y.2 ∨ kz x.2 = kz y.2 ∧ x.1 < y.1)
theorem swoX : SWO lx := by
  refine ⟨fun x => ?_, fun x y z h1 h2 => ?_, fun x y z h1 h2 => ?_⟩
  · simp [lx]
  · simp only [lx, decide_eq_true_eq] at *; omega
  · simp only [lx, decide_eq_false_iff_not] at *; omega
theorem inner_same (a : Nat) : ∀ (j : Nat) (d : Array Kx), j < d.size → (∀ q, a ≤ q → q < j → d[q]!.1 < d[j]!.1) → insInner (ltOf cK) a j d = insInner lx a j d
  | 0, d, _, _ => by unfold insInner; rfl
  | j + 1, d, hj, h => by
    unfold insInner
    by_cases ha : j + 1 > a
    · have h1 := h j (by omega) (by omega)
      have e : lx d[j + 1]! d[j]! = ltOf cK d[j + 1]! d[j]! := by
        rw [lt_cK]
        exact decide_eq_decide.2 (by omega)
      rw [e]
      have g := swp_get d hj (show j < d.size by omega)
      have ih := inner_same a j (swp d (j + 1) j) (by rw [swp_size]; omega) (fun q h1 h2 => by
        rw [g, g, if_neg (by omega), if_neg (by omega), if_pos rfl]
        exact h q h1 (by omega))
      rw [ih]
    · simp [ha]
theorem inner_perm (lt : Kx → Kx → Bool) (a b : Nat) : ∀ (j : Nat) (d : Array Kx), j < b → b ≤ d.size → PermIn a b d (insInner lt a j d)
  | 0, d, _, _ => by unfold insInner; exact permIn_refl d a b
  | j + 1, d, hj, hb => by
    unfold insInner
    split
    · rename_i h
      rw [Bool.and_eq_true, decide_eq_true_eq] at h
      exact permIn_trans _ _ _ _ _ (swp_permIn d a b (j + 1) j (by omega) hj (by omega) (by omega) hb) (inner_perm lt a b j _ (by omega) (by rw [swp_size]; exact hb))
    · exact permIn_refl d a b
theorem perm_at {a b : Nat} {d d' : Array Kx} (h : PermIn a b d d') (hb : b ≤ d.size) {p : Nat} (h1 : a ≤ p) (h2 : p < b) : ∃ r, a ≤ r ∧ r < b ∧ d'[p]! = d[r]! := by
  obtain ⟨hs, -, hp⟩ := h
  have m : d'[p]! ∈ (d'.extract a b).toList := by
    rw [List.mem_iff_getElem]
    refine ⟨p - a, by simp; omega, ?_⟩
    rw [Array.getElem_toList, Array.getElem_extract, getElem!_pos d' p (by omega)]
    congr 1
    omega
  have m2 := hp.mem_iff.1 m
  obtain ⟨i, hi, e⟩ := List.mem_iff_getElem.1 m2
  simp only [Array.length_toList, Array.size_extract] at hi
  refine ⟨a + i, by omega, by omega, ?_⟩
  rw [← e, Array.getElem_toList, Array.getElem_extract, getElem!_pos d (a + i) (by omega)]
theorem outer_same (a b : Nat) : ∀ (n i : Nat) (d : Array Kx), b - i = n → a < i → b ≤ d.size → (∀ p q, a ≤ p → p < q → i ≤ q → q < b → d[p]!.1 < d[q]!.1) → insOuter (ltOf cK) a b i d = insOuter lx a b i d
  | 0, i, d, hn, _, _, _ => by
    rw [insOuter, if_neg (by omega)]
    conv => rhs; rw [insOuter, if_neg (show ¬ i < b by omega)]
  | n + 1, i, d, hn, hi, hb, h => by
    have hlt : i < b := by omega
    rw [insOuter, if_pos hlt]
    conv => rhs; rw [insOuter, if_pos hlt]
    rw [inner_same a i d (by omega) (fun q h1 h2 => h q i h1 h2 (Nat.le_refl _) hlt)]
    have hp := inner_perm lx a (i + 1) i d (by omega) (by omega)
    refine outer_same a b n (i + 1) _ (by omega) (by omega) (by rw [hp.1]; exact hb) (fun p q h1 h2 h3 h4 => ?_)
    rw [hp.2.1 q (.inr h3)]
    by_cases hpi : p < i + 1
    · obtain ⟨r, r1, r2, e⟩ := perm_at hp (by omega) h1 hpi
      rw [e]
      exact h r q r1 (by omega) (by omega) h4
    · rw [hp.2.1 p (.inr (by omega))]
      exact h p q h1 h2 (by omega) h4
/-- The words of the places 0, 1, .. -/
def nd (ws : List UInt64) : List Kx := (List.range ws.length).map fun i : Nat => ((i : Int), ws.getD i 0)
theorem nd_len (ws : List UInt64) : (nd ws).length = ws.length := by simp [nd]
theorem nd_at (ws : List UInt64) (i : Nat) (h : i < (nd ws).length) : (nd ws)[i] = ((i : Int), ws.getD i 0) := by simp [nd]
theorem nd_snoc (ws : List UInt64) (x : UInt64) : nd (ws ++ [x]) = nd ws ++ [((ws.length : Int), x)] := by
  unfold nd
  rw [List.length_append, List.length_singleton, List.range_succ, List.map_append]
  congr 1
  · refine List.map_congr_left fun i hi => ?_
    rw [List.mem_range] at hi
    rw [List.getD_eq_getElem?_getD, List.getD_eq_getElem?_getD, List.getElem?_append_left hi]
  · simp
/-- Likenesses in order. -/
structure Rd (ws : List UInt64) (xs : List Kx) : Prop where
  pe : xs.Perm (nd ws)
  so : xs.Pairwise fun a b => lx a b = true
theorem Rd.nil : Rd [] [] := ⟨by simp [nd], List.Pairwise.nil⟩
theorem nd_mem {ws : List UInt64} {x : Kx} (h : x ∈ nd ws) : ∃ i, ∃ (hi : i < ws.length), x = ((i : Int), ws[i]) := by
  obtain ⟨i, hi, rfl⟩ := List.mem_iff_getElem.1 h
  rw [nd_at]
  rw [nd_len] at hi
  exact ⟨i, hi, by rw [List.getD_eq_getElem?_getD, List.getElem?_eq_getElem hi]; rfl⟩
theorem mem_nd {ws : List UInt64} {i : Nat} (hi : i < ws.length) : ((i : Int), ws[i]) ∈ nd ws := by
  rw [List.mem_iff_getElem]
  refine ⟨i, by rw [nd_len]; exact hi, ?_⟩
  rw [nd_at, List.getD_eq_getElem?_getD, List.getElem?_eq_getElem hi]
  rfl
theorem nd_nodup (ws : List UInt64) : ((nd ws).map (·.1)).Nodup := by
  unfold nd
  rw [List.map_map]
  refine List.Pairwise.map _ (R := fun a b => a ≠ b) (fun a b h => ?_) List.nodup_range
  simp only [Function.comp_apply]
  omega
theorem ext_all {d : Array Kx} {n : Nat} (h : d.size = n) : d.extract 0 n = d := by subst h; exact Array.extract_size
/-- The library's insertion sort puts them in order. -/
theorem sorted_rd (ws : List UInt64) : Rd ws (insertionSort (ltOf cK) (nd ws).toArray 0 (nd ws).length).toList ∧ PermIn 0 (nd ws).length (nd ws).toArray (insertionSort (ltOf cK) (nd ws).toArray 0 (nd ws).length) := by
  obtain ⟨d, hd⟩ : ∃ d, d = (nd ws).toArray := ⟨_, rfl⟩
  obtain ⟨n, hn⟩ : ∃ n, n = (nd ws).length := ⟨_, rfl⟩
  have hsz : d.size = n := by rw [hd, hn]; simp
  have hget : ∀ q, q < n → d[q]!.1 = (q : Int) := fun q hq => by
    rw [getElem!_pos d q (by omega)]
    subst hd
    rw [List.getElem_toArray, nd_at]
  rw [← hd, ← hn]
  have e : insertionSort (ltOf cK) d 0 n = insertionSort lx d 0 n := outer_same 0 n _ 1 d rfl (by omega) (by omega) (fun p q _ h2 _ h4 => by rw [hget p (by omega), hget q h4]; omega)
  rw [e]
  obtain ⟨h1, h2⟩ := insertionSort_holds (lt := lx) swoX d 0 n (Nat.zero_le _) (by omega)
  refine ⟨⟨?_, ?_⟩, h1⟩
  · have e1 := h1.2.2
    have e2 := h1.1
    have e3 : (insertionSort lx d 0 n).extract 0 n = insertionSort lx d 0 n := ext_all (e2.trans hsz)
    have e4 : d.extract 0 n = d := ext_all hsz
    rw [e3, e4] at e1
    rw [hd] at e1 ⊢
    exact e1
  · have hp : (insertionSort lx d 0 n).toList.Perm (nd ws) := by
      have e1 := h1.2.2
      have e2 := h1.1
      have e3 : (insertionSort lx d 0 n).extract 0 n = insertionSort lx d 0 n := ext_all (e2.trans hsz)
      have e4 : d.extract 0 n = d := ext_all hsz
      rw [e3, e4] at e1
      rw [hd] at e1 ⊢
      exact e1
    have hnd : ((insertionSort lx d 0 n).toList.map (·.1)).Nodup := (hp.map _).nodup_iff.2 (nd_nodup ws)
    rw [List.pairwise_iff_getElem]
    intro i j hi hj hij
    have h3 := h2 i j (Nat.zero_le _) hij (by rw [Array.length_toList, h1.1, hsz] at hj; exact hj)
    have hi' : i < (insertionSort lx d 0 n).size := by simpa using hi
    have hj' : j < (insertionSort lx d 0 n).size := by simpa using hj
    rw [getElem!_pos _ j hj', getElem!_pos _ i hi'] at h3
    have h4 := List.pairwise_iff_getElem.1 hnd i j (by simpa using hi) (by simpa using hj) hij
    simp only [List.getElem_map, Array.getElem_toList] at h4 ⊢
    simp only [lx, decide_eq_false_iff_not, decide_eq_true_eq] at h3 ⊢
    omega
/-- One more, put in where all ahead are ahead of it and the next one is not. -/
theorem Rd.put {ws : List UInt64} {xs : List Kx} (h : Rd ws xs) (x : UInt64) {k : Nat} (hk : k ≤ xs.length) (h1 : ∀ j (hj : j < xs.length), j < k → lx xs[j] ((ws.length : Int), x) = true) (h2 : ∀ hk : k < xs.length, lx xs[k] ((ws.length : Int), x) = false) :
    Rd (ws ++ [x]) (xs.take k ++ [((ws.length : Int), x)] ++ xs.drop k) := by
  refine ⟨?_, ?_⟩
  · have p1 : (xs.take k ++ [((ws.length : Int), x)] ++ xs.drop k).Perm (xs.take k ++ xs.drop k ++ [((ws.length : Int), x)]) := by
      rw [List.append_assoc, List.append_assoc]
      exact List.Perm.append_left _ List.perm_append_comm
    rw [List.take_append_drop] at p1
    rw [nd_snoc]
    exact p1.trans (h.pe.append_right _)
  · have ht : (xs.take k ++ xs.drop k).Pairwise (fun a b => lx a b = true) := by rw [List.take_append_drop]; exact h.so
    rw [List.pairwise_append] at ht
    obtain ⟨p1, p2, p3⟩ := ht
    have hlt : ∀ y ∈ xs, y.1 < (ws.length : Int) := fun y hy => by
      obtain ⟨i, hi, rfl⟩ := nd_mem (h.pe.mem_iff.1 hy)
      simp only
      omega
    have hd : ∀ y ∈ xs.drop k, lx ((ws.length : Int), x) y = true := by
      intro y hy
      obtain ⟨i, hi, rfl⟩ := List.mem_iff_getElem.1 hy
      rw [List.length_drop] at hi
      rw [List.getElem_drop]
      have h3 := h2 (by omega)
      have h4 := hlt _ (List.getElem_mem (l := xs) (n := k) (by omega))
      have h5 : lx ((ws.length : Int), x) (xs[k]'(by omega)) = true := by
        simp only [lx, decide_eq_false_iff_not, decide_eq_true_eq] at h3 ⊢
        omega
      rcases Nat.eq_zero_or_pos i with h0 | h0
      · subst h0; exact h5
      · have h6 := List.pairwise_iff_getElem.1 h.so k (k + i) (by omega) (by omega) (by omega)
        exact swoX.trans _ _ _ h5 h6
    have hta : ∀ a ∈ xs.take k, lx a ((ws.length : Int), x) = true := by
      intro a ha
      obtain ⟨i, hi, rfl⟩ := List.mem_iff_getElem.1 ha
      rw [List.length_take] at hi
      rw [List.getElem_take]
      exact h1 i (by omega) (by omega)
    rw [List.append_assoc, List.pairwise_append]
    refine ⟨p1, ?_, ?_⟩
    · rw [List.singleton_append, List.pairwise_cons]
      exact ⟨hd, p2⟩
    · intro a ha b hb
      rw [List.singleton_append, List.mem_cons] at hb
      rcases hb with rfl | hb
      · exact hta a ha
      · exact p3 a ha b hb
theorem Rd.len {ws : List UInt64} {xs : List Kx} (h : Rd ws xs) : xs.length = ws.length := by rw [h.pe.length_eq, nd_len]
/-- Rows in order of words that are alike are alike. -/
theorem Rd.same {ws us : List UInt64} {xs ys : List Kx} (h : Rd ws xs) (k : Rd us ys) (hl : ws.length = us.length) (he : ∀ i (hi : i < ws.length) (hj : i < us.length), kz ws[i] = kz us[i]) : xs.map (fun x => (x.1, kz x.2)) = ys.map (fun x => (x.1, kz x.2)) := by
  have e : (nd ws).map (fun x => (x.1, kz x.2)) = (nd us).map (fun x => (x.1, kz x.2)) := by
    refine List.ext_getElem (by simp [nd_len, hl]) fun i h1 h2 => ?_
    rw [List.length_map, nd_len] at h1 h2
    rw [List.getElem_map, List.getElem_map, nd_at, nd_at, List.getD_eq_getElem?_getD, List.getD_eq_getElem?_getD, List.getElem?_eq_getElem h1, List.getElem?_eq_getElem h2]
    exact Prod.ext rfl (he i h1 h2)
  refine List.Perm.eq_of_pairwise (le := fun a b : Int × Int => a.2 < b.2 ∨ a.2 = b.2 ∧ a.1 < b.1) (fun a b _ _ h1 h2 => by exfalso; omega) ?_ ?_ ((h.pe.map _).trans (by rw [e]; exact (k.pe.map _).symm))
  · rw [List.pairwise_map]
    exact h.so.imp fun h => by simpa [lx] using h
  · rw [List.pairwise_map]
    exact k.so.imp fun h => by simpa [lx] using h
end Go.Proofs.YtfndiggpnkjacaaDoor.Rk

namespace Go.Proofs.YtfndiggpnkjacaaDoor.V
set_option linter.unusedVariables false
set_option linter.unusedSimpArgs false
open Go.RowKit Go.Shelf
open T
open I (It Lb ItemsIn ItemsAt ItemsOk itCells itCells_snoc itCells_at items_cells own_at own_below alloc1)
attribute [local go_sem] Oper.semAt_some

/-- The items that are seen, with their places. -/
def prs (o : Lb) : Nat → List It → List (Nat × It)
  | _, [] => []
  | k, x :: r => if sees o x = true then (k, x) :: prs o (k + 1) r else prs o (k + 1) r
theorem prs_snoc (o : Lb) (x : It) : ∀ (l : List It) (k : Nat), prs o k (l ++ [x]) = prs o k l ++ (if sees o x = true then [(k + l.length, x)] else [])
  | [], k => by simp [prs]
  | y :: r, k => by
    rw [List.cons_append, prs, prs, prs_snoc o x r (k + 1), List.length_cons, show k + 1 + r.length = k + (r.length + 1) by omega]
    split <;> rfl
theorem prs_take {o : Lb} {l : List It} {k : Nat} (hk : k < l.length) : prs o 0 (l.take (k + 1)) = prs o 0 (l.take k) ++ (if sees o l[k] = true then [(k, l[k])] else []) := by
  rw [List.take_succ_eq_append_getElem hk, prs_snoc, Nat.zero_add, List.length_take, Nat.min_eq_left (by omega)]
theorem prs_le (o : Lb) : ∀ (l : List It) (k : Nat), (prs o k l).length ≤ l.length
  | [], _ => Nat.le_refl _
  | x :: r, k => by
    rw [prs]
    have := prs_le o r (k + 1)
    split <;> simp <;> omega
def itV (x : It) : Value := .agg #[.int .i64 x.id, .int .i64 x.lv, .int .u64 (x.ct : Int), .bool x.an, .string ⟨x.tx.toArray⟩, .bool x.ba]
/-- What lies below n₀ stays, and the blocks from za on, below zb. -/
def KpZ (n₀ za zb : Nat) (W W' : World) : Prop := Below n₀ W W' ∧ ∀ k, za ≤ k → k < zb → W'.heap[k]? = W.heap[k]?
theorem KpZ.t {n₀ za zb : Nat} {A B C : World} (h : KpZ n₀ za zb A B) (k : KpZ n₀ za zb B C) : KpZ n₀ za zb A C := ⟨h.1.trans k.1, fun i h1 h2 => (k.2 i h1 h2).trans (h.2 i h1 h2)⟩
theorem KpZ.b {n₀ za zb : Nat} {w : World} (hn : n₀ ≤ w.heap.size) (hz : zb ≤ w.heap.size) (W : World) (l : Nat) (o o' : Obj) (hl : w.heap.size ≤ l) (h : W.heap[l]? = some o) (h1 : o.isCells = false) (h2 : o.isWalk = false) : KpZ n₀ za zb W (W.putObj l o') :=
  ⟨belowK_b hn W l o o' hl h h1 h2, fun k _ hk => by
    have := (belowK_b (n₀ := w.heap.size) (Nat.le_refl _) W l o o' hl h h1 h2).block k (by omega)
    exact this⟩
theorem KpZ.of {n₀ za zb : Nat} {W W' : World} (h : Below W.heap.size W W') (hn : n₀ ≤ W.heap.size) (hz : zb ≤ W.heap.size) : KpZ n₀ za zb W W' := ⟨h.mono hn, fun k _ hk => h.block k (by omega)⟩
theorem KpZ.refl (n₀ za zb : Nat) (W : World) : KpZ n₀ za zb W W := ⟨Below.refl _ _, fun _ _ _ => rfl⟩
end Go.Proofs.YtfndiggpnkjacaaDoor.V

namespace Go.Proofs.YtfndiggpnkjacaaDoor.V
set_option linter.unusedVariables false
set_option linter.unusedSimpArgs false
open Go.RowKit Go.Shelf
open T
open I (It Lb ItemsIn ItemsAt ItemsOk itCells itCells_snoc itCells_at items_cells own_at own_below alloc1)
attribute [local go_sem] Oper.semAt_some

theorem prs_cut (o : Lb) : ∀ (l : List It) (k : Nat), (prs o k l).map (·.2) = cut o l
  | [], _ => rfl
  | x :: r, k => by
    rw [prs]
    by_cases hx : sees o x = true
    · rw [if_pos hx, List.map_cons, prs_cut o r (k + 1)]; simp [cut, hx]
    · rw [if_neg hx, prs_cut o r (k + 1)]; simp [cut, hx]
/-- Behind an append whose row is stored into a box ahead of it: what lies below n₀ stays, and the blocks from za on, below zb. -/
theorem appendedZ {W w1 : World} {n₀ za zb r₀ B : Nat} {t e : TypeId} {size : Nat} {v v' : Value} {k m : Nat} {xs ys : List Value} {tmp : Obj}
    (hv : Boxed W B t v) (hte : t ≠ e) (hrow : W.ownsRow r₀ e size v k xs) (hr₀ : r₀ ≤ W.heap.size) (hB : n₀ ≤ B) (hBz : B < za) (hnr : n₀ ≤ r₀) (hzr : zb ≤ r₀)
    (hown' : w1.ownsRow r₀ e size v' m ys) (hgrow : (W.alloc tmp).grownBy w1 v.ownBlock) :
    Boxed w1 B t v ∧ Boxed (w1.setCell ⟨B, 0, none⟩ v') B t v' ∧ (w1.setCell ⟨B, 0, none⟩ v').ownsRow r₀ e size v' m ys ∧ KeepsOthers W (w1.setCell ⟨B, 0, none⟩ v') ∧ KpZ n₀ za zb W (w1.setCell ⟨B, 0, none⟩ v') := by
  have hv1 : Boxed w1 B t v := (hv.alloc tmp).kept hgrow (hv.not_row hte hrow)
  obtain ⟨-, h2, -, h4, -⟩ := hv.appended hte (own_more hrow (Nat.zero_le r₀)) (Nat.zero_le _) (Nat.zero_le _) (own_more hown' (Nat.zero_le r₀)) hgrow
  have hblk : ∀ i, i < W.heap.size → i < r₀ → i ≠ B → (w1.setCell ⟨B, 0, none⟩ v').heap[i]? = W.heap[i]? := fun i hi hr hne => by
    rw [L.blk_far (g := i) (g' := B) hne v', hgrow.block i (by simp; omega) (fun e' => by have := own_base hrow i e'.symm; omega)]
    exact (alloc1 W tmp).block i hi
  refine ⟨hv1, h2, hown'.kept (grown_set w1 ⟨B, 0, none⟩ v') (own_ne hown' fun cs he => ?_), h4, ⟨?_, fun i h1 h2 => hblk i (by omega) (by omega) (by omega)⟩⟩
  · rw [show w1.heap[B]? = _ from hv1] at he
    injection he with he; injection he with _ he; exact hte he
  · refine (((Below.refl n₀ W).alloc (by omega) tmp).grown hgrow (by simp; omega) fun j ej => ?_).setCell (p := ⟨B, 0, none⟩) hB v'
    have := own_base hrow j ej
    omega
theorem boxed_le {W W' : World} {n : Nat} (h : n ≤ W.heap.size) {row : Option Nat} (hg : W.grownBy W' row) : n ≤ W'.heap.size := Nat.le_trans h hg.size
end Go.Proofs.YtfndiggpnkjacaaDoor.V
