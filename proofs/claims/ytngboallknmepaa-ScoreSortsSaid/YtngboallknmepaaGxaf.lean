/-
  Stretches of a row of floats exchanged and turned round.
  A row of floats turned round at a place; two rows in order made one.
  Two rows in order made one: places, in plain words.
-/
import Derived.Test.YtngboallknmepaaGxad
import Derived.Sort.WalkB2
import Derived.Sort.WalkB12
import Derived.Sort.Lot0
import Derived.Laws.Entries
namespace Go.Proofs.Ytngboallknmepaa.Fp
set_option linter.unusedVariables false
set_option linter.unusedSimpArgs false
open Go.RowKit Go.Sort Go.Shelf
open T
open I (alloc1 own_at own_below)

/-- Two stretches exchanged. -/
structure Sr (a b n : Nat) (d d' : Array UInt64) : Prop where
  size : d'.size = d.size
  l : ∀ x, a ≤ x → x < a + n → d'[x]! = d[x + (b - a)]!
  r : ∀ x, b ≤ x → x < b + n → d'[x]! = d[x - (b - a)]!
  o : ∀ x, ¬ (a ≤ x ∧ x < a + n) → ¬ (b ≤ x ∧ x < b + n) → d'[x]! = d[x]!
theorem Sr.zero (a b : Nat) (d : Array UInt64) : Sr a b 0 d d := ⟨rfl, fun x _ _ => by omega, fun x _ _ => by omega, fun _ _ _ => rfl⟩
theorem Sr.step {a b k : Nat} {d dk : Array UInt64} (h : Sr a b k d dk) (hab : a + k < b) (hb : b + k < d.size) : Sr a b (k + 1) d (swp dk (a + k) (b + k)) := by
  have hs := h.size
  refine ⟨by rw [size_swp]; exact hs, fun x h1 h2 => ?_, fun x h1 h2 => ?_, fun x h1 h2 => ?_⟩
  · by_cases e : x = a + k
    · subst e
      rw [swp_left _ _ _ (by omega) (by omega), h.o (b + k) (by omega) (by omega)]
      congr 1; omega
    · rw [swp_other _ _ _ _ e (by omega), h.l x h1 (by omega)]
  · by_cases e : x = b + k
    · subst e
      rw [swp_right _ _ _ (by omega), h.o (a + k) (by omega) (by omega)]
      congr 1; omega
    · rw [swp_other _ _ _ _ (by omega) e, h.r x h1 (by omega)]
  · rw [swp_other _ _ _ _ (by omega) (by omega), h.o x (by omega) (by omega)]
/-- A float is stored as it is. -/
theorem run_store_fl (P : Program) (w : World) (a : Addr) (m : Mode) (b : Nat) : (store a (.float .f64 b) m).run P w = stored P w a (.float .f64 b) m := run_store P w a _ m rfl
attribute [local go_sem] run_store_fl
set_option maxHeartbeats 4000000 in
set_option maxRecDepth 1000000 in
theorem swapr_any (fv : Value) (blk off cap a b n : Nat) (d0 d : Array UInt64) (w0 w : World) (R : Row1 encF w0 blk off d0) (hs : d0.size = d.size) (S : SW encF w0 blk off d w) (hab : a + n ≤ b) (hb : b + n ≤ d.size) (hsz : d.size ≤ 1000000) :
    Calls Try.prog 57 #[.slice (some ⟨blk, off, none⟩) d.size cap, .int .i64 a, .int .i64 b, .int .i64 n, fv] w fun e w' =>
      e = .returned (.tuple #[]) ∧ ∃ d', SW encF w0 blk off d' w' ∧ Sr a b n d d' ∧ PermIn a (b + n) d d' := by
  have S0 := Lib.hid S
  have HR := Lib.hid R
  clear S R
  have mixed : Try.prog.follows .mixedOrders = true := insFl.mixed
  obtain ⟨ds, hds⟩ : ∃ q, q = d.size := ⟨_, rfl⟩
  rw [← hds]
  have HDS := Lib.hid hds
  have HSZ : Hid (d0.size = ds) := Lib.hid (hs.trans hds.symm)
  rw [← hds] at hb hsz
  clear hs hds
  go_enter Try.func57, Try.ntmps57
  go_wp2_with fail
  go_loopg [10] n (fun kx s10 wr => ∃ (k : Nat) (dk : Array UInt64), s10 = .int .i64 k ∧ k ≤ n ∧ n - k ≤ kx ∧ Hid (dk.size = ds) ∧ Hid (SW encF w0 blk off dk wr) ∧ Hid (Sr a b k d dk) ∧ Hid (PermIn a (b + n) d dk))
  case atStart => exact ⟨0, d, rfl, Nat.zero_le _, by omega, Lib.hid HDS.out.symm, S0, Lib.hid (Sr.zero _ _ _), Lib.hid (permIn_refl _ _ _)⟩
  case round =>
    obtain ⟨k, dk, rfl, hk, hm, hdk, S1, HS, HP⟩ := hrel
    by_cases hlt : (k : Int) < (n : Int)
    · have hkn : k < n := by omega
      have hs1 : d0.size = dk.size := by rw [hdk.out]; exact HSZ.out
      have hsk : dk.size = ds := hdk.out
      obtain ⟨iN, hiN⟩ : ∃ q, q = a + k := ⟨_, rfl⟩
      obtain ⟨jN, hjN⟩ : ∃ q, q = b + k := ⟨_, rfl⟩
      have ea : ((a : Int) + (k : Int)).toNat = iN := by omega
      have pa : (0 : Int) ≤ (a : Int) + (k : Int) := by omega
      have ba : (a : Int) + (k : Int) < (ds : Int) := by omega
      have ra : IntKind.i64.wrap ((a : Int) + (k : Int)) = (a : Int) + (k : Int) := by rw [IntKind.wrap_i64]; omega
      have ec : ((b : Int) + (k : Int)).toNat = jN := by omega
      have pc : (0 : Int) ≤ (b : Int) + (k : Int) := by omega
      have bc : (b : Int) + (k : Int) < (ds : Int) := by omega
      have rc : IntKind.i64.wrap ((b : Int) + (k : Int)) = (b : Int) + (k : Int) := by rw [IntKind.wrap_i64]; omega
      obtain ⟨x, hx⟩ : ∃ x, x = dk[a + k]! := ⟨_, rfl⟩
      obtain ⟨y, hy⟩ : ∃ y, y = dk[b + k]! := ⟨_, rfl⟩
      have S2 : Hid (SW encF w0 blk off (swp dk (a + k) (b + k)) ((wr.setCell ⟨blk, off + iN, none⟩ (encF y)).setCell ⟨blk, off + jN, none⟩ (encF x)).drew) := by rw [hiN, hjN, hx, hy]; exact S1.out.swapped HR.out (a + k) (b + k) (by omega) (by omega)
      have ca := S1.out.c1 HR.out hs1.symm (a + k) (by omega)
      have cb := S1.out.c1 HR.out hs1.symm (b + k) (by omega)
      have fa := S1.out.f1 HR.out hs1.symm (a + k) (by omega)
      have fb := S1.out.f1 HR.out hs1.symm (b + k) (by omega)
      obtain ⟨u, cc⟩ := S1.out.c2 HR.out hs1.symm (a + k) (b + k) (by omega) (by omega) (encF y)
      rw [← hjN, ← hiN] at cc
      rw [← hx, ← hiN] at ca
      rw [← hy, ← hjN] at cb
      rw [← hiN] at fa
      rw [← hjN] at fb
      clear S1 hx hy hiN hjN hs1 hsk
      go_wp2_with fail
      go_big_region_o
      clear ca cb cc fa fb
      generalize ((wr.setCell ⟨blk, off + iN, none⟩ (encF y)).setCell ⟨blk, off + jN, none⟩ (encF x)).drew = w2 at S2 ⊢
      clear ea ec
      go_wp2_with fail
      go_roundg (n - (k + 1))
      case measure => omega
      case rel => exact ⟨k + 1, swp dk (a + k) (b + k), by go_num, by omega, by omega, Lib.hid (by rw [size_swp]; exact hdk.out), S2, Lib.hid (HS.out.step (by omega) (by rw [← HDS.out]; omega)), Lib.hid (permIn_trans _ _ _ _ _ HP.out (swp_permIn _ _ _ _ _ (by omega) (by omega) (by omega) (by omega) (by rw [hdk.out]; omega)))⟩
    · go_wp2_with fail
      go_end0
      have : k = n := by omega
      subst this
      exact ⟨rfl, dk, S1.out, HS.out, HP.out⟩
/-- What a row turned round is, place by place. -/
def Rt2 (a m b : Nat) (d : Array UInt64) (x : Nat) : UInt64 := if a ≤ x ∧ x < a + (b - m) then d[x + (m - a)]! else if a + (b - m) ≤ x ∧ x < b then d[x - (b - m)]! else d[x]!
structure Ro (a m b i j : Nat) (d dk : Array UInt64) : Prop where
  f : ∀ x, (x < m - i ∨ m + j ≤ x) → dk[x]! = Rt2 a m b d x
  l : ∀ x, m - i ≤ x → x < m → Rt2 a m b d (x + j) = dk[x]!
  r : ∀ x, m ≤ x → x < m + j → Rt2 a m b d (x - i) = dk[x]!
theorem Ro.start {a m b : Nat} (d : Array UInt64) (h1 : a ≤ m) (h2 : m ≤ b) : Ro a m b (m - a) (b - m) d d := by
  refine ⟨fun x hx => ?_, fun x h3 h4 => ?_, fun x h3 h4 => ?_⟩
  · unfold Rt2
    rw [if_neg (by omega), if_neg (by omega)]
  · unfold Rt2
    rw [if_neg (by omega), if_pos (by omega)]
    congr 1; omega
  · unfold Rt2
    rw [if_pos (by omega)]
    congr 1; omega
theorem Ro.gt {a m b i j : Nat} {d dk dk' : Array UInt64} (h : Ro a m b i j d dk) (hij : j < i) (him : i ≤ m) (hs : Sr (m - i) m j dk dk') : Ro a m b (i - j) j d dk' := by
  have e : m - (m - i) = i := by omega
  refine ⟨fun x hx => ?_, fun x h3 h4 => ?_, fun x h3 h4 => ?_⟩
  · by_cases c : m - i ≤ x ∧ x < m - i + j
    · rw [hs.l x c.1 c.2, e, ← h.r (x + i) (by omega) (by omega)]
      congr 1; omega
    · rw [hs.o x c (by omega)]
      exact h.f x (by omega)
  · rw [hs.o x (by omega) (by omega)]
    exact h.l x (by omega) h4
  · rw [hs.r x h3 h4, e, ← h.l (x - i) (by omega) (by omega)]
    congr 1; omega
theorem Ro.lt {a m b i j : Nat} {d dk dk' : Array UInt64} (h : Ro a m b i j d dk) (hij : i < j) (him : i ≤ m) (hs : Sr (m - i) (m + j - i) i dk dk') : Ro a m b i (j - i) d dk' := by
  have e : m + j - i - (m - i) = j := by omega
  refine ⟨fun x hx => ?_, fun x h3 h4 => ?_, fun x h3 h4 => ?_⟩
  · by_cases c : m + j - i ≤ x ∧ x < m + j - i + i
    · rw [hs.r x c.1 c.2, e, ← h.l (x - j) (by omega) (by omega)]
      congr 1; omega
    · rw [hs.o x (by omega) c]
      exact h.f x (by omega)
  · rw [hs.l x h3 (by omega), e, ← h.r (x + j) (by omega) (by omega)]
    congr 1; omega
  · rw [hs.o x (by omega) (by omega)]
    exact h.r x h3 (by omega)
theorem Ro.eq {a m b i : Nat} {d dk dk' : Array UInt64} (h : Ro a m b i i d dk) (him : i ≤ m) (hs : Sr (m - i) m i dk dk') (x : Nat) : dk'[x]! = Rt2 a m b d x := by
  have e : m - (m - i) = i := by omega
  by_cases c : m - i ≤ x ∧ x < m - i + i
  · rw [hs.l x c.1 c.2, e, ← h.r (x + i) (by omega) (by omega)]
    congr 1; omega
  · by_cases c2 : m ≤ x ∧ x < m + i
    · rw [hs.r x c2.1 c2.2, e, ← h.l (x - i) (by omega) (by omega)]
      congr 1; omega
    · rw [hs.o x c c2]
      exact h.f x (by omega)
end Go.Proofs.Ytngboallknmepaa.Fp

namespace Go.Proofs.Ytngboallknmepaa.Fp
set_option linter.unusedVariables false
set_option linter.unusedSimpArgs false
open Go.RowKit Go.Sort Go.Shelf
open T
open I (alloc1 own_at own_below)

theorem Sr.size' {a b n : Nat} {d d' : Array UInt64} (h : Sr a b n d d') : d'.size = d.size := h.size
set_option maxHeartbeats 4000000 in
set_option maxRecDepth 1000000 in
theorem rotate_any (fv : Value) (blk off cap a m b : Nat) (d0 d : Array UInt64) (w0 w : World) (R : Row1 encF w0 blk off d0) (hs : d0.size = d.size) (S : SW encF w0 blk off d w) (ham : a < m) (hmb : m < b) (hb : b ≤ d.size) (hsz : d.size ≤ 1000000) :
    Calls Try.prog 53 #[.slice (some ⟨blk, off, none⟩) d.size cap, .int .i64 a, .int .i64 m, .int .i64 b, fv] w fun e w' =>
      e = .returned (.tuple #[]) ∧ ∃ d', SW encF w0 blk off d' w' ∧ PermIn a b d d' ∧ ∀ x, d'[x]! = Rt2 a m b d x := by
  have S0 := Lib.hid S
  have HR := Lib.hid R
  clear S R
  obtain ⟨ds, hds⟩ : ∃ q, q = d.size := ⟨_, rfl⟩
  rw [← hds]
  have HDS := Lib.hid hds
  have HSZ : Hid (d0.size = ds) := Lib.hid (hs.trans hds.symm)
  rw [← hds] at hb hsz
  clear hs hds
  have hsw : ∀ (dk : Array UInt64) (wr : World) (p q n : Nat), dk.size = ds → SW encF w0 blk off dk wr → p + n ≤ q → q + n ≤ ds → Calls Try.prog 57 #[.slice (some ⟨blk, off, none⟩) ds cap, .int .i64 p, .int .i64 q, .int .i64 n, fv] wr fun e w' =>
      e = .returned (.tuple #[]) ∧ ∃ d', SW encF w0 blk off d' w' ∧ Sr p q n dk d' ∧ PermIn p (q + n) dk d' := by
    intro dk wr p q n h1 h2 h3 h4
    have := swapr_any fv blk off cap p q n d0 dk w0 wr HR.out (by rw [HSZ.out, h1]) h2 h3 (by rw [h1]; exact h4) (by rw [h1]; exact hsz)
    rw [h1] at this
    exact this
  have HSW := Lib.hid hsw
  clear hsw
  go_enter Try.func53, Try.ntmps53
  go_wp2_with fail
  go_loopg [10, 11] (b - a) (fun kx si sj wr => ∃ (i j : Nat) (dk : Array UInt64), si = .int .i64 i ∧ sj = .int .i64 j ∧ 1 ≤ i ∧ i ≤ m - a ∧ 1 ≤ j ∧ j ≤ b - m ∧ i + j ≤ kx ∧ Hid (dk.size = ds) ∧ Hid (SW encF w0 blk off dk wr) ∧ Hid (Ro a m b i j d dk) ∧ Hid (PermIn a b d dk))
  case atStart => exact ⟨m - a, b - m, d, by first | rfl | (congr 1; omega), by first | rfl | (congr 1; omega), by omega, Nat.le_refl _, by omega, Nat.le_refl _, by omega, Lib.hid HDS.out.symm, S0, Lib.hid (Ro.start d (by omega) (by omega)), Lib.hid (permIn_refl _ _ _)⟩
  case round =>
    obtain ⟨i, j, dk, rfl, rfl, hi1, hi2, hj1, hj2, hm, hdk, S1, HO, HP⟩ := hrel
    have hmi : ((m - i : Nat) : Int) = (m : Int) - (i : Int) := by omega
    by_cases e : i = j
    · have hne : ((i : Int) != (j : Int)) = false := by simp [e]
      have HE := Lib.hid e
      have hc := HSW.out dk wr (m - i) m i hdk.out S1.out (by omega) (by omega)
      rw [hmi] at hc
      have HC := Lib.hid hc
      clear hc hmi e
      go_wp2_with (go_at_call 57; refine HC.out.mono ?_; rintro e w2 ⟨rfl, d2, q1, q2, q3⟩)
      go_end0
      have h1 := HE.out
      subst h1
      refine ⟨rfl, d2, q1, permIn_trans _ _ _ _ _ HP.out (permIn_mono _ _ _ _ _ _ (by omega) (by omega) (by rw [hdk.out]; omega) q3), fun x => HO.out.eq (by omega) q2 x⟩
    · have hne : ((i : Int) != (j : Int)) = true := by
        simp; omega
      by_cases g : j < i
      · have hg : (j : Int) < (i : Int) := by omega
        have hc := HSW.out dk wr (m - i) m j hdk.out S1.out (by omega) (by omega)
        rw [hmi] at hc
        have HC := Lib.hid hc
        clear hc hmi e
        go_wp2_with (go_at_call 57; refine HC.out.mono ?_; rintro e w2 ⟨rfl, d2, q1, q2, q3⟩)
        go_roundg (i - j + j)
        case measure => omega
        case rel => exact ⟨i - j, j, d2, by first | rfl | go_num | (congr 1; omega), rfl, by omega, by omega, by omega, by omega, Nat.le_refl _, Lib.hid (by rw [q2.size]; exact hdk.out), Lib.hid q1, Lib.hid (HO.out.gt g (by omega) q2), Lib.hid (permIn_trans _ _ _ _ _ HP.out (permIn_mono _ _ _ _ _ _ (by omega) (by omega) (by rw [hdk.out]; omega) q3))⟩
      · have hg : ¬ (j : Int) < (i : Int) := by omega
        have hg2 : i < j := by omega
        have hc := HSW.out dk wr (m - i) (m + j - i) i hdk.out S1.out (by omega) (by omega)
        rw [hmi, show ((m + j - i : Nat) : Int) = (m : Int) + (j : Int) - (i : Int) by omega] at hc
        have HC := Lib.hid hc
        clear hc hmi e
        go_wp2_with (go_at_call 57; refine HC.out.mono ?_; rintro e w2 ⟨rfl, d2, q1, q2, q3⟩)
        go_roundg (i + (j - i))
        case measure => omega
        case rel => exact ⟨i, j - i, d2, rfl, by first | rfl | go_num | (congr 1; omega), by omega, by omega, by omega, by omega, Nat.le_refl _, Lib.hid (by rw [q2.size]; exact hdk.out), Lib.hid q1, Lib.hid (HO.out.lt hg2 (by omega) q2), Lib.hid (permIn_trans _ _ _ _ _ HP.out (permIn_mono _ _ _ _ _ _ (by omega) (by omega) (by rw [hdk.out]; omega) q3))⟩
end Go.Proofs.Ytngboallknmepaa.Fp

namespace Go.Proofs.Ytngboallknmepaa.Fp
set_option linter.unusedVariables false
set_option linter.unusedSimpArgs false
open Go.RowKit Go.Sort Go.Shelf

/-- The key at a place. -/
def Kd (d : Array UInt64) (i : Nat) : Int := ky d[i]!.toNat
def Sd (a b : Nat) (d : Array UInt64) : Prop := ∀ i j, a ≤ i → i < j → j < b → Kd d i ≤ Kd d j
theorem sd_iff {a b : Nat} {d : Array UInt64} : SortedIn (ltOf cF) a b d ↔ Sd a b d := by
  constructor
  · intro h i j h1 h2 h3
    have := h i j h1 h2 h3
    rw [lt_cF, decide_eq_false_iff_not] at this
    exact Int.not_lt.1 this
  · intro h i j h1 h2 h3
    rw [lt_cF, decide_eq_false_iff_not]
    exact Int.not_lt.2 (h i j h1 h2 h3)
theorem Sd.le {a b : Nat} {d : Array UInt64} (h : Sd a b d) {i j : Nat} (h1 : a ≤ i) (h2 : i ≤ j) (h3 : j < b) : Kd d i ≤ Kd d j := by
  rcases Nat.lt_or_ge i j with g | g
  · exact h i j h1 g h3
  · have : i = j := by omega
    subst this; exact Int.le_refl _
theorem Sd.sub {a b a' b' : Nat} {d : Array UInt64} (h : Sd a b d) (h1 : a ≤ a') (h2 : b' ≤ b) : Sd a' b' d := fun i j x y z => h i j (by omega) y (by omega)
theorem Sd.congr {a b : Nat} {d d' : Array UInt64} (h : Sd a b d) (he : ∀ x, a ≤ x → x < b → d'[x]! = d[x]!) : Sd a b d' := fun i j x y z => by
  unfold Kd
  rw [he i (by omega) (by omega), he j (by omega) z]
  exact h i j x y z
/-- All of the one stretch come ahead of all of the other. -/
def Xd (a m b : Nat) (d : Array UInt64) : Prop := ∀ p q, a ≤ p → p < m → m ≤ q → q < b → Kd d p ≤ Kd d q
theorem Xd.left {a m b : Nat} {d d' : Array UInt64} (h : Xd a m b d) (hm : m ≤ d.size) (hp : PermIn a m d d') : Xd a m b d' := fun p q h1 h2 h3 h4 => by
  have e : d'[q]! = d[q]! := hp.2.1 q (.inr h3)
  have := permIn_all d d' a m (fun v => ky v.toNat ≤ Kd d q) hm hp (fun i i1 i2 => h i q i1 i2 h3 h4) p h1 h2
  unfold Kd at this ⊢
  rw [e]; exact this
theorem Xd.right {a m b : Nat} {d d' : Array UInt64} (h : Xd a m b d) (hb : b ≤ d.size) (hp : PermIn m b d d') : Xd a m b d' := fun p q h1 h2 h3 h4 => by
  have e : d'[p]! = d[p]! := hp.2.1 p (.inl h2)
  have := permIn_all d d' m b (fun v => Kd d p ≤ ky v.toNat) hb hp (fun i i1 i2 => h p i h1 h2 i1 i2) q h3 h4
  unfold Kd at this ⊢
  rw [e]; exact this
theorem Xd.both {a m b : Nat} {d : Array UInt64} (h : Xd a m b d) (h1 : Sd a m d) (h2 : Sd m b d) : Sd a b d := fun i j x y z => by
  rcases Nat.lt_or_ge i m with g | g
  · rcases Nat.lt_or_ge j m with g2 | g2
    · exact h1 i j x y g2
    · exact h i j x g g2 z
  · exact h2 i j g y z

/-- A float that is moved up behind those that come ahead of it. -/
structure Up (a k : Nat) (d dk : Array UInt64) : Prop where
  size : dk.size = d.size
  l : ∀ x, a ≤ x → x < k → dk[x]! = d[x + 1]!
  c : dk[k]! = d[a]!
  o : ∀ x, x < a ∨ k < x → dk[x]! = d[x]!
theorem Up.zero (a : Nat) (d : Array UInt64) : Up a a d d := ⟨rfl, fun x _ _ => by omega, rfl, fun _ _ => rfl⟩
theorem Up.step {a k : Nat} {d dk : Array UInt64} (h : Up a k d dk) (hak : a ≤ k) (hk : k + 1 < d.size) : Up a (k + 1) d (swp dk k (k + 1)) := by
  have hs := h.size
  refine ⟨by rw [size_swp]; exact hs, fun x h1 h2 => ?_, ?_, fun x hx => ?_⟩
  · by_cases e : x = k
    · subst e
      rw [swp_left _ _ _ (by omega) (by omega)]
      exact h.o _ (by omega)
    · rw [swp_other _ _ _ _ e (by omega)]
      exact h.l x h1 (by omega)
  · rw [swp_right _ _ _ (by omega)]
    exact h.c
  · rw [swp_other _ _ _ _ (by omega) (by omega)]
    exact h.o x (by omega)
theorem Up.sorted {a m b i : Nat} {d dk : Array UInt64} (h : Up a (i - 1) d dk) (hm : m = a + 1) (hi : m ≤ i) (hib : i ≤ b) (hs : Sd m b d) (h1 : ∀ x, m ≤ x → x < i → Kd d x < Kd d a) (h2 : ∀ x, i ≤ x → x < b → Kd d a ≤ Kd d x) : Sd a b dk := by
  intro p q hp hpq hq
  have e : ∀ x, a ≤ x → x < b → Kd dk x = if x < i - 1 then Kd d (x + 1) else if x = i - 1 then Kd d a else Kd d x := by
    intro x x1 x2
    unfold Kd
    split
    · rw [h.l x x1 (by omega)]
    · split
      · rename_i e; rw [e, h.c]
      · rw [h.o x (by omega)]
  rw [e p hp (by omega), e q (by omega) hq]
  by_cases c1 : p < i - 1
  · rw [if_pos c1]
    by_cases c2 : q < i - 1
    · rw [if_pos c2]; exact hs (p + 1) (q + 1) (by omega) (by omega) (by omega)
    · rw [if_neg c2]
      by_cases c3 : q = i - 1
      · rw [if_pos c3]; exact Int.le_of_lt (h1 (p + 1) (by omega) (by omega))
      · rw [if_neg c3]; exact hs (p + 1) q (by omega) (by omega) hq
  · rw [if_neg c1, if_neg (show ¬ q < i - 1 by omega), if_neg (show ¬ q = i - 1 by omega)]
    by_cases c3 : p = i - 1
    · rw [if_pos c3]; exact h2 q (by omega) hq
    · rw [if_neg c3]; exact hs p q (by omega) hpq hq
/-- A float that is moved down ahead of those that come behind it. -/
structure Dw (m k : Nat) (d dk : Array UInt64) : Prop where
  size : dk.size = d.size
  l : ∀ x, k < x → x ≤ m → dk[x]! = d[x - 1]!
  c : dk[k]! = d[m]!
  o : ∀ x, x < k ∨ m < x → dk[x]! = d[x]!
theorem Dw.zero (m : Nat) (d : Array UInt64) : Dw m m d d := ⟨rfl, fun x _ _ => by omega, rfl, fun _ _ => rfl⟩
theorem Dw.step {m k : Nat} {d dk : Array UInt64} (h : Dw m (k + 1) d dk) (hkm : k < m) (hm : m < d.size) : Dw m k d (swp dk (k + 1) k) := by
  have hs := h.size
  refine ⟨by rw [size_swp]; exact hs, fun x h1 h2 => ?_, ?_, fun x hx => ?_⟩
  · by_cases e : x = k + 1
    · subst e
      rw [swp_left _ _ _ (by omega) (by omega)]
      exact h.o _ (by omega)
    · rw [swp_other _ _ _ _ e (by omega)]
      exact h.l x (by omega) h2
  · rw [swp_right _ _ _ (by omega)]
    exact h.c
  · rw [swp_other _ _ _ _ (by omega) (by omega)]
    exact h.o x (by omega)
theorem Dw.sorted {a m b i : Nat} {d dk : Array UInt64} (h : Dw m i d dk) (hm : b = m + 1) (hi : a ≤ i) (him : i ≤ m) (hs : Sd a m d) (h1 : ∀ x, a ≤ x → x < i → Kd d x ≤ Kd d m) (h2 : ∀ x, i ≤ x → x < m → Kd d m < Kd d x) : Sd a b dk := by
  intro p q hp hpq hq
  have e : ∀ x, a ≤ x → x < b → Kd dk x = if i < x then Kd d (x - 1) else if x = i then Kd d m else Kd d x := by
    intro x x1 x2
    unfold Kd
    split
    · rw [h.l x (by omega) (by omega)]
    · split
      · rename_i e; rw [e, h.c]
      · rw [h.o x (by omega)]
  rw [e p hp (by omega), e q (by omega) hq]
  by_cases c1 : i < p
  · rw [if_pos c1, if_pos (by omega)]; exact hs (p - 1) (q - 1) (by omega) (by omega) (by omega)
  · rw [if_neg c1]
    by_cases c2 : p = i
    · rw [if_pos c2, if_pos (by omega)]; exact Int.le_of_lt (h2 (q - 1) (by omega) (by omega))
    · rw [if_neg c2]
      by_cases c3 : i < q
      · rw [if_pos c3]; exact hs.le (by omega) (by omega) (by omega)
      · rw [if_neg c3]
        by_cases c4 : q = i
        · rw [if_pos c4]; exact h1 p hp (by omega)
        · rw [if_neg c4]; exact hs p q hp hpq (by omega)
/-- What is known of the place that halves two rows. -/
structure Hp (a m b md st en : Nat) (d : Array UInt64) : Prop where
  a0 : a ≤ st
  a1 : st ≤ m
  a2 : st ≤ md
  b0 : m ≤ en
  b1 : en ≤ b
  b2 : md ≤ en
  n : st + en = md + m
  f1 : a < st → en < b → Kd d (st - 1) ≤ Kd d en
  f2 : st < m → m < en → Kd d (en - 1) < Kd d st
theorem rt2_same {st m en : Nat} {d : Array UInt64} (h : st = m ∨ en = m) (h1 : st ≤ m) (h2 : m ≤ en) (x : Nat) : Rt2 st m en d x = d[x]! := by
  unfold Rt2
  split
  · congr 1; omega
  · split
    · congr 1; omega
    · rfl
theorem Hp.parts {a m b md st en : Nat} {d d1 : Array UInt64} (h : Hp a m b md st en d) (hA : Sd a m d) (hB : Sd m b d) (e : ∀ x, d1[x]! = Rt2 st m en d x) :
    Xd a md b d1 ∧ Sd a st d1 ∧ Sd st md d1 ∧ Sd md en d1 ∧ Sd en b d1 := by
  obtain ⟨a0, a1, a2, b0, b1, b2, hn, f1, f2⟩ := h
  have k1 : ∀ x, x < st → Kd d1 x = Kd d x := fun x hx => by unfold Kd; rw [e]; unfold Rt2; rw [if_neg (by omega), if_neg (by omega)]
  have k2 : ∀ x, st ≤ x → x < md → Kd d1 x = Kd d (x + (m - st)) := fun x h1 h2 => by unfold Kd; rw [e]; unfold Rt2; rw [if_pos (by omega)]
  have k3 : ∀ x, md ≤ x → x < en → Kd d1 x = Kd d (x - (en - m)) := fun x h1 h2 => by unfold Kd; rw [e]; unfold Rt2; rw [if_neg (by omega), if_pos (by omega)]
  have k4 : ∀ x, en ≤ x → Kd d1 x = Kd d x := fun x hx => by unfold Kd; rw [e]; unfold Rt2; rw [if_neg (by omega), if_neg (by omega)]
  refine ⟨fun p q h1 h2 h3 h4 => ?_, fun i j h1 h2 h3 => ?_, fun i j h1 h2 h3 => ?_, fun i j h1 h2 h3 => ?_, fun i j h1 h2 h3 => ?_⟩
  · rcases Nat.lt_or_ge p st with g | g
    · rw [k1 p g]
      rcases Nat.lt_or_ge q en with g2 | g2
      · rw [k3 q h3 g2]
        exact hA.le h1 (by omega) (by omega)
      · rw [k4 q g2]
        have x1 := hA.le (i := p) (j := st - 1) h1 (by omega) (by omega)
        have x2 := f1 (by omega) (by omega)
        have x3 := hB.le (i := en) (j := q) (by omega) g2 h4
        omega
    · rw [k2 p g h2]
      rcases Nat.lt_or_ge q en with g2 | g2
      · rw [k3 q h3 g2]
        have x1 := hB.le (i := p + (m - st)) (j := en - 1) (by omega) (by omega) (by omega)
        have x2 := f2 (by omega) (by omega)
        have x3 := hA.le (i := st) (j := q - (en - m)) (by omega) (by omega) (by omega)
        omega
      · rw [k4 q g2]
        exact hB.le (by omega) (by omega) h4
  · rw [k1 i (by omega), k1 j h3]; exact hA i j h1 h2 (by omega)
  · rw [k2 i h1 (by omega), k2 j (by omega) h3]; exact hB _ _ (by omega) (by omega) (by omega)
  · rw [k3 i h1 (by omega), k3 j (by omega) h3]; exact hA _ _ (by omega) (by omega) (by omega)
  · rw [k4 i h1, k4 j (by omega)]; exact hB i j (by omega) h2 h3
end Go.Proofs.Ytngboallknmepaa.Fp
