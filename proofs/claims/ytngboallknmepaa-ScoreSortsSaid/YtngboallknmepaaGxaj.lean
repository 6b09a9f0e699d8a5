/-
  The library's stable sort of at most 60 floats.
  The float in the middle of a row, also of an even one.
  The first 60 floats of a row, their mean, the reference's mean, and medians that are the same.
  The medians, whatever the row.
  An argument that is a slice of floats, opened: its value, and what its cells hold.
  The mean of a float and itself, in plain words.
-/
import Derived.Test.YtngboallknmepaaGxah
import Derived.Test.YtngboallknmepaaGxai
import Derived.Test.YtngboallknmepaaGxae
import Derived.Test.YtngboallknmepaaGxad
import Derived.Test.YtngboallknmepaaGxac
import Derived.Deep.Slices
import Derived.OpenShut
namespace Go.Proofs.Ytngboallknmepaa.Fp
set_option linter.unusedVariables false
set_option linter.unusedSimpArgs false
open Go.RowKit Go.Sort Go.Shelf
open T
open I (alloc1 own_at own_below)

theorem sym_ok : ∀ N, SymOK N := by
  intro N
  induction N with
  | zero => intro a m b d0 d blk off cap w0 w hN ham hmb; omega
  | succ N ih =>
    intro a m b d0 d blk off cap w0 w hN ham hmb hb hsz R hs S hA hB
    by_cases h1 : m = a + 1
    · exact sym_first d0 d blk off cap w0 w h1 hmb hb hsz R hs S hA hB
    · by_cases h2 : b = m + 1
      · exact sym_last d0 d blk off cap w0 w ham h2 (by omega) hb hsz R hs S hA hB
      · by_cases h3 : (a + b) / 2 < m
        · exact sym_big ih d0 d blk off cap w0 w ham hmb (by omega) (by omega) hN h3 hb hsz R hs S hA hB
        · exact sym_small ih d0 d blk off cap w0 w ham hmb (by omega) (by omega) hN (by omega) hb hsz R hs S hA hB
/-- The first k blocks of 20 are in order. -/
structure Bl (k : Nat) (d : Array UInt64) : Prop where
  a : 1 ≤ k → Sd 0 20 d
  b : 2 ≤ k → Sd 20 40 d
  c : 3 ≤ k → Sd 40 60 d
theorem Bl.keep {k p q : Nat} {d d' : Array UInt64} (h : Bl k d) (hp : PermIn p q d d') (hk : 20 * k ≤ p) : Bl k d' :=
  ⟨fun h1 => (h.a h1).congr (fun x _ x2 => hp.2.1 x (.inl (by omega))), fun h1 => (h.b h1).congr (fun x _ x2 => hp.2.1 x (.inl (by omega))), fun h1 => (h.c h1).congr (fun x _ x2 => hp.2.1 x (.inl (by omega)))⟩
theorem Bl.snoc {k : Nat} {d d' : Array UInt64} (h : Bl k d) (hk : k < 3) (hp : PermIn (20 * k) (20 * k + 20) d d') (hs : Sd (20 * k) (20 * k + 20) d') : Bl (k + 1) d' := by
  have h' := h.keep hp (Nat.le_refl _)
  have e : k = 0 ∨ k = 1 ∨ k = 2 := by omega
  rcases e with rfl | rfl | rfl
  · exact ⟨fun _ => hs, fun h => by omega, fun h => by omega⟩
  · exact ⟨fun _ => h'.a (by omega), fun _ => hs, fun h => by omega⟩
  · exact ⟨fun _ => h'.a (by omega), fun _ => h'.b (by omega), fun _ => hs⟩
/-- The blocks of that size are in order. -/
def Bq (bs n : Nat) (d : Array UInt64) : Prop :=
  (bs = 20 ∧ Sd 0 (min 20 n) d ∧ Sd 20 (min 40 n) d ∧ Sd 40 (min 60 n) d) ∨ (bs = 40 ∧ Sd 0 (min 40 n) d ∧ Sd 40 n d) ∨ (bs = 80 ∧ Sd 0 n d)
theorem Bl.whole {k n : Nat} {d d' : Array UInt64} (h : Bl k d) (hn : n ≤ 60) (h1 : 20 * k ≤ n) (h2 : n < 20 * k + 20) (hp : PermIn (20 * k) n d d') (hs : Sd (20 * k) n d') : Bq 20 n d' := by
  have h' := h.keep hp (Nat.le_refl _)
  refine .inl ⟨rfl, ?_, ?_, ?_⟩
  · by_cases c : 1 ≤ k
    · exact (h'.a c).sub (by omega) (by omega)
    · exact hs.sub (by omega) (by omega)
  · by_cases c : 2 ≤ k
    · exact (h'.b c).sub (by omega) (by omega)
    · intro i j x y z; exact hs i j (by omega) y (by omega)
  · by_cases c : 3 ≤ k
    · exact (h'.c c).sub (by omega) (by omega)
    · intro i j x y z; exact hs i j (by omega) y (by omega)
set_option maxHeartbeats 2000000 in
set_option maxRecDepth 100000 in
theorem stable_all {n : Nat} (hn60 : n ≤ 60) : Stable n := by
  intro d0 d blk off cap w0 w hd R hs S
  have S0 := Lib.hid S
  have HR := Lib.hid R
  have HD1 := Lib.hid hs
  clear S R hs
  have hins : ∀ (a b : Nat) (dk : Array UInt64) (wr : World), dk.size = n → SW encF w0 blk off dk wr → a ≤ b → b ≤ n → Calls Try.prog 49 #[.slice (some ⟨blk, off, none⟩) n cap, .int .i64 a, .int .i64 b, .func (.func 14) #[] #[]] wr fun e w' =>
      e = .returned (.tuple #[]) ∧ ∃ d', SW encF w0 blk off d' w' ∧ PermIn a b dk d' ∧ Sd a b d' := by
    intro a b dk wr h1 h2 h3 h4
    have := ins_any blk off cap a b d0 dk w0 wr HR.out (by rw [HD1.out, hd, h1]) h2 h3 (by rw [h1]; exact h4) (by rw [h1]; omega)
    rw [h1] at this
    refine this.mono ?_
    rintro e w' ⟨q1, d', q2, q3, q4⟩
    exact ⟨q1, d', q2, q3, sd_iff.1 q4⟩
  have hsym : ∀ (a m b : Nat) (dk : Array UInt64) (wr : World), dk.size = n → SW encF w0 blk off dk wr → a < m → m < b → b ≤ n → Sd a m dk → Sd m b dk → Calls Try.prog 50 #[.slice (some ⟨blk, off, none⟩) n cap, .int .i64 a, .int .i64 m, .int .i64 b, .func (.func 14) #[] #[]] wr fun e w' =>
      e = .returned (.tuple #[]) ∧ ∃ d', SW encF w0 blk off d' w' ∧ PermIn a b dk d' ∧ Sd a b d' := by
    intro a m b dk wr h1 h2 h3 h4 h5 h6 h7
    have := sym_ok (b - a) a m b d0 dk blk off cap w0 wr (Nat.le_refl _) h3 h4 (by rw [h1]; exact h5) (by rw [h1]; omega) HR.out (by rw [HD1.out, hd, h1]) h2 h6 h7
    rw [h1] at this
    exact this
  have HI := Lib.hid hins
  have HY := Lib.hid hsym
  have HDN := Lib.hid hd
  clear hins hsym
  rw [hd]
  clear hd
  go_enter Try.func46, Try.ntmps46
  go_wp2_with fail
  go_loopg [7, 8] (3 : Nat) (fun q av bv wr => ∃ (k : Nat) (dk : Array UInt64), av = .int .i64 (20 * (k : Int)) ∧ bv = .int .i64 (20 * (k : Int) + 20) ∧ k ≤ 3 ∧ 20 * k ≤ n ∧ 3 - k ≤ q ∧ Hid (dk.size = n) ∧ Hid (SW encF w0 blk off dk wr) ∧ Hid (Bl k dk) ∧ Hid (PermIn 0 n d dk))
  case atStart => exact ⟨0, d, rfl, rfl, by omega, by omega, by omega, HDN, S0, Lib.hid ⟨fun h => by omega, fun h => by omega, fun h => by omega⟩, Lib.hid (permIn_refl _ _ _)⟩
  case round =>
    clear S0
    obtain ⟨k, dk, rfl, rfl, hk, hkn, hq, HS, S1, HB, HP⟩ := hrel
    by_cases hlt : 20 * k + 20 ≤ n
    · have hz : 20 * (k : Int) + 20 ≤ (n : Int) := by omega
      have hc := HI.out (20 * k) (20 * k + 20) dk wr HS.out S1.out (by omega) hlt
      rw [show ((20 * k : Nat) : Int) = 20 * (k : Int) by omega, show ((20 * k + 20 : Nat) : Int) = 20 * (k : Int) + 20 by omega] at hc
      have HC := Lib.hid hc
      clear hc
      go_wp2_with (go_at_call 49; refine HC.out.mono ?_; rintro e w' ⟨rfl, d2, q1, q2, q3⟩)
      go_roundg (3 - (k + 1))
      case measure => omega
      case rel => exact ⟨k + 1, d2, by first | rfl | go_num | (congr 1; omega), by first | rfl | go_num | (congr 1; omega), by omega, by omega, Nat.le_refl _, Lib.hid (by rw [q2.1]; exact HS.out), Lib.hid q1, Lib.hid (HB.out.snoc (by omega) q2 q3), Lib.hid (permIn_trans _ _ _ _ _ HP.out (permIn_mono _ _ _ _ _ _ (by omega) (by omega) (by rw [HS.out]; omega) q2))⟩
    · have hz : ¬ 20 * (k : Int) + 20 ≤ (n : Int) := by omega
      have hc := HI.out (20 * k) n dk wr HS.out S1.out hkn (Nat.le_refl _)
      rw [show ((20 * k : Nat) : Int) = 20 * (k : Int) by omega] at hc
      have HC := Lib.hid hc
      clear hc
      go_wp2_with (go_at_call 49; refine HC.out.mono ?_; rintro e w' ⟨rfl, d2, q1, q2, q3⟩)
      have HS2 : Hid (d2.size = n) := Lib.hid (by rw [q2.1]; exact HS.out)
      have HB2 := Lib.hid (HB.out.whole hn60 hkn (by omega) q2 q3)
      have HP2 := Lib.hid (permIn_trans _ _ _ _ _ HP.out (permIn_mono _ _ _ _ 0 n (by omega) (by omega) (by rw [HS.out]; omega) q2))
      have S2 := Lib.hid q1
      clear q1 q2 q3 HC HS S1 HB HP hz
      go_loopg [6] (80 : Nat) (fun q sv wr => ∃ (bs : Nat) (dk : Array UInt64), sv = .int .i64 bs ∧ 20 ≤ bs ∧ 80 - bs ≤ q ∧ Hid (dk.size = n) ∧ Hid (SW encF w0 blk off dk wr) ∧ Hid (Bq bs n dk) ∧ Hid (PermIn 0 n d dk))
      case atStart => exact ⟨20, d2, rfl, by omega, by omega, HS2, S2, HB2, HP2⟩
      case round =>
        clear HS2 S2 HB2 HP2
        obtain ⟨bs, dk, rfl, hb20, hq, HS, S1, HB, HP⟩ := hrel
        by_cases hbn : bs < n
        · rcases HB.out with ⟨rfl, p1, p2, p3⟩ | ⟨rfl, p1, p2⟩ | ⟨rfl, p1⟩
          · have hnz : (20 : Int) < (n : Int) := by omega
            by_cases h40 : 40 ≤ n
            · have hz40 : (40 : Int) ≤ (n : Int) := by omega
              have hc := HY.out 0 20 40 dk wr HS.out S1.out (by omega) (by omega) h40 (p1.sub (Nat.le_refl _) (by omega)) (p2.sub (Nat.le_refl _) (by omega))
              have HC := Lib.hid hc
              have P3 : Hid (Sd 40 (min 60 n) dk) := Lib.hid p3
              clear hc p1 p2 p3 HB
              go_wp2_with fail
              go_loopg [7, 8] (1 : Nat) (fun q av bv wx => (av = .int .i64 0 ∧ bv = .int .i64 40 ∧ 1 ≤ q ∧ wx = wr) ∨ (av = .int .i64 40 ∧ bv = .int .i64 80 ∧ ∃ d3 : Array UInt64, Hid (SW encF w0 blk off d3 wx) ∧ Hid (PermIn 0 40 dk d3) ∧ Hid (Sd 0 40 d3)))
              case atStart => exact .inl ⟨rfl, rfl, Nat.le_refl _, rfl⟩
              case round =>
                rcases hrel with ⟨rfl, rfl, hq1, rfl⟩ | ⟨rfl, rfl, d3, q1, q2, q3⟩
                · go_wp2_with (go_at_call 50; refine HC.out.mono ?_; rintro e w' ⟨rfl, d3, q1, q2, q3⟩)
                  go_roundg (0 : Nat)
                  case measure => omega
                  case rel => exact .inr ⟨rfl, rfl, d3, Lib.hid q1, Lib.hid q2, Lib.hid q3⟩
                · have hz80 : ¬ (80 : Int) ≤ (n : Int) := by omega
                  have hz60 : ¬ (60 : Int) < (n : Int) := by omega
                  go_wp2_with fail
                  go_roundg (40 : Nat)
                  case measure => omega
                  case rel => exact ⟨40, d3, rfl, by omega, by omega, Lib.hid (by rw [q2.out.1]; exact HS.out), q1, Lib.hid (.inr (.inl ⟨rfl, q3.out.sub (Nat.le_refl _) (by omega), (P3.out.congr (fun x x1 _ => q2.out.2.1 x (.inr x1))).sub (Nat.le_refl _) (by omega)⟩)), Lib.hid (permIn_trans _ _ _ _ _ HP.out (permIn_mono _ _ _ _ _ _ (Nat.le_refl _) h40 (by rw [HS.out]; omega) q2.out))⟩
            · have hz40 : ¬ (40 : Int) ≤ (n : Int) := by omega
              have hc := HY.out 0 20 n dk wr HS.out S1.out (by omega) (by omega) (Nat.le_refl _) (p1.sub (Nat.le_refl _) (by omega)) (p2.sub (Nat.le_refl _) (by omega))
              have HC := Lib.hid hc
              clear hc p1 p2 p3 HB
              go_wp2_with fail
              go_loopg [7, 8] (0 : Nat) (fun q av bv wx => av = .int .i64 0 ∧ bv = .int .i64 40 ∧ wx = wr)
              case atStart => exact ⟨rfl, rfl, rfl⟩
              case round =>
                obtain ⟨rfl, rfl, rfl⟩ := hrel
                go_wp2_with (go_at_call 50; refine HC.out.mono ?_; rintro e w' ⟨rfl, d3, q1, q2, q3⟩)
                go_roundg (40 : Nat)
                case measure => omega
                case rel => exact ⟨40, d3, rfl, by omega, by omega, Lib.hid (by rw [q2.1]; exact HS.out), Lib.hid q1, Lib.hid (.inr (.inl ⟨rfl, q3.sub (Nat.le_refl _) (by omega), fun i j x y z => by omega⟩)), Lib.hid (permIn_trans _ _ _ _ _ HP.out q2)⟩
          · have hnz : (40 : Int) < (n : Int) := by omega
            have hz80 : ¬ (80 : Int) ≤ (n : Int) := by omega
            have hc := HY.out 0 40 n dk wr HS.out S1.out (by omega) (by omega) (Nat.le_refl _) (p1.sub (Nat.le_refl _) (by omega)) p2
            have HC := Lib.hid hc
            clear hc p1 p2 HB
            go_wp2_with fail
            go_loopg [7, 8] (0 : Nat) (fun q av bv wx => av = .int .i64 0 ∧ bv = .int .i64 80 ∧ wx = wr)
            case atStart => exact ⟨rfl, rfl, rfl⟩
            case round =>
              obtain ⟨rfl, rfl, rfl⟩ := hrel
              go_wp2_with (go_at_call 50; refine HC.out.mono ?_; rintro e w' ⟨rfl, d3, q1, q2, q3⟩)
              go_roundg (0 : Nat)
              case measure => omega
              case rel => exact ⟨80, d3, rfl, by omega, by omega, Lib.hid (by rw [q2.1]; exact HS.out), Lib.hid q1, Lib.hid (.inr (.inr ⟨rfl, q3⟩)), Lib.hid (permIn_trans _ _ _ _ _ HP.out q2)⟩
          · omega
        · have hbz : ¬ (bs : Int) < (n : Int) := by omega
          go_wp2_with fail
          go_end0
          refine ⟨rfl, dk, S1.out, HP.out, ?_⟩
          rcases HB.out with ⟨rfl, p1, p2, p3⟩ | ⟨rfl, p1, p2⟩ | ⟨rfl, p1⟩
          · exact sd_iff.2 (p1.sub (Nat.le_refl _) (by omega))
          · exact sd_iff.2 (p1.sub (Nat.le_refl _) (by omega))
          · exact sd_iff.2 p1
end Go.Proofs.Ytngboallknmepaa.Fp

namespace Go.Proofs.Ytngboallknmepaa.Fp
set_option linter.unusedVariables false
set_option linter.unusedSimpArgs false
open Go.RowKit Go.Sort Go.Shelf
open T
open I (alloc1 own_at own_below)


theorem add_lt {a b v : Nat} (h : D.add a b = some v) : v < 2 ^ 64 := Ieee.Format.add_lt D h
theorem run_add_nan (a b : Nat) (h : D.add a b = none) (w : World) : (binOp .add 22 (.float .f64 a) (.float .f64 b)).run Try.prog w = .ok (.float .f64 (nbv a b w)) w.drew := by
  have h' : FloatKind.f64.format.add a b = none := h
  simp [binOp, Op.floatArith, h', Question.forced, nbv]
theorem half_gw (x : Nat) (nx : isN x = false) (w : World) : Calls Try.prog 41 #[fV x] w fun e w' => e = .returned (fV (hf x)) ∧ Gw w w' := (half_num x nx w).mono fun _ _ ⟨h, k⟩ => ⟨h, k ▸ Gw.refl _⟩
theorem Md.mid {s : List UInt64} {x y z : UInt64} {j r : Nat} (hx : s.getLast? = some x) (nx : isN x.toNat = false) (ho : ¬ s.length % 2 = 1) (hk : j + 1 = s.length / 2) (hz : s[j]? = some z) (hy : s[j + 1]? = some y) (nz : isN z.toNat = false) (ny : isN y.toNat = false) (ha : Ad (hf z.toNat) (hf y.toNat) r) : Md s r := by
  refine ⟨ha.lt, fun h => ?_, fun q hq hn => ?_, fun q hq hn h => absurd h ho, fun q hq hn he => ⟨z, y, ?_, ?_, nz, ny, ha⟩⟩
  · subst h; simp at hx
  · have := hx.symm.trans hq
    injection this with this
    subst this
    rw [nx] at hn; cases hn
  · rw [← hk]; exact hz
  · rw [← hk]; exact hy
set_option maxHeartbeats 4000000 in
set_option maxRecDepth 100000 in
theorem median_even (A : Option Addr) (c : Nat) (l : List UInt64) (w : World) (heven : ¬ l.length % 2 = 1) (h0 : ¬ l.length = 0) (hS : Stable l.length) (hL : FlIn w A l) (hz : A = none → c = 0) (hl : l.length ≤ 1000000) :
    Calls Try.prog 24 #[.slice A l.length c] w fun e w' => ∃ s r, e = .returned (fV r) ∧ s.Perm l ∧ s.Pairwise (fun a b => ky a.toNat ≤ ky b.toNat) ∧ Md s r ∧ Below w.heap.size w w' := by
  have HC := Lib.hid (sort_any A c l w hS hL hz hl)
  clear hL hS hz
  have nn := nan_word
  go_enter Try.func24, Try.ntmps24
  go_upto_region 3 with (go_at_call 17; refine HC.out.mono ?_; rintro e w1 ⟨B, cap, s, rfl, q1, q2, q3, q4⟩)
  have HL := Lib.hid q1.length_eq
  have hls : s.length ≤ 1000000 := by rw [q1.length_eq]; exact hl
  have HQ := Lib.hid (And.intro q1 q2)
  have HB := Lib.hid q4
  have HI := Lib.hid q3
  have hs0 : ¬ s.length = 0 := by rw [q1.length_eq]; exact h0
  have ho : ¬ s.length % 2 = 1 := by rw [q1.length_eq]; exact heven
  clear q1 q2 q3 q4 HC hl h0 heven
  have hb0 : ((s.length : Int) == 0) = false := by simp [hs0]
  obtain ⟨bk, off, rfl, hbk, hF⟩ := HI.out (by omega)
  obtain ⟨n, hn⟩ : ∃ n, n + 1 = s.length := ⟨s.length - 1, by omega⟩
  have c1 := hF n (by omega)
  obtain ⟨x, hx⟩ : ∃ x : UInt64, x = s[n]'(by omega) := ⟨_, rfl⟩
  rw [← hx] at c1
  have HX : Hid (s.getLast? = some x) := Lib.hid (by
    rw [List.getLast?_eq_getElem?, hx, List.getElem?_eq_getElem (by omega)]
    congr 1
    congr 1
    omega)
  have p0 : (0 : Int) ≤ (s.length : Int) - 1 := by omega
  have p1 : (s.length : Int) - 1 < (s.length : Int) := by omega
  have p2 : ((s.length : Int) - 1).toNat = n := by omega
  have HF := Lib.hid hF
  have HN := Lib.hid hn
  clear hF hx hs0 hn
  obtain ⟨j, hk⟩ : ∃ j, j + 1 = s.length / 2 := ⟨s.length / 2 - 1, by have := HN.out; omega⟩
  have ek : (s.length : Int).tdiv 2 = (j : Int) + 1 := by rw [Int.tdiv_eq_ediv_of_nonneg (by omega)]; omega
  have ek' : (s.length : Int) / 2 = (j : Int) + 1 := by omega
  have k1 : (j : Int) + 1 < (s.length : Int) := by have := HN.out; omega
  have k2 : (j : Int) < (s.length : Int) := by omega
  have j0 : (0 : Int) ≤ (j : Int) := by omega
  have j1 : (0 : Int) ≤ (j : Int) + 1 := by omega
  have j2 : ((j : Int) + 1).toNat = j + 1 := by omega
  have c2 := HF.out (j + 1) (by omega)
  have c3 := HF.out j (by omega)
  obtain ⟨y, hy⟩ : ∃ y : UInt64, y = s[j + 1]'(by omega) := ⟨_, rfl⟩
  obtain ⟨z, hz⟩ : ∃ z : UInt64, z = s[j]'(by omega) := ⟨_, rfl⟩
  rw [← hy] at c2
  rw [← hz] at c3
  have HY : Hid (s[j + 1]? = some y) := Lib.hid (by rw [hy, List.getElem?_eq_getElem])
  have HZ : Hid (s[j]? = some z) := Lib.hid (by rw [hz, List.getElem?_eq_getElem])
  clear hy hz
  have HO := Lib.hid ho
  have HK := Lib.hid hk
  cases nx : isN x.toNat
  · have em : (s.length : Int).tmod 2 = 0 := by rw [Int.tmod_eq_emod_of_nonneg (by omega)]; omega
    have em' : (s.length : Int) % 2 = 0 := by omega
    have ny : isN y.toNat = false := pair_last HQ.out.2 HX.out nx y (List.mem_of_getElem? HY.out)
    have nz : isN z.toNat = false := pair_last HQ.out.2 HX.out nx z (List.mem_of_getElem? HZ.out)
    clear ho hk
    go_upto_region 7 with (go_at_call 34; refine (isnan_any _ _).mono ?_; rintro e w' ⟨rfl, rfl⟩)
    cases ha : D.add (hf z.toNat) (hf y.toNat) with
    | some v =>
      have hq := run_add _ _ v ha
      go_wp2_with fail
      go_quiet (first | (go_at_call 41; refine Calls.quiet_of_same (half_num _ (by assumption) _)))
      go_wp2_with fail
      go_ret
      exact ⟨s, v, rfl, HQ.out.1, HQ.out.2, Md.mid HX.out nx HO.out HK.out HZ.out HY.out nz ny ⟨add_lt ha, fun v' h' => (by rw [ha] at h'; injection h'), fun h' => (by rw [ha] at h'; cases h')⟩, HB.out.trans ((V.drawn_below _ nq).mono HB.out.size)⟩
    | none =>
      have hq := run_add_nan _ _ ha
      have HNO := Lib.hid ha
      have jw0 : IntKind.i64.wrap (j : Int) = (j : Int) := by rw [IntKind.wrap_i64]; omega
      have jw1 : IntKind.i64.wrap ((j : Int) + 1) = (j : Int) + 1 := by rw [IntKind.wrap_i64]; omega
      have jw2 : IntKind.i64.wrap ((j : Int) + 1 - 1) = (j : Int) := by rw [IntKind.wrap_i64]; omega
      have jw3 : IntKind.i64.wrap (IntKind.i64.wrap ((j : Int) + 1) - 1) = (j : Int) := by rw [jw1]; exact jw2
      have j5 : ((j : Int)).toNat = j := by omega
      clear ha
      obtain ⟨W7, hW7⟩ : ∃ W, W = w' := ⟨_, rfl⟩
      rw [← hW7] at hbk c2 c3 HB ⊢
      clear hW7
      refine wp_region_held_drew (S := (Gw W7)) (by kernel_rfl) (Gw.drew W7) (fun hK0 => ?_)
      refine wpAnyH_take (i := 0) (oi := { dst := some 28, op := Go.Op.move (Go.Operand.tmp 3), type := 29, pos := "score.go:94", after := #[], guard := none }) (v := ?_) rfl (by kernel_rfl) (by kernel_rfl) (by kernel_rfl) (fun _ _ _ h => h) (Or.inl ⟨by rfl, ?_⟩) hK0 ?_
      rotate_left
      · (intro wz hSz; (try dsimp only at hSz); go_simp; try with_reducible rfl)
      simp only [Act.put, List.setIfInBounds_toArray, List.set_cons_zero, List.set_cons_succ]
      refine wpAnyH_take (i := 1) (oi := { dst := some 29, op := Go.Op.move (Go.Operand.tmp 4), type := 3, pos := "score.go:94", after := #[], guard := none }) (v := ?_) rfl (by kernel_rfl) (by kernel_rfl) (by kernel_rfl) (fun _ _ _ h => h) (Or.inl ⟨by rfl, ?_⟩) hK0 ?_
      rotate_left
      · (intro wz hSz; (try dsimp only at hSz); go_simp; try with_reducible rfl)
      simp only [Act.put, List.setIfInBounds_toArray, List.set_cons_zero, List.set_cons_succ]
      refine wpAnyH_take (i := 2) (oi := { dst := some 30, op := Go.Op.binOp Go.BinOp.quo 3 (Go.Operand.tmp 29) (Go.Operand.const (Go.Value.int Go.IntKind.i64 2)) 3, type := 3, pos := "score.go:94", after := #[{ on := 1, ground := Go.Ground.data }], guard := none }) (v := ?_) rfl (by kernel_rfl) (by kernel_rfl) (by kernel_rfl) (fun _ _ _ h => h) (Or.inl ⟨by rfl, ?_⟩) hK0 ?_
      rotate_left
      · (intro wz hSz; (try dsimp only at hSz); go_simp; try with_reducible rfl)
      simp only [Act.put, List.setIfInBounds_toArray, List.set_cons_zero, List.set_cons_succ]
      refine wpAnyH_take (i := 3) (oi := { dst := some 31, op := Go.Op.binOp Go.BinOp.sub 3 (Go.Operand.tmp 30) (Go.Operand.const (Go.Value.int Go.IntKind.i64 1)) 3, type := 3, pos := "score.go:94", after := #[{ on := 2, ground := Go.Ground.data }], guard := none }) (v := ?_) rfl (by kernel_rfl) (by kernel_rfl) (by kernel_rfl) (fun _ _ _ h => h) (Or.inl ⟨by rfl, ?_⟩) hK0 ?_
      rotate_left
      · (intro wz hSz; (try dsimp only at hSz); go_simp; try with_reducible rfl)
      simp only [Act.put, List.setIfInBounds_toArray, List.set_cons_zero, List.set_cons_succ]
      refine wpAnyH_take (i := 4) (oi := { dst := some 32, op := Go.Op.indexAddr 29 (Go.Operand.tmp 28) (Go.Operand.tmp 31), type := 0, pos := "score.go:94", after := #[{ on := 0, ground := Go.Ground.data }, { on := 3, ground := Go.Ground.data }], guard := none }) (v := ?_) rfl (by kernel_rfl) (by kernel_rfl) (by kernel_rfl) (fun _ _ _ h => h) (Or.inl ⟨by rfl, ?_⟩) hK0 ?_
      rotate_left
      · (intro wz hSz; (try dsimp only at hSz); go_simp; try with_reducible rfl)
      simp only [Act.put, List.setIfInBounds_toArray, List.set_cons_zero, List.set_cons_succ]
      refine wpAnyH_take (i := 5) (oi := { dst := some 33, op := Go.Op.load 22 (Go.Operand.tmp 32), type := 22, pos := "score.go:94", after := #[{ on := 4, ground := Go.Ground.data }], guard := none }) (v := ?_) rfl (by kernel_rfl) (by kernel_rfl) (by kernel_rfl) (fun _ _ _ h => h) (Or.inl ⟨by rfl, ?_⟩) hK0 ?_
      rotate_left
      · (intro wz hSz; have hcz := (hSz.below.cell (p := ⟨bk, off + j, none⟩) hbk).trans c3; go_simp; try with_reducible rfl)
      simp only [Act.put, List.setIfInBounds_toArray, List.set_cons_zero, List.set_cons_succ]
      refine wpAnyH_take (i := 7) (oi := { dst := some 35, op := Go.Op.move (Go.Operand.tmp 3), type := 29, pos := "score.go:94", after := #[], guard := none }) (v := ?_) rfl (by kernel_rfl) (by kernel_rfl) (by kernel_rfl) (fun _ _ _ h => h) (Or.inl ⟨by rfl, ?_⟩) hK0 ?_
      rotate_left
      · (intro wz hSz; (try dsimp only at hSz); go_simp; try with_reducible rfl)
      simp only [Act.put, List.setIfInBounds_toArray, List.set_cons_zero, List.set_cons_succ]
      refine wpAnyH_take (i := 8) (oi := { dst := some 36, op := Go.Op.move (Go.Operand.tmp 4), type := 3, pos := "score.go:94", after := #[], guard := none }) (v := ?_) rfl (by kernel_rfl) (by kernel_rfl) (by kernel_rfl) (fun _ _ _ h => h) (Or.inl ⟨by rfl, ?_⟩) hK0 ?_
      rotate_left
      · (intro wz hSz; (try dsimp only at hSz); go_simp; try with_reducible rfl)
      simp only [Act.put, List.setIfInBounds_toArray, List.set_cons_zero, List.set_cons_succ]
      refine wpAnyH_take (i := 9) (oi := { dst := some 37, op := Go.Op.binOp Go.BinOp.quo 3 (Go.Operand.tmp 36) (Go.Operand.const (Go.Value.int Go.IntKind.i64 2)) 3, type := 3, pos := "score.go:94", after := #[{ on := 8, ground := Go.Ground.data }], guard := none }) (v := ?_) rfl (by kernel_rfl) (by kernel_rfl) (by kernel_rfl) (fun _ _ _ h => h) (Or.inl ⟨by rfl, ?_⟩) hK0 ?_
      rotate_left
      · (intro wz hSz; (try dsimp only at hSz); go_simp; try with_reducible rfl)
      simp only [Act.put, List.setIfInBounds_toArray, List.set_cons_zero, List.set_cons_succ]
      refine wpAnyH_take (i := 10) (oi := { dst := some 38, op := Go.Op.indexAddr 29 (Go.Operand.tmp 35) (Go.Operand.tmp 37), type := 0, pos := "score.go:94", after := #[{ on := 7, ground := Go.Ground.data }, { on := 9, ground := Go.Ground.data }], guard := none }) (v := ?_) rfl (by kernel_rfl) (by kernel_rfl) (by kernel_rfl) (fun _ _ _ h => h) (Or.inl ⟨by rfl, ?_⟩) hK0 ?_
      rotate_left
      · (intro wz hSz; (try dsimp only at hSz); go_simp; try with_reducible rfl)
      simp only [Act.put, List.setIfInBounds_toArray, List.set_cons_zero, List.set_cons_succ]
      refine wpAnyH_take (i := 11) (oi := { dst := some 39, op := Go.Op.load 22 (Go.Operand.tmp 38), type := 22, pos := "score.go:94", after := #[{ on := 10, ground := Go.Ground.data }], guard := none }) (v := ?_) rfl (by kernel_rfl) (by kernel_rfl) (by kernel_rfl) (fun _ _ _ h => h) (Or.inl ⟨by rfl, ?_⟩) hK0 ?_
      rotate_left
      · (intro wz hSz; have hcz := (hSz.below.cell (p := ⟨bk, off + (j + 1), none⟩) hbk).trans c2; go_simp; try with_reducible rfl)
      simp only [Act.put, List.setIfInBounds_toArray, List.set_cons_zero, List.set_cons_succ]
      refine wpAnyH_ready (rs := [6]) (by kernel_rfl) (by simp) ?_
      refine AllReadyH.cons (o := { dst := some 34, op := Go.Op.call { callee := Go.Callee.value (Go.Operand.func 41), args := #[Go.Operand.tmp 33], argTypes := #[22] }, type := 22, pos := "score.go:94", after := #[{ on := 5, ground := Go.Ground.data }], guard := none }) rfl (fun K hK => ?_) AllReadyH.nil
      go_simp
      refine ((half_gw z.toNat nz _)).mono ?_
      rintro r wq1 ⟨rfl, hbq⟩
      go_wp2_with fail
      have hS := Gw.trans hK0 hbq
      clear hbq
      refine hK.out _ _ hS (fun hK1 => ?_)
      clear hK K hS
      refine wpAnyH_ready (rs := [12]) (by kernel_rfl) (by simp) ?_
      refine AllReadyH.cons (o := { dst := some 40, op := Go.Op.call { callee := Go.Callee.value (Go.Operand.func 41), args := #[Go.Operand.tmp 39], argTypes := #[22] }, type := 22, pos := "score.go:94", after := #[{ on := 11, ground := Go.Ground.data }, { on := 6, ground := Go.Ground.chain }], guard := none }) rfl (fun K hK => ?_) AllReadyH.nil
      go_simp
      refine ((half_gw y.toNat ny _)).mono ?_
      rintro r wq2 ⟨rfl, hbq⟩
      go_wp2_with fail
      have hS := Gw.trans hK1 hbq
      clear hbq
      refine hK.out _ _ hS (fun hK2 => ?_)
      clear hK K hS
      refine wpAnyH_ready (rs := [13]) (by kernel_rfl) (by simp) ?_
      refine AllReadyH.cons (o := { dst := some 41, op := Go.Op.binOp Go.BinOp.add 22 (Go.Operand.tmp 34) (Go.Operand.tmp 40) 22, type := 22, pos := "score.go:94", after := #[{ on := 6, ground := Go.Ground.data }, { on := 12, ground := Go.Ground.data }], guard := none }) rfl (fun K hK => ?_) AllReadyH.nil
      go_simp
      have hS : Gw W7 wq2.drew := Gw.trans hK2 (Gw.drew _)
      refine hK.out _ _ hS (fun hK3 => ?_)
      clear hK K hS
      refine wpAnyH_take (i := 14) (oi := { dst := some 2, op := Go.Op.assign (Go.Operand.tmp 41), type := 22, pos := "score.go:94", after := #[{ on := 13, ground := Go.Ground.data }, { on := 12, ground := Go.Ground.chain }, { on := 0, ground := Go.Ground.phase }, { on := 1, ground := Go.Ground.phase }, { on := 2, ground := Go.Ground.phase }, { on := 3, ground := Go.Ground.phase }, { on := 4, ground := Go.Ground.phase }, { on := 5, ground := Go.Ground.phase }, { on := 6, ground := Go.Ground.phase }, { on := 7, ground := Go.Ground.phase }, { on := 8, ground := Go.Ground.phase }, { on := 9, ground := Go.Ground.phase }, { on := 10, ground := Go.Ground.phase }, { on := 11, ground := Go.Ground.phase }, { on := 12, ground := Go.Ground.phase }, { on := 13, ground := Go.Ground.phase }], guard := none }) (v := ?_) rfl (by kernel_rfl) (by kernel_rfl) (by kernel_rfl) (fun _ _ _ h => h) (Or.inl ⟨by rfl, ?_⟩) hK3 ?_
      rotate_left
      · (intro wz hSz; (try dsimp only at hSz); go_simp; try with_reducible rfl)
      simp only [Act.put, List.setIfInBounds_toArray, List.set_cons_zero, List.set_cons_succ]
      refine wpAnyH_done (by kernel_rfl) ?_ _
      go_wp2_with fail
      go_ret
      exact ⟨s, _, rfl, HQ.out.1, HQ.out.2, Md.mid HX.out nx HO.out HK.out HZ.out HY.out nz ny ⟨nbv_lt _ _ _, fun v' h' => (by rw [HNO.out] at h'; cases h'), fun _ => nbv_nan _ _ _⟩, HB.out.trans (hK3.below.mono HB.out.size)⟩
  · go_wp2_with (first | (go_at_call 34; refine (isnan_any _ _).mono ?_; rintro e w' ⟨rfl, rfl⟩) | (go_at_call 32; refine (nan_any _).mono ?_; rintro e w' ⟨rfl, rfl⟩))
    go_ret
    refine ⟨s, _, rfl, HQ.out.1, HQ.out.2, ⟨by decide, fun _ => nn, fun z hz _ => nn, fun z hz hzn => ?_, fun z hz hzn => ?_⟩, HB.out⟩
    all_goals
      have := HX.out.symm.trans hz
      injection this with this
      subst this
      rw [nx] at hzn; cases hzn
end Go.Proofs.Ytngboallknmepaa.Fp

namespace Go.Proofs.Ytngboallknmepaa.Fp
set_option linter.unusedVariables false
set_option linter.unusedSimpArgs false
open Go.RowKit Go.Sort Go.Shelf
open T
open I (alloc1 own_at own_below)


set_option maxHeartbeats 1000000 in
set_option maxRecDepth 100000 in
theorem few_any (A : Option Addr) (c : Nat) (l : List UInt64) (w : World) (hr : l.length ≤ c) (hz : A = none → c = 0) (hl : l.length ≤ 9223372036854775807) :
    Calls Try.prog 16 #[.slice A l.length c] w fun e w' => e = .returned (.slice A (l.take 60).length c) ∧ w' = w := by
  obtain ⟨k, hk⟩ : ∃ k, k = (l.take 60).length := ⟨_, rfl⟩
  have hkl : k = min l.length 60 := by rw [hk, List.length_take, Nat.min_comm]
  have hkn : k ≤ l.length := by omega
  have hm : min (l.length : Int) 60 = (k : Int) := by omega
  have htk := take_isF (A := A) hkn hr hz
  rw [← hk]
  clear hk hkl
  go_enter Try.func16, Try.ntmps16
  go_wp2_with fail
  go_ret
  exact ⟨rfl, rfl⟩
/-- A word that stands for a number that there may be, or for none. -/
structure Rp (o : Option Nat) (r : Nat) : Prop where
  lt : r < 2 ^ 64
  sm : ∀ v, o = some v → r = v
  nn : o = none → isN r = true
theorem Rp.ky {o : Option Nat} {r s : Nat} (h : Rp o r) (h' : Rp o s) : Fp.ky r = Fp.ky s := by
  cases o with
  | some v => rw [h.sm v rfl, h'.sm v rfl]
  | none => rw [ky_nan (h.nn rfl), ky_nan (h'.nn rfl)]
theorem add_nan {x y : Nat} (h : isN x = true ∨ isN y = true) : D.add x y = none := by
  unfold Ieee.Format.add
  rcases h with h | h
  · obtain ⟨f, e⟩ := read_nan (show INF < rg x by simpa [isN] using h)
    rw [e]; simp [Ieee.Datum.sum]
  · obtain ⟨f, e⟩ := read_nan (show INF < rg y by simpa [isN] using h)
    rw [e]; cases D.read x <;> simp [Ieee.Datum.sum]
/-- The sum of a row, if there is one. -/
def sumO : List UInt64 → Option Nat → Option Nat
  | [], o => o
  | x :: l, o => sumO l (o.bind fun s => D.add s x.toNat)
theorem sumO_snoc (l : List UInt64) (x : UInt64) (o : Option Nat) : sumO (l ++ [x]) o = (sumO l o).bind fun s => D.add s x.toNat := by
  induction l generalizing o with
  | nil => rfl
  | cons y l ih => exact ih _
theorem Rp.add {o : Option Nat} {s x r : Nat} (h : Rp o s) (h' : Ad s x r) : Rp (o.bind fun s => D.add s x) r := by
  cases o with
  | some v =>
    have := h.sm v rfl
    subst this
    exact ⟨h'.lt, h'.some, h'.none⟩
  | none =>
    exact ⟨h'.lt, fun v hv => (by cases hv), fun _ => h'.none (add_nan (.inl (h.nn rfl)))⟩
theorem Rp.zero : Rp (some 0) 0 := ⟨by decide, fun v h => (by injection h), fun h => (by cases h)⟩
def meanO (l : List UInt64) : Option Nat := if l = [] then none else (sumO l (some 0)).bind fun s => D.div s (fl l.length)
/-- A quotient that there may be. -/
theorem div_run {o : Option Nat} {s : Nat} (h : Rp o s) (y : Nat) (w : World) : ∃ r W, (binOp .quo 22 (.float .f64 s) (.float .f64 y)).run Try.prog w = .ok (.float .f64 r) W ∧ Rp (o.bind fun s => D.div s y) r ∧ Gw w W := by
  cases e : D.div s y with
  | some v =>
    refine ⟨v, w, run_quo s y v e w, ⟨Ieee.Format.div_lt D e, ?_, ?_⟩, Gw.refl _⟩
    · intro v' hv
      cases o with
      | some u =>
        have := h.sm u rfl
        subst this
        have h2 : D.div s y = some v' := hv
        rw [e] at h2; injection h2
      | none => cases hv
    · intro hn
      cases o with
      | some u =>
        have := h.sm u rfl
        subst this
        have h2 : D.div s y = none := hn
        rw [e] at h2; cases h2
      | none =>
        have := div_nan (x := s) (y := y) (.inl (h.nn rfl))
        rw [e] at this; cases this
  | none =>
    refine ⟨nbv s y w, w.drew, run_quo_nan s y e w, ⟨nbv_lt _ _ _, ?_, fun _ => nbv_nan _ _ _⟩, Gw.drew _⟩
    intro v' hv
    cases o with
    | some u =>
      have := h.sm u rfl
      subst this
      have h2 : D.div s y = some v' := hv
      rw [e] at h2; cases h2
    | none => cases hv
attribute [local irreducible] fl
set_option maxHeartbeats 2000000 in
set_option maxRecDepth 100000 in
theorem mean_any (A : Option Addr) (c : Nat) (l : List UInt64) (w : World) (hL : FlIn w A l) (hl : l.length ≤ 1000000) :
    Calls Try.prog 22 #[.slice A l.length c] w fun e w' => ∃ r, e = .returned (fV r) ∧ Rp (meanO l) r ∧ Gw w w' := by
  have HL := Lib.hid hL
  clear hL
  by_cases h0 : l.length = 0
  · have hb : ((l.length : Int) == 0) = true := by simp [h0]
    have H0 := Lib.hid h0
    clear h0
    go_enter Try.func22, Try.ntmps22
    go_wp2_with (go_at_call 32; refine (nan_any _).mono ?_; rintro e w' ⟨rfl, rfl⟩)
    go_ret
    have e : meanO l = none := by unfold meanO; rw [if_pos (List.length_eq_zero_iff.1 H0.out)]
    exact ⟨_, rfl, ⟨by decide, fun v hv => (by rw [e] at hv; cases hv), fun _ => nan_word⟩, Gw.refl _⟩
  · have hb : ((l.length : Int) == 0) = false := by simp [h0]
    have H0 := Lib.hid h0
    have i1 : floatOfInt .f64 (l.length : Int) = fl l.length := f_int (by omega)
    clear h0
    go_enter Try.func22, Try.ntmps22
    go_wp2_with fail
    go_loopg [3, 12] l.length (fun q sv iv wr => ∃ (k s : Nat), sv = fV s ∧ iv = .int .i64 k ∧ k ≤ l.length ∧ l.length - k ≤ q ∧ Hid (Rp (sumO (l.take k) (some 0)) s) ∧ Hid (Gw w wr))
    case atStart => exact ⟨0, 0, rfl, rfl, Nat.zero_le _, by omega, Lib.hid (by simpa [sumO] using Rp.zero), Lib.hid (Gw.refl _)⟩
    case round =>
      obtain ⟨k, s, rfl, rfl, hk, hm, HR, HW⟩ := hrel
      by_cases hlt : k < l.length
      · obtain ⟨bk, off, rfl, hbk, hF⟩ := HL.out (by omega)
        have hki : (k : Int) < (l.length : Int) := by omega
        have h0k : (0 : Int) ≤ (k : Int) := by omega
        have c1 := (hF.below HW.out.below hbk) k hlt
        obtain ⟨x, hx⟩ : ∃ x : UInt64, x = l[k] := ⟨_, rfl⟩
        rw [← hx] at c1
        have HX := Lib.hid hx
        obtain ⟨r, W, hq, hA, hG⟩ := add_run s x.toNat wr
        have HA := Lib.hid hA
        have HG := Lib.hid hG
        clear hx hA hG hF
        go_wp2_with fail
        go_roundg (l.length - (k + 1))
        case rel => exact ⟨k + 1, r, rfl, by go_num, by omega, Nat.le_refl _, Lib.hid (by rw [List.take_succ_eq_append_getElem hlt, ← HX.out, sumO_snoc]; exact HR.out.add HA.out), Lib.hid (HW.out.trans HG.out)⟩
        case measure => omega
      · have hke : k = l.length := by omega
        have hR := HR.out
        rw [hke, List.take_length] at hR
        obtain ⟨r, W, hq, hA, hG⟩ := div_run hR (fl l.length) wr
        have HA := Lib.hid hA
        have HG := Lib.hid hG
        clear hA hG hR hke
        go_wp2_with fail
        go_ret
        refine ⟨r, rfl, ?_, HW.out.trans HG.out⟩
        unfold meanO
        rw [if_neg (by intro h; have := H0.out; rw [h] at this; exact this rfl)]
        exact HA.out
set_option maxHeartbeats 2000000 in
set_option maxRecDepth 100000 in
theorem rmean_any (A : Option Addr) (c : Nat) (l : List UInt64) (w : World) (hL : FlIn w A l) (hl : l.length ≤ 1000000) :
    Calls Try.prog 23 #[.slice A l.length c] w fun e w' => ∃ r, e = .returned (fV r) ∧ Rp (meanO l) r ∧ Gw w w' := by
  have HL := Lib.hid hL
  clear hL
  have i1 : floatOfInt .f64 (l.length : Int) = fl l.length := f_int (by omega)
  go_enter Try.func23, Try.ntmps23
  go_wp2_with fail
  go_loopg [3, 4] l.length (fun q sv iv wr => ∃ (k s : Nat), sv = fV s ∧ iv = .int .i64 k ∧ k ≤ l.length ∧ l.length - k ≤ q ∧ Hid (Rp (sumO (l.take k) (some 0)) s) ∧ Hid (Gw w wr))
  case atStart => exact ⟨0, 0, rfl, rfl, Nat.zero_le _, by omega, Lib.hid (by simpa [sumO] using Rp.zero), Lib.hid (Gw.refl _)⟩
  case round =>
    obtain ⟨k, s, rfl, rfl, hk, hm, HR, HW⟩ := hrel
    by_cases hlt : k < l.length
    · obtain ⟨bk, off, rfl, hbk, hF⟩ := HL.out (by omega)
      have hki : (k : Int) < (l.length : Int) := by omega
      have h0k : (0 : Int) ≤ (k : Int) := by omega
      have c1 := (hF.below HW.out.below hbk) k hlt
      obtain ⟨x, hx⟩ : ∃ x : UInt64, x = l[k] := ⟨_, rfl⟩
      rw [← hx] at c1
      have HX := Lib.hid hx
      obtain ⟨r, W, hq, hA, hG⟩ := add_run s x.toNat wr
      have HA := Lib.hid hA
      have HG := Lib.hid hG
      clear hx hA hG hF
      go_wp2_with fail
      go_roundg (l.length - (k + 1))
      case rel => exact ⟨k + 1, r, rfl, by go_num, by omega, Nat.le_refl _, Lib.hid (by rw [List.take_succ_eq_append_getElem hlt, ← HX.out, sumO_snoc]; exact HR.out.add HA.out), Lib.hid (HW.out.trans HG.out)⟩
      case measure => omega
    · have hke : k = l.length := by omega
      have hR := HR.out
      rw [hke, List.take_length] at hR
      obtain ⟨r, W, hq, hA, hG⟩ := div_run hR (fl l.length) wr
      have HA := Lib.hid hA
      have HG := Lib.hid hG
      clear hA hG hR hke
      go_wp2_with fail
      go_ret
      refine ⟨r, rfl, ?_, HW.out.trans HG.out⟩
      unfold meanO
      by_cases h0 : l = []
      · subst h0
        have := HA.out
        have e : ((sumO [] (some 0)).bind fun s => D.div s (fl ([] : List UInt64).length)) = none := by
          show D.div 0 (fl 0) = none
          rw [show fl 0 = 0 by unfold fl RV; rw [Nat.zero_mul, if_pos rfl]]
          exact div_zero_zero
        rw [e] at this
        rw [if_pos rfl]
        exact this
      · rw [if_neg h0]
        exact HA.out
/-- Two medians of one row. -/
theorem Md.ky {l s t : List UInt64} {r q : Nat} (hp : s.Perm l) (hp' : t.Perm l) (hs : s.Pairwise (fun a b => Fp.ky a.toNat ≤ Fp.ky b.toNat)) (ht : t.Pairwise (fun a b => Fp.ky a.toNat ≤ Fp.ky b.toNat)) (h : Md s r) (h' : Md t q) : Fp.ky r = Fp.ky q := by
  have hk := sorted_uniq (hp.trans hp'.symm) hs ht
  have hlen : s.length = t.length := (hp.trans hp'.symm).length_eq
  cases e : s.getLast? with
  | none =>
    have h1 : s = [] := List.getLast?_eq_none_iff.1 e
    have h2 : t = [] := List.length_eq_zero_iff.1 (by rw [← hlen, h1]; rfl)
    rw [ky_nan (h.none h1), ky_nan (h'.none h2)]
  | some x =>
    have e2 : ∃ y, t.getLast? = some y := by
      cases e3 : t.getLast? with
      | none =>
        have h2 : t = [] := List.getLast?_eq_none_iff.1 e3
        have h1 : s = [] := List.length_eq_zero_iff.1 (by rw [hlen, h2]; rfl)
        rw [h1] at e; cases e
      | some y => exact ⟨y, rfl⟩
    obtain ⟨y, e2⟩ := e2
    have hxy : Fp.ky x.toNat = Fp.ky y.toNat := by
      have h1 := congrArg List.getLast? hk
      rw [List.getLast?_map, List.getLast?_map, e, e2] at h1
      simpa using h1
    cases nx : isN x.toNat
    · have ny : isN y.toNat = false := by
        cases n : isN y.toNat
        · rfl
        · have := ky_nan n; have := ky_num nx; omega
      have hall := pair_last hs e nx
      have hst : s = t := by
        refine List.ext_getElem hlen (fun i h1 h2 => ?_)
        have h3 : (s.map fun x => Fp.ky x.toNat)[i]'(by simpa using h1) = (t.map fun x => Fp.ky x.toNat)[i]'(by simpa using h2) := by simp only [hk]
        rw [List.getElem_map, List.getElem_map] at h3
        exact ky_u h3 (hall _ (List.getElem_mem h1))
      subst hst
      by_cases ho : s.length % 2 = 1
      · obtain ⟨a, ha, rfl⟩ := h.odd x e nx ho
        obtain ⟨b, hb, rfl⟩ := h'.odd x e nx ho
        rw [ha] at hb
        injection hb with hb
        rw [hb]
      · obtain ⟨a, b, ha, hb, na, nb, hA⟩ := h.even x e nx (by omega)
        obtain ⟨a', b', ha', hb', na', nb', hA'⟩ := h'.even x e nx (by omega)
        rw [ha] at ha'
        rw [hb] at hb'
        injection ha' with ha'
        injection hb' with hb'
        subst ha'
        subst hb'
        cases ea : D.add (hf a.toNat) (hf b.toNat) with
        | some v => rw [hA.some v ea, hA'.some v ea]
        | none => rw [ky_nan (hA.none ea), ky_nan (hA'.none ea)]
    · have ny : isN y.toNat = true := by
        cases n : isN y.toNat
        · have := ky_nan nx; have := ky_num n; omega
        · rfl
      rw [ky_nan (h.nan x e nx), ky_nan (h'.nan y e2 ny)]
end Go.Proofs.Ytngboallknmepaa.Fp

namespace Go.Proofs.Ytngboallknmepaa.Fp
set_option linter.unusedVariables false
set_option linter.unusedSimpArgs false
open Go.RowKit Go.Sort Go.Shelf
open T
open I (alloc1 own_at own_below)


/-- What a median comes to. -/
def MdEnd (w : World) (l : List UInt64) (e : Ending) (w' : World) : Prop := ∃ s r, e = .returned (fV r) ∧ s.Perm l ∧ s.Pairwise (fun a b => ky a.toNat ≤ ky b.toNat) ∧ Md s r ∧ Below w.heap.size w w'
theorem Md.nil {r : Nat} (h : r < 2 ^ 64) (n : isN r = true) : Md [] r := ⟨h, fun _ => n, fun x hx => (by simp at hx), fun x hx => (by simp at hx), fun x hx => (by simp at hx)⟩
set_option maxHeartbeats 2000000 in
set_option maxRecDepth 100000 in
theorem median_any (A : Option Addr) (c : Nat) (l : List UInt64) (w : World) (hS : Stable l.length) (hL : FlIn w A l) (hz : A = none → c = 0) (hl : l.length ≤ 1000000) :
    Calls Try.prog 24 #[.slice A l.length c] w (MdEnd w l) := by
  by_cases h0 : l.length = 0
  · have HC := Lib.hid (sort_any A c l w hS hL hz hl)
    have hl0 : l = [] := List.length_eq_zero_iff.1 h0
    clear hL hS hz
    subst hl0
    clear h0
    go_enter Try.func24, Try.ntmps24
    go_upto_region 3 with (go_at_call 17; refine HC.out.mono ?_; rintro e w1 ⟨B, cap, s, rfl, q1, q2, q3, q4⟩)
    obtain rfl : s = [] := List.length_eq_zero_iff.1 (by rw [q1.length_eq]; rfl)
    have HB := Lib.hid q4
    clear q1 q2 q3 q4 HC
    go_wp2_with (go_at_call 32; refine (nan_any _).mono ?_; rintro e w' ⟨rfl, rfl⟩)
    go_ret
    exact ⟨[], _, rfl, List.Perm.refl _, List.Pairwise.nil, Md.nil (by decide) nan_word, HB.out⟩
  · by_cases ho : l.length % 2 = 1
    · exact median_odd A c l w ho hS hL hz hl
    · exact median_even A c l w ho h0 hS hL hz hl
/-- A row in order that there is. -/
theorem some_order (l : List UInt64) : ∃ s : List UInt64, s.Perm l ∧ s.Pairwise (fun a b => ky a.toNat ≤ ky b.toNat) := by
  refine ⟨l.mergeSort (fun a b => decide (ky a.toNat ≤ ky b.toNat)), List.mergeSort_perm _ _, ?_⟩
  have := List.pairwise_mergeSort (le := fun a b : UInt64 => decide (ky a.toNat ≤ ky b.toNat)) (by intro a b c h1 h2; simp at *; omega) (by intro a b; simp; omega) l
  exact this.imp (fun h => by simpa using h)
theorem md_bad {s : List UInt64} {r : Nat} {y : UInt64} (hs : s.Pairwise (fun a b => ky a.toNat ≤ ky b.toNat)) (hy : y ∈ s) (ny : isN y.toNat = true) (h : r < 2 ^ 64) (n : isN r = true) : Md s r := by
  refine ⟨h, fun _ => n, fun _ _ _ => n, fun x hx hn => ?_, fun x hx hn => ?_⟩
  all_goals
    have := pair_last hs hx hn y hy
    rw [ny] at this
    cases this
set_option maxHeartbeats 4000000 in
set_option maxRecDepth 100000 in
theorem rmedian_any (A : Option Addr) (c : Nat) (l : List UInt64) (w : World) (hL : FlIn w A l) (hl : l.length ≤ 100000) :
    Calls Try.prog 25 #[.slice A l.length c] w (MdEnd w l) := by
  have HL := Lib.hid hL
  clear hL
  go_enter Try.func25, Try.ntmps25
  go_wp2_with fail
  go_loopg [3] l.length (fun q iv wr => ∃ k : Nat, iv = .int .i64 k ∧ k ≤ l.length ∧ l.length - k ≤ q ∧ Hid (∀ j (h : j < l.length), j < k → isN (l[j]).toNat = false) ∧ Hid (Below w.heap.size w wr))
  case atStart => exact ⟨0, rfl, Nat.zero_le _, by omega, Lib.hid (fun _ _ h => absurd h (Nat.not_lt_zero _)), Lib.hid (Below.refl _ _)⟩
  case round =>
    obtain ⟨k, rfl, hk, hm, HN, HB⟩ := hrel
    by_cases hlt : k < l.length
    · obtain ⟨bk, off, rfl, hbk, hF⟩ := HL.out (by omega)
      have hki : (k : Int) < (l.length : Int) := by omega
      have h0k : (0 : Int) ≤ (k : Int) := by omega
      have c1 := (hF.below HB.out hbk) k hlt
      obtain ⟨x, hx⟩ : ∃ x : UInt64, x = l[k] := ⟨_, rfl⟩
      rw [← hx] at c1
      have HX := Lib.hid hx
      clear hx hF
      cases nx : isN x.toNat
      · go_wp2_with fail
        go_quiet (fail)
        go_wp2_with fail
        go_roundg (l.length - (k + 1))
        case rel => exact ⟨k + 1, by go_num, by omega, Nat.le_refl _, Lib.hid (fun j h hj => by
          by_cases e : j = k
          · subst e
            rw [← HX.out]; exact nx
          · exact HN.out j h (by omega)), Lib.hid (HB.out.trans ((V.drawn_below _ nq).mono HB.out.size))⟩
        case measure => omega
      · go_wp2_with fail
        go_quiet (fail)
        go_wp2_with (go_at_call 33; refine (none_any _).mono ?_; rintro e wn ⟨r, rfl, HNN, HNL, HNW⟩)
        go_ret
        obtain ⟨s, hp, hs⟩ := some_order l
        have hb := HB.out.trans ((V.drawn_below wr nq).mono HB.out.size)
        exact ⟨s, r, rfl, hp, hs, md_bad hs (hp.mem_iff.2 (by rw [HX.out]; exact List.getElem_mem hlt)) nx HNL HNN, hb.trans (HNW.below.mono hb.size)⟩
    · have HA : Hid (∀ y ∈ l, isN y.toNat = false) := Lib.hid (fun y hy => by
        obtain ⟨j, hj, rfl⟩ := List.mem_iff_getElem.1 hy
        exact HN.out j hj (by omega))
      by_cases h0 : l.length = 0
      · have hb0 : ((l.length : Int) == 0) = true := by simp [h0]
        have H0 := Lib.hid h0
        clear h0
        go_wp2_with (go_at_call 33; refine (none_any _).mono ?_; rintro e wn ⟨r, rfl, HNN, HNL, HNW⟩)
        go_ret
        have e := List.length_eq_zero_iff.1 H0.out
        subst e
        exact ⟨[], r, rfl, List.Perm.refl _, List.Pairwise.nil, Md.nil HNL HNN, HB.out.trans (HNW.below.mono HB.out.size)⟩
      · have hb0 : ((l.length : Int) == 0) = false := by simp [h0]
        have HC := Lib.hid (rsort_any A c l wr (fun hp => by
          obtain ⟨bk, off, e, hbk, hF⟩ := HL.out hp
          exact ⟨bk, off, e, Nat.lt_of_lt_of_le hbk HB.out.size, hF.below HB.out hbk⟩) hl)
        go_upto_region 9 with (go_at_call 19; refine HC.out.mono ?_; rintro e w1 ⟨B, cap, s, rfl, q1, q2, q3, q4⟩)
        have HQ := Lib.hid (And.intro q1 q2)
        have HB2 := Lib.hid (HB.out.trans (q4.mono HB.out.size))
        have hsl : s.length = l.length := q1.length_eq
        have hs0 : ¬ s.length = 0 := by rw [hsl]; exact h0
        have hss : s.length ≤ 100000 := by rw [hsl]; exact hl
        obtain ⟨bk, off, rfl, hbk, hF⟩ := q3 (by omega)
        have HAS : Hid (∀ y ∈ s, isN y.toNat = false) := Lib.hid (fun y hy => HA.out y (q1.mem_iff.1 hy))
        clear q1 q2 q3 q4 HC hsl h0
        obtain ⟨x, hx⟩ : ∃ x, s.getLast? = some x := by
          cases e : s.getLast? with
          | none => exact absurd (List.length_eq_zero_iff.2 (List.getLast?_eq_none_iff.1 e)) hs0
          | some x => exact ⟨x, rfl⟩
        have nx : isN x.toNat = false := HAS.out x (List.mem_of_getLast? hx)
        have HX := Lib.hid hx
        clear hx
        by_cases ho : s.length % 2 = 1
        · obtain ⟨j, hj⟩ : ∃ j, j = s.length / 2 := ⟨_, rfl⟩
          have em : (s.length : Int).tmod 2 = 1 := by rw [Int.tmod_eq_emod_of_nonneg (by omega)]; omega
          have em' : (s.length : Int) % 2 = 1 := by omega
          have ek : ((s.length : Int) - 1).tdiv 2 = (j : Int) := by rw [Int.tdiv_eq_ediv_of_nonneg (by omega)]; omega
          have ek' : ((s.length : Int) - 1) / 2 = (j : Int) := by omega
          have k0 : (0 : Int) ≤ (j : Int) := by omega
          have k1 : (j : Int) < (s.length : Int) := by omega
          have c2 := hF j (by omega)
          obtain ⟨y, hy⟩ : ∃ y : UInt64, y = s[j]'(by omega) := ⟨_, rfl⟩
          rw [← hy] at c2
          have HY : Hid (s[j]? = some y) := Lib.hid (by rw [hy, List.getElem?_eq_getElem])
          have HJ := Lib.hid hj
          have HO := Lib.hid ho
          clear hy hj ho hF
          go_wp2_with fail
          go_ret
          refine ⟨s, _, rfl, HQ.out.1, HQ.out.2, ⟨u_lt y, fun h => ?_, fun q hq hn => ?_, fun q hq hn _ => ⟨y, by rw [← HJ.out]; exact HY.out, rfl⟩, fun q hq hn he => ?_⟩, HB2.out⟩
          · subst h; exact absurd rfl hs0
          · have := HX.out.symm.trans hq
            injection this with this
            subst this
            rw [nx] at hn; cases hn
          · have := HO.out; omega
        · obtain ⟨j, hk2⟩ : ∃ j, j + 1 = s.length / 2 := ⟨s.length / 2 - 1, by omega⟩
          have em : (s.length : Int).tmod 2 = 0 := by rw [Int.tmod_eq_emod_of_nonneg (by omega)]; omega
          have em' : (s.length : Int) % 2 = 0 := by omega
          have ek : (s.length : Int).tdiv 2 = (j : Int) + 1 := by rw [Int.tdiv_eq_ediv_of_nonneg (by omega)]; omega
          have ek' : (s.length : Int) / 2 = (j : Int) + 1 := by omega
          have k1 : (j : Int) + 1 < (s.length : Int) := by omega
          have k2 : (j : Int) < (s.length : Int) := by omega
          have j0 : (0 : Int) ≤ (j : Int) := by omega
          have j1 : (0 : Int) ≤ (j : Int) + 1 := by omega
          have j2 : ((j : Int) + 1).toNat = j + 1 := by omega
          have c2 := hF (j + 1) (by omega)
          have c3 := hF j (by omega)
          obtain ⟨y, hy⟩ : ∃ y : UInt64, y = s[j + 1]'(by omega) := ⟨_, rfl⟩
          obtain ⟨z, hz⟩ : ∃ z : UInt64, z = s[j]'(by omega) := ⟨_, rfl⟩
          rw [← hy] at c2
          rw [← hz] at c3
          have HY : Hid (s[j + 1]? = some y) := Lib.hid (by rw [hy, List.getElem?_eq_getElem])
          have HZ : Hid (s[j]? = some z) := Lib.hid (by rw [hz, List.getElem?_eq_getElem])
          clear hy hz hF
          have ny : isN y.toNat = false := HAS.out y (List.mem_of_getElem? HY.out)
          have nz : isN z.toNat = false := HAS.out z (List.mem_of_getElem? HZ.out)
          have HO := Lib.hid ho
          have HK := Lib.hid hk2
          clear ho hk2
          have qz := run_quo z.toNat 4611686018427387904 _ (div_two nz)
          have qy := run_quo y.toNat 4611686018427387904 _ (div_two ny)
          obtain ⟨r, W, hq, hA, hG⟩ := add_run (hf z.toNat) (hf y.toNat) w1
          have HAD := Lib.hid hA
          have HG := Lib.hid hG
          clear hA hG
          go_wp2_with fail
          go_ret
          exact ⟨s, r, rfl, HQ.out.1, HQ.out.2, Md.mid HX.out nx HO.out HK.out HZ.out HY.out nz ny HAD.out, HB2.out.trans (HG.out.below.mono HB2.out.size)⟩
end Go.Proofs.Ytngboallknmepaa.Fp

namespace Go.Proofs.Ytngboallknmepaa.RF
set_option linter.unusedVariables false
set_option linter.unusedSimpArgs false
open Go.ChangeShapes Go.WideShapes Go.ChangeAt Go.RowKit Go.Deep
open Fp (FlIn FlAt encF)

theorem trod_fl {H : Type} {enc : TypeId × Value → H} {P : Program} {w : World} {base : Nat} {sp : Nat → Bool} {held : Bool} {fuel : Nat} {t : TypeId} {v : Value} {x : DataW H × List MemPlace} (ht : P.underlying t = some (.float .f64)) (h : DataW.trod enc P w base sp held fuel t [v] = some x) :
    ∃ b, v = .float .f64 b ∧ (Lit.float .f64 b).wf = true := by
  cases fuel with
  | zero => simp [DataW.trod] at h
  | succ n =>
    unfold DataW.trod at h
    rw [ht] at h
    split at h <;> simp_all
theorem cFl : Try.prog.cellsOf 22 = 1 := by kernel_rfl
set_option maxRecDepth 100000 in
theorem floats_arg {H : Type} {enc : TypeId × Value → H} {W : World} {r : Reach} {b0 base : Nat} {sp : Nat → Bool} {held : Bool} {v : Value} {d : DataW H} {p : List MemPlace}
    (hv : Value.okWide Try.prog W r b0 29 v) (h : DataW.Trod enc Try.prog W base sp held 29 v d p) :
    ∃ (A : Option Addr) (cap : Nat) (l : List UInt64), v = .slice A l.length cap ∧ FlIn W A l ∧ l.length ≤ cap ∧ (A = none → cap = 0) ∧ cap ≤ maxLen := by
  obtain ⟨a0, len, cap, rfl⟩ := okWide_slice Try.underlying29 hv
  obtain ⟨fuel, hf⟩ := h
  rcases open_slice1 Try.underlying29 cFl hf with ⟨hcs, hx⟩ | ⟨a, len', cap', m, n, V, D, Pl, hcs, _, hl, hm, hmm, hx, hcell⟩
  · simp only [Value.cells, List.cons.injEq, Value.slice.injEq, and_true] at hcs
    obtain ⟨rfl, rfl, rfl⟩ := hcs
    exact ⟨none, 0, [], rfl, fun h => absurd h (by simp), Nat.le_refl _, fun _ => rfl, Nat.zero_le _⟩
  · simp only [Value.cells, List.cons.injEq, Value.slice.injEq, and_true] at hcs
    obtain ⟨rfl, rfl, rfl⟩ := hcs
    have hlm : len ≤ m := by rw [hmm]; split <;> omega
    have hV : ∀ i, i < len → ∃ u : UInt64, V i = encF u := fun i hi => by
      obtain ⟨b, e, hw⟩ := trod_fl Try.underlying22 (hcell i (by omega)).2
      exact ⟨UInt64.ofNat b, by rw [e]; unfold encF Fp.fV; rw [UInt64.toNat_ofNat_of_lt' (f_lt hw)]⟩
    obtain ⟨U, hU⟩ := choose_lt (α := UInt64) (p := fun i u => V i = encF u) hV
    refine ⟨some a, cap, (List.range len).map U, by simp, fun hp => ?_, by simpa using hl, fun h => (by cases h), hm⟩
    have hp' : 0 < len := by simpa using hp
    obtain ⟨b, off, spot⟩ := a
    have hspot : spot = none := by simpa [Addr.add] using World.cell?_spot (hcell 0 (by omega)).1
    subst hspot
    have h0 := (hcell 0 (by omega)).1
    refine ⟨b, off, rfl, World.block_lt_of_cell? W _ h0, fun j hj => ?_⟩
    have hj' : j < len := by simpa using hj
    have hc := (hcell j (by omega)).1
    rw [Go.WideShapes.add_plain, hU j hj'] at hc
    rw [hc]
    simp
end Go.Proofs.Ytngboallknmepaa.RF

namespace Go.Proofs.Ytngboallknmepaa.Fp
set_option linter.unusedVariables false
set_option linter.unusedSimpArgs false
open Ieee
attribute [local irreducible] fl LP

theorem add_zero {a : Nat} (ha : a < 2 ^ 64) (h : rg a < INF) (h0 : rg a ≠ 0) : D.add 0 a = some a := by
  have hz : rg 0 < INF := by decide
  obtain ⟨m, i, ea, ua, -⟩ := read_fin hz
  obtain ⟨n, j, eb, ub, -⟩ := read_fin h
  have e0 : U (rg 0) = 0 := by decide
  have hm : m = 0 := by
    rw [e0] at ua
    rcases Nat.eq_zero_or_pos m with q | q
    · exact q
    · have := Nat.mul_pos q (Nat.two_pow_pos i); omega
  subst hm
  have hU : 0 < U (rg a) := by
    have := U_lt (a := 0) (b := rg a) (by omega)
    rwa [U_zero] at this
  unfold Format.add
  rw [ea, eb]
  simp only [Datum.sum, signed_eq, Option.map_some]
  generalize hba : min ((i : Int) - 1074) ((j : Int) - 1074) = base
  obtain ⟨z, hz⟩ : ∃ z : Nat, base = (z : Int) - 1074 := ⟨min i j, by omega⟩
  have zj : z ≤ j := by omega
  have e2 : ((j : Int) - 1074 - base).toNat = j - z := by omega
  rw [e2, Nat.zero_mul]
  have eu : n * 2 ^ (j - z) * 2 ^ z = U (rg a) := by
    rw [Nat.mul_assoc, ← Nat.pow_add, show j - z + z = j by omega, ub]
  have ht : 0 < n * 2 ^ (j - z) := by
    rcases Nat.eq_zero_or_pos (n * 2 ^ (j - z)) with q | q
    · rw [q, Nat.zero_mul] at eu; omega
    · exact q
  have es0 : sg (ng 0) 0 = 0 := by decide
  rw [es0, Int.zero_add]
  generalize n * 2 ^ (j - z) = t at eu ht
  have es : (if sg (ng a) t = 0 then ng 0 && ng a else decide (sg (ng a) t < 0)) = ng a := by
    unfold sg
    cases ng a
    · rw [if_neg (by simp; omega)]
      simp
    · rw [if_neg (by simp; omega)]
      simp; omega
  have en : (sg (ng a) t).natAbs = t := by unfold sg; cases ng a <;> simp
  rw [es, en]
  congr 1
  show D.nearest (ng a) t base = _
  rw [nearest_eq (ng a) t z 0 base (by omega), D_word, D_inf, eu, RV_U, Nat.min_eq_left (by omega), wd_eta ha]
/-- The rung of twice a number. -/
def r2 (r : Nat) : Nat := if r < 2 ^ 52 then 2 * r else r + 2 ^ 52
theorem U_r2 (r : Nat) : U r + U r = U (r2 r) := by
  unfold r2
  by_cases h : r < 2 ^ 52
  · rw [if_pos h, U_small (by omega), U_small (by omega)]; omega
  · rw [if_neg h]
    unfold U
    rw [if_neg h, if_neg (by omega)]
    have e1 : (r + 2 ^ 52) % 2 ^ 52 = r % 2 ^ 52 := by omega
    have e2 : (r + 2 ^ 52) / 2 ^ 52 - 1 = (r / 2 ^ 52 - 1) + 1 := by omega
    rw [e1, e2]
    have e3 : (2 : Nat) ^ (r / 2 ^ 52 - 1 + 1) = 2 * 2 ^ (r / 2 ^ 52 - 1) := by generalize r / 2 ^ 52 - 1 = t; rw [Nat.pow_succ]; omega
    rw [e3, Nat.mul_left_comm, Nat.two_mul]
theorem hN_r2 {r : Nat} (h : r2 r < INF) : hN (r2 r) = r := by
  have e : U (r2 r) = U r * 2 ^ 1 := by rw [← U_r2]; omega
  unfold hN
  rw [if_neg (by omega), e, RV_Ud]
theorem mean_two {a : UInt64} (na : isN a.toNat = false) (h1 : vl a.toNat ≤ 9094988921128908188) (h2 : -9094988921128908188 ≤ vl a.toNat) : ∃ x, meanO [a, a] = some x ∧ isN x = false ∧ vl x = vl a.toNat := by
  have hr : rg a.toNat ≤ 9094988921128908188 := by
    unfold vl sg at h1 h2
    generalize ng a.toNat = s at h1 h2
    cases s <;> simp at h1 h2 <;> omega
  have hi : rg a.toNat < INF := by unfold INF; omega
  have ha := a.toNat_lt
  have hm : meanO [a, a] = (((some 0).bind fun s => D.add s a.toNat).bind fun s => D.add s a.toNat).bind fun s => D.div s (fl 2) := by
    unfold meanO
    rw [if_neg (by simp)]
    rfl
  rw [hm, fl2]
  by_cases h0 : rg a.toNat = 0
  · have va : vl a.toNat = 0 := by unfold vl sg; rw [h0]; cases ng a.toNat <;> rfl
    rcases zero_of ha va with e | e
    · rw [e]
      exact ⟨0, by decide, by decide, by decide⟩
    · rw [e]
      exact ⟨0, by decide, by decide, by decide⟩
  · have e1 := add_zero ha hi h0
    have e2 := add_same (s := ng a.toNat) hi hi rfl rfl
    rw [U_r2, RV_U] at e2
    have hr2 : r2 (rg a.toNat) < INF := by unfold r2 INF; split <;> omega
    rw [Nat.min_eq_left (by omega)] at e2
    have hlt : r2 (rg a.toNat) < 2 ^ 63 := Nat.lt_trans hr2 INF_lt
    have nw : isN (wd (ng a.toNat) (r2 (rg a.toNat))) = false := by rw [isN_wd hlt]; simp; omega
    have e3 := div_two nw
    have e4 : hf (wd (ng a.toNat) (r2 (rg a.toNat))) = a.toNat := by
      unfold hf
      rw [ng_wd hlt, rg_wd hlt, hN_r2 hr2, wd_eta ha]
    rw [e4] at e3
    refine ⟨a.toNat, ?_, na, rfl⟩
    show ((D.add 0 a.toNat).bind fun s => D.add s a.toNat).bind (fun s => D.div s 4611686018427387904) = _
    rw [e1]
    show (D.add a.toNat a.toNat).bind (fun s => D.div s 4611686018427387904) = _
    rw [e2]
    exact e3
end Go.Proofs.Ytngboallknmepaa.Fp
