/-
  The float in the middle of a row, the place of the greatest one, a number between bounds, the reference's thousandths.
  What must be whatever is asked (layer 22).
  An argument that is a float, opened: how great its word is.
  A thousand times a float, and how many thousandths that are, in plain words.
  The reference's thousandths.
-/
import Derived.Test.YtngboallknmepaaGxac
import Derived.Test.YtngboallknmepaaGxaa
import Derived.Laws.Cover2
namespace Go.Proofs.Ytngboallknmepaa.Fp
set_option linter.unusedVariables false
set_option linter.unusedSimpArgs false
open Go.RowKit Go.Sort Go.Shelf
open T
open I (alloc1 own_at own_below)


set_option maxHeartbeats 2000000 in
set_option maxRecDepth 100000 in
theorem median_odd (A : Option Addr) (c : Nat) (l : List UInt64) (w : World) (hodd : l.length % 2 = 1) (hS : Stable l.length) (hL : FlIn w A l) (hz : A = none → c = 0) (hl : l.length ≤ 1000000) :
    Calls Try.prog 24 #[.slice A l.length c] w fun e w' => ∃ s r, e = .returned (fV r) ∧ s.Perm l ∧ s.Pairwise (fun a b => ky a.toNat ≤ ky b.toNat) ∧ Md s r ∧ Below w.heap.size w w' := by
  have HC := Lib.hid (sort_any A c l w hS hL hz hl)
  clear hL hS hz
  have nn := nan_word
  go_enter Try.func24, Try.ntmps24
  go_upto_region 3 with (go_at_call 17; refine HC.out.mono ?_; rintro e w1 ⟨B, cap, s, rfl, q1, q2, q3, q4⟩)
  have HL := Lib.hid q1.length_eq
  have hls : s.length ≤ 1000000 := by rw [q1.length_eq]; exact hl
  have HQ := Lib.hid (And.intro q1 q2)
  have HB := Lib.hid q4
  have HI := Lib.hid q3
  clear q1 q2 q3 q4 HC hl
  by_cases h0 : s.length = 0
  · have hb0 : ((s.length : Int) == 0) = true := by simp [h0]
    have HS := Lib.hid h0
    clear h0
    go_wp2_with (go_at_call 32; refine (nan_any _).mono ?_; rintro e w' ⟨rfl, rfl⟩)
    go_ret
    have hs : s = [] := List.length_eq_zero_iff.1 HS.out
    refine ⟨s, _, rfl, HQ.out.1, HQ.out.2, ⟨by decide, fun _ => nn, fun x hx => ?_, fun x hx => ?_, fun x hx => ?_⟩, HB.out⟩
    all_goals (rw [hs] at hx; simp at hx)
  · have hb0 : ((s.length : Int) == 0) = false := by simp [h0]
    obtain ⟨bk, off, rfl, hbk, hF⟩ := HI.out (by omega)
    obtain ⟨n, hn⟩ : ∃ n, n + 1 = s.length := ⟨s.length - 1, by omega⟩
    have c1 := hF n (by omega)
    obtain ⟨x, hx⟩ : ∃ x : UInt64, x = s[n]'(by omega) := ⟨_, rfl⟩
    rw [← hx] at c1
    have HX : Hid (s.getLast? = some x) := Lib.hid (by
      rw [List.getLast?_eq_getElem?, hx, List.getElem?_eq_getElem (by omega)]
      congr 1
      congr 1
      omega)
    obtain ⟨u, hu⟩ : ∃ u, u = x.toNat := ⟨_, rfl⟩
    have p0 : (0 : Int) ≤ (s.length : Int) - 1 := by omega
    have p1 : (s.length : Int) - 1 < (s.length : Int) := by omega
    have p2 : ((s.length : Int) - 1).toNat = n := by omega
    have HF := Lib.hid hF
    have HN := Lib.hid hn
    clear hF hx h0 hn
    obtain ⟨k, hk⟩ : ∃ k, k = s.length / 2 := ⟨_, rfl⟩
    have ek : (s.length : Int).tdiv 2 = (k : Int) := by rw [Int.tdiv_eq_ediv_of_nonneg (by omega)]; omega
    have ek' : (s.length : Int) / 2 = (k : Int) := by omega
    have k1 : (k : Int) < (s.length : Int) := by have := HN.out; omega
    have c2 := HF.out k (by omega)
    obtain ⟨y, hy⟩ : ∃ y : UInt64, y = s[k]'(by omega) := ⟨_, rfl⟩
    rw [← hy] at c2
    have HY : Hid (s[k]? = some y) := Lib.hid (by rw [hy, List.getElem?_eq_getElem])
    clear hy
    cases nx : isN x.toNat
    · by_cases ho : s.length % 2 = 1
      · have em : (s.length : Int).tmod 2 = 1 := by rw [Int.tmod_eq_emod_of_nonneg (by omega)]; omega
        have em' : (s.length : Int) % 2 = 1 := by omega
        have HO := Lib.hid ho
        have HK := Lib.hid hk
        clear ho hk
        go_wp2_with (go_at_call 34; refine (isnan_any _ _).mono ?_; rintro e w' ⟨rfl, rfl⟩)
        go_ret
        refine ⟨s, _, rfl, HQ.out.1, HQ.out.2, ⟨u_lt y, fun h => ?_, fun z hz hzn => ?_, fun z hz hzn _ => ?_, fun z hz hzn he => ?_⟩, HB.out⟩
        · subst h; simp at HX; cases HX.out
        · have := HX.out.symm.trans hz
          injection this with this
          subst this
          rw [nx] at hzn; cases hzn
        · exact ⟨y, by rw [← HK.out]; exact HY.out, rfl⟩
        · have := HO.out; omega
      · exact absurd (HL.out ▸ hodd) ho
    · go_wp2_with (first | (go_at_call 34; refine (isnan_any _ _).mono ?_; rintro e w' ⟨rfl, rfl⟩) | (go_at_call 32; refine (nan_any _).mono ?_; rintro e w' ⟨rfl, rfl⟩))
      go_ret
      refine ⟨s, _, rfl, HQ.out.1, HQ.out.2, ⟨by decide, fun _ => nn, fun z hz _ => nn, fun z hz hzn => ?_, fun z hz hzn => ?_⟩, HB.out⟩
      all_goals
        have := HX.out.symm.trans hz
        injection this with this
        subst this
        rw [nx] at hzn; cases hzn
/-- The place of the first of the greatest among the first k floats that are numbers. -/
def Bs (l : List UInt64) (k : Nat) (b : Int) : Prop :=
  (b = -1 ∧ ∀ i (h : i < l.length), i < k → isN (l[i]).toNat = true) ∨
  (∃ (j : Nat) (h : j < l.length), b = (j : Int) ∧ j < k ∧ isN (l[j]).toNat = false ∧ (∀ i (h' : i < l.length), i < k → isN (l[i]).toNat = false → ky (l[i]).toNat ≤ ky (l[j]).toNat ∧ (i < j → ky (l[i]).toNat < ky (l[j]).toNat)))
theorem Bs.uniq {l : List UInt64} {k : Nat} {b c : Int} (h : Bs l k b) (h' : Bs l k c) : b = c := by
  rcases h with ⟨rfl, h⟩ | ⟨j, hj, rfl, hk, hn, h⟩ <;> rcases h' with ⟨rfl, h'⟩ | ⟨i, hi, rfl, hk', hn', h'⟩
  · rfl
  · rw [h i hi hk'] at hn'; cases hn'
  · rw [h' j hj hk] at hn; cases hn
  · have a1 := h i hi hk' hn'
    have a2 := h' j hj hk hn
    rcases Nat.lt_trichotomy i j with g | g | g
    · have := a1.2 g; have := a2.1; omega
    · rw [g]
    · have := a2.2 g; have := a1.1; omega
theorem Bs.skip {l : List UInt64} {k : Nat} {b : Int} (h : Bs l k b) (hk : k < l.length) (hn : isN (l[k]).toNat = true) : Bs l (k + 1) b := by
  rcases h with ⟨rfl, h⟩ | ⟨j, hj, rfl, hjk, hnj, h⟩
  · refine .inl ⟨rfl, fun i hi hik => ?_⟩
    by_cases e : i = k
    · subst e; exact hn
    · exact h i hi (by omega)
  · refine .inr ⟨j, hj, rfl, by omega, hnj, fun i hi hik hni => ?_⟩
    by_cases e : i = k
    · subst e; rw [hn] at hni; cases hni
    · exact h i hi (by omega) hni
theorem Bs.keep {l : List UInt64} {k j : Nat} (h : Bs l k (j : Int)) (hk : k < l.length) (hj : j < l.length) (hle : ky (l[k]).toNat ≤ ky (l[j]).toNat) : Bs l (k + 1) (j : Int) := by
  rcases h with ⟨e, h⟩ | ⟨j', hj', e, hjk, hnj, h⟩
  · omega
  · obtain rfl : j = j' := by omega
    refine .inr ⟨j, hj, rfl, by omega, hnj, fun i hi hik hni => ?_⟩
    by_cases e : i = k
    · subst e; exact ⟨hle, fun _ => by omega⟩
    · exact h i hi (by omega) hni
theorem Bs.first {l : List UInt64} {k : Nat} (h : Bs l k (-1)) (hk : k < l.length) (hn : isN (l[k]).toNat = false) : Bs l (k + 1) (k : Int) := by
  rcases h with ⟨_, h⟩ | ⟨j', hj', e, _⟩
  · refine .inr ⟨k, hk, rfl, by omega, hn, fun i hi hik hni => ?_⟩
    by_cases e : i = k
    · subst e; exact ⟨Int.le_refl _, fun _ => by omega⟩
    · rw [h i hi (by omega)] at hni; cases hni
  · omega
theorem Bs.more {l : List UInt64} {k j : Nat} (h : Bs l k (j : Int)) (hk : k < l.length) (hj : j < l.length) (hn : isN (l[k]).toNat = false) (hlt : ky (l[j]).toNat < ky (l[k]).toNat) : Bs l (k + 1) (k : Int) := by
  rcases h with ⟨e, h⟩ | ⟨j', hj', e, hjk, hnj, h⟩
  · omega
  · obtain rfl : j = j' := by omega
    refine .inr ⟨k, hk, rfl, by omega, hn, fun i hi hik hni => ?_⟩
    by_cases e : i = k
    · subst e; exact ⟨Int.le_refl _, fun _ => by omega⟩
    · have := (h i hi (by omega) hni).1
      exact ⟨by omega, fun _ => by omega⟩
theorem Bs.lt {l : List UInt64} {k : Nat} {b : Int} (h : Bs l k b) : b = -1 ∨ ∃ j : Nat, b = j ∧ j < k ∧ j < l.length := by
  rcases h with ⟨rfl, _⟩ | ⟨j, hj, rfl, hjk, _⟩
  · exact .inl rfl
  · exact .inr ⟨j, rfl, hjk, hj⟩
set_option maxHeartbeats 4000000 in
set_option maxRecDepth 100000 in
theorem best_any (A : Option Addr) (c : Nat) (l : List UInt64) (w : World) (hL : FlIn w A l) (hl : l.length ≤ 1000000) :
    Calls Try.prog 20 #[.slice A l.length c] w fun e w' => ∃ b, e = .returned (.int .i64 b) ∧ Bs l l.length b ∧ w' = w := by
  have HL := Lib.hid hL
  clear hL
  go_enter Try.func20, Try.ntmps20
  go_wp2_with fail
  go_loopg [3, 8] l.length (fun q bv iv wr => ∃ (k : Nat) (b : Int), bv = .int .i64 b ∧ iv = .int .i64 k ∧ k ≤ l.length ∧ l.length - k ≤ q ∧ wr = w ∧ Hid (Bs l k b))
  case atStart => exact ⟨0, -1, rfl, rfl, Nat.zero_le _, by omega, rfl, Lib.hid (.inl ⟨rfl, fun i _ h => absurd h (Nat.not_lt_zero _)⟩)⟩
  case round =>
    obtain ⟨k, b, rfl, rfl, hk, hm, rfl, HB⟩ := hrel
    by_cases hlt : k < l.length
    · obtain ⟨bk, off, rfl, hbk, hF⟩ := HL.out (by omega)
      have hki : (k : Int) < (l.length : Int) := by omega
      have h0k : (0 : Int) ≤ (k : Int) := by omega
      have c1 := hF k hlt
      obtain ⟨x, hx⟩ : ∃ x : UInt64, x = l[k] := ⟨_, rfl⟩
      rw [← hx] at c1
      have HX := Lib.hid hx
      have lx := u_lt x
      clear hx
      cases nx : isN x.toNat
      · rcases HB.out.lt with rfl | ⟨j, rfl, hjk, hj⟩
        · go_wp2_with (go_at_call 34; refine (isnan_any _ _).mono ?_; rintro e w' ⟨rfl, rfl⟩)
          go_roundg (l.length - (k + 1))
          case rel => exact ⟨k + 1, k, rfl, by go_num, by omega, by omega, rfl, Lib.hid (HB.out.first hlt (by rw [← HX.out]; exact nx))⟩
          case measure => omega
        · have c2 := hF j hj
          obtain ⟨y, hy⟩ : ∃ y : UInt64, y = l[j] := ⟨_, rfl⟩
          rw [← hy] at c2
          have HY := Lib.hid hy
          have ly := u_lt y
          clear hy hF
          have h0j : (0 : Int) ≤ (j : Int) := by omega
          have hji : (j : Int) < (l.length : Int) := by omega
          by_cases hg : ky y.toNat < ky x.toNat
          · have hd : decide (cmp (ky x.toNat) (ky y.toNat) > 0) = true := decide_eq_true (cmp_gt.2 hg)
            have hd' : 0 < cmp (ky x.toNat) (ky y.toNat) := cmp_gt.2 hg
            have HG := Lib.hid hg
            clear hg
            go_wp2_with (first | (go_at_call 34; refine (isnan_any _ _).mono ?_; rintro e w' ⟨rfl, rfl⟩) | (go_at_call 14; refine (order_any _ _ (by assumption) (by assumption) _).mono ?_; rintro e w' ⟨rfl, rfl⟩))
            go_roundg (l.length - (k + 1))
            case rel => exact ⟨k + 1, k, rfl, by go_num, by omega, by omega, rfl, Lib.hid (HB.out.more hlt hj (by rw [← HX.out]; exact nx) (by rw [← HX.out, ← HY.out]; exact HG.out))⟩
            case measure => omega
          · have hd : decide (cmp (ky x.toNat) (ky y.toNat) > 0) = false := decide_eq_false (fun h => hg (cmp_gt.1 h))
            have hd' : ¬ 0 < cmp (ky x.toNat) (ky y.toNat) := fun h => hg (cmp_gt.1 h)
            have HG := Lib.hid hg
            clear hg
            go_wp2_with (first | (go_at_call 34; refine (isnan_any _ _).mono ?_; rintro e w' ⟨rfl, rfl⟩) | (go_at_call 14; refine (order_any _ _ (by assumption) (by assumption) _).mono ?_; rintro e w' ⟨rfl, rfl⟩))
            go_roundg (l.length - (k + 1))
            case rel => exact ⟨k + 1, j, rfl, by go_num, by omega, by omega, rfl, Lib.hid (HB.out.keep hlt hj (by rw [← HX.out, ← HY.out]; have := HG.out; omega))⟩
            case measure => omega
      · go_wp2_with (go_at_call 34; refine (isnan_any _ _).mono ?_; rintro e w' ⟨rfl, rfl⟩)
        go_roundg (l.length - (k + 1))
        case rel => exact ⟨k + 1, b, rfl, by go_num, by omega, by omega, rfl, Lib.hid (HB.out.skip hlt (by rw [← HX.out]; exact nx))⟩
        case measure => omega
    · go_wp2_with fail
      go_ret
      have : k = l.length := by omega
      exact ⟨b, rfl, this ▸ HB.out, rfl⟩
/-- A number between bounds. -/
structure Cl (x low high r : Nat) : Prop where
  lt : r < 2 ^ 64
  nan : (isN x = true ∨ isN low = true ∨ isN high = true ∨ ky high < ky low) → isN r = true
  val : isN x = false → isN low = false → isN high = false → ky low ≤ ky high → r = if ky x < ky low then low else if ky high < ky x then high else x
theorem cl_no {x low high r : Nat} (nx : isN x = false) (nl : isN low = false) (nh : isN high = false) (ho : ky low ≤ ky high) : (isN x = true ∨ isN low = true ∨ isN high = true ∨ ky high < ky low) → isN r = true := by
  intro h
  rw [nx, nl, nh] at h
  simp at h
  omega
set_option maxHeartbeats 4000000 in
set_option maxRecDepth 100000 in
theorem clamp_any (x low high : Nat) (hx : x < 2 ^ 64) (hl : low < 2 ^ 64) (hh : high < 2 ^ 64) (w : World) :
    Calls Try.prog 26 #[fV x, fV low, fV high] w fun e w' => ∃ r, e = .returned (fV r) ∧ Cl x low high r ∧ w' = w := by
  have nn := nan_word
  cases nx : isN x
  · cases nl : isN low
    · cases nh : isN high
      · by_cases ho : ky high < ky low
        · have hd : 0 < cmp (ky low) (ky high) := cmp_gt.2 ho
          have HO := Lib.hid ho
          clear ho
          go_enter Try.func26, Try.ntmps26
          go_wp2_with (first | (go_at_call 34; refine (isnan_any _ _).mono ?_; rintro e w' ⟨rfl, rfl⟩) | (go_at_call 14; refine (order_any _ _ (by assumption) (by assumption) _).mono ?_; rintro e w' ⟨rfl, rfl⟩) | (go_at_call 32; refine (nan_any _).mono ?_; rintro e w' ⟨rfl, rfl⟩))
          go_ret
          exact ⟨_, rfl, ⟨by decide, fun _ => nn, fun _ _ _ h => by have := HO.out; omega⟩, rfl⟩
        · have hd : ¬ 0 < cmp (ky low) (ky high) := fun h => ho (cmp_gt.1 h)
          have HO := Lib.hid ho
          clear ho
          by_cases h1 : ky x < ky low
          · have hd1 : cmp (ky x) (ky low) < 0 := cmp_lt.2 h1
            have H1 := Lib.hid h1
            clear h1
            go_enter Try.func26, Try.ntmps26
            go_wp2_with (first | (go_at_call 34; refine (isnan_any _ _).mono ?_; rintro e w' ⟨rfl, rfl⟩) | (go_at_call 14; refine (order_any _ _ (by assumption) (by assumption) _).mono ?_; rintro e w' ⟨rfl, rfl⟩))
            go_ret
            exact ⟨low, rfl, ⟨hl, cl_no nx nl nh HO.out, fun _ _ _ _ => (if_pos H1.out).symm⟩, rfl⟩
          · have hd1 : ¬ cmp (ky x) (ky low) < 0 := fun h => h1 (cmp_lt.1 h)
            have H1 := Lib.hid h1
            clear h1
            by_cases h2 : ky high < ky x
            · have hd2 : 0 < cmp (ky x) (ky high) := cmp_gt.2 h2
              have H2 := Lib.hid h2
              clear h2
              go_enter Try.func26, Try.ntmps26
              go_wp2_with (first | (go_at_call 34; refine (isnan_any _ _).mono ?_; rintro e w' ⟨rfl, rfl⟩) | (go_at_call 14; refine (order_any _ _ (by assumption) (by assumption) _).mono ?_; rintro e w' ⟨rfl, rfl⟩))
              go_ret
              exact ⟨high, rfl, ⟨hh, cl_no nx nl nh HO.out, fun _ _ _ _ => by rw [if_neg (Int.not_lt.2 H1.out), if_pos H2.out]⟩, rfl⟩
            · have hd2 : ¬ 0 < cmp (ky x) (ky high) := fun h => h2 (cmp_gt.1 h)
              have H2 := Lib.hid h2
              clear h2
              go_enter Try.func26, Try.ntmps26
              go_wp2_with (first | (go_at_call 34; refine (isnan_any _ _).mono ?_; rintro e w' ⟨rfl, rfl⟩) | (go_at_call 14; refine (order_any _ _ (by assumption) (by assumption) _).mono ?_; rintro e w' ⟨rfl, rfl⟩))
              go_ret
              exact ⟨x, rfl, ⟨hx, cl_no nx nl nh HO.out, fun _ _ _ _ => by rw [if_neg (Int.not_lt.2 H1.out), if_neg (Int.not_lt.2 H2.out)]⟩, rfl⟩
      · go_enter Try.func26, Try.ntmps26
        go_wp2_with (first | (go_at_call 34; refine (isnan_any _ _).mono ?_; rintro e w' ⟨rfl, rfl⟩) | (go_at_call 32; refine (nan_any _).mono ?_; rintro e w' ⟨rfl, rfl⟩))
        go_ret
        exact ⟨_, rfl, ⟨by decide, fun _ => nn, fun _ _ h => by rw [nh] at h; cases h⟩, rfl⟩
    · go_enter Try.func26, Try.ntmps26
      go_wp2_with (first | (go_at_call 34; refine (isnan_any _ _).mono ?_; rintro e w' ⟨rfl, rfl⟩) | (go_at_call 32; refine (nan_any _).mono ?_; rintro e w' ⟨rfl, rfl⟩))
      go_ret
      exact ⟨_, rfl, ⟨by decide, fun _ => nn, fun _ h => by rw [nl] at h; cases h⟩, rfl⟩
  · go_enter Try.func26, Try.ntmps26
    go_wp2_with (first | (go_at_call 34; refine (isnan_any _ _).mono ?_; rintro e w' ⟨rfl, rfl⟩) | (go_at_call 32; refine (nan_any _).mono ?_; rintro e w' ⟨rfl, rfl⟩))
    go_ret
    exact ⟨_, rfl, ⟨by decide, fun _ => nn, fun h => by rw [nx] at h; cases h⟩, rfl⟩
end Go.Proofs.Ytngboallknmepaa.Fp

namespace Go.Proofs.Ytngboallknmepaa.Fp
set_option linter.unusedVariables false
set_option linter.unusedSimpArgs false
open Go.RowKit Go.Sort Go.Shelf
open T
open I (alloc1 own_at own_below)


theorem sorted_uniq {s t : List UInt64} (hp : s.Perm t) (hs : s.Pairwise (fun a b => ky a.toNat ≤ ky b.toNat)) (ht : t.Pairwise (fun a b => ky a.toNat ≤ ky b.toNat)) : s.map (fun x => ky x.toNat) = t.map (fun x => ky x.toNat) :=
  List.Perm.eq_of_pairwise (le := fun a b : Int => a ≤ b) (fun _ _ _ _ h1 h2 => Int.le_antisymm h1 h2) (List.pairwise_map.2 hs) (List.pairwise_map.2 ht) (hp.map _)
theorem ky_u {x y : UInt64} (h : ky x.toNat = ky y.toNat) (hn : isN x.toNat = false) : x = y := UInt64.toNat_inj.1 (ky_inj (u_lt x) (u_lt y) hn h)
theorem fl_two (w : World) (a b : UInt64) : FlIn (w.alloc (.cells #[encF a, encF b] 22)) (some ⟨w.heap.size, 0, none⟩) [a, b] := fun _ => by
  have hx := heap_alloc_new w (.cells #[encF a, encF b] 22)
  refine ⟨w.heap.size, 0, rfl, by simp, fun j hj => ?_⟩
  have hc := L.blk_cell hx j
  rw [Nat.zero_add, hc]
  match j, hj with
  | 0, _ => rfl
  | 1, _ => rfl
theorem fl_three (w : World) (a b c : UInt64) : FlIn (w.alloc (.cells #[encF a, encF b, encF c] 22)) (some ⟨w.heap.size, 0, none⟩) [a, b, c] := fun _ => by
  have hx := heap_alloc_new w (.cells #[encF a, encF b, encF c] 22)
  refine ⟨w.heap.size, 0, rfl, by simp, fun j hj => ?_⟩
  have hc := L.blk_cell hx j
  rw [Nat.zero_add, hc]
  match j, hj with
  | 0, _ => rfl
  | 1, _ => rfl
  | 2, _ => rfl
def u1 : UInt64 := 4607182418800017408
def u2 : UInt64 := 4611686018427387904
def u3 : UInt64 := 4613937818241073152
theorem lit_fl {b n : Nat} (k : Nat) (hn : n < 2 ^ 53) (hb : 2 ^ 52 ≤ b) (h1 : b / 2 ^ 52 - 1 = k) (h2 : (2 ^ 52 + b % 2 ^ 52) * 2 ^ k = n * 2 ^ LP) : fl n = b := by
  refine U_inj ?_
  rw [U_fl hn]
  unfold U
  rw [if_neg (by omega), h1, h2]
theorem fl2 : fl 2 = 4611686018427387904 := by
  refine lit_fl (LP - 51) (by decide) (by decide) (by decide) ?_
  have e : (2 : Nat) ^ LP = 2 ^ 51 * 2 ^ (LP - 51) := by rw [← Nat.pow_add]; congr 1
  rw [e, ← Nat.mul_assoc]
theorem fl4 : fl 4 = 4616189618054758400 := by
  refine lit_fl (LP - 50) (by decide) (by decide) (by decide) ?_
  have e : (2 : Nat) ^ LP = 2 ^ 50 * 2 ^ (LP - 50) := by rw [← Nat.pow_add]; congr 1
  rw [e, ← Nat.mul_assoc]
theorem lp_a : 4598175219545276416 / 2 ^ 52 - 1 = LP - 54 := by decide
theorem lp_b : (2 : Nat) ^ LP = 2 ^ 54 * 2 ^ (LP - 54) := by rw [← Nat.pow_add]; congr 1
theorem fl_def (n : Nat) : fl n = RV (n * 2 ^ LP) 0 := rfl
attribute [local irreducible] fl LP
theorem lv_ratio {r : Nat} (h : Rt 1 1 3 r) : r = 4602678819172646912 := by
  have := h.val (by decide)
  have e1 : fl (2 * (1 : Int).toNat) = 4611686018427387904 := fl2
  have e2 : fl ((1 : Int).toNat + (3 : Int).toNat) = 4616189618054758400 := fl4
  rw [e1, e2] at this
  have e3 : D.div 4611686018427387904 4616189618054758400 = some 4602678819172646912 := by decide
  rw [e3] at this
  injection this with this
  exact this.symm
theorem lv_mille : ml 4598175219545276416 = 250 := by
  have hx : rg 4598175219545276416 ≤ ONE := by decide
  have n0 : isN 4598175219545276416 = false := by decide
  have v0 : vl 4598175219545276416 = 4598175219545276416 := by decide
  have v1 : vl ONE = 4607182418800017408 := by decide
  unfold ml
  rw [if_neg (by rw [n0]; decide), if_neg (by rw [v0]; decide), if_neg (by rw [v0, v1]; decide)]
  have e1 : 1000 * U (rg 4598175219545276416) = 250 * 2 ^ LP := by
    have r : rg 4598175219545276416 = 4598175219545276416 := by decide
    rw [r]
    unfold U
    rw [if_neg (by decide)]
    have a1 : 4598175219545276416 / 2 ^ 52 - 1 = LP - 54 := lp_a
    have a2 : 2 ^ 52 + 4598175219545276416 % 2 ^ 52 = 2 ^ 52 := by decide
    have e := lp_b
    rw [a1, a2, e, ← Nat.mul_assoc, ← Nat.mul_assoc]
  have e2 : wq (th 4598175219545276416) = 250 := by
    unfold wq
    rw [rg_th hx, e1, ← fl_def, U_fl (by decide)]
    exact Nat.mul_div_cancel _ (Nat.two_pow_pos LP)
  rw [e2]; rfl
theorem lv_halve {r : Nat} (h : Hv 2 4620693217682128896 r) : r = 4611686018427387904 := by
  have n0 : isN 4620693217682128896 = false := by decide
  rw [h.val n0]
  unfold hv
  have e1 : rg 4620693217682128896 = 4620693217682128896 := by decide
  have e2 : ng 4620693217682128896 = false := by decide
  have a1 : hN 4620693217682128896 = 4616189618054758400 := (hN_big (r := 4620693217682128896) (by decide) (by decide)).trans (by decide)
  have a2 : hN 4616189618054758400 = 4611686018427387904 := (hN_big (r := 4616189618054758400) (by decide) (by decide)).trans (by decide)
  have e3 : hI 2 4620693217682128896 = 4611686018427387904 := by
    unfold hI
    rw [a1]
    unfold hI
    rw [a2]
    unfold hI
    rfl
  rw [e1, e2, e3]
  rfl
theorem lv_clamp {r : Nat} (h : Cl 4617315517961601024 0 4607182418800017408 r) : r = 4607182418800017408 := by
  rw [h.val (by decide) (by decide) (by decide) (by decide)]
  decide
theorem lv_median {s : List UInt64} {r : Nat} (hp : s.Perm [u3, u1, u2]) (hs : s.Pairwise (fun a b => ky a.toNat ≤ ky b.toNat)) (h : Md s r) : r = 4611686018427387904 := by
  have hq : s.Perm [u1, u2, u3] := hp.trans (by decide)
  have hk := sorted_uniq hq hs (by simp only [List.pairwise_cons]; decide)
  have hl := hq.length_eq
  match s, hl with
  | [a, b, c], _ =>
    simp only [List.map_cons, List.map_nil, List.cons.injEq, and_true] at hk
    obtain ⟨ha, hb, hc⟩ := hk
    have n1 : isN u1.toNat = false := by decide
    have n2 : isN u2.toNat = false := by decide
    have n3 : isN u3.toNat = false := by decide
    have ea := ky_u ha.symm n1
    have eb := ky_u hb.symm n2
    have ec := ky_u hc.symm n3
    subst ea
    subst eb
    subst ec
    obtain ⟨y, hy, rfl⟩ := h.odd u3 rfl n3 rfl
    injection hy with hy
    rw [← hy]; decide
theorem lv_best {b : Int} (h : Bs [u1, u2] 2 b) : b = 1 := by
  refine h.uniq (.inr ⟨1, by decide, rfl, by decide, by decide, fun i hi _ _ => ?_⟩)
  match i, hi with
  | 0, _ => exact (by decide : ky u1.toNat ≤ ky u2.toNat ∧ (0 < 1 → ky u1.toNat < ky u2.toNat))
  | 1, _ => exact (by decide : ky u2.toNat ≤ ky u2.toNat ∧ (1 < 1 → ky u2.toNat < ky u2.toNat))
theorem w1 : encF u1 = .float .f64 4607182418800017408 := rfl
theorem w2 : encF u2 = .float .f64 4611686018427387904 := rfl
theorem w3 : encF u3 = .float .f64 4613937818241073152 := rfl
theorem lv_two (w : World) : FlIn (w.alloc (.cells #[.float .f64 4607182418800017408, .float .f64 4611686018427387904] 22)) (some ⟨w.heap.size, 0, none⟩) [u1, u2] := by
  have h := fl_two w u1 u2
  rw [w1, w2] at h
  exact h
theorem lv_three (w : World) : FlIn (w.alloc (.cells #[.float .f64 4613937818241073152, .float .f64 4607182418800017408, .float .f64 4611686018427387904] 22)) (some ⟨w.heap.size, 0, none⟩) [u3, u1, u2] := by
  have h := fl_three w u3 u1 u2
  rw [w1, w2, w3] at h
  exact h
theorem lv_bst (w : World) : Calls Try.prog 20 #[.slice (some ⟨w.heap.size, 0, none⟩) 2 2] (w.alloc (.cells #[.float .f64 4607182418800017408, .float .f64 4611686018427387904] 22)) fun e w' => e = .returned (.int .i64 1) ∧ Below w.heap.size w w' :=
  (best_any _ 2 [u1, u2] _ (lv_two w) (by decide)).mono fun _ _ ⟨_, h1, h2, h3⟩ => ⟨by rw [h1, lv_best h2], h3 ▸ alloc1 w _⟩
theorem lv_mdn (w : World) : Calls Try.prog 24 #[.slice (some ⟨w.heap.size, 0, none⟩) 3 3] (w.alloc (.cells #[.float .f64 4613937818241073152, .float .f64 4607182418800017408, .float .f64 4611686018427387904] 22)) fun e w' => e = .returned (.float .f64 4611686018427387904) ∧ Below w.heap.size w w' := by
  refine (median_odd _ 3 [u3, u1, u2] _ rfl (stable_small (by decide)) (lv_three w) (fun h => nomatch h) (by decide)).mono ?_
  rintro e w' ⟨s, r, rfl, h1, h2, h3, h4⟩
  refine ⟨by rw [lv_median h1 h2 h3], ?_⟩
  exact (alloc1 w _).trans (h4.mono (alloc1 w _).size)
theorem run_neg (w : World) : (Op.unary .neg (.float .f64 0)).run Try.prog w = .ok (.float .f64 9223372036854775808) w := by rfl
set_option maxHeartbeats 4000000 in
set_option maxRecDepth 100000 in
theorem live22 (w : World) : Calls Try.prog 11 #[] w fun e w' => e = .returned (.bool true) ∧ Below w.heap.size w w' := by
  have hneg := run_neg
  have n1 : isN 4602678819172646912 = false := by decide
  have n2 : isN 4611686018427387904 = false := by decide
  have n3 : isN 4607182418800017408 = false := by decide
  have o1 : cmp (ky 9223372036854775808) (ky 4607182418800017408) = -1 := by decide
  have m1 := lv_mille
  go_enter Try.func11, Try.ntmps11
  go_wp2_with (first | (go_at_call 10; refine (ratio_any _ _ _ _).mono ?_; rintro e wa ⟨r, rfl, HR, HA⟩; obtain rfl := lv_ratio HR) | (go_at_call 14; refine (order_any _ _ (by decide) (by decide) _).mono ?_; rintro e w' ⟨rfl, rfl⟩) | (go_at_call 30; refine (mille_any _ (by decide) _).mono ?_; rintro e w' ⟨rfl, rfl⟩) | (go_at_call 20; refine (lv_bst _).mono ?_; rintro e w2 ⟨rfl, hw2⟩) | (go_at_call 24; refine (lv_mdn _).mono ?_; rintro e w3 ⟨rfl, hw3⟩) | (go_at_call 26; refine (clamp_any _ _ _ (by decide) (by decide) (by decide) _).mono ?_; rintro e w' ⟨rc, rfl, HCL, rfl⟩; obtain rfl := lv_clamp HCL) | (go_at_call 28; refine (halve_any _ (by decide) _ (by decide) _).mono ?_; rintro e wh ⟨rh, rfl, HHV, HH⟩; obtain rfl := lv_halve HHV))
  go_ret
  refine ⟨rfl, ?_⟩
  have b1 := HA.below
  have b2 := b1.trans (hw2.mono b1.size)
  have b3 := b2.trans (hw3.mono b2.size)
  exact b3.trans (HH.below.mono b3.size)
end Go.Proofs.Ytngboallknmepaa.Fp

namespace Go.Proofs.Ytngboallknmepaa.RF
set_option linter.unusedVariables false
set_option linter.unusedSimpArgs false
open Go.ChangeShapes Go.WideShapes Go.ChangeAt Go.RowKit

theorem f_lt {b : Nat} (h : (Lit.float .f64 b).wf = true) : b < 2 ^ 64 := by simpa [Lit.wf] using h
end Go.Proofs.Ytngboallknmepaa.RF

namespace Go.Proofs.Ytngboallknmepaa.Fp
set_option linter.unusedVariables false
set_option linter.unusedSimpArgs false
open Ieee
attribute [local irreducible] fl LP

/-- A whole number is not above a float from 0 on just if it is not above what is whole of it. -/
theorem le_whole {n y : Nat} (hn : n < 2 ^ 53) (ny : isN y = false) (sy : ng y = false) : (vl (fl n) ≤ vl y) ↔ n ≤ wq y := by
  have h1 : vl (fl n) = (fl n : Int) := by
    unfold vl sg
    rw [fl_rg hn, fl_ng hn]; rfl
  have h2 : vl y = (rg y : Int) := by
    unfold vl sg
    rw [sy]; rfl
  rw [h1, h2, Int.ofNat_le]
  have h3 : fl n ≤ rg y ↔ U (fl n) ≤ U (rg y) := by
    constructor
    · exact U_le
    · intro h
      rcases Nat.lt_or_ge (rg y) (fl n) with g | g
      · have := U_lt g; omega
      · exact g
  rw [h3, U_fl hn]
  unfold wq
  exact (Nat.le_div_iff_mul_le (Nat.two_pow_pos LP)).symm
theorem pos_one {n : Nat} (h0 : 0 < n) (hn : n < 2 ^ 53) : 0 < vl (fl n) := by
  have h1 : vl (fl n) = (fl n : Int) := by
    unfold vl sg
    rw [fl_rg hn, fl_ng hn]; rfl
  rw [h1]
  have : U 0 < U (fl n) := by
    rw [U_zero, U_fl hn]
    exact Nat.mul_pos h0 (Nat.two_pow_pos LP)
  have := U_iff.1 this
  omega
theorem fl_isn {n : Nat} (hn : n < 2 ^ 53) : isN (fl n) = false := by
  have := fl_lt hn
  unfold isN
  rw [fl_rg hn]
  simp; omega
theorem mz_case {n : Nat} (hn : n < 1000) : vl (fl (n + 1)) ≤ vl 9223372036854775808 ↔ (n : Int) < ((wq (th 9223372036854775808) : Nat) : Int) := by
  have e1 : th 9223372036854775808 = 9223372036854775808 := by decide
  have e2 : wq 9223372036854775808 = 0 := by
    unfold wq
    rw [show rg 9223372036854775808 = 0 by decide, U_zero, Nat.zero_div]
  have hp := pos_one (n := n + 1) (by omega) (by omega)
  have hv : vl 9223372036854775808 = 0 := by decide
  rw [e1, e2, hv]
  clear e1 e2 hv
  generalize vl (fl (n + 1)) = z at hp
  constructor <;> intro h <;> omega
/-- A thousand times any number, and how many thousandths that are. -/
theorem mul_any {x : Nat} (hx : x < 2 ^ 64) (nx : isN x = false) (h1 : ¬ vl ONE ≤ vl x) : ∃ y, D.mul THOU x = some y ∧ isN y = false ∧ (∀ n : Nat, n < 1000 → (vl (fl (n + 1)) ≤ vl y ↔ ((n : Int) < ml x))) := by
  have v1 : vl ONE = (ONE : Int) := by decide
  by_cases hi : rg x = INF
  · have sx : ng x = true := by
      rw [v1] at h1
      unfold vl sg at h1
      rw [hi] at h1
      generalize ng x = s at h1
      cases s
      · exact absurd (by decide) h1
      · rfl
    have ex : x = 18442240474082181120 := by
      rw [← wd_eta hx, sx, hi]; decide
    subst ex
    refine ⟨_, mul_thou_inf, by decide, fun n hn => ?_⟩
    have hp := pos_one (n := n + 1) (by omega) (by omega)
    have hv : vl 18442240474082181120 < 0 := by decide
    have hm : ml 18442240474082181120 = 0 := by
      unfold ml
      rw [if_neg (by decide), if_pos (by decide)]
    rw [hm]
    constructor <;> intro h <;> omega
  · have ri : rg x < INF := by
      have : rg x ≤ INF := by simpa [isN] using nx
      omega
    refine ⟨th x, mul_thou ri, ?_, fun n hn => ?_⟩
    · have h3 := INF_lt
      unfold th
      rw [isN_wd (by omega)]
      simp; omega
    · by_cases hs : vl x < 0
      · have sx : ng x = true := by
          unfold vl sg at hs
          generalize ng x = s at hs
          cases s
          · simp at hs; omega
          · rfl
        have hm : ml x = 0 := by
          unfold ml
          rw [nx, if_neg (by decide), if_pos hs]
        have hy : vl (th x) ≤ 0 := by
          unfold vl th sg
          have h3 := INF_lt
          rw [ng_wd (by omega), sx, if_pos rfl]
          omega
        have hp := pos_one (n := n + 1) (by omega) (by omega)
        rw [hm]
        constructor <;> intro h <;> omega
      · have ro : rg x ≤ ONE := by
          rw [v1] at h1
          unfold vl sg at h1 hs
          generalize ng x = s at h1 hs
          cases s <;> simp at h1 hs <;> omega
        have hm : ml x = wq (th x) := by
          unfold ml
          rw [nx, if_neg (by decide), if_neg hs, if_neg h1]
        have nt : isN (th x) = false := by
          have := th_lt ro
          have := fl_lt (n := 1000) (by decide)
          unfold isN
          rw [rg_th ro]
          simp; omega
        rw [hm]
        cases sx : ng x
        · have st : ng (th x) = false := by rw [ng_th ro, sx]
          rw [le_whole (by omega) nt st]
          omega
        · have vx : vl x = 0 := by
            unfold vl sg at hs ⊢
            rw [sx] at hs ⊢
            simp at hs ⊢; omega
          rcases zero_of hx vx with rfl | rfl
          · cases sx
          · exact mz_case hn
end Go.Proofs.Ytngboallknmepaa.Fp

namespace Go.Proofs.Ytngboallknmepaa.Fp
set_option linter.unusedVariables false
set_option linter.unusedSimpArgs false
open Go.RowKit Go.Sort Go.Shelf
open T
open I (alloc1)
attribute [local irreducible] fl LP
set_option maxHeartbeats 2000000 in
set_option maxRecDepth 100000 in
theorem rmille_any (x : Nat) (hx : x < 2 ^ 64) (w : World) : Calls Try.prog 31 #[fV x] w fun e w' => e = .returned (.int .i64 (ml x)) ∧ w' = w := by
  have z1 : isN 4607182418800017408 = false := by decide
  have v1 : vl 4607182418800017408 = 4607182418800017408 := by decide
  cases nx : isN x
  · by_cases h2 : vl ONE ≤ vl x
    · have e : ml x = 1000 := by
        have v1' : vl ONE = 4607182418800017408 := v1
        unfold ml
        rw [nx, if_neg (by decide), if_neg (by omega), if_pos h2]
      rw [e]
      have h2' : 4607182418800017408 ≤ vl x := by rw [← v1]; exact h2
      clear h2 e
      by_cases h3 : vl x = 4607182418800017408
      · have h3' : (decide (vl x = 4607182418800017408)) = true := by simp [h3]
        have h4 : ¬ (4607182418800017408 < vl x) := by omega
        have HE := Lib.hid h3
        go_enter Try.func31, Try.ntmps31
        go_wp2_with fail
        go_ret
        exact ⟨rfl, rfl⟩
      · have h4 : 4607182418800017408 < vl x := by omega
        go_enter Try.func31, Try.ntmps31
        go_wp2_with fail
        go_ret
        exact ⟨rfl, rfl⟩
    · obtain ⟨y, hy, ny, hle⟩ := mul_any hx nx h2
      have hq := run_mul 4652007308841189376 x y hy
      have HLE := Lib.hid hle
      have h2' : ¬ 4607182418800017408 ≤ vl x := by rw [← v1]; exact h2
      have hml : 0 ≤ ml x ∧ ml x ≤ 1000 := by
        refine ⟨?_, (ml_le x).2⟩
        unfold ml
        rw [nx, if_neg (by decide)]
        split
        · omega
        · omega
      have h3 : ¬ (vl x = 4607182418800017408) := by omega
      have h4 : ¬ (4607182418800017408 < vl x) := by omega
      obtain ⟨m, hm⟩ : ∃ m : Nat, ml x = m := ⟨(ml x).toNat, by omega⟩
      rw [hm] at hle hml ⊢
      have HM := Lib.hid hle
      clear hle hm h2 HLE hy
      go_enter Try.func31, Try.ntmps31
      go_wp2_with fail
      go_loopg [4] m (fun q nv wr => ∃ k : Nat, nv = .int .i64 k ∧ k ≤ m ∧ m - k ≤ q ∧ wr = w)
      case atStart => exact ⟨0, rfl, Nat.zero_le _, by omega, rfl⟩
      case round =>
        obtain ⟨k, rfl, hk, hq2, rfl⟩ := hrel
        by_cases h5 : k < 1000
        · have i1 : floatOfInt .f64 ((k : Int) + 1) = fl (k + 1) := f_int (n := k + 1) (by omega)
          have ni : isN (fl (k + 1)) = false := fl_isn (by omega)
          have h5' : (k : Int) < 1000 := by omega
          have hc := HM.out k h5
          by_cases h6 : k < m
          · have h7 : vl (fl (k + 1)) ≤ vl y := hc.2 (by omega)
            by_cases h8 : vl (fl (k + 1)) = vl y
            · have h9 : decide (vl (fl (k + 1)) = vl y) = true := by simp [h8]
              have h10 : decide (vl (fl (k + 1)) < vl y) = false := by simp [h8]
              clear h8 h7 hc
              go_wp2_with fail
              go_roundg (m - (k + 1))
              case rel => exact ⟨k + 1, by go_num, by omega, by omega, rfl⟩
              case measure => omega
            · have h9 : vl (fl (k + 1)) < vl y := Int.lt_iff_le_and_ne.2 ⟨h7, h8⟩
              obtain ⟨z, hz⟩ : ∃ z, z = fl (k + 1) := ⟨_, rfl⟩
              rw [← hz] at h8 h9 ni i1
              clear h7 hc hz
              go_wp2_with fail
              go_roundg (m - (k + 1))
              case rel => exact ⟨k + 1, by go_num, by omega, by omega, rfl⟩
              case measure => omega
          · have h7 : ¬ vl (fl (k + 1)) ≤ vl y := fun h => by have := hc.1 h; omega
            have h8 : ¬ vl (fl (k + 1)) = vl y := fun h => h7 (Int.le_of_eq h)
            have h9 : ¬ vl (fl (k + 1)) < vl y := fun h => h7 (Int.le_of_lt h)
            obtain rfl : k = m := by omega
            clear h7 hc
            go_wp2_with fail
            go_ret
            exact ⟨rfl, rfl⟩
        · obtain rfl : k = m := by omega
          have h5' : ¬ (k : Int) < 1000 := by omega
          go_wp2_with fail
          go_ret
          exact ⟨rfl, rfl⟩
  · have e : ml x = -1 := by
      unfold ml
      rw [nx, if_pos rfl]
    rw [e]
    clear e
    go_enter Try.func31, Try.ntmps31
    go_wp2_with fail
    go_ret
    exact ⟨rfl, rfl⟩
end Go.Proofs.Ytngboallknmepaa.Fp
