/-
  ScoreMilles, walked.
-/
import Derived.Test.YtngboallknmepaaGxaj
import Derived.Test.YtngboallknmepaaGLawFpMeans
namespace Go.Proofs.Ytngboallknmepaa.Fp
set_option linter.unusedVariables false
set_option linter.unusedSimpArgs false
open Go.RowKit Go.Sort Go.Shelf
open T
open I (alloc1 own_at own_below)

theorem med_in {m s t : List UInt64} {r : Nat} (hp : s.Perm m) (hq : t.Perm m) (hs : s.Pairwise (fun a b => ky a.toNat ≤ ky b.toNat)) (ht : t.Pairwise (fun a b => ky a.toNat ≤ ky b.toNat)) (h : Md s r) (hr : isN r = false) (ho : t.length % 2 = 1) (h0 : 0 < t.length) :
    ky (t[0]'h0).toNat ≤ ky r ∧ ky r ≤ ky (t[t.length - 1]'(by omega)).toNat := by
  have hk := sorted_uniq (hp.trans hq.symm) hs ht
  have hlen : s.length = t.length := (hp.trans hq.symm).length_eq
  have e : ∃ x, s.getLast? = some x := by
    cases e : s.getLast? with
    | none =>
      have := List.getLast?_eq_none_iff.1 e
      rw [this] at hlen
      simp at hlen; omega
    | some x => exact ⟨x, rfl⟩
  obtain ⟨x, e⟩ := e
  have nx : isN x.toNat = false := by
    cases n : isN x.toNat
    · rfl
    · have := h.nan x e n
      rw [this] at hr; cases hr
  obtain ⟨y, hy, rfl⟩ := h.odd x e nx (by omega)
  have hi : s.length / 2 < s.length := by omega
  rw [List.getElem?_eq_getElem hi] at hy
  injection hy with hy
  have key : ∀ i (h1 : i < s.length) (h2 : i < t.length), ky (s[i]).toNat = ky (t[i]).toNat := by
    intro i h1 h2
    have h3 : (s.map fun x => ky x.toNat)[i]'(by simpa using h1) = (t.map fun x => ky x.toNat)[i]'(by simpa using h2) := by simp only [hk]
    rw [List.getElem_map, List.getElem_map] at h3
    exact h3
  have le : ∀ i j (h1 : i < t.length) (h2 : j < t.length), i ≤ j → ky (t[i]).toNat ≤ ky (t[j]).toNat := by
    intro i j h1 h2 hij
    rcases Nat.lt_or_ge i j with g | g
    · exact List.pairwise_iff_getElem.1 ht i j h1 h2 g
    · have : i = j := by omega
      subst this; exact Int.le_refl _
  have hh : s.length / 2 < t.length := by omega
  rw [← hy, key _ hi hh]
  exact ⟨le _ _ _ _ (by omega), le _ _ _ _ (by omega)⟩
theorem mean_two' {a : UInt64} {x : Nat} (h : Rp (meanO [a, a]) x) (na : isN a.toNat = false) : (vl a.toNat ≤ 9094988921128908188 ∧ -9094988921128908188 ≤ vl a.toNat) → isN x = false ∧ vl x = vl a.toNat := fun ⟨h1, h2⟩ => by
  obtain ⟨v, e, n, q⟩ := mean_two na h1 h2
  rw [h.sm v e]
  exact ⟨n, q⟩
theorem c_huge : isN 9094988921128908188 = false ∧ vl 9094988921128908188 = 9094988921128908188 ∧ isN 18318360957983683996 = false ∧ vl 18318360957983683996 = -9094988921128908188 := by decide
set_option maxHeartbeats 16000000 in
set_option maxRecDepth 100000 in
theorem milles_law (a b : UInt64) (A : Option Addr) (c : Nat) (l : List UInt64) (w : World) (hL : FlIn w A l) (hr : l.length ≤ c) (hz : A = none → c = 0) (hl : l.length ≤ 9223372036854775807) :
    Calls Try.prog 9 #[fV a.toNat, fV b.toNat, .slice A l.length c] w fun e w' => e = .returned (.bool true) ∧ Below w.heap.size w w' := by
  have HF := Lib.hid (few_any A c l w hr hz hl)
  obtain ⟨m, hm⟩ : ∃ m, m = l.take 60 := ⟨_, rfl⟩
  rw [← hm] at HF
  have hm60 : m.length ≤ 60 := by rw [hm, List.length_take]; omega
  have HM : Hid (FlIn w A m) := Lib.hid (by rw [hm]; exact fl_take hL 60)
  have HS := Lib.hid (stable_all hm60)
  have HZ := Lib.hid hz
  have la := u_lt a
  have lb := u_lt b
  have ma := ml_le a.toNat
  obtain ⟨n1, v1, n2, v2⟩ := c_huge
  have z0 := isN_zero
  have v0 : vl 0 = 0 := by decide
  clear hL hm hr hz hl
  go_enter Try.func9, Try.ntmps9
  go_upto_region 2 with (go_at_call 16; refine HF.out.mono ?_; rintro e w' ⟨rfl, rfl⟩)
  have c5 : isN a.toNat = true ∨ (isN a.toNat = false ∧ isN b.toNat = true) ∨ (isN a.toNat = false ∧ isN b.toNat = false ∧ vl b.toNat < vl a.toNat) ∨ (isN a.toNat = false ∧ isN b.toNat = false ∧ vl a.toNat < vl b.toNat) ∨ (isN a.toNat = false ∧ isN b.toNat = false ∧ vl a.toNat = vl b.toNat) := by
    cases isN a.toNat <;> cases isN b.toNat <;> simp <;> omega
  rcases c5 with na | ⟨na, nb⟩ | ⟨na, nb, hv⟩ | ⟨na, nb, hv⟩ | ⟨na, nb, hv⟩
  · go_upto_region 4 with (go_at_call 30; refine (mille_any _ (by assumption) _).mono ?_; rintro e w' ⟨rfl, rfl⟩)
    go_upto_region 5 with (go_at_call 24; refine (median_any A c m _ HS.out HM.out HZ.out (by omega)).mono ?_; rintro e wm ⟨s, r, rfl, p1, o1, HMD, HBm⟩)
    have HM2 := Lib.hid (fl_below HM.out HBm)
    have HMH := Lib.hid HMD
    have HBM := Lib.hid HBm
    have HQ1 := Lib.hid (And.intro p1 o1)
    have lr := HMD.lt
    clear HMD HBm p1 o1
    go_upto_region 6 with (go_at_call 17; refine (sort_any A c m _ HS.out HM2.out HZ.out (by omega)).mono ?_; rintro e ws ⟨B, cap, t, rfl, p2, o2, HT, HBs⟩)
    have heq : ((t.length : Int) != (m.length : Int)) = false := by simp [p2.length_eq]
    have htm : t.length = m.length := p2.length_eq
    have ht60 : t.length ≤ 60 := by omega
    have HTM := Lib.hid htm
    have HB := Lib.hid (HBM.out.trans (HBs.mono HBM.out.size))
    have HQ2 := Lib.hid (And.intro p2 o2)
    have HTT := Lib.hid HT
    clear htm p2 o2 HT HBs
    by_cases h0 : t.length = 0
    · have h0z : ¬ (0 : Int) < (t.length : Int) := by omega
      have H0 := Lib.hid h0
      clear h0
      go_upto_region 11 with (go_at_call 14; refine (order_any _ _ (by assumption) (by assumption) _).mono ?_; rintro e w' ⟨rfl, rfl⟩)
      go_upto_region 12 with (go_at_call 22; refine (mean_any _ 2 [a, a] _ (fl_two _ a a) (by simp)).mono ?_; rintro e wx ⟨x, rfl, HX, HGX⟩)
      have HXH := Lib.hid HX
      clear HX
      go_wp2_with (go_at_call 11; refine (live22 _).mono ?_; rintro e wl ⟨rfl, HBL⟩)
      go_ret
      have b1 := HB.out
      have b2 := b1.trans ((alloc1 _ (.cells #[encF a, encF a] 22)).mono b1.size)
      have b3 := b2.trans (HGX.below.mono b2.size)
      exact ⟨rfl, b3.trans (HBL.mono b3.size)⟩
    · have h0z : (0 : Int) < (t.length : Int) := by omega
      obtain ⟨bk, off, rfl, hbk, hF⟩ := HTT.out (by omega)
      obtain ⟨n, hn⟩ : ∃ n, n = t.length - 1 := ⟨_, rfl⟩
      have hnl : n < t.length := by omega
      obtain ⟨x0, hx0⟩ : ∃ x0 : UInt64, x0 = t[0]'(by omega) := ⟨_, rfl⟩
      obtain ⟨xl, hxl⟩ : ∃ xl : UInt64, xl = t[n]'hnl := ⟨_, rfl⟩
      have c0 := hF 0 (by omega)
      have c1 := hF n hnl
      rw [← hx0, Nat.add_zero] at c0
      rw [← hxl] at c1
      have l0 := u_lt x0
      have ll := u_lt xl
      have p0 : (0 : Int) ≤ (t.length : Int) - 1 := by omega
      have p1 : (t.length : Int) - 1 < (t.length : Int) := by omega
      have p2 : ((t.length : Int) - 1).toNat = n := by omega
      have HX0 := Lib.hid hx0
      have HXL := Lib.hid hxl
      have HN := Lib.hid hn
      clear hx0 hxl hn hF
      cases nr : isN r
      · by_cases ho : t.length % 2 = 1
        · have hin := med_in HQ1.out.1 HQ2.out.1 HQ1.out.2 HQ2.out.2 HMH.out nr ho (by omega)
          have k1 : ¬ cmp (ky r) (ky x0.toNat) < 0 := fun h => by
            have h2 := cmp_lt.1 h
            rw [HX0.out] at h2
            exact absurd h2 (Int.not_lt.2 hin.1)
          have k2 : ¬ 0 < cmp (ky r) (ky xl.toNat) := fun h => by
            have h2 := cmp_gt.1 h
            have h3 : xl = t[t.length - 1]'(by omega) := by rw [HXL.out]; (congr 1) <;> exact HN.out
            rw [h3] at h2
            exact absurd h2 (Int.not_lt.2 hin.2)
          have HO := Lib.hid ho
          clear ho hin
          go_upto_region 11 with (go_at_call 14; refine (order_any _ _ (by assumption) (by assumption) _).mono ?_; rintro e w' ⟨rfl, rfl⟩)
          go_upto_region 12 with (go_at_call 22; refine (mean_any _ 2 [a, a] _ (fl_two _ a a) (by simp)).mono ?_; rintro e wx ⟨x, rfl, HX, HGX⟩)
          have HXH := Lib.hid HX
          clear HX
          go_wp2_with (go_at_call 11; refine (live22 _).mono ?_; rintro e wl ⟨rfl, HBL⟩)
          go_ret
          have b1 := HB.out
          have b2 := b1.trans ((alloc1 _ (.cells #[encF a, encF a] 22)).mono b1.size)
          have b3 := b2.trans (HGX.below.mono b2.size)
          exact ⟨rfl, b3.trans (HBL.mono b3.size)⟩
        · have em : (m.length : Int).tmod 2 = 0 := by rw [Int.tmod_eq_emod_of_nonneg (by omega)]; have := HTM.out; omega
          have em' : (m.length : Int) % 2 = 0 := by have := HTM.out; omega
          clear ho
          by_cases k1 : cmp (ky r) (ky x0.toNat) < 0
          · go_upto_region 11 with (go_at_call 14; refine (order_any _ _ (by assumption) (by assumption) _).mono ?_; rintro e w' ⟨rfl, rfl⟩)
            go_upto_region 12 with (go_at_call 22; refine (mean_any _ 2 [a, a] _ (fl_two _ a a) (by simp)).mono ?_; rintro e wx ⟨x, rfl, HX, HGX⟩)
            have HXH := Lib.hid HX
            clear HX
            go_wp2_with (go_at_call 11; refine (live22 _).mono ?_; rintro e wl ⟨rfl, HBL⟩)
            go_ret
            have b1 := HB.out
            have b2 := b1.trans ((alloc1 _ (.cells #[encF a, encF a] 22)).mono b1.size)
            have b3 := b2.trans (HGX.below.mono b2.size)
            exact ⟨rfl, b3.trans (HBL.mono b3.size)⟩
          · by_cases k2 : 0 < cmp (ky r) (ky xl.toNat)
            · go_upto_region 11 with (go_at_call 14; refine (order_any _ _ (by assumption) (by assumption) _).mono ?_; rintro e w' ⟨rfl, rfl⟩)
              go_upto_region 12 with (go_at_call 22; refine (mean_any _ 2 [a, a] _ (fl_two _ a a) (by simp)).mono ?_; rintro e wx ⟨x, rfl, HX, HGX⟩)
              have HXH := Lib.hid HX
              clear HX
              go_wp2_with (go_at_call 11; refine (live22 _).mono ?_; rintro e wl ⟨rfl, HBL⟩)
              go_ret
              have b1 := HB.out
              have b2 := b1.trans ((alloc1 _ (.cells #[encF a, encF a] 22)).mono b1.size)
              have b3 := b2.trans (HGX.below.mono b2.size)
              exact ⟨rfl, b3.trans (HBL.mono b3.size)⟩
            · go_upto_region 11 with (go_at_call 14; refine (order_any _ _ (by assumption) (by assumption) _).mono ?_; rintro e w' ⟨rfl, rfl⟩)
              go_upto_region 12 with (go_at_call 22; refine (mean_any _ 2 [a, a] _ (fl_two _ a a) (by simp)).mono ?_; rintro e wx ⟨x, rfl, HX, HGX⟩)
              have HXH := Lib.hid HX
              clear HX
              go_wp2_with (go_at_call 11; refine (live22 _).mono ?_; rintro e wl ⟨rfl, HBL⟩)
              go_ret
              have b1 := HB.out
              have b2 := b1.trans ((alloc1 _ (.cells #[encF a, encF a] 22)).mono b1.size)
              have b3 := b2.trans (HGX.below.mono b2.size)
              exact ⟨rfl, b3.trans (HBL.mono b3.size)⟩
      · go_upto_region 11 with (go_at_call 14; refine (order_any _ _ (by assumption) (by assumption) _).mono ?_; rintro e w' ⟨rfl, rfl⟩)
        go_upto_region 12 with (go_at_call 22; refine (mean_any _ 2 [a, a] _ (fl_two _ a a) (by simp)).mono ?_; rintro e wx ⟨x, rfl, HX, HGX⟩)
        have HXH := Lib.hid HX
        clear HX
        go_wp2_with (go_at_call 11; refine (live22 _).mono ?_; rintro e wl ⟨rfl, HBL⟩)
        go_ret
        have b1 := HB.out
        have b2 := b1.trans ((alloc1 _ (.cells #[encF a, encF a] 22)).mono b1.size)
        have b3 := b2.trans (HGX.below.mono b2.size)
        exact ⟨rfl, b3.trans (HBL.mono b3.size)⟩
  · go_upto_region 4 with (go_at_call 30; refine (mille_any _ (by assumption) _).mono ?_; rintro e w' ⟨rfl, rfl⟩)
    go_upto_region 5 with (go_at_call 24; refine (median_any A c m _ HS.out HM.out HZ.out (by omega)).mono ?_; rintro e wm ⟨s, r, rfl, p1, o1, HMD, HBm⟩)
    have HM2 := Lib.hid (fl_below HM.out HBm)
    have HMH := Lib.hid HMD
    have HBM := Lib.hid HBm
    have HQ1 := Lib.hid (And.intro p1 o1)
    have lr := HMD.lt
    clear HMD HBm p1 o1
    go_upto_region 6 with (go_at_call 17; refine (sort_any A c m _ HS.out HM2.out HZ.out (by omega)).mono ?_; rintro e ws ⟨B, cap, t, rfl, p2, o2, HT, HBs⟩)
    have heq : ((t.length : Int) != (m.length : Int)) = false := by simp [p2.length_eq]
    have htm : t.length = m.length := p2.length_eq
    have ht60 : t.length ≤ 60 := by omega
    have HTM := Lib.hid htm
    have HB := Lib.hid (HBM.out.trans (HBs.mono HBM.out.size))
    have HQ2 := Lib.hid (And.intro p2 o2)
    have HTT := Lib.hid HT
    clear htm p2 o2 HT HBs
    by_cases h0 : t.length = 0
    · have h0z : ¬ (0 : Int) < (t.length : Int) := by omega
      have H0 := Lib.hid h0
      clear h0
      go_upto_region 11 with (go_at_call 14; refine (order_any _ _ (by assumption) (by assumption) _).mono ?_; rintro e w' ⟨rfl, rfl⟩)
      go_upto_region 12 with (go_at_call 22; refine (mean_any _ 2 [a, a] _ (fl_two _ a a) (by simp)).mono ?_; rintro e wx ⟨x, rfl, HX, HGX⟩)
      have HXH := Lib.hid HX
      clear HX
      by_cases g1 : 9094988921128908188 < vl a.toNat
      · go_wp2_with (go_at_call 11; refine (live22 _).mono ?_; rintro e wl ⟨rfl, HBL⟩)
        go_ret
        have b1 := HB.out
        have b2 := b1.trans ((alloc1 _ (.cells #[encF a, encF a] 22)).mono b1.size)
        have b3 := b2.trans (HGX.below.mono b2.size)
        exact ⟨rfl, b3.trans (HBL.mono b3.size)⟩
      · by_cases g2 : vl a.toNat < -9094988921128908188
        · go_wp2_with (go_at_call 11; refine (live22 _).mono ?_; rintro e wl ⟨rfl, HBL⟩)
          go_ret
          have b1 := HB.out
          have b2 := b1.trans ((alloc1 _ (.cells #[encF a, encF a] 22)).mono b1.size)
          have b3 := b2.trans (HGX.below.mono b2.size)
          exact ⟨rfl, b3.trans (HBL.mono b3.size)⟩
        · obtain ⟨nx, vx⟩ := mean_two' HXH.out na ⟨by omega, by omega⟩
          have hde : decide (vl x = vl a.toNat) = true := decide_eq_true vx
          clear vx
          go_wp2_with (go_at_call 11; refine (live22 _).mono ?_; rintro e wl ⟨rfl, HBL⟩)
          go_ret
          have b1 := HB.out
          have b2 := b1.trans ((alloc1 _ (.cells #[encF a, encF a] 22)).mono b1.size)
          have b3 := b2.trans (HGX.below.mono b2.size)
          exact ⟨rfl, b3.trans (HBL.mono b3.size)⟩
    · have h0z : (0 : Int) < (t.length : Int) := by omega
      obtain ⟨bk, off, rfl, hbk, hF⟩ := HTT.out (by omega)
      obtain ⟨n, hn⟩ : ∃ n, n = t.length - 1 := ⟨_, rfl⟩
      have hnl : n < t.length := by omega
      obtain ⟨x0, hx0⟩ : ∃ x0 : UInt64, x0 = t[0]'(by omega) := ⟨_, rfl⟩
      obtain ⟨xl, hxl⟩ : ∃ xl : UInt64, xl = t[n]'hnl := ⟨_, rfl⟩
      have c0 := hF 0 (by omega)
      have c1 := hF n hnl
      rw [← hx0, Nat.add_zero] at c0
      rw [← hxl] at c1
      have l0 := u_lt x0
      have ll := u_lt xl
      have p0 : (0 : Int) ≤ (t.length : Int) - 1 := by omega
      have p1 : (t.length : Int) - 1 < (t.length : Int) := by omega
      have p2 : ((t.length : Int) - 1).toNat = n := by omega
      have HX0 := Lib.hid hx0
      have HXL := Lib.hid hxl
      have HN := Lib.hid hn
      clear hx0 hxl hn hF
      cases nr : isN r
      · by_cases ho : t.length % 2 = 1
        · have hin := med_in HQ1.out.1 HQ2.out.1 HQ1.out.2 HQ2.out.2 HMH.out nr ho (by omega)
          have k1 : ¬ cmp (ky r) (ky x0.toNat) < 0 := fun h => by
            have h2 := cmp_lt.1 h
            rw [HX0.out] at h2
            exact absurd h2 (Int.not_lt.2 hin.1)
          have k2 : ¬ 0 < cmp (ky r) (ky xl.toNat) := fun h => by
            have h2 := cmp_gt.1 h
            have h3 : xl = t[t.length - 1]'(by omega) := by rw [HXL.out]; (congr 1) <;> exact HN.out
            rw [h3] at h2
            exact absurd h2 (Int.not_lt.2 hin.2)
          have HO := Lib.hid ho
          clear ho hin
          go_upto_region 11 with (go_at_call 14; refine (order_any _ _ (by assumption) (by assumption) _).mono ?_; rintro e w' ⟨rfl, rfl⟩)
          go_upto_region 12 with (go_at_call 22; refine (mean_any _ 2 [a, a] _ (fl_two _ a a) (by simp)).mono ?_; rintro e wx ⟨x, rfl, HX, HGX⟩)
          have HXH := Lib.hid HX
          clear HX
          by_cases g1 : 9094988921128908188 < vl a.toNat
          · go_wp2_with (go_at_call 11; refine (live22 _).mono ?_; rintro e wl ⟨rfl, HBL⟩)
            go_ret
            have b1 := HB.out
            have b2 := b1.trans ((alloc1 _ (.cells #[encF a, encF a] 22)).mono b1.size)
            have b3 := b2.trans (HGX.below.mono b2.size)
            exact ⟨rfl, b3.trans (HBL.mono b3.size)⟩
          · by_cases g2 : vl a.toNat < -9094988921128908188
            · go_wp2_with (go_at_call 11; refine (live22 _).mono ?_; rintro e wl ⟨rfl, HBL⟩)
              go_ret
              have b1 := HB.out
              have b2 := b1.trans ((alloc1 _ (.cells #[encF a, encF a] 22)).mono b1.size)
              have b3 := b2.trans (HGX.below.mono b2.size)
              exact ⟨rfl, b3.trans (HBL.mono b3.size)⟩
            · obtain ⟨nx, vx⟩ := mean_two' HXH.out na ⟨by omega, by omega⟩
              have hde : decide (vl x = vl a.toNat) = true := decide_eq_true vx
              clear vx
              go_wp2_with (go_at_call 11; refine (live22 _).mono ?_; rintro e wl ⟨rfl, HBL⟩)
              go_ret
              have b1 := HB.out
              have b2 := b1.trans ((alloc1 _ (.cells #[encF a, encF a] 22)).mono b1.size)
              have b3 := b2.trans (HGX.below.mono b2.size)
              exact ⟨rfl, b3.trans (HBL.mono b3.size)⟩
        · have em : (m.length : Int).tmod 2 = 0 := by rw [Int.tmod_eq_emod_of_nonneg (by omega)]; have := HTM.out; omega
          have em' : (m.length : Int) % 2 = 0 := by have := HTM.out; omega
          clear ho
          by_cases k1 : cmp (ky r) (ky x0.toNat) < 0
          · go_upto_region 11 with (go_at_call 14; refine (order_any _ _ (by assumption) (by assumption) _).mono ?_; rintro e w' ⟨rfl, rfl⟩)
            go_upto_region 12 with (go_at_call 22; refine (mean_any _ 2 [a, a] _ (fl_two _ a a) (by simp)).mono ?_; rintro e wx ⟨x, rfl, HX, HGX⟩)
            have HXH := Lib.hid HX
            clear HX
            by_cases g1 : 9094988921128908188 < vl a.toNat
            · go_wp2_with (go_at_call 11; refine (live22 _).mono ?_; rintro e wl ⟨rfl, HBL⟩)
              go_ret
              have b1 := HB.out
              have b2 := b1.trans ((alloc1 _ (.cells #[encF a, encF a] 22)).mono b1.size)
              have b3 := b2.trans (HGX.below.mono b2.size)
              exact ⟨rfl, b3.trans (HBL.mono b3.size)⟩
            · by_cases g2 : vl a.toNat < -9094988921128908188
              · go_wp2_with (go_at_call 11; refine (live22 _).mono ?_; rintro e wl ⟨rfl, HBL⟩)
                go_ret
                have b1 := HB.out
                have b2 := b1.trans ((alloc1 _ (.cells #[encF a, encF a] 22)).mono b1.size)
                have b3 := b2.trans (HGX.below.mono b2.size)
                exact ⟨rfl, b3.trans (HBL.mono b3.size)⟩
              · obtain ⟨nx, vx⟩ := mean_two' HXH.out na ⟨by omega, by omega⟩
                have hde : decide (vl x = vl a.toNat) = true := decide_eq_true vx
                clear vx
                go_wp2_with (go_at_call 11; refine (live22 _).mono ?_; rintro e wl ⟨rfl, HBL⟩)
                go_ret
                have b1 := HB.out
                have b2 := b1.trans ((alloc1 _ (.cells #[encF a, encF a] 22)).mono b1.size)
                have b3 := b2.trans (HGX.below.mono b2.size)
                exact ⟨rfl, b3.trans (HBL.mono b3.size)⟩
          · by_cases k2 : 0 < cmp (ky r) (ky xl.toNat)
            · go_upto_region 11 with (go_at_call 14; refine (order_any _ _ (by assumption) (by assumption) _).mono ?_; rintro e w' ⟨rfl, rfl⟩)
              go_upto_region 12 with (go_at_call 22; refine (mean_any _ 2 [a, a] _ (fl_two _ a a) (by simp)).mono ?_; rintro e wx ⟨x, rfl, HX, HGX⟩)
              have HXH := Lib.hid HX
              clear HX
              by_cases g1 : 9094988921128908188 < vl a.toNat
              · go_wp2_with (go_at_call 11; refine (live22 _).mono ?_; rintro e wl ⟨rfl, HBL⟩)
                go_ret
                have b1 := HB.out
                have b2 := b1.trans ((alloc1 _ (.cells #[encF a, encF a] 22)).mono b1.size)
                have b3 := b2.trans (HGX.below.mono b2.size)
                exact ⟨rfl, b3.trans (HBL.mono b3.size)⟩
              · by_cases g2 : vl a.toNat < -9094988921128908188
                · go_wp2_with (go_at_call 11; refine (live22 _).mono ?_; rintro e wl ⟨rfl, HBL⟩)
                  go_ret
                  have b1 := HB.out
                  have b2 := b1.trans ((alloc1 _ (.cells #[encF a, encF a] 22)).mono b1.size)
                  have b3 := b2.trans (HGX.below.mono b2.size)
                  exact ⟨rfl, b3.trans (HBL.mono b3.size)⟩
                · obtain ⟨nx, vx⟩ := mean_two' HXH.out na ⟨by omega, by omega⟩
                  have hde : decide (vl x = vl a.toNat) = true := decide_eq_true vx
                  clear vx
                  go_wp2_with (go_at_call 11; refine (live22 _).mono ?_; rintro e wl ⟨rfl, HBL⟩)
                  go_ret
                  have b1 := HB.out
                  have b2 := b1.trans ((alloc1 _ (.cells #[encF a, encF a] 22)).mono b1.size)
                  have b3 := b2.trans (HGX.below.mono b2.size)
                  exact ⟨rfl, b3.trans (HBL.mono b3.size)⟩
            · go_upto_region 11 with (go_at_call 14; refine (order_any _ _ (by assumption) (by assumption) _).mono ?_; rintro e w' ⟨rfl, rfl⟩)
              go_upto_region 12 with (go_at_call 22; refine (mean_any _ 2 [a, a] _ (fl_two _ a a) (by simp)).mono ?_; rintro e wx ⟨x, rfl, HX, HGX⟩)
              have HXH := Lib.hid HX
              clear HX
              by_cases g1 : 9094988921128908188 < vl a.toNat
              · go_wp2_with (go_at_call 11; refine (live22 _).mono ?_; rintro e wl ⟨rfl, HBL⟩)
                go_ret
                have b1 := HB.out
                have b2 := b1.trans ((alloc1 _ (.cells #[encF a, encF a] 22)).mono b1.size)
                have b3 := b2.trans (HGX.below.mono b2.size)
                exact ⟨rfl, b3.trans (HBL.mono b3.size)⟩
              · by_cases g2 : vl a.toNat < -9094988921128908188
                · go_wp2_with (go_at_call 11; refine (live22 _).mono ?_; rintro e wl ⟨rfl, HBL⟩)
                  go_ret
                  have b1 := HB.out
                  have b2 := b1.trans ((alloc1 _ (.cells #[encF a, encF a] 22)).mono b1.size)
                  have b3 := b2.trans (HGX.below.mono b2.size)
                  exact ⟨rfl, b3.trans (HBL.mono b3.size)⟩
                · obtain ⟨nx, vx⟩ := mean_two' HXH.out na ⟨by omega, by omega⟩
                  have hde : decide (vl x = vl a.toNat) = true := decide_eq_true vx
                  clear vx
                  go_wp2_with (go_at_call 11; refine (live22 _).mono ?_; rintro e wl ⟨rfl, HBL⟩)
                  go_ret
                  have b1 := HB.out
                  have b2 := b1.trans ((alloc1 _ (.cells #[encF a, encF a] 22)).mono b1.size)
                  have b3 := b2.trans (HGX.below.mono b2.size)
                  exact ⟨rfl, b3.trans (HBL.mono b3.size)⟩
      · go_upto_region 11 with (go_at_call 14; refine (order_any _ _ (by assumption) (by assumption) _).mono ?_; rintro e w' ⟨rfl, rfl⟩)
        go_upto_region 12 with (go_at_call 22; refine (mean_any _ 2 [a, a] _ (fl_two _ a a) (by simp)).mono ?_; rintro e wx ⟨x, rfl, HX, HGX⟩)
        have HXH := Lib.hid HX
        clear HX
        by_cases g1 : 9094988921128908188 < vl a.toNat
        · go_wp2_with (go_at_call 11; refine (live22 _).mono ?_; rintro e wl ⟨rfl, HBL⟩)
          go_ret
          have b1 := HB.out
          have b2 := b1.trans ((alloc1 _ (.cells #[encF a, encF a] 22)).mono b1.size)
          have b3 := b2.trans (HGX.below.mono b2.size)
          exact ⟨rfl, b3.trans (HBL.mono b3.size)⟩
        · by_cases g2 : vl a.toNat < -9094988921128908188
          · go_wp2_with (go_at_call 11; refine (live22 _).mono ?_; rintro e wl ⟨rfl, HBL⟩)
            go_ret
            have b1 := HB.out
            have b2 := b1.trans ((alloc1 _ (.cells #[encF a, encF a] 22)).mono b1.size)
            have b3 := b2.trans (HGX.below.mono b2.size)
            exact ⟨rfl, b3.trans (HBL.mono b3.size)⟩
          · obtain ⟨nx, vx⟩ := mean_two' HXH.out na ⟨by omega, by omega⟩
            have hde : decide (vl x = vl a.toNat) = true := decide_eq_true vx
            clear vx
            go_wp2_with (go_at_call 11; refine (live22 _).mono ?_; rintro e wl ⟨rfl, HBL⟩)
            go_ret
            have b1 := HB.out
            have b2 := b1.trans ((alloc1 _ (.cells #[encF a, encF a] 22)).mono b1.size)
            have b3 := b2.trans (HGX.below.mono b2.size)
            exact ⟨rfl, b3.trans (HBL.mono b3.size)⟩
  · have hd1 : decide (vl a.toNat = vl b.toNat) = false := decide_eq_false (by omega)
    have hd2 : decide (vl a.toNat < vl b.toNat) = false := decide_eq_false (by omega)
    clear hv
    go_upto_region 4 with (go_at_call 30; refine (mille_any _ (by assumption) _).mono ?_; rintro e w' ⟨rfl, rfl⟩)
    go_upto_region 5 with (go_at_call 24; refine (median_any A c m _ HS.out HM.out HZ.out (by omega)).mono ?_; rintro e wm ⟨s, r, rfl, p1, o1, HMD, HBm⟩)
    have HM2 := Lib.hid (fl_below HM.out HBm)
    have HMH := Lib.hid HMD
    have HBM := Lib.hid HBm
    have HQ1 := Lib.hid (And.intro p1 o1)
    have lr := HMD.lt
    clear HMD HBm p1 o1
    go_upto_region 6 with (go_at_call 17; refine (sort_any A c m _ HS.out HM2.out HZ.out (by omega)).mono ?_; rintro e ws ⟨B, cap, t, rfl, p2, o2, HT, HBs⟩)
    have heq : ((t.length : Int) != (m.length : Int)) = false := by simp [p2.length_eq]
    have htm : t.length = m.length := p2.length_eq
    have ht60 : t.length ≤ 60 := by omega
    have HTM := Lib.hid htm
    have HB := Lib.hid (HBM.out.trans (HBs.mono HBM.out.size))
    have HQ2 := Lib.hid (And.intro p2 o2)
    have HTT := Lib.hid HT
    clear htm p2 o2 HT HBs
    by_cases h0 : t.length = 0
    · have h0z : ¬ (0 : Int) < (t.length : Int) := by omega
      have H0 := Lib.hid h0
      clear h0
      go_upto_region 11 with (go_at_call 14; refine (order_any _ _ (by assumption) (by assumption) _).mono ?_; rintro e w' ⟨rfl, rfl⟩)
      go_upto_region 12 with (go_at_call 22; refine (mean_any _ 2 [a, a] _ (fl_two _ a a) (by simp)).mono ?_; rintro e wx ⟨x, rfl, HX, HGX⟩)
      have HXH := Lib.hid HX
      clear HX
      by_cases g1 : 9094988921128908188 < vl a.toNat
      · go_wp2_with (go_at_call 11; refine (live22 _).mono ?_; rintro e wl ⟨rfl, HBL⟩)
        go_ret
        have b1 := HB.out
        have b2 := b1.trans ((alloc1 _ (.cells #[encF a, encF a] 22)).mono b1.size)
        have b3 := b2.trans (HGX.below.mono b2.size)
        exact ⟨rfl, b3.trans (HBL.mono b3.size)⟩
      · by_cases g2 : vl a.toNat < -9094988921128908188
        · go_wp2_with (go_at_call 11; refine (live22 _).mono ?_; rintro e wl ⟨rfl, HBL⟩)
          go_ret
          have b1 := HB.out
          have b2 := b1.trans ((alloc1 _ (.cells #[encF a, encF a] 22)).mono b1.size)
          have b3 := b2.trans (HGX.below.mono b2.size)
          exact ⟨rfl, b3.trans (HBL.mono b3.size)⟩
        · obtain ⟨nx, vx⟩ := mean_two' HXH.out na ⟨by omega, by omega⟩
          have hde : decide (vl x = vl a.toNat) = true := decide_eq_true vx
          clear vx
          go_wp2_with (go_at_call 11; refine (live22 _).mono ?_; rintro e wl ⟨rfl, HBL⟩)
          go_ret
          have b1 := HB.out
          have b2 := b1.trans ((alloc1 _ (.cells #[encF a, encF a] 22)).mono b1.size)
          have b3 := b2.trans (HGX.below.mono b2.size)
          exact ⟨rfl, b3.trans (HBL.mono b3.size)⟩
    · have h0z : (0 : Int) < (t.length : Int) := by omega
      obtain ⟨bk, off, rfl, hbk, hF⟩ := HTT.out (by omega)
      obtain ⟨n, hn⟩ : ∃ n, n = t.length - 1 := ⟨_, rfl⟩
      have hnl : n < t.length := by omega
      obtain ⟨x0, hx0⟩ : ∃ x0 : UInt64, x0 = t[0]'(by omega) := ⟨_, rfl⟩
      obtain ⟨xl, hxl⟩ : ∃ xl : UInt64, xl = t[n]'hnl := ⟨_, rfl⟩
      have c0 := hF 0 (by omega)
      have c1 := hF n hnl
      rw [← hx0, Nat.add_zero] at c0
      rw [← hxl] at c1
      have l0 := u_lt x0
      have ll := u_lt xl
      have p0 : (0 : Int) ≤ (t.length : Int) - 1 := by omega
      have p1 : (t.length : Int) - 1 < (t.length : Int) := by omega
      have p2 : ((t.length : Int) - 1).toNat = n := by omega
      have HX0 := Lib.hid hx0
      have HXL := Lib.hid hxl
      have HN := Lib.hid hn
      clear hx0 hxl hn hF
      cases nr : isN r
      · by_cases ho : t.length % 2 = 1
        · have hin := med_in HQ1.out.1 HQ2.out.1 HQ1.out.2 HQ2.out.2 HMH.out nr ho (by omega)
          have k1 : ¬ cmp (ky r) (ky x0.toNat) < 0 := fun h => by
            have h2 := cmp_lt.1 h
            rw [HX0.out] at h2
            exact absurd h2 (Int.not_lt.2 hin.1)
          have k2 : ¬ 0 < cmp (ky r) (ky xl.toNat) := fun h => by
            have h2 := cmp_gt.1 h
            have h3 : xl = t[t.length - 1]'(by omega) := by rw [HXL.out]; (congr 1) <;> exact HN.out
            rw [h3] at h2
            exact absurd h2 (Int.not_lt.2 hin.2)
          have HO := Lib.hid ho
          clear ho hin
          go_upto_region 11 with (go_at_call 14; refine (order_any _ _ (by assumption) (by assumption) _).mono ?_; rintro e w' ⟨rfl, rfl⟩)
          go_upto_region 12 with (go_at_call 22; refine (mean_any _ 2 [a, a] _ (fl_two _ a a) (by simp)).mono ?_; rintro e wx ⟨x, rfl, HX, HGX⟩)
          have HXH := Lib.hid HX
          clear HX
          by_cases g1 : 9094988921128908188 < vl a.toNat
          · go_wp2_with (go_at_call 11; refine (live22 _).mono ?_; rintro e wl ⟨rfl, HBL⟩)
            go_ret
            have b1 := HB.out
            have b2 := b1.trans ((alloc1 _ (.cells #[encF a, encF a] 22)).mono b1.size)
            have b3 := b2.trans (HGX.below.mono b2.size)
            exact ⟨rfl, b3.trans (HBL.mono b3.size)⟩
          · by_cases g2 : vl a.toNat < -9094988921128908188
            · go_wp2_with (go_at_call 11; refine (live22 _).mono ?_; rintro e wl ⟨rfl, HBL⟩)
              go_ret
              have b1 := HB.out
              have b2 := b1.trans ((alloc1 _ (.cells #[encF a, encF a] 22)).mono b1.size)
              have b3 := b2.trans (HGX.below.mono b2.size)
              exact ⟨rfl, b3.trans (HBL.mono b3.size)⟩
            · obtain ⟨nx, vx⟩ := mean_two' HXH.out na ⟨by omega, by omega⟩
              have hde : decide (vl x = vl a.toNat) = true := decide_eq_true vx
              clear vx
              go_wp2_with (go_at_call 11; refine (live22 _).mono ?_; rintro e wl ⟨rfl, HBL⟩)
              go_ret
              have b1 := HB.out
              have b2 := b1.trans ((alloc1 _ (.cells #[encF a, encF a] 22)).mono b1.size)
              have b3 := b2.trans (HGX.below.mono b2.size)
              exact ⟨rfl, b3.trans (HBL.mono b3.size)⟩
        · have em : (m.length : Int).tmod 2 = 0 := by rw [Int.tmod_eq_emod_of_nonneg (by omega)]; have := HTM.out; omega
          have em' : (m.length : Int) % 2 = 0 := by have := HTM.out; omega
          clear ho
          by_cases k1 : cmp (ky r) (ky x0.toNat) < 0
          · go_upto_region 11 with (go_at_call 14; refine (order_any _ _ (by assumption) (by assumption) _).mono ?_; rintro e w' ⟨rfl, rfl⟩)
            go_upto_region 12 with (go_at_call 22; refine (mean_any _ 2 [a, a] _ (fl_two _ a a) (by simp)).mono ?_; rintro e wx ⟨x, rfl, HX, HGX⟩)
            have HXH := Lib.hid HX
            clear HX
            by_cases g1 : 9094988921128908188 < vl a.toNat
            · go_wp2_with (go_at_call 11; refine (live22 _).mono ?_; rintro e wl ⟨rfl, HBL⟩)
              go_ret
              have b1 := HB.out
              have b2 := b1.trans ((alloc1 _ (.cells #[encF a, encF a] 22)).mono b1.size)
              have b3 := b2.trans (HGX.below.mono b2.size)
              exact ⟨rfl, b3.trans (HBL.mono b3.size)⟩
            · by_cases g2 : vl a.toNat < -9094988921128908188
              · go_wp2_with (go_at_call 11; refine (live22 _).mono ?_; rintro e wl ⟨rfl, HBL⟩)
                go_ret
                have b1 := HB.out
                have b2 := b1.trans ((alloc1 _ (.cells #[encF a, encF a] 22)).mono b1.size)
                have b3 := b2.trans (HGX.below.mono b2.size)
                exact ⟨rfl, b3.trans (HBL.mono b3.size)⟩
              · obtain ⟨nx, vx⟩ := mean_two' HXH.out na ⟨by omega, by omega⟩
                have hde : decide (vl x = vl a.toNat) = true := decide_eq_true vx
                clear vx
                go_wp2_with (go_at_call 11; refine (live22 _).mono ?_; rintro e wl ⟨rfl, HBL⟩)
                go_ret
                have b1 := HB.out
                have b2 := b1.trans ((alloc1 _ (.cells #[encF a, encF a] 22)).mono b1.size)
                have b3 := b2.trans (HGX.below.mono b2.size)
                exact ⟨rfl, b3.trans (HBL.mono b3.size)⟩
          · by_cases k2 : 0 < cmp (ky r) (ky xl.toNat)
            · go_upto_region 11 with (go_at_call 14; refine (order_any _ _ (by assumption) (by assumption) _).mono ?_; rintro e w' ⟨rfl, rfl⟩)
              go_upto_region 12 with (go_at_call 22; refine (mean_any _ 2 [a, a] _ (fl_two _ a a) (by simp)).mono ?_; rintro e wx ⟨x, rfl, HX, HGX⟩)
              have HXH := Lib.hid HX
              clear HX
              by_cases g1 : 9094988921128908188 < vl a.toNat
              · go_wp2_with (go_at_call 11; refine (live22 _).mono ?_; rintro e wl ⟨rfl, HBL⟩)
                go_ret
                have b1 := HB.out
                have b2 := b1.trans ((alloc1 _ (.cells #[encF a, encF a] 22)).mono b1.size)
                have b3 := b2.trans (HGX.below.mono b2.size)
                exact ⟨rfl, b3.trans (HBL.mono b3.size)⟩
              · by_cases g2 : vl a.toNat < -9094988921128908188
                · go_wp2_with (go_at_call 11; refine (live22 _).mono ?_; rintro e wl ⟨rfl, HBL⟩)
                  go_ret
                  have b1 := HB.out
                  have b2 := b1.trans ((alloc1 _ (.cells #[encF a, encF a] 22)).mono b1.size)
                  have b3 := b2.trans (HGX.below.mono b2.size)
                  exact ⟨rfl, b3.trans (HBL.mono b3.size)⟩
                · obtain ⟨nx, vx⟩ := mean_two' HXH.out na ⟨by omega, by omega⟩
                  have hde : decide (vl x = vl a.toNat) = true := decide_eq_true vx
                  clear vx
                  go_wp2_with (go_at_call 11; refine (live22 _).mono ?_; rintro e wl ⟨rfl, HBL⟩)
                  go_ret
                  have b1 := HB.out
                  have b2 := b1.trans ((alloc1 _ (.cells #[encF a, encF a] 22)).mono b1.size)
                  have b3 := b2.trans (HGX.below.mono b2.size)
                  exact ⟨rfl, b3.trans (HBL.mono b3.size)⟩
            · go_upto_region 11 with (go_at_call 14; refine (order_any _ _ (by assumption) (by assumption) _).mono ?_; rintro e w' ⟨rfl, rfl⟩)
              go_upto_region 12 with (go_at_call 22; refine (mean_any _ 2 [a, a] _ (fl_two _ a a) (by simp)).mono ?_; rintro e wx ⟨x, rfl, HX, HGX⟩)
              have HXH := Lib.hid HX
              clear HX
              by_cases g1 : 9094988921128908188 < vl a.toNat
              · go_wp2_with (go_at_call 11; refine (live22 _).mono ?_; rintro e wl ⟨rfl, HBL⟩)
                go_ret
                have b1 := HB.out
                have b2 := b1.trans ((alloc1 _ (.cells #[encF a, encF a] 22)).mono b1.size)
                have b3 := b2.trans (HGX.below.mono b2.size)
                exact ⟨rfl, b3.trans (HBL.mono b3.size)⟩
              · by_cases g2 : vl a.toNat < -9094988921128908188
                · go_wp2_with (go_at_call 11; refine (live22 _).mono ?_; rintro e wl ⟨rfl, HBL⟩)
                  go_ret
                  have b1 := HB.out
                  have b2 := b1.trans ((alloc1 _ (.cells #[encF a, encF a] 22)).mono b1.size)
                  have b3 := b2.trans (HGX.below.mono b2.size)
                  exact ⟨rfl, b3.trans (HBL.mono b3.size)⟩
                · obtain ⟨nx, vx⟩ := mean_two' HXH.out na ⟨by omega, by omega⟩
                  have hde : decide (vl x = vl a.toNat) = true := decide_eq_true vx
                  clear vx
                  go_wp2_with (go_at_call 11; refine (live22 _).mono ?_; rintro e wl ⟨rfl, HBL⟩)
                  go_ret
                  have b1 := HB.out
                  have b2 := b1.trans ((alloc1 _ (.cells #[encF a, encF a] 22)).mono b1.size)
                  have b3 := b2.trans (HGX.below.mono b2.size)
                  exact ⟨rfl, b3.trans (HBL.mono b3.size)⟩
      · go_upto_region 11 with (go_at_call 14; refine (order_any _ _ (by assumption) (by assumption) _).mono ?_; rintro e w' ⟨rfl, rfl⟩)
        go_upto_region 12 with (go_at_call 22; refine (mean_any _ 2 [a, a] _ (fl_two _ a a) (by simp)).mono ?_; rintro e wx ⟨x, rfl, HX, HGX⟩)
        have HXH := Lib.hid HX
        clear HX
        by_cases g1 : 9094988921128908188 < vl a.toNat
        · go_wp2_with (go_at_call 11; refine (live22 _).mono ?_; rintro e wl ⟨rfl, HBL⟩)
          go_ret
          have b1 := HB.out
          have b2 := b1.trans ((alloc1 _ (.cells #[encF a, encF a] 22)).mono b1.size)
          have b3 := b2.trans (HGX.below.mono b2.size)
          exact ⟨rfl, b3.trans (HBL.mono b3.size)⟩
        · by_cases g2 : vl a.toNat < -9094988921128908188
          · go_wp2_with (go_at_call 11; refine (live22 _).mono ?_; rintro e wl ⟨rfl, HBL⟩)
            go_ret
            have b1 := HB.out
            have b2 := b1.trans ((alloc1 _ (.cells #[encF a, encF a] 22)).mono b1.size)
            have b3 := b2.trans (HGX.below.mono b2.size)
            exact ⟨rfl, b3.trans (HBL.mono b3.size)⟩
          · obtain ⟨nx, vx⟩ := mean_two' HXH.out na ⟨by omega, by omega⟩
            have hde : decide (vl x = vl a.toNat) = true := decide_eq_true vx
            clear vx
            go_wp2_with (go_at_call 11; refine (live22 _).mono ?_; rintro e wl ⟨rfl, HBL⟩)
            go_ret
            have b1 := HB.out
            have b2 := b1.trans ((alloc1 _ (.cells #[encF a, encF a] 22)).mono b1.size)
            have b3 := b2.trans (HGX.below.mono b2.size)
            exact ⟨rfl, b3.trans (HBL.mono b3.size)⟩
  · have hml := ml_mono na nb (Int.le_of_lt hv)
    have hml' : ¬ ml b.toNat < ml a.toNat := by omega
    go_upto_region 4 with (go_at_call 30; refine (mille_any _ (by assumption) _).mono ?_; rintro e w' ⟨rfl, rfl⟩)
    go_upto_region 5 with (go_at_call 24; refine (median_any A c m _ HS.out HM.out HZ.out (by omega)).mono ?_; rintro e wm ⟨s, r, rfl, p1, o1, HMD, HBm⟩)
    have HM2 := Lib.hid (fl_below HM.out HBm)
    have HMH := Lib.hid HMD
    have HBM := Lib.hid HBm
    have HQ1 := Lib.hid (And.intro p1 o1)
    have lr := HMD.lt
    clear HMD HBm p1 o1
    go_upto_region 6 with (go_at_call 17; refine (sort_any A c m _ HS.out HM2.out HZ.out (by omega)).mono ?_; rintro e ws ⟨B, cap, t, rfl, p2, o2, HT, HBs⟩)
    have heq : ((t.length : Int) != (m.length : Int)) = false := by simp [p2.length_eq]
    have htm : t.length = m.length := p2.length_eq
    have ht60 : t.length ≤ 60 := by omega
    have HTM := Lib.hid htm
    have HB := Lib.hid (HBM.out.trans (HBs.mono HBM.out.size))
    have HQ2 := Lib.hid (And.intro p2 o2)
    have HTT := Lib.hid HT
    clear htm p2 o2 HT HBs
    by_cases h0 : t.length = 0
    · have h0z : ¬ (0 : Int) < (t.length : Int) := by omega
      have H0 := Lib.hid h0
      clear h0
      go_upto_region 11 with (go_at_call 14; refine (order_any _ _ (by assumption) (by assumption) _).mono ?_; rintro e w' ⟨rfl, rfl⟩)
      go_upto_region 12 with (go_at_call 22; refine (mean_any _ 2 [a, a] _ (fl_two _ a a) (by simp)).mono ?_; rintro e wx ⟨x, rfl, HX, HGX⟩)
      have HXH := Lib.hid HX
      clear HX
      by_cases g1 : 9094988921128908188 < vl a.toNat
      · go_wp2_with (go_at_call 11; refine (live22 _).mono ?_; rintro e wl ⟨rfl, HBL⟩)
        go_ret
        have b1 := HB.out
        have b2 := b1.trans ((alloc1 _ (.cells #[encF a, encF a] 22)).mono b1.size)
        have b3 := b2.trans (HGX.below.mono b2.size)
        exact ⟨rfl, b3.trans (HBL.mono b3.size)⟩
      · by_cases g2 : vl a.toNat < -9094988921128908188
        · go_wp2_with (go_at_call 11; refine (live22 _).mono ?_; rintro e wl ⟨rfl, HBL⟩)
          go_ret
          have b1 := HB.out
          have b2 := b1.trans ((alloc1 _ (.cells #[encF a, encF a] 22)).mono b1.size)
          have b3 := b2.trans (HGX.below.mono b2.size)
          exact ⟨rfl, b3.trans (HBL.mono b3.size)⟩
        · obtain ⟨nx, vx⟩ := mean_two' HXH.out na ⟨by omega, by omega⟩
          have hde : decide (vl x = vl a.toNat) = true := decide_eq_true vx
          clear vx
          go_wp2_with (go_at_call 11; refine (live22 _).mono ?_; rintro e wl ⟨rfl, HBL⟩)
          go_ret
          have b1 := HB.out
          have b2 := b1.trans ((alloc1 _ (.cells #[encF a, encF a] 22)).mono b1.size)
          have b3 := b2.trans (HGX.below.mono b2.size)
          exact ⟨rfl, b3.trans (HBL.mono b3.size)⟩
    · have h0z : (0 : Int) < (t.length : Int) := by omega
      obtain ⟨bk, off, rfl, hbk, hF⟩ := HTT.out (by omega)
      obtain ⟨n, hn⟩ : ∃ n, n = t.length - 1 := ⟨_, rfl⟩
      have hnl : n < t.length := by omega
      obtain ⟨x0, hx0⟩ : ∃ x0 : UInt64, x0 = t[0]'(by omega) := ⟨_, rfl⟩
      obtain ⟨xl, hxl⟩ : ∃ xl : UInt64, xl = t[n]'hnl := ⟨_, rfl⟩
      have c0 := hF 0 (by omega)
      have c1 := hF n hnl
      rw [← hx0, Nat.add_zero] at c0
      rw [← hxl] at c1
      have l0 := u_lt x0
      have ll := u_lt xl
      have p0 : (0 : Int) ≤ (t.length : Int) - 1 := by omega
      have p1 : (t.length : Int) - 1 < (t.length : Int) := by omega
      have p2 : ((t.length : Int) - 1).toNat = n := by omega
      have HX0 := Lib.hid hx0
      have HXL := Lib.hid hxl
      have HN := Lib.hid hn
      clear hx0 hxl hn hF
      cases nr : isN r
      · by_cases ho : t.length % 2 = 1
        · have hin := med_in HQ1.out.1 HQ2.out.1 HQ1.out.2 HQ2.out.2 HMH.out nr ho (by omega)
          have k1 : ¬ cmp (ky r) (ky x0.toNat) < 0 := fun h => by
            have h2 := cmp_lt.1 h
            rw [HX0.out] at h2
            exact absurd h2 (Int.not_lt.2 hin.1)
          have k2 : ¬ 0 < cmp (ky r) (ky xl.toNat) := fun h => by
            have h2 := cmp_gt.1 h
            have h3 : xl = t[t.length - 1]'(by omega) := by rw [HXL.out]; (congr 1) <;> exact HN.out
            rw [h3] at h2
            exact absurd h2 (Int.not_lt.2 hin.2)
          have HO := Lib.hid ho
          clear ho hin
          go_upto_region 11 with (go_at_call 14; refine (order_any _ _ (by assumption) (by assumption) _).mono ?_; rintro e w' ⟨rfl, rfl⟩)
          go_upto_region 12 with (go_at_call 22; refine (mean_any _ 2 [a, a] _ (fl_two _ a a) (by simp)).mono ?_; rintro e wx ⟨x, rfl, HX, HGX⟩)
          have HXH := Lib.hid HX
          clear HX
          by_cases g1 : 9094988921128908188 < vl a.toNat
          · go_wp2_with (go_at_call 11; refine (live22 _).mono ?_; rintro e wl ⟨rfl, HBL⟩)
            go_ret
            have b1 := HB.out
            have b2 := b1.trans ((alloc1 _ (.cells #[encF a, encF a] 22)).mono b1.size)
            have b3 := b2.trans (HGX.below.mono b2.size)
            exact ⟨rfl, b3.trans (HBL.mono b3.size)⟩
          · by_cases g2 : vl a.toNat < -9094988921128908188
            · go_wp2_with (go_at_call 11; refine (live22 _).mono ?_; rintro e wl ⟨rfl, HBL⟩)
              go_ret
              have b1 := HB.out
              have b2 := b1.trans ((alloc1 _ (.cells #[encF a, encF a] 22)).mono b1.size)
              have b3 := b2.trans (HGX.below.mono b2.size)
              exact ⟨rfl, b3.trans (HBL.mono b3.size)⟩
            · obtain ⟨nx, vx⟩ := mean_two' HXH.out na ⟨by omega, by omega⟩
              have hde : decide (vl x = vl a.toNat) = true := decide_eq_true vx
              clear vx
              go_wp2_with (go_at_call 11; refine (live22 _).mono ?_; rintro e wl ⟨rfl, HBL⟩)
              go_ret
              have b1 := HB.out
              have b2 := b1.trans ((alloc1 _ (.cells #[encF a, encF a] 22)).mono b1.size)
              have b3 := b2.trans (HGX.below.mono b2.size)
              exact ⟨rfl, b3.trans (HBL.mono b3.size)⟩
        · have em : (m.length : Int).tmod 2 = 0 := by rw [Int.tmod_eq_emod_of_nonneg (by omega)]; have := HTM.out; omega
          have em' : (m.length : Int) % 2 = 0 := by have := HTM.out; omega
          clear ho
          by_cases k1 : cmp (ky r) (ky x0.toNat) < 0
          · go_upto_region 11 with (go_at_call 14; refine (order_any _ _ (by assumption) (by assumption) _).mono ?_; rintro e w' ⟨rfl, rfl⟩)
            go_upto_region 12 with (go_at_call 22; refine (mean_any _ 2 [a, a] _ (fl_two _ a a) (by simp)).mono ?_; rintro e wx ⟨x, rfl, HX, HGX⟩)
            have HXH := Lib.hid HX
            clear HX
            by_cases g1 : 9094988921128908188 < vl a.toNat
            · go_wp2_with (go_at_call 11; refine (live22 _).mono ?_; rintro e wl ⟨rfl, HBL⟩)
              go_ret
              have b1 := HB.out
              have b2 := b1.trans ((alloc1 _ (.cells #[encF a, encF a] 22)).mono b1.size)
              have b3 := b2.trans (HGX.below.mono b2.size)
              exact ⟨rfl, b3.trans (HBL.mono b3.size)⟩
            · by_cases g2 : vl a.toNat < -9094988921128908188
              · go_wp2_with (go_at_call 11; refine (live22 _).mono ?_; rintro e wl ⟨rfl, HBL⟩)
                go_ret
                have b1 := HB.out
                have b2 := b1.trans ((alloc1 _ (.cells #[encF a, encF a] 22)).mono b1.size)
                have b3 := b2.trans (HGX.below.mono b2.size)
                exact ⟨rfl, b3.trans (HBL.mono b3.size)⟩
              · obtain ⟨nx, vx⟩ := mean_two' HXH.out na ⟨by omega, by omega⟩
                have hde : decide (vl x = vl a.toNat) = true := decide_eq_true vx
                clear vx
                go_wp2_with (go_at_call 11; refine (live22 _).mono ?_; rintro e wl ⟨rfl, HBL⟩)
                go_ret
                have b1 := HB.out
                have b2 := b1.trans ((alloc1 _ (.cells #[encF a, encF a] 22)).mono b1.size)
                have b3 := b2.trans (HGX.below.mono b2.size)
                exact ⟨rfl, b3.trans (HBL.mono b3.size)⟩
          · by_cases k2 : 0 < cmp (ky r) (ky xl.toNat)
            · go_upto_region 11 with (go_at_call 14; refine (order_any _ _ (by assumption) (by assumption) _).mono ?_; rintro e w' ⟨rfl, rfl⟩)
              go_upto_region 12 with (go_at_call 22; refine (mean_any _ 2 [a, a] _ (fl_two _ a a) (by simp)).mono ?_; rintro e wx ⟨x, rfl, HX, HGX⟩)
              have HXH := Lib.hid HX
              clear HX
              by_cases g1 : 9094988921128908188 < vl a.toNat
              · go_wp2_with (go_at_call 11; refine (live22 _).mono ?_; rintro e wl ⟨rfl, HBL⟩)
                go_ret
                have b1 := HB.out
                have b2 := b1.trans ((alloc1 _ (.cells #[encF a, encF a] 22)).mono b1.size)
                have b3 := b2.trans (HGX.below.mono b2.size)
                exact ⟨rfl, b3.trans (HBL.mono b3.size)⟩
              · by_cases g2 : vl a.toNat < -9094988921128908188
                · go_wp2_with (go_at_call 11; refine (live22 _).mono ?_; rintro e wl ⟨rfl, HBL⟩)
                  go_ret
                  have b1 := HB.out
                  have b2 := b1.trans ((alloc1 _ (.cells #[encF a, encF a] 22)).mono b1.size)
                  have b3 := b2.trans (HGX.below.mono b2.size)
                  exact ⟨rfl, b3.trans (HBL.mono b3.size)⟩
                · obtain ⟨nx, vx⟩ := mean_two' HXH.out na ⟨by omega, by omega⟩
                  have hde : decide (vl x = vl a.toNat) = true := decide_eq_true vx
                  clear vx
                  go_wp2_with (go_at_call 11; refine (live22 _).mono ?_; rintro e wl ⟨rfl, HBL⟩)
                  go_ret
                  have b1 := HB.out
                  have b2 := b1.trans ((alloc1 _ (.cells #[encF a, encF a] 22)).mono b1.size)
                  have b3 := b2.trans (HGX.below.mono b2.size)
                  exact ⟨rfl, b3.trans (HBL.mono b3.size)⟩
            · go_upto_region 11 with (go_at_call 14; refine (order_any _ _ (by assumption) (by assumption) _).mono ?_; rintro e w' ⟨rfl, rfl⟩)
              go_upto_region 12 with (go_at_call 22; refine (mean_any _ 2 [a, a] _ (fl_two _ a a) (by simp)).mono ?_; rintro e wx ⟨x, rfl, HX, HGX⟩)
              have HXH := Lib.hid HX
              clear HX
              by_cases g1 : 9094988921128908188 < vl a.toNat
              · go_wp2_with (go_at_call 11; refine (live22 _).mono ?_; rintro e wl ⟨rfl, HBL⟩)
                go_ret
                have b1 := HB.out
                have b2 := b1.trans ((alloc1 _ (.cells #[encF a, encF a] 22)).mono b1.size)
                have b3 := b2.trans (HGX.below.mono b2.size)
                exact ⟨rfl, b3.trans (HBL.mono b3.size)⟩
              · by_cases g2 : vl a.toNat < -9094988921128908188
                · go_wp2_with (go_at_call 11; refine (live22 _).mono ?_; rintro e wl ⟨rfl, HBL⟩)
                  go_ret
                  have b1 := HB.out
                  have b2 := b1.trans ((alloc1 _ (.cells #[encF a, encF a] 22)).mono b1.size)
                  have b3 := b2.trans (HGX.below.mono b2.size)
                  exact ⟨rfl, b3.trans (HBL.mono b3.size)⟩
                · obtain ⟨nx, vx⟩ := mean_two' HXH.out na ⟨by omega, by omega⟩
                  have hde : decide (vl x = vl a.toNat) = true := decide_eq_true vx
                  clear vx
                  go_wp2_with (go_at_call 11; refine (live22 _).mono ?_; rintro e wl ⟨rfl, HBL⟩)
                  go_ret
                  have b1 := HB.out
                  have b2 := b1.trans ((alloc1 _ (.cells #[encF a, encF a] 22)).mono b1.size)
                  have b3 := b2.trans (HGX.below.mono b2.size)
                  exact ⟨rfl, b3.trans (HBL.mono b3.size)⟩
      · go_upto_region 11 with (go_at_call 14; refine (order_any _ _ (by assumption) (by assumption) _).mono ?_; rintro e w' ⟨rfl, rfl⟩)
        go_upto_region 12 with (go_at_call 22; refine (mean_any _ 2 [a, a] _ (fl_two _ a a) (by simp)).mono ?_; rintro e wx ⟨x, rfl, HX, HGX⟩)
        have HXH := Lib.hid HX
        clear HX
        by_cases g1 : 9094988921128908188 < vl a.toNat
        · go_wp2_with (go_at_call 11; refine (live22 _).mono ?_; rintro e wl ⟨rfl, HBL⟩)
          go_ret
          have b1 := HB.out
          have b2 := b1.trans ((alloc1 _ (.cells #[encF a, encF a] 22)).mono b1.size)
          have b3 := b2.trans (HGX.below.mono b2.size)
          exact ⟨rfl, b3.trans (HBL.mono b3.size)⟩
        · by_cases g2 : vl a.toNat < -9094988921128908188
          · go_wp2_with (go_at_call 11; refine (live22 _).mono ?_; rintro e wl ⟨rfl, HBL⟩)
            go_ret
            have b1 := HB.out
            have b2 := b1.trans ((alloc1 _ (.cells #[encF a, encF a] 22)).mono b1.size)
            have b3 := b2.trans (HGX.below.mono b2.size)
            exact ⟨rfl, b3.trans (HBL.mono b3.size)⟩
          · obtain ⟨nx, vx⟩ := mean_two' HXH.out na ⟨by omega, by omega⟩
            have hde : decide (vl x = vl a.toNat) = true := decide_eq_true vx
            clear vx
            go_wp2_with (go_at_call 11; refine (live22 _).mono ?_; rintro e wl ⟨rfl, HBL⟩)
            go_ret
            have b1 := HB.out
            have b2 := b1.trans ((alloc1 _ (.cells #[encF a, encF a] 22)).mono b1.size)
            have b3 := b2.trans (HGX.below.mono b2.size)
            exact ⟨rfl, b3.trans (HBL.mono b3.size)⟩
  · have hml := ml_mono na nb (Int.le_of_eq hv)
    have hml' : ¬ ml b.toNat < ml a.toNat := by omega
    have hd1 : decide (vl a.toNat = vl b.toNat) = true := decide_eq_true hv
    have hd2 : decide (vl a.toNat < vl b.toNat) = false := decide_eq_false (by omega)
    clear hv
    go_upto_region 4 with (go_at_call 30; refine (mille_any _ (by assumption) _).mono ?_; rintro e w' ⟨rfl, rfl⟩)
    go_upto_region 5 with (go_at_call 24; refine (median_any A c m _ HS.out HM.out HZ.out (by omega)).mono ?_; rintro e wm ⟨s, r, rfl, p1, o1, HMD, HBm⟩)
    have HM2 := Lib.hid (fl_below HM.out HBm)
    have HMH := Lib.hid HMD
    have HBM := Lib.hid HBm
    have HQ1 := Lib.hid (And.intro p1 o1)
    have lr := HMD.lt
    clear HMD HBm p1 o1
    go_upto_region 6 with (go_at_call 17; refine (sort_any A c m _ HS.out HM2.out HZ.out (by omega)).mono ?_; rintro e ws ⟨B, cap, t, rfl, p2, o2, HT, HBs⟩)
    have heq : ((t.length : Int) != (m.length : Int)) = false := by simp [p2.length_eq]
    have htm : t.length = m.length := p2.length_eq
    have ht60 : t.length ≤ 60 := by omega
    have HTM := Lib.hid htm
    have HB := Lib.hid (HBM.out.trans (HBs.mono HBM.out.size))
    have HQ2 := Lib.hid (And.intro p2 o2)
    have HTT := Lib.hid HT
    clear htm p2 o2 HT HBs
    by_cases h0 : t.length = 0
    · have h0z : ¬ (0 : Int) < (t.length : Int) := by omega
      have H0 := Lib.hid h0
      clear h0
      go_upto_region 11 with (go_at_call 14; refine (order_any _ _ (by assumption) (by assumption) _).mono ?_; rintro e w' ⟨rfl, rfl⟩)
      go_upto_region 12 with (go_at_call 22; refine (mean_any _ 2 [a, a] _ (fl_two _ a a) (by simp)).mono ?_; rintro e wx ⟨x, rfl, HX, HGX⟩)
      have HXH := Lib.hid HX
      clear HX
      by_cases g1 : 9094988921128908188 < vl a.toNat
      · go_wp2_with (go_at_call 11; refine (live22 _).mono ?_; rintro e wl ⟨rfl, HBL⟩)
        go_ret
        have b1 := HB.out
        have b2 := b1.trans ((alloc1 _ (.cells #[encF a, encF a] 22)).mono b1.size)
        have b3 := b2.trans (HGX.below.mono b2.size)
        exact ⟨rfl, b3.trans (HBL.mono b3.size)⟩
      · by_cases g2 : vl a.toNat < -9094988921128908188
        · go_wp2_with (go_at_call 11; refine (live22 _).mono ?_; rintro e wl ⟨rfl, HBL⟩)
          go_ret
          have b1 := HB.out
          have b2 := b1.trans ((alloc1 _ (.cells #[encF a, encF a] 22)).mono b1.size)
          have b3 := b2.trans (HGX.below.mono b2.size)
          exact ⟨rfl, b3.trans (HBL.mono b3.size)⟩
        · obtain ⟨nx, vx⟩ := mean_two' HXH.out na ⟨by omega, by omega⟩
          have hde : decide (vl x = vl a.toNat) = true := decide_eq_true vx
          clear vx
          go_wp2_with (go_at_call 11; refine (live22 _).mono ?_; rintro e wl ⟨rfl, HBL⟩)
          go_ret
          have b1 := HB.out
          have b2 := b1.trans ((alloc1 _ (.cells #[encF a, encF a] 22)).mono b1.size)
          have b3 := b2.trans (HGX.below.mono b2.size)
          exact ⟨rfl, b3.trans (HBL.mono b3.size)⟩
    · have h0z : (0 : Int) < (t.length : Int) := by omega
      obtain ⟨bk, off, rfl, hbk, hF⟩ := HTT.out (by omega)
      obtain ⟨n, hn⟩ : ∃ n, n = t.length - 1 := ⟨_, rfl⟩
      have hnl : n < t.length := by omega
      obtain ⟨x0, hx0⟩ : ∃ x0 : UInt64, x0 = t[0]'(by omega) := ⟨_, rfl⟩
      obtain ⟨xl, hxl⟩ : ∃ xl : UInt64, xl = t[n]'hnl := ⟨_, rfl⟩
      have c0 := hF 0 (by omega)
      have c1 := hF n hnl
      rw [← hx0, Nat.add_zero] at c0
      rw [← hxl] at c1
      have l0 := u_lt x0
      have ll := u_lt xl
      have p0 : (0 : Int) ≤ (t.length : Int) - 1 := by omega
      have p1 : (t.length : Int) - 1 < (t.length : Int) := by omega
      have p2 : ((t.length : Int) - 1).toNat = n := by omega
      have HX0 := Lib.hid hx0
      have HXL := Lib.hid hxl
      have HN := Lib.hid hn
      clear hx0 hxl hn hF
      cases nr : isN r
      · by_cases ho : t.length % 2 = 1
        · have hin := med_in HQ1.out.1 HQ2.out.1 HQ1.out.2 HQ2.out.2 HMH.out nr ho (by omega)
          have k1 : ¬ cmp (ky r) (ky x0.toNat) < 0 := fun h => by
            have h2 := cmp_lt.1 h
            rw [HX0.out] at h2
            exact absurd h2 (Int.not_lt.2 hin.1)
          have k2 : ¬ 0 < cmp (ky r) (ky xl.toNat) := fun h => by
            have h2 := cmp_gt.1 h
            have h3 : xl = t[t.length - 1]'(by omega) := by rw [HXL.out]; (congr 1) <;> exact HN.out
            rw [h3] at h2
            exact absurd h2 (Int.not_lt.2 hin.2)
          have HO := Lib.hid ho
          clear ho hin
          go_upto_region 11 with (go_at_call 14; refine (order_any _ _ (by assumption) (by assumption) _).mono ?_; rintro e w' ⟨rfl, rfl⟩)
          go_upto_region 12 with (go_at_call 22; refine (mean_any _ 2 [a, a] _ (fl_two _ a a) (by simp)).mono ?_; rintro e wx ⟨x, rfl, HX, HGX⟩)
          have HXH := Lib.hid HX
          clear HX
          by_cases g1 : 9094988921128908188 < vl a.toNat
          · go_wp2_with (go_at_call 11; refine (live22 _).mono ?_; rintro e wl ⟨rfl, HBL⟩)
            go_ret
            have b1 := HB.out
            have b2 := b1.trans ((alloc1 _ (.cells #[encF a, encF a] 22)).mono b1.size)
            have b3 := b2.trans (HGX.below.mono b2.size)
            exact ⟨rfl, b3.trans (HBL.mono b3.size)⟩
          · by_cases g2 : vl a.toNat < -9094988921128908188
            · go_wp2_with (go_at_call 11; refine (live22 _).mono ?_; rintro e wl ⟨rfl, HBL⟩)
              go_ret
              have b1 := HB.out
              have b2 := b1.trans ((alloc1 _ (.cells #[encF a, encF a] 22)).mono b1.size)
              have b3 := b2.trans (HGX.below.mono b2.size)
              exact ⟨rfl, b3.trans (HBL.mono b3.size)⟩
            · obtain ⟨nx, vx⟩ := mean_two' HXH.out na ⟨by omega, by omega⟩
              have hde : decide (vl x = vl a.toNat) = true := decide_eq_true vx
              clear vx
              go_wp2_with (go_at_call 11; refine (live22 _).mono ?_; rintro e wl ⟨rfl, HBL⟩)
              go_ret
              have b1 := HB.out
              have b2 := b1.trans ((alloc1 _ (.cells #[encF a, encF a] 22)).mono b1.size)
              have b3 := b2.trans (HGX.below.mono b2.size)
              exact ⟨rfl, b3.trans (HBL.mono b3.size)⟩
        · have em : (m.length : Int).tmod 2 = 0 := by rw [Int.tmod_eq_emod_of_nonneg (by omega)]; have := HTM.out; omega
          have em' : (m.length : Int) % 2 = 0 := by have := HTM.out; omega
          clear ho
          by_cases k1 : cmp (ky r) (ky x0.toNat) < 0
          · go_upto_region 11 with (go_at_call 14; refine (order_any _ _ (by assumption) (by assumption) _).mono ?_; rintro e w' ⟨rfl, rfl⟩)
            go_upto_region 12 with (go_at_call 22; refine (mean_any _ 2 [a, a] _ (fl_two _ a a) (by simp)).mono ?_; rintro e wx ⟨x, rfl, HX, HGX⟩)
            have HXH := Lib.hid HX
            clear HX
            by_cases g1 : 9094988921128908188 < vl a.toNat
            · go_wp2_with (go_at_call 11; refine (live22 _).mono ?_; rintro e wl ⟨rfl, HBL⟩)
              go_ret
              have b1 := HB.out
              have b2 := b1.trans ((alloc1 _ (.cells #[encF a, encF a] 22)).mono b1.size)
              have b3 := b2.trans (HGX.below.mono b2.size)
              exact ⟨rfl, b3.trans (HBL.mono b3.size)⟩
            · by_cases g2 : vl a.toNat < -9094988921128908188
              · go_wp2_with (go_at_call 11; refine (live22 _).mono ?_; rintro e wl ⟨rfl, HBL⟩)
                go_ret
                have b1 := HB.out
                have b2 := b1.trans ((alloc1 _ (.cells #[encF a, encF a] 22)).mono b1.size)
                have b3 := b2.trans (HGX.below.mono b2.size)
                exact ⟨rfl, b3.trans (HBL.mono b3.size)⟩
              · obtain ⟨nx, vx⟩ := mean_two' HXH.out na ⟨by omega, by omega⟩
                have hde : decide (vl x = vl a.toNat) = true := decide_eq_true vx
                clear vx
                go_wp2_with (go_at_call 11; refine (live22 _).mono ?_; rintro e wl ⟨rfl, HBL⟩)
                go_ret
                have b1 := HB.out
                have b2 := b1.trans ((alloc1 _ (.cells #[encF a, encF a] 22)).mono b1.size)
                have b3 := b2.trans (HGX.below.mono b2.size)
                exact ⟨rfl, b3.trans (HBL.mono b3.size)⟩
          · by_cases k2 : 0 < cmp (ky r) (ky xl.toNat)
            · go_upto_region 11 with (go_at_call 14; refine (order_any _ _ (by assumption) (by assumption) _).mono ?_; rintro e w' ⟨rfl, rfl⟩)
              go_upto_region 12 with (go_at_call 22; refine (mean_any _ 2 [a, a] _ (fl_two _ a a) (by simp)).mono ?_; rintro e wx ⟨x, rfl, HX, HGX⟩)
              have HXH := Lib.hid HX
              clear HX
              by_cases g1 : 9094988921128908188 < vl a.toNat
              · go_wp2_with (go_at_call 11; refine (live22 _).mono ?_; rintro e wl ⟨rfl, HBL⟩)
                go_ret
                have b1 := HB.out
                have b2 := b1.trans ((alloc1 _ (.cells #[encF a, encF a] 22)).mono b1.size)
                have b3 := b2.trans (HGX.below.mono b2.size)
                exact ⟨rfl, b3.trans (HBL.mono b3.size)⟩
              · by_cases g2 : vl a.toNat < -9094988921128908188
                · go_wp2_with (go_at_call 11; refine (live22 _).mono ?_; rintro e wl ⟨rfl, HBL⟩)
                  go_ret
                  have b1 := HB.out
                  have b2 := b1.trans ((alloc1 _ (.cells #[encF a, encF a] 22)).mono b1.size)
                  have b3 := b2.trans (HGX.below.mono b2.size)
                  exact ⟨rfl, b3.trans (HBL.mono b3.size)⟩
                · obtain ⟨nx, vx⟩ := mean_two' HXH.out na ⟨by omega, by omega⟩
                  have hde : decide (vl x = vl a.toNat) = true := decide_eq_true vx
                  clear vx
                  go_wp2_with (go_at_call 11; refine (live22 _).mono ?_; rintro e wl ⟨rfl, HBL⟩)
                  go_ret
                  have b1 := HB.out
                  have b2 := b1.trans ((alloc1 _ (.cells #[encF a, encF a] 22)).mono b1.size)
                  have b3 := b2.trans (HGX.below.mono b2.size)
                  exact ⟨rfl, b3.trans (HBL.mono b3.size)⟩
            · go_upto_region 11 with (go_at_call 14; refine (order_any _ _ (by assumption) (by assumption) _).mono ?_; rintro e w' ⟨rfl, rfl⟩)
              go_upto_region 12 with (go_at_call 22; refine (mean_any _ 2 [a, a] _ (fl_two _ a a) (by simp)).mono ?_; rintro e wx ⟨x, rfl, HX, HGX⟩)
              have HXH := Lib.hid HX
              clear HX
              by_cases g1 : 9094988921128908188 < vl a.toNat
              · go_wp2_with (go_at_call 11; refine (live22 _).mono ?_; rintro e wl ⟨rfl, HBL⟩)
                go_ret
                have b1 := HB.out
                have b2 := b1.trans ((alloc1 _ (.cells #[encF a, encF a] 22)).mono b1.size)
                have b3 := b2.trans (HGX.below.mono b2.size)
                exact ⟨rfl, b3.trans (HBL.mono b3.size)⟩
              · by_cases g2 : vl a.toNat < -9094988921128908188
                · go_wp2_with (go_at_call 11; refine (live22 _).mono ?_; rintro e wl ⟨rfl, HBL⟩)
                  go_ret
                  have b1 := HB.out
                  have b2 := b1.trans ((alloc1 _ (.cells #[encF a, encF a] 22)).mono b1.size)
                  have b3 := b2.trans (HGX.below.mono b2.size)
                  exact ⟨rfl, b3.trans (HBL.mono b3.size)⟩
                · obtain ⟨nx, vx⟩ := mean_two' HXH.out na ⟨by omega, by omega⟩
                  have hde : decide (vl x = vl a.toNat) = true := decide_eq_true vx
                  clear vx
                  go_wp2_with (go_at_call 11; refine (live22 _).mono ?_; rintro e wl ⟨rfl, HBL⟩)
                  go_ret
                  have b1 := HB.out
                  have b2 := b1.trans ((alloc1 _ (.cells #[encF a, encF a] 22)).mono b1.size)
                  have b3 := b2.trans (HGX.below.mono b2.size)
                  exact ⟨rfl, b3.trans (HBL.mono b3.size)⟩
      · go_upto_region 11 with (go_at_call 14; refine (order_any _ _ (by assumption) (by assumption) _).mono ?_; rintro e w' ⟨rfl, rfl⟩)
        go_upto_region 12 with (go_at_call 22; refine (mean_any _ 2 [a, a] _ (fl_two _ a a) (by simp)).mono ?_; rintro e wx ⟨x, rfl, HX, HGX⟩)
        have HXH := Lib.hid HX
        clear HX
        by_cases g1 : 9094988921128908188 < vl a.toNat
        · go_wp2_with (go_at_call 11; refine (live22 _).mono ?_; rintro e wl ⟨rfl, HBL⟩)
          go_ret
          have b1 := HB.out
          have b2 := b1.trans ((alloc1 _ (.cells #[encF a, encF a] 22)).mono b1.size)
          have b3 := b2.trans (HGX.below.mono b2.size)
          exact ⟨rfl, b3.trans (HBL.mono b3.size)⟩
        · by_cases g2 : vl a.toNat < -9094988921128908188
          · go_wp2_with (go_at_call 11; refine (live22 _).mono ?_; rintro e wl ⟨rfl, HBL⟩)
            go_ret
            have b1 := HB.out
            have b2 := b1.trans ((alloc1 _ (.cells #[encF a, encF a] 22)).mono b1.size)
            have b3 := b2.trans (HGX.below.mono b2.size)
            exact ⟨rfl, b3.trans (HBL.mono b3.size)⟩
          · obtain ⟨nx, vx⟩ := mean_two' HXH.out na ⟨by omega, by omega⟩
            have hde : decide (vl x = vl a.toNat) = true := decide_eq_true vx
            clear vx
            go_wp2_with (go_at_call 11; refine (live22 _).mono ?_; rintro e wl ⟨rfl, HBL⟩)
            go_ret
            have b1 := HB.out
            have b2 := b1.trans ((alloc1 _ (.cells #[encF a, encF a] 22)).mono b1.size)
            have b3 := b2.trans (HGX.below.mono b2.size)
            exact ⟨rfl, b3.trans (HBL.mono b3.size)⟩
/-- Whatever the words. -/
theorem milles_walk (a b : Nat) (A : Option Addr) (c : Nat) (l : List UInt64) (w : World) (ha : a < 2 ^ 64) (hb : b < 2 ^ 64) (hL : FlIn w A l) (hr : l.length ≤ c) (hz : A = none → c = 0) (hl : l.length ≤ 9223372036854775807) :
    Calls Try.prog 9 #[fV a, fV b, .slice A l.length c] w fun e w' => e = .returned (.bool true) ∧ Below w.heap.size w w' := by
  have h := milles_law (UInt64.ofNat a) (UInt64.ofNat b) A c l w hL hr hz hl
  rwa [UInt64.toNat_ofNat_of_lt' ha, UInt64.toNat_ofNat_of_lt' hb] at h
end Go.Proofs.Ytngboallknmepaa.Fp
