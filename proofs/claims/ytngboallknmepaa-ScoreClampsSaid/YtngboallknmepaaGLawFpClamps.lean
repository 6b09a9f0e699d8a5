/-
  ScoreClamps, walked.
-/
import Derived.Test.YtngboallknmepaaGxae
namespace Go.Proofs.Ytngboallknmepaa.Fp
set_option linter.unusedVariables false
set_option linter.unusedSimpArgs false
open Go.RowKit Go.Sort Go.Shelf
open T
open I (alloc1 own_at own_below)

theorem in_mid {x low high : UInt64} {s : List UInt64} (nx : isN x.toNat = false) (nl : isN low.toNat = false) (nh : isN high.toNat = false) (ho : ky low.toNat ≤ ky high.toNat)
    (hp : s.Perm [x, low, high]) (hs : s.Pairwise (fun a b => ky a.toNat ≤ ky b.toNat)) : ∃ y, s[1]? = some y ∧ y.toNat = if ky x.toNat < ky low.toNat then low.toNat else if ky high.toNat < ky x.toNat then high.toNat else x.toNat := by
  have pw : ∀ a b c : UInt64, ky a.toNat ≤ ky b.toNat → ky b.toNat ≤ ky c.toNat → [a, b, c].Pairwise (fun a b : UInt64 => ky a.toNat ≤ ky b.toNat) := by
    intro a b c h1 h2
    simp only [List.pairwise_cons, List.mem_cons, List.not_mem_nil, or_false, forall_eq_or_imp, forall_eq, List.Pairwise.nil, and_true, false_implies, implies_true]
    exact ⟨⟨h1, by omega⟩, h2⟩
  have fin : ∀ a b c : UInt64, [a, b, c].Perm [x, low, high] → ky a.toNat ≤ ky b.toNat → ky b.toNat ≤ ky c.toNat → isN b.toNat = false → ∃ y, s[1]? = some y ∧ y = b := by
    intro a b c hq h1 h2 hb
    have hk := sorted_uniq (hp.trans hq.symm) hs (pw a b c h1 h2)
    have hl := hp.length_eq
    match s, hl with
    | [a', b', c'], _ =>
      simp only [List.map_cons, List.map_nil, List.cons.injEq, and_true] at hk
      exact ⟨b', rfl, (ky_u hk.2.1.symm hb).symm⟩
  by_cases h1 : ky x.toNat < ky low.toNat
  · obtain ⟨y, hy, rfl⟩ := fin x low high (List.Perm.refl _) (by omega) ho nl
    exact ⟨_, hy, (if_pos h1).symm⟩
  · by_cases h2 : ky high.toNat < ky x.toNat
    · obtain ⟨y, hy, rfl⟩ := fin low high x (by
        have h3 : [low, high, x].Perm [x, low, high] := by
          have := List.perm_append_comm (l₁ := [low, high]) (l₂ := [x])
          simpa using this
        exact h3) ho (by omega) nh
      exact ⟨_, hy, by rw [if_neg h1, if_pos h2]⟩
    · obtain ⟨y, hy, rfl⟩ := fin low x high (List.Perm.swap _ _ _) (by omega) (by omega) nx
      exact ⟨_, hy, by rw [if_neg h1, if_neg h2]⟩
theorem rs_three (x low high : UInt64) (nx : isN x.toNat = false) (nl : isN low.toNat = false) (nh : isN high.toNat = false) (ho : ky low.toNat ≤ ky high.toNat) (w : World) :
    Calls Try.prog 19 #[.slice (some ⟨w.heap.size, 0, none⟩) 3 3] (w.alloc (.cells #[encF x, encF low, encF high] 22)) fun e w' => ∃ bk off cap y, e = .returned (.slice (some ⟨bk, off, none⟩) 3 cap) ∧ w'.cell? ⟨bk, off + 1, none⟩ = some (encF y) ∧
      y.toNat = (if ky x.toNat < ky low.toNat then low.toNat else if ky high.toNat < ky x.toNat then high.toNat else x.toNat) ∧ Below w.heap.size w w' := by
  refine (rsort_any _ 3 [x, low, high] _ (fl_three w x low high) (by simp)).mono ?_
  rintro e w1 ⟨B, cap, s, rfl, q1, q2, q3, q4⟩
  have hsl : s.length = 3 := q1.length_eq
  obtain ⟨y, hy, hyv⟩ := in_mid nx nl nh ho q1 q2
  obtain ⟨bk, off, rfl, hbk, hF⟩ := q3 (by omega)
  have cy := hF 1 (by omega)
  have ey : s[1]'(by omega) = y := by
    have := List.getElem?_eq_getElem (l := s) (i := 1) (by omega)
    rw [hy] at this
    injection this with this
    exact this.symm
  rw [ey] at cy
  exact ⟨bk, off, cap, y, by rw [hsl], cy, hyv, (alloc1 w _).trans (q4.mono (alloc1 w _).size)⟩
set_option maxHeartbeats 4000000 in
set_option maxRecDepth 100000 in
theorem rclamp_any (x low high : UInt64) (w : World) :
    Calls Try.prog 27 #[fV x.toNat, fV low.toNat, fV high.toNat] w fun e w' => ∃ r, e = .returned (fV r) ∧ Cl x.toNat low.toNat high.toNat r ∧ Below w.heap.size w w' := by
  have lx := u_lt x
  have ll := u_lt low
  have lh := u_lt high
  obtain ⟨xv, hxv⟩ : ∃ n, n = x.toNat := ⟨_, rfl⟩
  obtain ⟨lv, hlv⟩ : ∃ n, n = low.toNat := ⟨_, rfl⟩
  obtain ⟨hv', hhv⟩ : ∃ n, n = high.toNat := ⟨_, rfl⟩
  cases nx : isN x.toNat
  · cases nl : isN low.toNat
    · cases nh : isN high.toNat
      · by_cases ho : ky high.toNat < ky low.toNat
        · have hd : (cmp (ky low.toNat) (ky high.toNat) == 1) = true := by
            rw [beq_iff_eq]
            unfold cmp
            rw [if_neg (by omega), if_pos ho]
          have HO := Lib.hid ho
          clear ho hxv hlv hhv
          go_enter Try.func27, Try.ntmps27
          go_wp2_with (first | (go_at_call 33; refine (none_any _).mono ?_; rintro e wn ⟨r, rfl, HN, HNL, HNW⟩) | (go_at_call 15; refine (rorder_any _ _ (by assumption) (by assumption) _).mono ?_; rintro e w' ⟨rfl, rfl⟩))
          go_ret
          exact ⟨r, rfl, ⟨HNL, fun _ => HN, fun _ _ _ h => by have := HO.out; omega⟩, HNW.below⟩
        · have hd : (cmp (ky low.toNat) (ky high.toNat) == 1) = false := by
            rw [beq_eq_false_iff_ne]
            unfold cmp
            split
            · omega
            · decide
          have HO := Lib.hid (Int.not_lt.1 ho)
          have h1z : (1 : Int) < 3 := by omega
          clear ho hxv hlv hhv
          go_enter Try.func27, Try.ntmps27
          go_upto_region 3 with (first | (go_at_call 15; refine (rorder_any _ _ (by assumption) (by assumption) _).mono ?_; rintro e w' ⟨rfl, rfl⟩))
          go_wp2_with (go_at_call 19; refine (rs_three x low high nx nl nh HO.out _).mono ?_; rintro e w1 ⟨bk, off, cap, y, rfl, cy, hyv, HB⟩; have HYV := Lib.hid hyv; clear hyv)
          go_ret
          exact ⟨y.toNat, rfl, ⟨u_lt y, cl_no nx nl nh HO.out, fun _ _ _ _ => HYV.out⟩, HB⟩
      · clear hxv hlv hhv
        go_enter Try.func27, Try.ntmps27
        go_wp2_with (first | (go_at_call 33; refine (none_any _).mono ?_; rintro e wn ⟨r, rfl, HN, HNL, HNW⟩) | (go_at_call 15; refine (rorder_any _ _ (by assumption) (by assumption) _).mono ?_; rintro e w' ⟨rfl, rfl⟩))
        go_ret
        exact ⟨r, rfl, ⟨HNL, fun _ => HN, fun _ _ h => by rw [nh] at h; cases h⟩, HNW.below⟩
    · clear hxv hlv hhv
      go_enter Try.func27, Try.ntmps27
      go_wp2_with (first | (go_at_call 33; refine (none_any _).mono ?_; rintro e wn ⟨r, rfl, HN, HNL, HNW⟩) | (go_at_call 15; refine (rorder_any _ _ (by assumption) (by assumption) _).mono ?_; rintro e w' ⟨rfl, rfl⟩))
      go_ret
      exact ⟨r, rfl, ⟨HNL, fun _ => HN, fun _ h => by rw [nl] at h; cases h⟩, HNW.below⟩
  · clear hxv hlv hhv
    go_enter Try.func27, Try.ntmps27
    go_wp2_with (first | (go_at_call 33; refine (none_any _).mono ?_; rintro e wn ⟨r, rfl, HN, HNL, HNW⟩) | (go_at_call 15; refine (rorder_any _ _ (by assumption) (by assumption) _).mono ?_; rintro e w' ⟨rfl, rfl⟩))
    go_ret
    exact ⟨r, rfl, ⟨HNL, fun _ => HN, fun h => by rw [nx] at h; cases h⟩, HNW.below⟩
theorem Cl.ky {x low high r r' : Nat} (h : Cl x low high r) (h' : Cl x low high r') : Fp.ky r = Fp.ky r' := by
  by_cases hn : isN x = true ∨ isN low = true ∨ isN high = true ∨ Fp.ky high < Fp.ky low
  · rw [ky_nan (h.nan hn), ky_nan (h'.nan hn)]
  · have nx : isN x = false := by cases e : isN x <;> simp_all
    have nl : isN low = false := by cases e : isN low <;> simp_all
    have nh : isN high = false := by cases e : isN high <;> simp_all
    have ho : Fp.ky low ≤ Fp.ky high := by
      exact Int.not_lt.1 fun g => hn (.inr (.inr (.inr g)))
    rw [h.val nx nl nh ho, h'.val nx nl nh ho]
theorem Cl.ok {x low high r : Nat} (h : Cl x low high r) (hr : isN r = false) : isN x = false ∧ isN low = false ∧ isN high = false ∧ Fp.ky low ≤ Fp.ky high := by
  have hn : ¬ (isN x = true ∨ isN low = true ∨ isN high = true ∨ Fp.ky high < Fp.ky low) := fun hn => by
    rw [h.nan hn] at hr; cases hr
  refine ⟨by cases e : isN x <;> simp_all, by cases e : isN low <;> simp_all, by cases e : isN high <;> simp_all, ?_⟩
  exact Int.not_lt.1 fun g => hn (.inr (.inr (.inr g)))
theorem Cl.between {x low high r : Nat} (h : Cl x low high r) (hr : isN r = false) : Fp.ky low ≤ Fp.ky r ∧ Fp.ky r ≤ Fp.ky high := by
  obtain ⟨nx, nl, nh, ho⟩ := h.ok hr
  rw [h.val nx nl nh ho]
  split
  · exact ⟨Int.le_refl _, ho⟩
  · split <;> omega
theorem Cl.again {x low high r r' : Nat} (h : Cl x low high r) (hr : isN r = false) (h' : Cl r low high r') : r' = r := by
  obtain ⟨nx, nl, nh, ho⟩ := h.ok hr
  obtain ⟨b1, b2⟩ := h.between hr
  rw [h'.val hr nl nh ho, if_neg (by omega), if_neg (by omega)]
set_option maxHeartbeats 4000000 in
set_option maxRecDepth 100000 in
theorem clamps_law (x low high : UInt64) (w : World) :
    Calls Try.prog 7 #[fV x.toNat, fV low.toNat, fV high.toNat] w fun e w' => e = .returned (.bool true) ∧ Below w.heap.size w w' := by
  have lx := u_lt x
  have ll := u_lt low
  have lh := u_lt high
  go_enter Try.func7, Try.ntmps7
  go_upto_region 2 with (go_at_call 26; refine (clamp_any _ _ _ lx ll lh _).mono ?_; rintro e w' ⟨y, rfl, HY, rfl⟩)
  have ly := HY.lt
  have HYH := Lib.hid HY
  clear HY
  cases ny : isN y
  · obtain ⟨b1, b2⟩ := HYH.out.between ny
    have k1 : cmp (ky low.toNat) (ky y) ≤ 0 := cmp_le.2 b1
    have k2 : cmp (ky y) (ky high.toNat) ≤ 0 := cmp_le.2 b2
    clear b1 b2
    go_wp2_with (first | (go_at_call 11; refine (live22 _).mono ?_; rintro e wl ⟨rfl, HL⟩) | (go_at_call 27; refine (rclamp_any x low high _).mono ?_; rintro e wr ⟨z, rfl, HZ, HZW⟩; have lz := HZ.lt; have hyz : same y z = true := (by unfold same; simpa using HYH.out.ky HZ); clear HZ) | (go_at_call 12; refine (same_any _ _ (by assumption) (by assumption) _).mono ?_; rintro e w' ⟨rfl, rfl⟩) | (go_at_call 14; refine (order_any _ _ (by assumption) (by assumption) _).mono ?_; rintro e w' ⟨rfl, rfl⟩) | (go_at_call 26; refine (clamp_any _ _ _ ly ll lh _).mono ?_; rintro e w' ⟨y2, rfl, HY2, rfl⟩; have ly2 := HY2.lt; have hy2 : same y2 y = true := (by unfold same; simpa using congrArg ky (HYH.out.again ny HY2)); clear HY2))
    go_ret
    exact ⟨rfl, HL.trans (HZW.mono HL.size)⟩
  · go_wp2_with (first | (go_at_call 11; refine (live22 _).mono ?_; rintro e wl ⟨rfl, HL⟩) | (go_at_call 27; refine (rclamp_any x low high _).mono ?_; rintro e wr ⟨z, rfl, HZ, HZW⟩; have lz := HZ.lt; have hyz : same y z = true := (by unfold same; simpa using HYH.out.ky HZ); clear HZ) | (go_at_call 12; refine (same_any _ _ (by assumption) (by assumption) _).mono ?_; rintro e w' ⟨rfl, rfl⟩))
    go_ret
    exact ⟨rfl, HL.trans (HZW.mono HL.size)⟩
/-- Whatever the words. -/
theorem clamps_walk (x low high : Nat) (hx : x < 2 ^ 64) (hl : low < 2 ^ 64) (hh : high < 2 ^ 64) (w : World) :
    Calls Try.prog 7 #[fV x, fV low, fV high] w fun e w' => e = .returned (.bool true) ∧ Below w.heap.size w w' := by
  have h := clamps_law (UInt64.ofNat x) (UInt64.ofNat low) (UInt64.ofNat high) w
  rwa [UInt64.toNat_ofNat_of_lt' hx, UInt64.toNat_ofNat_of_lt' hl, UInt64.toNat_ofNat_of_lt' hh] at h
end Go.Proofs.Ytngboallknmepaa.Fp
