/-
  Rows of floats that are the same, and the reference's place of the greatest.
-/
import Derived.Test.YtngboallknmepaaGxaj
namespace Go.Proofs.Ytngboallknmepaa.Fp
set_option linter.unusedVariables false
set_option linter.unusedSimpArgs false
open Go.RowKit Go.Sort Go.Shelf
open T
open I (alloc1 own_at own_below)


set_option maxHeartbeats 2000000 in
set_option maxRecDepth 100000 in
/-- Two rows with the same keys. -/
theorem samel_any (A B : Option Addr) (c k : Nat) (l m : List UInt64) (w : World) (hA : FlIn w A l) (hB : FlIn w B m) (hl : l.length ≤ 1000000) (hs : l.map (fun x => ky x.toNat) = m.map (fun x => ky x.toNat)) :
    Calls Try.prog 18 #[.slice A l.length c, .slice B m.length k] w fun e w' => e = .returned (.bool true) ∧ Below w.heap.size w w' := by
  have hlen : l.length = m.length := by have := congrArg List.length hs; simpa using this
  have heq : ((l.length : Int) != (m.length : Int)) = false := by simp [hlen]
  have HLN := Lib.hid hlen
  have HS := Lib.hid hs
  have HA := Lib.hid hA
  have HB := Lib.hid hB
  clear hlen hs hA hB
  go_enter Try.func18, Try.ntmps18
  go_wp2_with fail
  go_loopg [5] l.length (fun q iv wr => ∃ j : Nat, iv = .int .i64 j ∧ j ≤ l.length ∧ l.length - j ≤ q ∧ Hid (Below w.heap.size w wr))
  case atStart => exact ⟨0, rfl, Nat.zero_le _, by omega, Lib.hid (Below.refl _ _)⟩
  case round =>
    obtain ⟨j, rfl, hj, hm, HW⟩ := hrel
    by_cases hlt : j < l.length
    · obtain ⟨b1, o1, rfl, hb1, hF1⟩ := HA.out (by omega)
      obtain ⟨b2, o2, rfl, hb2, hF2⟩ := HB.out (by have := HLN.out; omega)
      have hjm : j < m.length := by have := HLN.out; omega
      have h0j : (0 : Int) ≤ (j : Int) := by omega
      have hjl : (j : Int) < (l.length : Int) := by omega
      have hjm' : (j : Int) < (m.length : Int) := by omega
      have c1 := (hF1.below HW.out hb1) j hlt
      have c2 := (hF2.below HW.out hb2) j hjm
      have hk : ky (l[j]).toNat = ky (m[j]).toNat := by
        have h3 : (l.map fun x => ky x.toNat)[j]'(by simpa using hlt) = (m.map fun x => ky x.toNat)[j]'(by simpa using hjm) := by simp only [HS.out]
        rw [List.getElem_map, List.getElem_map] at h3
        exact h3
      obtain ⟨x, hx⟩ : ∃ x : UInt64, x = l[j] := ⟨_, rfl⟩
      obtain ⟨y, hy⟩ : ∃ y : UInt64, y = m[j] := ⟨_, rfl⟩
      rw [← hx] at c1 hk
      rw [← hy] at c2 hk
      have lx := u_lt x
      have ly := u_lt y
      have hsame : same x.toNat y.toNat = true := by unfold same; simpa using hk
      clear hx hy hk hF1 hF2
      go_wp2_with fail
      go_quiet (first | (go_at_call 12; refine Calls.quiet_of_same (same_any _ _ lx ly _)))
      go_wp2_with fail
      go_roundg (l.length - (j + 1))
      case rel => exact ⟨j + 1, by go_num, by omega, Nat.le_refl _, Lib.hid (HW.out.trans ((V.drawn_below _ nq).mono HW.out.size))⟩
      case measure => omega
    · go_wp2_with fail
      go_ret
      exact ⟨rfl, HW.out⟩
/-- Is no number among the first k greater than x? -/
def Ok (l : List UInt64) (x : UInt64) (k : Nat) : Prop := ∀ i (h : i < l.length), i < k → isN (l[i]).toNat = false → ky (l[i]).toNat ≤ ky x.toNat
theorem Bs.some (l : List UInt64) : ∀ k, k ≤ l.length → ∃ b, Bs l k b := by
  intro k
  induction k with
  | zero => intro _; exact ⟨-1, .inl ⟨rfl, fun i _ h => absurd h (Nat.not_lt_zero _)⟩⟩
  | succ k ih =>
    intro hk
    obtain ⟨b, hb⟩ := ih (by omega)
    have hlt : k < l.length := hk
    cases nx : isN (l[k]).toNat
    · rcases hb.lt with rfl | ⟨j, rfl, hjk, hj⟩
      · exact ⟨k, hb.first hlt nx⟩
      · by_cases hg : ky (l[j]).toNat < ky (l[k]).toNat
        · exact ⟨k, hb.more hlt hj nx hg⟩
        · exact ⟨j, hb.keep hlt hj (Int.not_lt.1 hg)⟩
    · exact ⟨b, hb.skip hlt nx⟩
theorem best_at {l : List UInt64} {i : Nat} (hi : i < l.length) (nx : isN (l[i]).toNat = false) (hok : Ok l l[i] l.length) (hb : ∀ j (h : j < l.length), j < i → isN (l[j]).toNat = false → ¬ Ok l l[j] l.length) : Bs l l.length (i : Int) := by
  refine .inr ⟨i, hi, rfl, hi, nx, fun j hj hjl hn => ⟨hok j hj hjl hn, fun hji => ?_⟩⟩
  have h1 := hok j hj hjl hn
  rcases Int.lt_or_eq_of_le h1 with g | g
  · exact g
  · refine absurd ?_ (hb j hj hji hn)
    intro q hq hql hqn
    rw [g]
    exact hok q hq hql hqn
theorem best_none {l : List UInt64} (hb : ∀ j (h : j < l.length), isN (l[j]).toNat = false → ¬ Ok l l[j] l.length) : Bs l l.length (-1) := by
  obtain ⟨b, h⟩ := Bs.some l l.length (Nat.le_refl _)
  rcases h with ⟨rfl, h⟩ | ⟨j, hj, rfl, hjk, hn, h⟩
  · exact .inl ⟨rfl, h⟩
  · exact absurd (fun q hq hql hqn => (h q hq hql hqn).1) (hb j hj hn)
set_option maxHeartbeats 4000000 in
set_option maxRecDepth 100000 in
theorem rbest_any (A : Option Addr) (c : Nat) (l : List UInt64) (w : World) (hL : FlIn w A l) (hl : l.length ≤ 1000000) :
    Calls Try.prog 21 #[.slice A l.length c] w fun e w' => ∃ b, e = .returned (.int .i64 b) ∧ Bs l l.length b ∧ Below w.heap.size w w' := by
  have HL := Lib.hid hL
  clear hL
  go_enter Try.func21, Try.ntmps21
  go_wp2_with fail
  go_loopg [3] l.length (fun q iv wr => ∃ i : Nat, iv = .int .i64 i ∧ i ≤ l.length ∧ l.length - i ≤ q ∧ Hid (∀ j (h : j < l.length), j < i → isN (l[j]).toNat = false → ¬ Ok l l[j] l.length) ∧ Hid (Below w.heap.size w wr))
  case atStart => exact ⟨0, rfl, Nat.zero_le _, by omega, Lib.hid (fun j _ h => absurd h (Nat.not_lt_zero _)), Lib.hid (Below.refl _ _)⟩
  case round =>
    obtain ⟨i, rfl, hi, hm, HG, HW⟩ := hrel
    by_cases hlt : i < l.length
    · obtain ⟨bk, off, rfl, hbk, hF⟩ := HL.out (by omega)
      have hii : (i : Int) < (l.length : Int) := by omega
      have h0i : (0 : Int) ≤ (i : Int) := by omega
      have c1 := (hF.below HW.out hbk) i hlt
      obtain ⟨x, hx⟩ : ∃ x : UInt64, x = l[i] := ⟨_, rfl⟩
      rw [← hx] at c1
      have HX := Lib.hid hx
      have HF := Lib.hid hF
      have lx := u_lt x
      clear hx hF
      cases nx : isN x.toNat
      · go_wp2_with fail
        go_quiet (fail)
        obtain ⟨wo, hwo⟩ : ∃ W, W = wr.drewN nq := ⟨_, rfl⟩
        rw [← hwo]
        have HW2 : Hid (Below w.heap.size w wo) := Lib.hid (by rw [hwo]; exact HW.out.trans ((V.drawn_below _ nq).mono HW.out.size))
        clear hwo
        go_wp2_with fail
        go_loopg [4, 5] l.length (fun q ov kv wz => ∃ (k : Nat) (o : Bool), ov = .bool o ∧ kv = .int .i64 k ∧ k ≤ l.length ∧ l.length - k ≤ q ∧ Hid (o = true ↔ (isN x.toNat = false ∧ Ok l x k)) ∧ Hid (Below w.heap.size w wz))
        case atStart => exact ⟨0, true, rfl, rfl, Nat.zero_le _, by omega, Lib.hid (by rw [nx]; simp [Ok]), HW2⟩
        case round =>
          clear HW2
          obtain ⟨k, o, rfl, rfl, hk, hmk, HO, HB⟩ := hrel
          by_cases hkl : k < l.length
          · have hki : (k : Int) < (l.length : Int) := by omega
            have h0k : (0 : Int) ≤ (k : Int) := by omega
            have c2 := (HF.out.below HB.out hbk) k hkl
            have c3 := (HF.out.below HB.out hbk) i hlt
            rw [← HX.out] at c3
            obtain ⟨z, hz⟩ : ∃ z : UInt64, z = l[k] := ⟨_, rfl⟩
            rw [← hz] at c2
            have HZ := Lib.hid hz
            have lz := u_lt z
            clear hz
            cases nz : isN z.toNat
            · by_cases hg : ky x.toNat < ky z.toNat
              · have hd : decide (cmp (ky z.toNat) (ky x.toNat) > 0) = true := decide_eq_true (cmp_gt.2 hg)
                have hd' : 0 < cmp (ky z.toNat) (ky x.toNat) := cmp_gt.2 hg
                have HGT := Lib.hid hg
                clear hg
                go_wp2_with fail
                go_quiet (first | (go_at_call 15; refine Calls.quiet_of_same (rorder_any _ _ lz lx _)))
                go_wp2_with fail
                go_roundg (l.length - (k + 1))
                case rel => exact ⟨k + 1, false, rfl, by go_num, by omega, Nat.le_refl _, Lib.hid (by
                  constructor
                  · intro h; cases h
                  · rintro ⟨_, h2⟩
                    have := h2 k hkl (by omega) (by rw [← HZ.out]; exact nz)
                    rw [← HZ.out] at this
                    exact absurd HGT.out (Int.not_lt.2 this)), Lib.hid (HB.out.trans ((V.drawn_below _ nq).mono HB.out.size))⟩
                case measure => omega
              · have hd : decide (cmp (ky z.toNat) (ky x.toNat) > 0) = false := decide_eq_false (fun h => hg (cmp_gt.1 h))
                have hd' : ¬ 0 < cmp (ky z.toNat) (ky x.toNat) := fun h => hg (cmp_gt.1 h)
                have HGT := Lib.hid (Int.not_lt.1 hg)
                clear hg
                go_wp2_with fail
                go_quiet (first | (go_at_call 15; refine Calls.quiet_of_same (rorder_any _ _ lz lx _)))
                go_wp2_with fail
                go_roundg (l.length - (k + 1))
                case rel => exact ⟨k + 1, o, rfl, by go_num, by omega, Nat.le_refl _, Lib.hid (by
                  rw [HO.out]
                  constructor
                  · rintro ⟨h1, h2⟩
                    refine ⟨h1, fun j h hj hn => ?_⟩
                    by_cases e : j = k
                    · subst e
                      rw [← HZ.out]; exact HGT.out
                    · exact h2 j h (by omega) hn
                  · rintro ⟨h1, h2⟩
                    exact ⟨h1, fun j h hj hn => h2 j h (by omega) hn⟩), Lib.hid (HB.out.trans ((V.drawn_below _ nq).mono HB.out.size))⟩
                case measure => omega
            · go_wp2_with fail
              go_quiet (fail)
              go_wp2_with fail
              go_roundg (l.length - (k + 1))
              case rel => exact ⟨k + 1, o, rfl, by go_num, by omega, Nat.le_refl _, Lib.hid (by
                rw [HO.out]
                constructor
                · rintro ⟨h1, h2⟩
                  refine ⟨h1, fun j h hj hn => ?_⟩
                  by_cases e : j = k
                  · subst e
                    rw [← HZ.out, nz] at hn
                    cases hn
                  · exact h2 j h (by omega) hn
                · rintro ⟨h1, h2⟩
                  exact ⟨h1, fun j h hj hn => h2 j h (by omega) hn⟩), Lib.hid (HB.out.trans ((V.drawn_below _ nq).mono HB.out.size))⟩
              case measure => omega
          · have hke : k = l.length := by omega
            cases o with
            | true =>
              obtain ⟨q1, q2⟩ := HO.out.1 rfl
              go_wp2_with fail
              go_ret
              rw [hke] at q2
              exact ⟨(i : Int), rfl, best_at hlt (by rw [← HX.out]; exact q1) (by rw [← HX.out]; exact q2) HG.out, HB.out⟩
            | false =>
              go_wp2_with fail
              go_roundg (l.length - (i + 1))
              case rel => exact ⟨i + 1, by go_num, by omega, Nat.le_refl _, Lib.hid (fun j h hj hn => by
                by_cases e : j = i
                · subst e
                  intro hok
                  rw [← HX.out] at hok hn
                  have := HO.out.2 ⟨hn, by rw [hke]; exact hok⟩
                  cases this
                · exact HG.out j h (by omega) hn), HB⟩
              case measure => omega
      · go_wp2_with fail
        go_quiet (fail)
        obtain ⟨wo, hwo⟩ : ∃ W, W = wr.drewN nq := ⟨_, rfl⟩
        rw [← hwo]
        have HW2 : Hid (Below w.heap.size w wo) := Lib.hid (by rw [hwo]; exact HW.out.trans ((V.drawn_below _ nq).mono HW.out.size))
        clear hwo
        go_wp2_with fail
        go_loopg [4, 5] l.length (fun q ov kv wz => ∃ (k : Nat) (o : Bool), ov = .bool o ∧ kv = .int .i64 k ∧ k ≤ l.length ∧ l.length - k ≤ q ∧ Hid (o = true ↔ (isN x.toNat = false ∧ Ok l x k)) ∧ Hid (Below w.heap.size w wz))
        case atStart => exact ⟨0, false, rfl, rfl, Nat.zero_le _, by omega, Lib.hid (by rw [nx]; simp [Ok]), HW2⟩
        case round =>
          clear HW2
          obtain ⟨k, o, rfl, rfl, hk, hmk, HO, HB⟩ := hrel
          by_cases hkl : k < l.length
          · have hki : (k : Int) < (l.length : Int) := by omega
            have h0k : (0 : Int) ≤ (k : Int) := by omega
            have c2 := (HF.out.below HB.out hbk) k hkl
            have c3 := (HF.out.below HB.out hbk) i hlt
            rw [← HX.out] at c3
            obtain ⟨z, hz⟩ : ∃ z : UInt64, z = l[k] := ⟨_, rfl⟩
            rw [← hz] at c2
            have HZ := Lib.hid hz
            have lz := u_lt z
            clear hz
            cases nz : isN z.toNat
            · by_cases hg : ky x.toNat < ky z.toNat
              · have hd : decide (cmp (ky z.toNat) (ky x.toNat) > 0) = true := decide_eq_true (cmp_gt.2 hg)
                have hd' : 0 < cmp (ky z.toNat) (ky x.toNat) := cmp_gt.2 hg
                have HGT := Lib.hid hg
                clear hg
                go_wp2_with fail
                go_quiet (first | (go_at_call 15; refine Calls.quiet_of_same (rorder_any _ _ lz lx _)))
                go_wp2_with fail
                go_roundg (l.length - (k + 1))
                case rel => exact ⟨k + 1, false, rfl, by go_num, by omega, Nat.le_refl _, Lib.hid (by
                  constructor
                  · intro h; cases h
                  · rintro ⟨_, h2⟩
                    have := h2 k hkl (by omega) (by rw [← HZ.out]; exact nz)
                    rw [← HZ.out] at this
                    exact absurd HGT.out (Int.not_lt.2 this)), Lib.hid (HB.out.trans ((V.drawn_below _ nq).mono HB.out.size))⟩
                case measure => omega
              · have hd : decide (cmp (ky z.toNat) (ky x.toNat) > 0) = false := decide_eq_false (fun h => hg (cmp_gt.1 h))
                have hd' : ¬ 0 < cmp (ky z.toNat) (ky x.toNat) := fun h => hg (cmp_gt.1 h)
                have HGT := Lib.hid (Int.not_lt.1 hg)
                clear hg
                go_wp2_with fail
                go_quiet (first | (go_at_call 15; refine Calls.quiet_of_same (rorder_any _ _ lz lx _)))
                go_wp2_with fail
                go_roundg (l.length - (k + 1))
                case rel => exact ⟨k + 1, o, rfl, by go_num, by omega, Nat.le_refl _, Lib.hid (by
                  rw [HO.out]
                  constructor
                  · rintro ⟨h1, h2⟩
                    refine ⟨h1, fun j h hj hn => ?_⟩
                    by_cases e : j = k
                    · subst e
                      rw [← HZ.out]; exact HGT.out
                    · exact h2 j h (by omega) hn
                  · rintro ⟨h1, h2⟩
                    exact ⟨h1, fun j h hj hn => h2 j h (by omega) hn⟩), Lib.hid (HB.out.trans ((V.drawn_below _ nq).mono HB.out.size))⟩
                case measure => omega
            · go_wp2_with fail
              go_quiet (fail)
              go_wp2_with fail
              go_roundg (l.length - (k + 1))
              case rel => exact ⟨k + 1, o, rfl, by go_num, by omega, Nat.le_refl _, Lib.hid (by
                rw [HO.out]
                constructor
                · rintro ⟨h1, h2⟩
                  refine ⟨h1, fun j h hj hn => ?_⟩
                  by_cases e : j = k
                  · subst e
                    rw [← HZ.out, nz] at hn
                    cases hn
                  · exact h2 j h (by omega) hn
                · rintro ⟨h1, h2⟩
                  exact ⟨h1, fun j h hj hn => h2 j h (by omega) hn⟩), Lib.hid (HB.out.trans ((V.drawn_below _ nq).mono HB.out.size))⟩
              case measure => omega
          · have hke : k = l.length := by omega
            cases o with
            | true =>
              obtain ⟨q1, q2⟩ := HO.out.1 rfl
              go_wp2_with fail
              go_ret
              rw [hke] at q2
              exact ⟨(i : Int), rfl, best_at hlt (by rw [← HX.out]; exact q1) (by rw [← HX.out]; exact q2) HG.out, HB.out⟩
            | false =>
              go_wp2_with fail
              go_roundg (l.length - (i + 1))
              case rel => exact ⟨i + 1, by go_num, by omega, Nat.le_refl _, Lib.hid (fun j h hj hn => by
                by_cases e : j = i
                · subst e
                  intro hok
                  rw [← HX.out] at hok hn
                  have := HO.out.2 ⟨hn, by rw [hke]; exact hok⟩
                  cases this
                · exact HG.out j h (by omega) hn), HB⟩
              case measure => omega
    · go_wp2_with fail
      go_ret
      exact ⟨-1, rfl, best_none (fun j hj hn => HG.out j hj (by omega) hn), HW.out⟩
end Go.Proofs.Ytngboallknmepaa.Fp
