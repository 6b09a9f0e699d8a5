/-
  Which chunks are those of three texts: the reference's Right; and its Same.
-/
import Derived.Test.YtcnnbchaelboeaaGck
namespace Go.Proofs.Ytcnnbchaelboeaa.Ck
set_option linter.unusedVariables false
set_option linter.unusedSimpArgs false
open Go.RowKit Go.Shelf
open T
open Mt (Pr fnd Rt right)
open N (PrIn PrIn.below)
open V (drawn_below grown_of)
open I (alloc1)


set_option maxRecDepth 100000 in
set_option maxHeartbeats 4000000 in
theorem rcright_any (A : Option Addr) (cap : Nat) (l : List Ck) (o a b : Int) (w : World) (hA : CkIn w A l) (hl : l.length ≤ maxLen) (ho : W64 o) (ha : W64 a) (hb : W64 b) :
    Calls Try.prog 20 #[.slice A l.length cap, .int .i64 o, .int .i64 a, .int .i64 b] w fun e w' => e = .returned (.bool (cright l o a b)) ∧ Below w.heap.size w w' := by
  have HA := Lib.hid hA
  unfold maxLen at hl
  obtain ⟨ho1, ho2⟩ := ho
  obtain ⟨ha1, ha2⟩ := ha
  obtain ⟨hb1, hb2⟩ := hb
  clear hA
  go_enter Try.func20, Try.ntmps20
  go_wp2_with fail
  go_loopg [9, 10, 11, 12] l.length (fun mm x9 x10 x11 x12 wr => ∃ (k : Nat) (t : Tr), k ≤ l.length ∧ x9 = .int .i64 t.1 ∧ x10 = .int .i64 t.2.1 ∧ x11 = .int .i64 t.2.2 ∧ x12 = .int .i64 (k : Int) ∧ l.length - k ≤ mm ∧ Below w.heap.size w wr ∧ Hid (Inv t (o, a, b)) ∧ Hid (cright l o a b = ckr t (o, a, b) (l.drop k)))
  case atStart => exact ⟨0, (0, 0, 0), Nat.zero_le _, rfl, rfl, rfl, rfl, by omega, Below.refl _ _, Lib.hid ⟨⟨Int.le_refl _, .inl rfl⟩, ⟨Int.le_refl _, .inl rfl⟩, ⟨Int.le_refl _, .inl rfl⟩⟩, Lib.hid rfl⟩
  case round =>
    obtain ⟨k, t, hk, rfl, rfl, rfl, rfl, hm, hbr, HIV, HF⟩ := hrel
    obtain ⟨t0, t1, t2⟩ := t
    by_cases hlt : k < l.length
    · obtain ⟨bk, off, hAe, hbk, hI⟩ := HA.out (by omega)
      subst hAe
      obtain ⟨q0, q1, q2, q3, q4, q5, q6⟩ := hI k hlt
      have c0 := (hbr.cell (p := ⟨bk, off + k * 7, none⟩) hbk).trans q0
      have c1 := (hbr.cell (p := ⟨bk, off + k * 7 + 1, none⟩) hbk).trans q1
      have c2 := (hbr.cell (p := ⟨bk, off + k * 7 + 2, none⟩) hbk).trans q2
      have c3 := (hbr.cell (p := ⟨bk, off + k * 7 + 3, none⟩) hbk).trans q3
      have c4 := (hbr.cell (p := ⟨bk, off + k * 7 + 4, none⟩) hbk).trans q4
      have c5 := (hbr.cell (p := ⟨bk, off + k * 7 + 5, none⟩) hbk).trans q5
      have c6 := (hbr.cell (p := ⟨bk, off + k * 7 + 6, none⟩) hbk).trans q6
      have HN := Lib.hid (HF.out.trans (ckr_at hlt (t0, t1, t2) (o, a, b)))
      have h0k : (0 : Int) ≤ (k : Int) := by omega
      have hki : (k : Int) < (l.length : Int) := by omega
      have HBR := Lib.hid hbr
      have hbs := hbr.size
      obtain ⟨c, hc⟩ : ∃ c : Ck, l[k]'hlt = c := ⟨_, rfl⟩
      rw [hc] at c0 c1 c2 c3 c4 c5 c6 HN
      clear hI q0 q1 q2 q3 q4 q5 q6 hbr HF hc
      have HBAD := Lib.hid (fun (h : ¬ good (t0, t1, t2) (o, a, b) c) => show cright l o a b = false by rw [HN.out, decide_eq_false h]; rfl)
      have HGOOD := Lib.hid (fun (h : good (t0, t1, t2) (o, a, b) c) => And.intro (show cright l o a b = ckr (next (t0, t1, t2) c) (o, a, b) (l.drop (k + 1)) by rw [HN.out, decide_eq_true h]; rfl) (HIV.out.next h))
      obtain ⟨cst, co, con, cca, cax, ccb, cbn⟩ := c
      simp only at c0 c1 c2 c3 c4 c5 c6
      have HB1 := Lib.hid (HBR.out.trans ((alloc1 wr (.cells #[.bool cst, .int .i64 co, .int .i64 con, .int .i64 cca, .int .i64 cax, .int .i64 ccb, .int .i64 cbn] 35)).mono hbs))
      obtain ⟨⟨i0, i1⟩, ⟨i2, i3⟩, ⟨i4, i5⟩⟩ := HIV.out
      simp only at i0 i1 i2 i3 i4 i5
      have hw0 : IntKind.i64.wrap (o - t0) = o - t0 := by rw [IntKind.wrap_i64]; omega
      have hw1 : IntKind.i64.wrap (a - t1) = a - t1 := by rw [IntKind.wrap_i64]; omega
      have hw2 : IntKind.i64.wrap (b - t2) = b - t2 := by rw [IntKind.wrap_i64]; omega
      have HIO := Lib.hid (And.intro i1 (And.intro i3 i5))
      clear HIV HN i1 i3 i5
      simp only [good] at HBAD HGOOD

      by_cases p0 : co = t0
      rotate_left
      · have hne : (co == t0) = false := beq_eq_false_iff_ne.2 p0
        have HV := Lib.hid (HBAD.out (fun h => p0 h.1.1))
        clear HBAD HGOOD
        go_wp2_with fail
        go_ret
        exact ⟨by rw [HV.out]; rfl, HB1.out⟩
      subst p0
      by_cases p1 : cca = t1
      rotate_left
      · have hne : (cca == t1) = false := beq_eq_false_iff_ne.2 p1
        have HV := Lib.hid (HBAD.out (fun h => p1 h.1.2.1))
        clear HBAD HGOOD
        go_wp2_with fail
        go_ret
        exact ⟨by rw [HV.out]; rfl, HB1.out⟩
      subst p1
      by_cases p2 : ccb = t2
      rotate_left
      · have hne : (ccb == t2) = false := beq_eq_false_iff_ne.2 p2
        have HV := Lib.hid (HBAD.out (fun h => p2 h.1.2.2))
        clear HBAD HGOOD
        go_wp2_with fail
        go_ret
        exact ⟨by rw [HV.out]; rfl, HB1.out⟩
      subst p2
      by_cases q0 : con < 0
      · skip
        have HV := Lib.hid (HBAD.out (fun h => by have := h.2.1; omega))
        clear HBAD HGOOD
        go_wp2_with fail
        go_ret
        exact ⟨by rw [HV.out]; rfl, HB1.out⟩
      by_cases q1 : cax < 0
      · skip
        have HV := Lib.hid (HBAD.out (fun h => by have := h.2.1; omega))
        clear HBAD HGOOD
        go_wp2_with fail
        go_ret
        exact ⟨by rw [HV.out]; rfl, HB1.out⟩
      by_cases q2 : cbn < 0
      · skip
        have HV := Lib.hid (HBAD.out (fun h => by have := h.2.1; omega))
        clear HBAD HGOOD
        go_wp2_with fail
        go_ret
        exact ⟨by rw [HV.out]; rfl, HB1.out⟩
      by_cases z : con = 0 ∧ cax = 0 ∧ cbn = 0
      · obtain ⟨rfl, rfl, rfl⟩ := z
        have HV := Lib.hid (HBAD.out (fun h => h.2.2.1 ⟨rfl, rfl, rfl⟩))
        clear HBAD HGOOD
        go_wp2_with fail
        go_ret
        exact ⟨by rw [HV.out]; rfl, HB1.out⟩
      by_cases z1 : con = 0
      rotate_left
      · clear z
        cases cst with
        | true =>
          by_cases y1 : con = cax
          rotate_left
          · have hne1 : (con == cax) = false := beq_eq_false_iff_ne.2 y1
            have HV := Lib.hid (HBAD.out (fun h => y1 (h.2.2.2.1 rfl).1))
            clear HBAD HGOOD
            go_wp2_with fail
            go_ret
            exact ⟨by rw [HV.out]; rfl, HB1.out⟩
          subst y1
          by_cases y2 : con = cbn
          rotate_left
          · have hne2 : (con == cbn) = false := beq_eq_false_iff_ne.2 y2
            have HV := Lib.hid (HBAD.out (fun h => y2 (h.2.2.2.1 rfl).2))
            clear HBAD HGOOD
            go_wp2_with fail
            go_ret
            exact ⟨by rw [HV.out]; rfl, HB1.out⟩
          subst y2
          by_cases r0 : o - co < con
          · skip
            have HV := Lib.hid (HBAD.out (fun h => by have := h.2.2.2.2; omega))
            clear HBAD HGOOD
            go_wp2_with fail
            go_ret
            exact ⟨by rw [HV.out]; rfl, HB1.out⟩
          by_cases r1 : a - cca < con
          · skip
            have HV := Lib.hid (HBAD.out (fun h => by have := h.2.2.2.2; omega))
            clear HBAD HGOOD
            go_wp2_with fail
            go_ret
            exact ⟨by rw [HV.out]; rfl, HB1.out⟩
          by_cases r2 : b - ccb < con
          · skip
            have HV := Lib.hid (HBAD.out (fun h => by have := h.2.2.2.2; omega))
            clear HBAD HGOOD
            go_wp2_with fail
            go_ret
            exact ⟨by rw [HV.out]; rfl, HB1.out⟩
          have hv0 : IntKind.i64.wrap (co + con) = co + con := by have := HIO.out; rw [IntKind.wrap_i64]; omega
          have hv1 : IntKind.i64.wrap (cca + con) = cca + con := by have := HIO.out; rw [IntKind.wrap_i64]; omega
          have hv2 : IntKind.i64.wrap (ccb + con) = ccb + con := by have := HIO.out; rw [IntKind.wrap_i64]; omega
          have hgd := HGOOD.out (⟨⟨rfl, rfl, rfl⟩, ⟨by omega, by omega, by omega⟩, (fun h => by omega), (fun _ => ⟨rfl, rfl⟩), by omega, by omega, by omega⟩)
          simp only [next, Int.add_zero] at hgd
          have HG := Lib.hid hgd
          clear HBAD HGOOD hgd
          go_wp2_with fail
          go_roundg (l.length - (k + 1))
          case measure => omega
          case rel => exact ⟨k + 1, (co + con, cca + con, ccb + con), by omega, rfl, rfl, rfl, by go_num, Nat.le_refl _, HB1.out, Lib.hid HG.out.2, Lib.hid HG.out.1⟩
        | false =>
          by_cases r0 : o - co < con
          · skip
            have HV := Lib.hid (HBAD.out (fun h => by have := h.2.2.2.2; omega))
            clear HBAD HGOOD
            go_wp2_with fail
            go_ret
            exact ⟨by rw [HV.out]; rfl, HB1.out⟩
          by_cases r1 : a - cca < cax
          · skip
            have HV := Lib.hid (HBAD.out (fun h => by have := h.2.2.2.2; omega))
            clear HBAD HGOOD
            go_wp2_with fail
            go_ret
            exact ⟨by rw [HV.out]; rfl, HB1.out⟩
          by_cases r2 : b - ccb < cbn
          · skip
            have HV := Lib.hid (HBAD.out (fun h => by have := h.2.2.2.2; omega))
            clear HBAD HGOOD
            go_wp2_with fail
            go_ret
            exact ⟨by rw [HV.out]; rfl, HB1.out⟩
          have hv0 : IntKind.i64.wrap (co + con) = co + con := by have := HIO.out; rw [IntKind.wrap_i64]; omega
          have hv1 : IntKind.i64.wrap (cca + cax) = cca + cax := by have := HIO.out; rw [IntKind.wrap_i64]; omega
          have hv2 : IntKind.i64.wrap (ccb + cbn) = ccb + cbn := by have := HIO.out; rw [IntKind.wrap_i64]; omega
          have hgd := HGOOD.out (⟨⟨rfl, rfl, rfl⟩, ⟨by omega, by omega, by omega⟩, (fun h => by omega), (fun h => by cases h), by omega, by omega, by omega⟩)
          simp only [next, Int.add_zero] at hgd
          have HG := Lib.hid hgd
          clear HBAD HGOOD hgd
          go_wp2_with fail
          go_roundg (l.length - (k + 1))
          case measure => omega
          case rel => exact ⟨k + 1, (co + con, cca + cax, ccb + cbn), by omega, rfl, rfl, rfl, by go_num, Nat.le_refl _, HB1.out, Lib.hid HG.out.2, Lib.hid HG.out.1⟩
      subst z1
      by_cases z2 : cax = 0
      rotate_left
      · clear z
        cases cst with
        | true =>
          have hne1 : ((0 : Int) == cax) = false := beq_eq_false_iff_ne.2 (Ne.symm z2)
          have HV := Lib.hid (HBAD.out (fun h => z2 (h.2.2.2.1 rfl).1.symm))
          clear HBAD HGOOD
          go_wp2_with fail
          go_ret
          exact ⟨by rw [HV.out]; rfl, HB1.out⟩
        | false =>
          by_cases r0 : o - co < 0
          · skip
            have HV := Lib.hid (HBAD.out (fun h => by have := h.2.2.2.2; omega))
            clear HBAD HGOOD
            go_wp2_with fail
            go_ret
            exact ⟨by rw [HV.out]; rfl, HB1.out⟩
          by_cases r1 : a - cca < cax
          · skip
            have HV := Lib.hid (HBAD.out (fun h => by have := h.2.2.2.2; omega))
            clear HBAD HGOOD
            go_wp2_with fail
            go_ret
            exact ⟨by rw [HV.out]; rfl, HB1.out⟩
          by_cases r2 : b - ccb < cbn
          · skip
            have HV := Lib.hid (HBAD.out (fun h => by have := h.2.2.2.2; omega))
            clear HBAD HGOOD
            go_wp2_with fail
            go_ret
            exact ⟨by rw [HV.out]; rfl, HB1.out⟩
          have hv0 : IntKind.i64.wrap (co) = co := by have := HIO.out; rw [IntKind.wrap_i64]; omega
          have hv1 : IntKind.i64.wrap (cca + cax) = cca + cax := by have := HIO.out; rw [IntKind.wrap_i64]; omega
          have hv2 : IntKind.i64.wrap (ccb + cbn) = ccb + cbn := by have := HIO.out; rw [IntKind.wrap_i64]; omega
          have hgd := HGOOD.out (⟨⟨rfl, rfl, rfl⟩, ⟨by omega, by omega, by omega⟩, (fun h => by omega), (fun h => by cases h), by omega, by omega, by omega⟩)
          simp only [next, Int.add_zero] at hgd
          have HG := Lib.hid hgd
          clear HBAD HGOOD hgd
          go_wp2_with fail
          go_roundg (l.length - (k + 1))
          case measure => omega
          case rel => exact ⟨k + 1, (co, cca + cax, ccb + cbn), by omega, rfl, rfl, rfl, by go_num, Nat.le_refl _, HB1.out, Lib.hid HG.out.2, Lib.hid HG.out.1⟩
      subst z2
      have z3 : cbn ≠ 0 := fun h => z ⟨rfl, rfl, h⟩
      clear z
      cases cst with
      | true =>
        have hne2 : ((0 : Int) == cbn) = false := beq_eq_false_iff_ne.2 (Ne.symm z3)
        have HV := Lib.hid (HBAD.out (fun h => z3 (h.2.2.2.1 rfl).2.symm))
        clear HBAD HGOOD
        go_wp2_with fail
        go_ret
        exact ⟨by rw [HV.out]; rfl, HB1.out⟩
      | false =>
        by_cases r0 : o - co < 0
        · skip
          have HV := Lib.hid (HBAD.out (fun h => by have := h.2.2.2.2; omega))
          clear HBAD HGOOD
          go_wp2_with fail
          go_ret
          exact ⟨by rw [HV.out]; rfl, HB1.out⟩
        by_cases r1 : a - cca < 0
        · skip
          have HV := Lib.hid (HBAD.out (fun h => by have := h.2.2.2.2; omega))
          clear HBAD HGOOD
          go_wp2_with fail
          go_ret
          exact ⟨by rw [HV.out]; rfl, HB1.out⟩
        by_cases r2 : b - ccb < cbn
        · skip
          have HV := Lib.hid (HBAD.out (fun h => by have := h.2.2.2.2; omega))
          clear HBAD HGOOD
          go_wp2_with fail
          go_ret
          exact ⟨by rw [HV.out]; rfl, HB1.out⟩
        have hv0 : IntKind.i64.wrap (co) = co := by have := HIO.out; rw [IntKind.wrap_i64]; omega
        have hv1 : IntKind.i64.wrap (cca) = cca := by have := HIO.out; rw [IntKind.wrap_i64]; omega
        have hv2 : IntKind.i64.wrap (ccb + cbn) = ccb + cbn := by have := HIO.out; rw [IntKind.wrap_i64]; omega
        have hgd := HGOOD.out (⟨⟨rfl, rfl, rfl⟩, ⟨by omega, by omega, by omega⟩, (fun h => by omega), (fun h => by cases h), by omega, by omega, by omega⟩)
        simp only [next, Int.add_zero] at hgd
        have HG := Lib.hid hgd
        clear HBAD HGOOD hgd
        go_wp2_with fail
        go_roundg (l.length - (k + 1))
        case measure => omega
        case rel => exact ⟨k + 1, (co, cca, ccb + cbn), by omega, rfl, rfl, rfl, by go_num, Nat.le_refl _, HB1.out, Lib.hid HG.out.2, Lib.hid HG.out.1⟩
    · obtain rfl : k = l.length := by omega
      have HV := Lib.hid (show cright l o a b = decide (((t0, t1, t2) : Tr) = (o, a, b)) by rw [HF.out, List.drop_length]; rfl)
      clear HF
      by_cases p0 : t0 = o
      · by_cases p1 : t1 = a
        · by_cases p2 : t2 = b
          · go_wp2_with fail
            go_ret
            exact ⟨by rw [HV.out, decide_eq_true (by rw [p0, p1, p2])]; rfl, hbr⟩
          · go_wp2_with fail
            go_ret
            exact ⟨by rw [HV.out, decide_eq_false (by simp [p2])]; exact congrArg (fun z => Ending.returned (.bool z)) (beq_eq_false_iff_ne.2 p2), hbr⟩
        · go_wp2_with fail
          go_ret
          exact ⟨by rw [HV.out, decide_eq_false (by simp [p1])]; rfl, hbr⟩
      · go_wp2_with fail
        go_ret
        exact ⟨by rw [HV.out, decide_eq_false (by simp [p0])]; rfl, hbr⟩

theorem ck_neq (w : World) (x : Ck) : (binOp .neq 35 (ckV x) (ckV x)).run Try.prog w = .ok (.bool false) w := by
  have h := ck_eql w x
  simp only [binOp, Sem.run_bind, ckV] at h ⊢
  cases hr : (Op.equal 35 (ckV x) (ckV x)).run Try.prog w with
  | ok v w' =>
    simp only [ckV] at hr
    rw [hr] at h ⊢
    simp only [Result.andThen_ok, Sem.run_pure, Result.ok.injEq, Value.bool.injEq] at h
    obtain ⟨rfl, rfl⟩ := h
    simp only [Result.andThen_ok, Sem.run_pure, Bool.not_true]
  | _ => simp only [ckV] at hr; rw [hr] at h; simp at h
set_option maxRecDepth 100000 in
set_option maxHeartbeats 1000000 in
theorem rcsame_any (A B : Option Addr) (c c' : Nat) (l : List Ck) (w : World) (hA : CkIn w A l) (hB : CkIn w B l) (hl : l.length ≤ 1000000) :
    Calls Try.prog 13 #[.slice A l.length c, .slice B l.length c'] w fun e w' => e = .returned (.bool true) ∧ Below w.heap.size w w' := by
  have HA := Lib.hid hA
  have HB := Lib.hid hB
  clear hA hB
  have hne : ((l.length : Int) != (l.length : Int)) = false := by simp
  have qN := fun w x => ck_neq w x
  simp only [ckV] at qN
  go_enter Try.func13, Try.ntmps13
  go_wp2_with fail
  go_loopg [5] l.length (fun q i wx => ∃ k : Nat, k ≤ l.length ∧ i = .int .i64 k ∧ l.length - k ≤ q ∧ ∃ d, wx = w.drewN d)
  case atStart => exact ⟨0, Nat.zero_le _, rfl, by omega, 0, rfl⟩
  case round =>
    obtain ⟨k, hk, rfl, hm, d, rfl⟩ := hrel
    by_cases hlt : k < l.length
    · obtain ⟨b1, o1, hAe, hb1, hI1⟩ := HA.out (by omega)
      subst hAe
      obtain ⟨b2, o2, hBe, hb2, hI2⟩ := HB.out (by omega)
      subst hBe
      obtain ⟨c0, c1, c2, c3, c4, c5, c6⟩ := hI1 k hlt
      obtain ⟨d0, d1, d2, d3, d4, d5, d6⟩ := hI2 k hlt
      have h0k : (0 : Int) ≤ (k : Int) := by omega
      have hki : (k : Int) < (l.length : Int) := by omega
      clear hI1 hI2
      obtain ⟨x, hx⟩ : ∃ x : Ck, l[k]'hlt = x := ⟨_, rfl⟩
      rw [hx] at c0 c1 c2 c3 c4 c5 c6 d0 d1 d2 d3 d4 d5 d6
      have qX := fun w => qN w x
      clear hx qN
      obtain ⟨x0, x1, x2, x3, x4, x5, x6⟩ := x
      simp only at c0 c1 c2 c3 c4 c5 c6 d0 d1 d2 d3 d4 d5 d6 qX
      go_wp2_with fail
      go_quiet (fail)
      go_wp2_with fail
      go_roundg (l.length - (k + 1))
      case rel => exact ⟨k + 1, by omega, by go_num, Nat.le_refl _, _, rfl⟩
      case measure => omega
    · obtain rfl : k = l.length := by omega
      go_wp2_with fail
      go_ret
      exact ⟨rfl, drawn_below _ _⟩
end Go.Proofs.Ytcnnbchaelboeaa.Ck
