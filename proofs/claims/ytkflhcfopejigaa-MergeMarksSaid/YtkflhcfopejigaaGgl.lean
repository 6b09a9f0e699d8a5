/-
  Which chunks are those of three texts: the reference's Right; and its Same.
  The contracts of layer 13 as its laws take them, one form each; what must be whatever is asked of it; the first forty pairs.
  The contract of merge's right: are pieces those of three texts?
  The reference's Clean and Same of pieces.
  The contracts of merge's cut and stretches: a text's lines with no room behind them.
  The contract of merge's stretches: the three texts' lines of a chunk.
  slices.Equal and the reference's Same on any two rows of lines (as ScI, with less under it).
-/
import Derived.Test.YtkflhcfopejigaaGgh
import Derived.Test.YtkflhcfopejigaaGgj
import Derived.Test.YtkflhcfopejigaaGgk
import Derived.Test.YtkflhcfopejigaaGgi
import Derived.BigQuiet
import Derived.Laws.StructEq
import Derived.Test.YtkflhcfopejigaaGga
import Derived.Test.YtkflhcfopejigaaGgc
import Derived.Deep.RegionHeld3
import Derived.Test.YtkflhcfopejigaaGgb
namespace Go.Proofs.Ytkflhcfopejigaa.Ck
set_option linter.unusedVariables false
set_option linter.unusedSimpArgs false
open Go.RowKit Go.Shelf
open T
open Mt (Pr fnd Rt right)
open N (PrIn PrIn.below)
open V (drawn_below grown_of)
open I (alloc1)


set_option maxRecDepth 100000 in
set_option maxHeartbeats 4000000 in
theorem rcright_any (A : Option Addr) (cap : Nat) (l : List Ck) (o a b : Int) (w : World) (hA : CkIn w A l) (hl : l.length ≤ maxLen) (ho : W64 o) (ha : W64 a) (hb : W64 b) :
    Calls Try.prog 49 #[.slice A l.length cap, .int .i64 o, .int .i64 a, .int .i64 b] w fun e w' => e = .returned (.bool (cright l o a b)) ∧ Below w.heap.size w w' := by
  have HA := Lib.hid hA
  unfold maxLen at hl
  obtain ⟨ho1, ho2⟩ := ho
  obtain ⟨ha1, ha2⟩ := ha
  obtain ⟨hb1, hb2⟩ := hb
  clear hA
  go_enter Try.func49, Try.ntmps49
  go_wp2_with fail
  go_loopg [9, 10, 11, 12] l.length (fun mm x9 x10 x11 x12 wr => ∃ (k : Nat) (t : Tr), k ≤ l.length ∧ x9 = .int .i64 t.1 ∧ x10 = .int .i64 t.2.1 ∧ x11 = .int .i64 t.2.2 ∧ x12 = .int .i64 (k : Int) ∧ l.length - k ≤ mm ∧ Below w.heap.size w wr ∧ Hid (Inv t (o, a, b)) ∧ Hid (cright l o a b = ckr t (o, a, b) (l.drop k)))
  case atStart => exact ⟨0, (0, 0, 0), Nat.zero_le _, rfl, rfl, rfl, rfl, by omega, Below.refl _ _, Lib.hid ⟨⟨Int.le_refl _, .inl rfl⟩, ⟨Int.le_refl _, .inl rfl⟩, ⟨Int.le_refl _, .inl rfl⟩⟩, Lib.hid rfl⟩
  case round =>
    obtain ⟨k, t, hk, rfl, rfl, rfl, rfl, hm, hbr, HIV, HF⟩ := hrel
    obtain ⟨t0, t1, t2⟩ := t
    by_cases hlt : k < l.length
    · obtain ⟨bk, off, hAe, hbk, hI⟩ := HA.out (by omega)
      subst hAe
      obtain ⟨q0, q1, q2, q3, q4, q5, q6⟩ := hI k hlt
      have c0 := (hbr.cell (p := ⟨bk, off + k * 7, none⟩) hbk).trans q0
      have c1 := (hbr.cell (p := ⟨bk, off + k * 7 + 1, none⟩) hbk).trans q1
      have c2 := (hbr.cell (p := ⟨bk, off + k * 7 + 2, none⟩) hbk).trans q2
      have c3 := (hbr.cell (p := ⟨bk, off + k * 7 + 3, none⟩) hbk).trans q3
      have c4 := (hbr.cell (p := ⟨bk, off + k * 7 + 4, none⟩) hbk).trans q4
      have c5 := (hbr.cell (p := ⟨bk, off + k * 7 + 5, none⟩) hbk).trans q5
      have c6 := (hbr.cell (p := ⟨bk, off + k * 7 + 6, none⟩) hbk).trans q6
      have HN := Lib.hid (HF.out.trans (ckr_at hlt (t0, t1, t2) (o, a, b)))
      have h0k : (0 : Int) ≤ (k : Int) := by omega
      have hki : (k : Int) < (l.length : Int) := by omega
      have HBR := Lib.hid hbr
      have hbs := hbr.size
      obtain ⟨c, hc⟩ : ∃ c : Ck, l[k]'hlt = c := ⟨_, rfl⟩
      rw [hc] at c0 c1 c2 c3 c4 c5 c6 HN
      clear hI q0 q1 q2 q3 q4 q5 q6 hbr HF hc
      have HBAD := Lib.hid (fun (h : ¬ good (t0, t1, t2) (o, a, b) c) => show cright l o a b = false by rw [HN.out, decide_eq_false h]; rfl)
      have HGOOD := Lib.hid (fun (h : good (t0, t1, t2) (o, a, b) c) => And.intro (show cright l o a b = ckr (next (t0, t1, t2) c) (o, a, b) (l.drop (k + 1)) by rw [HN.out, decide_eq_true h]; rfl) (HIV.out.next h))
      obtain ⟨cst, co, con, cca, cax, ccb, cbn⟩ := c
      simp only at c0 c1 c2 c3 c4 c5 c6
      have HB1 := Lib.hid (HBR.out.trans ((alloc1 wr (.cells #[.bool cst, .int .i64 co, .int .i64 con, .int .i64 cca, .int .i64 cax, .int .i64 ccb, .int .i64 cbn] 41)).mono hbs))
      obtain ⟨⟨i0, i1⟩, ⟨i2, i3⟩, ⟨i4, i5⟩⟩ := HIV.out
      simp only at i0 i1 i2 i3 i4 i5
      have hw0 : IntKind.i64.wrap (o - t0) = o - t0 := by rw [IntKind.wrap_i64]; omega
      have hw1 : IntKind.i64.wrap (a - t1) = a - t1 := by rw [IntKind.wrap_i64]; omega
      have hw2 : IntKind.i64.wrap (b - t2) = b - t2 := by rw [IntKind.wrap_i64]; omega
      have HIO := Lib.hid (And.intro i1 (And.intro i3 i5))
      clear HIV HN i1 i3 i5
      simp only [good] at HBAD HGOOD

      by_cases p0 : co = t0
      rotate_left
      · have hne : (co == t0) = false := beq_eq_false_iff_ne.2 p0
        have HV := Lib.hid (HBAD.out (fun h => p0 h.1.1))
        clear HBAD HGOOD
        go_wp2_with fail
        go_ret
        exact ⟨by rw [HV.out]; rfl, HB1.out⟩
      subst p0
      by_cases p1 : cca = t1
      rotate_left
      · have hne : (cca == t1) = false := beq_eq_false_iff_ne.2 p1
        have HV := Lib.hid (HBAD.out (fun h => p1 h.1.2.1))
        clear HBAD HGOOD
        go_wp2_with fail
        go_ret
        exact ⟨by rw [HV.out]; rfl, HB1.out⟩
      subst p1
      by_cases p2 : ccb = t2
      rotate_left
      · have hne : (ccb == t2) = false := beq_eq_false_iff_ne.2 p2
        have HV := Lib.hid (HBAD.out (fun h => p2 h.1.2.2))
        clear HBAD HGOOD
        go_wp2_with fail
        go_ret
        exact ⟨by rw [HV.out]; rfl, HB1.out⟩
      subst p2
      by_cases q0 : con < 0
      · skip
        have HV := Lib.hid (HBAD.out (fun h => by have := h.2.1; omega))
        clear HBAD HGOOD
        go_wp2_with fail
        go_ret
        exact ⟨by rw [HV.out]; rfl, HB1.out⟩
      by_cases q1 : cax < 0
      · skip
        have HV := Lib.hid (HBAD.out (fun h => by have := h.2.1; omega))
        clear HBAD HGOOD
        go_wp2_with fail
        go_ret
        exact ⟨by rw [HV.out]; rfl, HB1.out⟩
      by_cases q2 : cbn < 0
      · skip
        have HV := Lib.hid (HBAD.out (fun h => by have := h.2.1; omega))
        clear HBAD HGOOD
        go_wp2_with fail
        go_ret
        exact ⟨by rw [HV.out]; rfl, HB1.out⟩
      by_cases z : con = 0 ∧ cax = 0 ∧ cbn = 0
      · obtain ⟨rfl, rfl, rfl⟩ := z
        have HV := Lib.hid (HBAD.out (fun h => h.2.2.1 ⟨rfl, rfl, rfl⟩))
        clear HBAD HGOOD
        go_wp2_with fail
        go_ret
        exact ⟨by rw [HV.out]; rfl, HB1.out⟩
      by_cases z1 : con = 0
      rotate_left
      · clear z
        cases cst with
        | true =>
          by_cases y1 : con = cax
          rotate_left
          · have hne1 : (con == cax) = false := beq_eq_false_iff_ne.2 y1
            have HV := Lib.hid (HBAD.out (fun h => y1 (h.2.2.2.1 rfl).1))
            clear HBAD HGOOD
            go_wp2_with fail
            go_ret
            exact ⟨by rw [HV.out]; rfl, HB1.out⟩
          subst y1
          by_cases y2 : con = cbn
          rotate_left
          · have hne2 : (con == cbn) = false := beq_eq_false_iff_ne.2 y2
            have HV := Lib.hid (HBAD.out (fun h => y2 (h.2.2.2.1 rfl).2))
            clear HBAD HGOOD
            go_wp2_with fail
            go_ret
            exact ⟨by rw [HV.out]; rfl, HB1.out⟩
          subst y2
          by_cases r0 : o - co < con
          · skip
            have HV := Lib.hid (HBAD.out (fun h => by have := h.2.2.2.2; omega))
            clear HBAD HGOOD
            go_wp2_with fail
            go_ret
            exact ⟨by rw [HV.out]; rfl, HB1.out⟩
          by_cases r1 : a - cca < con
          · skip
            have HV := Lib.hid (HBAD.out (fun h => by have := h.2.2.2.2; omega))
            clear HBAD HGOOD
            go_wp2_with fail
            go_ret
            exact ⟨by rw [HV.out]; rfl, HB1.out⟩
          by_cases r2 : b - ccb < con
          · skip
            have HV := Lib.hid (HBAD.out (fun h => by have := h.2.2.2.2; omega))
            clear HBAD HGOOD
            go_wp2_with fail
            go_ret
            exact ⟨by rw [HV.out]; rfl, HB1.out⟩
          have hv0 : IntKind.i64.wrap (co + con) = co + con := by have := HIO.out; rw [IntKind.wrap_i64]; omega
          have hv1 : IntKind.i64.wrap (cca + con) = cca + con := by have := HIO.out; rw [IntKind.wrap_i64]; omega
          have hv2 : IntKind.i64.wrap (ccb + con) = ccb + con := by have := HIO.out; rw [IntKind.wrap_i64]; omega
          have hgd := HGOOD.out (⟨⟨rfl, rfl, rfl⟩, ⟨by omega, by omega, by omega⟩, (fun h => by omega), (fun _ => ⟨rfl, rfl⟩), by omega, by omega, by omega⟩)
          simp only [next, Int.add_zero] at hgd
          have HG := Lib.hid hgd
          clear HBAD HGOOD hgd
          go_wp2_with fail
          go_roundg (l.length - (k + 1))
          case measure => omega
          case rel => exact ⟨k + 1, (co + con, cca + con, ccb + con), by omega, rfl, rfl, rfl, by go_num, Nat.le_refl _, HB1.out, Lib.hid HG.out.2, Lib.hid HG.out.1⟩
        | false =>
          by_cases r0 : o - co < con
          · skip
            have HV := Lib.hid (HBAD.out (fun h => by have := h.2.2.2.2; omega))
            clear HBAD HGOOD
            go_wp2_with fail
            go_ret
            exact ⟨by rw [HV.out]; rfl, HB1.out⟩
          by_cases r1 : a - cca < cax
          · skip
            have HV := Lib.hid (HBAD.out (fun h => by have := h.2.2.2.2; omega))
            clear HBAD HGOOD
            go_wp2_with fail
            go_ret
            exact ⟨by rw [HV.out]; rfl, HB1.out⟩
          by_cases r2 : b - ccb < cbn
          · skip
            have HV := Lib.hid (HBAD.out (fun h => by have := h.2.2.2.2; omega))
            clear HBAD HGOOD
            go_wp2_with fail
            go_ret
            exact ⟨by rw [HV.out]; rfl, HB1.out⟩
          have hv0 : IntKind.i64.wrap (co + con) = co + con := by have := HIO.out; rw [IntKind.wrap_i64]; omega
          have hv1 : IntKind.i64.wrap (cca + cax) = cca + cax := by have := HIO.out; rw [IntKind.wrap_i64]; omega
          have hv2 : IntKind.i64.wrap (ccb + cbn) = ccb + cbn := by have := HIO.out; rw [IntKind.wrap_i64]; omega
          have hgd := HGOOD.out (⟨⟨rfl, rfl, rfl⟩, ⟨by omega, by omega, by omega⟩, (fun h => by omega), (fun h => by cases h), by omega, by omega, by omega⟩)
          simp only [next, Int.add_zero] at hgd
          have HG := Lib.hid hgd
          clear HBAD HGOOD hgd
          go_wp2_with fail
          go_roundg (l.length - (k + 1))
          case measure => omega
          case rel => exact ⟨k + 1, (co + con, cca + cax, ccb + cbn), by omega, rfl, rfl, rfl, by go_num, Nat.le_refl _, HB1.out, Lib.hid HG.out.2, Lib.hid HG.out.1⟩
      subst z1
      by_cases z2 : cax = 0
      rotate_left
      · clear z
        cases cst with
        | true =>
          have hne1 : ((0 : Int) == cax) = false := beq_eq_false_iff_ne.2 (Ne.symm z2)
          have HV := Lib.hid (HBAD.out (fun h => z2 (h.2.2.2.1 rfl).1.symm))
          clear HBAD HGOOD
          go_wp2_with fail
          go_ret
          exact ⟨by rw [HV.out]; rfl, HB1.out⟩
        | false =>
          by_cases r0 : o - co < 0
          · skip
            have HV := Lib.hid (HBAD.out (fun h => by have := h.2.2.2.2; omega))
            clear HBAD HGOOD
            go_wp2_with fail
            go_ret
            exact ⟨by rw [HV.out]; rfl, HB1.out⟩
          by_cases r1 : a - cca < cax
          · skip
            have HV := Lib.hid (HBAD.out (fun h => by have := h.2.2.2.2; omega))
            clear HBAD HGOOD
            go_wp2_with fail
            go_ret
            exact ⟨by rw [HV.out]; rfl, HB1.out⟩
          by_cases r2 : b - ccb < cbn
          · skip
            have HV := Lib.hid (HBAD.out (fun h => by have := h.2.2.2.2; omega))
            clear HBAD HGOOD
            go_wp2_with fail
            go_ret
            exact ⟨by rw [HV.out]; rfl, HB1.out⟩
          have hv0 : IntKind.i64.wrap (co) = co := by have := HIO.out; rw [IntKind.wrap_i64]; omega
          have hv1 : IntKind.i64.wrap (cca + cax) = cca + cax := by have := HIO.out; rw [IntKind.wrap_i64]; omega
          have hv2 : IntKind.i64.wrap (ccb + cbn) = ccb + cbn := by have := HIO.out; rw [IntKind.wrap_i64]; omega
          have hgd := HGOOD.out (⟨⟨rfl, rfl, rfl⟩, ⟨by omega, by omega, by omega⟩, (fun h => by omega), (fun h => by cases h), by omega, by omega, by omega⟩)
          simp only [next, Int.add_zero] at hgd
          have HG := Lib.hid hgd
          clear HBAD HGOOD hgd
          go_wp2_with fail
          go_roundg (l.length - (k + 1))
          case measure => omega
          case rel => exact ⟨k + 1, (co, cca + cax, ccb + cbn), by omega, rfl, rfl, rfl, by go_num, Nat.le_refl _, HB1.out, Lib.hid HG.out.2, Lib.hid HG.out.1⟩
      subst z2
      have z3 : cbn ≠ 0 := fun h => z ⟨rfl, rfl, h⟩
      clear z
      cases cst with
      | true =>
        have hne2 : ((0 : Int) == cbn) = false := beq_eq_false_iff_ne.2 (Ne.symm z3)
        have HV := Lib.hid (HBAD.out (fun h => z3 (h.2.2.2.1 rfl).2.symm))
        clear HBAD HGOOD
        go_wp2_with fail
        go_ret
        exact ⟨by rw [HV.out]; rfl, HB1.out⟩
      | false =>
        by_cases r0 : o - co < 0
        · skip
          have HV := Lib.hid (HBAD.out (fun h => by have := h.2.2.2.2; omega))
          clear HBAD HGOOD
          go_wp2_with fail
          go_ret
          exact ⟨by rw [HV.out]; rfl, HB1.out⟩
        by_cases r1 : a - cca < 0
        · skip
          have HV := Lib.hid (HBAD.out (fun h => by have := h.2.2.2.2; omega))
          clear HBAD HGOOD
          go_wp2_with fail
          go_ret
          exact ⟨by rw [HV.out]; rfl, HB1.out⟩
        by_cases r2 : b - ccb < cbn
        · skip
          have HV := Lib.hid (HBAD.out (fun h => by have := h.2.2.2.2; omega))
          clear HBAD HGOOD
          go_wp2_with fail
          go_ret
          exact ⟨by rw [HV.out]; rfl, HB1.out⟩
        have hv0 : IntKind.i64.wrap (co) = co := by have := HIO.out; rw [IntKind.wrap_i64]; omega
        have hv1 : IntKind.i64.wrap (cca) = cca := by have := HIO.out; rw [IntKind.wrap_i64]; omega
        have hv2 : IntKind.i64.wrap (ccb + cbn) = ccb + cbn := by have := HIO.out; rw [IntKind.wrap_i64]; omega
        have hgd := HGOOD.out (⟨⟨rfl, rfl, rfl⟩, ⟨by omega, by omega, by omega⟩, (fun h => by omega), (fun h => by cases h), by omega, by omega, by omega⟩)
        simp only [next, Int.add_zero] at hgd
        have HG := Lib.hid hgd
        clear HBAD HGOOD hgd
        go_wp2_with fail
        go_roundg (l.length - (k + 1))
        case measure => omega
        case rel => exact ⟨k + 1, (co, cca, ccb + cbn), by omega, rfl, rfl, rfl, by go_num, Nat.le_refl _, HB1.out, Lib.hid HG.out.2, Lib.hid HG.out.1⟩
    · obtain rfl : k = l.length := by omega
      have HV := Lib.hid (show cright l o a b = decide (((t0, t1, t2) : Tr) = (o, a, b)) by rw [HF.out, List.drop_length]; rfl)
      clear HF
      by_cases p0 : t0 = o
      · by_cases p1 : t1 = a
        · by_cases p2 : t2 = b
          · go_wp2_with fail
            go_ret
            exact ⟨by rw [HV.out, decide_eq_true (by rw [p0, p1, p2])]; rfl, hbr⟩
          · go_wp2_with fail
            go_ret
            exact ⟨by rw [HV.out, decide_eq_false (by simp [p2])]; exact congrArg (fun z => Ending.returned (.bool z)) (beq_eq_false_iff_ne.2 p2), hbr⟩
        · go_wp2_with fail
          go_ret
          exact ⟨by rw [HV.out, decide_eq_false (by simp [p1])]; rfl, hbr⟩
      · go_wp2_with fail
        go_ret
        exact ⟨by rw [HV.out, decide_eq_false (by simp [p0])]; rfl, hbr⟩

theorem ck_neq (w : World) (x : Ck) : (binOp .neq 41 (ckV x) (ckV x)).run Try.prog w = .ok (.bool false) w := by
  have h := ck_eql w x
  simp only [binOp, Sem.run_bind, ckV] at h ⊢
  cases hr : (Op.equal 41 (ckV x) (ckV x)).run Try.prog w with
  | ok v w' =>
    simp only [ckV] at hr
    rw [hr] at h ⊢
    simp only [Result.andThen_ok, Sem.run_pure, Result.ok.injEq, Value.bool.injEq] at h
    obtain ⟨rfl, rfl⟩ := h
    simp only [Result.andThen_ok, Sem.run_pure, Bool.not_true]
  | _ => simp only [ckV] at hr; rw [hr] at h; simp at h
end Go.Proofs.Ytkflhcfopejigaa.Ck

namespace Go.Proofs.Ytkflhcfopejigaa.Ck
set_option linter.unusedVariables false
set_option linter.unusedSimpArgs false
open Go.RowKit
open T
open Mt (Pr fnd Rt right)
open N (PrIn PrIn.below)
open V (drawn_below)
open I (alloc1)

def BoEnd (w : World) (b : Bool) (e : Ending) (w' : World) : Prop := e = .returned (.bool b) ∧ Below w.heap.size w w'
def CoEnd (w : World) (l : List Ck) (z : Int) (e : Ending) (w' : World) : Prop := ∃ C cc, e = .returned (.tuple #[.slice C l.length cc, .int .i64 z]) ∧ CkIn w' C l ∧ Below w.heap.size w w'
theorem CoEnd.of {w : World} {l : List Ck} {z : Int} {e : Ending} {w' : World} (h : CkEnd w l z e w') : CoEnd w l z e w' := by
  obtain ⟨C, cc, h1, h2, h3⟩ := h
  exact ⟨C, cc, h1, ck_own h2, h3⟩
def OfC (fn : FuncId) (p q : List Pr) (o a b : Int) (l : List Ck) (z : Int) : Prop := ∀ (w : World) (A B : Option Addr) (c c' : Nat), PrIn w A p → PrIn w B q → Calls Try.prog fn #[.slice A p.length c, .slice B q.length c', .int .i64 o, .int .i64 a, .int .i64 b] w (CoEnd w l z)
theorem OfC.at {fn : FuncId} {p q : List Pr} {o a b : Int} {l : List Ck} {z : Int} (h : OfC fn p q o a b l z) {w : World} {A B : Option Addr} (c c' : Nat) (hA : PrIn w A p) (hB : PrIn w B q) : Calls Try.prog fn #[.slice A p.length c, .slice B q.length c', .int .i64 o, .int .i64 a, .int .i64 b] w (CoEnd w l z) := h w A B c c' hA hB
theorem c_of (p q : List Pr) (o a b : Int) (hp : p.length ≤ 1000) (hq : q.length ≤ 1000) : OfC 24 p q o a b (chunks p q o a b) (err p q o a b) := fun w A B c c' hA hB => (of_any A B c c' p q o a b w hp hq hA hB).mono fun _ _ h => .of h
theorem c_rof (p q : List Pr) (o a b : Int) (hp : p.length ≤ 1000) (hq : q.length ≤ 1000) : OfC 27 p q o a b (chunks p q o a b) (err p q o a b) := fun w A B c c' hA hB => (rof_any A B c c' p q o a b w hp hq hA hB).mono fun _ _ h => .of h
def RgC (fn : FuncId) (l : List Ck) (o a b : Int) (v : Bool) : Prop := ∀ (w : World) (A : Option Addr) (c : Nat), CkIn w A l → Calls Try.prog fn #[.slice A l.length c, .int .i64 o, .int .i64 a, .int .i64 b] w (BoEnd w v)
theorem RgC.at {fn : FuncId} {l : List Ck} {o a b : Int} {v : Bool} (h : RgC fn l o a b v) {w : World} {A : Option Addr} (c : Nat) (hA : CkIn w A l) : Calls Try.prog fn #[.slice A l.length c, .int .i64 o, .int .i64 a, .int .i64 b] w (BoEnd w v) := h w A c hA
theorem c_right (l : List Ck) (o a b : Int) (hl : l.length ≤ maxLen) (ho : W64 o) (ha : W64 a) (hb : W64 b) : RgC 47 l o a b (cright l o a b) := fun w A c hA => cright_any A c l o a b w hA hl ho ha hb
theorem c_rright (l : List Ck) (o a b : Int) (hl : l.length ≤ maxLen) (ho : W64 o) (ha : W64 a) (hb : W64 b) : RgC 49 l o a b (cright l o a b) := fun w A c hA => rcright_any A c l o a b w hA hl ho ha hb
def SmC (fn : FuncId) (l : List Ck) : Prop := ∀ (w : World) (A B : Option Addr) (c c' : Nat), CkIn w A l → CkIn w B l → Calls Try.prog fn #[.slice A l.length c, .slice B l.length c'] w (BoEnd w true)
theorem SmC.at {fn : FuncId} {l : List Ck} (h : SmC fn l) {w : World} {A B : Option Addr} (c c' : Nat) (hA : CkIn w A l) (hB : CkIn w B l) : Calls Try.prog fn #[.slice A l.length c, .slice B l.length c'] w (BoEnd w true) := h w A B c c' hA hB
theorem pr_take {w : World} {A : Option Addr} {a : List Pr} (h : PrIn w A a) (k : Nat) : PrIn w A (a.take k) := fun hp => by
  obtain ⟨bk, off, rfl, hlt, hI⟩ := h (by rw [List.length_take] at hp; omega)
  refine ⟨bk, off, rfl, hlt, fun j hj => ?_⟩
  simp only [List.getElem_take]
  exact hI j (by rw [List.length_take] at hj; omega)
theorem pr_block {w : World} {g : Nat} {a b c d : Int} (h : w.heap[g]? = some (.cells #[.int .i64 a, .int .i64 b, .int .i64 c, .int .i64 d] 57 (0, 0))) : PrIn w (some ⟨g, 0, none⟩) [(a, b), (c, d)] := fun _ => by
  refine ⟨g, 0, rfl, L.blk_lt h, fun j hj => ?_⟩
  have hj2 : j < 2 := hj
  match j, hj2 with
  | 0, _ => exact ⟨L.blk_cell h 0, L.blk_cell h 1⟩
  | 1, _ => exact ⟨L.blk_cell h 2, L.blk_cell h 3⟩

def LvC (fn : FuncId) : Prop := ∀ w : World, Calls Try.prog fn #[] w (BoEnd w true)
theorem LvC.at {fn : FuncId} (h : LvC fn) (w : World) : Calls Try.prog fn #[] w (BoEnd w true) := h w
theorem live_chunks : chunks [(0, 0), (1, 2)] [(0, 0), (1, 1)] 2 3 2 = [⟨true, 0, 1, 0, 1, 0, 1⟩, ⟨false, 1, 0, 1, 1, 1, 0⟩, ⟨true, 1, 1, 2, 1, 1, 1⟩] ∧ err [(0, 0), (1, 2)] [(0, 0), (1, 1)] 2 3 2 = 0 := ⟨by rfl, by rfl⟩
theorem live_right : cright [⟨true, 0, 1, 0, 1, 0, 1⟩, ⟨false, 1, 0, 1, 1, 1, 0⟩, ⟨true, 1, 1, 2, 1, 1, 1⟩] 2 3 2 = true := by rfl
end Go.Proofs.Ytkflhcfopejigaa.Ck

namespace Go.Proofs.Ytkflhcfopejigaa.Mg
set_option linter.unusedVariables false
set_option linter.unusedSimpArgs false
open Go.RowKit
open T
open V (drawn_below)
open I (alloc1 own_below)
open Ck

def sok (l : List Pc) : Bool := l.all fun p => decide (1 ≤ p.sd ∧ p.sd ≤ 4)
theorem sok_take {l : List Pc} {k : Nat} (hk : k < l.length) : sok (l.take (k + 1)) = (sok (l.take k) && decide (1 ≤ l[k].sd ∧ l[k].sd ≤ 4)) := by
  unfold sok; rw [List.take_succ_eq_append_getElem hk, List.all_append]; simp
theorem sok_bad {l : List Pc} {k : Nat} (hk : k < l.length) (h : ¬ (1 ≤ l[k].sd ∧ l[k].sd ≤ 4)) (o a b : Int) : fits l o a b = false := by
  have : sok l = false := by
    unfold sok
    rw [List.all_eq_false]
    exact ⟨l[k], List.getElem_mem hk, by simpa using fun h1 => by omega⟩
  unfold fits
  unfold sok at this
  rw [this]; rfl
set_option maxRecDepth 100000 in
set_option maxHeartbeats 4000000 in
theorem right_any (A : Option Addr) (c : Nat) (l : List Pc) (o a b : Int) (w : World) (hA : PcIn w A l) (hl : l.length ≤ 1000000) (ho : W64 o) (ha : W64 a) (hb : W64 b) :
    Calls Try.prog 31 #[.slice A l.length c, .int .i64 o, .int .i64 a, .int .i64 b] w fun e w' => e = .returned (.bool (fits l o a b)) ∧ Below w.heap.size w w' := by
  obtain ⟨i0, hi0, hz0, hz1, hz2⟩ := info_parts infoCk
  have HA := Lib.hid hA
  have HCR := Lib.hid (c_right (l.map (·.ck)) o a b (by rw [List.length_map]; unfold maxLen; omega) ho ha hb)
  have HBD := Lib.hid (fun (k : Nat) (hk : k < l.length) (h : ¬ (1 ≤ (l[k]'hk).sd ∧ (l[k]'hk).sd ≤ 4)) => sok_bad hk h o a b)
  have HGD := Lib.hid (fun (h : sok l = true) => show fits l o a b = cright (l.map (·.ck)) o a b by unfold fits; unfold sok at h; rw [h, Bool.true_and])
  generalize fits l o a b = fv at *
  generalize cright (l.map (·.ck)) o a b = cv at *
  clear hA ho ha hb
  go_enter Try.func31, Try.ntmps31
  go_wp2_with fail
  go_loopg [9, 14] l.length (fun m v i wr => ∃ (k : Nat) (vc : Nat) (VA : Option Addr), k ≤ l.length ∧ i = .int .i64 (k : Int) ∧ v = .slice VA k vc ∧ l.length - k ≤ m ∧ wr.ownsRow w.heap.size 41 7 (.slice VA k vc) k (ckCells ((l.take k).map (·.ck))) ∧ Below w.heap.size w wr ∧ Hid (sok (l.take k) = true))
  case atStart => exact ⟨0, 0, none, Nat.zero_le _, rfl, rfl, by omega, World.ownsRow_nil _ _ _ _, Below.refl _ _, Lib.hid rfl⟩
  case round =>
    obtain ⟨k, vc, VA, hk, rfl, rfl, hm, hown, hbr, HF⟩ := hrel
    by_cases hlt : k < l.length
    · obtain ⟨bk, off, hAe, hbk, hI⟩ := HA.out (by omega)
      subst hAe
      obtain ⟨q0, q1, q2, q3, q4, q5, q6, q7⟩ := hI k hlt
      have g0 := (hbr.cell (p := ⟨bk, _, none⟩) hbk).trans q0
      have g1 := (hbr.cell (p := ⟨bk, _, none⟩) hbk).trans q1
      have g2 := (hbr.cell (p := ⟨bk, _, none⟩) hbk).trans q2
      have g3 := (hbr.cell (p := ⟨bk, _, none⟩) hbk).trans q3
      have g4 := (hbr.cell (p := ⟨bk, _, none⟩) hbk).trans q4
      have g5 := (hbr.cell (p := ⟨bk, _, none⟩) hbk).trans q5
      have g6 := (hbr.cell (p := ⟨bk, _, none⟩) hbk).trans q6
      have g7 := (hbr.cell (p := ⟨bk, _, none⟩) hbk).trans q7
      have HSK := Lib.hid (sok_take hlt)
      have HB1 := Lib.hid (HBD.out k hlt)
      have HTK : Hid ((l.take (k + 1)).map (·.ck) = (l.take k).map (·.ck) ++ [(l[k]'hlt).ck]) := Lib.hid (by rw [List.take_succ_eq_append_getElem hlt, List.map_append]; rfl)
      obtain ⟨sd, x0, x1, x2, x3, x4, x5, x6, hx⟩ : ∃ sd x0 x1 x2 x3 x4 x5 x6, l[k]'hlt = ⟨sd, x0, x1, x2, x3, x4, x5, x6⟩ := ⟨_, _, _, _, _, _, _, _, rfl⟩
      rw [hx] at g0 g1 g2 g3 g4 g5 g6 g7 HSK HB1 HTK
      simp only at g0 g1 g2 g3 g4 g5 g6 g7 HSK HB1 HTK
      obtain ⟨W1, hW1⟩ : ∃ W : World, W = wr.alloc (.cells #[.int .i64 sd, .bool x0, .int .i64 x1, .int .i64 x2, .int .i64 x3, .int .i64 x4, .int .i64 x5, .int .i64 x6] 43) := ⟨_, rfl⟩
      have hb1 : Below wr.heap.size wr W1 := by rw [hW1]; exact alloc1 _ _
      have HB2 := Lib.hid (hbr.trans (hb1.mono hbr.size))
      have hx1 : W1.heap[wr.heap.size]? = some (.cells #[.int .i64 sd, .bool x0, .int .i64 x1, .int .i64 x2, .int .i64 x3, .int .i64 x4, .int .i64 x5, .int .i64 x6] 43 (0, 0)) := by rw [hW1]; exact heap_alloc_new wr _
      have e0 := L.blk_cell hx1 0
      have e1 := L.blk_cell hx1 1
      have e2 := L.blk_cell hx1 2
      have e3 := L.blk_cell hx1 3
      have e4 := L.blk_cell hx1 4
      have e5 := L.blk_cell hx1 5
      have e6 := L.blk_cell hx1 6
      have e7 := L.blk_cell hx1 7
      simp only [List.getElem?_toArray, List.getElem?_cons_zero, List.getElem?_cons_succ] at e0 e1 e2 e3 e4 e5 e6 e7
      have h0k : (0 : Int) ≤ (k : Int) := by omega
      have hki : (k : Int) < (l.length : Int) := by omega
      have HOW := Lib.hid (own_below hown hb1)
      have HOR := Lib.hid hown
      have HBR := Lib.hid hbr
      have hsb := hbr.size
      have hs1 := HB2.out.size
      clear hI q0 q1 q2 q3 q4 q5 q6 q7 hx hbk hown hx1 hb1 hbr
      by_cases hs : 1 ≤ sd ∧ sd ≤ 4
      · have n1 : ¬ sd < 1 := by omega
        have n2 : ¬ 4 < sd := by omega
        have HV := Lib.hid (show sok (l.take (k + 1)) = true by rw [HSK.out, HF.out, decide_eq_true hs]; rfl)
        clear HSK HB1 hs
        clear hW1 e0 e1 e2 e3 e4 e5 e6 e7 HB2 HOW hs1
        go_wp2_with (at_builtin; refine wpList_append_own _ rfl _ _ 52 rfl w.heap.size 41 i0 _ 7 56 Try.underlying52 hi0 hz0 hz1 hz2 rfl (by decide) _ k (ckCells ((l.take k).map (·.ck))) rfl ((HOR.out.alloc _).alloc _) ⟨_, 0, none⟩ 1 1 [.bool x0, .int .i64 x1, .int .i64 x2, .int .i64 x3, .int .i64 x4, .int .i64 x5, .int .i64 x6] rfl rfl (World.news_of_block (V.alloc_at _ (by first | rfl | simp))) (by intro u hu; simp at hu; rcases hu with rfl | rfl | rfl | rfl | rfl | rfl | rfl <;> rfl) (by unfold maxLen; omega) (by omega) (by first | omega | (simp; done) | (simp; omega)) ?_; intro v' w4 hown4 hg4 _)
        have hb4 := Lib.hid (((HBR.out.trans ((alloc1 _ _).mono hsb)).trans ((alloc1 _ _).mono (by simp; omega))).grown hg4 (by first | omega | (simp; omega)) (own_base HOR.out))
        have ho4 : w4.ownsRow w.heap.size 41 7 v' (k + 1) (ckCells ((l.take (k + 1)).map (·.ck))) := by rw [HTK.out, ckCells_snoc]; exact hown4
        obtain ⟨RA, rcap, rfl, -, -⟩ := own_form ho4
        have HO4 := Lib.hid ho4
        clear hown4 hg4 ho4
        go_wp2_with fail
        go_roundg (l.length - (k + 1))
        case rel => exact ⟨k + 1, rcap, RA, by omega, by go_num, rfl, Nat.le_refl _, HO4.out, hb4.out, HV⟩
        case measure => omega
      · have HV := Lib.hid (HB1.out hs)
        have n1 : sd < 1 ∨ (¬ sd < 1 ∧ 4 < sd) := by omega
        clear HSK HB1 hs
        rcases n1 with n1 | ⟨n1, n2⟩
        · go_wp2_with fail
          rw [← hW1]
          clear hW1 g0 g1 g2 g3 g4 g5 g6 g7
          go_wp2_with fail
          go_ret
          exact ⟨by rw [HV.out]; rfl, HB2.out⟩
        · go_wp2_with fail
          rw [← hW1]
          clear hW1 g0 g1 g2 g3 g4 g5 g6 g7
          go_wp2_with fail
          go_ret
          exact ⟨by rw [HV.out]; rfl, HB2.out⟩
    · obtain rfl : k = l.length := by omega
      rw [List.take_length] at hown HF
      have HV := Lib.hid (HGD.out HF.out)
      have hck := ck_own (l := l.map (·.ck)) (A := VA) (cap := vc) (w := wr) (base := w.heap.size) (by rw [List.length_map]; exact hown)
      have HC := Lib.hid (HCR.out.at vc hck)
      rw [List.length_map] at HC
      clear HF hown hck HCR
      go_wp2_with fail
      with_reducible refine HC.out.mono ?_
      rintro e w2 ⟨rfl, hb2⟩
      go_wp2_with fail
      go_ret
      exact ⟨by rw [HV.out]; rfl, hbr.trans (hb2.mono hbr.size)⟩
end Go.Proofs.Ytkflhcfopejigaa.Mg

namespace Go.Proofs.Ytkflhcfopejigaa.Mg
set_option linter.unusedVariables false
set_option linter.unusedSimpArgs false
open Go.RowKit
open T
open V (drawn_below)
open I (alloc1)
open Ck

set_option maxRecDepth 100000 in
set_option maxHeartbeats 2000000 in
theorem rclean_any (A : Option Addr) (c : Nat) (l : List Pc) (w : World) (hA : PcIn w A l) (hl : l.length ≤ 1000000) :
    Calls Try.prog 15 #[.slice A l.length c] w fun e w' => e = .returned (.bool (clean l)) ∧ Below w.heap.size w w' := by
  have HA := Lib.hid hA
  clear hA
  go_enter Try.func15, Try.ntmps15
  go_wp2_with fail
  go_loopg [3] l.length (fun m i wr => ∃ k : Nat, k ≤ l.length ∧ i = .int .i64 (k : Int) ∧ l.length - k ≤ m ∧ Below w.heap.size w wr ∧ Hid (clean l = clean (l.drop k)))
  case atStart => exact ⟨0, Nat.zero_le _, rfl, by omega, Below.refl _ _, Lib.hid rfl⟩
  case round =>
    obtain ⟨k, hk, rfl, hm, hbr, HF⟩ := hrel
    by_cases hlt : k < l.length
    · obtain ⟨bk, off, hAe, hbk, hI⟩ := HA.out (by omega)
      subst hAe
      have g0 := (hbr.cell (p := ⟨bk, _, none⟩) hbk).trans (hI k hlt).1
      have HN := Lib.hid (clean_at hlt)
      obtain ⟨x, hx⟩ : ∃ x : Int, (l[k]'hlt).sd = x := ⟨_, rfl⟩
      rw [hx] at g0 HN
      have h0k : (0 : Int) ≤ (k : Int) := by omega
      have hki : (k : Int) < (l.length : Int) := by omega
      have HBR := Lib.hid hbr
      clear hI hx hbr hbk
      cases h4 : x == 4 with
      | true =>
        have HV := Lib.hid (show clean l = false by rw [HF.out, HN.out, bne, h4]; rfl)
        clear HN HF
        go_wp2_with fail
        go_ret
        exact ⟨by rw [HV.out]; rfl, HBR.out⟩
      | false =>
        have HV := Lib.hid (show clean l = clean (l.drop (k + 1)) by rw [HF.out, HN.out, bne, h4]; rfl)
        clear HN HF
        go_wp2_with fail
        go_roundg (l.length - (k + 1))
        case rel => exact ⟨k + 1, by omega, by go_num, Nat.le_refl _, HBR.out, HV⟩
        case measure => omega
    · obtain rfl : k = l.length := by omega
      have HV := Lib.hid (show clean l = true by rw [HF.out, List.drop_length]; rfl)
      clear HF
      go_wp2_with fail
      go_ret
      exact ⟨by rw [HV.out]; rfl, hbr⟩
set_option maxRecDepth 100000 in
theorem pc_eql (w : World) (x : Pc) : (binOp .eql 43 (pcV x) (pcV x)).run Try.prog w = .ok (.bool true) w := by
  have u3 := Try.underlying3
  have u4 := Try.underlying4
  have u5 := Try.underlying39
  have hS : Try.prog.underlying 43 = some (.struct (Try.prog.fieldsOf 43)) := by kernel_rfl
  have hp : Try.prog.stoodInHeld 43 = false := by kernel_rfl
  have HS : Hid (Try.prog.underlying 41 = some (.struct (Try.prog.fieldsOf 41))) := Lib.hid (by kernel_rfl)
  have hp' : Try.prog.stoodInHeld 41 = false := by kernel_rfl
  have z3 : Try.prog.cellsOf 3 = 1 := by kernel_rfl
  have z4 : Try.prog.cellsOf 4 = 1 := by kernel_rfl
  have z5 : Try.prog.cellsOf 39 = 1 := by kernel_rfl
  have z6 : Try.prog.cellsOf 41 = 7 := by kernel_rfl
  simp only [pcV]
  rw [run_eql_struct, show (10000 : Nat) = 9997 + 1 + 1 + 1 from rfl]
  generalize (9997 : Nat) = d
  rw [run_equalIn_agg w (d + 1 + 1) 43 _ _ hS hp]
  simp only [Program.fieldsOf, Try.underlying43]
  clear hS
  go_simp
theorem pc_neq (w : World) (x : Pc) : (binOp .neq 43 (pcV x) (pcV x)).run Try.prog w = .ok (.bool false) w := by
  have h := pc_eql w x
  simp only [binOp, Sem.run_bind, pcV] at h ⊢
  cases hr : (Op.equal 43 (pcV x) (pcV x)).run Try.prog w with
  | ok v w' =>
    simp only [pcV] at hr
    rw [hr] at h ⊢
    simp only [Result.andThen_ok, Sem.run_pure, Result.ok.injEq, Value.bool.injEq] at h
    obtain ⟨rfl, rfl⟩ := h
    simp only [Result.andThen_ok, Sem.run_pure, Bool.not_true]
  | _ => simp only [pcV] at hr; rw [hr] at h; simp at h
set_option maxRecDepth 100000 in
set_option maxHeartbeats 2000000 in
theorem rpsame_any (A B : Option Addr) (c c' : Nat) (l : List Pc) (w : World) (hA : PcIn w A l) (hB : PcIn w B l) (hl : l.length ≤ 1000000) :
    Calls Try.prog 13 #[.slice A l.length c, .slice B l.length c'] w fun e w' => e = .returned (.bool true) ∧ Below w.heap.size w w' := by
  have HA := Lib.hid hA
  have HB := Lib.hid hB
  clear hA hB
  have hne : ((l.length : Int) != (l.length : Int)) = false := by simp
  have qN := fun w x => pc_neq w x
  simp only [pcV] at qN
  go_enter Try.func13, Try.ntmps13
  go_wp2_with fail
  go_loopg [5] l.length (fun q i wx => ∃ k : Nat, k ≤ l.length ∧ i = .int .i64 k ∧ l.length - k ≤ q ∧ ∃ d, wx = w.drewN d)
  case atStart => exact ⟨0, Nat.zero_le _, rfl, by omega, 0, rfl⟩
  case round =>
    obtain ⟨k, hk, rfl, hm, d, rfl⟩ := hrel
    by_cases hlt : k < l.length
    · obtain ⟨b1, o1, hAe, hb1, hI1⟩ := HA.out (by omega)
      subst hAe
      obtain ⟨b2, o2, hBe, hb2, hI2⟩ := HB.out (by omega)
      subst hBe
      obtain ⟨c0, c1, c2, c3, c4, c5, c6, c7⟩ := hI1 k hlt
      obtain ⟨d0, d1, d2, d3, d4, d5, d6, d7⟩ := hI2 k hlt
      have h0k : (0 : Int) ≤ (k : Int) := by omega
      have hki : (k : Int) < (l.length : Int) := by omega
      clear hI1 hI2
      obtain ⟨x, hx⟩ : ∃ x : Pc, l[k]'hlt = x := ⟨_, rfl⟩
      rw [hx] at c0 c1 c2 c3 c4 c5 c6 c7 d0 d1 d2 d3 d4 d5 d6 d7
      have qX := fun w => qN w x
      clear hx qN
      obtain ⟨x0, x1, x2, x3, x4, x5, x6, x7⟩ := x
      simp only at c0 c1 c2 c3 c4 c5 c6 c7 d0 d1 d2 d3 d4 d5 d6 d7 qX
      go_wp2_with fail
      go_quiet (fail)
      go_wp2_with fail
      go_roundg (l.length - (k + 1))
      case rel => exact ⟨k + 1, by omega, by go_num, Nat.le_refl _, _, rfl⟩
      case measure => omega
    · obtain rfl : k = l.length := by omega
      go_wp2_with fail
      go_ret
      exact ⟨rfl, drawn_below _ _⟩
end Go.Proofs.Ytkflhcfopejigaa.Mg

namespace Go.Proofs.Ytkflhcfopejigaa.Mg
set_option linter.unusedVariables false
set_option linter.unusedSimpArgs false
open Go.RowKit
open T
open V (drawn_below)
open I (alloc1)

theorem ln_drop {w : World} {k off : Nat} {l : List Ln} (h : LinesIn w (some ⟨k, off, none⟩) l) (n : Nat) : LinesIn w (some ⟨k, off + n * 2, none⟩) (l.drop n) := fun hp => by
  rw [List.length_drop] at hp
  obtain ⟨bk, o, e, hlt, hI⟩ := h (by omega)
  obtain ⟨rfl, rfl⟩ : k = bk ∧ off = o := by injection e with e; injection e with e1 e2; exact ⟨e1, e2⟩
  refine ⟨k, off + n * 2, rfl, hlt, fun j hj => ?_⟩
  rw [List.length_drop] at hj
  rw [List.getElem_drop]
  have := hI (n + j) (by omega)
  rw [show off + (n + j) * 2 = off + n * 2 + j * 2 by omega] at this
  exact this
theorem ln_take {w : World} {A : Option Addr} {l : List Ln} (h : LinesIn w A l) (n : Nat) : LinesIn w A (l.take n) := fun hp => by
  rw [List.length_take] at hp
  obtain ⟨bk, off, e, hlt, hl⟩ := h (by omega)
  refine ⟨bk, off, e, hlt, fun j hj => ?_⟩
  rw [List.length_take] at hj
  simp only [List.getElem_take]
  exact hl j (by omega)
/-- What a[p:q:q] is. -/
structure Cw (B : Option Addr) (n c p q : Nat) (a : List Ln) (A2 : Option Addr) : Prop where
  run : ∀ W, Sem.run Try.prog (Instr.sliceAt 22 (.slice B n c) (some (.int .i64 (p : Int))) (some (.int .i64 (q : Int))) (some (.int .i64 (q : Int)))) W = .ok (.slice A2 (q - p) (q - p)) W
  l : ∀ w0, LinesIn w0 B a → LinesIn w0 A2 ((a.drop p).take (q - p))
  z : A2 = none → q - p = 0
/-- Where a[k:k+n:k+n] lies. -/
def cutP (B : Option Addr) (k n : Int) : Option Addr := if n = 0 then B else B.map fun ad => ad.add (k.toNat * 2)
theorem cut_is {B : Option Addr} {n c p q : Nat} {a : List Ln} (hn : n = a.length) (hpq : p ≤ q) (hqn : q ≤ n) (hnc : n ≤ c) (hz : B = none → c = 0) : Cw B n c p q a (cutP B p ((q - p : Nat) : Int)) := by
  have HN := Lib.hid hn
  clear hn
  have h0p : (0 : Int) ≤ (p : Int) := by omega
  have h0q : (0 : Int) ≤ (q : Int) := by omega
  have hpq' : (p : Int) ≤ (q : Int) := by omega
  have hqc : (q : Int) ≤ (c : Int) := by omega
  cases B with
  | none =>
    obtain rfl := hz rfl
    obtain rfl : n = 0 := by omega
    obtain rfl : q = 0 := by omega
    obtain rfl : p = 0 := by omega
    rw [show cutP none ((0 : Nat) : Int) ((0 - 0 : Nat) : Int) = none from rfl]
    refine ⟨fun W => ?_, fun w0 h => ?_, fun _ => rfl⟩
    · go_simp
    · have : a = [] := List.length_eq_zero_iff.1 HN.out.symm
      subst this
      exact fun hp => by simp at hp
  | some ad =>
    by_cases hpc : p = q
    · subst hpc
      rw [show cutP (some ad) (p : Int) ((p - p : Nat) : Int) = some ad by rw [Nat.sub_self]; rfl]
      refine ⟨fun W => ?_, fun w0 h => ?_, (fun e => by cases e)⟩
      · rw [Nat.sub_self]; go_simp
      · exact fun hp => by rw [List.length_take] at hp; omega
    · have hcp : ¬ q = p := fun e => hpc e.symm
      rw [show cutP (some ad) (p : Int) ((q - p : Nat) : Int) = some (ad.add (p * 2)) by rw [cutP, if_neg (by omega)]; rfl]
      refine ⟨fun W => ?_, fun w0 h => ?_, (fun e => by cases e)⟩
      · go_simp
      · by_cases hne : 0 < a.length
        · obtain ⟨k, off, he, -, -⟩ := h hne
          obtain rfl := Option.some.inj he
          rw [show (⟨k, off, none⟩ : Addr).add (p * 2) = ⟨k, off + p * 2, none⟩ by simp [Addr.add]]
          exact ln_take (ln_drop h p) (q - p)
        · exact fun hp => by rw [List.length_take, List.length_drop] at hp; have := HN.out; omega
theorem cut_in {B : Option Addr} {c : Nat} {l : List Ln} {k n : Int} {w : World} (hB : LinesIn w B l) (hc : l.length ≤ c) (hz : B = none → c = 0) (h0 : 0 ≤ k) (h1 : 0 ≤ n) (h2 : k + n ≤ l.length) :
    LinesIn w (cutP B k n) (cutl l k n) ∧ (cutP B k n = none → (cutl l k n).length = 0) := by
  obtain ⟨p, rfl⟩ : ∃ p : Nat, k = p := ⟨k.toNat, by omega⟩
  obtain ⟨m, rfl⟩ : ∃ m : Nat, n = m := ⟨n.toNat, by omega⟩
  have hw := cut_is (B := B) (n := l.length) (c := c) (p := p) (q := p + m) (a := l) rfl (by omega) (by omega) hc hz
  have hlen := cutl_len (l := l) h1 h0 h2
  have hL := hw.l w hB
  have hZ := hw.z
  rw [Nat.add_sub_cancel_left] at hL hZ
  exact ⟨hL, fun h => by rw [hlen]; have := hZ h; omega⟩
set_option maxRecDepth 100000 in
set_option maxHeartbeats 2000000 in
theorem cut_any {B : Option Addr} {c : Nat} {l : List Ln} {k n : Int} (w : World) (hc : l.length ≤ c) (hz : B = none → c = 0) (h0 : 0 ≤ k) (h1 : 0 ≤ n) (h2 : k + n ≤ l.length) (hl : l.length ≤ maxLen) :
    Calls Try.prog 53 #[.slice B l.length c, .int .i64 k, .int .i64 n] w fun e w' => e = .returned (.slice (cutP B k n) (cutl l k n).length (cutl l k n).length) ∧ w' = w := by
  obtain ⟨p, rfl⟩ : ∃ p : Nat, k = p := ⟨k.toNat, by omega⟩
  obtain ⟨m, rfl⟩ : ∃ m : Nat, n = m := ⟨n.toNat, by omega⟩
  unfold maxLen at hl
  obtain ⟨q, hq⟩ : ∃ q : Nat, q = p + m := ⟨_, rfl⟩
  have hw := cut_is (B := B) (n := l.length) (c := c) (p := p) (q := q) (a := l) rfl (by omega) (by omega) hc hz
  have hlen := cutl_len (l := l) h1 h0 h2
  have hrun := hw.run
  have e1 : q - p = m := by omega
  rw [e1] at hrun
  have hle : (cutl l (p : Int) (m : Int)).length = m := by rw [hlen]; omega
  have hwr : IntKind.i64.wrap ((p : Int) + (m : Int)) = (q : Int) := by rw [IntKind.wrap_i64]; omega
  rw [hle]
  obtain ⟨A2, hA2⟩ : ∃ A2, A2 = cutP B p m := ⟨_, rfl⟩
  rw [← hA2] at hrun ⊢
  obtain ⟨nl, hnl⟩ : ∃ n, n = l.length := ⟨_, rfl⟩
  rw [← hnl] at hrun ⊢
  clear hw hlen hle hc hz h0 h1 h2 hl hnl e1 hq hA2
  go_enter Try.func53, Try.ntmps53
  go_wp2_with fail
  go_ret
  exact ⟨rfl, rfl⟩
end Go.Proofs.Ytkflhcfopejigaa.Mg

namespace Go.Proofs.Ytkflhcfopejigaa.Mg
set_option linter.unusedVariables false
set_option linter.unusedSimpArgs false
open Go.RowKit
open T
open V (drawn_below)
open I (alloc1)
open Ck

/-- A text in memory, with its room. -/
structure Tx (w : World) (B : Option Addr) (c : Nat) (l : List Ln) : Prop where
  i : LinesIn w B l
  r : l.length ≤ c
  z : B = none → c = 0
  s : l.length ≤ maxLen
theorem Tx.below {w w' : World} {B : Option Addr} {c : Nat} {l : List Ln} (h : Tx w B c l) (hb : Below w.heap.size w w') : Tx w' B c l := ⟨h.i.below hb, h.r, h.z, h.s⟩
/-- A chunk lies in the three texts. -/
structure In3 (c : Ck) (o a b : List Ln) : Prop where
  fo : 0 ≤ c.o ∧ 0 ≤ c.on ∧ c.o + c.on ≤ o.length
  fa : 0 ≤ c.a ∧ 0 ≤ c.an ∧ c.a + c.an ≤ a.length
  fb : 0 ≤ c.b ∧ 0 ≤ c.bn ∧ c.b + c.bn ≤ b.length
theorem cut_tx {B : Option Addr} {c : Nat} {l : List Ln} {k n : Int} {w : World} (h : Tx w B c l) (h0 : 0 ≤ k ∧ 0 ≤ n ∧ k + n ≤ l.length) : Tx w (cutP B k n) (cutl l k n).length (cutl l k n) := by
  have := cut_in h.i h.r h.z h0.1 h0.2.1 h0.2.2
  exact ⟨this.1, Nat.le_refl _, this.2, by rw [cutl_len h0.2.1 h0.1 h0.2.2]; have := h.s; omega⟩
section
variable {w wa : World} {s : Nat} {st : Bool} {c1 c2 c3 c4 c5 c6 : Int}
theorem st_a (h : w.heap[s]? = some (.cells #[.bool st, .int .i64 c1, .int .i64 c2, .int .i64 c3, .int .i64 c4, .int .i64 c5, .int .i64 c6] 41 (0, 0))) : w.drew.cell? ⟨s, 1, none⟩ = some (.int .i64 c1) ∧ w.drew.cell? ⟨s, 2, none⟩ = some (.int .i64 c2) ∧ w.drew.cell? ⟨s, 3, none⟩ = some (.int .i64 c3) ∧ w.drew.cell? ⟨s, 4, none⟩ = some (.int .i64 c4) ∧ w.drew.cell? ⟨s, 5, none⟩ = some (.int .i64 c5) ∧ w.drew.cell? ⟨s, 6, none⟩ = some (.int .i64 c6) ∧ Below w.heap.size w w.drew := ⟨L.blk_cell h 1, L.blk_cell h 2, L.blk_cell h 3, L.blk_cell h 4, L.blk_cell h 5, L.blk_cell h 6, drawn_below w 1⟩
theorem st_c (h : wa.cell? ⟨s, 1, none⟩ = some (.int .i64 c1) ∧ wa.cell? ⟨s, 2, none⟩ = some (.int .i64 c2) ∧ wa.cell? ⟨s, 3, none⟩ = some (.int .i64 c3) ∧ wa.cell? ⟨s, 4, none⟩ = some (.int .i64 c4) ∧ wa.cell? ⟨s, 5, none⟩ = some (.int .i64 c5) ∧ wa.cell? ⟨s, 6, none⟩ = some (.int .i64 c6) ∧ Below w.heap.size w wa) : Below w.heap.size w wa := h.2.2.2.2.2.2
end
set_option maxRecDepth 100000 in
set_option maxHeartbeats 2000000 in
theorem stretches_any {O A B : Option Addr} {co ca cb : Nat} {o a b : List Ln} {c : Ck} (w : World) (ho : Tx w O co o) (ha : Tx w A ca a) (hb : Tx w B cb b) (hc : In3 c o a b) :
    Calls Try.prog 41 #[ckV c, .slice O o.length co, .slice A a.length ca, .slice B b.length cb] w fun e w' => e = .returned (.tuple #[.slice (cutP O c.o c.on) (cutl o c.o c.on).length (cutl o c.o c.on).length, .slice (cutP A c.a c.an) (cutl a c.a c.an).length (cutl a c.a c.an).length, .slice (cutP B c.b c.bn) (cutl b c.b c.bn).length (cutl b c.b c.bn).length]) ∧ Below w.heap.size w w' := by
  obtain ⟨cst, c1, c2, c3, c4, c5, c6⟩ := c
  obtain ⟨io, ia, ib⟩ := hc
  simp only at io ia ib
  simp only [ckV]
  obtain ⟨W0, hW0⟩ : ∃ W : World, W = w.alloc (.cells #[.bool cst, .int .i64 c1, .int .i64 c2, .int .i64 c3, .int .i64 c4, .int .i64 c5, .int .i64 c6] 41) := ⟨_, rfl⟩
  have hb0 : Below w.heap.size w W0 := by rw [hW0]; exact alloc1 _ _
  have HB0 := Lib.hid hb0
  have hx : W0.heap[w.heap.size]? = some (.cells #[.bool cst, .int .i64 c1, .int .i64 c2, .int .i64 c3, .int .i64 c4, .int .i64 c5, .int .i64 c6] 41 (0, 0)) := by rw [hW0]; exact heap_alloc_new w _
  have d1 := L.blk_cell hx 1
  have d2 := L.blk_cell hx 2
  have d3 := L.blk_cell hx 3
  have d4 := L.blk_cell hx 4
  have d5 := L.blk_cell hx 5
  have d6 := L.blk_cell hx 6
  simp only [List.getElem?_toArray, List.getElem?_cons_zero, List.getElem?_cons_succ] at d1 d2 d3 d4 d5 d6
  have HO := Lib.hid (fun W => cut_any (B := O) W ho.r ho.z io.1 io.2.1 io.2.2 ho.s)
  have HA := Lib.hid (fun W => cut_any (B := A) W ha.r ha.z ia.1 ia.2.1 ia.2.2 ha.s)
  have HB := Lib.hid (fun W => cut_any (B := B) W hb.r hb.z ib.1 ib.2.1 ib.2.2 hb.s)
  obtain ⟨n1, hn1⟩ : ∃ n, n = o.length := ⟨_, rfl⟩
  obtain ⟨n2, hn2⟩ : ∃ n, n = a.length := ⟨_, rfl⟩
  obtain ⟨n3, hn3⟩ : ∃ n, n = b.length := ⟨_, rfl⟩
  rw [← hn1] at HO ⊢
  rw [← hn2] at HA ⊢
  rw [← hn3] at HB ⊢
  generalize cutl o c1 c2 = x at *
  generalize cutl a c3 c4 = y at *
  generalize cutl b c5 c6 = z at *
  generalize cutP O c1 c2 = X at *
  generalize cutP A c3 c4 = Y at *
  generalize cutP B c5 c6 = Z at *
  obtain ⟨s, hs⟩ : ∃ s, s = w.heap.size := ⟨_, rfl⟩
  rw [← hs] at hx d1 d2 d3 d4 d5 d6 HB0 ⊢
  have HS := Lib.hid hs
  clear ho ha hb io ia ib hb0 hn1 hn2 hn3 hs d1 d2 d3 d4 d5 d6
  have HX := Lib.hid hx
  clear hx
  go_enter Try.func41, Try.ntmps41
  go_wp2_with fail
  rw [← hW0, ← HS.out]
  clear hW0
  go_wp2_with fail
  go_region_held3 (fun w' => w'.cell? ⟨s, 1, none⟩ = some (.int .i64 c1) ∧ w'.cell? ⟨s, 2, none⟩ = some (.int .i64 c2) ∧ w'.cell? ⟨s, 3, none⟩ = some (.int .i64 c3) ∧ w'.cell? ⟨s, 4, none⟩ = some (.int .i64 c4) ∧ w'.cell? ⟨s, 5, none⟩ = some (.int .i64 c5) ∧ w'.cell? ⟨s, 6, none⟩ = some (.int .i64 c6) ∧ Below W0.heap.size W0 w')
    (first | with_reducible exact st_a HX.out | with_reducible exact (by assumption))
    (first
      | (go_at_call 53; with_reducible refine (HO.out _).mono ?_; rintro r wq ⟨rfl, rfl⟩)
      | (go_at_call 53; with_reducible refine (HA.out _).mono ?_; rintro r wq ⟨rfl, rfl⟩)
      | (go_at_call 53; with_reducible refine (HB.out _).mono ?_; rintro r wq ⟨rfl, rfl⟩))
  all_goals
    go_wp2_with fail
    refine bodyPost_ret (v := .tuple #[.slice X x.length x.length, .slice Y y.length y.length, .slice Z z.length z.length]) (by simp [results, Try.results41, go_sem]) rfl ⟨rfl, by rw [HS.out] at HB0 ⊢; exact HB0.out.trans ((st_c (by assumption)).mono HB0.out.size)⟩
end Go.Proofs.Ytkflhcfopejigaa.Mg

namespace Go.Proofs.Ytkflhcfopejigaa.Mg
set_option linter.unusedVariables false
set_option linter.unusedSimpArgs false
open Go.RowKit
open T
open V (grown_of IntsIn numCells numCells_snoc ints_own drawn_below)
open I (alloc1 own_at own_below)

abbrev lnV (x : Ln) : Value := .agg #[.string ⟨x.1.toArray⟩, .bool x.2]
theorem ln_eql (w : World) (x y : Ln) : (binOp .eql 51 (lnV x) (lnV y)).run Try.prog w = .ok (.bool (decide (x = y))) w := by
  have u3 := Try.underlying9
  have u4 := Try.underlying4
  have hS : Try.prog.underlying 51 = some (.struct (Try.prog.fieldsOf 51)) := by kernel_rfl
  have hp : Try.prog.stoodInHeld 51 = false := by kernel_rfl
  have z3 : Try.prog.cellsOf 9 = 1 := by kernel_rfl
  simp only [lnV]
  rw [run_eql_struct, show (10000 : Nat) = 9999 + 1 from rfl, run_equalIn_agg w 9999 51 _ _ hS hp]
  simp only [Program.fieldsOf, Try.underlying51]
  go_simp
  obtain ⟨a, b⟩ := x
  obtain ⟨c, d⟩ := y
  by_cases h1 : a = c <;> by_cases h2 : b = d <;> simp [h1, h2]
theorem ln_neq (w : World) (x y : Ln) : (binOp .neq 51 (lnV x) (lnV y)).run Try.prog w = .ok (.bool (!decide (x = y))) w := by
  have h := ln_eql w x y
  simp only [binOp, Sem.run_bind] at h ⊢
  cases hr : (Op.equal 51 (lnV x) (lnV y)).run Try.prog w with
  | ok v w' =>
    rw [hr] at h
    simp only [Result.andThen_ok, Sem.run_pure, Result.ok.injEq, Value.bool.injEq] at h
    obtain ⟨rfl, rfl⟩ := h
    simp only [Result.andThen_ok, Sem.run_pure]
  | _ => rw [hr] at h; simp at h
theorem take_eq_succ {xs ys : List Ln} {k : Nat} (h1 : k < xs.length) (h2 : k < ys.length) (h : xs.take k = ys.take k) (he : xs[k] = ys[k]) : xs.take (k + 1) = ys.take (k + 1) := by
  rw [List.take_succ_eq_append_getElem h1, List.take_succ_eq_append_getElem h2, h, he]
theorem ne_of_at {xs ys : List Ln} {k : Nat} (h1 : k < xs.length) (h2 : k < ys.length) (he : xs[k] ≠ ys[k]) : xs ≠ ys := fun e => by
  subst e; exact he rfl

set_option maxHeartbeats 1000000 in
set_option maxRecDepth 100000 in
theorem rsame_gen (A B : Option Addr) (c c' : Nat) (xs ys : List Ln) (w : World) (h1 : xs.length ≤ maxLen) (h2 : ys.length ≤ maxLen) (hA : LinesIn w A xs) (hB : LinesIn w B ys) :
    Calls Try.prog 20 #[.slice A xs.length c, .slice B ys.length c'] w fun e w' => e = .returned (.bool (decide (xs = ys))) ∧ Below w.heap.size w w' := by
  unfold maxLen at h1 h2
  have HA := Lib.hid hA
  have HB := Lib.hid hB
  clear hA hB
  by_cases hl : xs.length = ys.length
  · have hne : ((xs.length : Int) != (ys.length : Int)) = false := by simp [hl]
    have HL := Lib.hid hl
    clear hl
    go_enter Try.func20, Try.ntmps20
    go_wp2_with fail
    go_loopg [5] xs.length (fun n i wr => ∃ k : Nat, k ≤ xs.length ∧ i = .int .i64 k ∧ xs.length - k ≤ n ∧ Hid (xs.take k = ys.take k) ∧ ∃ q, wr = w.drewN q)
    case atStart => exact ⟨0, Nat.zero_le _, rfl, by omega, Lib.hid rfl, 0, rfl⟩
    case round =>
      obtain ⟨k, hk, rfl, hn, HT, q, rfl⟩ := hrel
      by_cases hlt : k < xs.length
      · have hlt2 : k < ys.length := by have := HL.out; omega
        obtain ⟨bk, off, hAe, hbk, hL⟩ := HA.out (by omega)
        obtain ⟨bk', off', hAe', hbk', hL'⟩ := HB.out (by omega)
        subst hAe hAe'
        obtain ⟨c0, c1⟩ := hL k hlt
        obtain ⟨d0, d1⟩ := hL' k hlt2
        have h0k : (0 : Int) ≤ (k : Int) := Int.natCast_nonneg _
        have h1k : (k : Int) < (xs.length : Int) := by omega
        have h2k : (k : Int) < (ys.length : Int) := by omega
        have HTK := Lib.hid (take_eq_succ hlt hlt2 HT.out)
        have HNE := Lib.hid (ne_of_at hlt hlt2)
        have hq0 := fun W => ln_neq W xs[k] ys[k]
        clear hL hL'
        by_cases he : xs[k] = ys[k]
        · have HTE := Lib.hid (HTK.out he)
          rw [decide_eq_true he] at hq0
          simp only [lnV] at hq0
          clear he HNE HTK
          generalize xs[k].2 = b at *
          generalize xs[k].1 = t at *
          generalize ys[k].2 = b' at *
          generalize ys[k].1 = t' at *
          have hq : ∀ W, (binOp .neq 51 (.agg #[.string ⟨t.toArray⟩, .bool b]) (.agg #[.string ⟨t'.toArray⟩, .bool b'])).run Try.prog W = .ok (.bool false) W := hq0
          clear hq0
          go_wp2_with fail
          go_quiet (fail)
          clear hq
          go_wp2_with fail
          go_roundg (xs.length - (k + 1))
          case measure => omega
          case rel => exact ⟨k + 1, by omega, by go_num, Nat.le_refl _, HTE, _, rfl⟩
        · have HTE := Lib.hid (HNE.out he)
          rw [decide_eq_false he] at hq0
          simp only [lnV] at hq0
          clear he HNE HTK
          generalize xs[k].2 = b at *
          generalize xs[k].1 = t at *
          generalize ys[k].2 = b' at *
          generalize ys[k].1 = t' at *
          have hq : ∀ W, (binOp .neq 51 (.agg #[.string ⟨t.toArray⟩, .bool b]) (.agg #[.string ⟨t'.toArray⟩, .bool b'])).run Try.prog W = .ok (.bool true) W := hq0
          clear hq0
          go_wp2_with fail
          go_quiet (fail)
          clear hq
          have hd := decide_eq_false HTE.out
          go_wp2_with fail
          go_ret
          exact ⟨by rw [hd]; rfl, below_drewN (below_drewN (Below.refl _ _) q) _⟩
      · obtain rfl : k = xs.length := by omega
        have hT := HT.out
        rw [List.take_length, HL.out, List.take_length] at hT
        have hd := decide_eq_true hT
        clear hT HT
        go_wp2_with fail
        go_ret
        exact ⟨by rw [hd]; rfl, below_drewN (Below.refl _ _) q⟩
  · have hne : ((xs.length : Int) != (ys.length : Int)) = true := by simp [bne]; omega
    have hd := decide_eq_false (fun e : xs = ys => hl (by rw [e]))
    clear hl
    go_enter Try.func20, Try.ntmps20
    go_wp2_with fail
    go_ret
    exact ⟨by rw [hd]; rfl, Below.refl _ _⟩

set_option maxHeartbeats 1000000 in
set_option maxRecDepth 100000 in
theorem equal_gen (A B : Option Addr) (c c' : Nat) (xs ys : List Ln) (w : World) (h1 : xs.length ≤ maxLen) (h2 : ys.length ≤ maxLen) (hA : LinesIn w A xs) (hB : LinesIn w B ys) :
    Calls Try.prog 42 #[.slice A xs.length c, .slice B ys.length c'] w fun e w' => e = .returned (.bool (decide (xs = ys))) ∧ Below w.heap.size w w' := by
  unfold maxLen at h1 h2
  have HA := Lib.hid hA
  have HB := Lib.hid hB
  clear hA hB
  by_cases hl : xs.length = ys.length
  · have hne : ((xs.length : Int) != (ys.length : Int)) = false := by simp [hl]
    have HL := Lib.hid hl
    clear hl
    go_enter Try.func42, Try.ntmps42
    go_wp2_with fail
    go_loopg [13] xs.length (fun n i wr => ∃ k : Nat, k ≤ xs.length ∧ i = .int .i64 k ∧ xs.length - k ≤ n ∧ Hid (xs.take k = ys.take k) ∧ ∃ q, wr = w.drewN q)
    case atStart => exact ⟨0, Nat.zero_le _, rfl, by omega, Lib.hid rfl, 0, rfl⟩
    case round =>
      obtain ⟨k, hk, rfl, hn, HT, q, rfl⟩ := hrel
      by_cases hlt : k < xs.length
      · have hlt2 : k < ys.length := by have := HL.out; omega
        obtain ⟨bk, off, hAe, hbk, hL⟩ := HA.out (by omega)
        obtain ⟨bk', off', hAe', hbk', hL'⟩ := HB.out (by omega)
        subst hAe hAe'
        obtain ⟨c0, c1⟩ := hL k hlt
        obtain ⟨d0, d1⟩ := hL' k hlt2
        have h0k : (0 : Int) ≤ (k : Int) := Int.natCast_nonneg _
        have h1k : (k : Int) < (xs.length : Int) := by omega
        have h2k : (k : Int) < (ys.length : Int) := by omega
        have HTK := Lib.hid (take_eq_succ hlt hlt2 HT.out)
        have HNE := Lib.hid (ne_of_at hlt hlt2)
        have hq0 := fun W => ln_neq W xs[k] ys[k]
        clear hL hL'
        by_cases he : xs[k] = ys[k]
        · have HTE := Lib.hid (HTK.out he)
          rw [decide_eq_true he] at hq0
          simp only [lnV] at hq0
          clear he HNE HTK
          generalize xs[k].2 = b at *
          generalize xs[k].1 = t at *
          generalize ys[k].2 = b' at *
          generalize ys[k].1 = t' at *
          have hq : ∀ W, (binOp .neq 51 (.agg #[.string ⟨t.toArray⟩, .bool b]) (.agg #[.string ⟨t'.toArray⟩, .bool b'])).run Try.prog W = .ok (.bool false) W := hq0
          clear hq0
          go_wp2_with fail
          go_quiet (fail)
          clear hq
          go_wp2_with fail
          go_roundg (xs.length - (k + 1))
          case measure => omega
          case rel => exact ⟨k + 1, by omega, by go_num, Nat.le_refl _, HTE, _, rfl⟩
        · have HTE := Lib.hid (HNE.out he)
          rw [decide_eq_false he] at hq0
          simp only [lnV] at hq0
          clear he HNE HTK
          generalize xs[k].2 = b at *
          generalize xs[k].1 = t at *
          generalize ys[k].2 = b' at *
          generalize ys[k].1 = t' at *
          have hq : ∀ W, (binOp .neq 51 (.agg #[.string ⟨t.toArray⟩, .bool b]) (.agg #[.string ⟨t'.toArray⟩, .bool b'])).run Try.prog W = .ok (.bool true) W := hq0
          clear hq0
          go_wp2_with fail
          go_quiet (fail)
          clear hq
          have hd := decide_eq_false HTE.out
          go_wp2_with fail
          go_ret
          exact ⟨by rw [hd]; rfl, below_drewN (below_drewN (Below.refl _ _) q) _⟩
      · obtain rfl : k = xs.length := by omega
        have hT := HT.out
        rw [List.take_length, HL.out, List.take_length] at hT
        have hd := decide_eq_true hT
        clear hT HT
        go_wp2_with fail
        go_ret
        exact ⟨by rw [hd]; rfl, below_drewN (Below.refl _ _) q⟩
  · have hne : ((xs.length : Int) != (ys.length : Int)) = true := by simp [bne]; omega
    have hd := decide_eq_false (fun e : xs = ys => hl (by rw [e]))
    clear hl
    go_enter Try.func42, Try.ntmps42
    go_wp2_with fail
    go_ret
    exact ⟨by rw [hd]; rfl, Below.refl _ _⟩
end Go.Proofs.Ytkflhcfopejigaa.Mg
