/-
  The contract of the reference's Print for labels.
-/
import Derived.Test.YtbilhdfoajahkaaDoorLabelR
import Derived.Test.YtbilhdfoajahkaaDoorRefB
namespace Go.Proofs.YtbilhdfoajahkaaDoor.L
open Go.RowKit
open T

/-- What stands behind the level. -/
def catsPre (xs : List Nat) : List UInt8 := if xs = [] then [] else 58 :: catsText xs
theorem catsText_snoc : ∀ (ys : List Nat) (x : Nat), ys ≠ [] → catsText (ys ++ [x]) = catsText ys ++ 44 :: P.decimal (x : Int)
  | [y], x, _ => by rw [List.cons_append, List.nil_append, catsText_cons, catsText_one, catsText_one]
  | y :: z :: r, x, _ => by
    have ih := catsText_snoc (z :: r) x (by simp)
    rw [List.cons_append, List.cons_append, catsText_cons, ← List.cons_append, ih, catsText_cons]
    simp
theorem catsPre_zero {xs : List Nat} (h : 0 < xs.length) : catsPre (xs.take 1) = ([58] : List UInt8) ++ P.decimal ((xs[0] : Nat) : Int) := by
  cases xs with
  | nil => simp at h
  | cons x r => simp [catsPre, catsText_one]
theorem catsPre_succ {xs : List Nat} {k : Nat} (hk : k < xs.length) (h0 : 0 < k) : catsPre (xs.take (k + 1)) = catsPre (xs.take k) ++ [44] ++ P.decimal ((xs[k] : Nat) : Int) := by
  have hne : xs.take k ≠ [] := fun e => by
    have := congrArg List.length e
    rw [List.length_take, List.length_nil] at this; omega
  rw [List.take_succ_eq_append_getElem hk, catsPre, if_neg (fun e => by have := congrArg List.length e; rw [List.length_append] at this; simp at this), catsText_snoc _ _ hne, catsPre, if_neg hne]
  simp
theorem catsPre_len (xs : List Nat) : (catsPre xs).length ≤ 11 * xs.length + 1 := by
  have := join_len xs
  unfold catsPre
  split
  · simp
  · simp; omega
theorem print_pre (l : Int) (c : Nat) : print l c = P.decimal l ++ catsPre (catsTo c 64) := by
  unfold print catsPre
  split
  · simp
  · simp

set_option maxHeartbeats 1000000 in
set_option maxRecDepth 100000 in
theorem refPrint_any (l : Int) (c : Nat) (w : World) :
    Calls Tryd.prog 48 #[lab l c] w fun e w' => e = .returned (.string ⟨(print l c).toArray⟩) ∧ Below w.heap.size w w' := by
  have HC := Lib.hid (fun w => refCats_any l c w)
  have HD := Lib.hid (fun (n : Int) (w : World) => refDecimal_any n w)
  have hlen := catsTo_len c 64
  have HP := Lib.hid (print_pre l c)
  have hdl := P.decimal_length l
  have HDL := Lib.hid (fun n : Int => P.decimal_length n)
  generalize print l c = res at *
  generalize catsTo c 64 = xs at *
  go_enter Tryd.func48, Tryd.ntmps48
  go_wp2_with fail
  with_reducible refine (HD.out l _).mono ?_
  rintro e w1 ⟨rfl, hb1⟩
  have HK0 := Lib.hid ((hb1.block w.heap.size (by simp)).trans (heap_alloc_new w _))
  have hbe1 : Below w.heap.size w w1 := ((Below.refl _ _).alloc (Nat.le_refl _) _).trans (hb1.mono (by simp))
  have d0 := (res_cells HK0.out).1
  have d1 := (res_cells HK0.out).2
  clear hb1
  go_wp2_with fail
  with_reducible refine (HC.out _).mono ?_
  rintro e w2 ⟨v, rfl, hown, hb2⟩
  obtain ⟨A, cap, hv, hcap, hA⟩ := own_form hown
  subst hv
  have hbe2 : Below w.heap.size w w2 := hbe1.trans (hb2.mono hbe1.size)
  have HA := Lib.hid hA
  clear hA hown hb2 HC d0 d1 HK0
  generalize P.decimal l = dl at *
  go_wp2_with fail
  go_loopg [3, 5] xs.length (fun n o i wr => ∃ k : Nat, k ≤ xs.length ∧ i = .int .i64 k ∧ xs.length - k ≤ n ∧ o = .string ⟨(dl ++ catsPre (xs.take k)).toArray⟩ ∧ Below w2.heap.size w2 wr)
  case atStart => exact ⟨0, Nat.zero_le _, rfl, by omega, by simp [catsPre], Below.refl _ _⟩
  case round =>
    obtain ⟨k, hk, rfl, hn, rfl, hbw⟩ := hrel
    by_cases hlt : k < xs.length
    · obtain ⟨g, hAe, hg0, hg1, hcells⟩ := HA.out (by omega)
      subst hAe
      have hcell : wr.cell? ⟨g, k, none⟩ = some (.int .i64 ((xs[k] : Nat) : Int)) := (hbw.cell (p := ⟨g, k, none⟩) hg1).trans (hcells k _ (by simp [intCells, List.getElem?_eq_getElem hlt]))
      clear hcells
      have hpl := catsPre_len (xs.take k)
      rw [List.length_take] at hpl
      have hxl := HDL.out ((xs[k] : Nat) : Int)
      by_cases h0 : k = 0
      · have hb0 : ((k : Int) == 0) = true := beq_iff_eq.2 (by omega)
        have HS := Lib.hid (show catsPre (xs.take (k + 1)) = ([58] : List UInt8) ++ P.decimal ((xs[k] : Nat) : Int) by subst h0; exact catsPre_zero hlt)
        have HZ := Lib.hid (show catsPre (xs.take k) = [] by subst h0; simp [catsPre])
        rw [HZ.out, List.append_nil]
        generalize xs[k] = x at *
        clear h0 hpl
        have ha1 : (⟨dl.toArray⟩ : ByteArray).size + (⟨#[58]⟩ : ByteArray).size ≤ 9223372036854775807 := by
          show dl.toArray.size + 1 ≤ _; simp; omega
        have ha2 : ((⟨dl.toArray⟩ : ByteArray) ++ ⟨#[58]⟩).size + (⟨(P.decimal (x : Int)).toArray⟩ : ByteArray).size ≤ 9223372036854775807 := by
          rw [ByteArray.size_append]; show dl.toArray.size + 1 + (P.decimal (x : Int)).toArray.size ≤ _; simp; omega
        go_wp2_with fail
        with_reducible refine (HD.out (x : Int) _).mono ?_
        rintro e w3 ⟨rfl, hb3⟩
        have hbw3 : Below w2.heap.size w2 w3 := hbw.trans (hb3.mono hbw.size)
        generalize P.decimal (x : Int) = ds at *
        clear hcell hb3
        go_wp2_with fail
        go_roundg (xs.length - (k + 1))
        case measure => omega
        case rel => exact ⟨k + 1, by omega, by go_num, Nat.le_refl _, by rw [HS.out, ← List.append_assoc, ← cat, ← cat], hbw3⟩
      · have hb0 : ((k : Int) == 0) = false := beq_eq_false_iff_ne.2 (by omega)
        have HS := Lib.hid (catsPre_succ hlt (by omega))
        generalize xs[k] = x at *
        generalize catsPre (xs.take k) = pre at *
        clear h0
        have ha1 : (⟨(dl ++ pre).toArray⟩ : ByteArray).size + (⟨#[44]⟩ : ByteArray).size ≤ 9223372036854775807 := by
          show (dl ++ pre).toArray.size + 1 ≤ _; simp; omega
        have ha2 : ((⟨(dl ++ pre).toArray⟩ : ByteArray) ++ ⟨#[44]⟩).size + (⟨(P.decimal (x : Int)).toArray⟩ : ByteArray).size ≤ 9223372036854775807 := by
          rw [ByteArray.size_append]; show (dl ++ pre).toArray.size + 1 + (P.decimal (x : Int)).toArray.size ≤ _; simp; omega
        have HE := Lib.hid (show ((⟨(dl ++ pre).toArray⟩ : ByteArray) ++ ⟨#[44]⟩) ++ ⟨(P.decimal (x : Int)).toArray⟩ = ⟨(dl ++ (pre ++ [44] ++ P.decimal (x : Int))).toArray⟩ by
          rw [show (⟨#[44]⟩ : ByteArray) = ⟨[44].toArray⟩ from rfl, cat, cat]; simp)
        generalize dl ++ pre = cur at *
        go_wp2_with fail
        with_reducible refine (HD.out (x : Int) _).mono ?_
        rintro e w3 ⟨rfl, hb3⟩
        have hbw3 : Below w2.heap.size w2 w3 := hbw.trans (hb3.mono hbw.size)
        generalize P.decimal (x : Int) = ds at *
        clear hcell hb3
        go_wp2_with fail
        go_roundg (xs.length - (k + 1))
        case measure => omega
        case rel => exact ⟨k + 1, by omega, by go_num, Nat.le_refl _, by rw [HS.out, ← HE.out], hbw3⟩
    · obtain rfl : k = xs.length := by omega
      have hbr : Below w.heap.size w wr := hbe2.trans (hbw.mono hbe2.size)
      rw [List.take_length]
      go_wp2_with fail
      go_ret
      exact ⟨ret_of (by rw [HP.out]; rfl), hbr⟩
end Go.Proofs.YtbilhdfoajahkaaDoor.L
