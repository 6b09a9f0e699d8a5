/-
  The law TextWords, walked: it returns true for every text of at most 2^22 bytes, where the library's table of powers of ten holds what its text lays.
-/
import Derived.Test.YtbilhdfoajahkaaDoorRefW
import Derived.Test.YtbilhdfoajahkaaDoorOwn2
import Derived.Deep.QuietTactic
import Derived.BigQuiet
namespace Go.Proofs.YtbilhdfoajahkaaDoor.T
open Go.RowKit

/-- The parts, with a blank between each two. -/
def glue : List (List UInt8) → List UInt8
  | [] => []
  | [x] => x
  | x :: y :: r => x ++ 32 :: glue (y :: r)
theorem words_ne : ∀ (l cur : List UInt8), P.words cur l ≠ []
  | [], cur => by simp [P.words]
  | c :: r, cur => by
    rw [P.words]
    split
    · simp
    · exact words_ne r _
theorem words_len : ∀ (l cur : List UInt8), (P.words cur l).length ≤ l.length + 1
  | [], cur => by simp [P.words]
  | c :: r, cur => by
    rw [P.words]
    split
    · have := words_len r []; simp; omega
    · have := words_len r (cur ++ [c]); simp; omega
theorem glue_words : ∀ (l cur : List UInt8), glue (P.words cur l) = cur ++ l
  | [], cur => by simp [P.words, glue]
  | c :: r, cur => by
    rw [P.words]
    split
    · next h =>
      have ih := glue_words r []
      cases e : P.words [] r with
      | nil => exact absurd e (words_ne r [])
      | cons y z => rw [glue, ← e, ih, h]; simp
    · rw [glue_words r (cur ++ [c])]; simp
theorem glue_snoc : ∀ (xs : List (List UInt8)) (y : List UInt8), xs ≠ [] → glue (xs ++ [y]) = glue xs ++ 32 :: y
  | [x], y, _ => by simp [glue]
  | x :: z :: r, y, _ => by
    have := glue_snoc (z :: r) y (by simp)
    simp only [List.cons_append] at this ⊢
    rw [glue, this, glue]
    simp
theorem glue_len (xs : List (List UInt8)) : ∀ k, (glue (xs.take k)).length ≤ (glue xs).length := by
  intro k
  induction xs generalizing k with
  | nil => simp [glue]
  | cons x r ih =>
    cases k with
    | zero => simp [glue]
    | succ k =>
      cases r with
      | nil => simp [glue]
      | cons y r =>
        cases k with
        | zero => simp [glue]
        | succ k =>
          have := ih (k + 1)
          simp only [List.take_succ_cons] at this ⊢
          rw [glue, glue]
          simp at this ⊢
          omega
def Nme (s : ByteArray) (b : Bool) : Prop := ∀ w : World, Calls Tryd.prog 29 #[.string s] w fun e w' => e = .returned (.bool b) ∧ w = w'
theorem Nme.call {s : ByteArray} {b : Bool} (h : Nme s b) (w : World) : Calls Tryd.prog 29 #[.string s] w fun e w' => e = .returned (.bool b) ∧ w = w' := h w
def RNme (s : ByteArray) (b : Bool) : Prop := ∀ w : World, Calls Tryd.prog 30 #[.string s] w fun e w' => e = .returned (.bool b) ∧ w = w'
theorem RNme.call {s : ByteArray} {b : Bool} (h : RNme s b) (w : World) : Calls Tryd.prog 30 #[.string s] w fun e w' => e = .returned (.bool b) ∧ w = w' := h w

set_option maxHeartbeats 1000000 in
set_option maxRecDepth 100000 in
theorem words_law (s : ByteArray) (b : Bool) (w : World) (hl : s.size ≤ 4194304) (HT : Hid (Tab w)) (HN : Hid (Nme s b)) (HM : Hid (RNme s b)) :
    Calls Tryd.prog 7 #[.string s] w fun e w' => e = .returned (.bool true) ∧ Below w.heap.size w w' := by
  have HW := Lib.hid (fun w => words_any s w hl)
  have HX := Lib.hid (fun w => refWords_any s w hl)
  have HG := Lib.hid (show glue (P.words [] s.data.toList) = s.data.toList from glue_words _ _)
  have HL : Hid (∀ k, (glue ((P.words [] s.data.toList).take k)).length ≤ 4194304) := Lib.hid fun k => by
    have := glue_len (P.words [] s.data.toList) k
    rw [HG.out, ← Lib.size_eq] at this; omega
  have hxl : (P.words [] s.data.toList).length ≤ 4194305 := by
    have := words_len s.data.toList []
    rw [← Lib.size_eq] at this; omega
  generalize P.words [] s.data.toList = xs at *
  go_enter Tryd.func7, Tryd.ntmps7
  go_wp2_with fail
  with_reducible refine (HW.out _).mono ?_
  rintro e w1 ⟨v, rfl, hown, hb1⟩
  obtain ⟨A, cap, hv, hcap, hA⟩ := T.own_form hown
  subst hv
  go_wp2_with fail
  with_reducible refine (HX.out _).mono ?_
  rintro e w2 ⟨v, rfl, hown2, hb2⟩
  obtain ⟨A', cap', hv, hcap', hA'⟩ := T.own_form hown2
  subst hv
  have hbel : Below w.heap.size w w2 := hb1.trans (hb2.mono hb1.size)
  have HA : Hid (0 < xs.length → ∃ g, A = some ⟨g, 0, none⟩ ∧ ∀ j u, (strCells xs)[j]? = some u → w2.cell? ⟨g, j, none⟩ = some u) := Lib.hid fun h => by
    obtain ⟨g, e, _, hg, hc⟩ := hA h
    exact ⟨g, e, fun j u hu => (hb2.cell (p := ⟨g, j, none⟩) hg).trans (hc j u hu)⟩
  have HA2 : Hid (0 < xs.length → ∃ g, A' = some ⟨g, 0, none⟩ ∧ ∀ j u, (strCells xs)[j]? = some u → w2.cell? ⟨g, j, none⟩ = some u) := Lib.hid fun h => by
    obtain ⟨g, e, _, hg, hc⟩ := hA' h
    exact ⟨g, e, hc⟩
  clear hA hA' hown hown2 hb1 hb2
  have hne : ((xs.length : Int) != (xs.length : Int)) = false := by simp
  go_wp2_with fail
  go_loopg [5, 6] xs.length (fun n a i wr => ∃ k : Nat, k ≤ xs.length ∧ i = .int .i64 k ∧ xs.length - k ≤ n ∧ a = .string ⟨(glue (xs.take k)).toArray⟩ ∧ ∃ q, wr = w2.drewN q)
  case atStart => exact ⟨0, Nat.zero_le _, rfl, by omega, by simp [glue], 0, rfl⟩
  case round =>
    obtain ⟨k, hk, rfl, hn, rfl, q, rfl⟩ := hrel
    by_cases hlt : k < xs.length
    · obtain ⟨g, hAe, hc⟩ := HA.out (by omega)
      obtain ⟨g', hAe', hc'⟩ := HA2.out (by omega)
      subst hAe hAe'
      have hcell : w2.cell? ⟨g, k, none⟩ = some (.string ⟨xs[k].toArray⟩) := hc k _ (by simp [strCells, List.getElem?_eq_getElem hlt])
      have hcell' : w2.cell? ⟨g', k, none⟩ = some (.string ⟨xs[k].toArray⟩) := hc' k _ (by simp [strCells, List.getElem?_eq_getElem hlt])
      clear hc hc'
      have h0 : (0 : Int) ≤ (k : Int) := Int.natCast_nonneg _
      have h1 : (k : Int) < (xs.length : Int) := by omega
      have hlk := HL.out k
      have hlk1 := HL.out (k + 1)
      by_cases hz : k = 0
      · subst hz
        have HG1 := Lib.hid (show glue (xs.take (0 + 1)) = xs[0] by rw [List.take_succ_eq_append_getElem hlt]; simp [glue])
        rw [HG1.out] at hlk1
        generalize xs[0] = x at *
        have HE := Lib.hid (show (⟨#[]⟩ : ByteArray) ++ ⟨x.toArray⟩ = ⟨x.toArray⟩ from str_append [] x)
        have ha : (⟨#[]⟩ : ByteArray).size + (⟨x.toArray⟩ : ByteArray).size ≤ 9223372036854775807 := by rw [list_size]; show 0 + x.length ≤ _; omega
        simp only [List.take_zero, glue]
        go_wp2_with fail
        go_quiet (fail)
        go_wp2_with fail
        go_roundg (xs.length - (0 + 1))
        case measure => omega
        case rel => exact ⟨0 + 1, by omega, rfl, Nat.le_refl _, by rw [HG1.out, HE.out], _, rfl⟩
      · have HG1 := Lib.hid (show glue (xs.take (k + 1)) = glue (xs.take k) ++ 32 :: xs[k] by
          rw [List.take_succ_eq_append_getElem hlt]
          exact glue_snoc _ _ (fun e => by have := congrArg List.length e; rw [List.length_take, List.length_nil] at this; omega))
        rw [HG1.out] at hlk1
        generalize xs[k] = x at *
        generalize glue (xs.take k) = a at *
        have hlk2 : a.length + 1 + x.length ≤ 4194304 := by rw [List.length_append, List.length_cons] at hlk1; omega
        have HE := Lib.hid (show (⟨a.toArray⟩ : ByteArray) ++ ⟨#[32]⟩ ++ ⟨x.toArray⟩ = ⟨(a ++ 32 :: x).toArray⟩ by
          have h1 : (⟨a.toArray⟩ : ByteArray) ++ ⟨#[32]⟩ = ⟨(a ++ [32]).toArray⟩ := str_append a [32]
          rw [h1, str_append]; simp)
        have ha : (⟨a.toArray⟩ : ByteArray).size + (⟨#[32]⟩ : ByteArray).size ≤ 9223372036854775807 := by rw [list_size]; show a.length + 1 ≤ _; omega
        have ha2 : ((⟨a.toArray⟩ : ByteArray) ++ ⟨#[32]⟩).size + (⟨x.toArray⟩ : ByteArray).size ≤ 9223372036854775807 := by
          rw [ByteArray.size_append, list_size, list_size]; show a.length + 1 + x.length ≤ _; omega
        go_wp2_with fail
        go_quiet (fail)
        go_wp2_with fail
        go_roundg (xs.length - (k + 1))
        case measure => omega
        case rel => exact ⟨k + 1, by omega, by go_num, Nat.le_refl _, by rw [HG1.out, HE.out], _, rfl⟩
    · obtain rfl : k = xs.length := by omega
      rw [List.take_length, HG.out, str_eta]
      have hbq : Below w.heap.size w (w2.drewN q) := below_drewN hbel q
      have HT2 := Lib.hid (HT.out.later hbq)
      generalize w2.drewN q = w4 at *
      go_wp2_with fail
      with_reducible refine (live1 _ HT2.out).mono ?_
      rintro r w5 ⟨rfl, hb5⟩
      have hb05 : Below w.heap.size w w5 := hbq.trans (hb5.mono hbq.size)
      go_wp2_with fail
      with_reducible refine (HN.out.call _).mono ?_
      rintro r w6 ⟨rfl, rfl⟩
      go_wp2_with fail
      with_reducible refine (HM.out.call _).mono ?_
      rintro r w6 ⟨rfl, rfl⟩
      go_wp2_with fail
      go_ret
      exact ⟨rfl, hb05⟩

theorem words_walk (s : ByteArray) (w : World) (hl : s.size ≤ 4194304) (ht : Tab w) :
    Calls Tryd.prog 7 #[.string s] w fun e w' => e = .returned (.bool true) ∧ Below w.heap.size w w' :=
  words_law s _ w hl (Lib.hid ht) (Lib.hid fun w => name_any s w (by simp only [maxLen]; omega)) (Lib.hid fun w => refName_any s w (by simp only [maxLen]; omega))
end Go.Proofs.YtbilhdfoajahkaaDoor.T
