/-
  The law LabelBack, walked: it returns true for every two labels and every text of at most 2^22 bytes, where the library's table of powers of ten holds what its text lays.
-/
import Derived.Test.YtbilhdfoajahkaaDoorBackA
import Derived.Test.YtbilhdfoajahkaaDoorBackB
import Derived.Test.YtbilhdfoajahkaaDoorBackC
namespace Go.Proofs.YtbilhdfoajahkaaDoor.L
open Go.RowKit
open T

theorem rg_is (l : Int) (c : Nat) : Rg l c (rightB l) := fun w => right_any l c w
theorem parseVal_form (o : Option (Nat × Nat)) : ∃ (y : Int) (yc : Nat) (has : Bool), parseVal o = .tuple #[lab y yc, .bool has] ∧ (has = true → ∃ n, o = some (n, yc) ∧ y = (n : Int)) := by
  match o with
  | none => exact ⟨0, 0, false, rfl, fun h => by cases h⟩
  | some (n, c) => exact ⟨n, c, true, rfl, fun _ => ⟨n, rfl, rfl⟩⟩
theorem print_inj {l m : Int} {c d : Nat} (hc : c < 18446744073709551616) (hd : d < 18446744073709551616) (hl : rightB l = true) (hm : rightB m = true) (h : print l c = print m d) : l = m ∧ c = d := by
  have h1 := parse_print l c hc hl
  have h2 := parse_print m d hd hm
  rw [h, h2] at h1
  injection h1 with h1
  injection h1 with h3 h4
  unfold rightB at hl hm
  rw [Bool.and_eq_true, decide_eq_true_iff, decide_eq_true_iff] at hl hm
  omega
theorem print_ne {l m : Int} {c d : Nat} (h : ¬ print l c = print m d) : ((⟨(print l c).toArray⟩ : ByteArray).toList == (⟨(print m d).toArray⟩ : ByteArray).toList) = false := by
  rw [Lib.toList_data, Lib.toList_data]
  exact beq_eq_false_iff_ne.2 h

theorem back_walk (l m : Int) (c d : Nat) (s : ByteArray) (w : World) (h0 : -9223372036854775808 ≤ l) (h1 : l ≤ 9223372036854775807) (h2 : -9223372036854775808 ≤ m) (h3 : m ≤ 9223372036854775807) (hc : c < 18446744073709551616) (hd : d < 18446744073709551616) (hs : s.size ≤ 4194304) (ht : Tab w) :
    Calls Tryd.prog 14 #[lab l c, lab m d, .string s] w fun e w' => e = .returned (.bool true) ∧ Below w.heap.size w w' := by
  have HT := Lib.hid ht
  have HP : Pr l c ⟨(print l c).toArray⟩ := fun w ht => print_any l c w h0 h1 hc ht
  have HQ : Pr m d ⟨(print m d).toArray⟩ := fun w ht => print_any m d w h2 h3 hd ht
  have RA := rg_is l c
  have RB := rg_is m d
  have hpl := print_len l c
  have hX := fun (W : World) (hT : Tab W) => parse_any ⟨(print l c).toArray⟩ W (by rw [size_list]; omega) hT
  obtain ⟨y, yc, has, hy, hyh⟩ := parseVal_form (parse s.data.toList)
  have HY : Ps s y yc has := fun W hT => by
    have := parse_any s W hs hT
    rwa [hy] at this
  have HZ : has = true → Pr y yc s := fun h => by
    obtain ⟨n, hn, rfl⟩ := hyh h
    obtain ⟨hp, hyc, hn15⟩ := print_parse hn
    have := pr_is n yc (by omega) hyc
    rwa [hp, eta] at this
  clear hyh
  cases hla : rightB l with
  | false =>
    have HX : Ps ⟨(print l c).toArray⟩ 0 0 false := fun W hT => by
      have := hX W hT
      rwa [show (⟨(print l c).toArray⟩ : ByteArray).data.toList = print l c by simp, parse_not l c hla] at this
    rw [hla] at RA
    cases has with
    | false => exact back_ff l m 0 y c d 0 yc _ s w HT HP HX HY RA
    | true => exact back_ft l m 0 y c d 0 yc _ s w HT HP HX HY RA (HZ rfl)
  | true =>
    have HX : Ps ⟨(print l c).toArray⟩ l c true := fun W hT => by
      have := hX W hT
      rw [show (⟨(print l c).toArray⟩ : ByteArray).data.toList = print l c by simp, parse_print l c hc hla] at this
      have hr := hla
      unfold rightB at hr
      rw [Bool.and_eq_true, decide_eq_true_iff, decide_eq_true_iff] at hr
      have e : ((l.toNat : Nat) : Int) = l := by omega
      rw [parseVal, e] at this
      exact this
    rw [hla] at RA
    cases hlb : rightB m with
    | false =>
      rw [hlb] at RB
      cases has with
      | false => exact back_tff l m l y c d c yc _ s w HT HP HX HY RA RB rfl rfl
      | true => exact back_ttf l m l y c d c yc _ s w HT HP HX HY RA RB (HZ rfl) rfl rfl
    | true =>
      rw [hlb] at RB
      by_cases e : l = m ∧ c = d
      · obtain ⟨e1, e2⟩ := e
        have ep : (⟨(print l c).toArray⟩ : ByteArray) = ⟨(print m d).toArray⟩ := by rw [e1, e2]
        cases has with
        | false => exact back_tftE l m l y c d c yc _ _ s w HT HP HX HY RA RB HQ rfl rfl e1 e2 ep
        | true => exact back_tttE l m l y c d c yc _ _ s w HT HP HX HY RA RB HQ (HZ rfl) rfl rfl e1 e2 ep
      · have hp := print_ne (l := l) (m := m) (c := c) (d := d) (fun h => e (print_inj hc hd hla hlb h))
        by_cases e1 : l = m
        · have e2 : ((c : Int) == (d : Int)) = false := beq_eq_false_iff_ne.2 (fun h => e ⟨e1, by omega⟩)
          cases has with
          | false => exact back_tftC l m l y c d c yc _ _ s w HT HP HX HY RA RB HQ rfl rfl e1 e2 hp
          | true => exact back_tttC l m l y c d c yc _ _ s w HT HP HX HY RA RB HQ (HZ rfl) rfl rfl e1 e2 hp
        · have e2 : (l == m) = false := beq_eq_false_iff_ne.2 e1
          cases has with
          | false => exact back_tftL l m l y c d c yc _ _ s w HT HP HX HY RA RB HQ rfl rfl e2 hp
          | true => exact back_tttL l m l y c d c yc _ _ s w HT HP HX HY RA RB HQ (HZ rfl) rfl rfl e2 hp
end Go.Proofs.YtbilhdfoajahkaaDoor.L
