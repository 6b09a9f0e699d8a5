/-
  The contracts of the reference's Cats and Of for labels.
  The reference's way to read a label's text, sign by sign, and that it reads what the program's way reads.
  The contract of the reference's Print for labels.
  The contracts of Print, the code's and the reference's.
  The contract of the reference's Print (layer 20).
-/
import Derived.Test.YtbfohfmipfapdaaDoorGub
import Derived.RegionTactic
import Derived.BigRegion
import Derived.Deep.RegionWith
import Derived.Test.YtbfohfmipfapdaaDoorGue
namespace Go.Proofs.YtbfohfmipfapdaaDoor.L
open Go.RowKit
open T

set_option maxHeartbeats 1000000 in
set_option maxRecDepth 100000 in
theorem refCats_any (l : Int) (c : Nat) (w : World) :
    Calls Tryd.prog 39 #[lab l c] w fun e w' => ∃ v, e = .returned v ∧ w'.ownsRow w.heap.size 3 1 v (catsTo c 64).length (intCells (catsTo c 64)) ∧ Below w.heap.size w w' := by
  obtain ⟨i0, hi0, hz0, hz1, hz2⟩ := info_parts infoInt
  go_enter Tryd.func39, Tryd.ntmps39
  go_wp2_with fail
  go_loopg [3, 4] 64 (fun n v i wr => ∃ k : Nat, k ≤ 64 ∧ i = .int .i64 k ∧ 64 - k ≤ n ∧ wr.ownsRow (w.heap.size + 1) 3 1 v (catsTo c k).length (intCells (catsTo c k)) ∧ Hid (wr.heap[w.heap.size]? = some (.cells #[.int .i64 l, .int .u64 (c : Int)] 25 (0, 0))) ∧ Below w.heap.size w wr)
  case atStart =>
    obtain ⟨b0, b1⟩ := two_blocks w (.cells #[.int .i64 l, .int .u64 (c : Int)] 25) (.cells #[] 3)
    exact ⟨0, by omega, rfl, by omega, ⟨by simp [catsTo, intCells], .inr ⟨w.heap.size + 1, 0, #[], by simp [catsTo], Nat.le_refl _, b1, by simp [catsTo], by simp [maxLen], rfl, by simp [catsTo, intCells]⟩⟩, Lib.hid b0, ((Below.refl _ _).alloc (Nat.le_refl _) _).alloc (by simp) _⟩
  case round =>
    obtain ⟨k, hk, rfl, hn, hown, HB0, hbel⟩ := hrel
    have c0 := (res_cells HB0.out).1
    have c1 := (res_cells HB0.out).2
    have hwr : w.heap.size + 1 ≤ wr.heap.size := blk_lt HB0.out
    by_cases hlt : k < 64
    · have hlen := catsTo_len c k
      cases hbit : c.testBit k with
      | true =>
        have HC := Lib.hid (catsTo_yes hbit)
        have HH := Lib.hid (hs_is (l := l) hlt hbit)
        clear hbit
        generalize catsTo c k = xs at *
        go_wp2_with fail
        with_reducible refine (HH.out.call _).mono ?_
        rintro r w1 ⟨rfl, hb1⟩
        have hbe1 : Below w.heap.size w w1 := hbel.trans (hb1.mono hbel.size)
        have HB1 := Lib.hid ((hb1.block w.heap.size (by omega)).trans HB0.out)
        have hw1 := blk_lt HB1.out
        have hown1 : w1.ownsRow (w.heap.size + 1) 3 1 u3 xs.length (intCells xs) := hown.kept (row := none) ⟨hb1.os, hb1.tape, hb1.output, hb1.size, fun i hi _ => hb1.block i hi⟩ (by
          rcases hh : u3.ownBlock with _ | b
          · exact .inl rfl
          · exact .inr (by simp))
        clear c0 c1 hb1 HB0 hown
        go_wp2_with (at_builtin; refine wpList_append_own _ rfl (.tmp 13) (.tmp 15) 61 rfl (w.heap.size + 1) 3 i0 _ 1 8 Tryd.underlying61 hi0 hz0 hz1 hz2 rfl (by decide) _ xs.length (intCells xs) rfl ?ho ⟨w1.heap.size, 0, none⟩ 1 1 [.int .i64 (k : Int)] rfl rfl ?c1 ?c2 ?c3 ?c4 ?c5 ?_)
        case ho => exact hown1.alloc _
        case c1 => exact cell_one_new _ _ _
        case c2 => intro u hu; simp at hu; rcases hu with rfl; rfl
        case c3 => simp only [maxLen]; omega
        case c4 => omega
        case c5 => simp; omega
        intro v' w2 hown2 hg2 _
        have hbe2 : Below w.heap.size w w2 := (hbe1.alloc hbe1.size _).grown hg2 (by simp; omega) (fun k hk => by have := own_base hown1 k hk; omega)
        have hb2 : w2.heap[w.heap.size]? = some (.cells #[.int .i64 l, .int .u64 (c : Int)] 25 (0, 0)) := by
          rw [hg2.block w.heap.size (by simp; omega) (fun e => by have := own_base hown1 _ e.symm; omega)]
          exact (Below.heap_alloc w1 _ _ (by omega)).trans HB1.out
        have HB2 := Lib.hid hb2
        rw [← intCells_snoc] at hown2
        have hl1 : (xs ++ [k]).length = xs.length + 1 := by simp
        rw [← hl1, ← HC.out] at hown2
        clear hl1 hown1 hb2
        go_wp2_with fail
        go_roundg (64 - (k + 1))
        case measure => omega
        case rel => exact ⟨k + 1, by omega, by go_num, Nat.le_refl _, hown2, HB2, hbe2⟩
      | false =>
        have HC := Lib.hid (catsTo_no hbit)
        have HH := Lib.hid (hs_is (l := l) hlt hbit)
        clear hbit
        go_wp2_with fail
        with_reducible refine (HH.out.call _).mono ?_
        rintro r w1 ⟨rfl, hb1⟩
        have hbe1 : Below w.heap.size w w1 := hbel.trans (hb1.mono hbel.size)
        have HB1 := Lib.hid ((hb1.block w.heap.size (by omega)).trans HB0.out)
        have hown1 : w1.ownsRow (w.heap.size + 1) 3 1 u3 (catsTo c k).length (intCells (catsTo c k)) := hown.kept (row := none) ⟨hb1.os, hb1.tape, hb1.output, hb1.size, fun i hi _ => hb1.block i hi⟩ (by
          rcases hh : u3.ownBlock with _ | b
          · exact .inl rfl
          · exact .inr (by simp))
        rw [← HC.out] at hown1
        clear c0 c1 hb1 HB0 hown
        go_wp2_with fail
        go_roundg (64 - (k + 1))
        case measure => omega
        case rel => exact ⟨k + 1, by omega, by go_num, Nat.le_refl _, hown1, HB1, hbe1⟩
    · obtain rfl : k = 64 := by omega
      have hown' := own_more hown (Nat.le_succ w.heap.size)
      clear hown c0 c1
      go_wp2_with fail
      go_ret
      exact ⟨_, rfl, hown', hbel⟩

theorem or_add {c m : Nat} (h : c.testBit m = false) : c ||| 2 ^ m = c + 2 ^ m := by
  have e : c = c / 2 ^ (m + 1) * 2 ^ (m + 1) + c % 2 ^ m := by
    have h1 : c / 2 ^ m % 2 = 0 := by
      rw [Nat.testBit_eq_decide_div_mod_eq] at h
      have := of_decide_eq_false h
      omega
    have h2 := Nat.div_add_mod c (2 ^ m)
    rw [Nat.pow_succ, ← Nat.div_div_eq_div_mul]
    generalize c / 2 ^ m = y at *
    have h3 : y = y / 2 * 2 := by omega
    calc c = 2 ^ m * y + c % 2 ^ m := h2.symm
      _ = y / 2 * (2 ^ m * 2) + c % 2 ^ m := by
        congr 1
        rw [Nat.mul_comm (2 ^ m) 2, ← Nat.mul_assoc, ← h3, Nat.mul_comm]
  have hp := Nat.pow_pos (n := m) (show 0 < 2 by omega)
  have hlo : c % 2 ^ m < 2 ^ m := Nat.mod_lt _ hp
  generalize c / 2 ^ (m + 1) * 2 ^ (m + 1) = hi, hhi : c / 2 ^ (m + 1) * 2 ^ (m + 1) = hi at e
  have hm : hi % 2 ^ (m + 1) = 0 := by rw [← hhi]; exact Nat.mul_mod_left _ _
  generalize c % 2 ^ m = lo at e hlo
  have h1 := nat_join (m + 1) hi lo hm (by rw [Nat.pow_succ]; omega)
  have h2 := nat_join m (2 ^ m) lo (Nat.mod_self _) hlo
  have h3 := nat_join (m + 1) hi (2 ^ m + lo) hm (by rw [Nat.pow_succ]; omega)
  rw [e, ← h1, Nat.or_assoc, Nat.or_comm lo, h2, h3, h1]
  omega

end Go.Proofs.YtbfohfmipfapdaaDoor.L

namespace Go.Proofs.YtbfohfmipfapdaaDoor.L
open T

/-- What the reference does with a number that ends. -/
def refStep (level : Bool) (last : Int) (n : Nat) : Bool := if level then decide (n ≤ 15) else decide (n ≤ 63) && decide (last < (n : Int))
def refP (level : Bool) (L C : Nat) (last : Int) (now : List UInt8) : List UInt8 → Option (Nat × Nat)
  | [] => (P.number now).bind fun n => if refStep level last n then (if level then some (n, C) else some (L, C + 2 ^ n)) else none
  | x :: r => if x ≠ 58 ∧ x ≠ 44 then refP level L C last (now ++ [x]) r
    else (P.number now).bind fun n => if (x == 58) = level then (if refStep level last n then (if level then refP false n C last [] r else refP false L (C + 2 ^ n) n [] r) else none) else none

theorem catsText_one (n : Nat) : catsText [n] = P.decimal (n : Int) := by
  unfold catsText Lib.join
  simp
theorem catsText_cons (n m : Nat) (r : List Nat) : catsText (n :: m :: r) = P.decimal (n : Int) ++ 44 :: catsText (m :: r) := by
  unfold catsText Lib.join
  rw [List.map_cons, List.map_cons, List.intercalate_cons_cons]
  simp
def Rise (last : Int) (xs : List Nat) : Prop := xs.Pairwise (· < ·) ∧ ∀ x ∈ xs, last < (x : Int) ∧ x ≤ 63
theorem add_or {C n : Nat} {last : Int} (hC : ∀ i, C.testBit i = true → (i : Int) ≤ last) (hn : last < (n : Int)) : C + 2 ^ n = C ||| 2 ^ n := by
  refine (or_add ?_).symm
  cases h : C.testBit n with
  | false => rfl
  | true => have := hC n h; omega
theorem bits_or {C n : Nat} {last : Int} (hC : ∀ i, C.testBit i = true → (i : Int) ≤ last) (hn : last < (n : Int)) : ∀ i, (C ||| 2 ^ n).testBit i = true → (i : Int) ≤ (n : Int) := by
  intro i hi
  rw [Nat.testBit_or, Nat.testBit_two_pow, Bool.or_eq_true, decide_eq_true_iff] at hi
  rcases hi with hi | hi
  · have := hC i hi; omega
  · omega

/-- What is read behind the level. -/
theorem refP_sound (L : Nat) : ∀ (r now : List UInt8) (C : Nat) (last : Int) (L' C' : Nat), (∀ i, C.testBit i = true → (i : Int) ≤ last) → refP false L C last now r = some (L', C') →
    L' = L ∧ ∃ xs, xs ≠ [] ∧ Rise last xs ∧ now ++ r = catsText xs ∧ C' = xs.foldl (fun a x => a ||| 2 ^ x) C := by
  intro r
  induction r with
  | nil =>
    intro now C last L' C' hC h
    rw [refP, Option.bind_eq_some_iff] at h
    obtain ⟨n, hn, h⟩ := h
    split at h
    · next hs =>
      simp [refStep] at hs
      simp at h
      refine ⟨h.1.symm, [n], by simp, ⟨by simp, fun x hx => ?_⟩, ?_, ?_⟩
      · simp at hx; subst hx; exact ⟨hs.2, hs.1⟩
      · rw [catsText_one, List.append_nil]; exact (P.decimal_number _ _ hn).symm
      · rw [← h.2, add_or hC hs.2]; rfl
    · cases h
  | cons x r ih =>
    intro now C last L' C' hC h
    rw [refP] at h
    split at h
    · have := ih _ C last L' C' hC h
      simpa using this
    · next hx =>
      rw [Option.bind_eq_some_iff] at h
      obtain ⟨n, hn, h⟩ := h
      split at h
      · next hb =>
        split at h
        · next hs =>
          simp [refStep] at hs
          simp only [Bool.false_eq_true, if_false] at h
          rw [add_or hC hs.2] at h
          obtain ⟨hL, xs, hne, hrise, htext, hfold⟩ := ih [] _ _ L' C' (bits_or hC hs.2) h
          have hx44 : x = 44 := by
            have : ¬ x = 58 := by simpa using hb
            by_cases h44 : x = 44
            · exact h44
            · exact absurd ⟨this, h44⟩ hx
          refine ⟨hL, n :: xs, by simp, ⟨List.pairwise_cons.2 ⟨fun y hy => by have := (hrise.2 y hy).1; omega, hrise.1⟩, fun y hy => ?_⟩, ?_, hfold⟩
          · rcases List.mem_cons.1 hy with rfl | hy
            · exact ⟨hs.2, hs.1⟩
            · have := hrise.2 y hy; exact ⟨by omega, this.2⟩
          · obtain ⟨m, t, rfl⟩ : ∃ m t, xs = m :: t := by
              cases xs with
              | nil => exact absurd rfl hne
              | cons m t => exact ⟨m, t, rfl⟩
            rw [catsText_cons, ← htext, hx44, P.decimal_number _ _ hn, List.nil_append]
        · cases h
      · cases h
theorem sorted_eq : ∀ (us vs : List Nat), us.Pairwise (· < ·) → vs.Pairwise (· < ·) → (∀ x, x ∈ us ↔ x ∈ vs) → us = vs
  | [], [], _, _, _ => rfl
  | [], b :: _, _, _, h => absurd ((h b).2 (by simp)) (by simp)
  | a :: _, [], _, _, h => absurd ((h a).1 (by simp)) (by simp)
  | a :: us, b :: vs, ha, hb, h => by
    rw [List.pairwise_cons] at ha hb
    have e : a = b := by
      have h1 := (h a).1 (by simp)
      have h2 := (h b).2 (by simp)
      rcases List.mem_cons.1 h1 with h1 | h1
      · exact h1
      · rcases List.mem_cons.1 h2 with h2 | h2
        · exact h2.symm
        · have := ha.1 b h2; have := hb.1 a h1; omega
    subst e
    rw [sorted_eq us vs ha.2 hb.2 fun x => ⟨fun hx => ?_, fun hx => ?_⟩]
    · rcases List.mem_cons.1 ((h x).1 (by simp [hx])) with rfl | h'
      · have := ha.1 x hx; omega
      · exact h'
    · rcases List.mem_cons.1 ((h x).2 (by simp [hx])) with rfl | h'
      · have := hb.1 x hx; omega
      · exact h'
theorem cats_sorted (c : Nat) : (catsTo c 64).Pairwise (· < ·) := by
  unfold catsTo
  exact List.Pairwise.filter _ List.pairwise_lt_range
theorem cats_mem (c x : Nat) : x ∈ catsTo c 64 ↔ x < 64 ∧ c.testBit x = true := by
  unfold catsTo
  rw [List.mem_filter, List.mem_range]
theorem cats_of_fold {xs : List Nat} {last : Int} (h : Rise last xs) : catsTo (xs.foldl (fun a x => a ||| 2 ^ x) 0) 64 = xs := by
  refine sorted_eq _ _ (cats_sorted _) h.1 fun x => ?_
  rw [cats_mem, fold_bit]
  simp only [Nat.zero_testBit, Bool.false_or, decide_eq_true_iff]
  exact ⟨fun h => h.2, fun hx => ⟨by have := (h.2 x hx).2; omega, hx⟩⟩
theorem fold_small {xs : List Nat} : ∀ {c : Nat}, c < 18446744073709551616 → (∀ x ∈ xs, x ≤ 63) → xs.foldl (fun a x => a ||| 2 ^ x) c < 18446744073709551616 := by
  induction xs with
  | nil => intro c hc _; exact hc
  | cons x r ih =>
    intro c hc h
    rw [List.foldl_cons]
    exact ih (or_small hc (Nat.pow_lt_pow_right (a := 2) (n := 64) (by omega) (by have := h x (by simp); omega))) (fun y hy => h y (by simp [hy]))

/-- The whole of a text that is read is the label's text. -/
theorem refP_whole : ∀ (l now : List UInt8) (n c : Nat), refP true 0 0 (-1) now l = some (n, c) → print n c = now ++ l ∧ c < 18446744073709551616 ∧ n ≤ 15 := by
  intro l
  induction l with
  | nil =>
    intro now n c h
    rw [refP, Option.bind_eq_some_iff] at h
    obtain ⟨m, hm, h⟩ := h
    split at h
    · next hs =>
      simp [refStep] at hs
      simp at h
      obtain ⟨rfl, rfl⟩ := h
      refine ⟨?_, by omega, hs⟩
      have : catsTo 0 64 = [] := by decide
      rw [print, if_pos this, List.append_nil]; exact P.decimal_number _ _ hm
    · cases h
  | cons x r ih =>
    intro now n c h
    rw [refP] at h
    split at h
    · have := ih _ n c h
      simpa using this
    · next hx =>
      rw [Option.bind_eq_some_iff] at h
      obtain ⟨m, hm, h⟩ := h
      split at h
      · next hb =>
        split at h
        · next hs =>
          simp [refStep] at hs
          simp only [if_true] at h
          obtain ⟨rfl, xs, hne, hrise, htext, hfold⟩ := refP_sound m r [] 0 (-1) n c (fun i hi => by simp at hi) h
          have hx58 : x = 58 := by simpa using hb
          have hc := cats_of_fold hrise
          rw [← hfold] at hc
          refine ⟨?_, by rw [hfold]; exact fold_small (by omega) (fun x hx => (hrise.2 x hx).2), hs⟩
          rw [print, hc, if_neg hne, ← htext, P.decimal_number _ _ hm, hx58]
          simp
        · cases h
      · cases h

theorem refP_digits (level : Bool) (L C : Nat) (last : Int) : ∀ (ds now r : List UInt8), (∀ x ∈ ds, x ≠ 58 ∧ x ≠ 44) → refP level L C last now (ds ++ r) = refP level L C last (now ++ ds) r
  | [], now, r, _ => by simp
  | x :: ds, now, r, h => by
    rw [List.cons_append, refP, if_pos (h x (by simp)), refP_digits level L C last ds _ r (fun y hy => h y (by simp [hy]))]
    simp
theorem dec_plain (n : Int) : ∀ x ∈ P.decimal n, x ≠ 58 ∧ x ≠ 44 := fun x hx => ⟨dec_no n 58 (.inl rfl) x hx, dec_no n 44 (.inr rfl) x hx⟩
theorem num_dec (n : Nat) (h : n ≤ 63) : P.number (P.decimal (n : Int)) = some n := by
  have := P.number_decimal (n : Int) (by omega) (by omega)
  rwa [Int.toNat_natCast] at this
theorem refP_nums (L : Nat) : ∀ (xs : List Nat) (C : Nat) (last : Int), xs ≠ [] → Rise last xs → (∀ i, C.testBit i = true → (i : Int) ≤ last) →
    refP false L C last [] (catsText xs) = some (L, xs.foldl (fun a x => a ||| 2 ^ x) C)
  | [n], C, last, _, hr, hC => by
    have hn := hr.2 n (by simp)
    have h := refP_digits false L C last (P.decimal (n : Int)) [] [] (dec_plain _)
    rw [List.append_nil, List.nil_append] at h
    rw [catsText_one, h, refP, num_dec n hn.2, Option.bind_some, if_pos (by simp [refStep, hn.1, hn.2])]
    simp only [Bool.false_eq_true, if_false]
    rw [add_or hC hn.1]; rfl
  | n :: m :: r, C, last, _, hr, hC => by
    have hn := hr.2 n (by simp)
    have hp := List.pairwise_cons.1 hr.1
    have h := refP_digits false L C last (P.decimal (n : Int)) [] (44 :: catsText (m :: r)) (dec_plain _)
    rw [List.nil_append] at h
    rw [catsText_cons, h, refP, if_neg (by decide), num_dec n hn.2, Option.bind_some, if_pos (by decide), if_pos (by simp [refStep, hn.1, hn.2])]
    simp only [Bool.false_eq_true, if_false]
    rw [add_or hC hn.1, refP_nums L (m :: r) _ n (by simp) ⟨hp.2, fun x hx => ⟨by have := hp.1 x hx; omega, (hr.2 x (by simp [hx])).2⟩⟩ (bits_or hC hn.1)]
    rfl
theorem refP_print (n c : Nat) (hn : n ≤ 15) (hc : c < 18446744073709551616) : refP true 0 0 (-1) [] (print n c) = some (n, c) := by
  have hb := cats_back c hc
  unfold print
  split
  · next he =>
    have h := refP_digits true 0 0 (-1) (P.decimal (n : Int)) [] [] (dec_plain _)
    rw [List.append_nil, List.nil_append] at h
    rw [h, refP, num_dec n (by omega), Option.bind_some, if_pos (by simp [refStep, hn])]
    rw [he] at hb
    simp only [List.foldl_nil] at hb
    simp [hb]
  · next he =>
    have h := refP_digits true 0 0 (-1) (P.decimal (n : Int)) [] (58 :: catsText (catsTo c 64)) (dec_plain _)
    rw [List.nil_append] at h
    rw [show P.decimal (n : Int) ++ [58] ++ catsText (catsTo c 64) = P.decimal (n : Int) ++ 58 :: catsText (catsTo c 64) by simp, h, refP, if_neg (by decide), num_dec n (by omega), Option.bind_some, if_pos (by decide), if_pos (by simp [refStep, hn]), if_pos rfl,
      refP_nums n (catsTo c 64) 0 (-1) he ⟨cats_sorted c, fun x hx => by have := (cats_mem c x).1 hx; omega⟩ (fun i hi => by simp at hi), hb]

/-- The reference's way reads what the program's way reads. -/
theorem refP_parse (l : List UInt8) : refP true 0 0 (-1) [] l = parse l := by
  cases hp : parse l with
  | some q =>
    obtain ⟨n, c⟩ := q
    obtain ⟨h1, h2, h3⟩ := print_parse hp
    rw [← h1]; exact refP_print n c h3 h2
  | none =>
    cases hr : refP true 0 0 (-1) [] l with
    | none => rfl
    | some q =>
      obtain ⟨n, c⟩ := q
      obtain ⟨h1, h2, h3⟩ := refP_whole l [] n c hr
      rw [List.nil_append] at h1
      have := parse_print (n : Int) c h2 (by unfold rightB; rw [decide_eq_true (by omega), decide_eq_true (by omega)]; rfl)
      rw [h1, hp] at this
      cases this
end Go.Proofs.YtbfohfmipfapdaaDoor.L

namespace Go.Proofs.YtbfohfmipfapdaaDoor.L
open Go.RowKit
open T

/-- What stands behind the level. -/
def catsPre (xs : List Nat) : List UInt8 := if xs = [] then [] else 58 :: catsText xs
theorem catsText_snoc : ∀ (ys : List Nat) (x : Nat), ys ≠ [] → catsText (ys ++ [x]) = catsText ys ++ 44 :: P.decimal (x : Int)
  | [y], x, _ => by rw [List.cons_append, List.nil_append, catsText_cons, catsText_one, catsText_one]
  | y :: z :: r, x, _ => by
    have ih := catsText_snoc (z :: r) x (by simp)
    rw [List.cons_append, List.cons_append, catsText_cons, ← List.cons_append, ih, catsText_cons]
    simp
theorem catsPre_zero {xs : List Nat} (h : 0 < xs.length) : catsPre (xs.take 1) = ([58] : List UInt8) ++ P.decimal ((xs[0] : Nat) : Int) := by
  cases xs with
  | nil => simp at h
  | cons x r => simp [catsPre, catsText_one]
theorem catsPre_succ {xs : List Nat} {k : Nat} (hk : k < xs.length) (h0 : 0 < k) : catsPre (xs.take (k + 1)) = catsPre (xs.take k) ++ [44] ++ P.decimal ((xs[k] : Nat) : Int) := by
  have hne : xs.take k ≠ [] := fun e => by
    have := congrArg List.length e
    rw [List.length_take, List.length_nil] at this; omega
  rw [List.take_succ_eq_append_getElem hk, catsPre, if_neg (fun e => by have := congrArg List.length e; rw [List.length_append] at this; simp at this), catsText_snoc _ _ hne, catsPre, if_neg hne]
  simp
theorem catsPre_len (xs : List Nat) : (catsPre xs).length ≤ 11 * xs.length + 1 := by
  have := join_len xs
  unfold catsPre
  split
  · simp
  · simp; omega
theorem print_pre (l : Int) (c : Nat) : print l c = P.decimal l ++ catsPre (catsTo c 64) := by
  unfold print catsPre
  split
  · simp
  · simp

set_option maxHeartbeats 1000000 in
set_option maxRecDepth 100000 in
theorem refPrint_any (l : Int) (c : Nat) (w : World) :
    Calls Tryd.prog 29 #[lab l c] w fun e w' => e = .returned (.string ⟨(print l c).toArray⟩) ∧ Below w.heap.size w w' := by
  have HC := Lib.hid (fun w => refCats_any l c w)
  have HD := Lib.hid (fun (n : Int) (w : World) => refDecimal_any n w)
  have hlen := catsTo_len c 64
  have HP := Lib.hid (print_pre l c)
  have hdl := P.decimal_length l
  have HDL := Lib.hid (fun n : Int => P.decimal_length n)
  generalize print l c = res at *
  generalize catsTo c 64 = xs at *
  go_enter Tryd.func29, Tryd.ntmps29
  go_wp2_with fail
  with_reducible refine (HD.out l _).mono ?_
  rintro e w1 ⟨rfl, hb1⟩
  have HK0 := Lib.hid ((hb1.block w.heap.size (by simp)).trans (heap_alloc_new w _))
  have hbe1 : Below w.heap.size w w1 := ((Below.refl _ _).alloc (Nat.le_refl _) _).trans (hb1.mono (by simp))
  have d0 := (res_cells HK0.out).1
  have d1 := (res_cells HK0.out).2
  clear hb1
  go_wp2_with fail
  with_reducible refine (HC.out _).mono ?_
  rintro e w2 ⟨v, rfl, hown, hb2⟩
  obtain ⟨A, cap, hv, hcap, hA⟩ := own_form hown
  subst hv
  have hbe2 : Below w.heap.size w w2 := hbe1.trans (hb2.mono hbe1.size)
  have HA := Lib.hid hA
  clear hA hown hb2 HC d0 d1 HK0
  generalize P.decimal l = dl at *
  go_wp2_with fail
  go_loopg [3, 5] xs.length (fun n o i wr => ∃ k : Nat, k ≤ xs.length ∧ i = .int .i64 k ∧ xs.length - k ≤ n ∧ o = .string ⟨(dl ++ catsPre (xs.take k)).toArray⟩ ∧ Below w2.heap.size w2 wr)
  case atStart => exact ⟨0, Nat.zero_le _, rfl, by omega, by simp [catsPre], Below.refl _ _⟩
  case round =>
    obtain ⟨k, hk, rfl, hn, rfl, hbw⟩ := hrel
    by_cases hlt : k < xs.length
    · obtain ⟨g, hAe, hg0, hg1, hcells⟩ := HA.out (by omega)
      subst hAe
      have hcell : wr.cell? ⟨g, k, none⟩ = some (.int .i64 ((xs[k] : Nat) : Int)) := (hbw.cell (p := ⟨g, k, none⟩) hg1).trans (hcells k _ (by simp [intCells, List.getElem?_eq_getElem hlt]))
      clear hcells
      have hpl := catsPre_len (xs.take k)
      rw [List.length_take] at hpl
      have hxl := HDL.out ((xs[k] : Nat) : Int)
      by_cases h0 : k = 0
      · have hb0 : ((k : Int) == 0) = true := beq_iff_eq.2 (by omega)
        have HS := Lib.hid (show catsPre (xs.take (k + 1)) = ([58] : List UInt8) ++ P.decimal ((xs[k] : Nat) : Int) by subst h0; exact catsPre_zero hlt)
        have HZ := Lib.hid (show catsPre (xs.take k) = [] by subst h0; simp [catsPre])
        rw [HZ.out, List.append_nil]
        generalize xs[k] = x at *
        clear h0 hpl
        have ha1 : (⟨dl.toArray⟩ : ByteArray).size + (⟨#[58]⟩ : ByteArray).size ≤ 9223372036854775807 := by
          show dl.toArray.size + 1 ≤ _; simp; omega
        have ha2 : ((⟨dl.toArray⟩ : ByteArray) ++ ⟨#[58]⟩).size + (⟨(P.decimal (x : Int)).toArray⟩ : ByteArray).size ≤ 9223372036854775807 := by
          rw [ByteArray.size_append]; show dl.toArray.size + 1 + (P.decimal (x : Int)).toArray.size ≤ _; simp; omega
        go_wp2_with fail
        with_reducible refine (HD.out (x : Int) _).mono ?_
        rintro e w3 ⟨rfl, hb3⟩
        have hbw3 : Below w2.heap.size w2 w3 := hbw.trans (hb3.mono hbw.size)
        generalize P.decimal (x : Int) = ds at *
        clear hcell hb3
        go_wp2_with fail
        go_roundg (xs.length - (k + 1))
        case measure => omega
        case rel => exact ⟨k + 1, by omega, by go_num, Nat.le_refl _, by rw [HS.out, ← List.append_assoc, ← cat, ← cat], hbw3⟩
      · have hb0 : ((k : Int) == 0) = false := beq_eq_false_iff_ne.2 (by omega)
        have HS := Lib.hid (catsPre_succ hlt (by omega))
        generalize xs[k] = x at *
        generalize catsPre (xs.take k) = pre at *
        clear h0
        have ha1 : (⟨(dl ++ pre).toArray⟩ : ByteArray).size + (⟨#[44]⟩ : ByteArray).size ≤ 9223372036854775807 := by
          show (dl ++ pre).toArray.size + 1 ≤ _; simp; omega
        have ha2 : ((⟨(dl ++ pre).toArray⟩ : ByteArray) ++ ⟨#[44]⟩).size + (⟨(P.decimal (x : Int)).toArray⟩ : ByteArray).size ≤ 9223372036854775807 := by
          rw [ByteArray.size_append]; show (dl ++ pre).toArray.size + 1 + (P.decimal (x : Int)).toArray.size ≤ _; simp; omega
        have HE := Lib.hid (show ((⟨(dl ++ pre).toArray⟩ : ByteArray) ++ ⟨#[44]⟩) ++ ⟨(P.decimal (x : Int)).toArray⟩ = ⟨(dl ++ (pre ++ [44] ++ P.decimal (x : Int))).toArray⟩ by
          rw [show (⟨#[44]⟩ : ByteArray) = ⟨[44].toArray⟩ from rfl, cat, cat]; simp)
        generalize dl ++ pre = cur at *
        go_wp2_with fail
        with_reducible refine (HD.out (x : Int) _).mono ?_
        rintro e w3 ⟨rfl, hb3⟩
        have hbw3 : Below w2.heap.size w2 w3 := hbw.trans (hb3.mono hbw.size)
        generalize P.decimal (x : Int) = ds at *
        clear hcell hb3
        go_wp2_with fail
        go_roundg (xs.length - (k + 1))
        case measure => omega
        case rel => exact ⟨k + 1, by omega, by go_num, Nat.le_refl _, by rw [HS.out, ← HE.out], hbw3⟩
    · obtain rfl : k = xs.length := by omega
      have hbr : Below w.heap.size w wr := hbe2.trans (hbw.mono hbe2.size)
      rw [List.take_length]
      go_wp2_with fail
      go_ret
      exact ⟨ret_of (by rw [HP.out]; rfl), hbr⟩
end Go.Proofs.YtbfohfmipfapdaaDoor.L

namespace Go.Proofs.YtbfohfmipfapdaaDoor.Au
set_option linter.unusedVariables false
set_option linter.unusedSimpArgs false
open Go.RowKit
open T
open V (drawn_below grown_of)
open I (alloc1 own_at own_below)

/-- What Print comes to. -/
def PrEnd (w : World) (t : List UInt8) (e : Ending) (w' : World) : Prop := ∃ B c, e = .returned (.slice B t.length c) ∧ BytesIn w' B t ∧ Below w.heap.size w w'
theorem pr_of {w w' : World} {base : Nat} {v : Value} {s t : List UInt8} (h : w'.ownsRow base 5 1 v s.length (byteCells s)) (hs : s = t) (hB : Below w.heap.size w w') : PrEnd w t (.returned v) w' := by
  subst hs
  obtain ⟨A, c, rfl, -, hA⟩ := own_form h
  refine ⟨A, c, rfl, fun hp => ?_, hB⟩
  obtain ⟨g, rfl, _, hlt, hcells⟩ := hA hp
  exact ⟨g, 0, rfl, hlt, fun j hj => by rw [Nat.zero_add]; exact hcells _ _ (by simp [byteCells, List.getElem?_eq_getElem hj])⟩
def SeC (fn : FuncId) (t : TypeId) (b : Nat) (l : List Et) (a0 : Int) (a1 : Nat) (s : List Et) : Prop := ∀ W : World, LgR W t b l → Calls Tryd.prog fn #[.pointer (some ⟨b, 0, none⟩), .agg #[.int .i64 a0, .int .u64 (a1 : Int)]] W (SeEnd W s)
theorem SeC.at {fn : FuncId} {t : TypeId} {b : Nat} {l : List Et} {a0 : Int} {a1 : Nat} {s : List Et} (h : SeC fn t b l a0 a1 s) {W : World} (h1 : LgR W t b l) : Calls Tryd.prog fn #[.pointer (some ⟨b, 0, none⟩), .agg #[.int .i64 a0, .int .u64 (a1 : Int)]] W (SeEnd W s) := h W h1
theorem LiC.call {n : Int} {e : Et} (h : LiC n e) {w : World} (hT : Tab w) : Calls Tryd.prog 27 #[.int .i64 n, .agg #[.string e.us, .int .i64 e.lv, .int .u64 (e.ct : Int), .string e.ve, .string e.fi, .string e.oc]] w fun x w' => x = .returned (.string ⟨(ln n e).toArray⟩) ∧ Below w.heap.size w w' := h w hT
set_option maxRecDepth 100000 in
set_option maxHeartbeats 4000000 in
theorem print_any {w : World} {b : Nat} {l s : List Et} {a0 : Int} {a1 : Nat} (hL : LgR w 52 b l) (hS : SeC 13 52 b l a0 a1 s) (hs : s.length ≤ 1000) (hok : ∀ e ∈ s, okE e = true) (hct : ∀ e ∈ s, e.ct < 18446744073709551616) (hT : Tab w) :
    Calls Tryd.prog 15 #[.pointer (some ⟨b, 0, none⟩), .agg #[.int .i64 a0, .int .u64 (a1 : Int)]] w (PrEnd w (prt s s.length)) := by
  obtain ⟨i0, hi0, hz0, hz1, hz2⟩ := info_parts infoByte
  have HLI := Lib.hid (fun (k : Nat) (h : k < s.length) => c_line (hok _ (List.getElem_mem h)) (hct _ (List.getElem_mem h)) (n := (k : Int) + 1) (by omega) (by omega))
  have HPL := Lib.hid (fun (k : Nat) (h : k ≤ s.length) => prt_len hok k h)
  have HPA := Lib.hid (fun (k : Nat) (h : k < s.length) => prt_at h)
  have HLL := Lib.hid (fun (k : Nat) (h : k < s.length) => ln_len (hok _ (List.getElem_mem h)) ((k : Int) + 1))
  have HP0 : Hid (prt s 0 = []) := Lib.hid rfl
  obtain ⟨W0, hW0⟩ : ∃ W : World, W = w.alloc (.cells #[.int .i64 a0, .int .u64 (a1 : Int)] 25) := ⟨_, rfl⟩
  have hB0 : Below w.heap.size w W0 := by rw [hW0]; exact alloc1 _ _
  have HSE := Lib.hid (hS.at (hL.below hB0))
  have HB0 := Lib.hid hB0
  have HT0 := Lib.hid (Tab.later hT hB0)
  have hx0 : W0.heap[w.heap.size]? = some (.cells #[.int .i64 a0, .int .u64 (a1 : Int)] 25 (0, 0)) := by rw [hW0]; exact heap_alloc_new w _
  have y0 := L.blk_cell hx0 0
  have y1 := L.blk_cell hx0 1
  simp only [List.getElem?_toArray, List.getElem?_cons_zero, List.getElem?_cons_succ] at y0 y1
  obtain ⟨xb, hxb⟩ : ∃ q, q = w.heap.size := ⟨_, rfl⟩
  rw [← hxb] at y0 y1
  clear hL hB0 hct hok hS hx0 hT
  go_enter Tryd.func15, Tryd.ntmps15
  go_upto_region 1 with fail
  rw [← hW0, ← hxb]
  clear hW0 hxb
  go_wp2_with fail
  with_reducible refine HSE.out.mono ?_
  rintro e w1 ⟨SA, sc, rfl, hso, hb1⟩
  have HI := Lib.hid (ets_own hso)
  have HB1 := Lib.hid (HB0.out.trans (hb1.mono HB0.out.size))
  have HT1 := Lib.hid (Tab.later HT0.out hb1)
  clear hso hb1 HSE HB0 HT0 y0 y1
  go_wp2_with fail
  go_loopg [5, 12] s.length (fun q v i wr => ∃ (k : Nat) (t : List UInt8), k ≤ s.length ∧ i = .int .i64 k ∧ s.length - k ≤ q ∧ Hid (t = prt s k) ∧ Hid (wr.ownsRow w1.heap.size 5 1 v t.length (byteCells t)) ∧ Hid (Below w1.heap.size w1 wr))
  case atStart => exact ⟨0, [], Nat.zero_le _, rfl, by omega, Lib.hid HP0.out.symm, Lib.hid (World.ownsRow_nil _ _ _ _), Lib.hid (Below.refl _ _)⟩
  case round =>
    obtain ⟨k, t, hk, rfl, hm, HTT, HO, HBR⟩ := hrel
    by_cases hlt : k < s.length
    · obtain ⟨bk, off, hAe, hbk, c0, c1, c2, c3, c4, c5⟩ := et_at (HI.out.below HBR.out) hlt
      subst hAe
      have h0k : (0 : Int) ≤ (k : Int) := by omega
      have hki : (k : Int) < (s.length : Int) := by omega
      have HLK := Lib.hid (HLI.out k hlt)
      have HPK := Lib.hid (HPA.out k hlt)
      rw [← HTT.out] at HPK
      have htl : t.length ≤ 10000000 := by rw [HTT.out]; have := HPL.out k hk; omega
      have hll := HLL.out k hlt
      obtain ⟨e, he⟩ : ∃ e, e = s[k]'hlt := ⟨_, rfl⟩
      rw [← he] at c0 c1 c2 c3 c4 c5 HLK HPK hll
      clear he HTT
      obtain ⟨us, x0, x1, ve, fi, oc⟩ := e
      simp only at c0 c1 c2 c3 c4 c5
      obtain ⟨y, hy⟩ : ∃ y, y = ln ((k : Int) + 1) ⟨us, x0, x1, ve, fi, oc⟩ := ⟨_, rfl⟩
      have HY := Lib.hid hy
      rw [← hy] at hll HPK
      have hw1 : IntKind.i64.wrap ((k : Int) + 1) = (k : Int) + 1 := by rw [IntKind.wrap_i64]; omega
      obtain ⟨W2, hW2⟩ : ∃ W : World, W = wr.alloc (.cells #[.string us, .int .i64 x0, .int .u64 (x1 : Int), .string ve, .string fi, .string oc] 40) := ⟨_, rfl⟩
      have hb2 : Below wr.heap.size wr W2 := by rw [hW2]; exact alloc1 _ _
      have HB2 := Lib.hid (HBR.out.trans (hb2.mono HBR.out.size))
      have HO2 := Lib.hid (own_below HO.out hb2)
      have hx2 : W2.heap[wr.heap.size]? = some (.cells #[.string us, .int .i64 x0, .int .u64 (x1 : Int), .string ve, .string fi, .string oc] 40 (0, 0)) := by rw [hW2]; exact heap_alloc_new wr _
      obtain ⟨eb, heb⟩ : ∃ q, q = wr.heap.size := ⟨_, rfl⟩
      rw [← heb] at hx2
      have g0 := L.blk_cell hx2 0
      have g1 := L.blk_cell hx2 1
      have g2 := L.blk_cell hx2 2
      have g3 := L.blk_cell hx2 3
      have g4 := L.blk_cell hx2 4
      have g5 := L.blk_cell hx2 5
      simp only [List.getElem?_toArray, List.getElem?_cons_zero, List.getElem?_cons_succ] at g0 g1 g2 g3 g4 g5
      have HTW := Lib.hid (Tab.later HT1.out HB2.out)
      have hs2 := HB2.out.size
      clear hb2 hbk hx2 HO HBR hy
      go_upto_region 5 with fail
      rw [← hW2, ← heb]
      clear hW2 c0 c1 c2 c3 c4 c5 heb
      go_wp2_with fail
      with_reducible refine (HLK.out.call HTW.out).mono ?_
      rintro x w3 ⟨rfl, hb3⟩
      rw [← HY.out]
      have HB3 := Lib.hid (HB2.out.trans (hb3.mono hs2))
      have HO3 := Lib.hid (own_below HO2.out hb3)
      have hsz : (⟨y.toArray⟩ : ByteArray).size = y.length := by simp [ByteArray.size]
      have hs3 := HB3.out.size
      clear hb3 HB2 HO2 g0 g1 g2 g3 g4 g5 HTW hs2
      go_wp2_with (at_builtin; refine Lib.wpList_append_own_string _ rfl (.tmp 17) (.tmp 21) 35 9 rfl w1.heap.size 5 i0 Tryd.underlying35 Tryd.underlying9 hi0 hz0 hz1 hz2 _ t.length (byteCells t) rfl HO3.out ⟨y.toArray⟩ rfl ?c3 ?c4 hs3 ?_)
      case c3 => (try simp only [hsz]); simp only [maxLen]; omega
      case c4 => (try simp only [hsz]); omega
      intro v' w4 hown4 hg4 _
      have HB4 := Lib.hid (HB3.out.grown hg4 hs3 (own_base HO3.out))
      try simp only [hsz] at hown4
      rw [byteCells_str, ← byteCells_append, ← List.length_append] at hown4
      have HO4 := Lib.hid hown4
      clear hown4 hg4 hsz
      go_wp2_with fail
      go_roundg (s.length - (k + 1))
      case rel => exact ⟨k + 1, t ++ y, by omega, by go_num, Nat.le_refl _, Lib.hid HPK.out.symm, HO4, HB4⟩
      case measure => omega
    · obtain rfl : k = s.length := by omega
      go_wp2_with fail
      go_ret
      exact pr_of HO.out HTT.out (HB1.out.trans (HBR.out.mono HB1.out.size))
end Go.Proofs.YtbfohfmipfapdaaDoor.Au

namespace Go.Proofs.YtbfohfmipfapdaaDoor.Au
set_option linter.unusedVariables false
set_option linter.unusedSimpArgs false
open Go.RowKit
open T
open V (drawn_below grown_of)
open I (alloc1 own_at own_below)

set_option maxRecDepth 100000 in
set_option maxHeartbeats 8000000 in
theorem rprint_any {w : World} {b : Nat} {l s : List Et} {a0 : Int} {a1 : Nat} (hL : LgR w 50 b l) (hS : SeC 14 50 b l a0 a1 s) (hs : s.length ≤ 1000) (hok : ∀ e ∈ s, okE e = true) :
    Calls Tryd.prog 16 #[.pointer (some ⟨b, 0, none⟩), .agg #[.int .i64 a0, .int .u64 (a1 : Int)]] w (PrEnd w (prt s s.length)) := by
  have HPL := Lib.hid (fun (k : Nat) (h : k ≤ s.length) => prt_len hok k h)
  have HPA := Lib.hid (fun (k : Nat) (h : k < s.length) => prt_at h)
  have HOK := Lib.hid (fun (k : Nat) (h : k < s.length) => hok _ (List.getElem_mem h))
  have HP0 : Hid (prt s 0 = []) := Lib.hid rfl
  obtain ⟨W0, hW0⟩ : ∃ W : World, W = w.alloc (.cells #[.int .i64 a0, .int .u64 (a1 : Int)] 25) := ⟨_, rfl⟩
  have hB0 : Below w.heap.size w W0 := by rw [hW0]; exact alloc1 _ _
  have HSE := Lib.hid (hS.at (hL.below hB0))
  have HB0 := Lib.hid hB0
  have hx0 : W0.heap[w.heap.size]? = some (.cells #[.int .i64 a0, .int .u64 (a1 : Int)] 25 (0, 0)) := by rw [hW0]; exact heap_alloc_new w _
  have y0 := L.blk_cell hx0 0
  have y1 := L.blk_cell hx0 1
  simp only [List.getElem?_toArray, List.getElem?_cons_zero, List.getElem?_cons_succ] at y0 y1
  obtain ⟨xb, hxb⟩ : ∃ q, q = w.heap.size := ⟨_, rfl⟩
  rw [← hxb] at y0 y1
  clear hL hB0 hok hS hx0
  go_enter Tryd.func16, Tryd.ntmps16
  go_upto_region 1 with fail
  rw [← hW0, ← hxb]
  clear hW0 hxb
  go_wp2_with fail
  with_reducible refine HSE.out.mono ?_
  rintro e w1 ⟨SA, sc, rfl, hso, hb1⟩
  have HI := Lib.hid (ets_own hso)
  have HB1 := Lib.hid (HB0.out.trans (hb1.mono HB0.out.size))
  clear hso hb1 HSE HB0 y0 y1
  go_wp2_with fail
  go_loopg [5, 7] s.length (fun q v i wr => ∃ (k : Nat) (z : ByteArray), k ≤ s.length ∧ i = .int .i64 k ∧ v = .string z ∧ s.length - k ≤ q ∧ Hid (z.data.toList = prt s k) ∧ Hid (Below w1.heap.size w1 wr))
  case atStart => exact ⟨0, ⟨#[]⟩, Nat.zero_le _, rfl, rfl, by omega, Lib.hid (by rw [HP0.out]), Lib.hid (Below.refl _ _)⟩
  case round =>
    obtain ⟨k, z, hk, rfl, rfl, hm, HZK, HBR⟩ := hrel
    by_cases hlt : k < s.length
    · obtain ⟨bk, off, hAe, hbk, c0, c1, c2, c3, c4, c5⟩ := et_at (HI.out.below HBR.out) hlt
      subst hAe
      have h0k : (0 : Int) ≤ (k : Int) := by omega
      have hki : (k : Int) < (s.length : Int) := by omega
      have hok := HOK.out k hlt
      have HPK := HPA.out k hlt
      rw [← HZK.out] at HPK
      have hzl : z.data.toList.length ≤ 10000000 := by rw [HZK.out]; have := HPL.out k hk; omega
      obtain ⟨e, he⟩ : ∃ e, e = s[k]'hlt := ⟨_, rfl⟩
      rw [← he] at c0 c1 c2 c3 c4 c5 HPK hok
      clear he
      obtain ⟨us, lv, ct, ve, fi, oc⟩ := e
      simp only at c0 c1 c2 c3 c4 c5
      obtain ⟨q1, q2, q3, q4⟩ := okE_name hok
      have s1 := nm_size q1
      have s2 := nm_size q2
      have s3 := nm_size q3
      have s4 := nm_size q4
      simp only at s1 s2 s3 s4
      have hl1 := P.decimal_length ((k : Int) + 1)
      have hl2 := L.print_len lv ct
      unfold ln at HPK
      simp only at HPK
      have hd1 : (⟨(P.decimal ((k : Int) + 1)).toArray⟩ : ByteArray).data.toList = P.decimal ((k : Int) + 1) := by simp
      have hd2 : (⟨(L.print lv ct).toArray⟩ : ByteArray).data.toList = L.print lv ct := by simp
      have HDA : Hid (∀ W, Calls Tryd.prog 28 #[.int .i64 ((k : Int) + 1)] W fun e w' => e = .returned (.string ⟨(P.decimal ((k : Int) + 1)).toArray⟩) ∧ Below W.heap.size W w') := Lib.hid (fun W => refDecimal_any _ W)
      have HDB : Hid (∀ W, Calls Tryd.prog 29 #[.agg #[.int .i64 lv, .int .u64 (ct : Int)]] W fun e w' => e = .returned (.string ⟨(L.print lv ct).toArray⟩) ∧ Below W.heap.size W w') := Lib.hid (fun W => L.refPrint_any lv ct W)
      rw [← hd1, ← hd2] at HPK
      rw [← hd1] at hl1
      rw [← hd2] at hl2
      clear hd1 hd2 q1 q2 q3 q4 hok
      generalize (⟨(P.decimal ((k : Int) + 1)).toArray⟩ : ByteArray) = dS at *
      generalize (⟨(L.print lv ct).toArray⟩ : ByteArray) = pS at *
      obtain ⟨z1, r1, f1⟩ := cat2 (a := z) (b := dS) (by omega)
      have l1 := congrArg List.length f1
      rw [List.length_append] at l1
      obtain ⟨z2, r2, f2⟩ := cat2 (a := z1) (b := (⟨#[32]⟩ : ByteArray)) (by have : (⟨#[32]⟩ : ByteArray).data.toList.length = 1 := rfl; omega)
      have l2 := congrArg List.length f2
      rw [List.length_append, show (⟨#[32]⟩ : ByteArray).data.toList.length = 1 from rfl] at l2
      obtain ⟨z3, r3, f3⟩ := cat2 (a := z2) (b := us) (by omega)
      have l3 := congrArg List.length f3
      rw [List.length_append] at l3
      obtain ⟨z4, r4, f4⟩ := cat2 (a := z3) (b := (⟨#[32]⟩ : ByteArray)) (by have : (⟨#[32]⟩ : ByteArray).data.toList.length = 1 := rfl; omega)
      have l4 := congrArg List.length f4
      rw [List.length_append, show (⟨#[32]⟩ : ByteArray).data.toList.length = 1 from rfl] at l4
      obtain ⟨z5, r5, f5⟩ := cat2 (a := z4) (b := pS) (by omega)
      have l5 := congrArg List.length f5
      rw [List.length_append] at l5
      obtain ⟨z6, r6, f6⟩ := cat2 (a := z5) (b := (⟨#[32]⟩ : ByteArray)) (by have : (⟨#[32]⟩ : ByteArray).data.toList.length = 1 := rfl; omega)
      have l6 := congrArg List.length f6
      rw [List.length_append, show (⟨#[32]⟩ : ByteArray).data.toList.length = 1 from rfl] at l6
      obtain ⟨z7, r7, f7⟩ := cat2 (a := z6) (b := ve) (by omega)
      have l7 := congrArg List.length f7
      rw [List.length_append] at l7
      obtain ⟨z8, r8, f8⟩ := cat2 (a := z7) (b := (⟨#[32]⟩ : ByteArray)) (by have : (⟨#[32]⟩ : ByteArray).data.toList.length = 1 := rfl; omega)
      have l8 := congrArg List.length f8
      rw [List.length_append, show (⟨#[32]⟩ : ByteArray).data.toList.length = 1 from rfl] at l8
      obtain ⟨z9, r9, f9⟩ := cat2 (a := z8) (b := fi) (by omega)
      have l9 := congrArg List.length f9
      rw [List.length_append] at l9
      obtain ⟨z10, r10, f10⟩ := cat2 (a := z9) (b := (⟨#[32]⟩ : ByteArray)) (by have : (⟨#[32]⟩ : ByteArray).data.toList.length = 1 := rfl; omega)
      have l10 := congrArg List.length f10
      rw [List.length_append, show (⟨#[32]⟩ : ByteArray).data.toList.length = 1 from rfl] at l10
      obtain ⟨z11, r11, f11⟩ := cat2 (a := z10) (b := oc) (by omega)
      have l11 := congrArg List.length f11
      rw [List.length_append] at l11
      obtain ⟨z12, r12, f12⟩ := cat2 (a := z11) (b := (⟨#[10]⟩ : ByteArray)) (by have : (⟨#[10]⟩ : ByteArray).data.toList.length = 1 := rfl; omega)
      have l12 := congrArg List.length f12
      rw [List.length_append, show (⟨#[10]⟩ : ByteArray).data.toList.length = 1 from rfl] at l12
      have HZ := Lib.hid (show z12.data.toList = prt s (k + 1) by rw [HPK, f12, f11, f10, f9, f8, f7, f6, f5, f4, f3, f2, f1]; simp)
      have HSX : Hid (∀ W, Below wr.heap.size wr W → (W.cell? ⟨bk, off + k * 6, none⟩ = some (.string us) ∧ W.cell? ⟨bk, off + k * 6 + 1, none⟩ = some (.int .i64 lv) ∧ W.cell? ⟨bk, off + k * 6 + 2, none⟩ = some (.int .u64 (ct : Int)) ∧ W.cell? ⟨bk, off + k * 6 + 3, none⟩ = some (.string ve) ∧ W.cell? ⟨bk, off + k * 6 + 4, none⟩ = some (.string fi) ∧ W.cell? ⟨bk, off + k * 6 + 5, none⟩ = some (.string oc) ∧ Below wr.heap.size wr W)) := Lib.hid (fun W h => ⟨(h.cell (p := ⟨bk, off + k * 6, none⟩) hbk).trans c0, (h.cell (p := ⟨bk, off + k * 6 + 1, none⟩) hbk).trans c1, (h.cell (p := ⟨bk, off + k * 6 + 2, none⟩) hbk).trans c2, (h.cell (p := ⟨bk, off + k * 6 + 3, none⟩) hbk).trans c3, (h.cell (p := ⟨bk, off + k * 6 + 4, none⟩) hbk).trans c4, (h.cell (p := ⟨bk, off + k * 6 + 5, none⟩) hbk).trans c5, h⟩)
      have HFS : Hid (∀ W, (W.cell? ⟨bk, off + k * 6, none⟩ = some (.string us) ∧ W.cell? ⟨bk, off + k * 6 + 1, none⟩ = some (.int .i64 lv) ∧ W.cell? ⟨bk, off + k * 6 + 2, none⟩ = some (.int .u64 (ct : Int)) ∧ W.cell? ⟨bk, off + k * 6 + 3, none⟩ = some (.string ve) ∧ W.cell? ⟨bk, off + k * 6 + 4, none⟩ = some (.string fi) ∧ W.cell? ⟨bk, off + k * 6 + 5, none⟩ = some (.string oc) ∧ Below wr.heap.size wr W) → Below wr.heap.size wr W) := Lib.hid (fun W h => h.2.2.2.2.2.2)
      have hw1 : IntKind.i64.wrap ((k : Int) + 1) = (k : Int) + 1 := by rw [IntKind.wrap_i64]; omega
      have HD1 : Hid (∀ W, Below wr.heap.size wr W → Calls Tryd.prog 28 #[.int .i64 ((k : Int) + 1)] W fun e w' => e = .returned (.string dS) ∧ Below wr.heap.size wr w') := Lib.hid (fun W h => (HDA.out W).mono fun e w' h' => ⟨h'.1, h.trans (h'.2.mono h.size)⟩)
      have HD2 : Hid (∀ W, Below wr.heap.size wr W → Calls Tryd.prog 29 #[.agg #[.int .i64 lv, .int .u64 (ct : Int)]] W fun e w' => e = .returned (.string pS) ∧ Below wr.heap.size wr w') := Lib.hid (fun W h => (HDB.out W).mono fun e w' h' => ⟨h'.1, h.trans (h'.2.mono h.size)⟩)
      clear f1 f2 f3 f4 f5 f6 f7 f8 f9 f10 f11 f12 l1 l2 l3 l4 l5 l6 l7 l8 l9 l10 l11 l12 hl1 hl2 s1 s2 s3 s4 HPK HDA HDB hzl HZK
      go_upto_region 6 with fail
      clear c0 c1 c2 c3 c4 c5
      go_region_held3 (fun W => W.cell? ⟨bk, off + k * 6, none⟩ = some (.string us) ∧ W.cell? ⟨bk, off + k * 6 + 1, none⟩ = some (.int .i64 lv) ∧ W.cell? ⟨bk, off + k * 6 + 2, none⟩ = some (.int .u64 (ct : Int)) ∧ W.cell? ⟨bk, off + k * 6 + 3, none⟩ = some (.string ve) ∧ W.cell? ⟨bk, off + k * 6 + 4, none⟩ = some (.string fi) ∧ W.cell? ⟨bk, off + k * 6 + 5, none⟩ = some (.string oc) ∧ Below wr.heap.size wr W)
        (first | exact HSX.out _ ((Below.refl _ _).drew) | exact HSX.out _ (by assumption))
        (first | (go_at_call 28; with_reducible refine (HD1.out _ (HFS.out _ (by assumption))).mono ?_; rintro r wq ⟨rfl, hbq⟩; have hsq := hbq.size) | (go_at_call 29; with_reducible refine (HD2.out _ (HFS.out _ (by assumption))).mono ?_; rintro r wq ⟨rfl, hbq⟩; have hsq := hbq.size))
      all_goals
        go_wp2_with fail
        go_roundg (s.length - (k + 1))
        case rel => exact ⟨k + 1, z12, by omega, by go_num, rfl, Nat.le_refl _, HZ, Lib.hid (HBR.out.trans (Below.mono (by first | assumption | exact HFS.out _ (by assumption)) HBR.out.size))⟩
        case measure => omega
    · obtain rfl : k = s.length := by omega
      obtain ⟨cap1, wz, hcv, hbz, hltz, hcz, hinz⟩ := conv_str z wr
      have HBZ := Lib.hid (HB1.out.trans ((HBR.out.trans (hbz.mono HBR.out.size)).mono HB1.out.size))
      have HIN := Lib.hid hinz
      have HLT := Lib.hid hltz
      have HSZ := Lib.hid (show z.size = (prt s s.length).length by rw [Lib.size_eq, HZK.out])
      clear hbz hinz hltz hcz
      go_wp2_with fail
      go_ret
      rw [HSZ.out]
      exact ⟨_, cap1, rfl, fun _ => ⟨_, 0, rfl, HLT.out, by rw [← HZK.out]; exact HIN.out⟩, HBZ.out⟩
end Go.Proofs.YtbfohfmipfapdaaDoor.Au
