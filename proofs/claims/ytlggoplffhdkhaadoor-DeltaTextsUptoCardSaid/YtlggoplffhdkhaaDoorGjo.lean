/-
  The contracts of the reference's Cats and Of for labels.
  The reference's way to read a label's text, sign by sign, and that it reads what the program's way reads.
  The contracts of the reference's Number, Name and Decimal: they come to the same plain functions as the program's own.
  The contract of the reference's Decimal, by induction over the number.
  The contract of the reference's Print for labels.
-/
import Derived.Test.YtlggoplffhdkhaaDoorGjd
import Derived.RegionTactic
import Derived.BigRegion
import Derived.Deep.RegionWith
import Derived.Test.YtlggoplffhdkhaaDoorGjh
import Derived.Test.YtlggoplffhdkhaaDoorGjm
namespace Go.Proofs.YtlggoplffhdkhaaDoor.L
open Go.RowKit
open T

set_option maxHeartbeats 1000000 in
set_option maxRecDepth 100000 in
theorem refCats_any (l : Int) (c : Nat) (w : World) :
    Calls Tryd.prog 53 #[lab l c] w fun e w' => ∃ v, e = .returned v ∧ w'.ownsRow w.heap.size 3 1 v (catsTo c 64).length (intCells (catsTo c 64)) ∧ Below w.heap.size w w' := by
  obtain ⟨i0, hi0, hz0, hz1, hz2⟩ := info_parts infoInt
  go_enter Tryd.func53, Tryd.ntmps53
  go_wp2_with fail
  go_loopg [3, 4] 64 (fun n v i wr => ∃ k : Nat, k ≤ 64 ∧ i = .int .i64 k ∧ 64 - k ≤ n ∧ wr.ownsRow (w.heap.size + 1) 3 1 v (catsTo c k).length (intCells (catsTo c k)) ∧ Hid (wr.heap[w.heap.size]? = some (.cells #[.int .i64 l, .int .u64 (c : Int)] 37 (0, 0))) ∧ Below w.heap.size w wr)
  case atStart =>
    obtain ⟨b0, b1⟩ := two_blocks w (.cells #[.int .i64 l, .int .u64 (c : Int)] 37) (.cells #[] 3)
    exact ⟨0, by omega, rfl, by omega, ⟨by simp [catsTo, intCells], .inr ⟨w.heap.size + 1, 0, #[], by simp [catsTo], Nat.le_refl _, b1, by simp [catsTo], by simp [maxLen], rfl, by simp [catsTo, intCells]⟩⟩, Lib.hid b0, ((Below.refl _ _).alloc (Nat.le_refl _) _).alloc (by simp) _⟩
  case round =>
    obtain ⟨k, hk, rfl, hn, hown, HB0, hbel⟩ := hrel
    have c0 := (res_cells HB0.out).1
    have c1 := (res_cells HB0.out).2
    have hwr : w.heap.size + 1 ≤ wr.heap.size := blk_lt HB0.out
    by_cases hlt : k < 64
    · have hlen := catsTo_len c k
      cases hbit : c.testBit k with
      | true =>
        have HC := Lib.hid (catsTo_yes hbit)
        have HH := Lib.hid (hs_is (l := l) hlt hbit)
        clear hbit
        generalize catsTo c k = xs at *
        go_wp2_with fail
        with_reducible refine (HH.out.call _).mono ?_
        rintro r w1 ⟨rfl, hb1⟩
        have hbe1 : Below w.heap.size w w1 := hbel.trans (hb1.mono hbel.size)
        have HB1 := Lib.hid ((hb1.block w.heap.size (by omega)).trans HB0.out)
        have hw1 := blk_lt HB1.out
        have hown1 : w1.ownsRow (w.heap.size + 1) 3 1 u3 xs.length (intCells xs) := hown.kept (row := none) ⟨hb1.os, hb1.tape, hb1.output, hb1.size, fun i hi _ => hb1.block i hi⟩ (by
          rcases hh : u3.ownBlock with _ | b
          · exact .inl rfl
          · exact .inr (by simp))
        clear c0 c1 hb1 HB0 hown
        go_wp2_with (at_builtin; refine wpList_append_own _ rfl (.tmp 13) (.tmp 15) 80 rfl (w.heap.size + 1) 3 i0 _ 1 8 Tryd.underlying80 hi0 hz0 hz1 hz2 rfl (by decide) _ xs.length (intCells xs) rfl ?ho ⟨w1.heap.size, 0, none⟩ 1 1 [.int .i64 (k : Int)] rfl rfl ?c1 ?c2 ?c3 ?c4 ?c5 ?_)
        case ho => exact hown1.alloc _
        case c1 => exact cell_one_new _ _ _
        case c2 => intro u hu; simp at hu; rcases hu with rfl; rfl
        case c3 => simp only [maxLen]; omega
        case c4 => omega
        case c5 => simp; omega
        intro v' w2 hown2 hg2 _
        have hbe2 : Below w.heap.size w w2 := (hbe1.alloc hbe1.size _).grown hg2 (by simp; omega) (fun k hk => by have := own_base hown1 k hk; omega)
        have hb2 : w2.heap[w.heap.size]? = some (.cells #[.int .i64 l, .int .u64 (c : Int)] 37 (0, 0)) := by
          rw [hg2.block w.heap.size (by simp; omega) (fun e => by have := own_base hown1 _ e.symm; omega)]
          exact (Below.heap_alloc w1 _ _ (by omega)).trans HB1.out
        have HB2 := Lib.hid hb2
        rw [← intCells_snoc] at hown2
        have hl1 : (xs ++ [k]).length = xs.length + 1 := by simp
        rw [← hl1, ← HC.out] at hown2
        clear hl1 hown1 hb2
        go_wp2_with fail
        go_roundg (64 - (k + 1))
        case measure => omega
        case rel => exact ⟨k + 1, by omega, by go_num, Nat.le_refl _, hown2, HB2, hbe2⟩
      | false =>
        have HC := Lib.hid (catsTo_no hbit)
        have HH := Lib.hid (hs_is (l := l) hlt hbit)
        clear hbit
        go_wp2_with fail
        with_reducible refine (HH.out.call _).mono ?_
        rintro r w1 ⟨rfl, hb1⟩
        have hbe1 : Below w.heap.size w w1 := hbel.trans (hb1.mono hbel.size)
        have HB1 := Lib.hid ((hb1.block w.heap.size (by omega)).trans HB0.out)
        have hown1 : w1.ownsRow (w.heap.size + 1) 3 1 u3 (catsTo c k).length (intCells (catsTo c k)) := hown.kept (row := none) ⟨hb1.os, hb1.tape, hb1.output, hb1.size, fun i hi _ => hb1.block i hi⟩ (by
          rcases hh : u3.ownBlock with _ | b
          · exact .inl rfl
          · exact .inr (by simp))
        rw [← HC.out] at hown1
        clear c0 c1 hb1 HB0 hown
        go_wp2_with fail
        go_roundg (64 - (k + 1))
        case measure => omega
        case rel => exact ⟨k + 1, by omega, by go_num, Nat.le_refl _, hown1, HB1, hbe1⟩
    · obtain rfl : k = 64 := by omega
      have hown' := own_more hown (Nat.le_succ w.heap.size)
      clear hown c0 c1
      go_wp2_with fail
      go_ret
      exact ⟨_, rfl, hown', hbel⟩

theorem or_add {c m : Nat} (h : c.testBit m = false) : c ||| 2 ^ m = c + 2 ^ m := by
  have e : c = c / 2 ^ (m + 1) * 2 ^ (m + 1) + c % 2 ^ m := by
    have h1 : c / 2 ^ m % 2 = 0 := by
      rw [Nat.testBit_eq_decide_div_mod_eq] at h
      have := of_decide_eq_false h
      omega
    have h2 := Nat.div_add_mod c (2 ^ m)
    rw [Nat.pow_succ, ← Nat.div_div_eq_div_mul]
    generalize c / 2 ^ m = y at *
    have h3 : y = y / 2 * 2 := by omega
    calc c = 2 ^ m * y + c % 2 ^ m := h2.symm
      _ = y / 2 * (2 ^ m * 2) + c % 2 ^ m := by
        congr 1
        rw [Nat.mul_comm (2 ^ m) 2, ← Nat.mul_assoc, ← h3, Nat.mul_comm]
  have hp := Nat.pow_pos (n := m) (show 0 < 2 by omega)
  have hlo : c % 2 ^ m < 2 ^ m := Nat.mod_lt _ hp
  generalize c / 2 ^ (m + 1) * 2 ^ (m + 1) = hi, hhi : c / 2 ^ (m + 1) * 2 ^ (m + 1) = hi at e
  have hm : hi % 2 ^ (m + 1) = 0 := by rw [← hhi]; exact Nat.mul_mod_left _ _
  generalize c % 2 ^ m = lo at e hlo
  have h1 := nat_join (m + 1) hi lo hm (by rw [Nat.pow_succ]; omega)
  have h2 := nat_join m (2 ^ m) lo (Nat.mod_self _) hlo
  have h3 := nat_join (m + 1) hi (2 ^ m + lo) hm (by rw [Nat.pow_succ]; omega)
  rw [e, ← h1, Nat.or_assoc, Nat.or_comm lo, h2, h3, h1]
  omega

end Go.Proofs.YtlggoplffhdkhaaDoor.L

namespace Go.Proofs.YtlggoplffhdkhaaDoor.L
open T

/-- What the reference does with a number that ends. -/
def refStep (level : Bool) (last : Int) (n : Nat) : Bool := if level then decide (n ≤ 15) else decide (n ≤ 63) && decide (last < (n : Int))
def refP (level : Bool) (L C : Nat) (last : Int) (now : List UInt8) : List UInt8 → Option (Nat × Nat)
  | [] => (P.number now).bind fun n => if refStep level last n then (if level then some (n, C) else some (L, C + 2 ^ n)) else none
  | x :: r => if x ≠ 58 ∧ x ≠ 44 then refP level L C last (now ++ [x]) r
    else (P.number now).bind fun n => if (x == 58) = level then (if refStep level last n then (if level then refP false n C last [] r else refP false L (C + 2 ^ n) n [] r) else none) else none

theorem catsText_one (n : Nat) : catsText [n] = P.decimal (n : Int) := by
  unfold catsText Lib.join
  simp
theorem catsText_cons (n m : Nat) (r : List Nat) : catsText (n :: m :: r) = P.decimal (n : Int) ++ 44 :: catsText (m :: r) := by
  unfold catsText Lib.join
  rw [List.map_cons, List.map_cons, List.intercalate_cons_cons]
  simp
def Rise (last : Int) (xs : List Nat) : Prop := xs.Pairwise (· < ·) ∧ ∀ x ∈ xs, last < (x : Int) ∧ x ≤ 63
theorem add_or {C n : Nat} {last : Int} (hC : ∀ i, C.testBit i = true → (i : Int) ≤ last) (hn : last < (n : Int)) : C + 2 ^ n = C ||| 2 ^ n := by
  refine (or_add ?_).symm
  cases h : C.testBit n with
  | false => rfl
  | true => have := hC n h; omega
theorem bits_or {C n : Nat} {last : Int} (hC : ∀ i, C.testBit i = true → (i : Int) ≤ last) (hn : last < (n : Int)) : ∀ i, (C ||| 2 ^ n).testBit i = true → (i : Int) ≤ (n : Int) := by
  intro i hi
  rw [Nat.testBit_or, Nat.testBit_two_pow, Bool.or_eq_true, decide_eq_true_iff] at hi
  rcases hi with hi | hi
  · have := hC i hi; omega
  · omega

/-- What is read behind the level. -/
theorem refP_sound (L : Nat) : ∀ (r now : List UInt8) (C : Nat) (last : Int) (L' C' : Nat), (∀ i, C.testBit i = true → (i : Int) ≤ last) → refP false L C last now r = some (L', C') →
    L' = L ∧ ∃ xs, xs ≠ [] ∧ Rise last xs ∧ now ++ r = catsText xs ∧ C' = xs.foldl (fun a x => a ||| 2 ^ x) C := by
  intro r
  induction r with
  | nil =>
    intro now C last L' C' hC h
    rw [refP, Option.bind_eq_some_iff] at h
    obtain ⟨n, hn, h⟩ := h
    split at h
    · next hs =>
      simp [refStep] at hs
      simp at h
      refine ⟨h.1.symm, [n], by simp, ⟨by simp, fun x hx => ?_⟩, ?_, ?_⟩
      · simp at hx; subst hx; exact ⟨hs.2, hs.1⟩
      · rw [catsText_one, List.append_nil]; exact (P.decimal_number _ _ hn).symm
      · rw [← h.2, add_or hC hs.2]; rfl
    · cases h
  | cons x r ih =>
    intro now C last L' C' hC h
    rw [refP] at h
    split at h
    · have := ih _ C last L' C' hC h
      simpa using this
    · next hx =>
      rw [Option.bind_eq_some_iff] at h
      obtain ⟨n, hn, h⟩ := h
      split at h
      · next hb =>
        split at h
        · next hs =>
          simp [refStep] at hs
          simp only [Bool.false_eq_true, if_false] at h
          rw [add_or hC hs.2] at h
          obtain ⟨hL, xs, hne, hrise, htext, hfold⟩ := ih [] _ _ L' C' (bits_or hC hs.2) h
          have hx44 : x = 44 := by
            have : ¬ x = 58 := by simpa using hb
            by_cases h44 : x = 44
            · exact h44
            · exact absurd ⟨this, h44⟩ hx
          refine ⟨hL, n :: xs, by simp, ⟨List.pairwise_cons.2 ⟨fun y hy => by have := (hrise.2 y hy).1; omega, hrise.1⟩, fun y hy => ?_⟩, ?_, hfold⟩
          · rcases List.mem_cons.1 hy with rfl | hy
            · exact ⟨hs.2, hs.1⟩
            · have := hrise.2 y hy; exact ⟨by omega, this.2⟩
          · obtain ⟨m, t, rfl⟩ : ∃ m t, xs = m :: t := by
              cases xs with
              | nil => exact absurd rfl hne
              | cons m t => exact ⟨m, t, rfl⟩
            rw [catsText_cons, ← htext, hx44, P.decimal_number _ _ hn, List.nil_append]
        · cases h
      · cases h
theorem sorted_eq : ∀ (us vs : List Nat), us.Pairwise (· < ·) → vs.Pairwise (· < ·) → (∀ x, x ∈ us ↔ x ∈ vs) → us = vs
  | [], [], _, _, _ => rfl
  | [], b :: _, _, _, h => absurd ((h b).2 (by simp)) (by simp)
  | a :: _, [], _, _, h => absurd ((h a).1 (by simp)) (by simp)
  | a :: us, b :: vs, ha, hb, h => by
    rw [List.pairwise_cons] at ha hb
    have e : a = b := by
      have h1 := (h a).1 (by simp)
      have h2 := (h b).2 (by simp)
      rcases List.mem_cons.1 h1 with h1 | h1
      · exact h1
      · rcases List.mem_cons.1 h2 with h2 | h2
        · exact h2.symm
        · have := ha.1 b h2; have := hb.1 a h1; omega
    subst e
    rw [sorted_eq us vs ha.2 hb.2 fun x => ⟨fun hx => ?_, fun hx => ?_⟩]
    · rcases List.mem_cons.1 ((h x).1 (by simp [hx])) with rfl | h'
      · have := ha.1 x hx; omega
      · exact h'
    · rcases List.mem_cons.1 ((h x).2 (by simp [hx])) with rfl | h'
      · have := hb.1 x hx; omega
      · exact h'
theorem cats_sorted (c : Nat) : (catsTo c 64).Pairwise (· < ·) := by
  unfold catsTo
  exact List.Pairwise.filter _ List.pairwise_lt_range
theorem cats_mem (c x : Nat) : x ∈ catsTo c 64 ↔ x < 64 ∧ c.testBit x = true := by
  unfold catsTo
  rw [List.mem_filter, List.mem_range]
theorem cats_of_fold {xs : List Nat} {last : Int} (h : Rise last xs) : catsTo (xs.foldl (fun a x => a ||| 2 ^ x) 0) 64 = xs := by
  refine sorted_eq _ _ (cats_sorted _) h.1 fun x => ?_
  rw [cats_mem, fold_bit]
  simp only [Nat.zero_testBit, Bool.false_or, decide_eq_true_iff]
  exact ⟨fun h => h.2, fun hx => ⟨by have := (h.2 x hx).2; omega, hx⟩⟩
theorem fold_small {xs : List Nat} : ∀ {c : Nat}, c < 18446744073709551616 → (∀ x ∈ xs, x ≤ 63) → xs.foldl (fun a x => a ||| 2 ^ x) c < 18446744073709551616 := by
  induction xs with
  | nil => intro c hc _; exact hc
  | cons x r ih =>
    intro c hc h
    rw [List.foldl_cons]
    exact ih (or_small hc (Nat.pow_lt_pow_right (a := 2) (n := 64) (by omega) (by have := h x (by simp); omega))) (fun y hy => h y (by simp [hy]))

/-- The whole of a text that is read is the label's text. -/
theorem refP_whole : ∀ (l now : List UInt8) (n c : Nat), refP true 0 0 (-1) now l = some (n, c) → print n c = now ++ l ∧ c < 18446744073709551616 ∧ n ≤ 15 := by
  intro l
  induction l with
  | nil =>
    intro now n c h
    rw [refP, Option.bind_eq_some_iff] at h
    obtain ⟨m, hm, h⟩ := h
    split at h
    · next hs =>
      simp [refStep] at hs
      simp at h
      obtain ⟨rfl, rfl⟩ := h
      refine ⟨?_, by omega, hs⟩
      have : catsTo 0 64 = [] := by decide
      rw [print, if_pos this, List.append_nil]; exact P.decimal_number _ _ hm
    · cases h
  | cons x r ih =>
    intro now n c h
    rw [refP] at h
    split at h
    · have := ih _ n c h
      simpa using this
    · next hx =>
      rw [Option.bind_eq_some_iff] at h
      obtain ⟨m, hm, h⟩ := h
      split at h
      · next hb =>
        split at h
        · next hs =>
          simp [refStep] at hs
          simp only [if_true] at h
          obtain ⟨rfl, xs, hne, hrise, htext, hfold⟩ := refP_sound m r [] 0 (-1) n c (fun i hi => by simp at hi) h
          have hx58 : x = 58 := by simpa using hb
          have hc := cats_of_fold hrise
          rw [← hfold] at hc
          refine ⟨?_, by rw [hfold]; exact fold_small (by omega) (fun x hx => (hrise.2 x hx).2), hs⟩
          rw [print, hc, if_neg hne, ← htext, P.decimal_number _ _ hm, hx58]
          simp
        · cases h
      · cases h

theorem refP_digits (level : Bool) (L C : Nat) (last : Int) : ∀ (ds now r : List UInt8), (∀ x ∈ ds, x ≠ 58 ∧ x ≠ 44) → refP level L C last now (ds ++ r) = refP level L C last (now ++ ds) r
  | [], now, r, _ => by simp
  | x :: ds, now, r, h => by
    rw [List.cons_append, refP, if_pos (h x (by simp)), refP_digits level L C last ds _ r (fun y hy => h y (by simp [hy]))]
    simp
theorem dec_plain (n : Int) : ∀ x ∈ P.decimal n, x ≠ 58 ∧ x ≠ 44 := fun x hx => ⟨dec_no n 58 (.inl rfl) x hx, dec_no n 44 (.inr rfl) x hx⟩
theorem num_dec (n : Nat) (h : n ≤ 63) : P.number (P.decimal (n : Int)) = some n := by
  have := P.number_decimal (n : Int) (by omega) (by omega)
  rwa [Int.toNat_natCast] at this
theorem refP_nums (L : Nat) : ∀ (xs : List Nat) (C : Nat) (last : Int), xs ≠ [] → Rise last xs → (∀ i, C.testBit i = true → (i : Int) ≤ last) →
    refP false L C last [] (catsText xs) = some (L, xs.foldl (fun a x => a ||| 2 ^ x) C)
  | [n], C, last, _, hr, hC => by
    have hn := hr.2 n (by simp)
    have h := refP_digits false L C last (P.decimal (n : Int)) [] [] (dec_plain _)
    rw [List.append_nil, List.nil_append] at h
    rw [catsText_one, h, refP, num_dec n hn.2, Option.bind_some, if_pos (by simp [refStep, hn.1, hn.2])]
    simp only [Bool.false_eq_true, if_false]
    rw [add_or hC hn.1]; rfl
  | n :: m :: r, C, last, _, hr, hC => by
    have hn := hr.2 n (by simp)
    have hp := List.pairwise_cons.1 hr.1
    have h := refP_digits false L C last (P.decimal (n : Int)) [] (44 :: catsText (m :: r)) (dec_plain _)
    rw [List.nil_append] at h
    rw [catsText_cons, h, refP, if_neg (by decide), num_dec n hn.2, Option.bind_some, if_pos (by decide), if_pos (by simp [refStep, hn.1, hn.2])]
    simp only [Bool.false_eq_true, if_false]
    rw [add_or hC hn.1, refP_nums L (m :: r) _ n (by simp) ⟨hp.2, fun x hx => ⟨by have := hp.1 x hx; omega, (hr.2 x (by simp [hx])).2⟩⟩ (bits_or hC hn.1)]
    rfl
theorem refP_print (n c : Nat) (hn : n ≤ 15) (hc : c < 18446744073709551616) : refP true 0 0 (-1) [] (print n c) = some (n, c) := by
  have hb := cats_back c hc
  unfold print
  split
  · next he =>
    have h := refP_digits true 0 0 (-1) (P.decimal (n : Int)) [] [] (dec_plain _)
    rw [List.append_nil, List.nil_append] at h
    rw [h, refP, num_dec n (by omega), Option.bind_some, if_pos (by simp [refStep, hn])]
    rw [he] at hb
    simp only [List.foldl_nil] at hb
    simp [hb]
  · next he =>
    have h := refP_digits true 0 0 (-1) (P.decimal (n : Int)) [] (58 :: catsText (catsTo c 64)) (dec_plain _)
    rw [List.nil_append] at h
    rw [show P.decimal (n : Int) ++ [58] ++ catsText (catsTo c 64) = P.decimal (n : Int) ++ 58 :: catsText (catsTo c 64) by simp, h, refP, if_neg (by decide), num_dec n (by omega), Option.bind_some, if_pos (by decide), if_pos (by simp [refStep, hn]), if_pos rfl,
      refP_nums n (catsTo c 64) 0 (-1) he ⟨cats_sorted c, fun x hx => by have := (cats_mem c x).1 hx; omega⟩ (fun i hi => by simp at hi), hb]

/-- The reference's way reads what the program's way reads. -/
theorem refP_parse (l : List UInt8) : refP true 0 0 (-1) [] l = parse l := by
  cases hp : parse l with
  | some q =>
    obtain ⟨n, c⟩ := q
    obtain ⟨h1, h2, h3⟩ := print_parse hp
    rw [← h1]; exact refP_print n c h3 h2
  | none =>
    cases hr : refP true 0 0 (-1) [] l with
    | none => rfl
    | some q =>
      obtain ⟨n, c⟩ := q
      obtain ⟨h1, h2, h3⟩ := refP_whole l [] n c hr
      rw [List.nil_append] at h1
      have := parse_print (n : Int) c h2 (by unfold rightB; rw [decide_eq_true (by omega), decide_eq_true (by omega)]; rfl)
      rw [h1, hp] at this
      cases this
end Go.Proofs.YtlggoplffhdkhaaDoor.L

namespace Go.Proofs.YtlggoplffhdkhaaDoor.T
open Go.RowKit

theorem val_bad (s : ByteArray) (k n : Nat) (hk : k < s.size) (h : (s[k].toNat : Int) < 48 ∨ 57 < (s[k].toNat : Int)) : P.valGo (s.data.toList.drop k) n = none := by
  have hl : k < s.data.toList.length := by rw [← Lib.size_eq]; exact hk
  rw [List.drop_eq_getElem_cons hl, P.valGo, if_pos (by rw [byte s k hk hl]; omega)]
theorem val_on (s : ByteArray) (k n : Nat) (hk : k < s.size) (h1 : 48 ≤ (s[k].toNat : Int)) (h2 : (s[k].toNat : Int) ≤ 57) :
    P.valGo (s.data.toList.drop k) n = P.valGo (s.data.toList.drop (k + 1)) (10 * n + (s[k].toNat - 48)) := by
  have hl : k < s.data.toList.length := by rw [← Lib.size_eq]; exact hk
  have e := byte s k hk hl
  rw [List.drop_eq_getElem_cons hl, P.valGo, if_neg (by rw [e]; omega), e]
theorem val_end (s : ByteArray) (n : Nat) : P.valGo (s.data.toList.drop s.size) n = some n := by
  rw [Lib.size_eq, List.drop_length, P.valGo]
theorem pow_bound {n d k : Nat} (h : n < 10 ^ k) (hd : d < 10) (hk : k < 10) : 10 * n + d < 10 ^ (k + 1) ∧ 10 * n + d ≤ 9999999999 := by
  have h1 : 10 * n + d < 10 ^ (k + 1) := by rw [Nat.pow_succ]; omega
  have h2 : 10 ^ (k + 1) ≤ 10 ^ 10 := Nat.pow_le_pow_right (by omega) (by omega)
  omega
theorem number_val (s : ByteArray) (h : 0 < s.size) (h0 : s.size ≤ 1 ∨ ¬ s[0].toNat = 48) : P.number s.data.toList = P.upTo (P.valGo s.data.toList 0) := by
  rw [number_go s h (by rcases h0 with h0 | h0; exact .inl (by omega); exact .inr h0), P.numGo_val _ _ (by omega)]
theorem upTo_none : P.upTo none = none := rfl
theorem upTo_big (n : Nat) (h : 2147483647 < n) : P.upTo (some n) = none := by simp [P.upTo, h]
theorem upTo_in (n : Nat) (h : n ≤ 2147483647) : P.upTo (some n) = some n := by simp [P.upTo]; omega

set_option maxHeartbeats 1000000 in
theorem refNumber_any (s : ByteArray) (w : World) :
    Calls Tryd.prog 44 #[.string s] w fun e w' => e = .returned (numVal (P.number s.data.toList)) ∧ w = w' := by
  by_cases h0 : s.size = 0
  · have Hn := Lib.hid (number_nil s h0)
    have h0' : ((s.size : Int) == 0) = true := beq_iff_eq.2 (by omega)
    clear h0
    go_enter Tryd.func44, Tryd.ntmps44
    go_wp2
    go_ret2
    exact ⟨ret_of (by rw [Hn.out]; rfl), rfl⟩
  have h0' : ((s.size : Int) == 0) = false := beq_eq_false_iff_ne.2 (by omega)
  by_cases h10 : 10 < s.size
  · have Hn := Lib.hid (P.number_long s.data.toList (by rw [← Lib.size_eq]; exact h10))
    clear h0
    go_enter Tryd.func44, Tryd.ntmps44
    go_wp2
    go_ret2
    exact ⟨ret_of (by rw [Hn.out]; rfl), rfl⟩
  have hpos : 0 < s.size := by omega
  clear h0
  by_cases h1 : 1 < s.size
  · by_cases hz : s[0].toNat = 48
    · have Hn := Lib.hid (number_zero s h1 hz)
      have hz' : ((s[0].toNat : Int) == 48) = true := beq_iff_eq.2 (by omega)
      clear hz
      go_enter Tryd.func44, Tryd.ntmps44
      go_wp2
      go_ret2
      exact ⟨ret_of (by rw [Hn.out]; rfl), rfl⟩
    · have Hn := Lib.hid (number_val s hpos (.inr hz))
      have hz' : ((s[0].toNat : Int) == 48) = false := beq_eq_false_iff_ne.2 (by omega)
      clear hz
      go_enter Tryd.func44, Tryd.ntmps44
      go_wp2
      go_loop [4, 5] (fun t i => ∃ k n : Nat, k ≤ s.size ∧ i = .int .i64 k ∧ t = .int .i64 n ∧ n ≤ 9999999999 ∧ Hid (n < 10 ^ k) ∧ Hid (P.valGo s.data.toList 0 = P.valGo (s.data.toList.drop k) n)) (fun _ i => s.size - (intOf i).toNat)
      case atStart => exact ⟨0, 0, Nat.zero_le _, rfl, rfl, by omega, Lib.hid (by decide), Lib.hid rfl⟩
      case round =>
        obtain ⟨k, n, hk, rfl, rfl, hn, HP, HR⟩ := hrel
        by_cases hlt : k < s.size
        · go_wp2
          · go_ret2
            exact ⟨ret_of (by rw [Hn.out, HR.out, val_bad s k n hlt (by omega), upTo_none]; rfl), rfl⟩
          · have hon := val_on s k n hlt (by omega) (by omega)
            have hpb := pow_bound (d := s[k].toNat - 48) HP.out (by omega) (by omega)
            go_round
            case rel => exact ⟨k + 1, 10 * n + (s[k].toNat - 48), by omega, by go_num, by go_num, hpb.2, Lib.hid hpb.1, Lib.hid (HR.out.trans hon)⟩
            case measure => simp [intOf]; omega
          · go_ret2
            exact ⟨ret_of (by rw [Hn.out, HR.out, val_bad s k n hlt (by omega), upTo_none]; rfl), rfl⟩
        · obtain rfl : s.size = k := by omega
          by_cases hb : 2147483647 < n
          · go_wp2
            go_ret2
            exact ⟨ret_of (by rw [Hn.out, HR.out, val_end, upTo_big n hb]; rfl), rfl⟩
          · go_wp2
            go_ret2
            exact ⟨ret_of (by rw [Hn.out, HR.out, val_end, upTo_in n (by omega)]; rfl), rfl⟩
  · have Hn := Lib.hid (number_val s hpos (.inl (by omega)))
    go_enter Tryd.func44, Tryd.ntmps44
    go_wp2
    go_loop [4, 5] (fun t i => ∃ k n : Nat, k ≤ s.size ∧ i = .int .i64 k ∧ t = .int .i64 n ∧ n ≤ 9999999999 ∧ Hid (n < 10 ^ k) ∧ Hid (P.valGo s.data.toList 0 = P.valGo (s.data.toList.drop k) n)) (fun _ i => s.size - (intOf i).toNat)
    case atStart => exact ⟨0, 0, Nat.zero_le _, rfl, rfl, by omega, Lib.hid (by decide), Lib.hid rfl⟩
    case round =>
      obtain ⟨k, n, hk, rfl, rfl, hn, HP, HR⟩ := hrel
      by_cases hlt : k < s.size
      · go_wp2
        · go_ret2
          exact ⟨ret_of (by rw [Hn.out, HR.out, val_bad s k n hlt (by omega), upTo_none]; rfl), rfl⟩
        · have hon := val_on s k n hlt (by omega) (by omega)
          have hpb := pow_bound (d := s[k].toNat - 48) HP.out (by omega) (by omega)
          go_round
          case rel => exact ⟨k + 1, 10 * n + (s[k].toNat - 48), by omega, by go_num, by go_num, hpb.2, Lib.hid hpb.1, Lib.hid (HR.out.trans hon)⟩
          case measure => simp [intOf]; omega
        · go_ret2
          exact ⟨ret_of (by rw [Hn.out, HR.out, val_bad s k n hlt (by omega), upTo_none]; rfl), rfl⟩
      · obtain rfl : s.size = k := by omega
        by_cases hb : 2147483647 < n
        · go_wp2
          go_ret2
          exact ⟨ret_of (by rw [Hn.out, HR.out, val_end, upTo_big n hb]; rfl), rfl⟩
        · go_wp2
          go_ret2
          exact ⟨ret_of (by rw [Hn.out, HR.out, val_end, upTo_in n (by omega)]; rfl), rfl⟩

end Go.Proofs.YtlggoplffhdkhaaDoor.T

namespace Go.Proofs.YtlggoplffhdkhaaDoor.T
open Go.RowKit

theorem bcell {W w1 : World} (hb : Below W.heap.size W w1) (b o : Nat) (h : b < W.heap.size) : w1.cell? ⟨b, o, none⟩ = W.cell? ⟨b, o, none⟩ := hb.cell (p := ⟨b, o, none⟩) h
theorem conv_one (c : UInt8) (W : World) (a : Nat) (h : W.cell? ⟨a, 0, none⟩ = some (.int .u8 (c.toNat : Int))) : (convert 43 9 (.slice (some ⟨a, 0, none⟩) 1 1)).run Tryd.prog W = .ok (.string ⟨#[c]⟩) W :=
  conv_bytes W a 0 1 1 [c] rfl (fun j hj => by
    match j, hj with
    | 0, _ => simpa using h)
theorem dec_small (m : Nat) (h : m < 10) : Lib.decDigits m = [UInt8.ofNat (48 + m)] := Lib.decDigits_one h
theorem dec_big (m : Nat) (h : ¬ m < 10) : Lib.decDigits m = Lib.decDigits (m / 10) ++ [UInt8.ofNat (48 + m % 10)] := by
  conv => lhs; rw [Lib.decDigits, dif_neg h]
theorem str_append (l r : List UInt8) : (⟨l.toArray⟩ : ByteArray) ++ ⟨r.toArray⟩ = ⟨(l ++ r).toArray⟩ := by
  apply ByteArray.ext
  simp

set_option maxHeartbeats 1000000 in
set_option maxRecDepth 100000 in
theorem refDecimal_in : ∀ (m : Nat) (w : World), m ≤ 2147483647 →
    Calls Tryd.prog 36 #[.int .i64 m] w fun e w' => e = .returned (.string ⟨(Lib.decDigits m).toArray⟩) ∧ Below w.heap.size w w' := by
  intro m
  induction m using Nat.strongRecOn with
  | ind m ih =>
    intro w hm
    have IH := Lib.hid ih
    clear ih
    by_cases h : m < 10
    · have HD := Lib.hid (dec_small m h)
      have hd := P.digit m h
      generalize UInt8.ofNat (48 + m) = c at *
      have hcv := conv_one c
      have hd' : (c.toNat : Int) = 48 + (m : Int) := by omega
      clear hd
      rw [hd'] at hcv
      clear hd'
      go_enter Tryd.func36, Tryd.ntmps36
      go_wp2_with fail
      go_ret
      exact ⟨ret_of (by rw [HD.out]; rfl), (Below.refl _ _).alloc (Nat.le_refl _) _⟩
    · have HD := Lib.hid (dec_big m h)
      have hd := P.digit (m % 10) (by omega)
      have ihq := IH.out (m / 10) (by omega)
      clear IH
      generalize UInt8.ofNat (48 + m % 10) = c at *
      have hln : (Lib.decDigits (m / 10)).length ≤ 10 := by
        have := P.decimal_length ((m / 10 : Nat) : Int)
        rwa [P.decimal_in _ (by omega) (by omega), Int.toNat_natCast] at this
      generalize Lib.decDigits (m / 10) = l at *
      have hadd : (⟨l.toArray⟩ : ByteArray).size + (⟨#[c]⟩ : ByteArray).size ≤ 9223372036854775807 := by
        rw [list_size]; show l.length + 1 ≤ _; omega
      have hcv := conv_one c
      have hd' : (c.toNat : Int) = IntKind.u8.wrap (IntKind.i64.wrap (48 + (m : Int).tmod 10)) := by
        rw [Int.tmod_eq_emod_of_nonneg (by omega), IntWalk.i64_in _ (by omega), IntKind.wrap_u8]; omega
      clear hd
      rw [hd'] at hcv
      clear hd'
      have IQ : Hid (∀ w : World, Calls Tryd.prog 36 #[.int .i64 (IntKind.i64.wrap ((m : Int) / 10))] w fun e w' => e = .returned (.string ⟨l.toArray⟩) ∧ Below w.heap.size w w') := Lib.hid fun w => by
        have := ihq w (by omega)
        rwa [show ((m / 10 : Nat) : Int) = IntKind.i64.wrap ((m : Int) / 10) by rw [IntWalk.i64_in _ (by omega)]; omega] at this
      clear ihq
      go_enter Tryd.func36, Tryd.ntmps36
      go_wp2_with fail
      go_region_with (go_at_call 36; with_reducible refine (IQ.out _).mono ?_; rintro e w' ⟨rfl, hbq⟩; have hbc := bcell hbq; have hbz := hbq.size)
      all_goals
        go_wp2_with fail
        go_ret
        refine ⟨ret_of (by rw [HD.out, ← str_append]; rfl), ?_⟩
        first
          | exact (((Below.refl w.heap.size w).drew).trans (hbq.mono (Nat.le_refl _))).alloc hbz _
          | exact (((Below.refl w.heap.size w).drew.alloc (Nat.le_refl _) _)).trans (hbq.mono (by simp))
          | exact (((Below.refl w.heap.size w).alloc (Nat.le_refl _) _).drew).trans (hbq.mono (by simp))

theorem refDecimal_any (n : Int) (w : World) :
    Calls Tryd.prog 36 #[.int .i64 n] w fun e w' => e = .returned (.string ⟨(P.decimal n).toArray⟩) ∧ Below w.heap.size w w' := by
  by_cases h0 : n < 0
  · have HD := Lib.hid (P.decimal_out n (.inl h0))
    go_enter Tryd.func36, Tryd.ntmps36
    go_wp2_with fail
    go_ret
    exact ⟨ret_of (by rw [HD.out]; rfl), Below.refl _ _⟩
  by_cases h1 : 2147483647 < n
  · have HD := Lib.hid (P.decimal_out n (.inr h1))
    go_enter Tryd.func36, Tryd.ntmps36
    go_wp2_with fail
    go_ret
    exact ⟨ret_of (by rw [HD.out]; rfl), Below.refl _ _⟩
  · obtain ⟨m, rfl⟩ := Int.eq_ofNat_of_zero_le (show 0 ≤ n by omega)
    rw [P.decimal_in _ (by omega) (by omega), Int.toNat_natCast]
    exact refDecimal_in m w (by omega)
end Go.Proofs.YtlggoplffhdkhaaDoor.T

namespace Go.Proofs.YtlggoplffhdkhaaDoor.L
open Go.RowKit
open T

/-- What stands behind the level. -/
def catsPre (xs : List Nat) : List UInt8 := if xs = [] then [] else 58 :: catsText xs
theorem catsText_snoc : ∀ (ys : List Nat) (x : Nat), ys ≠ [] → catsText (ys ++ [x]) = catsText ys ++ 44 :: P.decimal (x : Int)
  | [y], x, _ => by rw [List.cons_append, List.nil_append, catsText_cons, catsText_one, catsText_one]
  | y :: z :: r, x, _ => by
    have ih := catsText_snoc (z :: r) x (by simp)
    rw [List.cons_append, List.cons_append, catsText_cons, ← List.cons_append, ih, catsText_cons]
    simp
theorem catsPre_zero {xs : List Nat} (h : 0 < xs.length) : catsPre (xs.take 1) = ([58] : List UInt8) ++ P.decimal ((xs[0] : Nat) : Int) := by
  cases xs with
  | nil => simp at h
  | cons x r => simp [catsPre, catsText_one]
theorem catsPre_succ {xs : List Nat} {k : Nat} (hk : k < xs.length) (h0 : 0 < k) : catsPre (xs.take (k + 1)) = catsPre (xs.take k) ++ [44] ++ P.decimal ((xs[k] : Nat) : Int) := by
  have hne : xs.take k ≠ [] := fun e => by
    have := congrArg List.length e
    rw [List.length_take, List.length_nil] at this; omega
  rw [List.take_succ_eq_append_getElem hk, catsPre, if_neg (fun e => by have := congrArg List.length e; rw [List.length_append] at this; simp at this), catsText_snoc _ _ hne, catsPre, if_neg hne]
  simp
theorem catsPre_len (xs : List Nat) : (catsPre xs).length ≤ 11 * xs.length + 1 := by
  have := join_len xs
  unfold catsPre
  split
  · simp
  · simp; omega
theorem print_pre (l : Int) (c : Nat) : print l c = P.decimal l ++ catsPre (catsTo c 64) := by
  unfold print catsPre
  split
  · simp
  · simp

set_option maxHeartbeats 1000000 in
set_option maxRecDepth 100000 in
theorem refPrint_any (l : Int) (c : Nat) (w : World) :
    Calls Tryd.prog 38 #[lab l c] w fun e w' => e = .returned (.string ⟨(print l c).toArray⟩) ∧ Below w.heap.size w w' := by
  have HC := Lib.hid (fun w => refCats_any l c w)
  have HD := Lib.hid (fun (n : Int) (w : World) => refDecimal_any n w)
  have hlen := catsTo_len c 64
  have HP := Lib.hid (print_pre l c)
  have hdl := P.decimal_length l
  have HDL := Lib.hid (fun n : Int => P.decimal_length n)
  generalize print l c = res at *
  generalize catsTo c 64 = xs at *
  go_enter Tryd.func38, Tryd.ntmps38
  go_wp2_with fail
  with_reducible refine (HD.out l _).mono ?_
  rintro e w1 ⟨rfl, hb1⟩
  have HK0 := Lib.hid ((hb1.block w.heap.size (by simp)).trans (heap_alloc_new w _))
  have hbe1 : Below w.heap.size w w1 := ((Below.refl _ _).alloc (Nat.le_refl _) _).trans (hb1.mono (by simp))
  have d0 := (res_cells HK0.out).1
  have d1 := (res_cells HK0.out).2
  clear hb1
  go_wp2_with fail
  with_reducible refine (HC.out _).mono ?_
  rintro e w2 ⟨v, rfl, hown, hb2⟩
  obtain ⟨A, cap, hv, hcap, hA⟩ := own_form hown
  subst hv
  have hbe2 : Below w.heap.size w w2 := hbe1.trans (hb2.mono hbe1.size)
  have HA := Lib.hid hA
  clear hA hown hb2 HC d0 d1 HK0
  generalize P.decimal l = dl at *
  go_wp2_with fail
  go_loopg [3, 5] xs.length (fun n o i wr => ∃ k : Nat, k ≤ xs.length ∧ i = .int .i64 k ∧ xs.length - k ≤ n ∧ o = .string ⟨(dl ++ catsPre (xs.take k)).toArray⟩ ∧ Below w2.heap.size w2 wr)
  case atStart => exact ⟨0, Nat.zero_le _, rfl, by omega, by simp [catsPre], Below.refl _ _⟩
  case round =>
    obtain ⟨k, hk, rfl, hn, rfl, hbw⟩ := hrel
    by_cases hlt : k < xs.length
    · obtain ⟨g, hAe, hg0, hg1, hcells⟩ := HA.out (by omega)
      subst hAe
      have hcell : wr.cell? ⟨g, k, none⟩ = some (.int .i64 ((xs[k] : Nat) : Int)) := (hbw.cell (p := ⟨g, k, none⟩) hg1).trans (hcells k _ (by simp [intCells, List.getElem?_eq_getElem hlt]))
      clear hcells
      have hpl := catsPre_len (xs.take k)
      rw [List.length_take] at hpl
      have hxl := HDL.out ((xs[k] : Nat) : Int)
      by_cases h0 : k = 0
      · have hb0 : ((k : Int) == 0) = true := beq_iff_eq.2 (by omega)
        have HS := Lib.hid (show catsPre (xs.take (k + 1)) = ([58] : List UInt8) ++ P.decimal ((xs[k] : Nat) : Int) by subst h0; exact catsPre_zero hlt)
        have HZ := Lib.hid (show catsPre (xs.take k) = [] by subst h0; simp [catsPre])
        rw [HZ.out, List.append_nil]
        generalize xs[k] = x at *
        clear h0 hpl
        have ha1 : (⟨dl.toArray⟩ : ByteArray).size + (⟨#[58]⟩ : ByteArray).size ≤ 9223372036854775807 := by
          show dl.toArray.size + 1 ≤ _; simp; omega
        have ha2 : ((⟨dl.toArray⟩ : ByteArray) ++ ⟨#[58]⟩).size + (⟨(P.decimal (x : Int)).toArray⟩ : ByteArray).size ≤ 9223372036854775807 := by
          rw [ByteArray.size_append]; show dl.toArray.size + 1 + (P.decimal (x : Int)).toArray.size ≤ _; simp; omega
        go_wp2_with fail
        with_reducible refine (HD.out (x : Int) _).mono ?_
        rintro e w3 ⟨rfl, hb3⟩
        have hbw3 : Below w2.heap.size w2 w3 := hbw.trans (hb3.mono hbw.size)
        generalize P.decimal (x : Int) = ds at *
        clear hcell hb3
        go_wp2_with fail
        go_roundg (xs.length - (k + 1))
        case measure => omega
        case rel => exact ⟨k + 1, by omega, by go_num, Nat.le_refl _, by rw [HS.out, ← List.append_assoc, ← cat, ← cat], hbw3⟩
      · have hb0 : ((k : Int) == 0) = false := beq_eq_false_iff_ne.2 (by omega)
        have HS := Lib.hid (catsPre_succ hlt (by omega))
        generalize xs[k] = x at *
        generalize catsPre (xs.take k) = pre at *
        clear h0
        have ha1 : (⟨(dl ++ pre).toArray⟩ : ByteArray).size + (⟨#[44]⟩ : ByteArray).size ≤ 9223372036854775807 := by
          show (dl ++ pre).toArray.size + 1 ≤ _; simp; omega
        have ha2 : ((⟨(dl ++ pre).toArray⟩ : ByteArray) ++ ⟨#[44]⟩).size + (⟨(P.decimal (x : Int)).toArray⟩ : ByteArray).size ≤ 9223372036854775807 := by
          rw [ByteArray.size_append]; show (dl ++ pre).toArray.size + 1 + (P.decimal (x : Int)).toArray.size ≤ _; simp; omega
        have HE := Lib.hid (show ((⟨(dl ++ pre).toArray⟩ : ByteArray) ++ ⟨#[44]⟩) ++ ⟨(P.decimal (x : Int)).toArray⟩ = ⟨(dl ++ (pre ++ [44] ++ P.decimal (x : Int))).toArray⟩ by
          rw [show (⟨#[44]⟩ : ByteArray) = ⟨[44].toArray⟩ from rfl, cat, cat]; simp)
        generalize dl ++ pre = cur at *
        go_wp2_with fail
        with_reducible refine (HD.out (x : Int) _).mono ?_
        rintro e w3 ⟨rfl, hb3⟩
        have hbw3 : Below w2.heap.size w2 w3 := hbw.trans (hb3.mono hbw.size)
        generalize P.decimal (x : Int) = ds at *
        clear hcell hb3
        go_wp2_with fail
        go_roundg (xs.length - (k + 1))
        case measure => omega
        case rel => exact ⟨k + 1, by omega, by go_num, Nat.le_refl _, by rw [HS.out, ← HE.out], hbw3⟩
    · obtain rfl : k = xs.length := by omega
      have hbr : Below w.heap.size w wr := hbe2.trans (hbw.mono hbe2.size)
      rw [List.take_length]
      go_wp2_with fail
      go_ret
      exact ⟨ret_of (by rw [HP.out]; rfl), hbr⟩
end Go.Proofs.YtlggoplffhdkhaaDoor.L
