/-
  Plain facts: the text of a right label is read as that label; of a label that may not be, nothing is read.
  The contracts of the reader's name and label.
  The contracts of the reference's Has, Right and Below for labels.
  The contracts of the reference's Cats and Of for labels.
  The reference's way to read a label's text, sign by sign, and that it reads what the program's way reads.
  The contract of the reader's label, where its word is a label.
  The contract of the reader's label, all in one; of takeHidden.
-/
import Derived.Test.YtadhhamfikpimaaDoorGc
import Derived.RegionTactic
import Derived.BigRegion
import Derived.Deep.RegionWith
import Derived.Test.YtadhhamfikpimaaDoorGb
import Derived.Test.YtadhhamfikpimaaDoorGa
namespace Go.Proofs.YtadhhamfikpimaaDoor.L
open T

/-- Digits and the sign for a number that has no text. -/
theorem dec_no (n : Int) (c : UInt8) (hc : c = 58 ∨ c = 44) : ∀ x ∈ P.decimal n, x ≠ c := by
  have hd : ∀ u : Nat, ∀ x ∈ Lib.decDigits u, 48 ≤ x.toNat ∧ x.toNat ≤ 57 := by
    intro u
    induction u using Nat.strongRecOn with
    | ind u ih =>
      intro x hx
      rw [Lib.decDigits] at hx
      split at hx
      · next h =>
        rw [List.mem_singleton.1 hx, P.digit u h]; omega
      · next h =>
        rw [List.mem_append] at hx
        rcases hx with hx | hx
        · exact ih (u / 10) (by omega) x hx
        · rw [List.mem_singleton.1 hx, P.digit _ (by omega)]; omega
  intro x hx e
  subst e
  unfold P.decimal at hx
  split at hx
  · simp at hx; rcases hc with h | h <;> rw [hx] at h <;> exact absurd h (by decide)
  · have := hd _ x hx
    rcases hc with h | h <;> rw [h] at this <;> simp at this
theorem split_no {c : UInt8} : ∀ {l : List UInt8}, (∀ x ∈ l, x ≠ c) → split c l = none
  | [], _ => rfl
  | x :: r, h => by
    rw [split, if_neg (h x (by simp)), split_no (fun y hy => h y (by simp [hy]))]; rfl
theorem split_at {c : UInt8} : ∀ {l r : List UInt8}, (∀ x ∈ l, x ≠ c) → split c (l ++ c :: r) = some (l, r)
  | [], r, _ => by simp [split]
  | x :: t, r, h => by
    rw [List.cons_append, split, if_neg (h x (by simp)), split_at (fun y hy => h y (by simp [hy]))]; rfl
theorem nums_text : ∀ (xs : List Nat), xs ≠ [] → (∀ x ∈ xs, x ≤ 2147483647) → nums (catsText xs) = some xs
  | [x], _, h => by
    unfold catsText Lib.join
    simp only [List.map_cons, List.map_nil]
    have e : [44].intercalate [P.decimal (x : Int)] = P.decimal (x : Int) := by simp
    rw [e, nums_none (split_no (dec_no _ 44 (.inr rfl))), P.number_decimal _ (by omega) (by have := h x (by simp); omega)]
    simp
  | x :: y :: r, _, h => by
    have ih := nums_text (y :: r) (by simp) (fun z hz => h z (by simp [hz]))
    have e : catsText (x :: y :: r) = P.decimal (x : Int) ++ 44 :: catsText (y :: r) := by
      unfold catsText Lib.join
      rw [List.map_cons, List.map_cons, List.intercalate_cons_cons]
      simp
    rw [e, nums_some (split_at (dec_no _ 44 (.inr rfl))), P.number_decimal _ (by omega) (by have := h x (by simp); omega), ih]
    simp

/-- The categories put together again. -/
theorem ofGo_cats (xs : List Nat) : ∀ c, (∀ x ∈ xs, x < 64) → ofGo (xs.map fun x : Nat => (x : Int)) c = some (xs.foldl (fun a x => a ||| 2 ^ x) c) := by
  induction xs with
  | nil => intro c _; rfl
  | cons x r ih =>
    intro c h
    have hx := h x (by simp)
    rw [List.map_cons, ofGo, if_neg (by omega), Int.toNat_natCast, ih _ (fun y hy => h y (by simp [hy]))]
    rfl
theorem fold_bit (xs : List Nat) : ∀ (c i : Nat), (xs.foldl (fun a x => a ||| 2 ^ x) c).testBit i = (c.testBit i || decide (i ∈ xs)) := by
  induction xs with
  | nil => intro c i; simp
  | cons x r ih =>
    intro c i
    rw [List.foldl_cons, ih, Nat.testBit_or, Nat.testBit_two_pow]
    by_cases e : x = i
    · subst e; simp
    · have : ¬ i = x := fun h => e h.symm
      simp [e, this]
theorem cats_back (c : Nat) (hc : c < 18446744073709551616) : (catsTo c 64).foldl (fun a x => a ||| 2 ^ x) 0 = c := by
  apply Nat.eq_of_testBit_eq
  intro i
  rw [fold_bit]
  simp only [Nat.zero_testBit, Bool.false_or]
  unfold catsTo
  by_cases hi : i < 64
  · cases hb : c.testBit i with
    | true => simp [List.mem_filter, hi, hb]
    | false => simp [List.mem_filter, hb]
  · rw [Nat.testBit_lt_two_pow (Nat.lt_of_lt_of_le hc (Nat.pow_le_pow_right (n := 2) (by omega) (show 64 ≤ i by omega)))]
    simp [List.mem_filter]; omega
theorem cats_small (c : Nat) : ∀ x ∈ catsTo c 64, x < 64 := fun x hx => by
  unfold catsTo at hx
  rw [List.mem_filter, List.mem_range] at hx
  exact hx.1

theorem parse_print (l : Int) (c : Nat) (hc : c < 18446744073709551616) (h : rightB l = true) : parse (print l c) = some (l.toNat, c) := by
  have hr := h
  unfold rightB at h
  rw [Bool.and_eq_true, decide_eq_true_iff, decide_eq_true_iff] at h
  obtain ⟨n, rfl⟩ := Int.eq_ofNat_of_zero_le h.1
  have hnum : P.number (P.decimal (n : Int)) = some n := by
    have := P.number_decimal (n : Int) (by omega) (by omega)
    rwa [Int.toNat_natCast] at this
  have hof : ofAll (n : Int) ((catsTo c 64).map fun x : Nat => (x : Int)) = some c := by
    rw [ofAll, hr, if_pos rfl, ofGo_cats _ 0 (cats_small c), cats_back c hc]
  rw [Int.toNat_natCast]
  unfold parse
  by_cases he : catsTo c 64 = []
  · have hp : print (n : Int) c = P.decimal (n : Int) := by rw [print, if_pos he]
    have hsp : split 58 (print (n : Int) c) = none := by rw [hp]; exact split_no (dec_no _ 58 (.inl rfl))
    rw [he] at hof
    rw [hsp]
    show (P.number (print (n : Int) c)).bind _ = _
    rw [hp, hnum]
    show parseRest _ n (some []) = _
    rw [parseRest, Option.bind_some]
    simp only [hof, Option.bind_some]
    rw [← hp, if_pos rfl]
  · have hp : print (n : Int) c = P.decimal (n : Int) ++ 58 :: catsText (catsTo c 64) := by rw [print, if_neg he]; simp
    have hsp : split 58 (print (n : Int) c) = some (P.decimal (n : Int), catsText (catsTo c 64)) := by rw [hp]; exact split_at (dec_no _ 58 (.inl rfl))
    have hns := nums_text (catsTo c 64) he (fun x hx => by have := cats_small c x hx; omega)
    rw [hsp]
    show (P.number (P.decimal (n : Int))).bind _ = _
    rw [hnum]
    show parseRest _ n (nums (catsText (catsTo c 64))) = _
    rw [hns, parseRest, Option.bind_some, hof, Option.bind_some, if_pos rfl]

theorem parse_not (l : Int) (c : Nat) (h : rightB l = false) : parse (print l c) = none := by
  have key : ∀ (o : Option (List Nat)), (P.number (P.decimal l)).bind (fun n => parseRest (print l c) n o) = none := by
    intro o
    by_cases hl : l < 0 ∨ 2147483647 < l
    · rw [P.number_untold l hl]; rfl
    · obtain ⟨n, rfl⟩ := Int.eq_ofNat_of_zero_le (show 0 ≤ l by omega)
      have hnum := P.number_decimal (n : Int) (by omega) (by omega)
      rw [Int.toNat_natCast] at hnum
      rw [hnum, Option.bind_some, parseRest]
      cases o with
      | none => rfl
      | some xs =>
        rw [Option.bind_some, ofAll, h]; rfl
  unfold parse
  by_cases he : catsTo c 64 = []
  · have hp : print l c = P.decimal l := by rw [print, if_pos he]
    have hsp : split 58 (print l c) = none := by rw [hp]; exact split_no (dec_no _ 58 (.inl rfl))
    rw [hsp]
    have := key (some [])
    rwa [← hp] at this
  · have hp : print l c = P.decimal l ++ 58 :: catsText (catsTo c 64) := by rw [print, if_neg he]; simp
    have hsp : split 58 (print l c) = some (P.decimal l, catsText (catsTo c 64)) := by rw [hp]; exact split_at (dec_no _ 58 (.inl rfl))
    rw [hsp]
    exact key _
theorem print_parse {l : List UInt8} {n c : Nat} (h : parse l = some (n, c)) : print n c = l ∧ c < 18446744073709551616 ∧ n ≤ 15 := by
  have key : ∀ (m : Nat) (o : Option (List Nat)), parseRest l m o = some (n, c) → print n c = l ∧ c < 18446744073709551616 ∧ n ≤ 15 := by
    intro m o hr
    rw [parseRest, Option.bind_eq_some_iff] at hr
    obtain ⟨xs, _, hr⟩ := hr
    rw [Option.bind_eq_some_iff] at hr
    obtain ⟨c', hc', hr⟩ := hr
    split at hr
    · next hp =>
      injection hr with hr
      injection hr with h1 h2
      subst h1 h2
      refine ⟨hp, ofAll_small hc', ?_⟩
      unfold ofAll at hc'
      split at hc'
      · next hb => unfold rightB at hb; rw [Bool.and_eq_true, decide_eq_true_iff, decide_eq_true_iff] at hb; omega
      · cases hc'
    · cases hr
  unfold parse at h
  split at h
  · rw [Option.bind_eq_some_iff] at h
    obtain ⟨m, _, h⟩ := h
    exact key m _ h
  · rw [Option.bind_eq_some_iff] at h
    obtain ⟨m, _, h⟩ := h
    exact key m _ h
theorem print_len (l : Int) (c : Nat) : (print l c).length ≤ 1000 := by
  have h1 := P.decimal_length l
  have h2 := join_len (catsTo c 64)
  have h3 := catsTo_len c 64
  unfold print
  split
  · omega
  · simp; omega
end Go.Proofs.YtadhhamfikpimaaDoor.L

namespace Go.Proofs.YtadhhamfikpimaaDoor.O
open Go.RowKit
open T
variable {w w' : World} {base rb mb n : Nat} {p : Pol} {f : List UInt8 → Int} {line : Int} {uv fv : Value}

theorem wpStill_skip {P : Program} {ops : Array Oper} {w : World} {Q : Act → Prop} {a : Act} {o : Oper} {rest : List Oper} (h : Region.wanted o (yielded ops a.tmps) = false) (hk : wpStill P ops w Q rest (a.put o.dst undef)) : wpStill P ops w Q (o :: rest) a := by
  rw [wpStill, h]
  exact hk
theorem drew_below (w : World) : Below w.heap.size w w.drew := (Below.refl _ _).drew

set_option maxRecDepth 100000 in
set_option maxHeartbeats 400000 in
theorem name_bad (h : Rd w base rb mb n p f line uv fv) (g m cap : Nat) (a1 : List UInt8) (hm : 2 ≤ m) (c1 : w.cell? ⟨g, 1, none⟩ = some (.string ⟨a1.toArray⟩)) (hs : a1.length ≤ maxLen) (hn : P.name a1 = false) :
    Calls Tryd.prog 108 #[.pointer (some ⟨rb, 0, none⟩), .slice (some ⟨g, 0, none⟩) m cap] w (Fell w base rb line) := by
  have hN := name_any ⟨a1.toArray⟩ w (by rw [list_size]; exact hs)
  rw [list_data, hn] at hN
  have HN := Lib.hid hN
  have H := Lib.hid h
  clear hN h hn
  go_enter Tryd.func108, Tryd.ntmps108
  go_wp2_with fail
  with_reducible refine (HN.out).mono ?_
  rintro e w' ⟨rfl, rfl⟩
  go_wp2_with fail
  with_reducible refine (need_no _).mono ?_
  rintro e w' ⟨rfl, rfl⟩
  go_wp2_with fail
  exact ⟨rfl, H.out.fell (Below.refl _ _)⟩

set_option maxRecDepth 100000 in
set_option maxHeartbeats 400000 in
theorem name_known (h : Rd w base rb mb n p f line uv fv) (g m cap : Nat) (a0 a1 : List UInt8) (hm : 2 ≤ m) (c0 : w.cell? ⟨g, 0, none⟩ = some (.string ⟨a0.toArray⟩)) (c1 : w.cell? ⟨g, 1, none⟩ = some (.string ⟨a1.toArray⟩)) (hs0 : a0.length ≤ 4194304) (hs : a1.length ≤ 4194304) (hn : P.name a1 = true) (hf : f (a0 ++ 32 :: a1) ≠ 0) :
    Calls Tryd.prog 108 #[.pointer (some ⟨rb, 0, none⟩), .slice (some ⟨g, 0, none⟩) m cap] w (Fell w base rb line) := by
  have hN := name_any ⟨a1.toArray⟩ w (by rw [list_size]; unfold maxLen; omega)
  rw [list_data, hn] at hN
  have HN := Lib.hid hN
  obtain ⟨x0, hx0⟩ : ∃ x : ByteArray, x = ⟨a0.toArray⟩ := ⟨_, rfl⟩
  obtain ⟨x1, hx1⟩ : ∃ x : ByteArray, x = ⟨a1.toArray⟩ := ⟨_, rfl⟩
  obtain ⟨x2, hx2⟩ : ∃ x : ByteArray, x = ⟨(a0 ++ [32]).toArray⟩ := ⟨_, rfl⟩
  obtain ⟨x3, hx3⟩ : ∃ x : ByteArray, x = ⟨(a0 ++ 32 :: a1).toArray⟩ := ⟨_, rfl⟩
  have ad1 : ∀ w : World, (Op.stringOp .add x0 ⟨#[32]⟩).run Tryd.prog w = .ok (.string x2) w := fun w => by
    rw [hx0, hx2]; exact run_string_add_lists w a0 [32] (by omega) (by simp)
  have ad2 : ∀ w : World, (Op.stringOp .add x2 x1).run Tryd.prog w = .ok (.string x3) w := fun w => by
    rw [hx1, hx2, hx3, run_string_add_lists w (a0 ++ [32]) a1 (by simp; omega) (by omega)]; simp
  have HS := Lib.hid (say_no (h.below (drew_below w)) ⟨(a0 ++ 32 :: a1).toArray⟩ (by rw [list_size]; simp [maxLen]; omega) (by rw [list_data]; exact hf))
  have H := Lib.hid h
  rw [← hx3] at HS
  rw [← hx1] at HN c1
  rw [← hx0] at c0
  clear hN h hn hf hx0 hx1 hx2 hx3
  have h0m : 0 < m := by omega
  have h1m : (1 : Int) < m := by omega
  go_enter Tryd.func108, Tryd.ntmps108
  go_wp2_with fail
  with_reducible refine (HN.out).mono ?_
  rintro e w' ⟨rfl, rfl⟩
  go_wp2_with fail
  with_reducible refine (need_yes _).mono ?_
  rintro e w' ⟨rfl, rfl⟩
  go_wp2_with fail
  go_still_tail 9, (by kernel_rfl)
  change wpList _ _ _ _ _ w.drew
  go_wp2_with fail
  with_reducible refine (HS.out).mono ?_
  rintro e w' ⟨rfl, rfl⟩
  go_wp2_with fail
  exact ⟨rfl, (H.out.below (drew_below w)).fell (Below.refl _ _).drew⟩
set_option maxRecDepth 100000 in
set_option maxHeartbeats 400000 in
theorem name_yes (h : Rd w base rb mb n p f line uv fv) (g m cap : Nat) (a0 a1 : List UInt8) (hm : 2 ≤ m) (c0 : w.cell? ⟨g, 0, none⟩ = some (.string ⟨a0.toArray⟩)) (c1 : w.cell? ⟨g, 1, none⟩ = some (.string ⟨a1.toArray⟩)) (hs0 : a0.length ≤ 4194304) (hs : a1.length ≤ 4194304) (hn : P.name a1 = true) (hf : f (a0 ++ 32 :: a1) = 0) (hnl : n < maxLen) (hl : (Lit.int .i64 line).wf = true) :
    Calls Tryd.prog 108 #[.pointer (some ⟨rb, 0, none⟩), .slice (some ⟨g, 0, none⟩) m cap] w fun e w' => e = .returned (.string ⟨a1.toArray⟩) ∧ SayPost w base rb mb (n + 1) p (upd f (a0 ++ 32 :: a1) line) line uv fv w' := by
  have hN := name_any ⟨a1.toArray⟩ w (by rw [list_size]; unfold maxLen; omega)
  rw [list_data, hn] at hN
  have HN := Lib.hid hN
  obtain ⟨x0, hx0⟩ : ∃ x : ByteArray, x = ⟨a0.toArray⟩ := ⟨_, rfl⟩
  obtain ⟨x1, hx1⟩ : ∃ x : ByteArray, x = ⟨a1.toArray⟩ := ⟨_, rfl⟩
  obtain ⟨x2, hx2⟩ : ∃ x : ByteArray, x = ⟨(a0 ++ [32]).toArray⟩ := ⟨_, rfl⟩
  obtain ⟨x3, hx3⟩ : ∃ x : ByteArray, x = ⟨(a0 ++ 32 :: a1).toArray⟩ := ⟨_, rfl⟩
  have ad1 : ∀ w : World, (Op.stringOp .add x0 ⟨#[32]⟩).run Tryd.prog w = .ok (.string x2) w := fun w => by
    rw [hx0, hx2]; exact run_string_add_lists w a0 [32] (by omega) (by simp)
  have ad2 : ∀ w : World, (Op.stringOp .add x2 x1).run Tryd.prog w = .ok (.string x3) w := fun w => by
    rw [hx1, hx2, hx3, run_string_add_lists w (a0 ++ [32]) a1 (by simp; omega) (by omega)]; simp
  have HS := Lib.hid (say_yes (h.below (drew_below w)) ⟨(a0 ++ 32 :: a1).toArray⟩ (by rw [list_size]; simp [maxLen]; omega) (by rw [list_data]; exact hf) hnl hl)
  have H := Lib.hid h
  rw [list_data, ← hx3] at HS
  rw [← hx1] at HN c1 ⊢
  rw [← hx0] at c0
  clear hN h hn hf hx0 hx1 hx2 hx3
  have h0m : 0 < m := by omega
  have h1m : (1 : Int) < m := by omega
  go_enter Tryd.func108, Tryd.ntmps108
  go_wp2_with fail
  with_reducible refine (HN.out).mono ?_
  rintro e w' ⟨rfl, rfl⟩
  go_wp2_with fail
  with_reducible refine (need_yes _).mono ?_
  rintro e w' ⟨rfl, rfl⟩
  go_wp2_with fail
  go_still_tail 9, (by kernel_rfl)
  change wpList _ _ _ _ _ w.drew
  go_wp2_with fail
  with_reducible refine (HS.out).mono ?_
  rintro e w' ⟨rfl, hR, hg⟩
  have hg' : w.grownBy w' (some mb) := ⟨hg.os, hg.tape, hg.output, hg.size, hg.block⟩
  have c1' := H.out.map.cellKept hg' c1
  have HR := Lib.hid hR
  have HG := Lib.hid hg'
  clear c0 c1 hR hg hg'
  go_wp2_with fail
  go_ret
  exact ⟨rfl, HR.out, HG.out⟩

theorem lab_cells {w : World} {g : Nat} {l : Int} {k : Nat} (h : w.heap[g]? = some (.cells #[.int .i64 l, .int .u64 (k : Int)] 40 (0, 0))) : w.cell? ⟨g, 0, none⟩ = some (.int .i64 l) ∧ w.cell? ⟨g, 1, none⟩ = some (.int .u64 (k : Int)) := ⟨L.blk_cell h 0, L.blk_cell h 1⟩
def kLevels : ByteArray := ⟨#[108, 101, 118, 101, 108, 115]⟩
def kCats : ByteArray := ⟨#[99, 97, 116, 115]⟩

set_option maxRecDepth 100000 in
set_option maxHeartbeats 400000 in
theorem label_early (h : Rd w base rb mb n p f line uv fv) (v : Value) (hf : f kLevels.data.toList = 0 ∨ f kCats.data.toList = 0) :
    Calls Tryd.prog 109 #[.pointer (some ⟨rb, 0, none⟩), v] w (Fell w base rb line) := by
  have ha : Below w.heap.size w (w.alloc (.cells #[.int .i64 0, .int .u64 0] 40)) := (Below.refl _ _).alloc (Nat.le_refl _) _
  have h1 := h.below ha
  have HF := Lib.hid (h1.fell (ha.mono h.size))
  by_cases hl : f kLevels.data.toList = 0
  · have HS := Lib.hid (needSaid_no h1 kLevels (by unfold maxLen; decide) hl)
    unfold kLevels at HS
    clear hf h h1 ha hl
    go_enter Tryd.func109, Tryd.ntmps109
    go_wp2_with fail
    with_reducible refine (HS.out).mono ?_
    rintro e w' ⟨rfl, rfl⟩
    go_wp2_with fail
    exact ⟨rfl, HF.out⟩
  · have hc : f kCats.data.toList = 0 := hf.resolve_left hl
    have HS := Lib.hid (needSaid_yes h1 kLevels (by unfold maxLen; decide) hl)
    have HS2 := Lib.hid (needSaid_no h1 kCats (by unfold maxLen; decide) hc)
    unfold kLevels at HS
    unfold kCats at HS2
    clear hf h h1 ha hl hc
    go_enter Tryd.func109, Tryd.ntmps109
    go_wp2_with fail
    with_reducible refine (HS.out).mono ?_
    rintro e w' ⟨rfl, rfl⟩
    go_wp2_with fail
    with_reducible refine (HS2.out).mono ?_
    rintro e w' ⟨rfl, rfl⟩
    go_wp2_with fail
    exact ⟨rfl, HF.out⟩

def Parsed (s : ByteArray) (l : Int) (k : Nat) (is : Bool) : Prop := ∀ w : World, Tab w → Calls Tryd.prog 122 #[.string s] w fun e w' => e = .returned (.tuple #[L.lab l k, .bool is]) ∧ Below w.heap.size w w'
theorem Parsed.call {s : ByteArray} {l : Int} {k : Nat} {is : Bool} (h : Parsed s l k is) (w : World) (ht : Tab w) : Calls Tryd.prog 122 #[.string s] w fun e w' => e = .returned (.tuple #[L.lab l k, .bool is]) ∧ Below w.heap.size w w' := h w ht
theorem parsed_some {s : ByteArray} {a : Nat × Nat} (hs : s.size ≤ 4194304) (h : L.parse s.data.toList = some a) : Parsed s (a.1 : Int) a.2 true := fun w ht => by
  have := L.parse_any s w hs ht
  rw [h] at this
  exact this
theorem parsed_none {s : ByteArray} (hs : s.size ≤ 4194304) (h : L.parse s.data.toList = none) : Parsed s 0 0 false := fun w ht => by
  have := L.parse_any s w hs ht
  rw [h] at this
  exact this

set_option maxRecDepth 100000 in
set_option maxHeartbeats 4000000 in
theorem label_bad (h : Rd w base rb mb n p f line uv fv) (g m cap : Nat) (s : ByteArray) (hm : 3 ≤ m) (hlt : g < w.heap.size) (c2 : w.cell? ⟨g, 2, none⟩ = some (.string s)) (hl : f kLevels.data.toList ≠ 0) (hc : f kCats.data.toList ≠ 0) (HP : Hid (Parsed s 0 0 false)) (ht : Tab w) :
    Calls Tryd.prog 109 #[.pointer (some ⟨rb, 0, none⟩), .slice (some ⟨g, 0, none⟩) m cap] w (Fell w base rb line) := by
  have ha : Below w.heap.size w (w.alloc (.cells #[.int .i64 0, .int .u64 0] 40)) := (Below.refl _ _).alloc (Nat.le_refl _) _
  have h1 := h.below ha
  have HS := Lib.hid (needSaid_yes h1 kLevels (by unfold maxLen; decide) hl)
  have HS2 := Lib.hid (needSaid_yes h1 kCats (by unfold maxLen; decide) hc)
  unfold kLevels at HS
  unfold kCats at HS2
  have H := Lib.hid h
  have HT := Lib.hid (ht.later ha)
  have h2m : (2 : Int) < m := by omega
  have hgne : ¬ g = w.heap.size := by omega
  clear h h1 hl hc ht
  go_enter Tryd.func109, Tryd.ntmps109
  go_wp2_with fail
  with_reducible refine (HS.out).mono ?_
  rintro e w' ⟨rfl, rfl⟩
  go_wp2_with fail
  with_reducible refine (HS2.out).mono ?_
  rintro e w' ⟨rfl, rfl⟩
  go_wp2_with fail
  with_reducible refine (HP.out.call _ HT.out).mono ?_
  rintro e w1 ⟨rfl, hb1⟩
  have hbe : Below w.heap.size w w1 := ha.trans (hb1.mono (by simp))
  have H1 := Lib.hid (H.out.below hbe)
  have HB := Lib.hid hbe
  clear hb1 hbe ha HS HS2 HP HT
  go_wp2_with fail
  obtain ⟨W, hW⟩ : ∃ W : World, W = w1.alloc (.cells #[.int .i64 0, .int .u64 0] 40) := ⟨_, rfl⟩
  rw [← hW]
  have hbW : Below w1.heap.size w1 W := by rw [hW]; exact (Below.refl _ _).alloc (Nat.le_refl _) _
  clear hW
  have HF := Lib.hid (((H1.out.below hbW).below (drew_below W)).fell ((HB.out.trans (hbW.mono HB.out.size)).drew.mono H.out.size))
  clear H1 HB hbW c2
  refine wp_region_still_tail 9 (by kernel_rfl) (by kernel_rfl) ?_
  simp only [List.take_succ_cons, List.take_zero, List.drop_succ_cons, List.drop_zero]
  still_step
  still_step
  refine wpStill_skip (by kernel_rfl) ?_
  simp only [Act.put, List.setIfInBounds_toArray, List.set_cons_zero, List.set_cons_succ]
  refine wpStill_skip (by kernel_rfl) ?_
  simp only [Act.put, List.setIfInBounds_toArray, List.set_cons_zero, List.set_cons_succ]
  refine wpStill_skip (by kernel_rfl) ?_
  simp only [Act.put, List.setIfInBounds_toArray, List.set_cons_zero, List.set_cons_succ]
  refine wpStill_skip (by kernel_rfl) ?_
  simp only [Act.put, List.setIfInBounds_toArray, List.set_cons_zero, List.set_cons_succ]
  refine wpStill_skip (by kernel_rfl) ?_
  simp only [Act.put, List.setIfInBounds_toArray, List.set_cons_zero, List.set_cons_succ]
  refine wpStill_skip (by kernel_rfl) ?_
  simp only [Act.put, List.setIfInBounds_toArray, List.set_cons_zero, List.set_cons_succ]
  still_step
  refine wpStill_nil ?_
  change wpList _ _ _ _ _ (World.drew _)
  go_wp2_with fail
  with_reducible refine (need_no _).mono ?_
  rintro e w' ⟨rfl, rfl⟩
  go_wp2_with fail
  exact ⟨rfl, HF.out⟩

end Go.Proofs.YtadhhamfikpimaaDoor.O

namespace Go.Proofs.YtadhhamfikpimaaDoor.L
open Go.RowKit
open T

theorem refRight_any (l : Int) (c : Nat) (w : World) :
    Calls Tryd.prog 59 #[lab l c] w fun e w' => e = .returned (.bool (rightB l)) ∧ Below w.heap.size w w' := by
  by_cases h0 : 0 ≤ l
  · have HR := Lib.hid (show rightB l = decide (l < 16) by unfold rightB; rw [decide_eq_true h0]; simp; omega)
    go_enter Tryd.func59, Tryd.ntmps59
    go_wp2_with fail
    go_ret
    exact ⟨ret_of (by rw [HR.out]; rfl), (Below.refl _ _).alloc (Nat.le_refl _) _⟩
  · have HR := Lib.hid (show rightB l = false by unfold rightB; rw [decide_eq_false h0]; rfl)
    go_enter Tryd.func59, Tryd.ntmps59
    go_wp2_with fail
    go_ret
    exact ⟨ret_of (by rw [HR.out]; rfl), (Below.refl _ _).alloc (Nat.le_refl _) _⟩

theorem has_bit (c k : Nat) : (((c : Int) / 2 ^ k).tmod 2 == 1) = c.testBit k := by
  have e : (c : Int) / 2 ^ k = ((c / 2 ^ k : Nat) : Int) := by simp
  rw [e, Nat.testBit_eq_decide_div_mod_eq]
  generalize c / 2 ^ k = y
  rw [Int.tmod_eq_emod_of_nonneg (by omega), Bool.eq_iff_iff]
  simp
  omega
theorem has_any (l : Int) (c k : Nat) (w : World) (hk : k < 64) :
    Calls Tryd.prog 81 #[lab l c, .int .i64 k] w fun e w' => e = .returned (.bool (c.testBit k)) ∧ Below w.heap.size w w' := by
  have HB := Lib.hid (has_bit c k)
  go_enter Tryd.func81, Tryd.ntmps81
  go_wp2_with fail
  go_ret
  exact ⟨ret_of (by rw [← HB.out]; rfl), (Below.refl _ _).alloc (Nat.le_refl _) _⟩
def Hs (l : Int) (c k : Nat) (b : Bool) : Prop := ∀ w : World, Calls Tryd.prog 81 #[lab l c, .int .i64 k] w fun e w' => e = .returned (.bool b) ∧ Below w.heap.size w w'
theorem Hs.call {l : Int} {c k : Nat} {b : Bool} (h : Hs l c k b) (w : World) : Calls Tryd.prog 81 #[lab l c, .int .i64 k] w fun e w' => e = .returned (.bool b) ∧ Below w.heap.size w w' := h w
theorem hs_is {l : Int} {c k : Nat} {b : Bool} (hk : k < 64) (h : c.testBit k = b) : Hs l c k b := fun w => by
  have := has_any l c k w hk
  rwa [h] at this

/-- Two labels in boxes of the call's own. -/
abbrev Held2 (w : World) (l : Int) (c : Nat) (m : Int) (d : Nat) (w' : World) : Prop :=
  w'.cell? ⟨w.heap.size, 0, none⟩ = some (.int .i64 l) ∧ w'.cell? ⟨w.heap.size, 1, none⟩ = some (.int .u64 (c : Int)) ∧ w'.cell? ⟨w.heap.size + 1, 0, none⟩ = some (.int .i64 m) ∧ w'.cell? ⟨w.heap.size + 1, 1, none⟩ = some (.int .u64 (d : Int)) ∧ w.heap.size + 2 ≤ w'.heap.size ∧ Below w.heap.size w w'
theorem held2_below {w W W' : World} {l m : Int} {c d : Nat} (h : Held2 w l c m d W) (hb : Below W.heap.size W W') : Held2 w l c m d W' := by
  obtain ⟨h1, h2, h3, h4, h7, h8⟩ := h
  have hs := hb.size
  exact ⟨(bcell hb _ _ (by omega)).trans h1, (bcell hb _ _ (by omega)).trans h2, (bcell hb _ _ (by omega)).trans h3, (bcell hb _ _ (by omega)).trans h4, by omega, h8.trans (hb.mono h8.size)⟩
theorem held2_start (w : World) (l m : Int) (c d : Nat) : Held2 w l c m d ((w.alloc (.cells #[.int .i64 l, .int .u64 (c : Int)] 40)).alloc (.cells #[.int .i64 m, .int .u64 (d : Int)] 40)) := by
  obtain ⟨b0, b1⟩ := two_blocks w (.cells #[.int .i64 l, .int .u64 (c : Int)] 40) (.cells #[.int .i64 m, .int .u64 (d : Int)] 40)
  exact ⟨blk_cell b0 0, blk_cell b0 1, blk_cell b1 0, blk_cell b1 1, by rw [World.size_alloc, World.size_alloc]; omega, ((Below.refl _ _).alloc (Nat.le_refl _) _).alloc (by simp) _⟩
theorem held2_end {w W : World} {l m : Int} {c d : Nat} (h : Held2 w l c m d W) : Below w.heap.size w W := h.2.2.2.2.2

theorem sub_of_bits {c d : Nat} (hc : c < 18446744073709551616) (h : ∀ i, i < 64 → c.testBit i = true → d.testBit i = true) : c ||| d = d := by
  apply Nat.eq_of_testBit_eq
  intro i
  rw [Nat.testBit_or]
  by_cases hi : i < 64
  · cases hb : c.testBit i with
    | false => simp
    | true => rw [h i hi hb]; rfl
  · rw [Nat.testBit_lt_two_pow (Nat.lt_of_lt_of_le hc (Nat.pow_le_pow_right (n := 2) (by omega) (show 64 ≤ i by omega)))]; simp
theorem bit_of_sub {c d : Nat} (h : c ||| d = d) {i : Nat} (hi : c.testBit i = true) : d.testBit i = true := by
  rw [← h, Nat.testBit_or, hi]; rfl

set_option maxHeartbeats 1000000 in
theorem refBelow_any (l m : Int) (c d : Nat) (w : World) (hc : c < 18446744073709551616) :
    Calls Tryd.prog 54 #[lab l c, lab m d] w fun e w' => e = .returned (.bool (belowB l c m d)) ∧ Below w.heap.size w w' := by
  by_cases h1 : l ≤ m
  · go_enter Tryd.func54, Tryd.ntmps54
    go_wp2_with fail
    go_loopg [5] 64 (fun n i wr => ∃ k : Nat, k ≤ 64 ∧ i = .int .i64 k ∧ 64 - k ≤ n ∧ Held2 w l c m d wr ∧ Hid (∀ i, i < k → c.testBit i = true → d.testBit i = true))
    case atStart => exact ⟨0, by omega, rfl, by omega, held2_start w l m c d, Lib.hid fun i hi => absurd hi (by omega)⟩
    case round =>
      obtain ⟨k, hk, rfl, hn, hH, HR⟩ := hrel
      by_cases hlt : k < 64
      · cases hcb : c.testBit k with
        | false =>
          have HC := Lib.hid (hs_is (l := l) hlt hcb)
          have HN : Hid (∀ i, i < k + 1 → c.testBit i = true → d.testBit i = true) := Lib.hid fun i hi hb => by
            by_cases e : i = k
            · subst e; rw [hcb] at hb; cases hb
            · exact HR.out i (by omega) hb
          clear hcb
          go_wp2_with fail
          with_reducible refine (HC.out.call _).mono ?_
          rintro r w1 ⟨rfl, hb1⟩
          replace hH := held2_below hH hb1
          go_wp2_with fail
          go_roundg (64 - (k + 1))
          case measure => omega
          case rel => exact ⟨k + 1, by omega, by go_num, Nat.le_refl _, hH, HN⟩
        | true =>
          have HC := Lib.hid (hs_is (l := l) hlt hcb)
          cases hdb : d.testBit k with
          | false =>
            have HD := Lib.hid (hs_is (l := m) hlt hdb)
            have HF := Lib.hid (show belowB l c m d = false by
              unfold belowB
              rw [beq_eq_false_iff_ne.2 (fun e => by have := bit_of_sub e hcb; rw [hdb] at this; cases this), Bool.and_false])
            clear hcb hdb
            go_wp2_with fail
            with_reducible refine (HC.out.call _).mono ?_
            rintro r w1 ⟨rfl, hb1⟩
            replace hH := held2_below hH hb1
            go_wp2_with fail
            with_reducible refine (HD.out.call _).mono ?_
            rintro r w2 ⟨rfl, hb2⟩
            replace hH := held2_below hH hb2
            go_wp2_with fail
            go_ret
            exact ⟨ret_of (by rw [HF.out]; rfl), held2_end hH⟩
          | true =>
            have HD := Lib.hid (hs_is (l := m) hlt hdb)
            have HN : Hid (∀ i, i < k + 1 → c.testBit i = true → d.testBit i = true) := Lib.hid fun i hi hb => by
              by_cases e : i = k
              · subst e; exact hdb
              · exact HR.out i (by omega) hb
            clear hcb hdb
            go_wp2_with fail
            with_reducible refine (HC.out.call _).mono ?_
            rintro r w1 ⟨rfl, hb1⟩
            replace hH := held2_below hH hb1
            go_wp2_with fail
            with_reducible refine (HD.out.call _).mono ?_
            rintro r w2 ⟨rfl, hb2⟩
            replace hH := held2_below hH hb2
            go_wp2_with fail
            go_roundg (64 - (k + 1))
            case measure => omega
            case rel => exact ⟨k + 1, by omega, by go_num, Nat.le_refl _, hH, HN⟩
      · obtain rfl : k = 64 := by omega
        have HF := Lib.hid (show belowB l c m d = true by
          unfold belowB
          rw [decide_eq_true h1, sub_of_bits hc HR.out, beq_self_eq_true]; rfl)
        go_wp2_with fail
        go_ret
        exact ⟨ret_of (by rw [HF.out]; rfl), held2_end hH⟩
  · have HF := Lib.hid (show belowB l c m d = false by unfold belowB; rw [decide_eq_false h1]; rfl)
    go_enter Tryd.func54, Tryd.ntmps54
    go_wp2_with fail
    go_ret
    exact ⟨ret_of (by rw [HF.out]; rfl), held2_end (held2_start w l m c d)⟩
end Go.Proofs.YtadhhamfikpimaaDoor.L

namespace Go.Proofs.YtadhhamfikpimaaDoor.L
open Go.RowKit
open T

set_option maxHeartbeats 1000000 in
set_option maxRecDepth 100000 in
theorem refCats_any (l : Int) (c : Nat) (w : World) :
    Calls Tryd.prog 61 #[lab l c] w fun e w' => ∃ v, e = .returned v ∧ w'.ownsRow w.heap.size 3 1 v (catsTo c 64).length (intCells (catsTo c 64)) ∧ Below w.heap.size w w' := by
  obtain ⟨i0, hi0, hz0, hz1, hz2⟩ := info_parts infoInt
  go_enter Tryd.func61, Tryd.ntmps61
  go_wp2_with fail
  go_loopg [3, 4] 64 (fun n v i wr => ∃ k : Nat, k ≤ 64 ∧ i = .int .i64 k ∧ 64 - k ≤ n ∧ wr.ownsRow (w.heap.size + 1) 3 1 v (catsTo c k).length (intCells (catsTo c k)) ∧ Hid (wr.heap[w.heap.size]? = some (.cells #[.int .i64 l, .int .u64 (c : Int)] 40 (0, 0))) ∧ Below w.heap.size w wr)
  case atStart =>
    obtain ⟨b0, b1⟩ := two_blocks w (.cells #[.int .i64 l, .int .u64 (c : Int)] 40) (.cells #[] 3)
    exact ⟨0, by omega, rfl, by omega, ⟨by simp [catsTo, intCells], .inr ⟨w.heap.size + 1, 0, #[], by simp [catsTo], Nat.le_refl _, b1, by simp [catsTo], by simp [maxLen], rfl, by simp [catsTo, intCells]⟩⟩, Lib.hid b0, ((Below.refl _ _).alloc (Nat.le_refl _) _).alloc (by simp) _⟩
  case round =>
    obtain ⟨k, hk, rfl, hn, hown, HB0, hbel⟩ := hrel
    have c0 := (res_cells HB0.out).1
    have c1 := (res_cells HB0.out).2
    have hwr : w.heap.size + 1 ≤ wr.heap.size := blk_lt HB0.out
    by_cases hlt : k < 64
    · have hlen := catsTo_len c k
      cases hbit : c.testBit k with
      | true =>
        have HC := Lib.hid (catsTo_yes hbit)
        have HH := Lib.hid (hs_is (l := l) hlt hbit)
        clear hbit
        generalize catsTo c k = xs at *
        go_wp2_with fail
        with_reducible refine (HH.out.call _).mono ?_
        rintro r w1 ⟨rfl, hb1⟩
        have hbe1 : Below w.heap.size w w1 := hbel.trans (hb1.mono hbel.size)
        have HB1 := Lib.hid ((hb1.block w.heap.size (by omega)).trans HB0.out)
        have hw1 := blk_lt HB1.out
        have hown1 : w1.ownsRow (w.heap.size + 1) 3 1 u3 xs.length (intCells xs) := hown.kept (row := none) ⟨hb1.os, hb1.tape, hb1.output, hb1.size, fun i hi _ => hb1.block i hi⟩ (by
          rcases hh : u3.ownBlock with _ | b
          · exact .inl rfl
          · exact .inr (by simp))
        clear c0 c1 hb1 HB0 hown
        go_wp2_with (at_builtin; refine wpList_append_own _ rfl (.tmp 13) (.tmp 15) 92 rfl (w.heap.size + 1) 3 i0 _ 1 8 Tryd.underlying92 hi0 hz0 hz1 hz2 rfl (by decide) _ xs.length (intCells xs) rfl ?ho ⟨w1.heap.size, 0, none⟩ 1 1 [.int .i64 (k : Int)] rfl rfl ?c1 ?c2 ?c3 ?c4 ?c5 ?_)
        case ho => exact hown1.alloc _
        case c1 => exact cell_one_new _ _ _
        case c2 => intro u hu; simp at hu; rcases hu with rfl; rfl
        case c3 => simp only [maxLen]; omega
        case c4 => omega
        case c5 => simp; omega
        intro v' w2 hown2 hg2 _
        have hbe2 : Below w.heap.size w w2 := (hbe1.alloc hbe1.size _).grown hg2 (by simp; omega) (fun k hk => by have := own_base hown1 k hk; omega)
        have hb2 : w2.heap[w.heap.size]? = some (.cells #[.int .i64 l, .int .u64 (c : Int)] 40 (0, 0)) := by
          rw [hg2.block w.heap.size (by simp; omega) (fun e => by have := own_base hown1 _ e.symm; omega)]
          exact (Below.heap_alloc w1 _ _ (by omega)).trans HB1.out
        have HB2 := Lib.hid hb2
        rw [← intCells_snoc] at hown2
        have hl1 : (xs ++ [k]).length = xs.length + 1 := by simp
        rw [← hl1, ← HC.out] at hown2
        clear hl1 hown1 hb2
        go_wp2_with fail
        go_roundg (64 - (k + 1))
        case measure => omega
        case rel => exact ⟨k + 1, by omega, by go_num, Nat.le_refl _, hown2, HB2, hbe2⟩
      | false =>
        have HC := Lib.hid (catsTo_no hbit)
        have HH := Lib.hid (hs_is (l := l) hlt hbit)
        clear hbit
        go_wp2_with fail
        with_reducible refine (HH.out.call _).mono ?_
        rintro r w1 ⟨rfl, hb1⟩
        have hbe1 : Below w.heap.size w w1 := hbel.trans (hb1.mono hbel.size)
        have HB1 := Lib.hid ((hb1.block w.heap.size (by omega)).trans HB0.out)
        have hown1 : w1.ownsRow (w.heap.size + 1) 3 1 u3 (catsTo c k).length (intCells (catsTo c k)) := hown.kept (row := none) ⟨hb1.os, hb1.tape, hb1.output, hb1.size, fun i hi _ => hb1.block i hi⟩ (by
          rcases hh : u3.ownBlock with _ | b
          · exact .inl rfl
          · exact .inr (by simp))
        rw [← HC.out] at hown1
        clear c0 c1 hb1 HB0 hown
        go_wp2_with fail
        go_roundg (64 - (k + 1))
        case measure => omega
        case rel => exact ⟨k + 1, by omega, by go_num, Nat.le_refl _, hown1, HB1, hbe1⟩
    · obtain rfl : k = 64 := by omega
      have hown' := own_more hown (Nat.le_succ w.heap.size)
      clear hown c0 c1
      go_wp2_with fail
      go_ret
      exact ⟨_, rfl, hown', hbel⟩

theorem or_add {c m : Nat} (h : c.testBit m = false) : c ||| 2 ^ m = c + 2 ^ m := by
  have e : c = c / 2 ^ (m + 1) * 2 ^ (m + 1) + c % 2 ^ m := by
    have h1 : c / 2 ^ m % 2 = 0 := by
      rw [Nat.testBit_eq_decide_div_mod_eq] at h
      have := of_decide_eq_false h
      omega
    have h2 := Nat.div_add_mod c (2 ^ m)
    rw [Nat.pow_succ, ← Nat.div_div_eq_div_mul]
    generalize c / 2 ^ m = y at *
    have h3 : y = y / 2 * 2 := by omega
    calc c = 2 ^ m * y + c % 2 ^ m := h2.symm
      _ = y / 2 * (2 ^ m * 2) + c % 2 ^ m := by
        congr 1
        rw [Nat.mul_comm (2 ^ m) 2, ← Nat.mul_assoc, ← h3, Nat.mul_comm]
  have hp := Nat.pow_pos (n := m) (show 0 < 2 by omega)
  have hlo : c % 2 ^ m < 2 ^ m := Nat.mod_lt _ hp
  generalize c / 2 ^ (m + 1) * 2 ^ (m + 1) = hi, hhi : c / 2 ^ (m + 1) * 2 ^ (m + 1) = hi at e
  have hm : hi % 2 ^ (m + 1) = 0 := by rw [← hhi]; exact Nat.mul_mod_left _ _
  generalize c % 2 ^ m = lo at e hlo
  have h1 := nat_join (m + 1) hi lo hm (by rw [Nat.pow_succ]; omega)
  have h2 := nat_join m (2 ^ m) lo (Nat.mod_self _) hlo
  have h3 := nat_join (m + 1) hi (2 ^ m + lo) hm (by rw [Nat.pow_succ]; omega)
  rw [e, ← h1, Nat.or_assoc, Nat.or_comm lo, h2, h3, h1]
  omega

end Go.Proofs.YtadhhamfikpimaaDoor.L

namespace Go.Proofs.YtadhhamfikpimaaDoor.L
open T

/-- What the reference does with a number that ends. -/
def refStep (level : Bool) (last : Int) (n : Nat) : Bool := if level then decide (n ≤ 15) else decide (n ≤ 63) && decide (last < (n : Int))
def refP (level : Bool) (L C : Nat) (last : Int) (now : List UInt8) : List UInt8 → Option (Nat × Nat)
  | [] => (P.number now).bind fun n => if refStep level last n then (if level then some (n, C) else some (L, C + 2 ^ n)) else none
  | x :: r => if x ≠ 58 ∧ x ≠ 44 then refP level L C last (now ++ [x]) r
    else (P.number now).bind fun n => if (x == 58) = level then (if refStep level last n then (if level then refP false n C last [] r else refP false L (C + 2 ^ n) n [] r) else none) else none

theorem catsText_one (n : Nat) : catsText [n] = P.decimal (n : Int) := by
  unfold catsText Lib.join
  simp
theorem catsText_cons (n m : Nat) (r : List Nat) : catsText (n :: m :: r) = P.decimal (n : Int) ++ 44 :: catsText (m :: r) := by
  unfold catsText Lib.join
  rw [List.map_cons, List.map_cons, List.intercalate_cons_cons]
  simp
def Rise (last : Int) (xs : List Nat) : Prop := xs.Pairwise (· < ·) ∧ ∀ x ∈ xs, last < (x : Int) ∧ x ≤ 63
theorem add_or {C n : Nat} {last : Int} (hC : ∀ i, C.testBit i = true → (i : Int) ≤ last) (hn : last < (n : Int)) : C + 2 ^ n = C ||| 2 ^ n := by
  refine (or_add ?_).symm
  cases h : C.testBit n with
  | false => rfl
  | true => have := hC n h; omega
theorem bits_or {C n : Nat} {last : Int} (hC : ∀ i, C.testBit i = true → (i : Int) ≤ last) (hn : last < (n : Int)) : ∀ i, (C ||| 2 ^ n).testBit i = true → (i : Int) ≤ (n : Int) := by
  intro i hi
  rw [Nat.testBit_or, Nat.testBit_two_pow, Bool.or_eq_true, decide_eq_true_iff] at hi
  rcases hi with hi | hi
  · have := hC i hi; omega
  · omega

/-- What is read behind the level. -/
theorem refP_sound (L : Nat) : ∀ (r now : List UInt8) (C : Nat) (last : Int) (L' C' : Nat), (∀ i, C.testBit i = true → (i : Int) ≤ last) → refP false L C last now r = some (L', C') →
    L' = L ∧ ∃ xs, xs ≠ [] ∧ Rise last xs ∧ now ++ r = catsText xs ∧ C' = xs.foldl (fun a x => a ||| 2 ^ x) C := by
  intro r
  induction r with
  | nil =>
    intro now C last L' C' hC h
    rw [refP, Option.bind_eq_some_iff] at h
    obtain ⟨n, hn, h⟩ := h
    split at h
    · next hs =>
      simp [refStep] at hs
      simp at h
      refine ⟨h.1.symm, [n], by simp, ⟨by simp, fun x hx => ?_⟩, ?_, ?_⟩
      · simp at hx; subst hx; exact ⟨hs.2, hs.1⟩
      · rw [catsText_one, List.append_nil]; exact (P.decimal_number _ _ hn).symm
      · rw [← h.2, add_or hC hs.2]; rfl
    · cases h
  | cons x r ih =>
    intro now C last L' C' hC h
    rw [refP] at h
    split at h
    · have := ih _ C last L' C' hC h
      simpa using this
    · next hx =>
      rw [Option.bind_eq_some_iff] at h
      obtain ⟨n, hn, h⟩ := h
      split at h
      · next hb =>
        split at h
        · next hs =>
          simp [refStep] at hs
          simp only [Bool.false_eq_true, if_false] at h
          rw [add_or hC hs.2] at h
          obtain ⟨hL, xs, hne, hrise, htext, hfold⟩ := ih [] _ _ L' C' (bits_or hC hs.2) h
          have hx44 : x = 44 := by
            have : ¬ x = 58 := by simpa using hb
            by_cases h44 : x = 44
            · exact h44
            · exact absurd ⟨this, h44⟩ hx
          refine ⟨hL, n :: xs, by simp, ⟨List.pairwise_cons.2 ⟨fun y hy => by have := (hrise.2 y hy).1; omega, hrise.1⟩, fun y hy => ?_⟩, ?_, hfold⟩
          · rcases List.mem_cons.1 hy with rfl | hy
            · exact ⟨hs.2, hs.1⟩
            · have := hrise.2 y hy; exact ⟨by omega, this.2⟩
          · obtain ⟨m, t, rfl⟩ : ∃ m t, xs = m :: t := by
              cases xs with
              | nil => exact absurd rfl hne
              | cons m t => exact ⟨m, t, rfl⟩
            rw [catsText_cons, ← htext, hx44, P.decimal_number _ _ hn, List.nil_append]
        · cases h
      · cases h
theorem sorted_eq : ∀ (us vs : List Nat), us.Pairwise (· < ·) → vs.Pairwise (· < ·) → (∀ x, x ∈ us ↔ x ∈ vs) → us = vs
  | [], [], _, _, _ => rfl
  | [], b :: _, _, _, h => absurd ((h b).2 (by simp)) (by simp)
  | a :: _, [], _, _, h => absurd ((h a).1 (by simp)) (by simp)
  | a :: us, b :: vs, ha, hb, h => by
    rw [List.pairwise_cons] at ha hb
    have e : a = b := by
      have h1 := (h a).1 (by simp)
      have h2 := (h b).2 (by simp)
      rcases List.mem_cons.1 h1 with h1 | h1
      · exact h1
      · rcases List.mem_cons.1 h2 with h2 | h2
        · exact h2.symm
        · have := ha.1 b h2; have := hb.1 a h1; omega
    subst e
    rw [sorted_eq us vs ha.2 hb.2 fun x => ⟨fun hx => ?_, fun hx => ?_⟩]
    · rcases List.mem_cons.1 ((h x).1 (by simp [hx])) with rfl | h'
      · have := ha.1 x hx; omega
      · exact h'
    · rcases List.mem_cons.1 ((h x).2 (by simp [hx])) with rfl | h'
      · have := hb.1 x hx; omega
      · exact h'
theorem cats_sorted (c : Nat) : (catsTo c 64).Pairwise (· < ·) := by
  unfold catsTo
  exact List.Pairwise.filter _ List.pairwise_lt_range
theorem cats_mem (c x : Nat) : x ∈ catsTo c 64 ↔ x < 64 ∧ c.testBit x = true := by
  unfold catsTo
  rw [List.mem_filter, List.mem_range]
theorem cats_of_fold {xs : List Nat} {last : Int} (h : Rise last xs) : catsTo (xs.foldl (fun a x => a ||| 2 ^ x) 0) 64 = xs := by
  refine sorted_eq _ _ (cats_sorted _) h.1 fun x => ?_
  rw [cats_mem, fold_bit]
  simp only [Nat.zero_testBit, Bool.false_or, decide_eq_true_iff]
  exact ⟨fun h => h.2, fun hx => ⟨by have := (h.2 x hx).2; omega, hx⟩⟩
theorem fold_small {xs : List Nat} : ∀ {c : Nat}, c < 18446744073709551616 → (∀ x ∈ xs, x ≤ 63) → xs.foldl (fun a x => a ||| 2 ^ x) c < 18446744073709551616 := by
  induction xs with
  | nil => intro c hc _; exact hc
  | cons x r ih =>
    intro c hc h
    rw [List.foldl_cons]
    exact ih (or_small hc (Nat.pow_lt_pow_right (a := 2) (n := 64) (by omega) (by have := h x (by simp); omega))) (fun y hy => h y (by simp [hy]))

/-- The whole of a text that is read is the label's text. -/
theorem refP_whole : ∀ (l now : List UInt8) (n c : Nat), refP true 0 0 (-1) now l = some (n, c) → print n c = now ++ l ∧ c < 18446744073709551616 ∧ n ≤ 15 := by
  intro l
  induction l with
  | nil =>
    intro now n c h
    rw [refP, Option.bind_eq_some_iff] at h
    obtain ⟨m, hm, h⟩ := h
    split at h
    · next hs =>
      simp [refStep] at hs
      simp at h
      obtain ⟨rfl, rfl⟩ := h
      refine ⟨?_, by omega, hs⟩
      have : catsTo 0 64 = [] := by decide
      rw [print, if_pos this, List.append_nil]; exact P.decimal_number _ _ hm
    · cases h
  | cons x r ih =>
    intro now n c h
    rw [refP] at h
    split at h
    · have := ih _ n c h
      simpa using this
    · next hx =>
      rw [Option.bind_eq_some_iff] at h
      obtain ⟨m, hm, h⟩ := h
      split at h
      · next hb =>
        split at h
        · next hs =>
          simp [refStep] at hs
          simp only [if_true] at h
          obtain ⟨rfl, xs, hne, hrise, htext, hfold⟩ := refP_sound m r [] 0 (-1) n c (fun i hi => by simp at hi) h
          have hx58 : x = 58 := by simpa using hb
          have hc := cats_of_fold hrise
          rw [← hfold] at hc
          refine ⟨?_, by rw [hfold]; exact fold_small (by omega) (fun x hx => (hrise.2 x hx).2), hs⟩
          rw [print, hc, if_neg hne, ← htext, P.decimal_number _ _ hm, hx58]
          simp
        · cases h
      · cases h

theorem refP_digits (level : Bool) (L C : Nat) (last : Int) : ∀ (ds now r : List UInt8), (∀ x ∈ ds, x ≠ 58 ∧ x ≠ 44) → refP level L C last now (ds ++ r) = refP level L C last (now ++ ds) r
  | [], now, r, _ => by simp
  | x :: ds, now, r, h => by
    rw [List.cons_append, refP, if_pos (h x (by simp)), refP_digits level L C last ds _ r (fun y hy => h y (by simp [hy]))]
    simp
theorem dec_plain (n : Int) : ∀ x ∈ P.decimal n, x ≠ 58 ∧ x ≠ 44 := fun x hx => ⟨dec_no n 58 (.inl rfl) x hx, dec_no n 44 (.inr rfl) x hx⟩
theorem num_dec (n : Nat) (h : n ≤ 63) : P.number (P.decimal (n : Int)) = some n := by
  have := P.number_decimal (n : Int) (by omega) (by omega)
  rwa [Int.toNat_natCast] at this
theorem refP_nums (L : Nat) : ∀ (xs : List Nat) (C : Nat) (last : Int), xs ≠ [] → Rise last xs → (∀ i, C.testBit i = true → (i : Int) ≤ last) →
    refP false L C last [] (catsText xs) = some (L, xs.foldl (fun a x => a ||| 2 ^ x) C)
  | [n], C, last, _, hr, hC => by
    have hn := hr.2 n (by simp)
    have h := refP_digits false L C last (P.decimal (n : Int)) [] [] (dec_plain _)
    rw [List.append_nil, List.nil_append] at h
    rw [catsText_one, h, refP, num_dec n hn.2, Option.bind_some, if_pos (by simp [refStep, hn.1, hn.2])]
    simp only [Bool.false_eq_true, if_false]
    rw [add_or hC hn.1]; rfl
  | n :: m :: r, C, last, _, hr, hC => by
    have hn := hr.2 n (by simp)
    have hp := List.pairwise_cons.1 hr.1
    have h := refP_digits false L C last (P.decimal (n : Int)) [] (44 :: catsText (m :: r)) (dec_plain _)
    rw [List.nil_append] at h
    rw [catsText_cons, h, refP, if_neg (by decide), num_dec n hn.2, Option.bind_some, if_pos (by decide), if_pos (by simp [refStep, hn.1, hn.2])]
    simp only [Bool.false_eq_true, if_false]
    rw [add_or hC hn.1, refP_nums L (m :: r) _ n (by simp) ⟨hp.2, fun x hx => ⟨by have := hp.1 x hx; omega, (hr.2 x (by simp [hx])).2⟩⟩ (bits_or hC hn.1)]
    rfl
theorem refP_print (n c : Nat) (hn : n ≤ 15) (hc : c < 18446744073709551616) : refP true 0 0 (-1) [] (print n c) = some (n, c) := by
  have hb := cats_back c hc
  unfold print
  split
  · next he =>
    have h := refP_digits true 0 0 (-1) (P.decimal (n : Int)) [] [] (dec_plain _)
    rw [List.append_nil, List.nil_append] at h
    rw [h, refP, num_dec n (by omega), Option.bind_some, if_pos (by simp [refStep, hn])]
    rw [he] at hb
    simp only [List.foldl_nil] at hb
    simp [hb]
  · next he =>
    have h := refP_digits true 0 0 (-1) (P.decimal (n : Int)) [] (58 :: catsText (catsTo c 64)) (dec_plain _)
    rw [List.nil_append] at h
    rw [show P.decimal (n : Int) ++ [58] ++ catsText (catsTo c 64) = P.decimal (n : Int) ++ 58 :: catsText (catsTo c 64) by simp, h, refP, if_neg (by decide), num_dec n (by omega), Option.bind_some, if_pos (by decide), if_pos (by simp [refStep, hn]), if_pos rfl,
      refP_nums n (catsTo c 64) 0 (-1) he ⟨cats_sorted c, fun x hx => by have := (cats_mem c x).1 hx; omega⟩ (fun i hi => by simp at hi), hb]

/-- The reference's way reads what the program's way reads. -/
theorem refP_parse (l : List UInt8) : refP true 0 0 (-1) [] l = parse l := by
  cases hp : parse l with
  | some q =>
    obtain ⟨n, c⟩ := q
    obtain ⟨h1, h2, h3⟩ := print_parse hp
    rw [← h1]; exact refP_print n c h3 h2
  | none =>
    cases hr : refP true 0 0 (-1) [] l with
    | none => rfl
    | some q =>
      obtain ⟨n, c⟩ := q
      obtain ⟨h1, h2, h3⟩ := refP_whole l [] n c hr
      rw [List.nil_append] at h1
      have := parse_print (n : Int) c h2 (by unfold rightB; rw [decide_eq_true (by omega), decide_eq_true (by omega)]; rfl)
      rw [h1, hp] at this
      cases this
end Go.Proofs.YtadhhamfikpimaaDoor.L

namespace Go.Proofs.YtadhhamfikpimaaDoor.O
open Go.RowKit
open T
variable {w w' : World} {base rb mb n : Nat} {p : Pol} {f : List UInt8 → Int} {line : Int} {uv fv : Value}

/-- A label that fits is told, and nothing but new memory is another; one that does not is a fault. -/
def LabPost (w : World) (base rb : Nat) (line : Int) (l : Int) (k : Nat) (b : Bool) (e : Ending) (w' : World) : Prop :=
  match b with
  | true => e = .returned (L.lab l k) ∧ Below w.heap.size w w'
  | false => Fell w base rb line e w'

set_option maxRecDepth 100000 in
set_option maxHeartbeats 4000000 in
theorem label_some (h : Rd w base rb mb n p f line uv fv) (g m cap : Nat) (s : ByteArray) (l : Int) (k : Nat) (hk : k < 18446744073709551616) (hm : 3 ≤ m) (hlt : g < w.heap.size) (c2 : w.cell? ⟨g, 2, none⟩ = some (.string s)) (hl : f kLevels.data.toList ≠ 0) (hc : f kCats.data.toList ≠ 0) (HP : Hid (Parsed s l k true)) (ht : Tab w) (bb : Bool) (HFI : Hid (fitsB (p.ns.getD 0 0) (p.ns.getD 1 0) l k = bb)) :
    Calls Tryd.prog 109 #[.pointer (some ⟨rb, 0, none⟩), .slice (some ⟨g, 0, none⟩) m cap] w (LabPost w base rb line l k bb) := by
  have ha : Below w.heap.size w (w.alloc (.cells #[.int .i64 0, .int .u64 0] 40)) := (Below.refl _ _).alloc (Nat.le_refl _) _
  have h1 := h.below ha
  have HS := Lib.hid (needSaid_yes h1 kLevels (by unfold maxLen; decide) hl)
  have HS2 := Lib.hid (needSaid_yes h1 kCats (by unfold maxLen; decide) hc)
  unfold kLevels at HS
  unfold kCats at HS2
  have H := Lib.hid h
  have HT := Lib.hid (ht.later ha)
  have h2m : (2 : Int) < m := by omega
  have hgne : ¬ g = w.heap.size := by omega
  clear h h1 hl hc ht
  go_enter Tryd.func109, Tryd.ntmps109
  go_wp2_with fail
  with_reducible refine (HS.out).mono ?_
  rintro e w' ⟨rfl, rfl⟩
  go_wp2_with fail
  with_reducible refine (HS2.out).mono ?_
  rintro e w' ⟨rfl, rfl⟩
  go_wp2_with fail
  with_reducible refine (HP.out.call _ HT.out).mono ?_
  rintro e w1 ⟨rfl, hb1⟩
  have hbe : Below w.heap.size w w1 := ha.trans (hb1.mono (by simp))
  have HRB := Lib.hid ((hb1.block w.heap.size (by simp)).trans (heap_alloc_new w _))
  have H1 := Lib.hid (H.out.below hbe)
  have HB := Lib.hid hbe
  clear hb1 hbe ha HS HS2 HP HT
  go_wp2_with fail
  obtain ⟨W, hW⟩ : ∃ W : World, W = w1.alloc (.cells #[.int .i64 l, .int .u64 (k : Int)] 40) := ⟨_, rfl⟩
  rw [← hW]
  have hbW : Below w1.heap.size w1 W := by rw [hW]; exact (Below.refl _ _).alloc (Nat.le_refl _) _
  have HBX := Lib.hid (show W.heap[w1.heap.size]? = some (.cells #[.int .i64 l, .int .u64 (k : Int)] 40 (0, 0)) by rw [hW]; exact heap_alloc_new w1 _)
  clear hW
  have h1 := H1.out.below hbW
  obtain ⟨⟨a0, a1, a2, a3, a4, a5⟩, a6, a7, a8⟩ := h1.cells
  obtain ⟨b0, b1⟩ := lab_cells HBX.out
  have H1 := Lib.hid h1
  have HB := Lib.hid (HB.out.trans (hbW.mono HB.out.size))
  have HRB := Lib.hid ((hbW.block w.heap.size (L.blk_lt HRB.out)).trans HRB.out)
  clear h1 hbW c2
  generalize p.ns.getD 0 0 = n0 at *
  generalize p.ns.getD 1 0 = n1 at *
  generalize p.ns.getD 2 0 = n2 at *
  generalize p.ns.getD 3 0 = n3 at *
  generalize p.ns.getD 4 0 = n4 at *
  generalize p.ns.getD 5 0 = n5 at *
  generalize (⟨p.hid.toArray⟩ : ByteArray) = hid at *
  go_still_tail 7, (by kernel_rfl)
  change wpList _ _ _ _ _ (World.drew _)
  clear a0 a1 a2 a3 a4 a5 a6 a7 a8
  go_wp2_with fail
  with_reducible refine (fits_any _ _ _ _ _ _ _ _ _ _ _ _ hk).mono ?_
  rintro e w2 ⟨rfl, hb2⟩
  have hbe : Below w.heap.size w w2 := HB.out.drew.trans (hb2.mono HB.out.size)
  have H2 := Lib.hid ((H1.out.below (drew_below W)).below hb2)
  have HBX2 := Lib.hid ((hb2.block w1.heap.size (L.blk_lt HBX.out)).trans HBX.out)
  have HRB2 := Lib.hid ((hb2.block w.heap.size (L.blk_lt HRB.out)).trans HRB.out)
  clear b0 b1 hb2 HB
  rw [HFI.out]
  clear HFI
  cases bb
  · go_wp2_with fail
    with_reducible refine (need_no _).mono ?_
    rintro e w' ⟨rfl, rfl⟩
    go_wp2_with fail
    exact ⟨rfl, H2.out.fell (hbe.mono H.out.size)⟩
  · go_wp2_with fail
    with_reducible refine (need_yes _).mono ?_
    rintro e w' ⟨rfl, rfl⟩
    obtain ⟨b0, b1⟩ := lab_cells HBX2.out
    obtain ⟨d0, d1⟩ := lab_cells HRB2.out
    have g0 := L.blk_free HRB2.out 0
    have g1 := L.blk_free HRB2.out 1
    have HRB3 := Lib.hid HRB2.out
    go_wp2_with fail
    refine bodyPost_ret (v := L.lab l k) ?_ rfl ⟨rfl, ((hbe.setCell (by simp) _).setCell (by simp) _)⟩
    have e1 := L.blk_set HRB3.out 0 (.int .i64 l)
    have e2 := L.blk_set e1 1 (.int .u64 (k : Int))
    have q0 : (w2.setCell ⟨w.heap.size, 0, none⟩ (.int .i64 l)).cell? ⟨w.heap.size, 0, none⟩ = some (.int .i64 l) := L.blk_cell e1 0
    have q1 : ((w2.setCell ⟨w.heap.size, 0, none⟩ (.int .i64 l)).setCell ⟨w.heap.size, 1, none⟩ (.int .u64 (k : Int))).cell? ⟨w.heap.size, 1, none⟩ = some (.int .u64 (k : Int)) := L.blk_cell e2 1
    simp [results, Tryd.results109, go_sem, q0, q1]
end Go.Proofs.YtadhhamfikpimaaDoor.O

namespace Go.Proofs.YtadhhamfikpimaaDoor.O
open Go.RowKit
open T
variable {w w' : World} {base rb mb n : Nat} {p : Pol} {f : List UInt8 → Int} {line : Int} {uv fv : Value}

/-- The label that a word tells, by what was said. -/
def labelBy (p : Pol) (f : List UInt8 → Int) (l : List UInt8) : Option (Nat × Nat) :=
  if f kLevels.data.toList = 0 ∨ f kCats.data.toList = 0 then none else (L.parse l).bind fun a => if fitsB (p.ns.getD 0 0) (p.ns.getD 1 0) a.1 a.2 then some a else none
def LabEnd (w : World) (base rb : Nat) (line : Int) (o : Option (Nat × Nat)) (e : Ending) (w' : World) : Prop :=
  match o with
  | some a => e = .returned (L.lab (a.1 : Int) a.2) ∧ Below w.heap.size w w'
  | none => Fell w base rb line e w'
theorem label_any (h : Rd w base rb mb n p f line uv fv) (g m cap : Nat) (s : ByteArray) (hm : 3 ≤ m) (hlt : g < w.heap.size) (c2 : w.cell? ⟨g, 2, none⟩ = some (.string s)) (hs : s.size ≤ 4194304) (ht : Tab w) :
    Calls Tryd.prog 109 #[.pointer (some ⟨rb, 0, none⟩), .slice (some ⟨g, 0, none⟩) m cap] w (LabEnd w base rb line (labelBy p f s.data.toList)) := by
  by_cases hf : f kLevels.data.toList = 0 ∨ f kCats.data.toList = 0
  · rw [labelBy, if_pos hf]
    exact label_early h _ hf
  · rw [labelBy, if_neg hf]
    have hl : f kLevels.data.toList ≠ 0 := fun e => hf (.inl e)
    have hc : f kCats.data.toList ≠ 0 := fun e => hf (.inr e)
    cases hp : L.parse s.data.toList with
    | none => exact label_bad h g m cap s hm hlt c2 hl hc (Lib.hid (parsed_none hs hp)) ht
    | some a =>
      have hk : a.2 < 18446744073709551616 := by
        have h1 := hp
        rw [← L.refP_parse] at h1
        exact (L.refP_whole _ _ a.1 a.2 h1).2.1
      have := label_some h g m cap s a.1 a.2 hk hm hlt c2 hl hc (Lib.hid (parsed_some hs hp)) ht _ (Lib.hid rfl)
      rw [Option.bind_some]
      cases hb : fitsB (p.ns.getD 0 0) (p.ns.getD 1 0) a.1 a.2 with
      | true => rw [hb] at this; exact this
      | false => rw [hb] at this; exact this

theorem infoFlr : (Tryd.prog.info? 76).map (fun i => (i.zero, i.size, i.bytes)) = some (some (.agg #[.string ⟨#[]⟩, .int .i64 0, .int .u64 0]), 3, 32) := by kernel_rfl
theorem infoUsr : (Tryd.prog.info? 72).map (fun i => (i.zero, i.size, i.bytes)) = some (some (.agg #[.string ⟨#[]⟩, .int .i64 0, .int .u64 0, .bool false]), 4, 40) := by kernel_rfl
/-- A line was taken: the reader behind it. -/
def Took (w : World) (base rb mb n : Nat) (p : Pol) (f : List UInt8 → Int) (line : Int) (e : Ending) (w' : World) : Prop :=
  e = .returned (.tuple #[]) ∧ (∃ uv fv, Rd w' base rb mb n p f line uv fv) ∧ Below base w w'

def sHidden : ByteArray := ⟨#[104, 105, 100, 100, 101, 110, 32]⟩
def wHidden : ByteArray := ⟨#[104, 105, 100, 100, 101, 110]⟩

def Cutp (s : ByteArray) (r : ByteArray) (b : Bool) : Prop := ∀ w : World, Calls Tryd.prog 105 #[.string s, .string ⟨#[104, 105, 100, 100, 101, 110, 32]⟩] w fun e w' => e = .returned (.tuple #[.string r, .bool b]) ∧ w = w'
theorem Cutp.call {s r : ByteArray} {b : Bool} (h : Cutp s r b) (w : World) : Calls Tryd.prog 105 #[.string s, .string ⟨#[104, 105, 100, 100, 101, 110, 32]⟩] w fun e w' => e = .returned (.tuple #[.string r, .bool b]) ∧ w = w' := h w
def Pln (s : ByteArray) (b : Bool) : Prop := ∀ w : World, Calls Tryd.prog 77 #[.string s] w fun e w' => e = .returned (.bool b) ∧ w = w'
theorem Pln.call {s : ByteArray} {b : Bool} (h : Pln s b) (w : World) : Calls Tryd.prog 77 #[.string s] w fun e w' => e = .returned (.bool b) ∧ w = w' := h w

set_option maxRecDepth 100000 in
set_option maxHeartbeats 1000000 in
theorem hid_off (h : Rd w base rb mb n p f line uv fv) (s r : ByteArray) (HC : Hid (Cutp s r false)) :
    Calls Tryd.prog 91 #[.pointer (some ⟨rb, 0, none⟩), .string s] w (Fell w base rb line) := by
  have HF := Lib.hid (h.fell (Below.refl base w))
  clear h
  go_enter Tryd.func91, Tryd.ntmps91
  go_wp2_with fail
  with_reducible refine (HC.out.call _).mono ?_
  rintro e w' ⟨rfl, rfl⟩
  go_wp2_with fail
  with_reducible refine (need_no _).mono ?_
  rintro e w' ⟨rfl, rfl⟩
  go_wp2_with fail
  exact ⟨rfl, HF.out⟩
set_option maxRecDepth 100000 in
set_option maxHeartbeats 1000000 in
theorem hid_bad (h : Rd w base rb mb n p f line uv fv) (s r : ByteArray) (HC : Hid (Cutp s r true)) (HP : Hid (Pln r false)) :
    Calls Tryd.prog 91 #[.pointer (some ⟨rb, 0, none⟩), .string s] w (Fell w base rb line) := by
  have HF := Lib.hid (h.fell (Below.refl base w))
  clear h
  go_enter Tryd.func91, Tryd.ntmps91
  go_wp2_with fail
  with_reducible refine (HC.out.call _).mono ?_
  rintro e w' ⟨rfl, rfl⟩
  go_wp2_with fail
  with_reducible refine (HP.out.call _).mono ?_
  rintro e w' ⟨rfl, rfl⟩
  go_wp2_with fail
  with_reducible refine (need_no _).mono ?_
  rintro e w' ⟨rfl, rfl⟩
  go_wp2_with fail
  exact ⟨rfl, HF.out⟩
set_option maxRecDepth 100000 in
set_option maxHeartbeats 1000000 in
theorem hid_known (h : Rd w base rb mb n p f line uv fv) (s r : ByteArray) (HC : Hid (Cutp s r true)) (HP : Hid (Pln r true)) (hf : f wHidden.data.toList ≠ 0) :
    Calls Tryd.prog 91 #[.pointer (some ⟨rb, 0, none⟩), .string s] w (Fell w base rb line) := by
  have HF := Lib.hid (h.fell (Below.refl base w))
  have HS := Lib.hid (say_no h wHidden (by unfold maxLen; decide) hf)
  unfold wHidden at HS
  clear h hf
  go_enter Tryd.func91, Tryd.ntmps91
  go_wp2_with fail
  with_reducible refine (HC.out.call _).mono ?_
  rintro e w' ⟨rfl, rfl⟩
  go_wp2_with fail
  with_reducible refine (HP.out.call _).mono ?_
  rintro e w' ⟨rfl, rfl⟩
  go_wp2_with fail
  with_reducible refine (need_yes _).mono ?_
  rintro e w' ⟨rfl, rfl⟩
  go_wp2_with fail
  with_reducible refine (HS.out).mono ?_
  rintro e w' ⟨rfl, rfl⟩
  go_wp2_with fail
  exact ⟨rfl, HF.out⟩
set_option maxRecDepth 100000 in
set_option maxHeartbeats 1000000 in
theorem hid_yes (h : Rd w base rb mb n p f line uv fv) (s : ByteArray) (r : List UInt8) (HC : Hid (Cutp s ⟨r.toArray⟩ true)) (HP : Hid (Pln ⟨r.toArray⟩ true)) (hf : f wHidden.data.toList = 0) (hn : n < maxLen) (hl : (Lit.int .i64 line).wf = true) :
    Calls Tryd.prog 91 #[.pointer (some ⟨rb, 0, none⟩), .string s] w (Took w base rb mb (n + 1) { p with hid := r } (upd f wHidden.data.toList line) line) := by
  have HS := Lib.hid (say_yes h wHidden (by unfold maxLen; decide) hf hn hl)
  have H := Lib.hid h
  unfold wHidden at HS
  obtain ⟨x, hx⟩ : ∃ x : ByteArray, x = ⟨r.toArray⟩ := ⟨_, rfl⟩
  rw [← hx] at HC HP
  have HX := Lib.hid hx
  clear h hf hx
  go_enter Tryd.func91, Tryd.ntmps91
  go_wp2_with fail
  with_reducible refine (HC.out.call _).mono ?_
  rintro e w' ⟨rfl, rfl⟩
  go_wp2_with fail
  with_reducible refine (HP.out.call _).mono ?_
  rintro e w' ⟨rfl, rfl⟩
  go_wp2_with fail
  with_reducible refine (need_yes _).mono ?_
  rintro e w' ⟨rfl, rfl⟩
  go_wp2_with fail
  with_reducible refine (HS.out).mono ?_
  rintro e w1 ⟨rfl, hR, hg⟩
  have HB := Lib.hid ((H.out.saidBelow hg).setCell (p := ⟨rb, 6, none⟩) H.out.hb (.string x))
  have HR := Lib.hid (hR.stored 6 (.string x) (p' := { p with hid := r }) (line' := line) (by rw [HX.out]; rfl) rfl rfl)
  have hc : w1.cell? ⟨rb, 6, none⟩ = some (.string ⟨p.hid.toArray⟩) := L.blk_cell hR.blk 6
  have hz := L.blk_free hR.blk 6
  clear hR hg
  go_wp2_with fail
  go_end0
  exact ⟨rfl, ⟨uv, fv, HR.out⟩, HB.out⟩
end Go.Proofs.YtadhhamfikpimaaDoor.O
