/-
  The contracts of the reference's Plain, num and Fits (layer 3).
  The contract of the reference's Fits (layer 3).
-/
import Derived.Test.YtadhhamfikpimaaDoorGc
import Derived.Test.YtadhhamfikpimaaDoorGl
import Derived.Test.YtadhhamfikpimaaDoorGd
namespace Go.Proofs.YtadhhamfikpimaaDoor.O
set_option linter.unusedVariables false
set_option linter.unusedSimpArgs false
open Go.RowKit
open T

set_option maxHeartbeats 400000 in
theorem refPlain_any (s : ByteArray) (w : World) (hs : s.size ≤ maxLen) :
    Calls Tryd.prog 45 #[.string s] w fun e w' => e = .returned (.bool (plainB s.data.toList)) ∧ w = w' := by
  unfold maxLen at hs
  by_cases h1 : s.size < 1
  · have Hn := Lib.hid (plain_short s (.inl h1))
    go_enter Tryd.func45, Tryd.ntmps45
    go_wp2
    go_ret
    exact ⟨ret_of (by rw [Hn.out]; rfl), rfl⟩
  by_cases h2 : 200 < s.size
  · have Hn := Lib.hid (plain_short s (.inr h2))
    go_enter Tryd.func45, Tryd.ntmps45
    go_wp2
    go_ret
    exact ⟨ret_of (by rw [Hn.out]; rfl), rfl⟩
  have Hn := Lib.hid (plain_all s (by omega) (by omega))
  go_enter Tryd.func45, Tryd.ntmps45
  go_wp2
  go_loop [3] (fun i => ∃ k : Nat, k ≤ s.size ∧ i = .int .i64 k ∧ Hid (∀ j (hj : j < s.data.toList.length), j < k → 32 ≤ s.data.toList[j].toNat ∧ s.data.toList[j].toNat ≤ 126)) (fun i => s.size - (intOf i).toNat)
  case atStart => exact ⟨0, Nat.zero_le _, rfl, Lib.hid (fun j _ h => absurd h (by omega))⟩
  case round =>
    obtain ⟨k, hk, rfl, HR⟩ := hrel
    by_cases hlt : k < s.size
    · go_wp2
      · go_ret
        exact ⟨ret_of (by rw [Hn.out, plain_bad s k hlt (by omega)]; rfl), rfl⟩
      · have hlo : 32 ≤ (s[k].toNat : Int) := by omega
        have hhi : (s[k].toNat : Int) ≤ 126 := by omega
        go_round
        case rel =>
          refine ⟨k + 1, by omega, by go_num, Lib.hid (fun j hj hjk => ?_)⟩
          by_cases e : j = k
          · subst e; rw [byte s j hlt hj]; omega
          · exact HR.out j hj (by omega)
        case measure => simp [intOf]; omega
      · go_ret
        exact ⟨ret_of (by rw [Hn.out, plain_bad s k hlt (by omega)]; rfl), rfl⟩
    · obtain rfl : k = s.size := by omega
      have HG := Lib.hid (plain_good s HR.out)
      go_wp2
      go_ret
      exact ⟨ret_of (by rw [Hn.out, HG.out]; rfl), rfl⟩

/-- A word's number within bounds. -/
def numIn (o : Option Nat) (lo hi : Int) : Int × Bool := match o with
  | some n => ((n : Int), inB lo hi n)
  | none => (0, false)
set_option maxHeartbeats 400000 in
theorem refNum_any (s : ByteArray) (lo hi : Int) (w : World) :
    Calls Tryd.prog 96 #[.string s, .int .i64 lo, .int .i64 hi] w fun e w' => e = .returned (.tuple #[.int .i64 (numIn (P.number s.data.toList) lo hi).1, .bool (numIn (P.number s.data.toList) lo hi).2]) ∧ w = w' := by
  have hN := refNumber_any s w
  cases hnum : P.number s.data.toList with
  | none =>
    rw [hnum, numVal_none] at hN
    have HN := Lib.hid hN
    clear hN hnum
    go_enter Tryd.func96, Tryd.ntmps96
    go_wp2_with fail
    with_reducible refine (HN.out).mono ?_
    rintro e w' ⟨rfl, rfl⟩
    go_wp2_with fail
    go_ret2
    exact ⟨rfl, rfl⟩
  | some n =>
    rw [hnum, numVal_some] at hN
    have HN := Lib.hid hN
    have HI : Hid (numIn (some n) lo hi = ((n : Int), decide (lo ≤ (n : Int)) && decide ((n : Int) ≤ hi))) := Lib.hid rfl
    clear hN hnum
    by_cases h1 : lo ≤ (n : Int)
    · have hd : decide (lo ≤ (n : Int)) = true := decide_eq_true h1
      rw [hd] at HI
      go_enter Tryd.func96, Tryd.ntmps96
      go_wp2_with fail
      with_reducible refine (HN.out).mono ?_
      rintro e w' ⟨rfl, rfl⟩
      go_wp2_with fail
      all_goals
        go_ret2
        refine ⟨?_, rfl⟩
        rw [HI.out]
        simp
        try assumption
    · have hd : decide (lo ≤ (n : Int)) = false := decide_eq_false h1
      rw [hd] at HI
      go_enter Tryd.func96, Tryd.ntmps96
      go_wp2_with fail
      with_reducible refine (HN.out).mono ?_
      rintro e w' ⟨rfl, rfl⟩
      go_wp2_with fail
      go_ret2
      refine ⟨?_, rfl⟩
      rw [HI.out]
      rfl
end Go.Proofs.YtadhhamfikpimaaDoor.O

namespace Go.Proofs.YtadhhamfikpimaaDoor.O
set_option linter.unusedVariables false
set_option linter.unusedSimpArgs false
open Go.RowKit
open T

theorem cats_nil {k : Nat} (hk : k < 18446744073709551616) (h : L.catsTo k 64 = []) : k = 0 := by
  apply Nat.eq_of_testBit_eq
  intro i
  rw [Nat.zero_testBit]
  rcases Nat.lt_or_ge i 64 with hi | hi
  · cases hb : k.testBit i with
    | false => rfl
    | true =>
      have := (L.cats_mem k i).2 ⟨hi, hb⟩
      rw [h] at this
      cases this
  · exact Nat.testBit_lt_two_pow (Nat.lt_of_lt_of_le hk (by
      have := Nat.pow_le_pow_right (n := 2) (by omega) hi
      simpa using this))
theorem last_max {xs : List Nat} (hs : xs.Pairwise (· < ·)) {n : Nat} (hn : xs.length = n + 1) {x : Nat} (hx : x ∈ xs) : x ≤ xs.getD n 0 := by
  obtain ⟨j, hj, rfl⟩ := List.getElem_of_mem hx
  rw [List.getD_eq_getElem?_getD, List.getElem?_eq_getElem (by omega), Option.getD_some]
  rcases Nat.lt_or_ge j n with h | h
  · exact Nat.le_of_lt (List.pairwise_iff_getElem.1 hs j n hj (by omega) h)
  · have : j = n := by omega
    subst this
    exact Nat.le_refl _
theorem fits_last {k n : Nat} {C : Int} (hk : k < 18446744073709551616) (hC : 0 ≤ C) (hn : (L.catsTo k 64).length = n + 1) : decide (k < 2 ^ C.toNat) = decide (((L.catsTo k 64).getD n 0 : Int) < C) := by
  have hmem : (L.catsTo k 64).getD n 0 ∈ L.catsTo k 64 := by
    rw [List.getD_eq_getElem?_getD, List.getElem?_eq_getElem (by omega), Option.getD_some]
    exact List.getElem_mem _
  obtain ⟨h64, hbit⟩ := (L.cats_mem k _).1 hmem
  rw [decide_eq_decide]
  constructor
  · intro h
    have := Nat.ge_two_pow_of_testBit hbit
    have h2 : 2 ^ (L.catsTo k 64).getD n 0 < 2 ^ C.toNat := Nat.lt_of_le_of_lt this h
    have := (Nat.pow_lt_pow_iff_right (a := 2) (by omega)).1 h2
    omega
  · intro h
    refine Nat.lt_of_lt_of_le ?_ (Nat.pow_le_pow_right (n := 2) (by omega) (show (L.catsTo k 64).getD n 0 + 1 ≤ C.toNat by omega))
    apply Nat.lt_pow_two_of_testBit
    intro i hi
    cases hb : k.testBit i with
    | false => rfl
    | true =>
      rcases Nat.lt_or_ge i 64 with h' | h'
      · have := last_max (L.cats_sorted k) hn ((L.cats_mem k i).2 ⟨h', hb⟩)
        omega
      · have := Nat.testBit_lt_two_pow (x := k) (i := i) (Nat.lt_of_lt_of_le hk (by
          have := Nat.pow_le_pow_right (n := 2) (by omega) h'
          simpa using this))
        rw [this] at hb
        cases hb

set_option maxRecDepth 100000 in
set_option maxHeartbeats 2000000 in
theorem refFits_any (n0 n1 n2 n3 n4 n5 : Int) (hid : ByteArray) (uA fA : Option Addr) (un fn ucap fcap : Nat) (l : Int) (k : Nat) (w : World) (hk : k < 18446744073709551616) :
    Calls Tryd.prog 30 #[polA n0 n1 n2 n3 n4 n5 hid (.slice uA un ucap) (.slice fA fn fcap), L.lab l k] w fun e w' => e = .returned (.bool (fitsB n0 n1 l k)) ∧ Below w.heap.size w w' := by
  by_cases h0 : l < 0
  · have Hf := Lib.hid (show fitsB n0 n1 l k = false by simp [fitsB]; omega)
    go_enter Tryd.func30, Tryd.ntmps30
    go_wp2_with fail
    go_ret
    exact ⟨ret_of (by rw [Hf.out]; rfl), two_new _ _ _⟩
  by_cases h1 : n0 ≤ l
  · have Hf := Lib.hid (show fitsB n0 n1 l k = false by simp [fitsB]; omega)
    go_enter Tryd.func30, Tryd.ntmps30
    go_wp2_with fail
    go_ret
    exact ⟨ret_of (by rw [Hf.out]; rfl), two_new _ _ _⟩
  have hf1 : fitsB n0 n1 l k = (decide (0 ≤ n1) && decide (k < 2 ^ n1.toNat)) := by
    unfold fitsB
    rw [decide_eq_true (show 0 ≤ l by omega), decide_eq_true (show l < n0 by omega)]
    rfl
  obtain ⟨w0, hw0⟩ : ∃ w0 : World, w0 = (w.alloc (.cells #[.int .i64 n0, .int .i64 n1, .int .i64 n2, .int .i64 n3, .int .i64 n4, .int .i64 n5, .string hid, .slice uA un ucap, .slice fA fn fcap] 26)).alloc (.cells #[.int .i64 l, .int .u64 (k : Int)] 40) := ⟨_, rfl⟩
  have tb : Below w.heap.size w w0 := by rw [hw0]; exact two_new _ _ _
  have t0 := (Below.heap_alloc (w.alloc (.cells #[.int .i64 n0, .int .i64 n1, .int .i64 n2, .int .i64 n3, .int .i64 n4, .int .i64 n5, .string hid, .slice uA un ucap, .slice fA fn fcap] 26)) (.cells #[.int .i64 l, .int .u64 (k : Int)] 40) w.heap.size (by simp)).trans (heap_alloc_new w _)
  rw [← hw0] at t0
  have HC := Lib.hid (L.refCats_any l k w0)
  have HT0 := Lib.hid t0
  have HTB := Lib.hid tb
  have HF1 := Lib.hid hf1
  have HLS : Hid (∀ m, (L.catsTo k 64).length = m + 1 → 0 ≤ n1 → decide (k < 2 ^ n1.toNat) = decide (((L.catsTo k 64).getD m 0 : Int) < n1)) := Lib.hid (fun m hm hC => fits_last hk hC hm)
  have HLN : Hid (L.catsTo k 64 = [] → decide (k < 2 ^ n1.toNat) = true) := Lib.hid (fun h => by rw [cats_nil hk h]; exact decide_eq_true (Nat.pow_pos (by omega)))
  have hle := L.catsTo_len k 64
  generalize L.catsTo k 64 = xs at *
  clear t0 tb hf1
  go_enter Tryd.func30, Tryd.ntmps30
  go_wp2_with fail
  rw [← hw0]
  clear hw0
  with_reducible refine (HC.out).mono ?_
  rintro e w1 ⟨v, rfl, hown, hb1⟩
  obtain ⟨A, cap, hv, hcap, hA⟩ := own_form hown
  subst hv
  have HT1 := Lib.hid ((hb1.block _ (L.blk_lt HT0.out)).trans HT0.out)
  have HB1 := Lib.hid (HTB.out.trans (hb1.mono HTB.out.size))
  have a1 := (L.blk_cell HT1.out 1)
  generalize hpb : w.heap.size = pb at *
  have HPB := Lib.hid hpb
  clear hpb
  clear hown hb1 HC HT0 HTB
  by_cases h2 : 0 ≤ n1
  · have hd2 : decide (0 ≤ n1) = true := decide_eq_true h2
    rw [hd2, Bool.true_and] at HF1
    rcases xs with _ | ⟨x, r⟩
    · have HO := Lib.hid (HF1.out.trans (HLN.out rfl))
      clear HF1 HLS HLN hA
      go_wp2_with fail
      go_quiet (fail)
      go_wp2_with fail
      go_ret
      exact ⟨ret_of (by rw [HO.out]; rfl), by rw [HPB.out]; exact below_drewN HB1.out _⟩
    · obtain ⟨g, rfl, _, hlt, hcells⟩ := hA (by simp)
      have hlast := hcells r.length (.int .i64 (((x :: r).getD r.length 0 : Nat) : Int)) (by
        rw [L.intCells, List.getElem?_map, List.getD_eq_getElem?_getD, List.getElem?_eq_getElem (by simp)]
        rfl)
      have HO := Lib.hid (HF1.out.trans (HLS.out r.length (by simp) h2))
      obtain ⟨m, hm⟩ : ∃ m, m = r.length := ⟨_, rfl⟩
      have hlen : (x :: r).length = m + 1 := by simp [hm]
      rw [hlen] at hle
      rw [← hm] at hlast HO
      rw [hlen]
      generalize (x :: r).getD m 0 = la at *
      clear HF1 HLS HLN hA hcells hm hlen
      have e1 : ((((m + 1 : Nat) : Int)) == 0) = false := beq_eq_false_iff_ne.2 (by omega)
      have e1' : (((m : Int) + 1) == 0) = false := beq_eq_false_iff_ne.2 (by omega)
      go_wp2_with fail
      go_quiet (fail)
      go_wp2_with fail
      go_ret
      exact ⟨ret_of (by rw [HO.out]; rfl), by rw [HPB.out]; exact below_drewN HB1.out _⟩
  · have hd2 : decide (0 ≤ n1) = false := decide_eq_false h2
    rw [hd2] at HF1
    clear HLS HLN hA
    go_wp2_with fail
    go_quiet (fail)
    go_wp2_with fail
    go_ret
    exact ⟨ret_of (by rw [HF1.out]; rfl), by rw [HPB.out]; exact below_drewN HB1.out _⟩
end Go.Proofs.YtadhhamfikpimaaDoor.O
