/-
  The contracts of the reference's Number, Name and Decimal: they come to the same plain functions as the program's own.
-/
import Derived.Test.YtbilhdfoajahkaaDoorLawNumBack
import Derived.Deep.RegionWith
namespace Go.Proofs.YtbilhdfoajahkaaDoor.T
open Go.RowKit

theorem val_bad (s : ByteArray) (k n : Nat) (hk : k < s.size) (h : (s[k].toNat : Int) < 48 ∨ 57 < (s[k].toNat : Int)) : P.valGo (s.data.toList.drop k) n = none := by
  have hl : k < s.data.toList.length := by rw [← Lib.size_eq]; exact hk
  rw [List.drop_eq_getElem_cons hl, P.valGo, if_pos (by rw [byte s k hk hl]; omega)]
theorem val_on (s : ByteArray) (k n : Nat) (hk : k < s.size) (h1 : 48 ≤ (s[k].toNat : Int)) (h2 : (s[k].toNat : Int) ≤ 57) :
    P.valGo (s.data.toList.drop k) n = P.valGo (s.data.toList.drop (k + 1)) (10 * n + (s[k].toNat - 48)) := by
  have hl : k < s.data.toList.length := by rw [← Lib.size_eq]; exact hk
  have e := byte s k hk hl
  rw [List.drop_eq_getElem_cons hl, P.valGo, if_neg (by rw [e]; omega), e]
theorem val_end (s : ByteArray) (n : Nat) : P.valGo (s.data.toList.drop s.size) n = some n := by
  rw [Lib.size_eq, List.drop_length, P.valGo]
theorem pow_bound {n d k : Nat} (h : n < 10 ^ k) (hd : d < 10) (hk : k < 10) : 10 * n + d < 10 ^ (k + 1) ∧ 10 * n + d ≤ 9999999999 := by
  have h1 : 10 * n + d < 10 ^ (k + 1) := by rw [Nat.pow_succ]; omega
  have h2 : 10 ^ (k + 1) ≤ 10 ^ 10 := Nat.pow_le_pow_right (by omega) (by omega)
  omega
theorem number_val (s : ByteArray) (h : 0 < s.size) (h0 : s.size ≤ 1 ∨ ¬ s[0].toNat = 48) : P.number s.data.toList = P.upTo (P.valGo s.data.toList 0) := by
  rw [number_go s h (by rcases h0 with h0 | h0; exact .inl (by omega); exact .inr h0), P.numGo_val _ _ (by omega)]
theorem upTo_none : P.upTo none = none := rfl
theorem upTo_big (n : Nat) (h : 2147483647 < n) : P.upTo (some n) = none := by simp [P.upTo, h]
theorem upTo_in (n : Nat) (h : n ≤ 2147483647) : P.upTo (some n) = some n := by simp [P.upTo]; omega

set_option maxHeartbeats 1000000 in
theorem refNumber_any (s : ByteArray) (w : World) :
    Calls Tryd.prog 24 #[.string s] w fun e w' => e = .returned (numVal (P.number s.data.toList)) ∧ w = w' := by
  by_cases h0 : s.size = 0
  · have Hn := Lib.hid (number_nil s h0)
    have h0' : ((s.size : Int) == 0) = true := beq_iff_eq.2 (by omega)
    clear h0
    go_enter Tryd.func24, Tryd.ntmps24
    go_wp2
    go_ret2
    exact ⟨ret_of (by rw [Hn.out]; rfl), rfl⟩
  have h0' : ((s.size : Int) == 0) = false := beq_eq_false_iff_ne.2 (by omega)
  by_cases h10 : 10 < s.size
  · have Hn := Lib.hid (P.number_long s.data.toList (by rw [← Lib.size_eq]; exact h10))
    clear h0
    go_enter Tryd.func24, Tryd.ntmps24
    go_wp2
    go_ret2
    exact ⟨ret_of (by rw [Hn.out]; rfl), rfl⟩
  have hpos : 0 < s.size := by omega
  clear h0
  by_cases h1 : 1 < s.size
  · by_cases hz : s[0].toNat = 48
    · have Hn := Lib.hid (number_zero s h1 hz)
      have hz' : ((s[0].toNat : Int) == 48) = true := beq_iff_eq.2 (by omega)
      clear hz
      go_enter Tryd.func24, Tryd.ntmps24
      go_wp2
      go_ret2
      exact ⟨ret_of (by rw [Hn.out]; rfl), rfl⟩
    · have Hn := Lib.hid (number_val s hpos (.inr hz))
      have hz' : ((s[0].toNat : Int) == 48) = false := beq_eq_false_iff_ne.2 (by omega)
      clear hz
      go_enter Tryd.func24, Tryd.ntmps24
      go_wp2
      go_loop [4, 5] (fun t i => ∃ k n : Nat, k ≤ s.size ∧ i = .int .i64 k ∧ t = .int .i64 n ∧ n ≤ 9999999999 ∧ Hid (n < 10 ^ k) ∧ Hid (P.valGo s.data.toList 0 = P.valGo (s.data.toList.drop k) n)) (fun _ i => s.size - (intOf i).toNat)
      case atStart => exact ⟨0, 0, Nat.zero_le _, rfl, rfl, by omega, Lib.hid (by decide), Lib.hid rfl⟩
      case round =>
        obtain ⟨k, n, hk, rfl, rfl, hn, HP, HR⟩ := hrel
        by_cases hlt : k < s.size
        · go_wp2
          · go_ret2
            exact ⟨ret_of (by rw [Hn.out, HR.out, val_bad s k n hlt (by omega), upTo_none]; rfl), rfl⟩
          · have hon := val_on s k n hlt (by omega) (by omega)
            have hpb := pow_bound (d := s[k].toNat - 48) HP.out (by omega) (by omega)
            go_round
            case rel => exact ⟨k + 1, 10 * n + (s[k].toNat - 48), by omega, by go_num, by go_num, hpb.2, Lib.hid hpb.1, Lib.hid (HR.out.trans hon)⟩
            case measure => simp [intOf]; omega
          · go_ret2
            exact ⟨ret_of (by rw [Hn.out, HR.out, val_bad s k n hlt (by omega), upTo_none]; rfl), rfl⟩
        · obtain rfl : s.size = k := by omega
          by_cases hb : 2147483647 < n
          · go_wp2
            go_ret2
            exact ⟨ret_of (by rw [Hn.out, HR.out, val_end, upTo_big n hb]; rfl), rfl⟩
          · go_wp2
            go_ret2
            exact ⟨ret_of (by rw [Hn.out, HR.out, val_end, upTo_in n (by omega)]; rfl), rfl⟩
  · have Hn := Lib.hid (number_val s hpos (.inl (by omega)))
    go_enter Tryd.func24, Tryd.ntmps24
    go_wp2
    go_loop [4, 5] (fun t i => ∃ k n : Nat, k ≤ s.size ∧ i = .int .i64 k ∧ t = .int .i64 n ∧ n ≤ 9999999999 ∧ Hid (n < 10 ^ k) ∧ Hid (P.valGo s.data.toList 0 = P.valGo (s.data.toList.drop k) n)) (fun _ i => s.size - (intOf i).toNat)
    case atStart => exact ⟨0, 0, Nat.zero_le _, rfl, rfl, by omega, Lib.hid (by decide), Lib.hid rfl⟩
    case round =>
      obtain ⟨k, n, hk, rfl, rfl, hn, HP, HR⟩ := hrel
      by_cases hlt : k < s.size
      · go_wp2
        · go_ret2
          exact ⟨ret_of (by rw [Hn.out, HR.out, val_bad s k n hlt (by omega), upTo_none]; rfl), rfl⟩
        · have hon := val_on s k n hlt (by omega) (by omega)
          have hpb := pow_bound (d := s[k].toNat - 48) HP.out (by omega) (by omega)
          go_round
          case rel => exact ⟨k + 1, 10 * n + (s[k].toNat - 48), by omega, by go_num, by go_num, hpb.2, Lib.hid hpb.1, Lib.hid (HR.out.trans hon)⟩
          case measure => simp [intOf]; omega
        · go_ret2
          exact ⟨ret_of (by rw [Hn.out, HR.out, val_bad s k n hlt (by omega), upTo_none]; rfl), rfl⟩
      · obtain rfl : s.size = k := by omega
        by_cases hb : 2147483647 < n
        · go_wp2
          go_ret2
          exact ⟨ret_of (by rw [Hn.out, HR.out, val_end, upTo_big n hb]; rfl), rfl⟩
        · go_wp2
          go_ret2
          exact ⟨ret_of (by rw [Hn.out, HR.out, val_end, upTo_in n (by omega)]; rfl), rfl⟩

theorem refName_any (s : ByteArray) (w : World) (hs : s.size ≤ maxLen) :
    Calls Tryd.prog 30 #[.string s] w fun e w' => e = .returned (.bool (P.name s.data.toList)) ∧ w = w' := by
  unfold maxLen at hs
  by_cases h1 : s.size < 1
  · have Hn := Lib.hid (name_long s (.inl h1))
    go_enter Tryd.func30, Tryd.ntmps30
    go_wp2
    go_ret
    exact ⟨ret_of (by rw [Hn.out]; rfl), rfl⟩
  by_cases h2 : 64 < s.size
  · have Hn := Lib.hid (name_long s (.inr h2))
    go_enter Tryd.func30, Tryd.ntmps30
    go_wp2
    go_ret
    exact ⟨ret_of (by rw [Hn.out]; rfl), rfl⟩
  have Hn := Lib.hid (name_all s (by omega) (by omega))
  go_enter Tryd.func30, Tryd.ntmps30
  go_wp2
  go_loop [3] (fun i => ∃ k : Nat, k ≤ s.size ∧ i = .int .i64 k ∧ Hid (∀ j (hj : j < s.data.toList.length), j < k → 33 ≤ s.data.toList[j].toNat ∧ s.data.toList[j].toNat ≤ 126)) (fun i => s.size - (intOf i).toNat)
  case atStart => exact ⟨0, Nat.zero_le _, rfl, Lib.hid (fun j _ h => absurd h (by omega))⟩
  case round =>
    obtain ⟨k, hk, rfl, HR⟩ := hrel
    by_cases hlt : k < s.size
    · go_wp2
      · go_ret
        exact ⟨ret_of (by rw [Hn.out, all_bad s k hlt (by omega)]; rfl), rfl⟩
      · have hlo : 33 ≤ (s[k].toNat : Int) := by omega
        have hhi : (s[k].toNat : Int) ≤ 126 := by omega
        go_round
        case rel =>
          refine ⟨k + 1, by omega, by go_num, Lib.hid (fun j hj hjk => ?_)⟩
          by_cases e : j = k
          · subst e; rw [byte s j hlt hj]; omega
          · exact HR.out j hj (by omega)
        case measure => simp [intOf]; omega
      · go_ret
        exact ⟨ret_of (by rw [Hn.out, all_bad s k hlt (by omega)]; rfl), rfl⟩
    · go_wp2
      go_ret
      have hall : (s.data.toList.all fun c => decide (33 ≤ c.toNat) && decide (c.toNat ≤ 126)) = true := by
        rw [List.all_eq_true]
        intro c hc
        obtain ⟨j, hj, rfl⟩ := List.getElem_of_mem hc
        have := HR.out j hj (by rw [← Lib.size_eq] at hj; omega)
        rw [decide_eq_true this.1, decide_eq_true this.2]; rfl
      exact ⟨ret_of (by rw [Hn.out, hall]; rfl), rfl⟩
end Go.Proofs.YtbilhdfoajahkaaDoor.T
