/-
  The contracts of the reference's Number, Name and Decimal: they come to the same plain functions as the program's own.
  The contract of the reference's Decimal, by induction over the number.
  The contract of the reference's Print for labels.
  The contract of the reference's Words: for every text of at most 2^22 bytes.
  The contract of the reference's Parse for labels: for every text of at most 2^22 bytes.
-/
import Derived.Test.YtadhhamfikpimaaDoorGa
import Derived.Deep.RegionWith
import Derived.Test.YtadhhamfikpimaaDoorGf
import Derived.Test.YtadhhamfikpimaaDoorGd
import Derived.RegionTactic
import Derived.BigRegion
namespace Go.Proofs.YtadhhamfikpimaaDoor.T
open Go.RowKit

theorem val_bad (s : ByteArray) (k n : Nat) (hk : k < s.size) (h : (s[k].toNat : Int) < 48 ∨ 57 < (s[k].toNat : Int)) : P.valGo (s.data.toList.drop k) n = none := by
  have hl : k < s.data.toList.length := by rw [← Lib.size_eq]; exact hk
  rw [List.drop_eq_getElem_cons hl, P.valGo, if_pos (by rw [byte s k hk hl]; omega)]
theorem val_on (s : ByteArray) (k n : Nat) (hk : k < s.size) (h1 : 48 ≤ (s[k].toNat : Int)) (h2 : (s[k].toNat : Int) ≤ 57) :
    P.valGo (s.data.toList.drop k) n = P.valGo (s.data.toList.drop (k + 1)) (10 * n + (s[k].toNat - 48)) := by
  have hl : k < s.data.toList.length := by rw [← Lib.size_eq]; exact hk
  have e := byte s k hk hl
  rw [List.drop_eq_getElem_cons hl, P.valGo, if_neg (by rw [e]; omega), e]
theorem val_end (s : ByteArray) (n : Nat) : P.valGo (s.data.toList.drop s.size) n = some n := by
  rw [Lib.size_eq, List.drop_length, P.valGo]
theorem pow_bound {n d k : Nat} (h : n < 10 ^ k) (hd : d < 10) (hk : k < 10) : 10 * n + d < 10 ^ (k + 1) ∧ 10 * n + d ≤ 9999999999 := by
  have h1 : 10 * n + d < 10 ^ (k + 1) := by rw [Nat.pow_succ]; omega
  have h2 : 10 ^ (k + 1) ≤ 10 ^ 10 := Nat.pow_le_pow_right (by omega) (by omega)
  omega
theorem number_val (s : ByteArray) (h : 0 < s.size) (h0 : s.size ≤ 1 ∨ ¬ s[0].toNat = 48) : P.number s.data.toList = P.upTo (P.valGo s.data.toList 0) := by
  rw [number_go s h (by rcases h0 with h0 | h0; exact .inl (by omega); exact .inr h0), P.numGo_val _ _ (by omega)]
theorem upTo_none : P.upTo none = none := rfl
theorem upTo_big (n : Nat) (h : 2147483647 < n) : P.upTo (some n) = none := by simp [P.upTo, h]
theorem upTo_in (n : Nat) (h : n ≤ 2147483647) : P.upTo (some n) = some n := by simp [P.upTo]; omega

set_option maxHeartbeats 1000000 in
theorem refNumber_any (s : ByteArray) (w : World) :
    Calls Tryd.prog 97 #[.string s] w fun e w' => e = .returned (numVal (P.number s.data.toList)) ∧ w = w' := by
  by_cases h0 : s.size = 0
  · have Hn := Lib.hid (number_nil s h0)
    have h0' : ((s.size : Int) == 0) = true := beq_iff_eq.2 (by omega)
    clear h0
    go_enter Tryd.func97, Tryd.ntmps97
    go_wp2
    go_ret2
    exact ⟨ret_of (by rw [Hn.out]; rfl), rfl⟩
  have h0' : ((s.size : Int) == 0) = false := beq_eq_false_iff_ne.2 (by omega)
  by_cases h10 : 10 < s.size
  · have Hn := Lib.hid (P.number_long s.data.toList (by rw [← Lib.size_eq]; exact h10))
    clear h0
    go_enter Tryd.func97, Tryd.ntmps97
    go_wp2
    go_ret2
    exact ⟨ret_of (by rw [Hn.out]; rfl), rfl⟩
  have hpos : 0 < s.size := by omega
  clear h0
  by_cases h1 : 1 < s.size
  · by_cases hz : s[0].toNat = 48
    · have Hn := Lib.hid (number_zero s h1 hz)
      have hz' : ((s[0].toNat : Int) == 48) = true := beq_iff_eq.2 (by omega)
      clear hz
      go_enter Tryd.func97, Tryd.ntmps97
      go_wp2
      go_ret2
      exact ⟨ret_of (by rw [Hn.out]; rfl), rfl⟩
    · have Hn := Lib.hid (number_val s hpos (.inr hz))
      have hz' : ((s[0].toNat : Int) == 48) = false := beq_eq_false_iff_ne.2 (by omega)
      clear hz
      go_enter Tryd.func97, Tryd.ntmps97
      go_wp2
      go_loop [4, 5] (fun t i => ∃ k n : Nat, k ≤ s.size ∧ i = .int .i64 k ∧ t = .int .i64 n ∧ n ≤ 9999999999 ∧ Hid (n < 10 ^ k) ∧ Hid (P.valGo s.data.toList 0 = P.valGo (s.data.toList.drop k) n)) (fun _ i => s.size - (intOf i).toNat)
      case atStart => exact ⟨0, 0, Nat.zero_le _, rfl, rfl, by omega, Lib.hid (by decide), Lib.hid rfl⟩
      case round =>
        obtain ⟨k, n, hk, rfl, rfl, hn, HP, HR⟩ := hrel
        by_cases hlt : k < s.size
        · go_wp2
          · go_ret2
            exact ⟨ret_of (by rw [Hn.out, HR.out, val_bad s k n hlt (by omega), upTo_none]; rfl), rfl⟩
          · have hon := val_on s k n hlt (by omega) (by omega)
            have hpb := pow_bound (d := s[k].toNat - 48) HP.out (by omega) (by omega)
            go_round
            case rel => exact ⟨k + 1, 10 * n + (s[k].toNat - 48), by omega, by go_num, by go_num, hpb.2, Lib.hid hpb.1, Lib.hid (HR.out.trans hon)⟩
            case measure => simp [intOf]; omega
          · go_ret2
            exact ⟨ret_of (by rw [Hn.out, HR.out, val_bad s k n hlt (by omega), upTo_none]; rfl), rfl⟩
        · obtain rfl : s.size = k := by omega
          by_cases hb : 2147483647 < n
          · go_wp2
            go_ret2
            exact ⟨ret_of (by rw [Hn.out, HR.out, val_end, upTo_big n hb]; rfl), rfl⟩
          · go_wp2
            go_ret2
            exact ⟨ret_of (by rw [Hn.out, HR.out, val_end, upTo_in n (by omega)]; rfl), rfl⟩
  · have Hn := Lib.hid (number_val s hpos (.inl (by omega)))
    go_enter Tryd.func97, Tryd.ntmps97
    go_wp2
    go_loop [4, 5] (fun t i => ∃ k n : Nat, k ≤ s.size ∧ i = .int .i64 k ∧ t = .int .i64 n ∧ n ≤ 9999999999 ∧ Hid (n < 10 ^ k) ∧ Hid (P.valGo s.data.toList 0 = P.valGo (s.data.toList.drop k) n)) (fun _ i => s.size - (intOf i).toNat)
    case atStart => exact ⟨0, 0, Nat.zero_le _, rfl, rfl, by omega, Lib.hid (by decide), Lib.hid rfl⟩
    case round =>
      obtain ⟨k, n, hk, rfl, rfl, hn, HP, HR⟩ := hrel
      by_cases hlt : k < s.size
      · go_wp2
        · go_ret2
          exact ⟨ret_of (by rw [Hn.out, HR.out, val_bad s k n hlt (by omega), upTo_none]; rfl), rfl⟩
        · have hon := val_on s k n hlt (by omega) (by omega)
          have hpb := pow_bound (d := s[k].toNat - 48) HP.out (by omega) (by omega)
          go_round
          case rel => exact ⟨k + 1, 10 * n + (s[k].toNat - 48), by omega, by go_num, by go_num, hpb.2, Lib.hid hpb.1, Lib.hid (HR.out.trans hon)⟩
          case measure => simp [intOf]; omega
        · go_ret2
          exact ⟨ret_of (by rw [Hn.out, HR.out, val_bad s k n hlt (by omega), upTo_none]; rfl), rfl⟩
      · obtain rfl : s.size = k := by omega
        by_cases hb : 2147483647 < n
        · go_wp2
          go_ret2
          exact ⟨ret_of (by rw [Hn.out, HR.out, val_end, upTo_big n hb]; rfl), rfl⟩
        · go_wp2
          go_ret2
          exact ⟨ret_of (by rw [Hn.out, HR.out, val_end, upTo_in n (by omega)]; rfl), rfl⟩

theorem refName_any (s : ByteArray) (w : World) (hs : s.size ≤ maxLen) :
    Calls Tryd.prog 46 #[.string s] w fun e w' => e = .returned (.bool (P.name s.data.toList)) ∧ w = w' := by
  unfold maxLen at hs
  by_cases h1 : s.size < 1
  · have Hn := Lib.hid (name_long s (.inl h1))
    go_enter Tryd.func46, Tryd.ntmps46
    go_wp2
    go_ret
    exact ⟨ret_of (by rw [Hn.out]; rfl), rfl⟩
  by_cases h2 : 64 < s.size
  · have Hn := Lib.hid (name_long s (.inr h2))
    go_enter Tryd.func46, Tryd.ntmps46
    go_wp2
    go_ret
    exact ⟨ret_of (by rw [Hn.out]; rfl), rfl⟩
  have Hn := Lib.hid (name_all s (by omega) (by omega))
  go_enter Tryd.func46, Tryd.ntmps46
  go_wp2
  go_loop [3] (fun i => ∃ k : Nat, k ≤ s.size ∧ i = .int .i64 k ∧ Hid (∀ j (hj : j < s.data.toList.length), j < k → 33 ≤ s.data.toList[j].toNat ∧ s.data.toList[j].toNat ≤ 126)) (fun i => s.size - (intOf i).toNat)
  case atStart => exact ⟨0, Nat.zero_le _, rfl, Lib.hid (fun j _ h => absurd h (by omega))⟩
  case round =>
    obtain ⟨k, hk, rfl, HR⟩ := hrel
    by_cases hlt : k < s.size
    · go_wp2
      · go_ret
        exact ⟨ret_of (by rw [Hn.out, all_bad s k hlt (by omega)]; rfl), rfl⟩
      · have hlo : 33 ≤ (s[k].toNat : Int) := by omega
        have hhi : (s[k].toNat : Int) ≤ 126 := by omega
        go_round
        case rel =>
          refine ⟨k + 1, by omega, by go_num, Lib.hid (fun j hj hjk => ?_)⟩
          by_cases e : j = k
          · subst e; rw [byte s j hlt hj]; omega
          · exact HR.out j hj (by omega)
        case measure => simp [intOf]; omega
      · go_ret
        exact ⟨ret_of (by rw [Hn.out, all_bad s k hlt (by omega)]; rfl), rfl⟩
    · go_wp2
      go_ret
      have hall : (s.data.toList.all fun c => decide (33 ≤ c.toNat) && decide (c.toNat ≤ 126)) = true := by
        rw [List.all_eq_true]
        intro c hc
        obtain ⟨j, hj, rfl⟩ := List.getElem_of_mem hc
        have := HR.out j hj (by rw [← Lib.size_eq] at hj; omega)
        rw [decide_eq_true this.1, decide_eq_true this.2]; rfl
      exact ⟨ret_of (by rw [Hn.out, hall]; rfl), rfl⟩
end Go.Proofs.YtadhhamfikpimaaDoor.T

namespace Go.Proofs.YtadhhamfikpimaaDoor.T
open Go.RowKit

theorem bcell {W w1 : World} (hb : Below W.heap.size W w1) (b o : Nat) (h : b < W.heap.size) : w1.cell? ⟨b, o, none⟩ = W.cell? ⟨b, o, none⟩ := hb.cell (p := ⟨b, o, none⟩) h
theorem conv_one (c : UInt8) (W : World) (a : Nat) (h : W.cell? ⟨a, 0, none⟩ = some (.int .u8 (c.toNat : Int))) : (convert 22 9 (.slice (some ⟨a, 0, none⟩) 1 1)).run Tryd.prog W = .ok (.string ⟨#[c]⟩) W :=
  conv_bytes W a 0 1 1 [c] rfl (fun j hj => by
    match j, hj with
    | 0, _ => simpa using h)
theorem dec_small (m : Nat) (h : m < 10) : Lib.decDigits m = [UInt8.ofNat (48 + m)] := Lib.decDigits_one h
theorem dec_big (m : Nat) (h : ¬ m < 10) : Lib.decDigits m = Lib.decDigits (m / 10) ++ [UInt8.ofNat (48 + m % 10)] := by
  conv => lhs; rw [Lib.decDigits, dif_neg h]
theorem str_append (l r : List UInt8) : (⟨l.toArray⟩ : ByteArray) ++ ⟨r.toArray⟩ = ⟨(l ++ r).toArray⟩ := by
  apply ByteArray.ext
  simp

set_option maxHeartbeats 1000000 in
set_option maxRecDepth 100000 in
theorem refDecimal_in : ∀ (m : Nat) (w : World), m ≤ 2147483647 →
    Calls Tryd.prog 75 #[.int .i64 m] w fun e w' => e = .returned (.string ⟨(Lib.decDigits m).toArray⟩) ∧ Below w.heap.size w w' := by
  intro m
  induction m using Nat.strongRecOn with
  | ind m ih =>
    intro w hm
    have IH := Lib.hid ih
    clear ih
    by_cases h : m < 10
    · have HD := Lib.hid (dec_small m h)
      have hd := P.digit m h
      generalize UInt8.ofNat (48 + m) = c at *
      have hcv := conv_one c
      have hd' : (c.toNat : Int) = 48 + (m : Int) := by omega
      clear hd
      rw [hd'] at hcv
      clear hd'
      go_enter Tryd.func75, Tryd.ntmps75
      go_wp2_with fail
      go_ret
      exact ⟨ret_of (by rw [HD.out]; rfl), (Below.refl _ _).alloc (Nat.le_refl _) _⟩
    · have HD := Lib.hid (dec_big m h)
      have hd := P.digit (m % 10) (by omega)
      have ihq := IH.out (m / 10) (by omega)
      clear IH
      generalize UInt8.ofNat (48 + m % 10) = c at *
      have hln : (Lib.decDigits (m / 10)).length ≤ 10 := by
        have := P.decimal_length ((m / 10 : Nat) : Int)
        rwa [P.decimal_in _ (by omega) (by omega), Int.toNat_natCast] at this
      generalize Lib.decDigits (m / 10) = l at *
      have hadd : (⟨l.toArray⟩ : ByteArray).size + (⟨#[c]⟩ : ByteArray).size ≤ 9223372036854775807 := by
        rw [list_size]; show l.length + 1 ≤ _; omega
      have hcv := conv_one c
      have hd' : (c.toNat : Int) = IntKind.u8.wrap (IntKind.i64.wrap (48 + (m : Int).tmod 10)) := by
        rw [Int.tmod_eq_emod_of_nonneg (by omega), IntWalk.i64_in _ (by omega), IntKind.wrap_u8]; omega
      clear hd
      rw [hd'] at hcv
      clear hd'
      have IQ : Hid (∀ w : World, Calls Tryd.prog 75 #[.int .i64 (IntKind.i64.wrap ((m : Int) / 10))] w fun e w' => e = .returned (.string ⟨l.toArray⟩) ∧ Below w.heap.size w w') := Lib.hid fun w => by
        have := ihq w (by omega)
        rwa [show ((m / 10 : Nat) : Int) = IntKind.i64.wrap ((m : Int) / 10) by rw [IntWalk.i64_in _ (by omega)]; omega] at this
      clear ihq
      go_enter Tryd.func75, Tryd.ntmps75
      go_wp2_with fail
      go_region_with (go_at_call 75; with_reducible refine (IQ.out _).mono ?_; rintro e w' ⟨rfl, hbq⟩; have hbc := bcell hbq; have hbz := hbq.size)
      all_goals
        go_wp2_with fail
        go_ret
        refine ⟨ret_of (by rw [HD.out, ← str_append]; rfl), ?_⟩
        first
          | exact (((Below.refl w.heap.size w).drew).trans (hbq.mono (Nat.le_refl _))).alloc hbz _
          | exact (((Below.refl w.heap.size w).drew.alloc (Nat.le_refl _) _)).trans (hbq.mono (by simp))
          | exact (((Below.refl w.heap.size w).alloc (Nat.le_refl _) _).drew).trans (hbq.mono (by simp))

theorem refDecimal_any (n : Int) (w : World) :
    Calls Tryd.prog 75 #[.int .i64 n] w fun e w' => e = .returned (.string ⟨(P.decimal n).toArray⟩) ∧ Below w.heap.size w w' := by
  by_cases h0 : n < 0
  · have HD := Lib.hid (P.decimal_out n (.inl h0))
    go_enter Tryd.func75, Tryd.ntmps75
    go_wp2_with fail
    go_ret
    exact ⟨ret_of (by rw [HD.out]; rfl), Below.refl _ _⟩
  by_cases h1 : 2147483647 < n
  · have HD := Lib.hid (P.decimal_out n (.inr h1))
    go_enter Tryd.func75, Tryd.ntmps75
    go_wp2_with fail
    go_ret
    exact ⟨ret_of (by rw [HD.out]; rfl), Below.refl _ _⟩
  · obtain ⟨m, rfl⟩ := Int.eq_ofNat_of_zero_le (show 0 ≤ n by omega)
    rw [P.decimal_in _ (by omega) (by omega), Int.toNat_natCast]
    exact refDecimal_in m w (by omega)
end Go.Proofs.YtadhhamfikpimaaDoor.T

namespace Go.Proofs.YtadhhamfikpimaaDoor.L
open Go.RowKit
open T

/-- What stands behind the level. -/
def catsPre (xs : List Nat) : List UInt8 := if xs = [] then [] else 58 :: catsText xs
theorem catsText_snoc : ∀ (ys : List Nat) (x : Nat), ys ≠ [] → catsText (ys ++ [x]) = catsText ys ++ 44 :: P.decimal (x : Int)
  | [y], x, _ => by rw [List.cons_append, List.nil_append, catsText_cons, catsText_one, catsText_one]
  | y :: z :: r, x, _ => by
    have ih := catsText_snoc (z :: r) x (by simp)
    rw [List.cons_append, List.cons_append, catsText_cons, ← List.cons_append, ih, catsText_cons]
    simp
theorem catsPre_zero {xs : List Nat} (h : 0 < xs.length) : catsPre (xs.take 1) = ([58] : List UInt8) ++ P.decimal ((xs[0] : Nat) : Int) := by
  cases xs with
  | nil => simp at h
  | cons x r => simp [catsPre, catsText_one]
theorem catsPre_succ {xs : List Nat} {k : Nat} (hk : k < xs.length) (h0 : 0 < k) : catsPre (xs.take (k + 1)) = catsPre (xs.take k) ++ [44] ++ P.decimal ((xs[k] : Nat) : Int) := by
  have hne : xs.take k ≠ [] := fun e => by
    have := congrArg List.length e
    rw [List.length_take, List.length_nil] at this; omega
  rw [List.take_succ_eq_append_getElem hk, catsPre, if_neg (fun e => by have := congrArg List.length e; rw [List.length_append] at this; simp at this), catsText_snoc _ _ hne, catsPre, if_neg hne]
  simp
theorem catsPre_len (xs : List Nat) : (catsPre xs).length ≤ 11 * xs.length + 1 := by
  have := join_len xs
  unfold catsPre
  split
  · simp
  · simp; omega
theorem print_pre (l : Int) (c : Nat) : print l c = P.decimal l ++ catsPre (catsTo c 64) := by
  unfold print catsPre
  split
  · simp
  · simp

set_option maxHeartbeats 1000000 in
set_option maxRecDepth 100000 in
theorem refPrint_any (l : Int) (c : Nat) (w : World) :
    Calls Tryd.prog 43 #[lab l c] w fun e w' => e = .returned (.string ⟨(print l c).toArray⟩) ∧ Below w.heap.size w w' := by
  have HC := Lib.hid (fun w => refCats_any l c w)
  have HD := Lib.hid (fun (n : Int) (w : World) => refDecimal_any n w)
  have hlen := catsTo_len c 64
  have HP := Lib.hid (print_pre l c)
  have hdl := P.decimal_length l
  have HDL := Lib.hid (fun n : Int => P.decimal_length n)
  generalize print l c = res at *
  generalize catsTo c 64 = xs at *
  go_enter Tryd.func43, Tryd.ntmps43
  go_wp2_with fail
  with_reducible refine (HD.out l _).mono ?_
  rintro e w1 ⟨rfl, hb1⟩
  have HK0 := Lib.hid ((hb1.block w.heap.size (by simp)).trans (heap_alloc_new w _))
  have hbe1 : Below w.heap.size w w1 := ((Below.refl _ _).alloc (Nat.le_refl _) _).trans (hb1.mono (by simp))
  have d0 := (res_cells HK0.out).1
  have d1 := (res_cells HK0.out).2
  clear hb1
  go_wp2_with fail
  with_reducible refine (HC.out _).mono ?_
  rintro e w2 ⟨v, rfl, hown, hb2⟩
  obtain ⟨A, cap, hv, hcap, hA⟩ := own_form hown
  subst hv
  have hbe2 : Below w.heap.size w w2 := hbe1.trans (hb2.mono hbe1.size)
  have HA := Lib.hid hA
  clear hA hown hb2 HC d0 d1 HK0
  generalize P.decimal l = dl at *
  go_wp2_with fail
  go_loopg [3, 5] xs.length (fun n o i wr => ∃ k : Nat, k ≤ xs.length ∧ i = .int .i64 k ∧ xs.length - k ≤ n ∧ o = .string ⟨(dl ++ catsPre (xs.take k)).toArray⟩ ∧ Below w2.heap.size w2 wr)
  case atStart => exact ⟨0, Nat.zero_le _, rfl, by omega, by simp [catsPre], Below.refl _ _⟩
  case round =>
    obtain ⟨k, hk, rfl, hn, rfl, hbw⟩ := hrel
    by_cases hlt : k < xs.length
    · obtain ⟨g, hAe, hg0, hg1, hcells⟩ := HA.out (by omega)
      subst hAe
      have hcell : wr.cell? ⟨g, k, none⟩ = some (.int .i64 ((xs[k] : Nat) : Int)) := (hbw.cell (p := ⟨g, k, none⟩) hg1).trans (hcells k _ (by simp [intCells, List.getElem?_eq_getElem hlt]))
      clear hcells
      have hpl := catsPre_len (xs.take k)
      rw [List.length_take] at hpl
      have hxl := HDL.out ((xs[k] : Nat) : Int)
      by_cases h0 : k = 0
      · have hb0 : ((k : Int) == 0) = true := beq_iff_eq.2 (by omega)
        have HS := Lib.hid (show catsPre (xs.take (k + 1)) = ([58] : List UInt8) ++ P.decimal ((xs[k] : Nat) : Int) by subst h0; exact catsPre_zero hlt)
        have HZ := Lib.hid (show catsPre (xs.take k) = [] by subst h0; simp [catsPre])
        rw [HZ.out, List.append_nil]
        generalize xs[k] = x at *
        clear h0 hpl
        have ha1 : (⟨dl.toArray⟩ : ByteArray).size + (⟨#[58]⟩ : ByteArray).size ≤ 9223372036854775807 := by
          show dl.toArray.size + 1 ≤ _; simp; omega
        have ha2 : ((⟨dl.toArray⟩ : ByteArray) ++ ⟨#[58]⟩).size + (⟨(P.decimal (x : Int)).toArray⟩ : ByteArray).size ≤ 9223372036854775807 := by
          rw [ByteArray.size_append]; show dl.toArray.size + 1 + (P.decimal (x : Int)).toArray.size ≤ _; simp; omega
        go_wp2_with fail
        with_reducible refine (HD.out (x : Int) _).mono ?_
        rintro e w3 ⟨rfl, hb3⟩
        have hbw3 : Below w2.heap.size w2 w3 := hbw.trans (hb3.mono hbw.size)
        generalize P.decimal (x : Int) = ds at *
        clear hcell hb3
        go_wp2_with fail
        go_roundg (xs.length - (k + 1))
        case measure => omega
        case rel => exact ⟨k + 1, by omega, by go_num, Nat.le_refl _, by rw [HS.out, ← List.append_assoc, ← cat, ← cat], hbw3⟩
      · have hb0 : ((k : Int) == 0) = false := beq_eq_false_iff_ne.2 (by omega)
        have HS := Lib.hid (catsPre_succ hlt (by omega))
        generalize xs[k] = x at *
        generalize catsPre (xs.take k) = pre at *
        clear h0
        have ha1 : (⟨(dl ++ pre).toArray⟩ : ByteArray).size + (⟨#[44]⟩ : ByteArray).size ≤ 9223372036854775807 := by
          show (dl ++ pre).toArray.size + 1 ≤ _; simp; omega
        have ha2 : ((⟨(dl ++ pre).toArray⟩ : ByteArray) ++ ⟨#[44]⟩).size + (⟨(P.decimal (x : Int)).toArray⟩ : ByteArray).size ≤ 9223372036854775807 := by
          rw [ByteArray.size_append]; show (dl ++ pre).toArray.size + 1 + (P.decimal (x : Int)).toArray.size ≤ _; simp; omega
        have HE := Lib.hid (show ((⟨(dl ++ pre).toArray⟩ : ByteArray) ++ ⟨#[44]⟩) ++ ⟨(P.decimal (x : Int)).toArray⟩ = ⟨(dl ++ (pre ++ [44] ++ P.decimal (x : Int))).toArray⟩ by
          rw [show (⟨#[44]⟩ : ByteArray) = ⟨[44].toArray⟩ from rfl, cat, cat]; simp)
        generalize dl ++ pre = cur at *
        go_wp2_with fail
        with_reducible refine (HD.out (x : Int) _).mono ?_
        rintro e w3 ⟨rfl, hb3⟩
        have hbw3 : Below w2.heap.size w2 w3 := hbw.trans (hb3.mono hbw.size)
        generalize P.decimal (x : Int) = ds at *
        clear hcell hb3
        go_wp2_with fail
        go_roundg (xs.length - (k + 1))
        case measure => omega
        case rel => exact ⟨k + 1, by omega, by go_num, Nat.le_refl _, by rw [HS.out, ← HE.out], hbw3⟩
    · obtain rfl : k = xs.length := by omega
      have hbr : Below w.heap.size w wr := hbe2.trans (hbw.mono hbe2.size)
      rw [List.take_length]
      go_wp2_with fail
      go_ret
      exact ⟨ret_of (by rw [HP.out]; rfl), hbr⟩
end Go.Proofs.YtadhhamfikpimaaDoor.L

namespace Go.Proofs.YtadhhamfikpimaaDoor.T
open Go.RowKit

theorem own_block {w : World} {base : Nat} {e : TypeId} {n : Nat} {v : Value} {xs : List Value} (h : w.ownsRow base e 1 v n xs) (hn : 0 < n) :
    ∃ g cap cur, v = .slice (some ⟨g, 0, none⟩) n cap ∧ base ≤ g ∧ w.heap[g]? = some (.cells cur e (0, 0)) ∧ ∀ (j : Nat) (u : Value), xs[j]? = some u → cur[j]? = some u := by
  rcases h.2 with ⟨_, h0⟩ | ⟨g, cap, cur, rfl, hg, hh, _, _, _, hx⟩
  · omega
  · refine ⟨g, cap, cur, rfl, hg, hh, fun j u hu => ?_⟩
    rw [← hx, List.getElem?_take] at hu
    split at hu
    · simpa using hu
    · cases hu
theorem extract_one (s : ByteArray) (k : Nat) (hk : k < s.size) : s.extract k (k + 1) = ⟨#[s[k]]⟩ := by
  rw [Lib.extract_eq]
  have hl : k < s.data.toList.length := by rw [← Lib.size_eq]; exact hk
  rw [List.drop_eq_getElem_cons hl, show k + 1 - k = 1 by omega, byte s k hk hl]
  rfl
theorem wordsGo_at (s : ByteArray) (cur : List UInt8) (k : Nat) (hk : k < s.size) (h : s[k].toNat = 32) : P.words cur (s.data.toList.drop k) = cur :: P.words [] (s.data.toList.drop (k + 1)) := by
  have hl : k < s.data.toList.length := by rw [← Lib.size_eq]; exact hk
  rw [List.drop_eq_getElem_cons hl, P.words, if_pos (by rw [byte s k hk hl]; exact UInt8.toNat_inj.1 h)]
theorem wordsGo_on (s : ByteArray) (cur : List UInt8) (k : Nat) (hk : k < s.size) (h : ¬ s[k].toNat = 32) : P.words cur (s.data.toList.drop k) = P.words (cur ++ [s[k]]) (s.data.toList.drop (k + 1)) := by
  have hl : k < s.data.toList.length := by rw [← Lib.size_eq]; exact hk
  have e := byte s k hk hl
  rw [List.drop_eq_getElem_cons hl, P.words, if_neg (by rw [e]; exact fun e => h (by rw [e]; rfl)), e]
theorem wordsGo_end (s : ByteArray) (cur : List UInt8) : P.words cur (s.data.toList.drop s.size) = [cur] := by
  rw [Lib.size_eq, List.drop_length, P.words]

set_option maxHeartbeats 1000000 in
set_option maxRecDepth 100000 in
theorem refWords_any (s : ByteArray) (w : World) (hl : s.size ≤ 4194304) :
    Calls Tryd.prog 67 #[.string s] w fun e w' => ∃ v, e = .returned v ∧ w'.ownsRow w.heap.size 9 1 v (P.words [] s.data.toList).length (strCells (P.words [] s.data.toList)) ∧ Below w.heap.size w w' := by
  obtain ⟨i0, hi0, hz0, hz1, hz2⟩ := info_parts infoStr
  go_enter Tryd.func67, Tryd.ntmps67
  go_wp2_with fail
  go_loopg [3, 4] s.size (fun n v i wr => ∃ (k : Nat) (xs : List (List UInt8)) (cur : List UInt8), k ≤ s.size ∧ i = .int .i64 k ∧ s.size - k ≤ n ∧ xs.length ≤ k ∧ cur.length ≤ k ∧ wr.ownsRow w.heap.size 9 1 v (xs.length + 1) (strCells (xs ++ [cur])) ∧ Below w.heap.size w wr ∧ Hid (P.words [] s.data.toList = xs ++ P.words cur (s.data.toList.drop k)))
  case atStart => exact ⟨0, [], [], Nat.zero_le _, rfl, by omega, by simp, by simp, ⟨by simp [strCells], .inr ⟨w.heap.size, 1, #[.string ⟨#[]⟩], rfl, Nat.le_refl _, heap_alloc_new w _, Nat.le_refl _, by simp [maxLen], rfl, rfl⟩⟩, (Below.refl _ _).alloc (Nat.le_refl _) _, Lib.hid rfl⟩
  case round =>
    obtain ⟨k, xs, cur, hk, rfl, hn, hxs, hcur, hown, hbel, HR⟩ := hrel
    by_cases hlt : k < s.size
    · by_cases h32 : (s[k].toNat : Int) = 32
      · have hb32 : ((s[k].toNat : Int) == 32) = true := by simp [h32]
        have HN := Lib.hid (HR.out.trans (by rw [wordsGo_at s cur k hlt (by omega)] : _ = xs ++ cur :: P.words [] (s.data.toList.drop (k + 1))))
        clear h32
        go_wp2_with (at_builtin; refine wpList_append_own _ rfl (.tmp 16) (.tmp 17) 60 rfl w.heap.size 9 i0 _ 1 16 Tryd.underlying60 hi0 hz0 hz1 hz2 rfl (by decide) _ (xs.length + 1) (strCells (xs ++ [cur])) rfl ?ho ⟨wr.heap.size, 0, none⟩ 1 1 [.string ⟨#[]⟩] rfl rfl ?c1 ?c2 ?c3 ?c4 ?c5 ?_)
        case ho => exact hown.alloc _
        case c1 => exact cell_one_new _ _ _
        case c2 => intro u hu; simp at hu; rcases hu with rfl; rfl
        case c3 => simp only [maxLen]; omega
        case c4 => omega
        case c5 => have := hbel.size; simp; omega
        intro v' w3 hown3 hg3 _
        have hb3 : Below w.heap.size w w3 := (hbel.alloc hbel.size _).grown hg3 (by have := hbel.size; simp; omega) (own_base hown)
        have hown4 : w3.ownsRow w.heap.size 9 1 v' ((xs ++ [cur]).length + 1) (strCells ((xs ++ [cur]) ++ [[]])) := by
          rw [strCells_snoc (xs ++ [cur]), List.length_append]; exact hown3
        clear hown hown3
        go_wp2_with fail
        go_roundg (s.size - (k + 1))
        case measure => omega
        case rel => exact ⟨k + 1, xs ++ [cur], [], by omega, by go_num, Nat.le_refl _, by simp; omega, by simp, hown4, hb3, Lib.hid (by rw [HN.out]; simp)⟩
      · have hb32 : ((s[k].toNat : Int) == 32) = false := by simp [h32]
        have HN := Lib.hid (HR.out.trans (by rw [wordsGo_on s cur k hlt (fun e => h32 (by omega))] : _ = xs ++ P.words (cur ++ [s[k]]) (s.data.toList.drop (k + 1))))
        have HX := Lib.hid (extract_one s k hlt)
        clear h32
        obtain ⟨g, cap, cs, hv, hg, hblk, hcs⟩ := own_block hown (by omega)
        subst hv
        have hcell : wr.cell? ⟨g, xs.length, none⟩ = some (.string ⟨cur.toArray⟩) := by
          rw [cell_of_row wr g _ cs _ (0, 0) hblk]
          exact hcs _ _ (by simp [strCells])
        have hfr : wr.frozen? ⟨g, xs.length, none⟩ = false := by simp [World.frozen?, hblk]
        have hst := hown.stored xs.length (.string ⟨(cur ++ [s[k]]).toArray⟩)
        have hset : (strCells (xs ++ [cur])).set xs.length (.string ⟨(cur ++ [s[k]]).toArray⟩) = strCells (xs ++ [cur ++ [s[k]]]) := by
          rw [strCells_snoc, strCells_snoc, List.set_append_right _ _ (by simp [strCells])]
          simp [strCells]
        rw [hset] at hst
        have HST := Lib.hid hst
        clear hst hset hblk hcs
        have hw1 : IntKind.i64.wrap ((k : Int) + 1) = (k : Int) + 1 := IntWalk.i64_in _ (by omega)
        have hw2 : IntKind.i64.wrap ((xs.length : Int) + 1 - 1) = (xs.length : Int) := by rw [show (xs.length : Int) + 1 - 1 = xs.length by omega]; exact IntWalk.i64_in _ (by omega)
        have hadd : (⟨cur.toArray⟩ : ByteArray).size + (s.extract k (k + 1)).size ≤ 9223372036854775807 := by
          rw [HX.out, list_size]; show cur.length + 1 ≤ _; omega
        have HV := Lib.hid (show (⟨cur.toArray⟩ : ByteArray) ++ s.extract k (k + 1) = ⟨(cur ++ [s[k]]).toArray⟩ by rw [HX.out]; exact str_append cur [s[k]])
        go_wp2_with fail
        go_region
        all_goals
          go_wp2_with fail
          go_roundg (s.size - (k + 1))
          case measure => omega
          case rel =>
            refine ⟨k + 1, xs, cur ++ [s[k]], by omega, by go_num, Nat.le_refl _, by omega, by simp; omega, ?_, ?_, HN⟩
            · rw [HV.out]; exact HST.out.1.drew
            · exact (hbel.setCell (p := ⟨g, xs.length, none⟩) hg _).drew
    · obtain rfl : k = s.size := by omega
      have HN := Lib.hid (HR.out.trans (by rw [wordsGo_end] : _ = xs ++ [cur]))
      go_wp2_with fail
      go_ret
      exact ⟨_, rfl, by rw [HN.out, List.length_append]; exact hown, hbel⟩
end Go.Proofs.YtadhhamfikpimaaDoor.T

namespace Go.Proofs.YtadhhamfikpimaaDoor.L
open Go.RowKit
open T

section
variable {s : ByteArray} {k : Nat}
theorem drop_at (hk : k < s.size) : s.data.toList.drop k = s[k] :: s.data.toList.drop (k + 1) := by
  have hl : k < s.data.toList.length := by rw [← Lib.size_eq]; exact hk
  rw [List.drop_eq_getElem_cons hl, byte s k hk hl]
theorem drop_end : s.data.toList.drop s.size = [] := by rw [Lib.size_eq, List.drop_length]
theorem u8_ne {x y : UInt8} (h : ¬ (x.toNat : Int) = (y.toNat : Int)) : x ≠ y := fun e => h (by rw [e])
variable {lv : Bool} {L C : Nat} {la : Int} {nw : List UInt8}
theorem ref_on (hk : k < s.size) (h1 : ¬ (s[k].toNat : Int) = 58) (h2 : ¬ (s[k].toNat : Int) = 44) : refP lv L C la nw (s.data.toList.drop k) = refP lv L C la (nw ++ [s[k]]) (s.data.toList.drop (k + 1)) := by
  rw [drop_at hk, refP, if_pos ⟨u8_ne (y := 58) h1, u8_ne (y := 44) h2⟩]
theorem sep (hk : k < s.size) (h : (s[k].toNat : Int) = 58 ∨ (s[k].toNat : Int) = 44) : ¬ (s[k] ≠ 58 ∧ s[k] ≠ 44) := fun e => by
  rcases h with h | h
  · exact e.1 (UInt8.toNat_inj.1 (show s[k].toNat = 58 by omega))
  · exact e.2 (UInt8.toNat_inj.1 (show s[k].toNat = 44 by omega))
theorem ref_nan (hk : k < s.size) (h : (s[k].toNat : Int) = 58 ∨ (s[k].toNat : Int) = 44) (hn : P.number nw = none) : refP lv L C la nw (s.data.toList.drop k) = none := by
  rw [drop_at hk, refP, if_neg (sep hk h), hn]; rfl
theorem ref_nan_end (hn : P.number nw = none) : refP lv L C la nw (s.data.toList.drop s.size) = none := by
  rw [drop_end, refP, hn]; rfl
theorem is58 (hk : k < s.size) (h : (s[k].toNat : Int) = 58) : (s[k] == 58) = true := by
  rw [beq_iff_eq]; exact UInt8.toNat_inj.1 (show s[k].toNat = 58 by omega)
theorem not58 (hk : k < s.size) (h : (s[k].toNat : Int) = 44) : (s[k] == 58) = false := by
  rw [beq_eq_false_iff_ne]; exact u8_ne (y := 58) (by show ¬ (s[k].toNat : Int) = 58; omega)
theorem ref_mis58 (hk : k < s.size) (h : (s[k].toNat : Int) = 58) {n : Nat} (hn : P.number nw = some n) : refP false L C la nw (s.data.toList.drop k) = none := by
  rw [drop_at hk, refP, if_neg (sep hk (.inl h)), hn, Option.bind_some, is58 hk h]; rfl
theorem ref_mis44 (hk : k < s.size) (h : (s[k].toNat : Int) = 44) {n : Nat} (hn : P.number nw = some n) : refP true L C la nw (s.data.toList.drop k) = none := by
  rw [drop_at hk, refP, if_neg (sep hk (.inr h)), hn, Option.bind_some, not58 hk h]; rfl
theorem ref_step58 (hk : k < s.size) (h : (s[k].toNat : Int) = 58) {n : Nat} (hn : P.number nw = some n) : refP true L C la nw (s.data.toList.drop k) = if refStep true la n then refP false n C la [] (s.data.toList.drop (k + 1)) else none := by
  rw [drop_at hk, refP, if_neg (sep hk (.inl h)), hn, Option.bind_some, is58 hk h]; rfl
theorem ref_step44 (hk : k < s.size) (h : (s[k].toNat : Int) = 44) {n : Nat} (hn : P.number nw = some n) : refP false L C la nw (s.data.toList.drop k) = if refStep false la n then refP false L (C + 2 ^ n) n [] (s.data.toList.drop (k + 1)) else none := by
  rw [drop_at hk, refP, if_neg (sep hk (.inr h)), hn, Option.bind_some, not58 hk h]; rfl
theorem ref_endT {n : Nat} (hn : P.number nw = some n) : refP true L C la nw (s.data.toList.drop s.size) = if refStep true la n then some (n, C) else none := by
  rw [drop_end, refP, hn]; rfl
theorem ref_endF {n : Nat} (hn : P.number nw = some n) : refP false L C la nw (s.data.toList.drop s.size) = if refStep false la n then some (L, C + 2 ^ n) else none := by
  rw [drop_end, refP, hn]; rfl
theorem stepT_yes {n : Nat} (h : n ≤ 15) : refStep true la n = true := by simp [refStep, h]
theorem stepT_no {n : Nat} (h : ¬ n ≤ 15) : refStep true la n = false := by simp [refStep]; omega
theorem stepF_yes {n : Nat} (h : n ≤ 63) (h' : la < (n : Int)) : refStep false la n = true := by simp [refStep, h, h']
theorem stepF_no1 {n : Nat} (h : ¬ n ≤ 63) : refStep false la n = false := by simp [refStep]; omega
theorem stepF_no2 {n : Nat} (h : ¬ la < (n : Int)) : refStep false la n = false := by simp [refStep]; omega
end
def RN (s : ByteArray) (v : Value) : Prop := ∀ w : World, Calls Tryd.prog 97 #[.string s] w fun e w' => e = .returned v ∧ w = w'
theorem RN.call {s : ByteArray} {v : Value} (h : RN s v) (w : World) : Calls Tryd.prog 97 #[.string s] w fun e w' => e = .returned v ∧ w = w' := h w
theorem rn_none {nw : List UInt8} (h : P.number nw = none) : RN ⟨nw.toArray⟩ (.tuple #[.int .i64 0, .bool false]) := fun w => by
  have := refNumber_any ⟨nw.toArray⟩ w
  rw [show (⟨nw.toArray⟩ : ByteArray).data.toList = nw by simp, h] at this
  exact this
theorem rn_some {nw : List UInt8} {n : Nat} (h : P.number nw = some n) : RN ⟨nw.toArray⟩ (.tuple #[.int .i64 (n : Int), .bool true]) := fun w => by
  have := refNumber_any ⟨nw.toArray⟩ w
  rw [show (⟨nw.toArray⟩ : ByteArray).data.toList = nw by simp, h] at this
  exact this

set_option maxHeartbeats 4000000 in
set_option maxRecDepth 100000 in
theorem refParse_any (s : ByteArray) (w : World) (hs : s.size ≤ 4194304) :
    Calls Tryd.prog 69 #[.string s] w fun e w' => e = .returned (parseVal (parse s.data.toList)) ∧ Below w.heap.size w w' := by
  have HPP := Lib.hid (refP_parse s.data.toList)
  go_enter Tryd.func69, Tryd.ntmps69
  go_wp2_with fail
  go_loopg [5, 6, 7, 8] (s.size + 1) (fun m la nw lv i wr => ∃ (k L C : Nat) (x : Int) (t : List UInt8) (b : Bool), k ≤ s.size + 1 ∧ i = .int .i64 k ∧ la = .int .i64 x ∧ nw = .string ⟨t.toArray⟩ ∧ lv = .bool b ∧ s.size + 1 - k ≤ m ∧ t.length ≤ k ∧ C < 18446744073709551616 ∧ Hid (∀ i, C.testBit i = true → (i : Int) ≤ x) ∧ Hid (k ≤ s.size → refP true 0 0 (-1) [] s.data.toList = refP b L C x t (s.data.toList.drop k)) ∧ Hid (k = s.size + 1 → refP true 0 0 (-1) [] s.data.toList = some (L, C)) ∧ Hid (wr.heap[w.heap.size]? = some (.cells #[.int .i64 0, .int .u64 0] 40 (0, 0))) ∧ Hid (wr.heap[w.heap.size + 1]? = some (.cells #[.int .i64 (L : Int), .int .u64 (C : Int)] 40 (0, 0))) ∧ Below w.heap.size w wr)
  case atStart =>
    have h2 := two_blocks w (.cells #[.int .i64 0, .int .u64 0] 40) (.cells #[.int .i64 0, .int .u64 0] 40)
    exact ⟨0, 0, 0, -1, [], true, Nat.zero_le _, rfl, rfl, rfl, rfl, by omega, by simp, by omega, Lib.hid (fun i hi => by simp at hi), Lib.hid (fun _ => rfl), Lib.hid (fun h => by omega), Lib.hid h2.1, Lib.hid h2.2, ((Below.refl _ _).alloc (Nat.le_refl _) _).alloc (by simp) _⟩
  case round =>
    obtain ⟨k, L, C, x, t, b, hk, rfl, rfl, rfl, rfl, hm, ht, hC, HB, HR, HE, HK0, HK1, hbel⟩ := hrel
    by_cases hend : s.size < k
    · obtain rfl : k = s.size + 1 := by omega
      have HZ := Lib.hid (HE.out rfl)
      have d0 := (res_cells HK0.out).1
      have d1 := (res_cells HK0.out).2
      have e0 := blk_free HK0.out 0
      have e1 := blk_free HK0.out 1
      have c0 := (res_cells HK1.out).1
      have c1 := (res_cells HK1.out).2
      go_wp2_with fail
      clear c0 c1
      have hfin := blk_set (blk_set HK0.out 0 (.int .i64 (L : Int))) 1 (.int .u64 (C : Int))
      have hbf := (hbel.setCell (p := ⟨w.heap.size, 0, none⟩) (Nat.le_refl _) (.int .i64 (L : Int))).setCell (p := ⟨w.heap.size, 1, none⟩) (Nat.le_refl _) (.int .u64 (C : Int))
      clear d0 d1 e0 e1
      generalize (wr.setCell ⟨w.heap.size, 0, none⟩ (.int .i64 (L : Int))).setCell ⟨w.heap.size, 1, none⟩ (.int .u64 (C : Int)) = wf at *
      have q0 : wf.cell? ⟨w.heap.size, 0, none⟩ = some (.int .i64 (L : Int)) := blk_cell hfin 0
      have q1 : wf.cell? ⟨w.heap.size, 1, none⟩ = some (.int .u64 (C : Int)) := blk_cell hfin 1
      exact bodyPost_ret (v := .tuple #[.agg #[.int .i64 (L : Int), .int .u64 (C : Int)], .bool true]) (by simp [results, Tryd.results69, go_sem, q0, q1]) rfl ⟨ret_of (by rw [← HPP.out, HZ.out]; rfl), hbf⟩
    have HR := Lib.hid (HR.out (by omega))
    clear HE
    by_cases hlt : k < s.size
    · by_cases h58 : (s[k].toNat : Int) = 58
      · have hb58 : ((s[k].toNat : Int) == 58) = true := by simp [h58]
        have hc58 : ((s[k].toNat : Int) != 58) = false := by simp [h58]
        cases hnum : P.number t with
        | none =>
          have HN := rn_none hnum
          have hq := ref_nan (lv := b) (L := L) (C := C) (la := x) hlt (.inl h58) hnum
          clear h58 hnum
          have HZ := Lib.hid (HR.out.trans hq)
          have d0 := (res_cells HK0.out).1
          have d1 := (res_cells HK0.out).2
          have e0 := blk_free HK0.out 0
          have e1 := blk_free HK0.out 1
          go_wp2_with fail
          with_reducible refine (HN.call _).mono ?_
          rintro e w1 ⟨rfl, rfl⟩
          go_wp2_with fail
          have hfin := blk_set (blk_set HK0.out 0 (.int .i64 0)) 1 (.int .u64 0)
          have hbf := (hbel.setCell (p := ⟨w.heap.size, 0, none⟩) (Nat.le_refl _) (.int .i64 0)).setCell (p := ⟨w.heap.size, 1, none⟩) (Nat.le_refl _) (.int .u64 0)
          clear d0 d1 e0 e1
          generalize (wr.setCell ⟨w.heap.size, 0, none⟩ (.int .i64 0)).setCell ⟨w.heap.size, 1, none⟩ (.int .u64 0) = wf at *
          have q0 : wf.cell? ⟨w.heap.size, 0, none⟩ = some (.int .i64 0) := blk_cell hfin 0
          have q1 : wf.cell? ⟨w.heap.size, 1, none⟩ = some (.int .u64 0) := blk_cell hfin 1
          exact bodyPost_ret (v := .tuple #[.agg #[.int .i64 0, .int .u64 0], .bool false]) (by simp [results, Tryd.results69, go_sem, q0, q1]) rfl ⟨ret_of (by rw [← HPP.out, HZ.out]; rfl), hbf⟩
        | some n =>
          have HN := rn_some hnum
          cases b with
          | false =>
            have hq := ref_mis58 (L := L) (C := C) (la := x) hlt h58 hnum
            clear h58 hnum
            have HZ := Lib.hid (HR.out.trans hq)
            have d0 := (res_cells HK0.out).1
            have d1 := (res_cells HK0.out).2
            have e0 := blk_free HK0.out 0
            have e1 := blk_free HK0.out 1
            go_wp2_with fail
            with_reducible refine (HN.call _).mono ?_
            rintro e w1 ⟨rfl, rfl⟩
            go_wp2_with fail
            have hfin := blk_set (blk_set HK0.out 0 (.int .i64 0)) 1 (.int .u64 0)
            have hbf := (hbel.setCell (p := ⟨w.heap.size, 0, none⟩) (Nat.le_refl _) (.int .i64 0)).setCell (p := ⟨w.heap.size, 1, none⟩) (Nat.le_refl _) (.int .u64 0)
            clear d0 d1 e0 e1
            generalize (wr.setCell ⟨w.heap.size, 0, none⟩ (.int .i64 0)).setCell ⟨w.heap.size, 1, none⟩ (.int .u64 0) = wf at *
            have q0 : wf.cell? ⟨w.heap.size, 0, none⟩ = some (.int .i64 0) := blk_cell hfin 0
            have q1 : wf.cell? ⟨w.heap.size, 1, none⟩ = some (.int .u64 0) := blk_cell hfin 1
            exact bodyPost_ret (v := .tuple #[.agg #[.int .i64 0, .int .u64 0], .bool false]) (by simp [results, Tryd.results69, go_sem, q0, q1]) rfl ⟨ret_of (by rw [← HPP.out, HZ.out]; rfl), hbf⟩
          | true =>
            have hq := ref_step58 (L := L) (C := C) (la := x) hlt h58 hnum
            clear h58 hnum
            by_cases hn : n ≤ 15
            · rw [stepT_yes hn, if_pos rfl] at hq
              have c0 := (res_cells HK1.out).1
              have c1 := (res_cells HK1.out).2
              have f0 := blk_free HK1.out 0
              go_wp2_with fail
              with_reducible refine (HN.call _).mono ?_
              rintro e w1 ⟨rfl, rfl⟩
              go_wp2_with fail
              go_roundg (s.size + 1 - (k + 1))
              case measure => omega
              case rel => exact ⟨k + 1, n, C, x, [], false, by omega, by go_num, rfl, rfl, rfl, Nat.le_refl _, by simp, hC, HB, Lib.hid (fun _ => HR.out.trans hq), Lib.hid (fun h => by omega), Lib.hid ((blk_far (g := w.heap.size) (g' := w.heap.size + 1) (by omega) _).trans HK0.out), Lib.hid (blk_set HK1.out 0 _), hbel.setCell (p := ⟨w.heap.size + 1, 0, none⟩) (Nat.le_succ _) _⟩
            · rw [stepT_no hn, if_neg (by decide)] at hq
              have HZ := Lib.hid (HR.out.trans hq)
              have d0 := (res_cells HK0.out).1
              have d1 := (res_cells HK0.out).2
              have e0 := blk_free HK0.out 0
              have e1 := blk_free HK0.out 1
              go_wp2_with fail
              with_reducible refine (HN.call _).mono ?_
              rintro e w1 ⟨rfl, rfl⟩
              go_wp2_with fail
              have hfin := blk_set (blk_set HK0.out 0 (.int .i64 0)) 1 (.int .u64 0)
              have hbf := (hbel.setCell (p := ⟨w.heap.size, 0, none⟩) (Nat.le_refl _) (.int .i64 0)).setCell (p := ⟨w.heap.size, 1, none⟩) (Nat.le_refl _) (.int .u64 0)
              clear d0 d1 e0 e1
              generalize (wr.setCell ⟨w.heap.size, 0, none⟩ (.int .i64 0)).setCell ⟨w.heap.size, 1, none⟩ (.int .u64 0) = wf at *
              have q0 : wf.cell? ⟨w.heap.size, 0, none⟩ = some (.int .i64 0) := blk_cell hfin 0
              have q1 : wf.cell? ⟨w.heap.size, 1, none⟩ = some (.int .u64 0) := blk_cell hfin 1
              exact bodyPost_ret (v := .tuple #[.agg #[.int .i64 0, .int .u64 0], .bool false]) (by simp [results, Tryd.results69, go_sem, q0, q1]) rfl ⟨ret_of (by rw [← HPP.out, HZ.out]; rfl), hbf⟩
      · have hb58 : ((s[k].toNat : Int) == 58) = false := by simp [h58]
        have hc58 : ((s[k].toNat : Int) != 58) = true := by simp [h58]
        by_cases h44 : (s[k].toNat : Int) = 44
        · have hb44 : ((s[k].toNat : Int) != 44) = false := by simp [h44]
          cases hnum : P.number t with
          | none =>
            have HN := rn_none hnum
            have hq := ref_nan (lv := b) (L := L) (C := C) (la := x) hlt (.inr h44) hnum
            clear h58 h44 hnum
            have HZ := Lib.hid (HR.out.trans hq)
            have d0 := (res_cells HK0.out).1
            have d1 := (res_cells HK0.out).2
            have e0 := blk_free HK0.out 0
            have e1 := blk_free HK0.out 1
            go_wp2_with fail
            with_reducible refine (HN.call _).mono ?_
            rintro e w1 ⟨rfl, rfl⟩
            go_wp2_with fail
            have hfin := blk_set (blk_set HK0.out 0 (.int .i64 0)) 1 (.int .u64 0)
            have hbf := (hbel.setCell (p := ⟨w.heap.size, 0, none⟩) (Nat.le_refl _) (.int .i64 0)).setCell (p := ⟨w.heap.size, 1, none⟩) (Nat.le_refl _) (.int .u64 0)
            clear d0 d1 e0 e1
            generalize (wr.setCell ⟨w.heap.size, 0, none⟩ (.int .i64 0)).setCell ⟨w.heap.size, 1, none⟩ (.int .u64 0) = wf at *
            have q0 : wf.cell? ⟨w.heap.size, 0, none⟩ = some (.int .i64 0) := blk_cell hfin 0
            have q1 : wf.cell? ⟨w.heap.size, 1, none⟩ = some (.int .u64 0) := blk_cell hfin 1
            exact bodyPost_ret (v := .tuple #[.agg #[.int .i64 0, .int .u64 0], .bool false]) (by simp [results, Tryd.results69, go_sem, q0, q1]) rfl ⟨ret_of (by rw [← HPP.out, HZ.out]; rfl), hbf⟩
          | some n =>
            have HN := rn_some hnum
            cases b with
            | true =>
              have hq := ref_mis44 (L := L) (C := C) (la := x) hlt h44 hnum
              clear h58 h44 hnum
              have HZ := Lib.hid (HR.out.trans hq)
              have d0 := (res_cells HK0.out).1
              have d1 := (res_cells HK0.out).2
              have e0 := blk_free HK0.out 0
              have e1 := blk_free HK0.out 1
              go_wp2_with fail
              with_reducible refine (HN.call _).mono ?_
              rintro e w1 ⟨rfl, rfl⟩
              go_wp2_with fail
              have hfin := blk_set (blk_set HK0.out 0 (.int .i64 0)) 1 (.int .u64 0)
              have hbf := (hbel.setCell (p := ⟨w.heap.size, 0, none⟩) (Nat.le_refl _) (.int .i64 0)).setCell (p := ⟨w.heap.size, 1, none⟩) (Nat.le_refl _) (.int .u64 0)
              clear d0 d1 e0 e1
              generalize (wr.setCell ⟨w.heap.size, 0, none⟩ (.int .i64 0)).setCell ⟨w.heap.size, 1, none⟩ (.int .u64 0) = wf at *
              have q0 : wf.cell? ⟨w.heap.size, 0, none⟩ = some (.int .i64 0) := blk_cell hfin 0
              have q1 : wf.cell? ⟨w.heap.size, 1, none⟩ = some (.int .u64 0) := blk_cell hfin 1
              exact bodyPost_ret (v := .tuple #[.agg #[.int .i64 0, .int .u64 0], .bool false]) (by simp [results, Tryd.results69, go_sem, q0, q1]) rfl ⟨ret_of (by rw [← HPP.out, HZ.out]; rfl), hbf⟩
            | false =>
              have hq := ref_step44 (L := L) (C := C) (la := x) hlt h44 hnum
              clear h58 h44 hnum
              by_cases hn : n ≤ 63
              · by_cases hla : x < (n : Int)
                · rw [stepF_yes hn hla, if_pos rfl] at hq
                  have HBit := Lib.hid (bits_or HB.out hla)
                  have hor := add_or HB.out hla
                  have hpb : 2 ^ n < 18446744073709551616 := Nat.pow_lt_pow_right (a := 2) (n := 64) (by omega) (by omega)
                  have hcy := or_small hC hpb
                  have hsh : IntKind.u64.wrap (2 ^ n) = ((2 ^ n : Nat) : Int) := by
                    rw [show (2 : Int) ^ n = ((2 ^ n : Nat) : Int) by simp]
                    generalize 2 ^ n = z at hpb
                    exact IntWalk.u64_in _ (by omega)
                  have hsum : IntKind.u64.wrap ((C : Int) + ((2 ^ n : Nat) : Int)) = ((C ||| 2 ^ n : Nat) : Int) := by
                    rw [← hor] at hcy ⊢
                    generalize 2 ^ n = z at hcy
                    rw [IntWalk.u64_in _ (by omega)]; omega
                  have HSt := Lib.hid (show k + 1 ≤ s.size → _ from fun _ => HR.out.trans hq)
                  have HEn := Lib.hid (show k + 1 = s.size + 1 → refP true 0 0 (-1) [] s.data.toList = some (L, C + 2 ^ n) from fun h => by omega)
                  rw [hor] at HSt HEn
                  clear hpb hor
                  generalize C ||| 2 ^ n = y at *
                  generalize 2 ^ n = q at *
                  have c1 := (res_cells HK1.out).2
                  have f1 := blk_free HK1.out 1
                  have hn0 : (0 : Int) ≤ (n : Int) := by omega
                  go_wp2_with fail
                  with_reducible refine (HN.call _).mono ?_
                  rintro e w1 ⟨rfl, rfl⟩
                  go_wp2_with fail
                  go_region
                  all_goals
                    go_wp2_with fail
                    go_roundg (s.size + 1 - (k + 1))
                    case measure => omega
                    case rel => exact ⟨k + 1, L, y, n, [], false, by omega, by go_num, rfl, rfl, rfl, Nat.le_refl _, by simp, hcy, HBit, HSt, (by first | exact HEn | exact Lib.hid (fun _ => HEn.out trivial)), Lib.hid ((blk_far (g := w.heap.size) (g' := w.heap.size + 1) (by omega) _).trans HK0.out), Lib.hid (blk_set HK1.out 1 _), (hbel.setCell (p := ⟨w.heap.size + 1, 1, none⟩) (Nat.le_succ _) _).drew⟩
                · rw [stepF_no2 hla, if_neg (by decide)] at hq
                  have HZ := Lib.hid (HR.out.trans hq)
                  have d0 := (res_cells HK0.out).1
                  have d1 := (res_cells HK0.out).2
                  have e0 := blk_free HK0.out 0
                  have e1 := blk_free HK0.out 1
                  go_wp2_with fail
                  with_reducible refine (HN.call _).mono ?_
                  rintro e w1 ⟨rfl, rfl⟩
                  go_wp2_with fail
                  have hfin := blk_set (blk_set HK0.out 0 (.int .i64 0)) 1 (.int .u64 0)
                  have hbf := (hbel.setCell (p := ⟨w.heap.size, 0, none⟩) (Nat.le_refl _) (.int .i64 0)).setCell (p := ⟨w.heap.size, 1, none⟩) (Nat.le_refl _) (.int .u64 0)
                  clear d0 d1 e0 e1
                  generalize (wr.setCell ⟨w.heap.size, 0, none⟩ (.int .i64 0)).setCell ⟨w.heap.size, 1, none⟩ (.int .u64 0) = wf at *
                  have q0 : wf.cell? ⟨w.heap.size, 0, none⟩ = some (.int .i64 0) := blk_cell hfin 0
                  have q1 : wf.cell? ⟨w.heap.size, 1, none⟩ = some (.int .u64 0) := blk_cell hfin 1
                  exact bodyPost_ret (v := .tuple #[.agg #[.int .i64 0, .int .u64 0], .bool false]) (by simp [results, Tryd.results69, go_sem, q0, q1]) rfl ⟨ret_of (by rw [← HPP.out, HZ.out]; rfl), hbf⟩
              · rw [stepF_no1 hn, if_neg (by decide)] at hq
                have HZ := Lib.hid (HR.out.trans hq)
                have d0 := (res_cells HK0.out).1
                have d1 := (res_cells HK0.out).2
                have e0 := blk_free HK0.out 0
                have e1 := blk_free HK0.out 1
                go_wp2_with fail
                with_reducible refine (HN.call _).mono ?_
                rintro e w1 ⟨rfl, rfl⟩
                go_wp2_with fail
                have hfin := blk_set (blk_set HK0.out 0 (.int .i64 0)) 1 (.int .u64 0)
                have hbf := (hbel.setCell (p := ⟨w.heap.size, 0, none⟩) (Nat.le_refl _) (.int .i64 0)).setCell (p := ⟨w.heap.size, 1, none⟩) (Nat.le_refl _) (.int .u64 0)
                clear d0 d1 e0 e1
                generalize (wr.setCell ⟨w.heap.size, 0, none⟩ (.int .i64 0)).setCell ⟨w.heap.size, 1, none⟩ (.int .u64 0) = wf at *
                have q0 : wf.cell? ⟨w.heap.size, 0, none⟩ = some (.int .i64 0) := blk_cell hfin 0
                have q1 : wf.cell? ⟨w.heap.size, 1, none⟩ = some (.int .u64 0) := blk_cell hfin 1
                exact bodyPost_ret (v := .tuple #[.agg #[.int .i64 0, .int .u64 0], .bool false]) (by simp [results, Tryd.results69, go_sem, q0, q1]) rfl ⟨ret_of (by rw [← HPP.out, HZ.out]; rfl), hbf⟩
        · have hb44 : ((s[k].toNat : Int) != 44) = true := by simp [h44]
          have HQ := Lib.hid (HR.out.trans (ref_on hlt h58 h44))
          have HX := Lib.hid (extract_one s k hlt)
          clear h58 h44
          have hw1 : IntKind.i64.wrap ((k : Int) + 1) = (k : Int) + 1 := IntWalk.i64_in _ (by omega)
          have hadd : (⟨t.toArray⟩ : ByteArray).size + (s.extract k (k + 1)).size ≤ 9223372036854775807 := by
            rw [HX.out, list_size]; show t.length + 1 ≤ _; omega
          have HV := Lib.hid (show (⟨t.toArray⟩ : ByteArray) ++ s.extract k (k + 1) = ⟨(t ++ [s[k]]).toArray⟩ by rw [HX.out]; exact str_append t [s[k]])
          go_wp2_with fail
          go_roundg (s.size + 1 - (k + 1))
          case measure => omega
          case rel => exact ⟨k + 1, L, C, x, t ++ [s[k]], b, by omega, by go_num, rfl, by rw [HV.out], rfl, Nat.le_refl _, by simp; omega, hC, HB, Lib.hid (fun _ => HQ.out), Lib.hid (fun h => by omega), HK0, HK1, hbel⟩
    · obtain rfl : k = s.size := by omega
      cases hnum : P.number t with
      | none =>
        have HN := rn_none hnum
        have hq := ref_nan_end (s := s) (lv := b) (L := L) (C := C) (la := x) hnum
        clear hnum
        have HZ := Lib.hid (HR.out.trans hq)
        have d0 := (res_cells HK0.out).1
        have d1 := (res_cells HK0.out).2
        have e0 := blk_free HK0.out 0
        have e1 := blk_free HK0.out 1
        go_wp2_with fail
        with_reducible refine (HN.call _).mono ?_
        rintro e w1 ⟨rfl, rfl⟩
        go_wp2_with fail
        have hfin := blk_set (blk_set HK0.out 0 (.int .i64 0)) 1 (.int .u64 0)
        have hbf := (hbel.setCell (p := ⟨w.heap.size, 0, none⟩) (Nat.le_refl _) (.int .i64 0)).setCell (p := ⟨w.heap.size, 1, none⟩) (Nat.le_refl _) (.int .u64 0)
        clear d0 d1 e0 e1
        generalize (wr.setCell ⟨w.heap.size, 0, none⟩ (.int .i64 0)).setCell ⟨w.heap.size, 1, none⟩ (.int .u64 0) = wf at *
        have q0 : wf.cell? ⟨w.heap.size, 0, none⟩ = some (.int .i64 0) := blk_cell hfin 0
        have q1 : wf.cell? ⟨w.heap.size, 1, none⟩ = some (.int .u64 0) := blk_cell hfin 1
        exact bodyPost_ret (v := .tuple #[.agg #[.int .i64 0, .int .u64 0], .bool false]) (by simp [results, Tryd.results69, go_sem, q0, q1]) rfl ⟨ret_of (by rw [← HPP.out, HZ.out]; rfl), hbf⟩
      | some n =>
        have HN := rn_some hnum
        cases b with
        | true =>
          have hq := ref_endT (s := s) (L := L) (C := C) (la := x) hnum
          clear hnum
          by_cases hn : n ≤ 15
          · rw [stepT_yes hn, if_pos rfl] at hq
            have c0 := (res_cells HK1.out).1
            have c1 := (res_cells HK1.out).2
            have f0 := blk_free HK1.out 0
            go_wp2_with fail
            with_reducible refine (HN.call _).mono ?_
            rintro e w1 ⟨rfl, rfl⟩
            go_wp2_with fail
            go_roundg (s.size + 1 - (s.size + 1))
            case measure => omega
            case rel => exact ⟨s.size + 1, n, C, x, [], false, by omega, by go_num, rfl, rfl, rfl, Nat.le_refl _, by simp, hC, HB, Lib.hid (fun h => by omega), Lib.hid (fun _ => HR.out.trans hq), Lib.hid ((blk_far (g := w.heap.size) (g' := w.heap.size + 1) (by omega) _).trans HK0.out), Lib.hid (blk_set HK1.out 0 _), hbel.setCell (p := ⟨w.heap.size + 1, 0, none⟩) (Nat.le_succ _) _⟩
          · rw [stepT_no hn, if_neg (by decide)] at hq
            have HZ := Lib.hid (HR.out.trans hq)
            have d0 := (res_cells HK0.out).1
            have d1 := (res_cells HK0.out).2
            have e0 := blk_free HK0.out 0
            have e1 := blk_free HK0.out 1
            go_wp2_with fail
            with_reducible refine (HN.call _).mono ?_
            rintro e w1 ⟨rfl, rfl⟩
            go_wp2_with fail
            have hfin := blk_set (blk_set HK0.out 0 (.int .i64 0)) 1 (.int .u64 0)
            have hbf := (hbel.setCell (p := ⟨w.heap.size, 0, none⟩) (Nat.le_refl _) (.int .i64 0)).setCell (p := ⟨w.heap.size, 1, none⟩) (Nat.le_refl _) (.int .u64 0)
            clear d0 d1 e0 e1
            generalize (wr.setCell ⟨w.heap.size, 0, none⟩ (.int .i64 0)).setCell ⟨w.heap.size, 1, none⟩ (.int .u64 0) = wf at *
            have q0 : wf.cell? ⟨w.heap.size, 0, none⟩ = some (.int .i64 0) := blk_cell hfin 0
            have q1 : wf.cell? ⟨w.heap.size, 1, none⟩ = some (.int .u64 0) := blk_cell hfin 1
            exact bodyPost_ret (v := .tuple #[.agg #[.int .i64 0, .int .u64 0], .bool false]) (by simp [results, Tryd.results69, go_sem, q0, q1]) rfl ⟨ret_of (by rw [← HPP.out, HZ.out]; rfl), hbf⟩
        | false =>
          have hq := ref_endF (s := s) (L := L) (C := C) (la := x) hnum
          clear hnum
          by_cases hn : n ≤ 63
          · by_cases hla : x < (n : Int)
            · rw [stepF_yes hn hla, if_pos rfl] at hq
              have HBit := Lib.hid (bits_or HB.out hla)
              have hor := add_or HB.out hla
              have hpb : 2 ^ n < 18446744073709551616 := Nat.pow_lt_pow_right (a := 2) (n := 64) (by omega) (by omega)
              have hcy := or_small hC hpb
              have hsh : IntKind.u64.wrap (2 ^ n) = ((2 ^ n : Nat) : Int) := by
                rw [show (2 : Int) ^ n = ((2 ^ n : Nat) : Int) by simp]
                generalize 2 ^ n = z at hpb
                exact IntWalk.u64_in _ (by omega)
              have hsum : IntKind.u64.wrap ((C : Int) + ((2 ^ n : Nat) : Int)) = ((C ||| 2 ^ n : Nat) : Int) := by
                rw [← hor] at hcy ⊢
                generalize 2 ^ n = z at hcy
                rw [IntWalk.u64_in _ (by omega)]; omega
              have HSt := Lib.hid (show s.size + 1 ≤ s.size → refP true 0 0 (-1) [] s.data.toList = refP false L (C + 2 ^ n) n [] (s.data.toList.drop (s.size + 1)) from fun h => by omega)
              have HEn := Lib.hid (show s.size + 1 = s.size + 1 → _ from fun _ => HR.out.trans hq)
              rw [hor] at HSt HEn
              clear hpb hor
              generalize C ||| 2 ^ n = y at *
              generalize 2 ^ n = q at *
              have c1 := (res_cells HK1.out).2
              have f1 := blk_free HK1.out 1
              have hn0 : (0 : Int) ≤ (n : Int) := by omega
              go_wp2_with fail
              with_reducible refine (HN.call _).mono ?_
              rintro e w1 ⟨rfl, rfl⟩
              go_wp2_with fail
              go_region
              all_goals
                go_wp2_with fail
                go_roundg (s.size + 1 - (s.size + 1))
                case measure => omega
                case rel => exact ⟨s.size + 1, L, y, n, [], false, by omega, by go_num, rfl, rfl, rfl, Nat.le_refl _, by simp, hcy, HBit, HSt, (by first | exact HEn | exact Lib.hid (fun _ => HEn.out trivial)), Lib.hid ((blk_far (g := w.heap.size) (g' := w.heap.size + 1) (by omega) _).trans HK0.out), Lib.hid (blk_set HK1.out 1 _), (hbel.setCell (p := ⟨w.heap.size + 1, 1, none⟩) (Nat.le_succ _) _).drew⟩
            · rw [stepF_no2 hla, if_neg (by decide)] at hq
              have HZ := Lib.hid (HR.out.trans hq)
              have d0 := (res_cells HK0.out).1
              have d1 := (res_cells HK0.out).2
              have e0 := blk_free HK0.out 0
              have e1 := blk_free HK0.out 1
              go_wp2_with fail
              with_reducible refine (HN.call _).mono ?_
              rintro e w1 ⟨rfl, rfl⟩
              go_wp2_with fail
              have hfin := blk_set (blk_set HK0.out 0 (.int .i64 0)) 1 (.int .u64 0)
              have hbf := (hbel.setCell (p := ⟨w.heap.size, 0, none⟩) (Nat.le_refl _) (.int .i64 0)).setCell (p := ⟨w.heap.size, 1, none⟩) (Nat.le_refl _) (.int .u64 0)
              clear d0 d1 e0 e1
              generalize (wr.setCell ⟨w.heap.size, 0, none⟩ (.int .i64 0)).setCell ⟨w.heap.size, 1, none⟩ (.int .u64 0) = wf at *
              have q0 : wf.cell? ⟨w.heap.size, 0, none⟩ = some (.int .i64 0) := blk_cell hfin 0
              have q1 : wf.cell? ⟨w.heap.size, 1, none⟩ = some (.int .u64 0) := blk_cell hfin 1
              exact bodyPost_ret (v := .tuple #[.agg #[.int .i64 0, .int .u64 0], .bool false]) (by simp [results, Tryd.results69, go_sem, q0, q1]) rfl ⟨ret_of (by rw [← HPP.out, HZ.out]; rfl), hbf⟩
          · rw [stepF_no1 hn, if_neg (by decide)] at hq
            have HZ := Lib.hid (HR.out.trans hq)
            have d0 := (res_cells HK0.out).1
            have d1 := (res_cells HK0.out).2
            have e0 := blk_free HK0.out 0
            have e1 := blk_free HK0.out 1
            go_wp2_with fail
            with_reducible refine (HN.call _).mono ?_
            rintro e w1 ⟨rfl, rfl⟩
            go_wp2_with fail
            have hfin := blk_set (blk_set HK0.out 0 (.int .i64 0)) 1 (.int .u64 0)
            have hbf := (hbel.setCell (p := ⟨w.heap.size, 0, none⟩) (Nat.le_refl _) (.int .i64 0)).setCell (p := ⟨w.heap.size, 1, none⟩) (Nat.le_refl _) (.int .u64 0)
            clear d0 d1 e0 e1
            generalize (wr.setCell ⟨w.heap.size, 0, none⟩ (.int .i64 0)).setCell ⟨w.heap.size, 1, none⟩ (.int .u64 0) = wf at *
            have q0 : wf.cell? ⟨w.heap.size, 0, none⟩ = some (.int .i64 0) := blk_cell hfin 0
            have q1 : wf.cell? ⟨w.heap.size, 1, none⟩ = some (.int .u64 0) := blk_cell hfin 1
            exact bodyPost_ret (v := .tuple #[.agg #[.int .i64 0, .int .u64 0], .bool false]) (by simp [results, Tryd.results69, go_sem, q0, q1]) rfl ⟨ret_of (by rw [← HPP.out, HZ.out]; rfl), hbf⟩
end Go.Proofs.YtadhhamfikpimaaDoor.L
