/-
  The contracts of the reference's Number, Name and Decimal: they come to the same plain functions as the program's own.
  The contract of the reference's Decimal, by induction over the number.
  The contract of the reference's Print for labels.
-/
import Derived.Test.YtadhhamfikpimaaDoorGa
import Derived.Deep.RegionWith
import Derived.Test.YtadhhamfikpimaaDoorGf
import Derived.Test.YtadhhamfikpimaaDoorGd
namespace Go.Proofs.YtadhhamfikpimaaDoor.T
open Go.RowKit

theorem val_bad (s : ByteArray) (k n : Nat) (hk : k < s.size) (h : (s[k].toNat : Int) < 48 ∨ 57 < (s[k].toNat : Int)) : P.valGo (s.data.toList.drop k) n = none := by
  have hl : k < s.data.toList.length := by rw [← Lib.size_eq]; exact hk
  rw [List.drop_eq_getElem_cons hl, P.valGo, if_pos (by rw [byte s k hk hl]; omega)]
theorem val_on (s : ByteArray) (k n : Nat) (hk : k < s.size) (h1 : 48 ≤ (s[k].toNat : Int)) (h2 : (s[k].toNat : Int) ≤ 57) :
    P.valGo (s.data.toList.drop k) n = P.valGo (s.data.toList.drop (k + 1)) (10 * n + (s[k].toNat - 48)) := by
  have hl : k < s.data.toList.length := by rw [← Lib.size_eq]; exact hk
  have e := byte s k hk hl
  rw [List.drop_eq_getElem_cons hl, P.valGo, if_neg (by rw [e]; omega), e]
theorem val_end (s : ByteArray) (n : Nat) : P.valGo (s.data.toList.drop s.size) n = some n := by
  rw [Lib.size_eq, List.drop_length, P.valGo]
theorem pow_bound {n d k : Nat} (h : n < 10 ^ k) (hd : d < 10) (hk : k < 10) : 10 * n + d < 10 ^ (k + 1) ∧ 10 * n + d ≤ 9999999999 := by
  have h1 : 10 * n + d < 10 ^ (k + 1) := by rw [Nat.pow_succ]; omega
  have h2 : 10 ^ (k + 1) ≤ 10 ^ 10 := Nat.pow_le_pow_right (by omega) (by omega)
  omega
theorem number_val (s : ByteArray) (h : 0 < s.size) (h0 : s.size ≤ 1 ∨ ¬ s[0].toNat = 48) : P.number s.data.toList = P.upTo (P.valGo s.data.toList 0) := by
  rw [number_go s h (by rcases h0 with h0 | h0; exact .inl (by omega); exact .inr h0), P.numGo_val _ _ (by omega)]
theorem upTo_none : P.upTo none = none := rfl
theorem upTo_big (n : Nat) (h : 2147483647 < n) : P.upTo (some n) = none := by simp [P.upTo, h]
theorem upTo_in (n : Nat) (h : n ≤ 2147483647) : P.upTo (some n) = some n := by simp [P.upTo]; omega

set_option maxHeartbeats 1000000 in
theorem refNumber_any (s : ByteArray) (w : World) :
    Calls Tryd.prog 97 #[.string s] w fun e w' => e = .returned (numVal (P.number s.data.toList)) ∧ w = w' := by
  by_cases h0 : s.size = 0
  · have Hn := Lib.hid (number_nil s h0)
    have h0' : ((s.size : Int) == 0) = true := beq_iff_eq.2 (by omega)
    clear h0
    go_enter Tryd.func97, Tryd.ntmps97
    go_wp2
    go_ret2
    exact ⟨ret_of (by rw [Hn.out]; rfl), rfl⟩
  have h0' : ((s.size : Int) == 0) = false := beq_eq_false_iff_ne.2 (by omega)
  by_cases h10 : 10 < s.size
  · have Hn := Lib.hid (P.number_long s.data.toList (by rw [← Lib.size_eq]; exact h10))
    clear h0
    go_enter Tryd.func97, Tryd.ntmps97
    go_wp2
    go_ret2
    exact ⟨ret_of (by rw [Hn.out]; rfl), rfl⟩
  have hpos : 0 < s.size := by omega
  clear h0
  by_cases h1 : 1 < s.size
  · by_cases hz : s[0].toNat = 48
    · have Hn := Lib.hid (number_zero s h1 hz)
      have hz' : ((s[0].toNat : Int) == 48) = true := beq_iff_eq.2 (by omega)
      clear hz
      go_enter Tryd.func97, Tryd.ntmps97
      go_wp2
      go_ret2
      exact ⟨ret_of (by rw [Hn.out]; rfl), rfl⟩
    · have Hn := Lib.hid (number_val s hpos (.inr hz))
      have hz' : ((s[0].toNat : Int) == 48) = false := beq_eq_false_iff_ne.2 (by omega)
      clear hz
      go_enter Tryd.func97, Tryd.ntmps97
      go_wp2
      go_loop [4, 5] (fun t i => ∃ k n : Nat, k ≤ s.size ∧ i = .int .i64 k ∧ t = .int .i64 n ∧ n ≤ 9999999999 ∧ Hid (n < 10 ^ k) ∧ Hid (P.valGo s.data.toList 0 = P.valGo (s.data.toList.drop k) n)) (fun _ i => s.size - (intOf i).toNat)
      case atStart => exact ⟨0, 0, Nat.zero_le _, rfl, rfl, by omega, Lib.hid (by decide), Lib.hid rfl⟩
      case round =>
        obtain ⟨k, n, hk, rfl, rfl, hn, HP, HR⟩ := hrel
        by_cases hlt : k < s.size
        · go_wp2
          · go_ret2
            exact ⟨ret_of (by rw [Hn.out, HR.out, val_bad s k n hlt (by omega), upTo_none]; rfl), rfl⟩
          · have hon := val_on s k n hlt (by omega) (by omega)
            have hpb := pow_bound (d := s[k].toNat - 48) HP.out (by omega) (by omega)
            go_round
            case rel => exact ⟨k + 1, 10 * n + (s[k].toNat - 48), by omega, by go_num, by go_num, hpb.2, Lib.hid hpb.1, Lib.hid (HR.out.trans hon)⟩
            case measure => simp [intOf]; omega
          · go_ret2
            exact ⟨ret_of (by rw [Hn.out, HR.out, val_bad s k n hlt (by omega), upTo_none]; rfl), rfl⟩
        · obtain rfl : s.size = k := by omega
          by_cases hb : 2147483647 < n
          · go_wp2
            go_ret2
            exact ⟨ret_of (by rw [Hn.out, HR.out, val_end, upTo_big n hb]; rfl), rfl⟩
          · go_wp2
            go_ret2
            exact ⟨ret_of (by rw [Hn.out, HR.out, val_end, upTo_in n (by omega)]; rfl), rfl⟩
  · have Hn := Lib.hid (number_val s hpos (.inl (by omega)))
    go_enter Tryd.func97, Tryd.ntmps97
    go_wp2
    go_loop [4, 5] (fun t i => ∃ k n : Nat, k ≤ s.size ∧ i = .int .i64 k ∧ t = .int .i64 n ∧ n ≤ 9999999999 ∧ Hid (n < 10 ^ k) ∧ Hid (P.valGo s.data.toList 0 = P.valGo (s.data.toList.drop k) n)) (fun _ i => s.size - (intOf i).toNat)
    case atStart => exact ⟨0, 0, Nat.zero_le _, rfl, rfl, by omega, Lib.hid (by decide), Lib.hid rfl⟩
    case round =>
      obtain ⟨k, n, hk, rfl, rfl, hn, HP, HR⟩ := hrel
      by_cases hlt : k < s.size
      · go_wp2
        · go_ret2
          exact ⟨ret_of (by rw [Hn.out, HR.out, val_bad s k n hlt (by omega), upTo_none]; rfl), rfl⟩
        · have hon := val_on s k n hlt (by omega) (by omega)
          have hpb := pow_bound (d := s[k].toNat - 48) HP.out (by omega) (by omega)
          go_round
          case rel => exact ⟨k + 1, 10 * n + (s[k].toNat - 48), by omega, by go_num, by go_num, hpb.2, Lib.hid hpb.1, Lib.hid (HR.out.trans hon)⟩
          case measure => simp [intOf]; omega
        · go_ret2
          exact ⟨ret_of (by rw [Hn.out, HR.out, val_bad s k n hlt (by omega), upTo_none]; rfl), rfl⟩
      · obtain rfl : s.size = k := by omega
        by_cases hb : 2147483647 < n
        · go_wp2
          go_ret2
          exact ⟨ret_of (by rw [Hn.out, HR.out, val_end, upTo_big n hb]; rfl), rfl⟩
        · go_wp2
          go_ret2
          exact ⟨ret_of (by rw [Hn.out, HR.out, val_end, upTo_in n (by omega)]; rfl), rfl⟩

theorem refName_any (s : ByteArray) (w : World) (hs : s.size ≤ maxLen) :
    Calls Tryd.prog 46 #[.string s] w fun e w' => e = .returned (.bool (P.name s.data.toList)) ∧ w = w' := by
  unfold maxLen at hs
  by_cases h1 : s.size < 1
  · have Hn := Lib.hid (name_long s (.inl h1))
    go_enter Tryd.func46, Tryd.ntmps46
    go_wp2
    go_ret
    exact ⟨ret_of (by rw [Hn.out]; rfl), rfl⟩
  by_cases h2 : 64 < s.size
  · have Hn := Lib.hid (name_long s (.inr h2))
    go_enter Tryd.func46, Tryd.ntmps46
    go_wp2
    go_ret
    exact ⟨ret_of (by rw [Hn.out]; rfl), rfl⟩
  have Hn := Lib.hid (name_all s (by omega) (by omega))
  go_enter Tryd.func46, Tryd.ntmps46
  go_wp2
  go_loop [3] (fun i => ∃ k : Nat, k ≤ s.size ∧ i = .int .i64 k ∧ Hid (∀ j (hj : j < s.data.toList.length), j < k → 33 ≤ s.data.toList[j].toNat ∧ s.data.toList[j].toNat ≤ 126)) (fun i => s.size - (intOf i).toNat)
  case atStart => exact ⟨0, Nat.zero_le _, rfl, Lib.hid (fun j _ h => absurd h (by omega))⟩
  case round =>
    obtain ⟨k, hk, rfl, HR⟩ := hrel
    by_cases hlt : k < s.size
    · go_wp2
      · go_ret
        exact ⟨ret_of (by rw [Hn.out, all_bad s k hlt (by omega)]; rfl), rfl⟩
      · have hlo : 33 ≤ (s[k].toNat : Int) := by omega
        have hhi : (s[k].toNat : Int) ≤ 126 := by omega
        go_round
        case rel =>
          refine ⟨k + 1, by omega, by go_num, Lib.hid (fun j hj hjk => ?_)⟩
          by_cases e : j = k
          · subst e; rw [byte s j hlt hj]; omega
          · exact HR.out j hj (by omega)
        case measure => simp [intOf]; omega
      · go_ret
        exact ⟨ret_of (by rw [Hn.out, all_bad s k hlt (by omega)]; rfl), rfl⟩
    · go_wp2
      go_ret
      have hall : (s.data.toList.all fun c => decide (33 ≤ c.toNat) && decide (c.toNat ≤ 126)) = true := by
        rw [List.all_eq_true]
        intro c hc
        obtain ⟨j, hj, rfl⟩ := List.getElem_of_mem hc
        have := HR.out j hj (by rw [← Lib.size_eq] at hj; omega)
        rw [decide_eq_true this.1, decide_eq_true this.2]; rfl
      exact ⟨ret_of (by rw [Hn.out, hall]; rfl), rfl⟩
end Go.Proofs.YtadhhamfikpimaaDoor.T

namespace Go.Proofs.YtadhhamfikpimaaDoor.T
open Go.RowKit

theorem bcell {W w1 : World} (hb : Below W.heap.size W w1) (b o : Nat) (h : b < W.heap.size) : w1.cell? ⟨b, o, none⟩ = W.cell? ⟨b, o, none⟩ := hb.cell (p := ⟨b, o, none⟩) h
theorem conv_one (c : UInt8) (W : World) (a : Nat) (h : W.cell? ⟨a, 0, none⟩ = some (.int .u8 (c.toNat : Int))) : (convert 22 9 (.slice (some ⟨a, 0, none⟩) 1 1)).run Tryd.prog W = .ok (.string ⟨#[c]⟩) W :=
  conv_bytes W a 0 1 1 [c] rfl (fun j hj => by
    match j, hj with
    | 0, _ => simpa using h)
theorem dec_small (m : Nat) (h : m < 10) : Lib.decDigits m = [UInt8.ofNat (48 + m)] := Lib.decDigits_one h
theorem dec_big (m : Nat) (h : ¬ m < 10) : Lib.decDigits m = Lib.decDigits (m / 10) ++ [UInt8.ofNat (48 + m % 10)] := by
  conv => lhs; rw [Lib.decDigits, dif_neg h]
theorem str_append (l r : List UInt8) : (⟨l.toArray⟩ : ByteArray) ++ ⟨r.toArray⟩ = ⟨(l ++ r).toArray⟩ := by
  apply ByteArray.ext
  simp

set_option maxHeartbeats 1000000 in
set_option maxRecDepth 100000 in
theorem refDecimal_in : ∀ (m : Nat) (w : World), m ≤ 2147483647 →
    Calls Tryd.prog 75 #[.int .i64 m] w fun e w' => e = .returned (.string ⟨(Lib.decDigits m).toArray⟩) ∧ Below w.heap.size w w' := by
  intro m
  induction m using Nat.strongRecOn with
  | ind m ih =>
    intro w hm
    have IH := Lib.hid ih
    clear ih
    by_cases h : m < 10
    · have HD := Lib.hid (dec_small m h)
      have hd := P.digit m h
      generalize UInt8.ofNat (48 + m) = c at *
      have hcv := conv_one c
      have hd' : (c.toNat : Int) = 48 + (m : Int) := by omega
      clear hd
      rw [hd'] at hcv
      clear hd'
      go_enter Tryd.func75, Tryd.ntmps75
      go_wp2_with fail
      go_ret
      exact ⟨ret_of (by rw [HD.out]; rfl), (Below.refl _ _).alloc (Nat.le_refl _) _⟩
    · have HD := Lib.hid (dec_big m h)
      have hd := P.digit (m % 10) (by omega)
      have ihq := IH.out (m / 10) (by omega)
      clear IH
      generalize UInt8.ofNat (48 + m % 10) = c at *
      have hln : (Lib.decDigits (m / 10)).length ≤ 10 := by
        have := P.decimal_length ((m / 10 : Nat) : Int)
        rwa [P.decimal_in _ (by omega) (by omega), Int.toNat_natCast] at this
      generalize Lib.decDigits (m / 10) = l at *
      have hadd : (⟨l.toArray⟩ : ByteArray).size + (⟨#[c]⟩ : ByteArray).size ≤ 9223372036854775807 := by
        rw [list_size]; show l.length + 1 ≤ _; omega
      have hcv := conv_one c
      have hd' : (c.toNat : Int) = IntKind.u8.wrap (IntKind.i64.wrap (48 + (m : Int).tmod 10)) := by
        rw [Int.tmod_eq_emod_of_nonneg (by omega), IntWalk.i64_in _ (by omega), IntKind.wrap_u8]; omega
      clear hd
      rw [hd'] at hcv
      clear hd'
      have IQ : Hid (∀ w : World, Calls Tryd.prog 75 #[.int .i64 (IntKind.i64.wrap ((m : Int) / 10))] w fun e w' => e = .returned (.string ⟨l.toArray⟩) ∧ Below w.heap.size w w') := Lib.hid fun w => by
        have := ihq w (by omega)
        rwa [show ((m / 10 : Nat) : Int) = IntKind.i64.wrap ((m : Int) / 10) by rw [IntWalk.i64_in _ (by omega)]; omega] at this
      clear ihq
      go_enter Tryd.func75, Tryd.ntmps75
      go_wp2_with fail
      go_region_with (go_at_call 75; with_reducible refine (IQ.out _).mono ?_; rintro e w' ⟨rfl, hbq⟩; have hbc := bcell hbq; have hbz := hbq.size)
      all_goals
        go_wp2_with fail
        go_ret
        refine ⟨ret_of (by rw [HD.out, ← str_append]; rfl), ?_⟩
        first
          | exact (((Below.refl w.heap.size w).drew).trans (hbq.mono (Nat.le_refl _))).alloc hbz _
          | exact (((Below.refl w.heap.size w).drew.alloc (Nat.le_refl _) _)).trans (hbq.mono (by simp))
          | exact (((Below.refl w.heap.size w).alloc (Nat.le_refl _) _).drew).trans (hbq.mono (by simp))

theorem refDecimal_any (n : Int) (w : World) :
    Calls Tryd.prog 75 #[.int .i64 n] w fun e w' => e = .returned (.string ⟨(P.decimal n).toArray⟩) ∧ Below w.heap.size w w' := by
  by_cases h0 : n < 0
  · have HD := Lib.hid (P.decimal_out n (.inl h0))
    go_enter Tryd.func75, Tryd.ntmps75
    go_wp2_with fail
    go_ret
    exact ⟨ret_of (by rw [HD.out]; rfl), Below.refl _ _⟩
  by_cases h1 : 2147483647 < n
  · have HD := Lib.hid (P.decimal_out n (.inr h1))
    go_enter Tryd.func75, Tryd.ntmps75
    go_wp2_with fail
    go_ret
    exact ⟨ret_of (by rw [HD.out]; rfl), Below.refl _ _⟩
  · obtain ⟨m, rfl⟩ := Int.eq_ofNat_of_zero_le (show 0 ≤ n by omega)
    rw [P.decimal_in _ (by omega) (by omega), Int.toNat_natCast]
    exact refDecimal_in m w (by omega)
end Go.Proofs.YtadhhamfikpimaaDoor.T

namespace Go.Proofs.YtadhhamfikpimaaDoor.L
open Go.RowKit
open T

/-- What stands behind the level. -/
def catsPre (xs : List Nat) : List UInt8 := if xs = [] then [] else 58 :: catsText xs
theorem catsText_snoc : ∀ (ys : List Nat) (x : Nat), ys ≠ [] → catsText (ys ++ [x]) = catsText ys ++ 44 :: P.decimal (x : Int)
  | [y], x, _ => by rw [List.cons_append, List.nil_append, catsText_cons, catsText_one, catsText_one]
  | y :: z :: r, x, _ => by
    have ih := catsText_snoc (z :: r) x (by simp)
    rw [List.cons_append, List.cons_append, catsText_cons, ← List.cons_append, ih, catsText_cons]
    simp
theorem catsPre_zero {xs : List Nat} (h : 0 < xs.length) : catsPre (xs.take 1) = ([58] : List UInt8) ++ P.decimal ((xs[0] : Nat) : Int) := by
  cases xs with
  | nil => simp at h
  | cons x r => simp [catsPre, catsText_one]
theorem catsPre_succ {xs : List Nat} {k : Nat} (hk : k < xs.length) (h0 : 0 < k) : catsPre (xs.take (k + 1)) = catsPre (xs.take k) ++ [44] ++ P.decimal ((xs[k] : Nat) : Int) := by
  have hne : xs.take k ≠ [] := fun e => by
    have := congrArg List.length e
    rw [List.length_take, List.length_nil] at this; omega
  rw [List.take_succ_eq_append_getElem hk, catsPre, if_neg (fun e => by have := congrArg List.length e; rw [List.length_append] at this; simp at this), catsText_snoc _ _ hne, catsPre, if_neg hne]
  simp
theorem catsPre_len (xs : List Nat) : (catsPre xs).length ≤ 11 * xs.length + 1 := by
  have := join_len xs
  unfold catsPre
  split
  · simp
  · simp; omega
theorem print_pre (l : Int) (c : Nat) : print l c = P.decimal l ++ catsPre (catsTo c 64) := by
  unfold print catsPre
  split
  · simp
  · simp

set_option maxHeartbeats 1000000 in
set_option maxRecDepth 100000 in
theorem refPrint_any (l : Int) (c : Nat) (w : World) :
    Calls Tryd.prog 43 #[lab l c] w fun e w' => e = .returned (.string ⟨(print l c).toArray⟩) ∧ Below w.heap.size w w' := by
  have HC := Lib.hid (fun w => refCats_any l c w)
  have HD := Lib.hid (fun (n : Int) (w : World) => refDecimal_any n w)
  have hlen := catsTo_len c 64
  have HP := Lib.hid (print_pre l c)
  have hdl := P.decimal_length l
  have HDL := Lib.hid (fun n : Int => P.decimal_length n)
  generalize print l c = res at *
  generalize catsTo c 64 = xs at *
  go_enter Tryd.func43, Tryd.ntmps43
  go_wp2_with fail
  with_reducible refine (HD.out l _).mono ?_
  rintro e w1 ⟨rfl, hb1⟩
  have HK0 := Lib.hid ((hb1.block w.heap.size (by simp)).trans (heap_alloc_new w _))
  have hbe1 : Below w.heap.size w w1 := ((Below.refl _ _).alloc (Nat.le_refl _) _).trans (hb1.mono (by simp))
  have d0 := (res_cells HK0.out).1
  have d1 := (res_cells HK0.out).2
  clear hb1
  go_wp2_with fail
  with_reducible refine (HC.out _).mono ?_
  rintro e w2 ⟨v, rfl, hown, hb2⟩
  obtain ⟨A, cap, hv, hcap, hA⟩ := own_form hown
  subst hv
  have hbe2 : Below w.heap.size w w2 := hbe1.trans (hb2.mono hbe1.size)
  have HA := Lib.hid hA
  clear hA hown hb2 HC d0 d1 HK0
  generalize P.decimal l = dl at *
  go_wp2_with fail
  go_loopg [3, 5] xs.length (fun n o i wr => ∃ k : Nat, k ≤ xs.length ∧ i = .int .i64 k ∧ xs.length - k ≤ n ∧ o = .string ⟨(dl ++ catsPre (xs.take k)).toArray⟩ ∧ Below w2.heap.size w2 wr)
  case atStart => exact ⟨0, Nat.zero_le _, rfl, by omega, by simp [catsPre], Below.refl _ _⟩
  case round =>
    obtain ⟨k, hk, rfl, hn, rfl, hbw⟩ := hrel
    by_cases hlt : k < xs.length
    · obtain ⟨g, hAe, hg0, hg1, hcells⟩ := HA.out (by omega)
      subst hAe
      have hcell : wr.cell? ⟨g, k, none⟩ = some (.int .i64 ((xs[k] : Nat) : Int)) := (hbw.cell (p := ⟨g, k, none⟩) hg1).trans (hcells k _ (by simp [intCells, List.getElem?_eq_getElem hlt]))
      clear hcells
      have hpl := catsPre_len (xs.take k)
      rw [List.length_take] at hpl
      have hxl := HDL.out ((xs[k] : Nat) : Int)
      by_cases h0 : k = 0
      · have hb0 : ((k : Int) == 0) = true := beq_iff_eq.2 (by omega)
        have HS := Lib.hid (show catsPre (xs.take (k + 1)) = ([58] : List UInt8) ++ P.decimal ((xs[k] : Nat) : Int) by subst h0; exact catsPre_zero hlt)
        have HZ := Lib.hid (show catsPre (xs.take k) = [] by subst h0; simp [catsPre])
        rw [HZ.out, List.append_nil]
        generalize xs[k] = x at *
        clear h0 hpl
        have ha1 : (⟨dl.toArray⟩ : ByteArray).size + (⟨#[58]⟩ : ByteArray).size ≤ 9223372036854775807 := by
          show dl.toArray.size + 1 ≤ _; simp; omega
        have ha2 : ((⟨dl.toArray⟩ : ByteArray) ++ ⟨#[58]⟩).size + (⟨(P.decimal (x : Int)).toArray⟩ : ByteArray).size ≤ 9223372036854775807 := by
          rw [ByteArray.size_append]; show dl.toArray.size + 1 + (P.decimal (x : Int)).toArray.size ≤ _; simp; omega
        go_wp2_with fail
        with_reducible refine (HD.out (x : Int) _).mono ?_
        rintro e w3 ⟨rfl, hb3⟩
        have hbw3 : Below w2.heap.size w2 w3 := hbw.trans (hb3.mono hbw.size)
        generalize P.decimal (x : Int) = ds at *
        clear hcell hb3
        go_wp2_with fail
        go_roundg (xs.length - (k + 1))
        case measure => omega
        case rel => exact ⟨k + 1, by omega, by go_num, Nat.le_refl _, by rw [HS.out, ← List.append_assoc, ← cat, ← cat], hbw3⟩
      · have hb0 : ((k : Int) == 0) = false := beq_eq_false_iff_ne.2 (by omega)
        have HS := Lib.hid (catsPre_succ hlt (by omega))
        generalize xs[k] = x at *
        generalize catsPre (xs.take k) = pre at *
        clear h0
        have ha1 : (⟨(dl ++ pre).toArray⟩ : ByteArray).size + (⟨#[44]⟩ : ByteArray).size ≤ 9223372036854775807 := by
          show (dl ++ pre).toArray.size + 1 ≤ _; simp; omega
        have ha2 : ((⟨(dl ++ pre).toArray⟩ : ByteArray) ++ ⟨#[44]⟩).size + (⟨(P.decimal (x : Int)).toArray⟩ : ByteArray).size ≤ 9223372036854775807 := by
          rw [ByteArray.size_append]; show (dl ++ pre).toArray.size + 1 + (P.decimal (x : Int)).toArray.size ≤ _; simp; omega
        have HE := Lib.hid (show ((⟨(dl ++ pre).toArray⟩ : ByteArray) ++ ⟨#[44]⟩) ++ ⟨(P.decimal (x : Int)).toArray⟩ = ⟨(dl ++ (pre ++ [44] ++ P.decimal (x : Int))).toArray⟩ by
          rw [show (⟨#[44]⟩ : ByteArray) = ⟨[44].toArray⟩ from rfl, cat, cat]; simp)
        generalize dl ++ pre = cur at *
        go_wp2_with fail
        with_reducible refine (HD.out (x : Int) _).mono ?_
        rintro e w3 ⟨rfl, hb3⟩
        have hbw3 : Below w2.heap.size w2 w3 := hbw.trans (hb3.mono hbw.size)
        generalize P.decimal (x : Int) = ds at *
        clear hcell hb3
        go_wp2_with fail
        go_roundg (xs.length - (k + 1))
        case measure => omega
        case rel => exact ⟨k + 1, by omega, by go_num, Nat.le_refl _, by rw [HS.out, ← HE.out], hbw3⟩
    · obtain rfl : k = xs.length := by omega
      have hbr : Below w.heap.size w wr := hbe2.trans (hbw.mono hbe2.size)
      rw [List.take_length]
      go_wp2_with fail
      go_ret
      exact ⟨ret_of (by rw [HP.out]; rfl), hbr⟩
end Go.Proofs.YtadhhamfikpimaaDoor.L
