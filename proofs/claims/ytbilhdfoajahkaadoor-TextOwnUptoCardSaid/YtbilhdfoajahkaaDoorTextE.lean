/-
  Rows of lines in memory, and the contracts of text.has and text.Right.
-/
import Derived.Test.YtbilhdfoajahkaaDoorTextC
import Derived.Test.YtbilhdfoajahkaaDoorTextP
import Derived.Test.YtbilhdfoajahkaaDoorOwn2
import Derived.Lib.AppendStr
namespace Go.Proofs.YtbilhdfoajahkaaDoor.T
open Go.RowKit

/-- Lines in memory: two cells each, from an address on. -/
def LinesAt (w : World) (bk off : Nat) (xs : List (List UInt8 × Bool)) : Prop :=
  ∀ j (h : j < xs.length), w.cell? ⟨bk, off + j * 2, none⟩ = some (.string ⟨xs[j].1.toArray⟩) ∧ w.cell? ⟨bk, off + j * 2 + 1, none⟩ = some (.bool xs[j].2)
/-- A slice's lines, wherever it lies. -/
def LinesIn (w : World) (A : Option Addr) (xs : List (List UInt8 × Bool)) : Prop :=
  0 < xs.length → ∃ bk off, A = some ⟨bk, off, none⟩ ∧ bk < w.heap.size ∧ LinesAt w bk off xs
theorem LinesAt.below {w w' : World} {bk off B : Nat} {xs : List (List UInt8 × Bool)} (h : LinesAt w bk off xs) (hb : Below B w w') (hB : bk < B) : LinesAt w' bk off xs :=
  fun j hj => ⟨(hb.cell (p := ⟨bk, off + j * 2, none⟩) hB).trans (h j hj).1, (hb.cell (p := ⟨bk, off + j * 2 + 1, none⟩) hB).trans (h j hj).2⟩
theorem LinesIn.below {w w' : World} {A : Option Addr} {xs : List (List UInt8 × Bool)} (h : LinesIn w A xs) (hb : Below w.heap.size w w') : LinesIn w' A xs := fun hp => by
  obtain ⟨bk, off, e, hlt, hl⟩ := h hp
  exact ⟨bk, off, e, Nat.lt_of_lt_of_le hlt hb.size, hl.below hb hlt⟩
theorem lineCells_at : ∀ (xs : List (List UInt8 × Bool)) (j : Nat) (h : j < xs.length), (lineCells xs)[j * 2]? = some (.string ⟨xs[j].1.toArray⟩) ∧ (lineCells xs)[j * 2 + 1]? = some (.bool xs[j].2)
  | x :: r, 0, _ => by simp [lineCells]
  | x :: r, j + 1, h => by
    have ih := lineCells_at r j (by simpa using h)
    have e : lineCells (x :: r) = .string ⟨x.1.toArray⟩ :: .bool x.2 :: lineCells r := by simp [lineCells]
    rw [e, show (j + 1) * 2 = j * 2 + 1 + 1 by omega]
    simpa using ih
theorem lines_of_own {w : World} {base : Nat} {v : Value} {xs : List (List UInt8 × Bool)} (h : w.ownsRow base 59 2 v xs.length (lineCells xs)) :
    ∃ A cap, v = .slice A xs.length cap ∧ xs.length ≤ cap ∧ LinesIn w A xs := by
  obtain ⟨A, cap, hv, hc, hA⟩ := own_form h
  refine ⟨A, cap, hv, hc, fun hp => ?_⟩
  obtain ⟨g, rfl, _, hlt, hcells⟩ := hA hp
  exact ⟨g, 0, rfl, hlt, fun j hj => ⟨by rw [Nat.zero_add]; exact hcells _ _ (lineCells_at xs j hj).1, by rw [Nat.zero_add]; exact hcells _ _ (lineCells_at xs j hj).2⟩⟩

/-- Is there a byte 10? -/
def hasNl (l : List UInt8) : Bool := l.contains 10
theorem has_at {s : ByteArray} {k : Nat} (hk : k < s.size) (h : (s[k].toNat : Int) = 10) : hasNl s.data.toList = true := by
  unfold hasNl
  have hl : k < s.data.toList.length := by rw [← Lib.size_eq]; exact hk
  rw [List.contains_iff_mem]
  have : s.data.toList[k] = 10 := by rw [byte s k hk hl]; exact UInt8.toNat_inj.1 (show s[k].toNat = 10 by omega)
  rw [← this]; exact List.getElem_mem hl
theorem has_none {s : ByteArray} (h : ∀ j (hj : j < s.size), ¬ (s[j].toNat : Int) = 10) : hasNl s.data.toList = false := by
  unfold hasNl
  rw [← Bool.not_eq_true, List.contains_iff_mem]
  intro hm
  obtain ⟨j, hj, e⟩ := List.getElem_of_mem hm
  have hj' : j < s.size := by rw [Lib.size_eq]; exact hj
  rw [byte s j hj' hj] at e
  exact h j hj' (by rw [e]; rfl)

set_option maxRecDepth 100000 in
theorem has_any (s : ByteArray) (w : World) (hs : s.size ≤ maxLen) :
    Calls Tryd.prog 50 #[.string s, .int .u8 10] w fun e w' => e = .returned (.bool (hasNl s.data.toList)) ∧ w = w' := by
  unfold maxLen at hs
  go_enter Tryd.func50, Tryd.ntmps50
  go_wp2_with fail
  go_loop [8] (fun i => ∃ k : Nat, k ≤ s.size ∧ i = .int .i64 k ∧ Hid (∀ j (hj : j < s.size), j < k → ¬ (s[j].toNat : Int) = 10)) (fun i => s.size - (intOf i).toNat)
  case atStart => exact ⟨0, Nat.zero_le _, rfl, Lib.hid (fun j _ h => absurd h (by omega))⟩
  case round =>
    obtain ⟨k, hk, rfl, HR⟩ := hrel
    by_cases hlt : k < s.size
    · by_cases h10 : (s[k].toNat : Int) = 10
      · have hb : ((s[k].toNat : Int) == 10) = true := by simp [h10]
        have HY := Lib.hid (has_at hlt h10)
        clear h10
        go_wp2_with fail
        go_ret
        exact ⟨ret_of (by rw [HY.out]; rfl), rfl⟩
      · have hb : ((s[k].toNat : Int) == 10) = false := by simp [h10]
        have HN := Lib.hid h10
        clear h10
        go_wp2_with fail
        go_round
        case rel =>
          refine ⟨k + 1, by omega, by go_num, Lib.hid (fun j hj hjk => ?_)⟩
          by_cases e : j = k
          · subst e; exact HN.out
          · exact HR.out j hj (by omega)
        case measure => simp [intOf]; omega
    · have HY := Lib.hid (has_none (s := s) (fun j hj => HR.out j hj (by omega)))
      go_wp2_with fail
      go_ret
      exact ⟨ret_of (by rw [HY.out]; rfl), rfl⟩
def Hs (s : ByteArray) (b : Bool) : Prop := ∀ w : World, Calls Tryd.prog 50 #[.string s, .int .u8 10] w fun e w' => e = .returned (.bool b) ∧ w = w'
theorem Hs.call {s : ByteArray} {b : Bool} (h : Hs s b) (w : World) : Calls Tryd.prog 50 #[.string s, .int .u8 10] w fun e w' => e = .returned (.bool b) ∧ w = w' := h w
theorem hs_is (t : List UInt8) (ht : t.length ≤ maxLen) : Hs ⟨t.toArray⟩ (hasNl t) := fun w => by
  have := has_any ⟨t.toArray⟩ w (by rw [show (⟨t.toArray⟩ : ByteArray).size = t.length by simp [ByteArray.size]]; exact ht)
  rwa [show (⟨t.toArray⟩ : ByteArray).data.toList = t by simp] at this

theorem drop_line {xs : List (List UInt8 × Bool)} {k : Nat} (hk : k < xs.length) : xs.drop k = (xs[k].1, xs[k].2) :: xs.drop (k + 1) := List.drop_eq_getElem_cons hk
theorem right_step {xs : List (List UInt8 × Bool)} {k : Nat} (hk : k < xs.length) : P.right (xs.drop k) = (!(hasNl xs[k].1) && !(xs[k].2 && (decide (k + 1 < xs.length) || xs[k].1.isEmpty)) && P.right (xs.drop (k + 1))) := by
  unfold hasNl
  rw [drop_line hk, P.right]
  congr 4
  cases h : (xs.drop (k + 1)).isEmpty with
  | true =>
    have := List.isEmpty_iff.1 h
    have := congrArg List.length this
    simp at this
    rw [decide_eq_false (by omega)]; rfl
  | false =>
    rw [decide_eq_true]; rfl
    have : ¬ xs.drop (k + 1) = [] := fun e => by rw [e] at h; cases h
    rcases Nat.lt_or_ge (k + 1) xs.length with h' | h'
    · exact h'
    · exact absurd (List.drop_eq_nil_of_le h') this
theorem text_len {xs : List (List UInt8 × Bool)} {k : Nat} (hk : k < xs.length) : xs[k].1.length + 1 ≤ P.bulk xs := by
  induction xs generalizing k with
  | nil => simp at hk
  | cons x r ih =>
    obtain ⟨t, b⟩ := x
    cases k with
    | zero => simp [P.bulk]
    | succ k => have := ih (k := k) (by simpa using hk); rw [P.bulk]; simp; omega
set_option maxHeartbeats 1000000 in
set_option maxRecDepth 100000 in
theorem right_any (A : Option Addr) (cap : Nat) (xs : List (List UInt8 × Bool)) (w : World) (hb : P.bulk xs ≤ 4194304) (hA : LinesIn w A xs) :
    Calls Tryd.prog 21 #[.slice A xs.length cap] w fun e w' => e = .returned (.bool (P.right xs)) ∧ Below w.heap.size w w' := by
  have hlen := P.length_bulk xs
  have HA := Lib.hid hA
  clear hA
  go_enter Tryd.func21, Tryd.ntmps21
  go_wp2_with fail
  go_loopg [7] xs.length (fun n i wr => ∃ k : Nat, k ≤ xs.length ∧ i = .int .i64 k ∧ xs.length - k ≤ n ∧ Hid (P.right xs = P.right (xs.drop k)) ∧ Below w.heap.size w wr)
  case atStart => exact ⟨0, Nat.zero_le _, rfl, by omega, Lib.hid rfl, Below.refl _ _⟩
  case round =>
    obtain ⟨k, hk, rfl, hn, HR, hbel⟩ := hrel
    by_cases hlt : k < xs.length
    · obtain ⟨bk, off, hAe, hbk, hL⟩ := HA.out (by omega)
      subst hAe
      obtain ⟨c0, c1⟩ := hL.below hbel hbk k hlt
      have hbkr : bk < wr.heap.size := Nat.lt_of_lt_of_le hbk hbel.size
      have h0k : (0 : Int) ≤ (k : Int) := Int.natCast_nonneg _
      have h1k : (k : Int) < (xs.length : Int) := by omega
      have htl := text_len hlt
      have HS := Lib.hid (HR.out.trans (right_step hlt))
      have HH := hs_is xs[k].1 (by simp only [maxLen]; omega)
      clear hL HR
      generalize xs[k].2 = b at *
      generalize xs[k].1 = t at *
      generalize hasNl t = nl at *
      have hbel1 := hbel.alloc hbel.size (.cells #[.string ⟨t.toArray⟩, .bool b] 59)
      have hw : IntKind.i64.wrap ((xs.length : Int) - 1) = (xs.length : Int) - 1 := IntWalk.i64_in _ (by omega)
      cases nl with
      | true =>
        go_wp2_with fail
        with_reducible refine (HH.call _).mono ?_
        rintro e w1 ⟨rfl, rfl⟩
        go_wp2_with fail
        go_ret
        exact ⟨ret_of (by rw [HS.out]; rfl), hbel1⟩
      | false =>
        cases b with
        | false =>
          go_wp2_with fail
          with_reducible refine (HH.call _).mono ?_
          rintro e w1 ⟨rfl, rfl⟩
          go_wp2_with fail
          go_roundg (xs.length - (k + 1))
          case measure => omega
          case rel => exact ⟨k + 1, by omega, by go_num, Nat.le_refl _, Lib.hid (by rw [HS.out]; rfl), hbel1⟩
        | true =>
          by_cases hk1 : k + 1 < xs.length
          · have hk2 : (k : Int) < (xs.length : Int) - 1 := by omega
            have HS := Lib.hid (show P.right xs = false by rw [HS.out, decide_eq_true hk1]; rfl)
            go_wp2_with fail
            with_reducible refine (HH.call _).mono ?_
            rintro e w1 ⟨rfl, rfl⟩
            go_wp2_with fail
            go_ret
            exact ⟨ret_of (by rw [HS.out]; rfl), hbel1⟩
          · have hk2 : ¬ (k : Int) < (xs.length : Int) - 1 := by omega
            have HS := Lib.hid (show P.right xs = (!t.isEmpty && P.right (xs.drop (k + 1))) by rw [HS.out, decide_eq_false hk1]; rfl)
            cases em : t.isEmpty with
            | true =>
              go_wp2_with fail
              with_reducible refine (HH.call _).mono ?_
              rintro e w1 ⟨rfl, rfl⟩
              go_wp2_with fail
              go_ret
              exact ⟨ret_of (by rw [HS.out, em]; rfl), hbel1⟩
            | false =>
              go_wp2_with fail
              with_reducible refine (HH.call _).mono ?_
              rintro e w1 ⟨rfl, rfl⟩
              go_wp2_with fail
              go_roundg (xs.length - (k + 1))
              case measure => omega
              case rel => exact ⟨k + 1, by omega, by go_num, Nat.le_refl _, Lib.hid (by rw [HS.out, em]; rfl), hbel1⟩
    · obtain rfl : k = xs.length := by omega
      have HN := Lib.hid (HR.out.trans (by rw [List.drop_length]; rfl : _ = true))
      go_wp2_with fail
      go_ret
      exact ⟨ret_of (by rw [HN.out]; rfl), hbel⟩
end Go.Proofs.YtbilhdfoajahkaaDoor.T
