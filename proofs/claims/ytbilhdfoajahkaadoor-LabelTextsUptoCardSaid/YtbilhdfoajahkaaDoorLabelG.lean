/-
  The contract of strings.Cut at a separator of one byte: for every text, whatever its length.
-/
import Derived.Test.YtbilhdfoajahkaaDoorLabelF
import Derived.Lib.IndexLaws
namespace Go.Proofs.YtbilhdfoajahkaaDoor.L
open Go.RowKit
open T

/-- A text cut at the first byte c. -/
def split (c : UInt8) : List UInt8 → Option (List UInt8 × List UInt8)
  | [] => none
  | x :: r => if x = c then some ([], r) else (split c r).map fun p => (x :: p.1, p.2)
theorem split_index (c : UInt8) : ∀ l : List UInt8, (Lib.indexByte l c = -1 ∧ split c l = none) ∨ ∃ o : Nat, Lib.indexByte l c = o ∧ o < l.length ∧ split c l = some (l.take o, l.drop (o + 1))
  | [] => .inl ⟨rfl, rfl⟩
  | x :: r => by
    by_cases h : x = c
    · refine .inr ⟨0, ?_, by simp, by simp [split, h]⟩
      simp [Lib.indexByte, h]
    · rcases split_index c r with ⟨h1, h2⟩ | ⟨o, h1, h2, h3⟩
      · exact .inl ⟨by simp [Lib.indexByte, h, h1], by simp [split, h, h2]⟩
      · exact .inr ⟨o + 1, by simp [Lib.indexByte, h, h1], by simpa using h2, by simp [split, h, h3]⟩

def cutVal (s : List UInt8) (o : Option (List UInt8 × List UInt8)) : Value := match o with
  | some p => .tuple #[.string ⟨p.1.toArray⟩, .string ⟨p.2.toArray⟩, .bool true]
  | none => .tuple #[.string ⟨s.toArray⟩, .string ⟨#[]⟩, .bool false]

theorem extract_take (s : ByteArray) (o : Nat) : s.extract 0 o = ⟨(s.data.toList.take o).toArray⟩ := by
  rw [Lib.extract_eq]; simp
theorem extract_drop (s : ByteArray) (o : Nat) : s.extract o s.size = ⟨(s.data.toList.drop o).toArray⟩ := by
  rw [Lib.extract_eq, List.take_of_length_le]
  rw [List.length_drop, Lib.size_eq]; exact Nat.le_refl _

set_option maxHeartbeats 1000000 in
theorem lite_any (s : ByteArray) (c : UInt8) (w : World) (hs : s.size ≤ maxLen) :
    Calls Tryd.prog 59 #[.string s, .string ⟨#[c]⟩] w fun e w' => e = .returned (cutVal s.data.toList (split c s.data.toList)) ∧ ∃ n, w' = w.drewN n := by
  have HI := Lib.hid (Tryd.stringslite_Index_one s c)
  unfold maxLen at hs
  rcases split_index c s.data.toList with ⟨h1, h2⟩ | ⟨o, h1, h2, h3⟩
  · rw [h1] at HI
    have HS := Lib.hid h2
    clear h1 h2
    go_enter Tryd.func59, Tryd.ntmps59
    go_wp2_with fail
    with_reducible refine (HI.out _).mono ?_
    rintro e w' ⟨rfl, rfl⟩
    go_wp2_with fail
    go_ret3
    exact ⟨ret_of (by rw [HS.out]; show _ = Value.tuple #[.string ⟨s.data.toList.toArray⟩, _, _]; cases s; simp), 0, rfl⟩
  · rw [h1] at HI
    rw [← Lib.size_eq] at h2
    have HS := Lib.hid h3
    clear h1 h3
    have hw1 : IntKind.i64.wrap ((o : Int) + 1) = (o : Int) + 1 := IntWalk.i64_in _ (by omega)
    have hn : ((o : Int) + 1).toNat = o + 1 := by omega
    go_enter Tryd.func59, Tryd.ntmps59
    go_wp2_with fail
    with_reducible refine (HI.out _).mono ?_
    rintro e w' ⟨rfl, rfl⟩
    go_wp2_with fail
    go_quiet (fail)
    go_wp2_with fail
    go_ret3
    exact ⟨ret_of (by rw [HS.out]; show Value.tuple #[.string (s.extract 0 o), .string (s.extract (o + 1) s.size), .bool true] = _; rw [extract_take, extract_drop]; rfl), nq, rfl⟩

/-- strings.Cut at one byte. -/
theorem cutc (s : ByteArray) (c : UInt8) (w : World) (hs : s.size ≤ maxLen) :
    Calls Tryd.prog 55 #[.string s, .string ⟨#[c]⟩] w fun e w' => e = .returned (cutVal s.data.toList (split c s.data.toList)) ∧ Below w.heap.size w w' := by
  have HL := Lib.hid (fun w => lite_any s c w hs)
  cases hsp : split c s.data.toList with
  | none =>
    rw [hsp] at HL
    go_enter Tryd.func55, Tryd.ntmps55
    go_wp2_with fail
    with_reducible refine (HL.out _).mono ?_
    rintro e w' ⟨rfl, n, rfl⟩
    simp only [cutVal]
    go_wp2_with fail
    go_ret3
    exact ⟨rfl, below_drewN (Below.refl _ _) n⟩
  | some q =>
    rw [hsp] at HL
    go_enter Tryd.func55, Tryd.ntmps55
    go_wp2_with fail
    with_reducible refine (HL.out _).mono ?_
    rintro e w' ⟨rfl, n, rfl⟩
    simp only [cutVal]
    go_wp2_with fail
    go_ret3
    exact ⟨rfl, below_drewN (Below.refl _ _) n⟩

/-- A text's parts between bytes c. -/
def partsGo (c : UInt8) : List UInt8 → List UInt8 → List (List UInt8)
  | cur, [] => [cur]
  | cur, x :: r => if x = c then cur :: partsGo c [] r else partsGo c (cur ++ [x]) r
theorem parts_none {c : UInt8} : ∀ {l cur : List UInt8}, split c l = none → partsGo c cur l = [cur ++ l]
  | [], cur, _ => by simp [partsGo]
  | x :: r, cur, h => by
    rw [split] at h
    split at h
    · cases h
    · next hx =>
      rw [Option.map_eq_none_iff] at h
      rw [partsGo, if_neg hx, parts_none h]
      simp
theorem parts_some {c : UInt8} : ∀ {l cur a b : List UInt8}, split c l = some (a, b) → partsGo c cur l = (cur ++ a) :: partsGo c [] b
  | [], cur, a, b, h => by simp [split] at h
  | x :: r, cur, a, b, h => by
    rw [split] at h
    split at h
    · next hx => simp at h; rw [partsGo, if_pos hx, h.1, h.2]; simp
    · next hx =>
      rw [Option.map_eq_some_iff] at h
      obtain ⟨⟨a', b'⟩, h1, h2⟩ := h
      simp at h2
      rw [partsGo, if_neg hx, parts_some h1, ← h2.1, ← h2.2]
      simp
theorem split_len {c : UInt8} {l a b : List UInt8} (h : split c l = some (a, b)) : b.length < l.length ∧ a.length < l.length := by
  rcases split_index c l with ⟨_, h2⟩ | ⟨o, _, h2, h3⟩
  · rw [h] at h2; cases h2
  · rw [h] at h3
    injection h3 with h3
    injection h3 with ha hb
    subst ha hb
    simp; omega

/-- The numbers of a text's parts between commas; none if one is no number. -/
def numsOf : List (List UInt8) → Option (List Nat)
  | [] => some []
  | p :: r => (P.number p).bind fun n => (numsOf r).map (n :: ·)
def nums (l : List UInt8) : Option (List Nat) := numsOf (partsGo 44 [] l)
theorem nums_none {l : List UInt8} (h : split 44 l = none) : nums l = (P.number l).map fun n => [n] := by
  unfold nums
  rw [parts_none h, numsOf, numsOf, List.nil_append]
  cases P.number l <;> rfl
theorem nums_some {l a b : List UInt8} (h : split 44 l = some (a, b)) : nums l = (P.number a).bind fun n => (nums b).map (n :: ·) := by
  unfold nums
  rw [parts_some h, numsOf, List.nil_append]
end Go.Proofs.YtbilhdfoajahkaaDoor.L
