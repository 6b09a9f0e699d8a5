/-
  Plain facts on lines: the bytes of the lines of bytes are the bytes; the lines of the bytes of right lines are the lines.
-/
import Derived.Test.YtbilhdfoajahkaaDoorPlain
namespace Go.Proofs.YtbilhdfoajahkaaDoor.P

/-- The bytes of lines. -/
def join : List (List UInt8 × Bool) → List UInt8
  | [] => []
  | (t, b) :: r => t ++ (if !b || !r.isEmpty then [10] else []) ++ join r
/-- May lines be those of bytes? -/
def right : List (List UInt8 × Bool) → Bool
  | [] => true
  | (t, b) :: r => !(t.contains 10) && !(b && (!r.isEmpty || t.isEmpty)) && right r

theorem join_lines : ∀ (l cur : List UInt8), join (lines cur l) = cur ++ l
  | [], cur => by
    rw [lines]
    split
    · next h => simp [h, join]
    · simp [join]
  | c :: r, cur => by
    rw [lines]
    split
    · next h => rw [join, join_lines r [], h]; simp
    · rw [join_lines r (cur ++ [c])]; simp
theorem right_lines : ∀ (l cur : List UInt8), (10 : UInt8) ∉ cur → right (lines cur l) = true
  | [], cur, h => by
    rw [lines]
    split
    · rfl
    · next hc => simp [right, h, hc]
  | c :: r, cur, h => by
    rw [lines]
    split
    · rw [right, right_lines r [] (by simp)]; simp [h]
    · next hc => exact right_lines r (cur ++ [c]) (by simp [h]; exact fun e => hc e.symm)
theorem lines_text (r : List UInt8) : ∀ (t cur : List UInt8), (10 : UInt8) ∉ t → lines cur (t ++ 10 :: r) = (cur ++ t, false) :: lines [] r
  | [], cur, _ => by simp [lines]
  | c :: t, cur, h => by
    have hc : ¬ c = 10 := fun e => h (by simp [e])
    rw [List.cons_append, lines, if_neg hc, lines_text r t _ (fun e => h (by simp [e]))]; simp
theorem lines_open : ∀ (t cur : List UInt8), (10 : UInt8) ∉ t → lines cur t = if cur ++ t = [] then [] else [(cur ++ t, true)]
  | [], cur, _ => by simp [lines]
  | c :: t, cur, h => by
    have hc : ¬ c = 10 := fun e => h (by simp [e])
    rw [lines, if_neg hc, lines_open t _ (fun e => h (by simp [e]))]; simp
theorem lines_join : ∀ (xs : List (List UInt8 × Bool)), right xs = true → lines [] (join xs) = xs
  | [], _ => rfl
  | (t, b) :: r, h => by
    rw [right, Bool.and_eq_true, Bool.and_eq_true] at h
    obtain ⟨⟨h1, h2⟩, h3⟩ := h
    have ht : (10 : UInt8) ∉ t := by simpa using h1
    have ih := lines_join r h3
    cases b with
    | false =>
      rw [join, show t ++ (if !false || !r.isEmpty then [10] else []) ++ join r = t ++ 10 :: join r by simp, lines_text _ _ _ ht, ih]; rfl
    | true =>
      simp at h2
      obtain ⟨h2, h4⟩ := h2
      subst h2
      rw [join, show t ++ (if !true || !([] : List (List UInt8 × Bool)).isEmpty then [10] else []) ++ join [] = t by simp [join], lines_open _ _ ht, if_neg (by simpa using h4)]; rfl
/-- How many bytes lines make at the most. -/
def bulk : List (List UInt8 × Bool) → Nat
  | [] => 0
  | (t, _) :: r => t.length + 1 + bulk r
theorem join_length : ∀ xs : List (List UInt8 × Bool), (join xs).length ≤ bulk xs
  | [] => Nat.le_refl _
  | (t, b) :: r => by
    have := join_length r
    rw [join, bulk]
    simp only [List.length_append]
    split <;> simp <;> omega
theorem length_bulk : ∀ xs : List (List UInt8 × Bool), xs.length ≤ bulk xs
  | [] => Nat.le_refl _
  | (t, b) :: r => by have := length_bulk r; rw [bulk, List.length_cons]; omega
theorem lines_bulk : ∀ (l cur : List UInt8), bulk (lines cur l) ≤ cur.length + l.length + 1
  | [], cur => by
    rw [lines]
    split
    · simp [bulk]
    · simp [bulk]
  | c :: r, cur => by
    rw [lines]
    split
    · rw [bulk]
      match r with
      | [] => simp [lines, bulk]
      | d :: r' => have := lines_bulk (d :: r') []; simp at this ⊢; omega
    · have := lines_bulk r (cur ++ [c]); simp at this ⊢; omega
end Go.Proofs.YtbilhdfoajahkaaDoor.P
