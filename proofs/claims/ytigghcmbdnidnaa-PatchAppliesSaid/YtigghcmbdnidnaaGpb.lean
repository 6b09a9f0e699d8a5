/-
  Rows of numbers in memory; the contracts of the reference's Ints and of the law's sameItems (layer 5).
  The shortest way from one row of numbers to another one: plain. How many numbers must be taken out and put in; what a row of the furthest places is, and the next one; the way that the document names.
  The contracts of myers' Long, spot, slide and back.
  A row of numbers that is a block of memory; the contracts of myers' back and unreached.
  The contract of myers' reach: a row for each number of changes, from none to the distance.
  The contracts of myers' Distance and walk: what is told, step by step, to whoever keeps it.
-/
import Derived.Test.YtigghcmbdnidnaaGpa
import Derived.Deep.QuietTactic
import Derived.BigQuiet
import Derived.StillTailTactics
import Derived.Deep.DeepCutAuto
import Derived.Deep.CutRange
import Derived.Laws.CopyOwn
import Derived.Deep.OwnRows
import Derived.Deep.AppendLies
import Derived.Outline
namespace Go.Proofs.Ytigghcmbdnidnaa.V
set_option linter.unusedVariables false
set_option linter.unusedSimpArgs false
open Go.RowKit
open T
open I (It Lb ItemsIn ItemsAt ItemsOk itCells itCells_snoc itCells_at items_cells own_at own_below alloc1)

/-- A slice's numbers, wherever it lies. -/
def IntsIn (w : World) (A : Option Addr) (xs : List Int) : Prop :=
  0 < xs.length → ∃ bk off, A = some ⟨bk, off, none⟩ ∧ bk < w.heap.size ∧ L.IntsAt w bk off xs
theorem IntsIn.below {w w' : World} {A : Option Addr} {xs : List Int} (h : IntsIn w A xs) (hb : Below w.heap.size w w') : IntsIn w' A xs := fun hp => by
  obtain ⟨bk, off, e, hlt, hl⟩ := h hp
  exact ⟨bk, off, e, Nat.lt_of_lt_of_le hlt hb.size, hl.below hb hlt⟩
/-- The cells of numbers. -/
def numCells (xs : List Int) : List Value := xs.map fun n => .int .i64 n
theorem numCells_snoc (xs : List Int) (n : Int) : numCells (xs ++ [n]) = numCells xs ++ [.int .i64 n] := by simp [numCells]
theorem ints_own {w : World} {base : Nat} {A : Option Addr} {cap : Nat} {xs : List Int} (h : w.ownsRow base 3 1 (.slice A xs.length cap) xs.length (numCells xs)) : IntsIn w A xs := by
  intro hp
  obtain ⟨g, hA, _, hlt, hc⟩ := own_at h hp
  refine ⟨g, 0, hA, hlt, fun j hj => ?_⟩
  rw [Nat.zero_add]
  exact hc j _ (by simp [numCells, List.getElem?_eq_getElem hj])
theorem drawn_below (w : World) (q : Nat) : Below w.heap.size w (w.drewN q) := below_drewN (Below.refl _ _) q
theorem ext_to {α : Type} {xs ys : List α} (hl : xs.length = ys.length) (h : ∀ j (hj : j < xs.length) (hj' : j < ys.length), j < xs.length → xs[j] = ys[j]) : xs = ys := List.ext_getElem hl fun j hj hj' => h j hj hj' hj
theorem ext_no {α : Type} {xs ys : List α} {k : Nat} (hk : k < xs.length) (hk' : k < ys.length) (h : ¬ xs[k] = ys[k]) : ¬ xs = ys := fun e => h (by subst e; rfl)
theorem ext_step {α : Type} {xs ys : List α} {k : Nat} (hk : k < xs.length) (hk' : k < ys.length) (h : xs[k] = ys[k]) (H : ∀ j (hj : j < xs.length) (hj' : j < ys.length), j < k → xs[j] = ys[j]) : ∀ j (hj : j < xs.length) (hj' : j < ys.length), j < k + 1 → xs[j] = ys[j] := fun j hj hj' hjk => by
  by_cases e : j = k
  · subst e; exact h
  · exact H j hj hj' (by omega)

set_option maxHeartbeats 1000000 in
set_option maxRecDepth 100000 in
theorem rints_any (A A' : Option Addr) (cap cap' : Nat) (xs ys : List Int) (w : World) (hx : xs.length ≤ maxLen) (hA : IntsIn w A xs) (hA' : IntsIn w A' ys) :
    Calls Try.prog 15 #[.slice A xs.length cap, .slice A' ys.length cap'] w fun e w' => e = .returned (.bool (decide (xs = ys))) ∧ Below w.heap.size w w' := by
  unfold maxLen at hx
  have HA := Lib.hid hA
  have HB := Lib.hid hA'
  clear hA hA'
  by_cases hl : xs.length = ys.length
  · have hne : ((xs.length : Int) != (xs.length : Int)) = false := by simp
    rw [← hl]
    have HL := Lib.hid hl
    clear hl
    go_enter Try.func15, Try.ntmps15
    go_wp2_with fail
    go_loopg [5] xs.length (fun n i wr => ∃ k : Nat, k ≤ xs.length ∧ i = .int .i64 k ∧ xs.length - k ≤ n ∧ (∃ q, wr = w.drewN q) ∧ Hid (∀ j (hj : j < xs.length) (hj' : j < ys.length), j < k → xs[j] = ys[j]))
    case atStart => exact ⟨0, Nat.zero_le _, rfl, by omega, ⟨0, rfl⟩, Lib.hid fun j hj hj' h => absurd h (by omega)⟩
    case round =>
      obtain ⟨k, hk, rfl, hn, ⟨q, rfl⟩, HJ⟩ := hrel
      by_cases hlt : k < xs.length
      · obtain ⟨bk, off, hAe, hbk, hL⟩ := HA.out (by omega)
        obtain ⟨bk', off', hAe', hbk', hL'⟩ := HB.out (by have := HL.out; omega)
        subst hAe hAe'
        have c0 := hL k hlt
        have hky : k < ys.length := by have := HL.out; omega
        have d0 := hL' k hky
        have h0k : (0 : Int) ≤ (k : Int) := Int.natCast_nonneg _
        have h1k : (k : Int) < (xs.length : Int) := by omega
        have HY := Lib.hid (fun (h : xs[k] = ys[k]) => ext_step hlt hky h HJ.out)
        have HN := Lib.hid (fun (h : ¬ xs[k] = ys[k]) => ext_no hlt hky h)
        clear hL hL'
        generalize xs[k] = x0 at *
        generalize ys[k] = y0 at *
        by_cases he : x0 = y0
        · have HY2 := Lib.hid (HY.out he)
          subst he
          clear HY HN
          go_wp2_with fail
          go_quiet (fail)
          go_wp2_with fail
          go_roundg (xs.length - (k + 1))
          case measure => omega
          case rel => exact ⟨k + 1, by omega, by go_num, Nat.le_refl _, ⟨_, rfl⟩, HY2⟩
        · have HN2 := Lib.hid (decide_eq_false (HN.out he))
          have hnx : (x0 != y0) = true := by simpa using he
          clear HY HN he
          go_wp2_with fail
          go_quiet (fail)
          go_wp2_with fail
          go_ret
          exact ⟨ret_of (by rw [HN2.out]; rfl), below_drewN (drawn_below _ _) _⟩
      · obtain rfl : k = xs.length := by omega
        have HY := Lib.hid (decide_eq_true (ext_to HL.out HJ.out))
        go_wp2_with fail
        go_ret
        exact ⟨ret_of (by rw [HY.out]; rfl), drawn_below _ _⟩
  · have hne : ((xs.length : Int) != (ys.length : Int)) = true := by simp; omega
    have HN := Lib.hid (decide_eq_false (fun e : xs = ys => hl (by rw [e])))
    clear hl
    generalize xs.length = n1 at *
    generalize ys.length = n2 at *
    go_enter Try.func15, Try.ntmps15
    go_wp2_with fail
    go_ret
    exact ⟨ret_of (by rw [HN.out]; rfl), Below.refl _ _⟩

theorem it_ne {a0 a1 b0 b1 : Int} {a2 b2 : Nat} {a3 a5 b3 b5 : Bool} {a4 b4 : List UInt8} (h : ¬ (⟨a0, a1, a2, a3, a4, a5⟩ : It) = ⟨b0, b1, b2, b3, b4, b5⟩) :
    a0 ≠ b0 ∨ (a0 = b0 ∧ a1 ≠ b1) ∨ (a0 = b0 ∧ a1 = b1 ∧ (a2 : Int) ≠ (b2 : Int)) ∨ (a0 = b0 ∧ a1 = b1 ∧ a2 = b2 ∧ a3 ≠ b3) ∨ (a0 = b0 ∧ a1 = b1 ∧ a2 = b2 ∧ a3 = b3 ∧ (⟨a4.toArray⟩ : ByteArray).toList ≠ (⟨b4.toArray⟩ : ByteArray).toList) ∨ (a0 = b0 ∧ a1 = b1 ∧ a2 = b2 ∧ a3 = b3 ∧ (⟨a4.toArray⟩ : ByteArray) = ⟨b4.toArray⟩ ∧ a5 ≠ b5) := by
  by_cases h0 : a0 = b0
  · by_cases h1 : a1 = b1
    · by_cases h2 : a2 = b2
      · by_cases h3 : a3 = b3
        · by_cases h4 : a4 = b4
          · by_cases h5 : a5 = b5
            · exact absurd (by rw [h0, h1, h2, h3, h4, h5]) h
            · exact .inr (.inr (.inr (.inr (.inr ⟨h0, h1, h2, h3, by rw [h4], h5⟩))))
          · refine .inr (.inr (.inr (.inr (.inl ⟨h0, h1, h2, h3, fun e => h4 ?_⟩))))
            simpa [Lib.toList_data] using e
        · exact .inr (.inr (.inr (.inl ⟨h0, h1, h2, h3⟩)))
      · exact .inr (.inr (.inl ⟨h0, h1, by omega⟩))
    · exact .inr (.inl ⟨h0, h1⟩)
  · exact .inl h0

end Go.Proofs.Ytigghcmbdnidnaa.V

namespace Go.Proofs.Ytigghcmbdnidnaa.M
set_option linter.unusedVariables false
set_option linter.unusedSimpArgs false

/-- How many numbers must be taken out and put in. -/
def ed : List Int → List Int → Nat
  | [], b => b.length
  | x :: a, [] => a.length + 1
  | x :: a, y :: b => if x = y then ed a b else min (ed a (y :: b)) (ed (x :: a) b) + 1
termination_by a b => a.length + b.length
theorem ed_nil1 (b : List Int) : ed [] b = b.length := by rw [ed]
theorem ed_nil2 (a : List Int) : ed a [] = a.length := by cases a <;> simp [ed]
theorem ed_eq (x : Int) (a b : List Int) : ed (x :: a) (x :: b) = ed a b := by rw [ed, if_pos rfl]
theorem ed_ne {x y : Int} (h : ¬ x = y) (a b : List Int) : ed (x :: a) (y :: b) = min (ed a (y :: b)) (ed (x :: a) b) + 1 := by rw [ed, if_neg h]
theorem ed_near : ∀ (n : Nat) (a b : List Int), a.length + b.length ≤ n →
    (∀ x, ed (x :: a) b ≤ ed a b + 1 ∧ ed a b ≤ ed (x :: a) b + 1) ∧ (∀ y, ed a (y :: b) ≤ ed a b + 1 ∧ ed a b ≤ ed a (y :: b) + 1)
  | n, a, b, hn => by
    refine ⟨fun x => ?_, fun y => ?_⟩
    · match b, hn with
      | [], _ => rw [ed_nil2, ed_nil2, List.length_cons]; omega
      | y :: b, hn =>
        match n, hn with
        | 0, hn => simp at hn
        | n + 1, hn =>
          have hR := (ed_near n a b (by simp at hn; omega)).2 y
          have hL := (ed_near n a b (by simp at hn; omega)).1 x
          by_cases h : x = y
          · subst h; rw [ed_eq]; omega
          · rw [ed_ne h]; omega
    · match a, hn with
      | [], _ => rw [ed_nil1, ed_nil1, List.length_cons]; omega
      | x :: a, hn =>
        match n, hn with
        | 0, hn => simp at hn
        | n + 1, hn =>
          have hR := (ed_near n a b (by simp at hn; omega)).2 y
          have hL := (ed_near n a b (by simp at hn; omega)).1 x
          by_cases h : x = y
          · subst h; rw [ed_eq]; omega
          · rw [ed_ne h]; omega
theorem ed_l1 (x : Int) (a b : List Int) : ed (x :: a) b ≤ ed a b + 1 := ((ed_near _ a b (Nat.le_refl _)).1 x).1
theorem ed_l2 (x : Int) (a b : List Int) : ed a b ≤ ed (x :: a) b + 1 := ((ed_near _ a b (Nat.le_refl _)).1 x).2
theorem ed_r1 (y : Int) (a b : List Int) : ed a (y :: b) ≤ ed a b + 1 := ((ed_near _ a b (Nat.le_refl _)).2 y).1
theorem ed_r2 (y : Int) (a b : List Int) : ed a b ≤ ed a (y :: b) + 1 := ((ed_near _ a b (Nat.le_refl _)).2 y).2
theorem ed_mono (x y : Int) (a b : List Int) : ed a b ≤ ed (x :: a) (y :: b) := by
  by_cases h : x = y
  · subst h; rw [ed_eq]; exact Nat.le_refl _
  · rw [ed_ne h]; have := ed_r2 y a b; have := ed_l2 x a b; omega
theorem ed_low : ∀ (n : Nat) (a b : List Int), a.length + b.length ≤ n → a.length ≤ b.length + ed a b ∧ b.length ≤ a.length + ed a b ∧ ed a b ≤ a.length + b.length ∧ (a.length + b.length + ed a b) % 2 = 0
  | n, [], b, _ => by rw [ed_nil1]; simp; omega
  | n, x :: a, [], _ => by rw [ed_nil2]; simp; omega
  | 0, x :: a, y :: b, hn => by simp at hn
  | n + 1, x :: a, y :: b, hn => by
    simp only [List.length_cons] at hn ⊢
    by_cases h : x = y
    · subst h; rw [ed_eq]; have := ed_low n a b (by omega); omega
    · rw [ed_ne h]
      have h1 := ed_low n a (y :: b) (by simp; omega)
      have h2 := ed_low n (x :: a) b (by simp; omega)
      simp only [List.length_cons] at h1 h2
      omega
theorem ed_le (a b : List Int) : ed a b ≤ a.length + b.length := (ed_low _ a b (Nat.le_refl _)).2.2.1

/-- The distance of what is left behind two places. -/
def D (a b : List Int) (i j : Nat) : Nat := ed (a.drop i) (b.drop j)
theorem D_endA {a : List Int} (b : List Int) {i j : Nat} (h : a.length ≤ i) : D a b i j = b.length - j := by rw [D, List.drop_eq_nil_of_le h, ed_nil1, List.length_drop]
theorem D_endB (a : List Int) {b : List Int} {i j : Nat} (h : b.length ≤ j) : D a b i j = a.length - i := by rw [D, List.drop_eq_nil_of_le h, ed_nil2, List.length_drop]
theorem D_eq {a b : List Int} {i j : Nat} (hi : i < a.length) (hj : j < b.length) (h : a[i] = b[j]) : D a b i j = D a b (i + 1) (j + 1) := by
  rw [D, List.drop_eq_getElem_cons hi, List.drop_eq_getElem_cons hj, h, ed_eq]; rfl
theorem D_ne {a b : List Int} {i j : Nat} (hi : i < a.length) (hj : j < b.length) (h : ¬ a[i] = b[j]) : D a b i j = min (D a b (i + 1) j) (D a b i (j + 1)) + 1 := by
  simp only [D]
  rw [List.drop_eq_getElem_cons hi, List.drop_eq_getElem_cons hj, ed_ne h]
theorem D_l {a : List Int} (b : List Int) {i : Nat} (j : Nat) (hi : i < a.length) : D a b i j ≤ D a b (i + 1) j + 1 ∧ D a b (i + 1) j ≤ D a b i j + 1 := by
  simp only [D]; rw [List.drop_eq_getElem_cons hi]; exact ⟨ed_l1 _ _ _, ed_l2 _ _ _⟩
theorem D_r (a : List Int) {b : List Int} (i : Nat) {j : Nat} (hj : j < b.length) : D a b i j ≤ D a b i (j + 1) + 1 ∧ D a b i (j + 1) ≤ D a b i j + 1 := by
  simp only [D]; rw [List.drop_eq_getElem_cons hj]; exact ⟨ed_r1 _ _ _, ed_r2 _ _ _⟩
theorem D_mono1 {a b : List Int} {i j : Nat} (hi : i < a.length) (hj : j < b.length) : D a b (i + 1) (j + 1) ≤ D a b i j := by
  simp only [D]; rw [List.drop_eq_getElem_cons hi, List.drop_eq_getElem_cons hj]; exact ed_mono _ _ _ _
theorem D_mono {a b : List Int} {i j : Nat} : ∀ m, i + m ≤ a.length → j + m ≤ b.length → D a b (i + m) (j + m) ≤ D a b i j
  | 0, _, _ => Nat.le_refl _
  | m + 1, h1, h2 => Nat.le_trans (by have := @D_mono1 a b (i + m) (j + m) (by omega) (by omega); exact this) (D_mono m (by omega) (by omega))
theorem D_low (a b : List Int) {i j : Nat} (hi : i ≤ a.length) (hj : j ≤ b.length) : a.length + j ≤ b.length + i + D a b i j ∧ b.length + i ≤ a.length + j + D a b i j ∧ D a b i j ≤ (a.length - i) + (b.length - j) ∧ ((a.length - i) + (b.length - j) + D a b i j) % 2 = 0 := by
  have := ed_low _ (a.drop i) (b.drop j) (Nat.le_refl _)
  simp only [List.length_drop] at this
  unfold D
  omega

/-- What is kept going back from two places: where that ends in a. -/
def sl (a b : List Int) (i j : Int) : Int :=
  if 0 < i ∧ 0 < j ∧ a.getD (i - 1).toNat 0 = b.getD (j - 1).toNat 0 then sl a b (i - 1) (j - 1) else i
termination_by i.toNat
decreasing_by omega
theorem sl_le (a b : List Int) : ∀ (n : Nat) (i j : Int), i.toNat ≤ n → sl a b i j ≤ i ∧ (0 ≤ i → 0 ≤ sl a b i j) ∧ (i < 0 → sl a b i j = i) ∧ (0 ≤ j → 0 ≤ sl a b i j + j - i) ∧ (j ≤ 0 → sl a b i j = i)
  | n, i, j, hn => by
    rw [sl]
    split
    · rename_i h
      match n, hn with
      | 0, hn => omega
      | n + 1, hn => have := sl_le a b n (i - 1) (j - 1) (by omega); omega
    · omega
theorem getD_at {a : List Int} {k : Nat} (h : k < a.length) : a.getD k 0 = a[k] := by rw [List.getD_eq_getElem?_getD, List.getElem?_eq_getElem h]; rfl
/-- All along what is kept the distance stays. -/
theorem sl_D (a b : List Int) : ∀ (n : Nat) (i j : Int), i.toNat ≤ n → i ≤ a.length → j ≤ b.length → ∀ p q : Nat, sl a b i j ≤ p → (p : Int) ≤ i → (p : Int) - q = i - j → D a b p q = D a b i.toNat j.toNat
  | n, i, j, hn, hi, hj, p, q, h1, h2, h3 => by
    by_cases e : (p : Int) = i
    · have e1 : i.toNat = p := by omega
      have e2 : j.toNat = q := by omega
      rw [e1, e2]
    · rw [sl] at h1
      split at h1
      · rename_i h
        match n, hn with
        | 0, hn => omega
        | n + 1, hn =>
          rw [sl_D a b n (i - 1) (j - 1) (by omega) (by omega) (by omega) p q h1 (by omega) (by omega)]
          have ha : (i - 1).toNat < a.length := by omega
          have hb : (j - 1).toNat < b.length := by omega
          have he := h.2.2
          rw [getD_at ha, getD_at hb] at he
          rw [D_eq ha hb he, show (i - 1).toNat + 1 = i.toNat by omega, show (j - 1).toNat + 1 = j.toNat by omega]
      · omega
/-- Where it ends, nothing more is kept. -/
theorem sl_end (a b : List Int) : ∀ (n : Nat) (i j : Int), i.toNat ≤ n → i ≤ a.length → j ≤ b.length → ∀ p q : Nat, (p : Int) + 1 = sl a b i j → (p : Int) - q = i - j → ∀ (hp : p < a.length) (hq : q < b.length), ¬ a[p] = b[q]
  | n, i, j, hn, hi, hj, p, q, h1, h2, hp, hq => by
    rw [sl] at h1
    split at h1
    · rename_i h
      match n, hn with
      | 0, hn => omega
      | n + 1, hn => exact sl_end a b n (i - 1) (j - 1) (by omega) (by omega) (by omega) p q h1 (by omega) hp hq
    · rename_i h
      intro e
      refine h ⟨by omega, by omega, ?_⟩
      rw [show (i - 1).toNat = p by omega, show (j - 1).toNat = q by omega, getD_at hp, getD_at hq, e]

/-- The place from which the row goes on at diagonal k. -/
def bi (row : List Int) (k : Nat) : Int := min (row.getD (k + 1) 0 - 1) (row.getD (k - 1) 0)
def bk (a b row : List Int) (k : Nat) : Int := sl a b (bi row k) (bi row k + b.length + 1 - k)
/-- Which diagonals are worked out with n changes. -/
def on (a b : List Int) (n k : Nat) : Prop := 1 ≤ k ∧ k ≤ a.length + b.length + 1 ∧ k ≤ a.length + 1 + n ∧ a.length + 1 ≤ k + n
instance (a b : List Int) (n k : Nat) : Decidable (on a b n k) := by unfold on; infer_instance
/-- A row: for each diagonal the first place from which n changes lead to the ends. -/
structure Ro (a b : List Int) (n : Nat) (row : List Int) : Prop where
  len : row.length = a.length + b.length + 3
  far : ∀ k, k < row.length → ¬ on a b n k → row.getD k 0 = a.length + b.length + 1
  near : ∀ k, on a b n k → -(n : Int) ≤ row.getD k 0 ∧ row.getD k 0 ≤ a.length ∧ row.getD k 0 + 1 ≤ k ∧ -(n : Int) ≤ row.getD k 0 + b.length + 1 - k
  is : ∀ i j k, i ≤ a.length → j ≤ b.length → k + j = i + b.length + 1 → (D a b i j ≤ n ↔ row.getD k 0 ≤ i)
/-- The first row. -/
theorem Ro.zero {a b row : List Int} (hl : row.length = a.length + b.length + 3) (he : row.getD (a.length + 1) 0 = sl a b a.length b.length) (hf : ∀ k, k < row.length → ¬ k = a.length + 1 → row.getD k 0 = a.length + b.length + 1) : Ro a b 0 row := by
  have hs := sl_le a b _ a.length b.length (Nat.le_refl _)
  refine ⟨hl, fun k hk hn => hf k hk fun e => hn ⟨by omega, by omega, by omega, by omega⟩, fun k hk => ?_, fun i j k hi hj hk => ?_⟩
  · obtain ⟨h1, h2, h3, h4⟩ := hk
    obtain rfl : k = a.length + 1 := by omega
    rw [he]; omega
  · by_cases e : k = a.length + 1
    · subst e
      rw [he]
      constructor
      · intro hd
        refine Int.not_lt.1 fun hlt => ?_
        have h0 := (sl_le a b _ (a.length : Int) b.length (Nat.le_refl _)).1
        obtain ⟨p, hp⟩ : ∃ p : Nat, (p : Int) + 1 = sl a b a.length b.length := ⟨(sl a b a.length b.length - 1).toNat, by omega⟩
        have hq : ∃ q : Nat, (p : Int) - q = (a.length : Int) - b.length := ⟨(p + b.length - a.length), by omega⟩
        obtain ⟨q, hq⟩ := hq
        have hne := sl_end a b _ a.length b.length (Nat.le_refl _) (by omega) (by omega) p q hp hq (by omega) (by omega)
        have hm := D_mono (a := a) (b := b) (i := i) (j := j) (p - i) (by omega) (by omega)
        rw [show i + (p - i) = p by omega, show j + (p - i) = q by omega] at hm
        have := D_ne (by omega) (by omega) hne
        omega
      · intro h
        have := sl_D a b _ a.length b.length (Nat.le_refl _) (by omega) (by omega) i j h (by omega) (by omega)
        rw [this, D_endA b (by simp)]
        simp
    · rw [hf k (by omega) e]
      have := D_low a b hi hj
      omega
/-- With one change more. -/
theorem Ro.next {a b row row' : List Int} {n : Nat} (h : Ro a b n row) (hl : row'.length = row.length)
    (hk : ∀ k, k < row.length → row'.getD k 0 = if on a b (n + 1) k ∧ (k + n + 1 + a.length + 1) % 2 = 0 then bk a b row k else row.getD k 0) : Ro a b (n + 1) row' := by
  have hlen := h.len
  -- what is worked out
  have hb : ∀ k, on a b (n + 1) k → (k + n + 1 + a.length + 1) % 2 = 0 → -((n : Int) + 1) ≤ bi row k ∧ bi row k ≤ a.length ∧ bi row k + 1 ≤ k ∧ -((n : Int) + 1) ≤ bi row k + b.length + 1 - k := fun k hon hpar => by
    obtain ⟨o1, o2, o3, o4⟩ := hon
    have hbi : bi row k = min (row.getD (k + 1) 0 - 1) (row.getD (k - 1) 0) := rfl
    by_cases u : on a b n (k + 1)
    · have hu := h.near _ u
      by_cases v : on a b n (k - 1)
      · have hv := h.near _ v; omega
      · have hv := h.far (k - 1) (by omega) v
        by_cases q : k = a.length + b.length + 1
        · omega
        · omega
    · have hu := h.far (k + 1) (by omega) u
      by_cases v : on a b n (k - 1)
      · have hv := h.near _ v
        omega
      · have hv := h.far (k - 1) (by omega) v
        unfold on at u v
        omega
  have hwin : ∀ k, on a b (n + 1) k → ¬ (k + n + 1 + a.length + 1) % 2 = 0 → on a b n k := fun k ⟨o1, o2, o3, o4⟩ hp => ⟨o1, o2, by omega, by omega⟩
  refine ⟨by omega, fun k hkl hn => ?_, fun k hon => ?_, fun i j k hi hj hkj => ?_⟩
  · rw [hk k (by omega), if_neg fun q => hn q.1]
    exact h.far k (by omega) fun q => hn ⟨q.1, q.2.1, by have := q.2.2.1; omega, by have := q.2.2.2; omega⟩
  · have hlt : k < row.length := by have := hon.2.1; omega
    rw [hk k hlt]
    by_cases hp : (k + n + 1 + a.length + 1) % 2 = 0
    · rw [if_pos ⟨hon, hp⟩]
      have h0 := hb k hon hp
      have hs := sl_le a b _ (bi row k) (bi row k + b.length + 1 - k) (Nat.le_refl _)
      unfold bk
      omega
    · rw [if_neg fun q => hp q.2]
      have := h.near k (hwin k hon hp)
      omega
  · have hlt : k < row.length := by omega
    have hlow := D_low a b hi hj
    rw [hk k hlt]
    by_cases hon : on a b (n + 1) k
    · by_cases hp : (k + n + 1 + a.length + 1) % 2 = 0
      · rw [if_pos ⟨hon, hp⟩]
        have h0 := hb k hon hp
        have hj0 : bi row k - (bi row k + b.length + 1 - k) = (i : Int) - j := by omega
        have hbi : bi row k = min (row.getD (k + 1) 0 - 1) (row.getD (k - 1) 0) := rfl
        obtain ⟨o1, o2, o3, o4⟩ := hon
        -- from the first place on
        have hfrom : ∀ p q : Nat, p ≤ a.length → q ≤ b.length → k + q = p + b.length + 1 → bi row k ≤ p → D a b p q ≤ n + 1 := fun p q hpa hqb hkq hle => by
          rcases Nat.lt_or_ge p a.length with hpl | hpl
          · rcases Nat.lt_or_ge q b.length with hql | hql
            · by_cases e : row.getD (k - 1) 0 ≤ p
              · have := (h.is p (q + 1) (k - 1) hpa (by omega) (by omega)).2 e
                have := (D_r a p hql).1
                omega
              · have := (h.is (p + 1) q (k + 1) (by omega) hqb (by omega)).2 (by omega)
                have := (D_l b q hpl).1
                omega
            · rw [D_endB a hql]; omega
          · rw [D_endA b hpl]; omega
        have hs := sl_le a b _ (bi row k) (bi row k + b.length + 1 - k) (Nat.le_refl _)
        constructor
        · intro hd
          refine Int.not_lt.1 fun hgt => ?_
          unfold bk at hgt
          obtain ⟨p, hpe⟩ : ∃ p : Nat, (p : Int) + 1 = sl a b (bi row k) (bi row k + b.length + 1 - k) := ⟨(sl a b (bi row k) (bi row k + b.length + 1 - k) - 1).toNat, by omega⟩
          have hq : ∃ q : Nat, (p : Int) - q = bi row k - (bi row k + b.length + 1 - k) := ⟨(p + b.length + 1 - k), by omega⟩
          obtain ⟨q, hq⟩ := hq
          have hne := sl_end a b _ (bi row k) (bi row k + b.length + 1 - k) (Nat.le_refl _) (by omega) (by omega) p q hpe hq (by omega) (by omega)
          have hm := D_mono (a := a) (b := b) (i := i) (j := j) (p - i) (by omega) (by omega)
          rw [show i + (p - i) = p by omega, show j + (p - i) = q by omega] at hm
          have hdn := D_ne (by omega) (by omega) hne
          rcases Nat.le_total (D a b (p + 1) q) (D a b p (q + 1)) with hle | hle
          · have := (h.is (p + 1) q (k + 1) (by omega) (by omega) (by omega)).1 (by omega)
            omega
          · have := (h.is p (q + 1) (k - 1) (by omega) (by omega) (by omega)).1 (by omega)
            omega
        · intro hle
          by_cases e : bi row k ≤ i
          · exact hfrom i j hi hj hkj e
          · unfold bk at hle
            rw [sl_D a b _ (bi row k) (bi row k + b.length + 1 - k) (Nat.le_refl _) (by omega) (by omega) i j hle (by omega) (by omega)]
            exact hfrom _ _ (by omega) (by omega) (by omega) (by omega)
      · rw [if_neg fun q => hp q.2]
        have := h.is i j k hi hj hkj
        omega
    · rw [if_neg fun q => hon q.1]
      have hno : ¬ on a b n k := fun q => hon ⟨q.1, q.2.1, by have := q.2.2.1; omega, by have := q.2.2.2; omega⟩
      have hf := h.far k hlt hno
      rw [hf]
      unfold on at hon
      omega
/-- The way: 1: kept, 2: taken out, 3: put in. -/
def way : List Int → List Int → List Int
  | [], [] => []
  | [], _ :: b => 3 :: way [] b
  | _ :: a, [] => 2 :: way a []
  | x :: a, y :: b => if x = y then 1 :: way a b else if ed a (y :: b) + 1 = ed (x :: a) (y :: b) then 2 :: way a (y :: b) else 3 :: way (x :: a) b
termination_by a b => a.length + b.length
/-- What is left of it behind two places. -/
def Wy (a b : List Int) (i j : Nat) : List Int := way (a.drop i) (b.drop j)
theorem Wy_end {a b : List Int} {i j : Nat} (hi : a.length ≤ i) (hj : b.length ≤ j) : Wy a b i j = [] := by rw [Wy, List.drop_eq_nil_of_le hi, List.drop_eq_nil_of_le hj, way]
theorem Wy_keep {a b : List Int} {i j : Nat} (hi : i < a.length) (hj : j < b.length) (h : a[i] = b[j]) : Wy a b i j = 1 :: Wy a b (i + 1) (j + 1) := by
  simp only [Wy]; rw [List.drop_eq_getElem_cons hi, List.drop_eq_getElem_cons hj, way, if_pos h]
/-- Is that which stands at both places kept? -/
def kept (a b : List Int) (i j : Nat) : Bool := decide (i < a.length ∧ j < b.length ∧ a.getD i 0 = b.getD j 0)
def outs (a b : List Int) (i j : Nat) : Bool := decide (i < a.length ∧ D a b (i + 1) j + 1 = D a b i j)
theorem kept_yes {a b : List Int} {i j : Nat} (h : kept a b i j = true) : ∃ (hi : i < a.length) (hj : j < b.length), a[i] = b[j] := by
  obtain ⟨h1, h2, h3⟩ := of_decide_eq_true h
  exact ⟨h1, h2, (getD_at h1).symm.trans (h3.trans (getD_at h2))⟩
theorem kept_no {a b : List Int} {i j : Nat} (h : kept a b i j = false) (hi : i < a.length) (hj : j < b.length) : ¬ a[i] = b[j] := fun e => by
  have := of_decide_eq_false h
  exact this ⟨hi, hj, by rw [getD_at hi, getD_at hj, e]⟩
theorem Wy_kept {a b : List Int} {i j : Nat} (h : kept a b i j = true) : Wy a b i j = 1 :: Wy a b (i + 1) (j + 1) ∧ D a b i j = D a b (i + 1) (j + 1) := by
  obtain ⟨hi, hj, e⟩ := kept_yes h
  exact ⟨Wy_keep hi hj e, D_eq hi hj e⟩
theorem Wy_out {a b : List Int} {i j : Nat} (h : kept a b i j = false) (ho : outs a b i j = true) : Wy a b i j = 2 :: Wy a b (i + 1) j ∧ D a b (i + 1) j + 1 = D a b i j := by
  obtain ⟨hi, hd⟩ := of_decide_eq_true ho
  refine ⟨?_, hd⟩
  rcases Nat.lt_or_ge j b.length with hj | hj
  · have hn := kept_no h hi hj
    simp only [D] at hd
    simp only [Wy]
    rw [List.drop_eq_getElem_cons hi, List.drop_eq_getElem_cons hj] at hd
    rw [List.drop_eq_getElem_cons hi, List.drop_eq_getElem_cons hj, way, if_neg hn, if_pos hd]
  · simp only [Wy]
    rw [List.drop_eq_getElem_cons hi, List.drop_eq_nil_of_le hj, way]
theorem Wy_in {a b : List Int} {i j : Nat} (h : kept a b i j = false) (ho : outs a b i j = false) (hj : j < b.length) : Wy a b i j = 3 :: Wy a b i (j + 1) ∧ D a b i (j + 1) + 1 = D a b i j := by
  have hno := of_decide_eq_false ho
  rcases Nat.lt_or_ge i a.length with hi | hi
  · have hn := kept_no h hi hj
    have hd : ¬ D a b (i + 1) j + 1 = D a b i j := fun e => hno ⟨hi, e⟩
    have hD := D_ne hi hj hn
    refine ⟨?_, by omega⟩
    simp only [D] at hd
    simp only [Wy]
    rw [List.drop_eq_getElem_cons hi, List.drop_eq_getElem_cons hj] at hd
    rw [List.drop_eq_getElem_cons hi, List.drop_eq_getElem_cons hj, way, if_neg hn, if_neg hd]
  · refine ⟨?_, by rw [D_endA b hi, D_endA b hi]; omega⟩
    simp only [Wy]
    rw [List.drop_eq_nil_of_le hi, List.drop_eq_getElem_cons hj, way]
/-- Where b is at its end, what is left of a is taken out. -/
theorem in_ends {a b : List Int} {i j : Nat} (ho : outs a b i j = false) (hg : i < a.length ∨ j < b.length) : j < b.length := by
  rcases Nat.lt_or_ge j b.length with hj | hj
  · exact hj
  · exfalso
    have hi : i < a.length := by omega
    exact of_decide_eq_false ho ⟨hi, by rw [D_endB a hj, D_endB a hj]; omega⟩
theorem left_pos {a b : List Int} {i j : Nat} (h : kept a b i j = false) (hg : i < a.length ∨ j < b.length) : 0 < D a b i j := by
  rcases Nat.lt_or_ge i a.length with hi | hi
  · rcases Nat.lt_or_ge j b.length with hj | hj
    · rw [D_ne hi hj (kept_no h hi hj)]; omega
    · rw [D_endB a hj]; omega
  · rw [D_endA b hi]; omega
/-- What the rows tell: is taking out as short? -/
theorem outs_is {a b row : List Int} {i j m : Nat} (hi : i < a.length) (hj : j ≤ b.length) (hm : D a b i j = m + 1) (h : Ro a b m row) : outs a b i j = decide (row.getD (i + 1 + b.length + 1 - j) 0 ≤ ((i + 1 : Nat) : Int)) := by
  have h1 := h.is (i + 1) j (i + 1 + b.length + 1 - j) (by omega) hj (by omega)
  have h2 := D_l b j hi
  unfold outs
  rw [Bool.eq_iff_iff, decide_eq_true_iff, decide_eq_true_iff, ← h1]
  constructor
  · intro ⟨_, e⟩; omega
  · intro e; exact ⟨hi, by omega⟩
/-- What is told: the steps with their places. -/
def told : Nat → Nat → List Int → List (Int × Nat × Nat)
  | _, _, [] => []
  | i, j, s :: r => (s, i, j) :: told (if s = 3 then i else i + 1) (if s = 2 then j else j + 1) r
theorem told_steps : ∀ (s : List Int) (i j : Nat), (told i j s).map (·.1) = s
  | [], _, _ => rfl
  | s :: r, i, j => by rw [told, List.map_cons, told_steps r]
/-- What is kept, of what is told. -/
def prs (l : List (Int × Nat × Nat)) : List (Int × Int) := (l.filter fun t => t.1 = 1).map fun t => ((t.2.1 : Int), (t.2.2 : Int))
theorem prs_snoc (l : List (Int × Nat × Nat)) (t : Int × Nat × Nat) : prs (l ++ [t]) = prs l ++ if t.1 = 1 then [((t.2.1 : Int), (t.2.2 : Int))] else [] := by
  unfold prs
  rw [List.filter_append, List.map_append]
  congr 1
  by_cases h : t.1 = 1 <;> simp [h]
def pairs (a b : List Int) : List (Int × Int) := prs (told 0 0 (way a b))
theorem way_le : ∀ (n : Nat) (a b : List Int), a.length + b.length ≤ n → (way a b).length ≤ a.length + b.length
  | n, [], [], _ => by simp [way]
  | 0, [], _ :: _, h => by simp at h
  | 0, _ :: _, _, h => by simp at h
  | n + 1, [], y :: b, h => by rw [way]; have := way_le n [] b (by simp at h ⊢; omega); simp at this ⊢; omega
  | n + 1, x :: a, [], h => by rw [way]; have := way_le n a [] (by simp at h ⊢; omega); simp at this ⊢; omega
  | n + 1, x :: a, y :: b, h => by
    rw [way]
    have h1 := way_le n a b (by simp at h; omega)
    have h2 := way_le n a (y :: b) (by simp at h ⊢; omega)
    have h3 := way_le n (x :: a) b (by simp at h ⊢; omega)
    simp only [List.length_cons] at h2 h3 ⊢
    split
    · simp; omega
    · split <;> simp <;> omega
end Go.Proofs.Ytigghcmbdnidnaa.M

namespace Go.Proofs.Ytigghcmbdnidnaa.M
set_option linter.unusedVariables false
set_option linter.unusedSimpArgs false
open Go.RowKit
open T
open V (IntsIn numCells numCells_snoc ints_own drawn_below)
open I (alloc1 own_at own_below)

theorem drewN_add (w : World) (q n : Nat) : (w.drewN q).drewN n = w.drewN (q + n) := by simp [World.drewN, Nat.add_assoc]
theorem sl_step {a b : List Int} {p q r : Int} (h : true = decide (0 < p ∧ 0 < q ∧ a.getD (p - 1).toNat 0 = b.getD (q - 1).toNat 0)) (hs : sl a b p q = r) : 0 < p ∧ 0 < q ∧ sl a b (p - 1) (q - 1) = r := by
  have := of_decide_eq_true h.symm
  rw [sl, if_pos this] at hs
  exact ⟨this.1, this.2.1, hs⟩
theorem sl_stop {a b : List Int} {p q r : Int} (h : false = decide (0 < p ∧ 0 < q ∧ a.getD (p - 1).toNat 0 = b.getD (q - 1).toNat 0)) (hs : sl a b p q = r) : r = p := by
  have := of_decide_eq_false h.symm
  rw [sl, if_neg this] at hs
  exact hs.symm

end Go.Proofs.Ytigghcmbdnidnaa.M

namespace Go.Proofs.Ytigghcmbdnidnaa.M
set_option linter.unusedVariables false
set_option linter.unusedSimpArgs false
open Go.RowKit
open T
open V (IntsIn numCells numCells_snoc ints_own drawn_below)
open I (alloc1 own_at own_below)

/-- A block that is a row of numbers. -/
def Row (w : World) (g : Nat) (xs : List Int) : Prop := w.heap[g]? = some (.cells (numCells xs).toArray 3 (0, 0))
theorem Row.lt {w : World} {g : Nat} {xs : List Int} (h : Row w g xs) : g < w.heap.size := (Array.getElem?_eq_some_iff.1 h).1
theorem Row.cell {w : World} {g : Nat} {xs : List Int} (h : Row w g xs) {j : Nat} (hj : j < xs.length) : w.cell? ⟨g, j, none⟩ = some (.int .i64 xs[j]) := by
  rw [cell_of_row w g j _ _ _ h]
  simp [numCells, List.getElem?_eq_getElem hj]
theorem Row.cellD {w : World} {g : Nat} {xs : List Int} (h : Row w g xs) {j : Nat} (hj : j < xs.length) : w.cell? ⟨g, j, none⟩ = some (.int .i64 (xs.getD j 0)) := by
  rw [getD_at hj]; exact h.cell hj
theorem Row.free {w : World} {g : Nat} {xs : List Int} (h : Row w g xs) (j : Nat) : w.frozen? ⟨g, j, none⟩ = false := frozen_of_row w g j _ _ h
theorem Row.kept {w w' : World} {g : Nat} {xs : List Int} (h : Row w g xs) (hb : Below w.heap.size w w') : Row w' g xs := (hb.block g h.lt).trans h
theorem Row.set {w : World} {g : Nat} {xs : List Int} (h : Row w g xs) (j : Nat) (z : Int) : Row (w.setCell ⟨g, j, none⟩ (.int .i64 z)) g (xs.set j z) := by
  unfold Row
  rw [heap_setCell_same w g j _ _ _ h]
  simp [numCells, List.map_set]
theorem Row.ints {w : World} {g : Nat} {xs : List Int} (h : Row w g xs) : IntsIn w (some ⟨g, 0, none⟩) xs := fun _ => ⟨g, 0, rfl, h.lt, fun j hj => by rw [Nat.zero_add]; exact h.cell hj⟩
theorem getD_set {xs : List Int} {j k : Nat} {z : Int} (hj : j < xs.length) : (xs.set j z).getD k 0 = if k = j then z else xs.getD k 0 := by
  rw [List.getD_eq_getElem?_getD, List.getD_eq_getElem?_getD, List.getElem?_set]
  by_cases e : k = j
  · subst e; rw [if_pos rfl, if_pos rfl, if_pos hj]; rfl
  · rw [if_neg (fun q => e q.symm), if_neg e]
theorem infoI : (Try.prog.info? 3).map (fun i => (i.zero, i.size, i.bytes)) = some (some (.int .i64 0), 1, 8) := by kernel_rfl
theorem made_row (n : Nat) : madeCells #[.int .i64 0] n = (numCells (List.replicate n 0)).toArray := by
  have h := toList_madeCells_one (.int .i64 0) n
  rw [← Array.toList_inj, h]
  simp [numCells]

/-- What is worked out lies in bounds. -/
theorem Ro.bd {a b row : List Int} {n : Nat} (h : Ro a b n row) (k : Nat) (hon : on a b (n + 1) k) (hpar : (k + n + 1 + a.length + 1) % 2 = 0) : -((n : Int) + 1) ≤ bi row k ∧ bi row k ≤ a.length ∧ bi row k + 1 ≤ k ∧ -((n : Int) + 1) ≤ bi row k + b.length + 1 - k := by
  have hlen := h.len
  obtain ⟨o1, o2, o3, o4⟩ := hon
  have hbi : bi row k = min (row.getD (k + 1) 0 - 1) (row.getD (k - 1) 0) := rfl
  by_cases u : on a b n (k + 1)
  · have hu := h.near _ u
    by_cases v : on a b n (k - 1)
    · have hv := h.near _ v; omega
    · have hv := h.far (k - 1) (by omega) v
      by_cases q : k = a.length + b.length + 1
      · omega
      · omega
  · have hu := h.far (k + 1) (by omega) u
    by_cases v : on a b n (k - 1)
    · have hv := h.near _ v
      omega
    · have hv := h.far (k - 1) (by omega) v
      unfold on at u v
      omega
theorem Ro.val {a b row : List Int} {n : Nat} (h : Ro a b n row) {k : Nat} (hk : k < row.length) : -(n : Int) ≤ row.getD k 0 ∧ row.getD k 0 ≤ a.length + b.length + 1 := by
  by_cases u : on a b n k
  · have := h.near k u; omega
  · have := h.far k hk u; omega

/-- Numbers that are all the same. -/
def All (z : Int) (xs : List Int) : Prop := ∀ j, j < xs.length → xs.getD j 0 = z
theorem set_grown (w : World) (g j : Nat) (u : Value) {B : Nat} {w0 : World} (hb : Below B w0 w) (hg : B ≤ g) : Below B w0 (w.setCell ⟨g, j, none⟩ u) := hb.setCell (p := ⟨g, j, none⟩) hg u
end Go.Proofs.Ytigghcmbdnidnaa.M

namespace Go.Proofs.Ytigghcmbdnidnaa.M
set_option linter.unusedVariables false
set_option linter.unusedSimpArgs false
open Go.RowKit
open T
open V (IntsIn numCells numCells_snoc ints_own drawn_below)
open I (alloc1 own_at own_below)

/-- A row, as far as it is worked out. -/
def Mid (a b xs ys : List Int) (m : Nat) (k : Int) : Prop := ys.length = xs.length ∧ ∀ j : Nat, j < xs.length → ys.getD j 0 = if on a b (m + 1) j ∧ (j + m + 1 + a.length + 1) % 2 = 0 ∧ (j : Int) < k then bk a b xs j else xs.getD j 0
theorem Mid.start (a b xs : List Int) {m : Nat} {k : Int} (hk : k = a.length + 1 - (m + 1)) : Mid a b xs xs m k :=
  ⟨rfl, fun j hj => by rw [if_neg]; rintro ⟨⟨h1, h2, h3, h4⟩, h5, h6⟩; omega⟩
theorem Mid.skip {a b xs ys : List Int} {m : Nat} {k : Int} (h : Mid a b xs ys m k) (hl : xs.length = a.length + b.length + 3) {t : Nat} (ht : k = a.length + 1 - (m + 1) + 2 * t) (hs : k ≤ 0 ∨ (xs.length : Int) - 1 ≤ k) : Mid a b xs ys m (k + 2) := by
  refine ⟨h.1, fun j hj => ?_⟩
  rw [h.2 j hj]
  by_cases c : on a b (m + 1) j ∧ (j + m + 1 + a.length + 1) % 2 = 0 ∧ (j : Int) < k
  · rw [if_pos c, if_pos ⟨c.1, c.2.1, by omega⟩]
  · rw [if_neg c, if_neg]
    rintro ⟨h1, h2, h3⟩
    exact c ⟨h1, h2, by obtain ⟨o1, o2, o3, o4⟩ := h1; omega⟩
theorem Mid.put {a b xs ys : List Int} {m kn : Nat} {k : Int} (h : Mid a b xs ys m k) (hl : xs.length = a.length + b.length + 3) {t : Nat} (ht : k = a.length + 1 - (m + 1) + 2 * t) (hk : (kn : Int) = k) (h1 : 1 ≤ kn) (h2 : kn + 1 < xs.length) (h3 : k ≤ a.length + 1 + (m + 1)) : Mid a b xs (ys.set kn (bk a b xs kn)) m (k + 2) := by
  refine ⟨by rw [List.length_set]; exact h.1, fun j hj => ?_⟩
  rw [getD_set (by rw [h.1]; omega)]
  by_cases e : j = kn
  · subst e
    rw [if_pos rfl, if_pos]
    exact ⟨⟨h1, by omega, by omega, by omega⟩, by omega, by omega⟩
  · rw [if_neg e, h.2 j hj]
    by_cases c : on a b (m + 1) j ∧ (j + m + 1 + a.length + 1) % 2 = 0 ∧ (j : Int) < k
    · rw [if_pos c, if_pos ⟨c.1, c.2.1, by omega⟩]
    · rw [if_neg c, if_neg]
      rintro ⟨q1, q2, q3⟩
      exact c ⟨q1, q2, by omega⟩
theorem Mid.near {a b xs ys : List Int} {m kn : Nat} {k : Int} (h : Mid a b xs ys m k) {t : Nat} (ht : k = a.length + 1 - (m + 1) + 2 * t) (hk : (kn : Int) = k) (h1 : 1 ≤ kn) (h2 : kn + 1 < xs.length) : ys.getD (kn + 1) 0 = xs.getD (kn + 1) 0 ∧ ys.getD (kn - 1) 0 = xs.getD (kn - 1) 0 := by
  constructor
  · rw [h.2 _ h2, if_neg]; rintro ⟨_, q, _⟩; omega
  · rw [h.2 _ (by omega), if_neg]; rintro ⟨_, q, _⟩; omega
theorem Mid.bk {a b xs ys : List Int} {m kn : Nat} {k : Int} (h : Mid a b xs ys m k) {t : Nat} (ht : k = a.length + 1 - (m + 1) + 2 * t) (hk : (kn : Int) = k) (h1 : 1 ≤ kn) (h2 : kn + 1 < xs.length) : bi ys kn = bi xs kn ∧ M.bk a b ys kn = M.bk a b xs kn := by
  obtain ⟨e1, e2⟩ := h.near ht hk h1 h2
  have : bi ys kn = bi xs kn := by unfold bi; rw [e1, e2]
  exact ⟨this, by unfold M.bk; rw [this]⟩
theorem Mid.done {a b xs ys : List Int} {m : Nat} {k : Int} (h : Mid a b xs ys m k) (hk : a.length + 1 + (m + 1) < k) (hr : Ro a b m xs) : Ro a b (m + 1) ys :=
  hr.next h.1 fun j hj => by
    rw [h.2 j hj]
    by_cases c : on a b (m + 1) j ∧ (j + m + 1 + a.length + 1) % 2 = 0
    · rw [if_pos c, if_pos ⟨c.1, c.2, by obtain ⟨o1, o2, o3, o4⟩ := c.1; omega⟩]
    · rw [if_neg c, if_neg]
      exact fun q => c ⟨q.1, q.2.1⟩

/-- A slice that is a whole block. -/
def rowV (L g : Nat) : Value := .slice (some ⟨g, 0, none⟩) L L
/-- The rows so far. -/
def Held (w : World) (a b : List Int) (base : Nat) (gs : List Nat) : Prop := ∀ j (h : j < gs.length), base ≤ gs[j] ∧ ∃ xs, Row w gs[j] xs ∧ Ro a b j xs
theorem Held.kept {w w' : World} {a b : List Int} {base : Nat} {gs : List Nat} (h : Held w a b base gs) (hb : Below w.heap.size w w') : Held w' a b base gs := fun j hj => by
  obtain ⟨h1, xs, h2, h3⟩ := h j hj
  exact ⟨h1, xs, h2.kept hb, h3⟩
theorem Held.grown {w w' : World} {a b : List Int} {base : Nat} {gs : List Nat} (h : Held w a b base gs) {base' n size : Nat} {v : Value} {zs : List Value} (hown : w.ownsRow base' 28 size v n zs) (hg : w.grownBy w' v.ownBlock) : Held w' a b base gs := fun j hj => by
  obtain ⟨h1, xs, h2, h3⟩ := h j hj
  refine ⟨h1, xs, ?_, h3⟩
  refine (hg.block _ h2.lt fun e => ?_).trans h2
  rcases hown.2 with ⟨rfl, _⟩ | ⟨g, cap, cur, rfl, _, hh, _⟩
  · simp [Value.ownBlock] at e
  · simp only [Value.ownBlock, Option.some.injEq] at e
    rw [← e, show w.heap[gs[j]]? = _ from h2] at hh
    injection hh with hh
    injection hh with _ hh
    exact absurd hh (by decide)
theorem Row.grown {w w' : World} {g : Nat} {xs : List Int} (h : Row w g xs) {base' n size : Nat} {v : Value} {zs : List Value} (hown : w.ownsRow base' 28 size v n zs) (hg : w.grownBy w' v.ownBlock) : Row w' g xs := by
  refine (hg.block _ h.lt fun e => ?_).trans h
  rcases hown.2 with ⟨rfl, _⟩ | ⟨g', cap, cur, rfl, _, hh, _⟩
  · simp [Value.ownBlock] at e
  · simp only [Value.ownBlock, Option.some.injEq] at e
    rw [← e, show w.heap[g]? = _ from h] at hh
    injection hh with hh
    injection hh with _ hh
    exact absurd hh (by decide)
theorem Held.snoc {w : World} {a b : List Int} {base : Nat} {gs : List Nat} (h : Held w a b base gs) {g : Nat} {xs : List Int} (h1 : base ≤ g) (h2 : Row w g xs) (h3 : Ro a b gs.length xs) : Held w a b base (gs ++ [g]) := fun j hj => by
  by_cases e : j < gs.length
  · rw [List.getElem_append_left e]; exact h j e
  · obtain rfl : j = gs.length := by simp at hj; omega
    rw [List.getElem_append_right (Nat.le_refl _)]
    simp only [Nat.sub_self, List.getElem_cons_zero]
    exact ⟨h1, xs, h2, h3⟩
/-- The rows, as they are told. -/
def RowsAt (w : World) (a b : List Int) (G N : Nat) : Prop := (∃ cs, w.heap[G]? = some (.cells cs 28 (0, 0))) ∧ ∀ m, m < N → ∃ g xs, w.cell? ⟨G, m, none⟩ = some (rowV (a.length + b.length + 3) g) ∧ Row w g xs ∧ Ro a b m xs
theorem RowsAt.of {w : World} {a b : List Int} {base base' N cap : Nat} {A : Option Addr} {gs : List Nat} (h : Held w a b base gs) (hown : w.ownsRow base' 28 1 (.slice A gs.length cap) gs.length (gs.map (rowV (a.length + b.length + 3)))) (hN : N = gs.length) (hp : 0 < N) :
    ∃ G, A = some ⟨G, 0, none⟩ ∧ base' ≤ G ∧ RowsAt w a b G N := by
  subst hN
  rcases hown.2 with ⟨_, e⟩ | ⟨g, cap', cur, e, hb, hh, hc, hm, hs, ht⟩
  · omega
  · injection e with e1 e2 e3
    refine ⟨g, e1, hb, ⟨cur, hh⟩, fun m hm => ?_⟩
    obtain ⟨-, xs, h2, h3⟩ := h m hm
    refine ⟨gs[m], xs, ?_, h2, h3⟩
    rw [cell_of_row w g m cur _ _ hh]
    have : (cur.toList.take (gs.length * 1))[m]? = (gs.map (rowV (a.length + b.length + 3)))[m]? := by rw [ht]
    rw [Nat.mul_one, List.getElem?_take, if_pos hm, List.getElem?_map, List.getElem?_eq_getElem hm] at this
    simpa using this
theorem RowsAt.kept {w w' : World} {a b : List Int} {G N : Nat} (h : RowsAt w a b G N) (hb : Below w.heap.size w w') : RowsAt w' a b G N := by
  obtain ⟨⟨cs, hc⟩, h⟩ := h
  have hlt := (Array.getElem?_eq_some_iff.1 hc).1
  refine ⟨⟨cs, (hb.block G hlt).trans hc⟩, fun m hm => ?_⟩
  obtain ⟨g, xs, h1, h2, h3⟩ := h m hm
  exact ⟨g, xs, (hb.cell (p := ⟨G, m, none⟩) hlt).trans h1, h2.kept hb, h3⟩
def ReEnd (W : World) (a b : List Int) (e : Ending) (w' : World) : Prop := ∃ G cap, e = .returned (.slice (some ⟨G, 0, none⟩) (D a b 0 0 + 1) cap) ∧ W.heap.size ≤ G ∧ RowsAt w' a b G (D a b 0 0 + 1) ∧ Below W.heap.size W w'
theorem infoRowI : (Try.prog.info? 28).map (fun i => (i.zero, i.size, i.bytes)) = some (some (.slice none 0 0), 1, 24) := by kernel_rfl
theorem rowV_map (L : Nat) (gs : List Nat) (g : Nat) : (gs ++ [g]).map (rowV L) = gs.map (rowV L) ++ [.slice (some ⟨g, 0, none⟩) L L] := by simp [rowV]
theorem splice_all (xs ys : List Value) (h : ys.length = xs.length) : splice xs 0 ys = ys := by simp [splice, h]

theorem alloc_at {w : World} {n : Nat} (o : Obj) (h : w.heap.size = n) : (w.alloc o).heap[n]? = some o := by subst h; exact heap_alloc_new w o
/-- A copy of a row, into a new one. -/
theorem copied (w : World) {g L : Nat} {xs : List Int} (h : Row w g xs) (hl : xs.length = L) :
    ∃ W, (Builtin.copy_ #[28, 28] 3 #[.slice (some ⟨w.heap.size, 0, none⟩) L L, .slice (some ⟨g, 0, none⟩) L L]).run Try.prog (w.alloc (.cells (madeCells #[.int .i64 0] L) 3)) = .ok (.int .i64 (L : Int)) W ∧ Row W w.heap.size xs ∧ Below w.heap.size w W := by
  have hg : (w.alloc (.cells (madeCells #[.int .i64 0] L) 3)).heap[w.heap.size]? = some (.cells (numCells (List.replicate L 0)).toArray 3 (0, 0)) := by rw [made_row]; exact heap_alloc_new w _
  have hcl : (numCells xs).length = L := by simp [numCells, hl]
  have hrun := run_copy_row (P := Try.prog) (w.alloc (.cells (madeCells #[.int .i64 0] L) 3)) 28 28 3 3 w.heap.size 0 L L ⟨g, 0, none⟩ L L _ 3 (numCells xs) Try.underlying28 (by kernel_rfl) hg (by rw [hcl]; exact (Nat.min_self L).symm)
    (fun j v hj => by
      have hjl : j < xs.length := by
        have := (List.getElem?_eq_some_iff.1 hj).1
        simpa [numCells] using this
      have e : v = .int .i64 xs[j] := by
        simp [numCells, List.getElem?_eq_getElem hjl] at hj
        exact hj.symm
      subst e
      rw [show (⟨g, 0, none⟩ : Addr).add j = ⟨g, j, none⟩ by cases j <;> simp [Addr.add]]
      exact (h.kept (alloc1 _ _)).cell hjl)
    (by simp [numCells, hl]) (fun v hv => by
      simp only [numCells, List.mem_map] at hv
      obtain ⟨z, _, rfl⟩ := hv
      rfl)
  rw [hcl] at hrun
  refine ⟨_, hrun, ?_, below_setRow (alloc1 _ _) (Nat.le_refl _) _⟩
  refine (setRow_heap _ _ _ _ _ _ hg).trans ?_
  simp [numCells]

end Go.Proofs.Ytigghcmbdnidnaa.M

namespace Go.Proofs.Ytigghcmbdnidnaa.M
set_option linter.unusedVariables false
set_option linter.unusedSimpArgs false
open Go.RowKit
open T
open V (IntsIn numCells numCells_snoc ints_own drawn_below)
open I (alloc1 own_at own_below)

theorem D_all (a b : List Int) : D a b 0 0 = ed a b := rfl
theorem quiet_add_left {P : Program} {f : FuncId} {args : Array Value} {w : World} {a n : Nat} {v : Value}
    (h : Calls P f args (w.drewN (a + n)) fun e w' => e = .returned v ∧ w.drewN (a + n) = w') :
    Calls P f args (w.drewN (a + n)) fun e w'' => e = .returned v ∧ ∃ m, w'' = w.drewN (a + m) :=
  h.mono fun _ _ ⟨he, hm⟩ => ⟨he, n, hm.symm⟩
theorem quiet_left {P : Program} {f : FuncId} {args : Array Value} {w : World} {n : Nat} {v : Value}
    (h : Calls P f args (w.drewN n) fun e w' => e = .returned v ∧ w.drewN n = w') : Calls P f args (w.drewN n) fun e w'' => e = .returned v ∧ ∃ m, w'' = w.drewN m :=
  h.mono fun _ _ ⟨he, hm⟩ => ⟨he, n, hm.symm⟩
/-- What lies below n0 stays, and every row of numbers and of rows of numbers. -/
def KpT (n0 : Nat) (W W' : World) : Prop := Below n0 W W' ∧ ∀ (k : Nat) (cs : Array Value) (t : TypeId), W.heap[k]? = some (.cells cs t (0, 0)) → (t = 3 ∨ t = 28) → W'.heap[k]? = W.heap[k]?
theorem KpT.of {n0 : Nat} {W W' : World} (h : Below W.heap.size W W') (hn : n0 ≤ W.heap.size) : KpT n0 W W' := ⟨h.mono hn, fun k cs t hk _ => h.block k (Array.getElem?_eq_some_iff.1 hk).1⟩
theorem RowsAt.keptT {w w' : World} {n0 : Nat} {a b : List Int} {G N : Nat} (h : RowsAt w a b G N) (hb : KpT n0 w w') : RowsAt w' a b G N := by
  obtain ⟨⟨cs, hc⟩, h⟩ := h
  have e := hb.2 G cs _ hc (.inr rfl)
  refine ⟨⟨cs, e.trans hc⟩, fun m hm => ?_⟩
  obtain ⟨g, xs, h1, h2, h3⟩ := h m hm
  exact ⟨g, xs, (World.cell?_of_block (a := ⟨G, m, none⟩) e).trans h1, (hb.2 g _ _ h2 (.inl rfl)).trans h2, h3⟩
/-- Numbers that lie below n0. -/
def IntsLow (w : World) (n0 : Nat) (A : Option Addr) (xs : List Int) : Prop := 0 < xs.length → ∃ bk off, A = some ⟨bk, off, none⟩ ∧ bk < n0 ∧ L.IntsAt w bk off xs
theorem IntsLow.kept {w w' : World} {n0 : Nat} {A : Option Addr} {xs : List Int} (h : IntsLow w n0 A xs) (hb : Below n0 w w') : IntsLow w' n0 A xs := fun hp => by
  obtain ⟨bk, off, e, hlt, hl⟩ := h hp
  exact ⟨bk, off, e, hlt, fun j hj => (hb.cell (p := ⟨bk, off + j, none⟩) hlt).trans (hl j hj)⟩
theorem IntsLow.ints {w : World} {n0 : Nat} {A : Option Addr} {xs : List Int} (h : IntsLow w n0 A xs) (hn : n0 ≤ w.heap.size) : IntsIn w A xs := fun hp => by
  obtain ⟨bk, off, e, hlt, hl⟩ := h hp
  exact ⟨bk, off, e, by omega, hl⟩
theorem told_cons (i j : Nat) (s : Int) (r : List Int) : told i j (s :: r) = (s, i, j) :: told (if s = 3 then i else i + 1) (if s = 2 then j else j + 1) r := rfl
/-- Whoever is told. -/
structure Told (fn : FuncId) (p : Value) (n0 : Nat) (J : List (Int × Nat × Nat) → World → Prop) : Prop where
  enters : ∀ (args : Array Value) (w : World), (callFunc fn args).run Try.prog w = .ok (.enter fn args) w
  keeps : ∀ l W W', J l W → Below W.heap.size W W' → J l W'
  tells : ∀ l (s : Int) (i j : Nat) W, J l W → n0 ≤ W.heap.size → l.length ≤ 800 → Calls Try.prog fn #[.int .i64 s, .int .i64 (i : Int), .int .i64 (j : Int), p] W fun e W' => e = .returned (.tuple #[]) ∧ J (l ++ [(s, i, j)]) W' ∧ KpT n0 W W'

theorem to_keep {a b : List Int} {i j : Nat} {l X : List (Int × Nat × Nat)} (h : X = l ++ told i j (Wy a b i j)) (hk : kept a b i j = true) : X = (l ++ [(1, i, j)]) ++ told (i + 1) (j + 1) (Wy a b (i + 1) (j + 1)) := by
  rw [h, (Wy_kept hk).1, told_cons, if_neg (by decide), if_neg (by decide)]; simp
theorem to_out {a b : List Int} {i j : Nat} {l X : List (Int × Nat × Nat)} (h : X = l ++ told i j (Wy a b i j)) (hk : kept a b i j = false) (ho : outs a b i j = true) : X = (l ++ [(2, i, j)]) ++ told (i + 1) j (Wy a b (i + 1) j) := by
  rw [h, (Wy_out hk ho).1, told_cons, if_neg (by decide), if_pos rfl]; simp
theorem to_in {a b : List Int} {i j : Nat} {l X : List (Int × Nat × Nat)} (h : X = l ++ told i j (Wy a b i j)) (hk : kept a b i j = false) (ho : outs a b i j = false) (hj : j < b.length) : X = (l ++ [(3, i, j)]) ++ told i (j + 1) (Wy a b i (j + 1)) := by
  rw [h, (Wy_in hk ho hj).1, told_cons, if_pos rfl, if_neg (by decide)]; simp

end Go.Proofs.Ytigghcmbdnidnaa.M
