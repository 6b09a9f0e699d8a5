/-
  The shortest way from one row of numbers to another one: plain. How many numbers must be taken out and put in; what a row of the furthest places is, and the next one; the way that the document names.
  Ways from one row to another one, of any length: the distance is the least; it is a metric; what both begin or end with alike plays no part; how many are kept; rows of both are no longer than what is kept: plain.
-/

namespace Go.Proofs.YtfndiggpnkjacaaDoor.M
set_option linter.unusedVariables false
set_option linter.unusedSimpArgs false

/-- How many numbers must be taken out and put in. -/
def ed : List Int → List Int → Nat
  | [], b => b.length
  | x :: a, [] => a.length + 1
  | x :: a, y :: b => if x = y then ed a b else min (ed a (y :: b)) (ed (x :: a) b) + 1
termination_by a b => a.length + b.length
theorem ed_nil1 (b : List Int) : ed [] b = b.length := by rw [ed]
theorem ed_nil2 (a : List Int) : ed a [] = a.length := by cases a <;> simp [ed]
theorem ed_eq (x : Int) (a b : List Int) : ed (x :: a) (x :: b) = ed a b := by rw [ed, if_pos rfl]
theorem ed_ne {x y : Int} (h : ¬ x = y) (a b : List Int) : ed (x :: a) (y :: b) = min (ed a (y :: b)) (ed (x :: a) b) + 1 := by rw [ed, if_neg h]
theorem ed_near : ∀ (n : Nat) (a b : List Int), a.length + b.length ≤ n →
    (∀ x, ed (x :: a) b ≤ ed a b + 1 ∧ ed a b ≤ ed (x :: a) b + 1) ∧ (∀ y, ed a (y :: b) ≤ ed a b + 1 ∧ ed a b ≤ ed a (y :: b) + 1)
  | n, a, b, hn => by
    refine ⟨fun x => ?_, fun y => ?_⟩
    · match b, hn with
      | [], _ => rw [ed_nil2, ed_nil2, List.length_cons]; omega
      | y :: b, hn =>
        match n, hn with
        | 0, hn => simp at hn
        | n + 1, hn =>
          have hR := (ed_near n a b (by simp at hn; omega)).2 y
          have hL := (ed_near n a b (by simp at hn; omega)).1 x
          by_cases h : x = y
          · subst h; rw [ed_eq]; omega
          · rw [ed_ne h]; omega
    · match a, hn with
      | [], _ => rw [ed_nil1, ed_nil1, List.length_cons]; omega
      | x :: a, hn =>
        match n, hn with
        | 0, hn => simp at hn
        | n + 1, hn =>
          have hR := (ed_near n a b (by simp at hn; omega)).2 y
          have hL := (ed_near n a b (by simp at hn; omega)).1 x
          by_cases h : x = y
          · subst h; rw [ed_eq]; omega
          · rw [ed_ne h]; omega
theorem ed_l1 (x : Int) (a b : List Int) : ed (x :: a) b ≤ ed a b + 1 := ((ed_near _ a b (Nat.le_refl _)).1 x).1
theorem ed_l2 (x : Int) (a b : List Int) : ed a b ≤ ed (x :: a) b + 1 := ((ed_near _ a b (Nat.le_refl _)).1 x).2
theorem ed_r1 (y : Int) (a b : List Int) : ed a (y :: b) ≤ ed a b + 1 := ((ed_near _ a b (Nat.le_refl _)).2 y).1
theorem ed_r2 (y : Int) (a b : List Int) : ed a b ≤ ed a (y :: b) + 1 := ((ed_near _ a b (Nat.le_refl _)).2 y).2
theorem ed_mono (x y : Int) (a b : List Int) : ed a b ≤ ed (x :: a) (y :: b) := by
  by_cases h : x = y
  · subst h; rw [ed_eq]; exact Nat.le_refl _
  · rw [ed_ne h]; have := ed_r2 y a b; have := ed_l2 x a b; omega
theorem ed_low : ∀ (n : Nat) (a b : List Int), a.length + b.length ≤ n → a.length ≤ b.length + ed a b ∧ b.length ≤ a.length + ed a b ∧ ed a b ≤ a.length + b.length ∧ (a.length + b.length + ed a b) % 2 = 0
  | n, [], b, _ => by rw [ed_nil1]; simp; omega
  | n, x :: a, [], _ => by rw [ed_nil2]; simp; omega
  | 0, x :: a, y :: b, hn => by simp at hn
  | n + 1, x :: a, y :: b, hn => by
    simp only [List.length_cons] at hn ⊢
    by_cases h : x = y
    · subst h; rw [ed_eq]; have := ed_low n a b (by omega); omega
    · rw [ed_ne h]
      have h1 := ed_low n a (y :: b) (by simp; omega)
      have h2 := ed_low n (x :: a) b (by simp; omega)
      simp only [List.length_cons] at h1 h2
      omega
theorem ed_le (a b : List Int) : ed a b ≤ a.length + b.length := (ed_low _ a b (Nat.le_refl _)).2.2.1

/-- The distance of what is left behind two places. -/
def D (a b : List Int) (i j : Nat) : Nat := ed (a.drop i) (b.drop j)
theorem D_endA {a : List Int} (b : List Int) {i j : Nat} (h : a.length ≤ i) : D a b i j = b.length - j := by rw [D, List.drop_eq_nil_of_le h, ed_nil1, List.length_drop]
theorem D_endB (a : List Int) {b : List Int} {i j : Nat} (h : b.length ≤ j) : D a b i j = a.length - i := by rw [D, List.drop_eq_nil_of_le h, ed_nil2, List.length_drop]
theorem D_eq {a b : List Int} {i j : Nat} (hi : i < a.length) (hj : j < b.length) (h : a[i] = b[j]) : D a b i j = D a b (i + 1) (j + 1) := by
  rw [D, List.drop_eq_getElem_cons hi, List.drop_eq_getElem_cons hj, h, ed_eq]; rfl
theorem D_ne {a b : List Int} {i j : Nat} (hi : i < a.length) (hj : j < b.length) (h : ¬ a[i] = b[j]) : D a b i j = min (D a b (i + 1) j) (D a b i (j + 1)) + 1 := by
  simp only [D]
  rw [List.drop_eq_getElem_cons hi, List.drop_eq_getElem_cons hj, ed_ne h]
theorem D_l {a : List Int} (b : List Int) {i : Nat} (j : Nat) (hi : i < a.length) : D a b i j ≤ D a b (i + 1) j + 1 ∧ D a b (i + 1) j ≤ D a b i j + 1 := by
  simp only [D]; rw [List.drop_eq_getElem_cons hi]; exact ⟨ed_l1 _ _ _, ed_l2 _ _ _⟩
theorem D_r (a : List Int) {b : List Int} (i : Nat) {j : Nat} (hj : j < b.length) : D a b i j ≤ D a b i (j + 1) + 1 ∧ D a b i (j + 1) ≤ D a b i j + 1 := by
  simp only [D]; rw [List.drop_eq_getElem_cons hj]; exact ⟨ed_r1 _ _ _, ed_r2 _ _ _⟩
theorem D_mono1 {a b : List Int} {i j : Nat} (hi : i < a.length) (hj : j < b.length) : D a b (i + 1) (j + 1) ≤ D a b i j := by
  simp only [D]; rw [List.drop_eq_getElem_cons hi, List.drop_eq_getElem_cons hj]; exact ed_mono _ _ _ _
theorem D_mono {a b : List Int} {i j : Nat} : ∀ m, i + m ≤ a.length → j + m ≤ b.length → D a b (i + m) (j + m) ≤ D a b i j
  | 0, _, _ => Nat.le_refl _
  | m + 1, h1, h2 => Nat.le_trans (by have := @D_mono1 a b (i + m) (j + m) (by omega) (by omega); exact this) (D_mono m (by omega) (by omega))
theorem D_low (a b : List Int) {i j : Nat} (hi : i ≤ a.length) (hj : j ≤ b.length) : a.length + j ≤ b.length + i + D a b i j ∧ b.length + i ≤ a.length + j + D a b i j ∧ D a b i j ≤ (a.length - i) + (b.length - j) ∧ ((a.length - i) + (b.length - j) + D a b i j) % 2 = 0 := by
  have := ed_low _ (a.drop i) (b.drop j) (Nat.le_refl _)
  simp only [List.length_drop] at this
  unfold D
  omega

/-- What is kept going back from two places: where that ends in a. -/
def sl (a b : List Int) (i j : Int) : Int :=
  if 0 < i ∧ 0 < j ∧ a.getD (i - 1).toNat 0 = b.getD (j - 1).toNat 0 then sl a b (i - 1) (j - 1) else i
termination_by i.toNat
decreasing_by omega
theorem sl_le (a b : List Int) : ∀ (n : Nat) (i j : Int), i.toNat ≤ n → sl a b i j ≤ i ∧ (0 ≤ i → 0 ≤ sl a b i j) ∧ (i < 0 → sl a b i j = i) ∧ (0 ≤ j → 0 ≤ sl a b i j + j - i) ∧ (j ≤ 0 → sl a b i j = i)
  | n, i, j, hn => by
    rw [sl]
    split
    · rename_i h
      match n, hn with
      | 0, hn => omega
      | n + 1, hn => have := sl_le a b n (i - 1) (j - 1) (by omega); omega
    · omega
theorem getD_at {a : List Int} {k : Nat} (h : k < a.length) : a.getD k 0 = a[k] := by rw [List.getD_eq_getElem?_getD, List.getElem?_eq_getElem h]; rfl
/-- All along what is kept the distance stays. -/
theorem sl_D (a b : List Int) : ∀ (n : Nat) (i j : Int), i.toNat ≤ n → i ≤ a.length → j ≤ b.length → ∀ p q : Nat, sl a b i j ≤ p → (p : Int) ≤ i → (p : Int) - q = i - j → D a b p q = D a b i.toNat j.toNat
  | n, i, j, hn, hi, hj, p, q, h1, h2, h3 => by
    by_cases e : (p : Int) = i
    · have e1 : i.toNat = p := by omega
      have e2 : j.toNat = q := by omega
      rw [e1, e2]
    · rw [sl] at h1
      split at h1
      · rename_i h
        match n, hn with
        | 0, hn => omega
        | n + 1, hn =>
          rw [sl_D a b n (i - 1) (j - 1) (by omega) (by omega) (by omega) p q h1 (by omega) (by omega)]
          have ha : (i - 1).toNat < a.length := by omega
          have hb : (j - 1).toNat < b.length := by omega
          have he := h.2.2
          rw [getD_at ha, getD_at hb] at he
          rw [D_eq ha hb he, show (i - 1).toNat + 1 = i.toNat by omega, show (j - 1).toNat + 1 = j.toNat by omega]
      · omega
/-- Where it ends, nothing more is kept. -/
theorem sl_end (a b : List Int) : ∀ (n : Nat) (i j : Int), i.toNat ≤ n → i ≤ a.length → j ≤ b.length → ∀ p q : Nat, (p : Int) + 1 = sl a b i j → (p : Int) - q = i - j → ∀ (hp : p < a.length) (hq : q < b.length), ¬ a[p] = b[q]
  | n, i, j, hn, hi, hj, p, q, h1, h2, hp, hq => by
    rw [sl] at h1
    split at h1
    · rename_i h
      match n, hn with
      | 0, hn => omega
      | n + 1, hn => exact sl_end a b n (i - 1) (j - 1) (by omega) (by omega) (by omega) p q h1 (by omega) hp hq
    · rename_i h
      intro e
      refine h ⟨by omega, by omega, ?_⟩
      rw [show (i - 1).toNat = p by omega, show (j - 1).toNat = q by omega, getD_at hp, getD_at hq, e]

/-- The place from which the row goes on at diagonal k. -/
def bi (row : List Int) (k : Nat) : Int := min (row.getD (k + 1) 0 - 1) (row.getD (k - 1) 0)
def bk (a b row : List Int) (k : Nat) : Int := sl a b (bi row k) (bi row k + b.length + 1 - k)
/-- Which diagonals are worked out with n changes. -/
def on (a b : List Int) (n k : Nat) : Prop := 1 ≤ k ∧ k ≤ a.length + b.length + 1 ∧ k ≤ a.length + 1 + n ∧ a.length + 1 ≤ k + n
instance (a b : List Int) (n k : Nat) : Decidable (on a b n k) := by unfold on; infer_instance
/-- A row: for each diagonal the first place from which n changes lead to the ends. -/
structure Ro (a b : List Int) (n : Nat) (row : List Int) : Prop where
  len : row.length = a.length + b.length + 3
  far : ∀ k, k < row.length → ¬ on a b n k → row.getD k 0 = a.length + b.length + 1
  near : ∀ k, on a b n k → -(n : Int) ≤ row.getD k 0 ∧ row.getD k 0 ≤ a.length ∧ row.getD k 0 + 1 ≤ k ∧ -(n : Int) ≤ row.getD k 0 + b.length + 1 - k
  is : ∀ i j k, i ≤ a.length → j ≤ b.length → k + j = i + b.length + 1 → (D a b i j ≤ n ↔ row.getD k 0 ≤ i)
/-- The first row. -/
theorem Ro.zero {a b row : List Int} (hl : row.length = a.length + b.length + 3) (he : row.getD (a.length + 1) 0 = sl a b a.length b.length) (hf : ∀ k, k < row.length → ¬ k = a.length + 1 → row.getD k 0 = a.length + b.length + 1) : Ro a b 0 row := by
  have hs := sl_le a b _ a.length b.length (Nat.le_refl _)
  refine ⟨hl, fun k hk hn => hf k hk fun e => hn ⟨by omega, by omega, by omega, by omega⟩, fun k hk => ?_, fun i j k hi hj hk => ?_⟩
  · obtain ⟨h1, h2, h3, h4⟩ := hk
    obtain rfl : k = a.length + 1 := by omega
    rw [he]; omega
  · by_cases e : k = a.length + 1
    · subst e
      rw [he]
      constructor
      · intro hd
        refine Int.not_lt.1 fun hlt => ?_
        have h0 := (sl_le a b _ (a.length : Int) b.length (Nat.le_refl _)).1
        obtain ⟨p, hp⟩ : ∃ p : Nat, (p : Int) + 1 = sl a b a.length b.length := ⟨(sl a b a.length b.length - 1).toNat, by omega⟩
        have hq : ∃ q : Nat, (p : Int) - q = (a.length : Int) - b.length := ⟨(p + b.length - a.length), by omega⟩
        obtain ⟨q, hq⟩ := hq
        have hne := sl_end a b _ a.length b.length (Nat.le_refl _) (by omega) (by omega) p q hp hq (by omega) (by omega)
        have hm := D_mono (a := a) (b := b) (i := i) (j := j) (p - i) (by omega) (by omega)
        rw [show i + (p - i) = p by omega, show j + (p - i) = q by omega] at hm
        have := D_ne (by omega) (by omega) hne
        omega
      · intro h
        have := sl_D a b _ a.length b.length (Nat.le_refl _) (by omega) (by omega) i j h (by omega) (by omega)
        rw [this, D_endA b (by simp)]
        simp
    · rw [hf k (by omega) e]
      have := D_low a b hi hj
      omega
/-- With one change more. -/
theorem Ro.next {a b row row' : List Int} {n : Nat} (h : Ro a b n row) (hl : row'.length = row.length)
    (hk : ∀ k, k < row.length → row'.getD k 0 = if on a b (n + 1) k ∧ (k + n + 1 + a.length + 1) % 2 = 0 then bk a b row k else row.getD k 0) : Ro a b (n + 1) row' := by
  have hlen := h.len
  -- what is worked out
  have hb : ∀ k, on a b (n + 1) k → (k + n + 1 + a.length + 1) % 2 = 0 → -((n : Int) + 1) ≤ bi row k ∧ bi row k ≤ a.length ∧ bi row k + 1 ≤ k ∧ -((n : Int) + 1) ≤ bi row k + b.length + 1 - k := fun k hon hpar => by
    obtain ⟨o1, o2, o3, o4⟩ := hon
    have hbi : bi row k = min (row.getD (k + 1) 0 - 1) (row.getD (k - 1) 0) := rfl
    by_cases u : on a b n (k + 1)
    · have hu := h.near _ u
      by_cases v : on a b n (k - 1)
      · have hv := h.near _ v; omega
      · have hv := h.far (k - 1) (by omega) v
        by_cases q : k = a.length + b.length + 1
        · omega
        · omega
    · have hu := h.far (k + 1) (by omega) u
      by_cases v : on a b n (k - 1)
      · have hv := h.near _ v
        omega
      · have hv := h.far (k - 1) (by omega) v
        unfold on at u v
        omega
  have hwin : ∀ k, on a b (n + 1) k → ¬ (k + n + 1 + a.length + 1) % 2 = 0 → on a b n k := fun k ⟨o1, o2, o3, o4⟩ hp => ⟨o1, o2, by omega, by omega⟩
  refine ⟨by omega, fun k hkl hn => ?_, fun k hon => ?_, fun i j k hi hj hkj => ?_⟩
  · rw [hk k (by omega), if_neg fun q => hn q.1]
    exact h.far k (by omega) fun q => hn ⟨q.1, q.2.1, by have := q.2.2.1; omega, by have := q.2.2.2; omega⟩
  · have hlt : k < row.length := by have := hon.2.1; omega
    rw [hk k hlt]
    by_cases hp : (k + n + 1 + a.length + 1) % 2 = 0
    · rw [if_pos ⟨hon, hp⟩]
      have h0 := hb k hon hp
      have hs := sl_le a b _ (bi row k) (bi row k + b.length + 1 - k) (Nat.le_refl _)
      unfold bk
      omega
    · rw [if_neg fun q => hp q.2]
      have := h.near k (hwin k hon hp)
      omega
  · have hlt : k < row.length := by omega
    have hlow := D_low a b hi hj
    rw [hk k hlt]
    by_cases hon : on a b (n + 1) k
    · by_cases hp : (k + n + 1 + a.length + 1) % 2 = 0
      · rw [if_pos ⟨hon, hp⟩]
        have h0 := hb k hon hp
        have hj0 : bi row k - (bi row k + b.length + 1 - k) = (i : Int) - j := by omega
        have hbi : bi row k = min (row.getD (k + 1) 0 - 1) (row.getD (k - 1) 0) := rfl
        obtain ⟨o1, o2, o3, o4⟩ := hon
        -- from the first place on
        have hfrom : ∀ p q : Nat, p ≤ a.length → q ≤ b.length → k + q = p + b.length + 1 → bi row k ≤ p → D a b p q ≤ n + 1 := fun p q hpa hqb hkq hle => by
          rcases Nat.lt_or_ge p a.length with hpl | hpl
          · rcases Nat.lt_or_ge q b.length with hql | hql
            · by_cases e : row.getD (k - 1) 0 ≤ p
              · have := (h.is p (q + 1) (k - 1) hpa (by omega) (by omega)).2 e
                have := (D_r a p hql).1
                omega
              · have := (h.is (p + 1) q (k + 1) (by omega) hqb (by omega)).2 (by omega)
                have := (D_l b q hpl).1
                omega
            · rw [D_endB a hql]; omega
          · rw [D_endA b hpl]; omega
        have hs := sl_le a b _ (bi row k) (bi row k + b.length + 1 - k) (Nat.le_refl _)
        constructor
        · intro hd
          refine Int.not_lt.1 fun hgt => ?_
          unfold bk at hgt
          obtain ⟨p, hpe⟩ : ∃ p : Nat, (p : Int) + 1 = sl a b (bi row k) (bi row k + b.length + 1 - k) := ⟨(sl a b (bi row k) (bi row k + b.length + 1 - k) - 1).toNat, by omega⟩
          have hq : ∃ q : Nat, (p : Int) - q = bi row k - (bi row k + b.length + 1 - k) := ⟨(p + b.length + 1 - k), by omega⟩
          obtain ⟨q, hq⟩ := hq
          have hne := sl_end a b _ (bi row k) (bi row k + b.length + 1 - k) (Nat.le_refl _) (by omega) (by omega) p q hpe hq (by omega) (by omega)
          have hm := D_mono (a := a) (b := b) (i := i) (j := j) (p - i) (by omega) (by omega)
          rw [show i + (p - i) = p by omega, show j + (p - i) = q by omega] at hm
          have hdn := D_ne (by omega) (by omega) hne
          rcases Nat.le_total (D a b (p + 1) q) (D a b p (q + 1)) with hle | hle
          · have := (h.is (p + 1) q (k + 1) (by omega) (by omega) (by omega)).1 (by omega)
            omega
          · have := (h.is p (q + 1) (k - 1) (by omega) (by omega) (by omega)).1 (by omega)
            omega
        · intro hle
          by_cases e : bi row k ≤ i
          · exact hfrom i j hi hj hkj e
          · unfold bk at hle
            rw [sl_D a b _ (bi row k) (bi row k + b.length + 1 - k) (Nat.le_refl _) (by omega) (by omega) i j hle (by omega) (by omega)]
            exact hfrom _ _ (by omega) (by omega) (by omega) (by omega)
      · rw [if_neg fun q => hp q.2]
        have := h.is i j k hi hj hkj
        omega
    · rw [if_neg fun q => hon q.1]
      have hno : ¬ on a b n k := fun q => hon ⟨q.1, q.2.1, by have := q.2.2.1; omega, by have := q.2.2.2; omega⟩
      have hf := h.far k hlt hno
      rw [hf]
      unfold on at hon
      omega
/-- The way: 1: kept, 2: taken out, 3: put in. -/
def way : List Int → List Int → List Int
  | [], [] => []
  | [], _ :: b => 3 :: way [] b
  | _ :: a, [] => 2 :: way a []
  | x :: a, y :: b => if x = y then 1 :: way a b else if ed a (y :: b) + 1 = ed (x :: a) (y :: b) then 2 :: way a (y :: b) else 3 :: way (x :: a) b
termination_by a b => a.length + b.length
/-- What is left of it behind two places. -/
def Wy (a b : List Int) (i j : Nat) : List Int := way (a.drop i) (b.drop j)
theorem Wy_end {a b : List Int} {i j : Nat} (hi : a.length ≤ i) (hj : b.length ≤ j) : Wy a b i j = [] := by rw [Wy, List.drop_eq_nil_of_le hi, List.drop_eq_nil_of_le hj, way]
theorem Wy_keep {a b : List Int} {i j : Nat} (hi : i < a.length) (hj : j < b.length) (h : a[i] = b[j]) : Wy a b i j = 1 :: Wy a b (i + 1) (j + 1) := by
  simp only [Wy]; rw [List.drop_eq_getElem_cons hi, List.drop_eq_getElem_cons hj, way, if_pos h]
/-- Is that which stands at both places kept? -/
def kept (a b : List Int) (i j : Nat) : Bool := decide (i < a.length ∧ j < b.length ∧ a.getD i 0 = b.getD j 0)
def outs (a b : List Int) (i j : Nat) : Bool := decide (i < a.length ∧ D a b (i + 1) j + 1 = D a b i j)
theorem kept_yes {a b : List Int} {i j : Nat} (h : kept a b i j = true) : ∃ (hi : i < a.length) (hj : j < b.length), a[i] = b[j] := by
  obtain ⟨h1, h2, h3⟩ := of_decide_eq_true h
  exact ⟨h1, h2, (getD_at h1).symm.trans (h3.trans (getD_at h2))⟩
theorem kept_no {a b : List Int} {i j : Nat} (h : kept a b i j = false) (hi : i < a.length) (hj : j < b.length) : ¬ a[i] = b[j] := fun e => by
  have := of_decide_eq_false h
  exact this ⟨hi, hj, by rw [getD_at hi, getD_at hj, e]⟩
theorem Wy_kept {a b : List Int} {i j : Nat} (h : kept a b i j = true) : Wy a b i j = 1 :: Wy a b (i + 1) (j + 1) ∧ D a b i j = D a b (i + 1) (j + 1) := by
  obtain ⟨hi, hj, e⟩ := kept_yes h
  exact ⟨Wy_keep hi hj e, D_eq hi hj e⟩
theorem Wy_out {a b : List Int} {i j : Nat} (h : kept a b i j = false) (ho : outs a b i j = true) : Wy a b i j = 2 :: Wy a b (i + 1) j ∧ D a b (i + 1) j + 1 = D a b i j := by
  obtain ⟨hi, hd⟩ := of_decide_eq_true ho
  refine ⟨?_, hd⟩
  rcases Nat.lt_or_ge j b.length with hj | hj
  · have hn := kept_no h hi hj
    simp only [D] at hd
    simp only [Wy]
    rw [List.drop_eq_getElem_cons hi, List.drop_eq_getElem_cons hj] at hd
    rw [List.drop_eq_getElem_cons hi, List.drop_eq_getElem_cons hj, way, if_neg hn, if_pos hd]
  · simp only [Wy]
    rw [List.drop_eq_getElem_cons hi, List.drop_eq_nil_of_le hj, way]
theorem Wy_in {a b : List Int} {i j : Nat} (h : kept a b i j = false) (ho : outs a b i j = false) (hj : j < b.length) : Wy a b i j = 3 :: Wy a b i (j + 1) ∧ D a b i (j + 1) + 1 = D a b i j := by
  have hno := of_decide_eq_false ho
  rcases Nat.lt_or_ge i a.length with hi | hi
  · have hn := kept_no h hi hj
    have hd : ¬ D a b (i + 1) j + 1 = D a b i j := fun e => hno ⟨hi, e⟩
    have hD := D_ne hi hj hn
    refine ⟨?_, by omega⟩
    simp only [D] at hd
    simp only [Wy]
    rw [List.drop_eq_getElem_cons hi, List.drop_eq_getElem_cons hj] at hd
    rw [List.drop_eq_getElem_cons hi, List.drop_eq_getElem_cons hj, way, if_neg hn, if_neg hd]
  · refine ⟨?_, by rw [D_endA b hi, D_endA b hi]; omega⟩
    simp only [Wy]
    rw [List.drop_eq_nil_of_le hi, List.drop_eq_getElem_cons hj, way]
/-- Where b is at its end, what is left of a is taken out. -/
theorem in_ends {a b : List Int} {i j : Nat} (ho : outs a b i j = false) (hg : i < a.length ∨ j < b.length) : j < b.length := by
  rcases Nat.lt_or_ge j b.length with hj | hj
  · exact hj
  · exfalso
    have hi : i < a.length := by omega
    exact of_decide_eq_false ho ⟨hi, by rw [D_endB a hj, D_endB a hj]; omega⟩
theorem left_pos {a b : List Int} {i j : Nat} (h : kept a b i j = false) (hg : i < a.length ∨ j < b.length) : 0 < D a b i j := by
  rcases Nat.lt_or_ge i a.length with hi | hi
  · rcases Nat.lt_or_ge j b.length with hj | hj
    · rw [D_ne hi hj (kept_no h hi hj)]; omega
    · rw [D_endB a hj]; omega
  · rw [D_endA b hi]; omega
/-- What the rows tell: is taking out as short? -/
theorem outs_is {a b row : List Int} {i j m : Nat} (hi : i < a.length) (hj : j ≤ b.length) (hm : D a b i j = m + 1) (h : Ro a b m row) : outs a b i j = decide (row.getD (i + 1 + b.length + 1 - j) 0 ≤ ((i + 1 : Nat) : Int)) := by
  have h1 := h.is (i + 1) j (i + 1 + b.length + 1 - j) (by omega) hj (by omega)
  have h2 := D_l b j hi
  unfold outs
  rw [Bool.eq_iff_iff, decide_eq_true_iff, decide_eq_true_iff, ← h1]
  constructor
  · intro ⟨_, e⟩; omega
  · intro e; exact ⟨hi, by omega⟩
/-- What is told: the steps with their places. -/
def told : Nat → Nat → List Int → List (Int × Nat × Nat)
  | _, _, [] => []
  | i, j, s :: r => (s, i, j) :: told (if s = 3 then i else i + 1) (if s = 2 then j else j + 1) r
theorem told_steps : ∀ (s : List Int) (i j : Nat), (told i j s).map (·.1) = s
  | [], _, _ => rfl
  | s :: r, i, j => by rw [told, List.map_cons, told_steps r]
/-- What is kept, of what is told. -/
def prs (l : List (Int × Nat × Nat)) : List (Int × Int) := (l.filter fun t => t.1 = 1).map fun t => ((t.2.1 : Int), (t.2.2 : Int))
theorem prs_snoc (l : List (Int × Nat × Nat)) (t : Int × Nat × Nat) : prs (l ++ [t]) = prs l ++ if t.1 = 1 then [((t.2.1 : Int), (t.2.2 : Int))] else [] := by
  unfold prs
  rw [List.filter_append, List.map_append]
  congr 1
  by_cases h : t.1 = 1 <;> simp [h]
def pairs (a b : List Int) : List (Int × Int) := prs (told 0 0 (way a b))
theorem way_le : ∀ (n : Nat) (a b : List Int), a.length + b.length ≤ n → (way a b).length ≤ a.length + b.length
  | n, [], [], _ => by simp [way]
  | 0, [], _ :: _, h => by simp at h
  | 0, _ :: _, _, h => by simp at h
  | n + 1, [], y :: b, h => by rw [way]; have := way_le n [] b (by simp at h ⊢; omega); simp at this ⊢; omega
  | n + 1, x :: a, [], h => by rw [way]; have := way_le n a [] (by simp at h ⊢; omega); simp at this ⊢; omega
  | n + 1, x :: a, y :: b, h => by
    rw [way]
    have h1 := way_le n a b (by simp at h; omega)
    have h2 := way_le n a (y :: b) (by simp at h ⊢; omega)
    have h3 := way_le n (x :: a) b (by simp at h ⊢; omega)
    simp only [List.length_cons] at h2 h3 ⊢
    split
    · simp; omega
    · split <;> simp <;> omega
end Go.Proofs.YtfndiggpnkjacaaDoor.M

namespace Go.Proofs.YtfndiggpnkjacaaDoor.M
set_option linter.unusedVariables false
set_option linter.unusedSimpArgs false

/-- A way of n changes. -/
inductive P : List Int → List Int → Nat → Prop
  | nil : P [] [] 0
  | keep {a b : List Int} {n : Nat} (x : Int) : P a b n → P (x :: a) (x :: b) n
  | out {a b : List Int} {n : Nat} (x : Int) : P a b n → P (x :: a) b (n + 1)
  | put {a b : List Int} {n : Nat} (x : Int) : P a b n → P a (x :: b) (n + 1)
theorem P.of_ed : ∀ (n : Nat) (a b : List Int), a.length + b.length ≤ n → P a b (ed a b)
  | _, [], [], _ => by rw [ed_nil1]; exact .nil
  | 0, [], y :: b, h => by simp at h
  | 0, x :: a, _, h => by simp at h
  | n + 1, [], y :: b, h => by
    have := P.of_ed n [] b (by simp at h ⊢; omega)
    rw [ed_nil1] at this ⊢
    exact .put y this
  | n + 1, x :: a, [], h => by
    have := P.of_ed n a [] (by simp at h ⊢; omega)
    rw [ed_nil2] at this ⊢
    exact .out x this
  | n + 1, x :: a, y :: b, h => by
    simp only [List.length_cons] at h
    by_cases e : x = y
    · subst e; rw [ed_eq]; exact .keep x (P.of_ed n a b (by omega))
    · rw [ed_ne e]
      rcases Nat.le_total (ed a (y :: b)) (ed (x :: a) b) with hl | hl
      · rw [Nat.min_eq_left hl]; exact .out x (P.of_ed n a (y :: b) (by simp; omega))
      · rw [Nat.min_eq_right hl]; exact .put y (P.of_ed n (x :: a) b (by simp; omega))
theorem P.ed (a b : List Int) : P a b (ed a b) := P.of_ed _ a b (Nat.le_refl _)
theorem P.le {a b : List Int} {n : Nat} (h : P a b n) : M.ed a b ≤ n := by
  induction h with
  | nil => rw [ed_nil1]; simp
  | keep x _ ih => rw [ed_eq]; exact ih
  | @out a b n x _ ih => have := ed_l1 x a b; omega
  | @put a b n x _ ih => have := ed_r1 x a b; omega
theorem P.symm {a b : List Int} {n : Nat} (h : P a b n) : P b a n := by
  induction h with
  | nil => exact .nil
  | keep x _ ih => exact .keep x ih
  | out x _ ih => exact .put x ih
  | put x _ ih => exact .out x ih
theorem P.trans : ∀ (N : Nat) (a b c : List Int) (n m : Nat), a.length + b.length + c.length ≤ N → P a b n → P b c m → ∃ k, k ≤ n + m ∧ P a c k
  | N, a, b, c, n, m, hN, h1, h2 => by
    cases h2 with
    | nil => exact ⟨n, by omega, h1⟩
    | @put _ c' m' x h2' =>
      match N, hN with
      | 0, hN => simp at hN
      | N + 1, hN =>
        obtain ⟨k, hk, h⟩ := P.trans N a b c' n m' (by simp at hN; omega) h1 h2'
        exact ⟨k + 1, by omega, .put x h⟩
    | @keep b' c' _ x h2' =>
      match N, hN with
      | 0, hN => simp at hN
      | N + 1, hN =>
        cases h1 with
        | @keep a' _ _ _ h1' =>
          obtain ⟨k, hk, h⟩ := P.trans N a' b' c' n m (by simp at hN; omega) h1' h2'
          exact ⟨k, hk, .keep x h⟩
        | @out a' _ n' y h1' =>
          obtain ⟨k, hk, h⟩ := P.trans N a' (x :: b') (x :: c') n' m (by simp at hN ⊢; omega) h1' (.keep x h2')
          exact ⟨k + 1, by omega, .out y h⟩
        | @put _ _ n' _ h1' =>
          obtain ⟨k, hk, h⟩ := P.trans N a b' c' n' m (by simp at hN; omega) h1' h2'
          exact ⟨k + 1, by omega, .put x h⟩
    | @out b' _ m' x h2' =>
      match N, hN with
      | 0, hN => simp at hN
      | N + 1, hN =>
        cases h1 with
        | @keep a' _ _ _ h1' =>
          obtain ⟨k, hk, h⟩ := P.trans N a' b' c n m' (by simp at hN; omega) h1' h2'
          exact ⟨k + 1, by omega, .out x h⟩
        | @out a' _ n' y h1' =>
          obtain ⟨k, hk, h⟩ := P.trans N a' (x :: b') c n' (m' + 1) (by simp at hN ⊢; omega) h1' (.out x h2')
          exact ⟨k + 1, by omega, .out y h⟩
        | @put _ _ n' _ h1' =>
          obtain ⟨k, hk, h⟩ := P.trans N a b' c n' m' (by simp at hN; omega) h1' h2'
          exact ⟨k, by omega, h⟩
theorem P.keepEnd {a b : List Int} {n : Nat} (h : P a b n) (z : Int) : P (a ++ [z]) (b ++ [z]) n := by
  induction h with
  | nil => exact .keep z .nil
  | keep x _ ih => exact .keep x ih
  | out x _ ih => exact .out x ih
  | put x _ ih => exact .put x ih
theorem P.outEnd {a b : List Int} {n : Nat} (h : P a b n) (z : Int) : P (a ++ [z]) b (n + 1) := by
  induction h with
  | nil => exact .out z .nil
  | keep x _ ih => exact .keep x ih
  | out x _ ih => exact .out x ih
  | put x _ ih => exact .put x ih
theorem P.putEnd {a b : List Int} {n : Nat} (h : P a b n) (z : Int) : P a (b ++ [z]) (n + 1) := (h.symm.outEnd z).symm
theorem P.outEnds {a b : List Int} {n : Nat} (h : P a b n) : ∀ z : List Int, P (a ++ z) b (n + z.length)
  | [] => by simpa using h
  | y :: z => by
    have := (h.outEnd y).outEnds z
    rw [List.append_assoc] at this
    simpa [Nat.add_assoc, Nat.add_comm 1] using this
theorem P.putEnds {a b : List Int} {n : Nat} (h : P a b n) (z : List Int) : P a (b ++ z) (n + z.length) := (h.symm.outEnds z).symm
theorem P.rev {a b : List Int} {n : Nat} (h : P a b n) : P a.reverse b.reverse n := by
  induction h with
  | nil => exact .nil
  | keep x _ ih => rw [List.reverse_cons, List.reverse_cons]; exact ih.keepEnd x
  | out x _ ih => rw [List.reverse_cons]; exact ih.outEnd x
  | put x _ ih => rw [List.reverse_cons]; exact ih.putEnd x
theorem P.refl : ∀ a : List Int, P a a 0
  | [] => .nil
  | x :: a => .keep x (P.refl a)
theorem P.zero {a b : List Int} {n : Nat} (h : P a b n) : n = 0 → a = b := by
  induction h with
  | nil => intro _; rfl
  | keep x _ ih => intro e; rw [ih e]
  | out x _ ih => intro e; omega
  | put x _ ih => intro e; omega
theorem ed_symm (a b : List Int) : ed a b = ed b a := by
  have := (P.ed a b).symm.le; have := (P.ed b a).symm.le; omega
theorem ed_tri (a b c : List Int) : ed a c ≤ ed a b + ed b c := by
  obtain ⟨k, hk, h⟩ := P.trans _ a b c _ _ (Nat.le_refl _) (P.ed a b) (P.ed b c)
  have := h.le; omega
theorem ed_rev (a b : List Int) : ed a.reverse b.reverse = ed a b := by
  have h1 := (P.ed a b).rev.le
  have h2 := (P.ed a.reverse b.reverse).rev.le
  rw [List.reverse_reverse, List.reverse_reverse] at h2
  omega
theorem ed_zero (a b : List Int) : ed a b = 0 ↔ a = b := by
  constructor
  · exact (P.ed a b).zero
  · rintro rfl; have := (P.refl a).le; omega
theorem ed_pre (a b : List Int) : ∀ p : List Int, ed (p ++ a) (p ++ b) = ed a b
  | [] => rfl
  | x :: p => by rw [List.cons_append, List.cons_append, ed_eq, ed_pre a b p]
theorem ed_suf (a b s : List Int) : ed (a ++ s) (b ++ s) = ed a b := by
  rw [← ed_rev, List.reverse_append, List.reverse_append, ed_pre, ed_rev]
theorem ed_ends (p a b s : List Int) : ed (p ++ a ++ s) (p ++ b ++ s) = ed a b := by rw [ed_suf, ed_pre]
/-- With one number more at the end it is one away. -/
theorem ed_more (a b : List Int) (z : Int) : ed (a ++ [z]) b = ed a b + 1 ∨ ed (a ++ [z]) b + 1 = ed a b := by
  have e : ed (a ++ [z]) b = ed (z :: a.reverse) b.reverse := by rw [← ed_rev, List.reverse_append]; rfl
  have h1 := ed_l1 z a.reverse b.reverse
  have h2 := ed_l2 z a.reverse b.reverse
  rw [ed_rev] at h1 h2
  have h3 := (ed_low _ a b (Nat.le_refl _)).2.2.2
  have h4 := (ed_low _ (a ++ [z]) b (Nat.le_refl _)).2.2.2
  rw [List.length_append] at h4
  simp only [List.length_cons, List.length_nil] at h4
  omega

/-- How many are kept. -/
theorem way_count : ∀ (n : Nat) (a b : List Int), a.length + b.length ≤ n → ed a b + 2 * (way a b).count 1 = a.length + b.length
  | _, [], [], _ => by simp [way, ed_nil1]
  | 0, [], y :: b, h => by simp at h
  | 0, x :: a, _, h => by simp at h
  | n + 1, [], y :: b, h => by
    have := way_count n [] b (by simp at h ⊢; omega)
    rw [way, ed_nil1] at *
    rw [List.count_cons_of_ne (by decide)]
    simp at this ⊢; omega
  | n + 1, x :: a, [], h => by
    have := way_count n a [] (by simp at h ⊢; omega)
    rw [way, ed_nil2] at *
    rw [List.count_cons_of_ne (by decide)]
    simp at this ⊢; omega
  | n + 1, x :: a, y :: b, h => by
    simp only [List.length_cons] at h
    by_cases e : x = y
    · subst e
      have := way_count n a b (by omega)
      rw [way, if_pos rfl, ed_eq, List.count_cons_self]
      simp only [List.length_cons]; omega
    · have h1 := way_count n a (y :: b) (by simp; omega)
      have h2 := way_count n (x :: a) b (by simp; omega)
      have h3 := ed_ne e a b
      rw [way, if_neg e]
      simp only [List.length_cons] at h1 h2 ⊢
      split
      · rw [List.count_cons_of_ne (by decide)]; omega
      · rw [List.count_cons_of_ne (by decide)]
        omega
theorem prs_told_length : ∀ (s : List Int) (i j : Nat), (prs (told i j s)).length = s.count 1
  | [], _, _ => rfl
  | t :: r, i, j => by
    have ih := prs_told_length r (if t = 3 then i else i + 1) (if t = 2 then j else j + 1)
    unfold prs at ih ⊢
    rw [told, List.length_map] at *
    by_cases h : t = 1
    · subst h; rw [List.count_cons_self, List.filter_cons_of_pos (by simp), List.length_cons, ih]
    · rw [List.count_cons_of_ne h, List.filter_cons_of_neg (by simpa using h), ih]
theorem pairs_length (a b : List Int) : ed a b + 2 * (pairs a b).length = a.length + b.length := by
  unfold pairs
  rw [prs_told_length]
  exact way_count _ a b (Nat.le_refl _)
theorem pairs_turn (a b : List Int) : (pairs a b).length = (pairs b a).length := by
  have h1 := pairs_length a b
  have h2 := pairs_length b a
  rw [ed_symm b a] at h2
  omega
/-- What is told of what is kept: places of both that hold the same, which rise. -/
def Good (a b : List Int) (i j : Nat) (l : List (Int × Int)) : Prop :=
  (∀ k (h : k < l.length), ∃ p q : Nat, l[k] = ((p : Int), (q : Int)) ∧ i ≤ p ∧ j ≤ q ∧ ∃ (hp : p < a.length) (hq : q < b.length), a[p] = b[q]) ∧
  (∀ k (h : k + 1 < l.length), (l[k]'(by omega)).1 < l[k + 1].1 ∧ (l[k]'(by omega)).2 < l[k + 1].2)
theorem Good.nil (a b : List Int) (i j : Nat) : Good a b i j [] := ⟨fun _ h => by simp at h, fun _ h => by simp at h⟩
theorem Good.more {a b : List Int} {i j i' j' : Nat} {l : List (Int × Int)} (h : Good a b i j l) (h1 : i' ≤ i) (h2 : j' ≤ j) : Good a b i' j' l :=
  ⟨fun k hk => by obtain ⟨p, q, e, e1, e2, e3⟩ := h.1 k hk; exact ⟨p, q, e, by omega, by omega, e3⟩, h.2⟩
theorem Good.cons {a b : List Int} {i j : Nat} {l : List (Int × Int)} (h : Good a b (i + 1) (j + 1) l) (hi : i < a.length) (hj : j < b.length) (e : a[i] = b[j]) : Good a b i j (((i : Int), (j : Int)) :: l) := by
  refine ⟨fun k hk => ?_, fun k hk => ?_⟩
  · cases k with
    | zero => exact ⟨i, j, rfl, Nat.le_refl _, Nat.le_refl _, hi, hj, e⟩
    | succ k =>
      obtain ⟨p, q, e', e1, e2, e3⟩ := h.1 k (by simpa using hk)
      exact ⟨p, q, by simpa using e', by omega, by omega, e3⟩
  · cases k with
    | zero =>
      obtain ⟨p, q, e', e1, e2, e3⟩ := h.1 0 (by simpa using hk)
      simp only [List.getElem_cons_zero, List.getElem_cons_succ, e']
      omega
    | succ k =>
      have := h.2 k (by simpa using hk)
      simpa using this
theorem told_good (a b : List Int) : ∀ (n i j : Nat), (a.length - i) + (b.length - j) ≤ n → Good a b i j (prs (told i j (Wy a b i j)))
  | n, i, j, hn => by
    by_cases hk : kept a b i j = true
    · obtain ⟨hi, hj, e⟩ := kept_yes hk
      match n, hn with
      | 0, hn => omega
      | n + 1, hn =>
        have ih := told_good a b n (i + 1) (j + 1) (by omega)
        rw [(Wy_kept hk).1, told]
        have : prs (((1 : Int), i, j) :: told (if (1 : Int) = 3 then i else i + 1) (if (1 : Int) = 2 then j else j + 1) (Wy a b (i + 1) (j + 1))) = ((i : Int), (j : Int)) :: prs (told (i + 1) (j + 1) (Wy a b (i + 1) (j + 1))) := by
          rw [if_neg (by decide), if_neg (by decide)]; unfold prs; rw [List.filter_cons_of_pos (by simp)]; rfl
        rw [this]
        exact ih.cons hi hj e
    · have hk : kept a b i j = false := by simpa using hk
      by_cases hg : i < a.length ∨ j < b.length
      · by_cases ho : outs a b i j = true
        · have hi := (of_decide_eq_true ho).1
          match n, hn with
          | 0, hn => omega
          | n + 1, hn =>
            have ih := told_good a b n (i + 1) j (by omega)
            rw [(Wy_out hk ho).1, told, if_neg (by decide), if_pos rfl]
            have : prs (((2 : Int), i, j) :: told (i + 1) j (Wy a b (i + 1) j)) = prs (told (i + 1) j (Wy a b (i + 1) j)) := by
              unfold prs; rw [List.filter_cons_of_neg (by simp)]
            rw [this]
            exact ih.more (by omega) (Nat.le_refl _)
        · have ho : outs a b i j = false := by simpa using ho
          have hj := in_ends ho hg
          match n, hn with
          | 0, hn => omega
          | n + 1, hn =>
            have ih := told_good a b n i (j + 1) (by omega)
            rw [(Wy_in hk ho hj).1, told, if_pos rfl, if_neg (by decide)]
            have : prs (((3 : Int), i, j) :: told i (j + 1) (Wy a b i (j + 1))) = prs (told i (j + 1) (Wy a b i (j + 1))) := by
              unfold prs; rw [List.filter_cons_of_neg (by simp)]
            rw [this]
            exact ih.more (Nat.le_refl _) (by omega)
      · rw [Wy_end (by omega) (by omega)]; exact Good.nil _ _ _ _
theorem pairs_good (a b : List Int) : Good a b 0 0 (pairs a b) := by
  have := told_good a b _ 0 0 (Nat.le_refl _)
  exact this

/-- A row of both that is found greedily is no longer than what is kept: the beginnings. -/
def Cm (a b : List Int) (p q n : Nat) : Prop := p ≤ a.length ∧ q ≤ b.length ∧ n ≤ p ∧ n ≤ q ∧ P (a.take p) (b.take q) (p + q - 2 * n)
theorem Cm.start (a b : List Int) : Cm a b 0 0 0 := ⟨Nat.zero_le _, Nat.zero_le _, Nat.le_refl _, Nat.le_refl _, .nil⟩
theorem take_more (a : List Int) {p k : Nat} (h : p ≤ k) : a.take k = a.take p ++ (a.drop p).take (k - p) := by
  have := (List.take_append_drop p (a.take k)).symm
  rw [List.take_take, Nat.min_eq_left h, List.drop_take] at this
  exact this
theorem Cm.next {a b : List Int} {p q n k j : Nat} (h : Cm a b p q n) (hk : p ≤ k) (hj : q ≤ j) (hka : k < a.length) (hjb : j < b.length) (e : b[j] = a[k]) : Cm a b (k + 1) (j + 1) (n + 1) := by
  obtain ⟨h1, h2, h3, h4, h5⟩ := h
  refine ⟨by omega, by omega, by omega, by omega, ?_⟩
  have g := ((h5.outEnds ((a.drop p).take (k - p))).putEnds ((b.drop q).take (j - q))).keepEnd a[k]
  rw [← take_more a hk, ← take_more b hj, ← List.take_succ_eq_append_getElem hka, ← e, ← List.take_succ_eq_append_getElem hjb] at g
  have hl1 : ((a.drop p).take (k - p)).length = k - p := by rw [List.length_take, List.length_drop]; omega
  have hl2 : ((b.drop q).take (j - q)).length = j - q := by rw [List.length_take, List.length_drop]; omega
  rw [hl1, hl2] at g
  rw [show k + 1 + (j + 1) - 2 * (n + 1) = p + q - 2 * n + (k - p) + (j - q) by omega]
  exact g
theorem Cm.most {a b : List Int} {p q n : Nat} (h : Cm a b p q n) : n ≤ (pairs a b).length := by
  obtain ⟨h1, h2, h3, h4, h5⟩ := h
  have g := (h5.outEnds (a.drop p)).putEnds (b.drop q)
  rw [List.take_append_drop, List.take_append_drop] at g
  have := g.le
  have hp := pairs_length a b
  rw [List.length_drop, List.length_drop] at this
  omega
/-- The next step of the way. -/
theorem Wy_next {a b : List Int} {i j : Nat} {s : Int} {r : List Int} (h : Wy a b i j = s :: r) :
    (s = 1 ∧ r = Wy a b (i + 1) (j + 1) ∧ ∃ (hi : i < a.length) (hj : j < b.length), a[i] = b[j]) ∨ (s = 2 ∧ r = Wy a b (i + 1) j ∧ i < a.length) ∨ (s = 3 ∧ r = Wy a b i (j + 1) ∧ j < b.length) := by
  by_cases hk : kept a b i j = true
  · rw [(Wy_kept hk).1] at h
    injection h with h1 h2
    exact .inl ⟨h1.symm, h2.symm, kept_yes hk⟩
  · have hk : kept a b i j = false := by simpa using hk
    by_cases hg : i < a.length ∨ j < b.length
    · by_cases ho : outs a b i j = true
      · rw [(Wy_out hk ho).1] at h
        injection h with h1 h2
        exact .inr (.inl ⟨h1.symm, h2.symm, (of_decide_eq_true ho).1⟩)
      · have ho : outs a b i j = false := by simpa using ho
        have hj := in_ends ho hg
        rw [(Wy_in hk ho hj).1] at h
        injection h with h1 h2
        exact .inr (.inr ⟨h1.symm, h2.symm, hj⟩)
    · rw [Wy_end (by omega) (by omega)] at h
      cases h
theorem Wy_nil {a b : List Int} {i j : Nat} (h : Wy a b i j = []) : a.length ≤ i ∧ b.length ≤ j := by
  by_cases hg : i < a.length ∨ j < b.length
  · exfalso
    by_cases hk : kept a b i j = true
    · rw [(Wy_kept hk).1] at h; cases h
    · have hk : kept a b i j = false := by simpa using hk
      by_cases ho : outs a b i j = true
      · rw [(Wy_out hk ho).1] at h; cases h
      · have ho : outs a b i j = false := by simpa using ho
        rw [(Wy_in hk ho (in_ends ho hg)).1] at h; cases h
  · omega
end Go.Proofs.YtfndiggpnkjacaaDoor.M
