/-
  Plain facts of a policy's floors: a longer name's floor lies above, and what fits stays fitting.
-/
import Derived.Test.YtadhhamfikpimaaDoorGi
namespace Go.Proofs.YtadhhamfikpimaaDoor.O
set_option linter.unusedVariables false
set_option linter.unusedSimpArgs false

theorem or_same (a : Nat) : a ||| a = a := Nat.or_self a
theorem floorOn_mono (nm more : List UInt8) : ∀ (fs : List Flr) (a b : Int × Nat), a.1 ≤ b.1 → a.2 ||| b.2 = b.2 → (floorOn nm a fs).1 ≤ (floorOn (nm ++ more) b fs).1 ∧ (floorOn nm a fs).2 ||| (floorOn (nm ++ more) b fs).2 = (floorOn (nm ++ more) b fs).2
  | [], a, b, h1, h2 => ⟨h1, h2⟩
  | f :: r, a, b, h1, h2 => by
    rw [floorOn, floorOn]
    apply floorOn_mono nm more r
    · split
      · rename_i hp
        rw [if_pos (hp.trans (List.prefix_append nm more))]
        show max a.1 f.lv ≤ max b.1 f.lv
        omega
      · split
        · show a.1 ≤ max b.1 f.lv
          omega
        · exact h1
    · split
      · rename_i hp
        rw [if_pos (hp.trans (List.prefix_append nm more))]
        show (a.2 ||| f.ct) ||| (b.2 ||| f.ct) = b.2 ||| f.ct
        rw [Nat.or_assoc, ← Nat.or_assoc f.ct b.2, Nat.or_comm f.ct b.2, Nat.or_assoc, Nat.or_self, ← Nat.or_assoc, h2]
      · split
        · show a.2 ||| (b.2 ||| f.ct) = b.2 ||| f.ct
          rw [← Nat.or_assoc, h2]
        · exact h2
theorem floor_below (nm more : List UInt8) (fs : List Flr) : L.belowB (floorOn nm (0, 0) fs).1 (floorOn nm (0, 0) fs).2 (floorOn (nm ++ more) (0, 0) fs).1 (floorOn (nm ++ more) (0, 0) fs).2 = true := by
  obtain ⟨h1, h2⟩ := floorOn_mono nm more fs (0, 0) (0, 0) (Int.le_refl _) rfl
  unfold L.belowB
  rw [Bool.and_eq_true]
  exact ⟨decide_eq_true h1, by rw [h2]; exact beq_self_eq_true _⟩
theorem fits_iff {L C l : Int} {k : Nat} : fitsB L C l k = true ↔ 0 ≤ l ∧ l < L ∧ 0 ≤ C ∧ k < 2 ^ C.toNat := by
  unfold fitsB
  simp only [Bool.and_eq_true, decide_eq_true_eq]
  constructor
  · rintro ⟨⟨⟨h1, h2⟩, h3⟩, h4⟩; exact ⟨h1, h2, h3, h4⟩
  · rintro ⟨h1, h2, h3, h4⟩; exact ⟨⟨⟨h1, h2⟩, h3⟩, h4⟩
theorem fits_join {L C l m : Int} {k d : Nat} (h : fitsB L C l k = true) (h' : fitsB L C m d = true) : fitsB L C (max l m) (k ||| d) = true := by
  rw [fits_iff] at h h' ⊢
  exact ⟨by omega, by omega, h.2.2.1, Nat.or_lt_two_pow h.2.2.2 h'.2.2.2⟩
theorem fits_meet {L C l m : Int} {k d : Nat} (h : fitsB L C l k = true) (h' : fitsB L C m d = true) : fitsB L C (min l m) (k &&& d) = true := by
  rw [fits_iff] at h h' ⊢
  exact ⟨by omega, by omega, h.2.2.1, Nat.lt_of_le_of_lt Nat.and_le_left h.2.2.2⟩
theorem floorOn_fits {L C : Int} (nm : List UInt8) : ∀ (fs : List Flr) (a : Int × Nat), (∀ f ∈ fs, fitsB L C f.lv f.ct = true) → fitsB L C a.1 a.2 = true → fitsB L C (floorOn nm a fs).1 (floorOn nm a fs).2 = true
  | [], a, _, h => h
  | f :: r, a, hf, h => by
    rw [floorOn]
    apply floorOn_fits nm r _ (fun g hg => hf g (List.mem_cons_of_mem _ hg))
    split
    · exact fits_join h (hf f List.mem_cons_self)
    · exact h
theorem seen_fits {L C : Int} : ∀ (xs : List (List UInt8 × Int × Nat)) (seen : List (List UInt8)), seenOk L C seen xs = true → ∀ x ∈ xs, fitsB L C x.2.1 x.2.2 = true
  | [], _, _, x, hx => by cases hx
  | y :: r, seen, h, x, hx => by
    rw [seenOk] at h
    simp only [Bool.and_eq_true] at h
    rcases List.mem_cons.1 hx with rfl | hx
    · exact h.1.2
    · exact seen_fits r _ h.2 x hx
theorem floorOn_small (nm : List UInt8) : ∀ (fs : List Flr) (a : Int × Nat), (∀ f ∈ fs, f.ct < 18446744073709551616) → a.2 < 18446744073709551616 → (floorOn nm a fs).2 < 18446744073709551616
  | [], _, _, h => h
  | f :: r, a, hf, h => by
    rw [floorOn]
    apply floorOn_small nm r _ (fun g hg => hf g (List.mem_cons_of_mem _ hg))
    split
    · exact Nat.or_lt_two_pow (n := 64) h (hf f List.mem_cons_self)
    · exact h
theorem ok_fits {n0 n1 n2 n3 n4 n5 : Int} {hid : List UInt8} {us : List Usr} {fs : List Flr} (h : polOk [n0, n1, n2, n3, n4, n5] hid us fs = true) (nm : List UInt8) : fitsB n0 n1 (floorOn nm (0, 0) fs).1 (floorOn nm (0, 0) fs).2 = true := by
  unfold polOk at h
  simp only [Bool.and_eq_true] at h
  obtain ⟨⟨⟨hn, _⟩, _⟩, hf⟩ := h
  unfold numsOk at hn
  rw [List.all_eq_true] at hn
  have h0 : inB 1 16 n0 = true := hn 0 (by decide)
  have h1 : inB 0 64 n1 = true := hn 1 (by decide)
  unfold inB at h0 h1
  simp only [Bool.and_eq_true, decide_eq_true_eq] at h0 h1
  have hfs : floorsOk n0 n1 fs = true := hf
  unfold floorsOk at hfs
  simp only [Bool.and_eq_true] at hfs
  refine floorOn_fits nm fs (0, 0) (fun f hfm => ?_) (fits_iff.2 ⟨Int.le_refl _, by show 0 < n0; omega, h1.1, Nat.two_pow_pos _⟩)
  exact seen_fits _ _ hfs.2 (f.pre, f.lv, f.ct) (List.mem_map.2 ⟨f, hfm, rfl⟩)
end Go.Proofs.YtadhhamfikpimaaDoor.O
