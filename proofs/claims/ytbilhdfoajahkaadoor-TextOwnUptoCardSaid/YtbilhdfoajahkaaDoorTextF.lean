/-
  The contract of text.Join: a new row of bytes, those of the lines.
-/
import Derived.Test.YtbilhdfoajahkaaDoorTextE
namespace Go.Proofs.YtbilhdfoajahkaaDoor.T
open Go.RowKit

def byteCells (l : List UInt8) : List Value := l.map fun c => .int .u8 (c.toNat : Int)
theorem byteCells_append (l r : List UInt8) : byteCells (l ++ r) = byteCells l ++ byteCells r := by simp [byteCells]
theorem byteCells_str (t : List UInt8) : Lib.strCells ⟨t.toArray⟩ = byteCells t := by simp [Lib.strCells, byteCells]
theorem infoByte : (Tryd.prog.info? 5).map (fun i => (i.zero, i.size, i.bytes)) = some (some (.int .u8 0), 1, 1) := by kernel_rfl
theorem own_lt {w : World} {base : Nat} {e : TypeId} {size n : Nat} {v : Value} {xs : List Value} (h : w.ownsRow base e size v n xs) : ∀ k, v.ownBlock = some k → k < w.heap.size := by
  intro k hk
  rcases h.2 with ⟨rfl, _⟩ | ⟨g, cap, cur, rfl, hg, hh, _⟩
  · simp [Value.ownBlock] at hk
  · simp [Value.ownBlock] at hk
    subst hk
    rcases Nat.lt_or_ge g w.heap.size with hlt | hge
    · exact hlt
    · rw [Array.getElem?_eq_none hge] at hh; cases hh
theorem box_kept {wr w1 : World} {base : Nat} {e : TypeId} {size n : Nat} {v : Value} {xs : List Value} {a b : Value} {T : TypeId} (h : wr.ownsRow base e size v n xs) (hg : (wr.alloc (.cells #[a, b] T)).grownBy w1 v.ownBlock) :
    w1.cell? ⟨wr.heap.size, 0, none⟩ = some a ∧ w1.cell? ⟨wr.heap.size, 1, none⟩ = some b := by
  have hne : some wr.heap.size ≠ v.ownBlock := fun he => by have := own_lt h _ he.symm; omega
  have hb := heap_alloc_new wr (.cells #[a, b] T)
  exact ⟨hg.cell (a := ⟨wr.heap.size, 0, none⟩) (cell_of_row _ _ 0 _ _ _ hb) hne, hg.cell (a := ⟨wr.heap.size, 1, none⟩) (cell_of_row _ _ 1 _ _ _ hb) hne⟩
theorem join_step {xs : List (List UInt8 × Bool)} {k : Nat} (hk : k < xs.length) : P.join (xs.drop k) = xs[k].1 ++ (if !xs[k].2 || decide (k + 1 < xs.length) then [10] else []) ++ P.join (xs.drop (k + 1)) := by
  rw [drop_line hk, P.join]
  congr 3
  cases h : (xs.drop (k + 1)).isEmpty with
  | true =>
    have := List.isEmpty_iff.1 h
    have := congrArg List.length this
    simp at this
    rw [decide_eq_false (by omega)]; rfl
  | false =>
    rw [decide_eq_true]; rfl
    have : ¬ xs.drop (k + 1) = [] := fun e => by rw [e] at h; cases h
    rcases Nat.lt_or_ge (k + 1) xs.length with h' | h'
    · exact h'
    · exact absurd (List.drop_eq_nil_of_le h') this

set_option maxHeartbeats 1000000 in
set_option maxRecDepth 100000 in
theorem join_any (A : Option Addr) (cap : Nat) (xs : List (List UInt8 × Bool)) (w : World) (hb : P.bulk xs ≤ 4194304) (hA : LinesIn w A xs) :
    Calls Tryd.prog 19 #[.slice A xs.length cap] w fun e w' => ∃ v, e = .returned v ∧ w'.ownsRow w.heap.size 5 1 v (P.join xs).length (byteCells (P.join xs)) ∧ Below w.heap.size w w' := by
  obtain ⟨i0, hi0, hz0, hz1, hz2⟩ := info_parts infoByte
  have hlen := P.length_bulk xs
  have hjl := P.join_length xs
  have HA := Lib.hid hA
  clear hA
  go_enter Tryd.func19, Tryd.ntmps19
  go_wp2_with fail
  go_loopg [3, 8] xs.length (fun n v i wr => ∃ (k : Nat) (pre : List UInt8), k ≤ xs.length ∧ i = .int .i64 k ∧ xs.length - k ≤ n ∧ wr.ownsRow w.heap.size 5 1 v pre.length (byteCells pre) ∧ Hid (P.join xs = pre ++ P.join (xs.drop k)) ∧ Below w.heap.size w wr)
  case atStart => exact ⟨0, [], Nat.zero_le _, rfl, by omega, ⟨by simp [byteCells], .inl ⟨rfl, rfl⟩⟩, Lib.hid rfl, Below.refl _ _⟩
  case round =>
    obtain ⟨k, pre, hk, rfl, hn, hown, HR, hbel⟩ := hrel
    by_cases hlt : k < xs.length
    · obtain ⟨bk, off, hAe, hbk, hL⟩ := HA.out (by omega)
      subst hAe
      obtain ⟨c0, c1⟩ := hL.below hbel hbk k hlt
      have hbkr : bk < wr.heap.size := Nat.lt_of_lt_of_le hbk hbel.size
      have h0k : (0 : Int) ≤ (k : Int) := Int.natCast_nonneg _
      have h1k : (k : Int) < (xs.length : Int) := by omega
      have HS := Lib.hid (HR.out.trans (congrArg (pre ++ ·) (join_step hlt)))
      have hpl : pre.length + xs[k].1.length + 1 ≤ 4194305 := by
        have h1 := congrArg List.length HS.out
        simp only [List.length_append] at h1
        omega
      clear hL HR
      generalize xs[k].2 = b at *
      generalize xs[k].1 = t at *
      have hsz : (⟨t.toArray⟩ : ByteArray).size = t.length := by simp [ByteArray.size]
      have hw : IntKind.i64.wrap ((xs.length : Int) - 1) = (xs.length : Int) - 1 := IntWalk.i64_in _ (by omega)
      have hbel1 := hbel.alloc hbel.size (.cells #[.string ⟨t.toArray⟩, .bool b] 59)
      cases b with
      | false =>
        have HS := Lib.hid (show P.join xs = pre ++ (t ++ [10] ++ P.join (xs.drop (k + 1))) from HS.out)
        go_wp2_with (at_builtin; refine Lib.wpList_append_own_string _ rfl (.tmp 13) (.tmp 15) 22 9 rfl w.heap.size 5 i0 Tryd.underlying22 Tryd.underlying9 hi0 hz0 hz1 hz2 _ pre.length (byteCells pre) rfl (hown.alloc _) ⟨t.toArray⟩ rfl ?c3 ?c4 ?c5 ?_)
        case c3 => (try simp only [hsz]); simp only [maxLen]; omega
        case c4 => (try simp only [hsz]); omega
        case c5 => have := hbel.size; simp; omega
        intro v' w1 hown1 hg1 _
        have hbel2 : Below w.heap.size w w1 := hbel1.grown hg1 (by have := hbel.size; simp; omega) (own_base hown)
        obtain ⟨q0, q1⟩ := box_kept hown hg1
        try simp only [hsz] at hown1
        rw [byteCells_str, ← byteCells_append, ← List.length_append] at hown1
        clear hown hg1 c0 c1 hsz
        go_wp2_with (at_builtin; refine wpList_append_own _ rfl (.tmp 27) (.tmp 28) 22 rfl w.heap.size 5 i0 _ 1 1 Tryd.underlying22 hi0 hz0 hz1 hz2 rfl (by decide) _ (pre ++ t).length (byteCells (pre ++ t)) rfl (hown1.alloc _) ⟨w1.heap.size, 0, none⟩ 1 1 [.int .u8 10] rfl rfl ?d1 ?d2 ?d3 ?d4 ?d5 ?_)
        case d1 => exact cell_one_new _ _ _
        case d2 => intro u hu; simp at hu; rcases hu with rfl; rfl
        case d3 => rw [List.length_append]; simp only [maxLen]; omega
        case d4 => rw [List.length_append]; omega
        case d5 => have := hbel2.size; simp; omega
        intro v'' w2 hown2 hg2 _
        have hbel3 : Below w.heap.size w w2 := (hbel2.alloc hbel2.size _).grown hg2 (by have := hbel2.size; simp; omega) (own_base hown1)
        have hown3 : w2.ownsRow w.heap.size 5 1 v'' (pre ++ t ++ [10]).length (byteCells (pre ++ t ++ [10])) := by
          have e : (pre ++ t ++ [10]).length = pre.length + t.length + 1 := by rw [List.length_append, List.length_append]; rfl
          rw [byteCells_append (pre ++ t), e]; exact hown2
        clear hown1 hown2 hg2 q0 q1
        go_wp2_with fail
        go_roundg (xs.length - (k + 1))
        case measure => omega
        case rel => exact ⟨k + 1, pre ++ t ++ [10], by omega, by go_num, Nat.le_refl _, hown3, Lib.hid (HS.out.trans (by simp)), hbel3⟩
      | true =>
        by_cases hk1 : k + 1 < xs.length
        · have hk2 : (k : Int) < (xs.length : Int) - 1 := by omega
          have HS := Lib.hid (show P.join xs = pre ++ (t ++ [10] ++ P.join (xs.drop (k + 1))) by rw [HS.out, decide_eq_true hk1]; rfl)
          go_wp2_with (at_builtin; refine Lib.wpList_append_own_string _ rfl (.tmp 13) (.tmp 15) 22 9 rfl w.heap.size 5 i0 Tryd.underlying22 Tryd.underlying9 hi0 hz0 hz1 hz2 _ pre.length (byteCells pre) rfl (hown.alloc _) ⟨t.toArray⟩ rfl ?c3 ?c4 ?c5 ?_)
          case c3 => (try simp only [hsz]); simp only [maxLen]; omega
          case c4 => (try simp only [hsz]); omega
          case c5 => have := hbel.size; simp; omega
          intro v' w1 hown1 hg1 _
          have hbel2 : Below w.heap.size w w1 := hbel1.grown hg1 (by have := hbel.size; simp; omega) (own_base hown)
          obtain ⟨q0, q1⟩ := box_kept hown hg1
          try simp only [hsz] at hown1
          rw [byteCells_str, ← byteCells_append, ← List.length_append] at hown1
          clear hown hg1 c0 c1 hsz
          go_wp2_with (at_builtin; refine wpList_append_own _ rfl (.tmp 27) (.tmp 28) 22 rfl w.heap.size 5 i0 _ 1 1 Tryd.underlying22 hi0 hz0 hz1 hz2 rfl (by decide) _ (pre ++ t).length (byteCells (pre ++ t)) rfl (hown1.alloc _) ⟨w1.heap.size, 0, none⟩ 1 1 [.int .u8 10] rfl rfl ?d1 ?d2 ?d3 ?d4 ?d5 ?_)
          case d1 => exact cell_one_new _ _ _
          case d2 => intro u hu; simp at hu; rcases hu with rfl; rfl
          case d3 => rw [List.length_append]; simp only [maxLen]; omega
          case d4 => rw [List.length_append]; omega
          case d5 => have := hbel2.size; simp; omega
          intro v'' w2 hown2 hg2 _
          have hbel3 : Below w.heap.size w w2 := (hbel2.alloc hbel2.size _).grown hg2 (by have := hbel2.size; simp; omega) (own_base hown1)
          have hown3 : w2.ownsRow w.heap.size 5 1 v'' (pre ++ t ++ [10]).length (byteCells (pre ++ t ++ [10])) := by
            have e : (pre ++ t ++ [10]).length = pre.length + t.length + 1 := by rw [List.length_append, List.length_append]; rfl
            rw [byteCells_append (pre ++ t), e]; exact hown2
          clear hown1 hown2 hg2 q0 q1
          go_wp2_with fail
          go_roundg (xs.length - (k + 1))
          case measure => omega
          case rel => exact ⟨k + 1, pre ++ t ++ [10], by omega, by go_num, Nat.le_refl _, hown3, Lib.hid (HS.out.trans (by simp)), hbel3⟩
        · have hk2 : ¬ (k : Int) < (xs.length : Int) - 1 := by omega
          have HS := Lib.hid (show P.join xs = pre ++ (t ++ [] ++ P.join (xs.drop (k + 1))) by rw [HS.out, decide_eq_false hk1]; rfl)
          go_wp2_with (at_builtin; refine Lib.wpList_append_own_string _ rfl (.tmp 13) (.tmp 15) 22 9 rfl w.heap.size 5 i0 Tryd.underlying22 Tryd.underlying9 hi0 hz0 hz1 hz2 _ pre.length (byteCells pre) rfl (hown.alloc _) ⟨t.toArray⟩ rfl ?c3 ?c4 ?c5 ?_)
          case c3 => (try simp only [hsz]); simp only [maxLen]; omega
          case c4 => (try simp only [hsz]); omega
          case c5 => have := hbel.size; simp; omega
          intro v' w1 hown1 hg1 _
          have hbel2 : Below w.heap.size w w1 := hbel1.grown hg1 (by have := hbel.size; simp; omega) (own_base hown)
          obtain ⟨q0, q1⟩ := box_kept hown hg1
          try simp only [hsz] at hown1
          rw [byteCells_str, ← byteCells_append, ← List.length_append] at hown1
          clear hown hg1 c0 c1 hsz
          go_wp2_with fail
          clear q0 q1
          go_roundg (xs.length - (k + 1))
          case measure => omega
          case rel => exact ⟨k + 1, pre ++ t, by omega, by go_num, Nat.le_refl _, hown1, Lib.hid (HS.out.trans (by simp)), hbel2⟩
    · obtain rfl : k = xs.length := by omega
      have HN := Lib.hid (HR.out.trans (by rw [List.drop_length, P.join, List.append_nil] : _ = pre))
      go_wp2_with fail
      go_ret
      exact ⟨_, rfl, by rw [HN.out]; exact hown, hbel⟩
end Go.Proofs.YtbilhdfoajahkaaDoor.T
