/-
  The contract of the reference's Parse for labels: for every text of at most 2^22 bytes.
-/
import Derived.Test.YtbilhdfoajahkaaDoorRefP
import Derived.Test.YtbilhdfoajahkaaDoorRefA
import Derived.Test.YtbilhdfoajahkaaDoorRefW
namespace Go.Proofs.YtbilhdfoajahkaaDoor.L
open Go.RowKit
open T

section
variable {s : ByteArray} {k : Nat}
theorem drop_at (hk : k < s.size) : s.data.toList.drop k = s[k] :: s.data.toList.drop (k + 1) := by
  have hl : k < s.data.toList.length := by rw [← Lib.size_eq]; exact hk
  rw [List.drop_eq_getElem_cons hl, byte s k hk hl]
theorem drop_end : s.data.toList.drop s.size = [] := by rw [Lib.size_eq, List.drop_length]
theorem u8_ne {x y : UInt8} (h : ¬ (x.toNat : Int) = (y.toNat : Int)) : x ≠ y := fun e => h (by rw [e])
variable {lv : Bool} {L C : Nat} {la : Int} {nw : List UInt8}
theorem ref_on (hk : k < s.size) (h1 : ¬ (s[k].toNat : Int) = 58) (h2 : ¬ (s[k].toNat : Int) = 44) : refP lv L C la nw (s.data.toList.drop k) = refP lv L C la (nw ++ [s[k]]) (s.data.toList.drop (k + 1)) := by
  rw [drop_at hk, refP, if_pos ⟨u8_ne (y := 58) h1, u8_ne (y := 44) h2⟩]
theorem sep (hk : k < s.size) (h : (s[k].toNat : Int) = 58 ∨ (s[k].toNat : Int) = 44) : ¬ (s[k] ≠ 58 ∧ s[k] ≠ 44) := fun e => by
  rcases h with h | h
  · exact e.1 (UInt8.toNat_inj.1 (show s[k].toNat = 58 by omega))
  · exact e.2 (UInt8.toNat_inj.1 (show s[k].toNat = 44 by omega))
theorem ref_nan (hk : k < s.size) (h : (s[k].toNat : Int) = 58 ∨ (s[k].toNat : Int) = 44) (hn : P.number nw = none) : refP lv L C la nw (s.data.toList.drop k) = none := by
  rw [drop_at hk, refP, if_neg (sep hk h), hn]; rfl
theorem ref_nan_end (hn : P.number nw = none) : refP lv L C la nw (s.data.toList.drop s.size) = none := by
  rw [drop_end, refP, hn]; rfl
theorem is58 (hk : k < s.size) (h : (s[k].toNat : Int) = 58) : (s[k] == 58) = true := by
  rw [beq_iff_eq]; exact UInt8.toNat_inj.1 (show s[k].toNat = 58 by omega)
theorem not58 (hk : k < s.size) (h : (s[k].toNat : Int) = 44) : (s[k] == 58) = false := by
  rw [beq_eq_false_iff_ne]; exact u8_ne (y := 58) (by show ¬ (s[k].toNat : Int) = 58; omega)
theorem ref_mis58 (hk : k < s.size) (h : (s[k].toNat : Int) = 58) {n : Nat} (hn : P.number nw = some n) : refP false L C la nw (s.data.toList.drop k) = none := by
  rw [drop_at hk, refP, if_neg (sep hk (.inl h)), hn, Option.bind_some, is58 hk h]; rfl
theorem ref_mis44 (hk : k < s.size) (h : (s[k].toNat : Int) = 44) {n : Nat} (hn : P.number nw = some n) : refP true L C la nw (s.data.toList.drop k) = none := by
  rw [drop_at hk, refP, if_neg (sep hk (.inr h)), hn, Option.bind_some, not58 hk h]; rfl
theorem ref_step58 (hk : k < s.size) (h : (s[k].toNat : Int) = 58) {n : Nat} (hn : P.number nw = some n) : refP true L C la nw (s.data.toList.drop k) = if refStep true la n then refP false n C la [] (s.data.toList.drop (k + 1)) else none := by
  rw [drop_at hk, refP, if_neg (sep hk (.inl h)), hn, Option.bind_some, is58 hk h]; rfl
theorem ref_step44 (hk : k < s.size) (h : (s[k].toNat : Int) = 44) {n : Nat} (hn : P.number nw = some n) : refP false L C la nw (s.data.toList.drop k) = if refStep false la n then refP false L (C + 2 ^ n) n [] (s.data.toList.drop (k + 1)) else none := by
  rw [drop_at hk, refP, if_neg (sep hk (.inr h)), hn, Option.bind_some, not58 hk h]; rfl
theorem ref_endT {n : Nat} (hn : P.number nw = some n) : refP true L C la nw (s.data.toList.drop s.size) = if refStep true la n then some (n, C) else none := by
  rw [drop_end, refP, hn]; rfl
theorem ref_endF {n : Nat} (hn : P.number nw = some n) : refP false L C la nw (s.data.toList.drop s.size) = if refStep false la n then some (L, C + 2 ^ n) else none := by
  rw [drop_end, refP, hn]; rfl
theorem stepT_yes {n : Nat} (h : n ≤ 15) : refStep true la n = true := by simp [refStep, h]
theorem stepT_no {n : Nat} (h : ¬ n ≤ 15) : refStep true la n = false := by simp [refStep]; omega
theorem stepF_yes {n : Nat} (h : n ≤ 63) (h' : la < (n : Int)) : refStep false la n = true := by simp [refStep, h, h']
theorem stepF_no1 {n : Nat} (h : ¬ n ≤ 63) : refStep false la n = false := by simp [refStep]; omega
theorem stepF_no2 {n : Nat} (h : ¬ la < (n : Int)) : refStep false la n = false := by simp [refStep]; omega
end
def RN (s : ByteArray) (v : Value) : Prop := ∀ w : World, Calls Tryd.prog 24 #[.string s] w fun e w' => e = .returned v ∧ w = w'
theorem RN.call {s : ByteArray} {v : Value} (h : RN s v) (w : World) : Calls Tryd.prog 24 #[.string s] w fun e w' => e = .returned v ∧ w = w' := h w
theorem rn_none {nw : List UInt8} (h : P.number nw = none) : RN ⟨nw.toArray⟩ (.tuple #[.int .i64 0, .bool false]) := fun w => by
  have := refNumber_any ⟨nw.toArray⟩ w
  rw [show (⟨nw.toArray⟩ : ByteArray).data.toList = nw by simp, h] at this
  exact this
theorem rn_some {nw : List UInt8} {n : Nat} (h : P.number nw = some n) : RN ⟨nw.toArray⟩ (.tuple #[.int .i64 (n : Int), .bool true]) := fun w => by
  have := refNumber_any ⟨nw.toArray⟩ w
  rw [show (⟨nw.toArray⟩ : ByteArray).data.toList = nw by simp, h] at this
  exact this

set_option maxHeartbeats 4000000 in
set_option maxRecDepth 100000 in
theorem refParse_any (s : ByteArray) (w : World) (hs : s.size ≤ 4194304) :
    Calls Tryd.prog 46 #[.string s] w fun e w' => e = .returned (parseVal (parse s.data.toList)) ∧ Below w.heap.size w w' := by
  have HPP := Lib.hid (refP_parse s.data.toList)
  go_enter Tryd.func46, Tryd.ntmps46
  go_wp2_with fail
  go_loopg [5, 6, 7, 8] (s.size + 1) (fun m la nw lv i wr => ∃ (k L C : Nat) (x : Int) (t : List UInt8) (b : Bool), k ≤ s.size + 1 ∧ i = .int .i64 k ∧ la = .int .i64 x ∧ nw = .string ⟨t.toArray⟩ ∧ lv = .bool b ∧ s.size + 1 - k ≤ m ∧ t.length ≤ k ∧ C < 18446744073709551616 ∧ Hid (∀ i, C.testBit i = true → (i : Int) ≤ x) ∧ Hid (k ≤ s.size → refP true 0 0 (-1) [] s.data.toList = refP b L C x t (s.data.toList.drop k)) ∧ Hid (k = s.size + 1 → refP true 0 0 (-1) [] s.data.toList = some (L, C)) ∧ Hid (wr.heap[w.heap.size]? = some (.cells #[.int .i64 0, .int .u64 0] 40 (0, 0))) ∧ Hid (wr.heap[w.heap.size + 1]? = some (.cells #[.int .i64 (L : Int), .int .u64 (C : Int)] 40 (0, 0))) ∧ Below w.heap.size w wr)
  case atStart =>
    have h2 := two_blocks w (.cells #[.int .i64 0, .int .u64 0] 40) (.cells #[.int .i64 0, .int .u64 0] 40)
    exact ⟨0, 0, 0, -1, [], true, Nat.zero_le _, rfl, rfl, rfl, rfl, by omega, by simp, by omega, Lib.hid (fun i hi => by simp at hi), Lib.hid (fun _ => rfl), Lib.hid (fun h => by omega), Lib.hid h2.1, Lib.hid h2.2, ((Below.refl _ _).alloc (Nat.le_refl _) _).alloc (by simp) _⟩
  case round =>
    obtain ⟨k, L, C, x, t, b, hk, rfl, rfl, rfl, rfl, hm, ht, hC, HB, HR, HE, HK0, HK1, hbel⟩ := hrel
    by_cases hend : s.size < k
    · obtain rfl : k = s.size + 1 := by omega
      have HZ := Lib.hid (HE.out rfl)
      have d0 := (res_cells HK0.out).1
      have d1 := (res_cells HK0.out).2
      have e0 := blk_free HK0.out 0
      have e1 := blk_free HK0.out 1
      have c0 := (res_cells HK1.out).1
      have c1 := (res_cells HK1.out).2
      go_wp2_with fail
      clear c0 c1
      have hfin := blk_set (blk_set HK0.out 0 (.int .i64 (L : Int))) 1 (.int .u64 (C : Int))
      have hbf := (hbel.setCell (p := ⟨w.heap.size, 0, none⟩) (Nat.le_refl _) (.int .i64 (L : Int))).setCell (p := ⟨w.heap.size, 1, none⟩) (Nat.le_refl _) (.int .u64 (C : Int))
      clear d0 d1 e0 e1
      generalize (wr.setCell ⟨w.heap.size, 0, none⟩ (.int .i64 (L : Int))).setCell ⟨w.heap.size, 1, none⟩ (.int .u64 (C : Int)) = wf at *
      have q0 : wf.cell? ⟨w.heap.size, 0, none⟩ = some (.int .i64 (L : Int)) := blk_cell hfin 0
      have q1 : wf.cell? ⟨w.heap.size, 1, none⟩ = some (.int .u64 (C : Int)) := blk_cell hfin 1
      exact bodyPost_ret (v := .tuple #[.agg #[.int .i64 (L : Int), .int .u64 (C : Int)], .bool true]) (by simp [results, Tryd.results46, go_sem, q0, q1]) rfl ⟨ret_of (by rw [← HPP.out, HZ.out]; rfl), hbf⟩
    have HR := Lib.hid (HR.out (by omega))
    clear HE
    by_cases hlt : k < s.size
    · by_cases h58 : (s[k].toNat : Int) = 58
      · have hb58 : ((s[k].toNat : Int) == 58) = true := by simp [h58]
        have hc58 : ((s[k].toNat : Int) != 58) = false := by simp [h58]
        cases hnum : P.number t with
        | none =>
          have HN := rn_none hnum
          have hq := ref_nan (lv := b) (L := L) (C := C) (la := x) hlt (.inl h58) hnum
          clear h58 hnum
          have HZ := Lib.hid (HR.out.trans hq)
          have d0 := (res_cells HK0.out).1
          have d1 := (res_cells HK0.out).2
          have e0 := blk_free HK0.out 0
          have e1 := blk_free HK0.out 1
          go_wp2_with fail
          with_reducible refine (HN.call _).mono ?_
          rintro e w1 ⟨rfl, rfl⟩
          go_wp2_with fail
          have hfin := blk_set (blk_set HK0.out 0 (.int .i64 0)) 1 (.int .u64 0)
          have hbf := (hbel.setCell (p := ⟨w.heap.size, 0, none⟩) (Nat.le_refl _) (.int .i64 0)).setCell (p := ⟨w.heap.size, 1, none⟩) (Nat.le_refl _) (.int .u64 0)
          clear d0 d1 e0 e1
          generalize (wr.setCell ⟨w.heap.size, 0, none⟩ (.int .i64 0)).setCell ⟨w.heap.size, 1, none⟩ (.int .u64 0) = wf at *
          have q0 : wf.cell? ⟨w.heap.size, 0, none⟩ = some (.int .i64 0) := blk_cell hfin 0
          have q1 : wf.cell? ⟨w.heap.size, 1, none⟩ = some (.int .u64 0) := blk_cell hfin 1
          exact bodyPost_ret (v := .tuple #[.agg #[.int .i64 0, .int .u64 0], .bool false]) (by simp [results, Tryd.results46, go_sem, q0, q1]) rfl ⟨ret_of (by rw [← HPP.out, HZ.out]; rfl), hbf⟩
        | some n =>
          have HN := rn_some hnum
          cases b with
          | false =>
            have hq := ref_mis58 (L := L) (C := C) (la := x) hlt h58 hnum
            clear h58 hnum
            have HZ := Lib.hid (HR.out.trans hq)
            have d0 := (res_cells HK0.out).1
            have d1 := (res_cells HK0.out).2
            have e0 := blk_free HK0.out 0
            have e1 := blk_free HK0.out 1
            go_wp2_with fail
            with_reducible refine (HN.call _).mono ?_
            rintro e w1 ⟨rfl, rfl⟩
            go_wp2_with fail
            have hfin := blk_set (blk_set HK0.out 0 (.int .i64 0)) 1 (.int .u64 0)
            have hbf := (hbel.setCell (p := ⟨w.heap.size, 0, none⟩) (Nat.le_refl _) (.int .i64 0)).setCell (p := ⟨w.heap.size, 1, none⟩) (Nat.le_refl _) (.int .u64 0)
            clear d0 d1 e0 e1
            generalize (wr.setCell ⟨w.heap.size, 0, none⟩ (.int .i64 0)).setCell ⟨w.heap.size, 1, none⟩ (.int .u64 0) = wf at *
            have q0 : wf.cell? ⟨w.heap.size, 0, none⟩ = some (.int .i64 0) := blk_cell hfin 0
            have q1 : wf.cell? ⟨w.heap.size, 1, none⟩ = some (.int .u64 0) := blk_cell hfin 1
            exact bodyPost_ret (v := .tuple #[.agg #[.int .i64 0, .int .u64 0], .bool false]) (by simp [results, Tryd.results46, go_sem, q0, q1]) rfl ⟨ret_of (by rw [← HPP.out, HZ.out]; rfl), hbf⟩
          | true =>
            have hq := ref_step58 (L := L) (C := C) (la := x) hlt h58 hnum
            clear h58 hnum
            by_cases hn : n ≤ 15
            · rw [stepT_yes hn, if_pos rfl] at hq
              have c0 := (res_cells HK1.out).1
              have c1 := (res_cells HK1.out).2
              have f0 := blk_free HK1.out 0
              go_wp2_with fail
              with_reducible refine (HN.call _).mono ?_
              rintro e w1 ⟨rfl, rfl⟩
              go_wp2_with fail
              go_roundg (s.size + 1 - (k + 1))
              case measure => omega
              case rel => exact ⟨k + 1, n, C, x, [], false, by omega, by go_num, rfl, rfl, rfl, Nat.le_refl _, by simp, hC, HB, Lib.hid (fun _ => HR.out.trans hq), Lib.hid (fun h => by omega), Lib.hid ((blk_far (g := w.heap.size) (g' := w.heap.size + 1) (by omega) _).trans HK0.out), Lib.hid (blk_set HK1.out 0 _), hbel.setCell (p := ⟨w.heap.size + 1, 0, none⟩) (Nat.le_succ _) _⟩
            · rw [stepT_no hn, if_neg (by decide)] at hq
              have HZ := Lib.hid (HR.out.trans hq)
              have d0 := (res_cells HK0.out).1
              have d1 := (res_cells HK0.out).2
              have e0 := blk_free HK0.out 0
              have e1 := blk_free HK0.out 1
              go_wp2_with fail
              with_reducible refine (HN.call _).mono ?_
              rintro e w1 ⟨rfl, rfl⟩
              go_wp2_with fail
              have hfin := blk_set (blk_set HK0.out 0 (.int .i64 0)) 1 (.int .u64 0)
              have hbf := (hbel.setCell (p := ⟨w.heap.size, 0, none⟩) (Nat.le_refl _) (.int .i64 0)).setCell (p := ⟨w.heap.size, 1, none⟩) (Nat.le_refl _) (.int .u64 0)
              clear d0 d1 e0 e1
              generalize (wr.setCell ⟨w.heap.size, 0, none⟩ (.int .i64 0)).setCell ⟨w.heap.size, 1, none⟩ (.int .u64 0) = wf at *
              have q0 : wf.cell? ⟨w.heap.size, 0, none⟩ = some (.int .i64 0) := blk_cell hfin 0
              have q1 : wf.cell? ⟨w.heap.size, 1, none⟩ = some (.int .u64 0) := blk_cell hfin 1
              exact bodyPost_ret (v := .tuple #[.agg #[.int .i64 0, .int .u64 0], .bool false]) (by simp [results, Tryd.results46, go_sem, q0, q1]) rfl ⟨ret_of (by rw [← HPP.out, HZ.out]; rfl), hbf⟩
      · have hb58 : ((s[k].toNat : Int) == 58) = false := by simp [h58]
        have hc58 : ((s[k].toNat : Int) != 58) = true := by simp [h58]
        by_cases h44 : (s[k].toNat : Int) = 44
        · have hb44 : ((s[k].toNat : Int) != 44) = false := by simp [h44]
          cases hnum : P.number t with
          | none =>
            have HN := rn_none hnum
            have hq := ref_nan (lv := b) (L := L) (C := C) (la := x) hlt (.inr h44) hnum
            clear h58 h44 hnum
            have HZ := Lib.hid (HR.out.trans hq)
            have d0 := (res_cells HK0.out).1
            have d1 := (res_cells HK0.out).2
            have e0 := blk_free HK0.out 0
            have e1 := blk_free HK0.out 1
            go_wp2_with fail
            with_reducible refine (HN.call _).mono ?_
            rintro e w1 ⟨rfl, rfl⟩
            go_wp2_with fail
            have hfin := blk_set (blk_set HK0.out 0 (.int .i64 0)) 1 (.int .u64 0)
            have hbf := (hbel.setCell (p := ⟨w.heap.size, 0, none⟩) (Nat.le_refl _) (.int .i64 0)).setCell (p := ⟨w.heap.size, 1, none⟩) (Nat.le_refl _) (.int .u64 0)
            clear d0 d1 e0 e1
            generalize (wr.setCell ⟨w.heap.size, 0, none⟩ (.int .i64 0)).setCell ⟨w.heap.size, 1, none⟩ (.int .u64 0) = wf at *
            have q0 : wf.cell? ⟨w.heap.size, 0, none⟩ = some (.int .i64 0) := blk_cell hfin 0
            have q1 : wf.cell? ⟨w.heap.size, 1, none⟩ = some (.int .u64 0) := blk_cell hfin 1
            exact bodyPost_ret (v := .tuple #[.agg #[.int .i64 0, .int .u64 0], .bool false]) (by simp [results, Tryd.results46, go_sem, q0, q1]) rfl ⟨ret_of (by rw [← HPP.out, HZ.out]; rfl), hbf⟩
          | some n =>
            have HN := rn_some hnum
            cases b with
            | true =>
              have hq := ref_mis44 (L := L) (C := C) (la := x) hlt h44 hnum
              clear h58 h44 hnum
              have HZ := Lib.hid (HR.out.trans hq)
              have d0 := (res_cells HK0.out).1
              have d1 := (res_cells HK0.out).2
              have e0 := blk_free HK0.out 0
              have e1 := blk_free HK0.out 1
              go_wp2_with fail
              with_reducible refine (HN.call _).mono ?_
              rintro e w1 ⟨rfl, rfl⟩
              go_wp2_with fail
              have hfin := blk_set (blk_set HK0.out 0 (.int .i64 0)) 1 (.int .u64 0)
              have hbf := (hbel.setCell (p := ⟨w.heap.size, 0, none⟩) (Nat.le_refl _) (.int .i64 0)).setCell (p := ⟨w.heap.size, 1, none⟩) (Nat.le_refl _) (.int .u64 0)
              clear d0 d1 e0 e1
              generalize (wr.setCell ⟨w.heap.size, 0, none⟩ (.int .i64 0)).setCell ⟨w.heap.size, 1, none⟩ (.int .u64 0) = wf at *
              have q0 : wf.cell? ⟨w.heap.size, 0, none⟩ = some (.int .i64 0) := blk_cell hfin 0
              have q1 : wf.cell? ⟨w.heap.size, 1, none⟩ = some (.int .u64 0) := blk_cell hfin 1
              exact bodyPost_ret (v := .tuple #[.agg #[.int .i64 0, .int .u64 0], .bool false]) (by simp [results, Tryd.results46, go_sem, q0, q1]) rfl ⟨ret_of (by rw [← HPP.out, HZ.out]; rfl), hbf⟩
            | false =>
              have hq := ref_step44 (L := L) (C := C) (la := x) hlt h44 hnum
              clear h58 h44 hnum
              by_cases hn : n ≤ 63
              · by_cases hla : x < (n : Int)
                · rw [stepF_yes hn hla, if_pos rfl] at hq
                  have HBit := Lib.hid (bits_or HB.out hla)
                  have hor := add_or HB.out hla
                  have hpb : 2 ^ n < 18446744073709551616 := Nat.pow_lt_pow_right (a := 2) (n := 64) (by omega) (by omega)
                  have hcy := or_small hC hpb
                  have hsh : IntKind.u64.wrap (2 ^ n) = ((2 ^ n : Nat) : Int) := by
                    rw [show (2 : Int) ^ n = ((2 ^ n : Nat) : Int) by simp]
                    generalize 2 ^ n = z at hpb
                    exact IntWalk.u64_in _ (by omega)
                  have hsum : IntKind.u64.wrap ((C : Int) + ((2 ^ n : Nat) : Int)) = ((C ||| 2 ^ n : Nat) : Int) := by
                    rw [← hor] at hcy ⊢
                    generalize 2 ^ n = z at hcy
                    rw [IntWalk.u64_in _ (by omega)]; omega
                  have HSt := Lib.hid (show k + 1 ≤ s.size → _ from fun _ => HR.out.trans hq)
                  have HEn := Lib.hid (show k + 1 = s.size + 1 → refP true 0 0 (-1) [] s.data.toList = some (L, C + 2 ^ n) from fun h => by omega)
                  rw [hor] at HSt HEn
                  clear hpb hor
                  generalize C ||| 2 ^ n = y at *
                  generalize 2 ^ n = q at *
                  have c1 := (res_cells HK1.out).2
                  have f1 := blk_free HK1.out 1
                  have hn0 : (0 : Int) ≤ (n : Int) := by omega
                  go_wp2_with fail
                  with_reducible refine (HN.call _).mono ?_
                  rintro e w1 ⟨rfl, rfl⟩
                  go_wp2_with fail
                  go_region
                  all_goals
                    go_wp2_with fail
                    go_roundg (s.size + 1 - (k + 1))
                    case measure => omega
                    case rel => exact ⟨k + 1, L, y, n, [], false, by omega, by go_num, rfl, rfl, rfl, Nat.le_refl _, by simp, hcy, HBit, HSt, (by first | exact HEn | exact Lib.hid (fun _ => HEn.out trivial)), Lib.hid ((blk_far (g := w.heap.size) (g' := w.heap.size + 1) (by omega) _).trans HK0.out), Lib.hid (blk_set HK1.out 1 _), (hbel.setCell (p := ⟨w.heap.size + 1, 1, none⟩) (Nat.le_succ _) _).drew⟩
                · rw [stepF_no2 hla, if_neg (by decide)] at hq
                  have HZ := Lib.hid (HR.out.trans hq)
                  have d0 := (res_cells HK0.out).1
                  have d1 := (res_cells HK0.out).2
                  have e0 := blk_free HK0.out 0
                  have e1 := blk_free HK0.out 1
                  go_wp2_with fail
                  with_reducible refine (HN.call _).mono ?_
                  rintro e w1 ⟨rfl, rfl⟩
                  go_wp2_with fail
                  have hfin := blk_set (blk_set HK0.out 0 (.int .i64 0)) 1 (.int .u64 0)
                  have hbf := (hbel.setCell (p := ⟨w.heap.size, 0, none⟩) (Nat.le_refl _) (.int .i64 0)).setCell (p := ⟨w.heap.size, 1, none⟩) (Nat.le_refl _) (.int .u64 0)
                  clear d0 d1 e0 e1
                  generalize (wr.setCell ⟨w.heap.size, 0, none⟩ (.int .i64 0)).setCell ⟨w.heap.size, 1, none⟩ (.int .u64 0) = wf at *
                  have q0 : wf.cell? ⟨w.heap.size, 0, none⟩ = some (.int .i64 0) := blk_cell hfin 0
                  have q1 : wf.cell? ⟨w.heap.size, 1, none⟩ = some (.int .u64 0) := blk_cell hfin 1
                  exact bodyPost_ret (v := .tuple #[.agg #[.int .i64 0, .int .u64 0], .bool false]) (by simp [results, Tryd.results46, go_sem, q0, q1]) rfl ⟨ret_of (by rw [← HPP.out, HZ.out]; rfl), hbf⟩
              · rw [stepF_no1 hn, if_neg (by decide)] at hq
                have HZ := Lib.hid (HR.out.trans hq)
                have d0 := (res_cells HK0.out).1
                have d1 := (res_cells HK0.out).2
                have e0 := blk_free HK0.out 0
                have e1 := blk_free HK0.out 1
                go_wp2_with fail
                with_reducible refine (HN.call _).mono ?_
                rintro e w1 ⟨rfl, rfl⟩
                go_wp2_with fail
                have hfin := blk_set (blk_set HK0.out 0 (.int .i64 0)) 1 (.int .u64 0)
                have hbf := (hbel.setCell (p := ⟨w.heap.size, 0, none⟩) (Nat.le_refl _) (.int .i64 0)).setCell (p := ⟨w.heap.size, 1, none⟩) (Nat.le_refl _) (.int .u64 0)
                clear d0 d1 e0 e1
                generalize (wr.setCell ⟨w.heap.size, 0, none⟩ (.int .i64 0)).setCell ⟨w.heap.size, 1, none⟩ (.int .u64 0) = wf at *
                have q0 : wf.cell? ⟨w.heap.size, 0, none⟩ = some (.int .i64 0) := blk_cell hfin 0
                have q1 : wf.cell? ⟨w.heap.size, 1, none⟩ = some (.int .u64 0) := blk_cell hfin 1
                exact bodyPost_ret (v := .tuple #[.agg #[.int .i64 0, .int .u64 0], .bool false]) (by simp [results, Tryd.results46, go_sem, q0, q1]) rfl ⟨ret_of (by rw [← HPP.out, HZ.out]; rfl), hbf⟩
        · have hb44 : ((s[k].toNat : Int) != 44) = true := by simp [h44]
          have HQ := Lib.hid (HR.out.trans (ref_on hlt h58 h44))
          have HX := Lib.hid (extract_one s k hlt)
          clear h58 h44
          have hw1 : IntKind.i64.wrap ((k : Int) + 1) = (k : Int) + 1 := IntWalk.i64_in _ (by omega)
          have hadd : (⟨t.toArray⟩ : ByteArray).size + (s.extract k (k + 1)).size ≤ 9223372036854775807 := by
            rw [HX.out, list_size]; show t.length + 1 ≤ _; omega
          have HV := Lib.hid (show (⟨t.toArray⟩ : ByteArray) ++ s.extract k (k + 1) = ⟨(t ++ [s[k]]).toArray⟩ by rw [HX.out]; exact str_append t [s[k]])
          go_wp2_with fail
          go_roundg (s.size + 1 - (k + 1))
          case measure => omega
          case rel => exact ⟨k + 1, L, C, x, t ++ [s[k]], b, by omega, by go_num, rfl, by rw [HV.out], rfl, Nat.le_refl _, by simp; omega, hC, HB, Lib.hid (fun _ => HQ.out), Lib.hid (fun h => by omega), HK0, HK1, hbel⟩
    · obtain rfl : k = s.size := by omega
      cases hnum : P.number t with
      | none =>
        have HN := rn_none hnum
        have hq := ref_nan_end (s := s) (lv := b) (L := L) (C := C) (la := x) hnum
        clear hnum
        have HZ := Lib.hid (HR.out.trans hq)
        have d0 := (res_cells HK0.out).1
        have d1 := (res_cells HK0.out).2
        have e0 := blk_free HK0.out 0
        have e1 := blk_free HK0.out 1
        go_wp2_with fail
        with_reducible refine (HN.call _).mono ?_
        rintro e w1 ⟨rfl, rfl⟩
        go_wp2_with fail
        have hfin := blk_set (blk_set HK0.out 0 (.int .i64 0)) 1 (.int .u64 0)
        have hbf := (hbel.setCell (p := ⟨w.heap.size, 0, none⟩) (Nat.le_refl _) (.int .i64 0)).setCell (p := ⟨w.heap.size, 1, none⟩) (Nat.le_refl _) (.int .u64 0)
        clear d0 d1 e0 e1
        generalize (wr.setCell ⟨w.heap.size, 0, none⟩ (.int .i64 0)).setCell ⟨w.heap.size, 1, none⟩ (.int .u64 0) = wf at *
        have q0 : wf.cell? ⟨w.heap.size, 0, none⟩ = some (.int .i64 0) := blk_cell hfin 0
        have q1 : wf.cell? ⟨w.heap.size, 1, none⟩ = some (.int .u64 0) := blk_cell hfin 1
        exact bodyPost_ret (v := .tuple #[.agg #[.int .i64 0, .int .u64 0], .bool false]) (by simp [results, Tryd.results46, go_sem, q0, q1]) rfl ⟨ret_of (by rw [← HPP.out, HZ.out]; rfl), hbf⟩
      | some n =>
        have HN := rn_some hnum
        cases b with
        | true =>
          have hq := ref_endT (s := s) (L := L) (C := C) (la := x) hnum
          clear hnum
          by_cases hn : n ≤ 15
          · rw [stepT_yes hn, if_pos rfl] at hq
            have c0 := (res_cells HK1.out).1
            have c1 := (res_cells HK1.out).2
            have f0 := blk_free HK1.out 0
            go_wp2_with fail
            with_reducible refine (HN.call _).mono ?_
            rintro e w1 ⟨rfl, rfl⟩
            go_wp2_with fail
            go_roundg (s.size + 1 - (s.size + 1))
            case measure => omega
            case rel => exact ⟨s.size + 1, n, C, x, [], false, by omega, by go_num, rfl, rfl, rfl, Nat.le_refl _, by simp, hC, HB, Lib.hid (fun h => by omega), Lib.hid (fun _ => HR.out.trans hq), Lib.hid ((blk_far (g := w.heap.size) (g' := w.heap.size + 1) (by omega) _).trans HK0.out), Lib.hid (blk_set HK1.out 0 _), hbel.setCell (p := ⟨w.heap.size + 1, 0, none⟩) (Nat.le_succ _) _⟩
          · rw [stepT_no hn, if_neg (by decide)] at hq
            have HZ := Lib.hid (HR.out.trans hq)
            have d0 := (res_cells HK0.out).1
            have d1 := (res_cells HK0.out).2
            have e0 := blk_free HK0.out 0
            have e1 := blk_free HK0.out 1
            go_wp2_with fail
            with_reducible refine (HN.call _).mono ?_
            rintro e w1 ⟨rfl, rfl⟩
            go_wp2_with fail
            have hfin := blk_set (blk_set HK0.out 0 (.int .i64 0)) 1 (.int .u64 0)
            have hbf := (hbel.setCell (p := ⟨w.heap.size, 0, none⟩) (Nat.le_refl _) (.int .i64 0)).setCell (p := ⟨w.heap.size, 1, none⟩) (Nat.le_refl _) (.int .u64 0)
            clear d0 d1 e0 e1
            generalize (wr.setCell ⟨w.heap.size, 0, none⟩ (.int .i64 0)).setCell ⟨w.heap.size, 1, none⟩ (.int .u64 0) = wf at *
            have q0 : wf.cell? ⟨w.heap.size, 0, none⟩ = some (.int .i64 0) := blk_cell hfin 0
            have q1 : wf.cell? ⟨w.heap.size, 1, none⟩ = some (.int .u64 0) := blk_cell hfin 1
            exact bodyPost_ret (v := .tuple #[.agg #[.int .i64 0, .int .u64 0], .bool false]) (by simp [results, Tryd.results46, go_sem, q0, q1]) rfl ⟨ret_of (by rw [← HPP.out, HZ.out]; rfl), hbf⟩
        | false =>
          have hq := ref_endF (s := s) (L := L) (C := C) (la := x) hnum
          clear hnum
          by_cases hn : n ≤ 63
          · by_cases hla : x < (n : Int)
            · rw [stepF_yes hn hla, if_pos rfl] at hq
              have HBit := Lib.hid (bits_or HB.out hla)
              have hor := add_or HB.out hla
              have hpb : 2 ^ n < 18446744073709551616 := Nat.pow_lt_pow_right (a := 2) (n := 64) (by omega) (by omega)
              have hcy := or_small hC hpb
              have hsh : IntKind.u64.wrap (2 ^ n) = ((2 ^ n : Nat) : Int) := by
                rw [show (2 : Int) ^ n = ((2 ^ n : Nat) : Int) by simp]
                generalize 2 ^ n = z at hpb
                exact IntWalk.u64_in _ (by omega)
              have hsum : IntKind.u64.wrap ((C : Int) + ((2 ^ n : Nat) : Int)) = ((C ||| 2 ^ n : Nat) : Int) := by
                rw [← hor] at hcy ⊢
                generalize 2 ^ n = z at hcy
                rw [IntWalk.u64_in _ (by omega)]; omega
              have HSt := Lib.hid (show s.size + 1 ≤ s.size → refP true 0 0 (-1) [] s.data.toList = refP false L (C + 2 ^ n) n [] (s.data.toList.drop (s.size + 1)) from fun h => by omega)
              have HEn := Lib.hid (show s.size + 1 = s.size + 1 → _ from fun _ => HR.out.trans hq)
              rw [hor] at HSt HEn
              clear hpb hor
              generalize C ||| 2 ^ n = y at *
              generalize 2 ^ n = q at *
              have c1 := (res_cells HK1.out).2
              have f1 := blk_free HK1.out 1
              have hn0 : (0 : Int) ≤ (n : Int) := by omega
              go_wp2_with fail
              with_reducible refine (HN.call _).mono ?_
              rintro e w1 ⟨rfl, rfl⟩
              go_wp2_with fail
              go_region
              all_goals
                go_wp2_with fail
                go_roundg (s.size + 1 - (s.size + 1))
                case measure => omega
                case rel => exact ⟨s.size + 1, L, y, n, [], false, by omega, by go_num, rfl, rfl, rfl, Nat.le_refl _, by simp, hcy, HBit, HSt, (by first | exact HEn | exact Lib.hid (fun _ => HEn.out trivial)), Lib.hid ((blk_far (g := w.heap.size) (g' := w.heap.size + 1) (by omega) _).trans HK0.out), Lib.hid (blk_set HK1.out 1 _), (hbel.setCell (p := ⟨w.heap.size + 1, 1, none⟩) (Nat.le_succ _) _).drew⟩
            · rw [stepF_no2 hla, if_neg (by decide)] at hq
              have HZ := Lib.hid (HR.out.trans hq)
              have d0 := (res_cells HK0.out).1
              have d1 := (res_cells HK0.out).2
              have e0 := blk_free HK0.out 0
              have e1 := blk_free HK0.out 1
              go_wp2_with fail
              with_reducible refine (HN.call _).mono ?_
              rintro e w1 ⟨rfl, rfl⟩
              go_wp2_with fail
              have hfin := blk_set (blk_set HK0.out 0 (.int .i64 0)) 1 (.int .u64 0)
              have hbf := (hbel.setCell (p := ⟨w.heap.size, 0, none⟩) (Nat.le_refl _) (.int .i64 0)).setCell (p := ⟨w.heap.size, 1, none⟩) (Nat.le_refl _) (.int .u64 0)
              clear d0 d1 e0 e1
              generalize (wr.setCell ⟨w.heap.size, 0, none⟩ (.int .i64 0)).setCell ⟨w.heap.size, 1, none⟩ (.int .u64 0) = wf at *
              have q0 : wf.cell? ⟨w.heap.size, 0, none⟩ = some (.int .i64 0) := blk_cell hfin 0
              have q1 : wf.cell? ⟨w.heap.size, 1, none⟩ = some (.int .u64 0) := blk_cell hfin 1
              exact bodyPost_ret (v := .tuple #[.agg #[.int .i64 0, .int .u64 0], .bool false]) (by simp [results, Tryd.results46, go_sem, q0, q1]) rfl ⟨ret_of (by rw [← HPP.out, HZ.out]; rfl), hbf⟩
          · rw [stepF_no1 hn, if_neg (by decide)] at hq
            have HZ := Lib.hid (HR.out.trans hq)
            have d0 := (res_cells HK0.out).1
            have d1 := (res_cells HK0.out).2
            have e0 := blk_free HK0.out 0
            have e1 := blk_free HK0.out 1
            go_wp2_with fail
            with_reducible refine (HN.call _).mono ?_
            rintro e w1 ⟨rfl, rfl⟩
            go_wp2_with fail
            have hfin := blk_set (blk_set HK0.out 0 (.int .i64 0)) 1 (.int .u64 0)
            have hbf := (hbel.setCell (p := ⟨w.heap.size, 0, none⟩) (Nat.le_refl _) (.int .i64 0)).setCell (p := ⟨w.heap.size, 1, none⟩) (Nat.le_refl _) (.int .u64 0)
            clear d0 d1 e0 e1
            generalize (wr.setCell ⟨w.heap.size, 0, none⟩ (.int .i64 0)).setCell ⟨w.heap.size, 1, none⟩ (.int .u64 0) = wf at *
            have q0 : wf.cell? ⟨w.heap.size, 0, none⟩ = some (.int .i64 0) := blk_cell hfin 0
            have q1 : wf.cell? ⟨w.heap.size, 1, none⟩ = some (.int .u64 0) := blk_cell hfin 1
            exact bodyPost_ret (v := .tuple #[.agg #[.int .i64 0, .int .u64 0], .bool false]) (by simp [results, Tryd.results46, go_sem, q0, q1]) rfl ⟨ret_of (by rw [← HPP.out, HZ.out]; rfl), hbf⟩
end Go.Proofs.YtbilhdfoajahkaaDoor.L
