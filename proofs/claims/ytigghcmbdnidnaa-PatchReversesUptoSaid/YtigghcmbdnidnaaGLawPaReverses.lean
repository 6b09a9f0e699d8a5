/-
  The law PatchReverses.
-/
import Derived.Test.YtigghcmbdnidnaaGpx
import Derived.Test.YtigghcmbdnidnaaGpu
import Derived.Test.YtigghcmbdnidnaaGpo
namespace Go.Proofs.Ytigghcmbdnidnaa.Pa
set_option linter.unusedVariables false
set_option linter.unusedSimpArgs false
open Go.RowKit
open T S H
open V (grown_of drawn_below IntsIn)
open I (alloc1 own_at own_below)
open N (Ln PrIn)
open M (Lv)

def RrC (hs rs : List Hk) (q : Int) : Prop := ∀ (w : World) (A : Option Addr) (c : Nat), HksIn 0 w A hs → Calls Try.prog 20 #[.slice A hs.length c] w (HnEnd w rs q)
theorem RrC.at {hs rs : List Hk} {q : Int} (h : RrC hs rs q) {w : World} {A : Option Addr} (c : Nat) (hE : HksIn 0 w A hs) : Calls Try.prog 20 #[.slice A hs.length c] w (HnEnd w rs q) := h w A c hE
theorem c_rreverse {hs : List Hk} (hok : HksOk hs) : RrC hs (rev hs).1 (rev hs).2 := fun w A c hH => rreverse_any A c hs w hH hok
/-- How many edits of a kind stand in a script, line by line. -/
def nk (d : Int) (L : List Ed) : Nat := (L.filter fun e => e.1 = d).length
theorem nk_sgl (d : Int) (es : List Ed) : nk d (sgl es) = wgt d es := by
  rw [wgt_flat]
  unfold nk sgl
  rw [List.filter_map, List.length_map]
  rfl
theorem nk_take {d : Int} {L : List Ed} {k : Nat} (h : k < L.length) : nk d (L.take (k + 1)) = nk d (L.take k) + if L[k].1 = d then 1 else 0 := by
  unfold nk
  rw [List.take_succ_eq_append_getElem h, List.filter_append, List.length_append]
  by_cases e : L[k].1 = d <;> simp [e]
theorem nk_le (d : Int) (L : List Ed) (k : Nat) : nk d (L.take k) ≤ k := by
  unfold nk
  have := List.length_filter_le (fun e : Ed => decide (e.1 = d)) (L.take k)
  have h2 := List.length_take_le k L
  omega
set_option maxRecDepth 100000 in
set_option maxHeartbeats 4000000 in
theorem preverses_law {A : Option Addr} {c : Nat} {hs : List Hk} {w : World} (hH : HksIn 0 w A hs) (hok : HksOk hs) (hcA : hs.length ≤ c) (hj : tl (join (hs.take 20)) ≤ 2000000) (hjl : (join (hs.take 20)).length ≤ 2000000) :
    Calls Try.prog 5 #[.slice A hs.length c] w fun e w' => e = .returned (.bool true) ∧ Below w.heap.size w w' := by
  have HH0 := Lib.hid (hH.take 20)
  have hmin : min (hs.length : Int) 20 = ((hs.take 20).length : Int) := by rw [List.length_take]; omega
  have hlt : (hs.take 20).length ≤ hs.length := List.length_take_le' _ _
  have hok2 : HksOk (hs.take 20) := ⟨by have := hok.len; omega, fun h hm => hok.es h (List.mem_of_mem_take hm)⟩
  have hln := hok.len
  generalize hs.take 20 = T at *
  obtain ⟨n, hn⟩ : ∃ n, n = hs.length := ⟨_, rfl⟩
  rw [← hn] at hmin hlt hln hcA ⊢
  unfold maxLen at hln
  have HR1 := Lib.hid (c_reverse hok2)
  have HR2 := Lib.hid (c_rreverse hok2)
  have HSZ := Lib.hid (c_size hok2 hj)
  have HJN := Lib.hid (c_rjoin hok2 hjl)
  have HSG := Lib.hid (c_single hjl hj)
  have HSM := Lib.hid (c_hsame (hs := (rev T).1) (by
    by_cases hk : hck T = 0
    · rw [show rev T = (rvs T, 0) from if_pos hk]; exact HksOk.of_ck (rvs_ck hk)
    · rw [show rev T = ([], hck T) from if_neg hk]; exact ⟨by simp, fun h hm => by simp at hm⟩))
  have hL : (sgl (join T)).length ≤ 2000000 := by unfold sgl; rw [List.length_map, ← tl_flat]; exact hj
  have HW3 := Lib.hid (nk_sgl 3 (join T))
  have HW2 := Lib.hid (nk_sgl 2 (join T))
  generalize (rev T).1 = rs at *
  generalize (rev T).2 = q at *
  generalize wgt 3 (join T) = md at *
  generalize wgt 2 (join T) = gn at *
  generalize sgl (join T) = L at *
  generalize join T = es at *
  have hqq : (q == q) = true := by simp
  clear hok hH hok2 hn hj hjl
  have HB0 : Hid (Below w.heap.size w w) := Lib.hid (Below.refl _ _)
  go_enter Try.func5, Try.ntmps5
  go_wp2_with fail
  with_reducible refine (HR1.out.at c HH0.out).mono ?_
  rintro e w1 ⟨A1, c1, rfl, hh, hb⟩
  have HH_1 := Lib.hid (HH0.out.below hb)
  have HP_1 := Lib.hid hh
  have HB1 := Lib.hid (HB0.out.trans (hb.mono HB0.out.size))
  clear hb HB0 HH0 hh
  go_wp2_with fail
  with_reducible refine (HR2.out.at c HH_1.out).mono ?_
  rintro e w2 ⟨A2, c2, rfl, hh, hb⟩
  have HH_2 := Lib.hid (HH_1.out.below hb)
  have HP_2 := Lib.hid (HP_1.out.below hb)
  have HQ_2 := Lib.hid hh
  have HB2 := Lib.hid (HB1.out.trans (hb.mono HB1.out.size))
  clear hb HB1 HH_1 HP_1 hh
  go_wp2_with fail
  with_reducible refine (HSZ.out.at c HH_2.out).mono ?_
  rintro e w3 ⟨rfl, hb⟩
  have HH_3 := Lib.hid (HH_2.out.below hb)
  have HP_3 := Lib.hid (HP_2.out.below hb)
  have HQ_3 := Lib.hid (HQ_2.out.below hb)
  have HB3 := Lib.hid (HB2.out.trans (hb.mono HB2.out.size))
  clear hb HB2 HH_2 HP_2 HQ_2
  go_wp2_with fail
  with_reducible refine (HJN.out.at c HH_3.out).mono ?_
  rintro e w4 ⟨A3, c3, rfl, he, hb⟩
  have HH_4 := Lib.hid (HH_3.out.below hb)
  have HP_4 := Lib.hid (HP_3.out.below hb)
  have HQ_4 := Lib.hid (HQ_3.out.below hb)
  have HJ_4 := Lib.hid he
  have HB4 := Lib.hid (HB3.out.trans (hb.mono HB3.out.size))
  clear hb HB3 HH_3 HP_3 HQ_3 he
  go_wp2_with fail
  with_reducible refine (HSG.out.at c3 HJ_4.out).mono ?_
  rintro e w5 ⟨A4, c4, rfl, he, hb⟩
  have HH_5 := Lib.hid (HH_4.out.below hb)
  have HP_5 := Lib.hid (HP_4.out.below hb)
  have HQ_5 := Lib.hid (HQ_4.out.below hb)
  have HJ_5 := Lib.hid (HJ_4.out.below hb)
  have HL_5 := Lib.hid he
  have HB5 := Lib.hid (HB4.out.trans (hb.mono HB4.out.size))
  clear hb HB4 HH_4 HP_4 HQ_4 HJ_4 he
  clear HR1 HR2 HSZ HJN HSG HJ_5 HH_5
  go_wp2_with fail
  go_loopg [9, 10, 12] L.length (fun m xv yv iv wr => ∃ (k x y : Nat), k ≤ L.length ∧ iv = .int .i64 k ∧ xv = .int .i64 x ∧ yv = .int .i64 y ∧ L.length - k ≤ m ∧ x ≤ k ∧ y ≤ k ∧ Hid (x = nk 3 (L.take k)) ∧ Hid (y = nk 2 (L.take k)) ∧ Hid (wr = w5))
  case atStart => exact ⟨0, 0, 0, Nat.zero_le _, rfl, rfl, rfl, by omega, Nat.le_refl _, Nat.le_refl _, Lib.hid rfl, Lib.hid rfl, Lib.hid rfl⟩
  case round =>
    obtain ⟨k, x, y, hk, rfl, rfl, rfl, hmm, hxk, hyk, HX, HY, HE⟩ := hrel
    obtain rfl := HE.out
    by_cases hlt : k < L.length
    · obtain ⟨bk, off, LA, lc, hAe, hcell, -, -⟩ := edit_in HL_5.out hlt
      subst hAe
      obtain ⟨c0, -⟩ := hcell _ (Below.refl _ _)
      have HN3 := Lib.hid (nk_take (d := 3) hlt)
      have HN2 := Lib.hid (nk_take (d := 2) hlt)
      have hL3 := nk_le 3 L k
      have hL2 := nk_le 2 L k
      have h0k : (0 : Int) ≤ (k : Int) := by omega
      have hki : (k : Int) < (L.length : Int) := by omega
      have hw1 : IntKind.i64.wrap ((x : Int) + 1) = (x : Int) + 1 := by rw [IntKind.wrap_i64]; omega
      have hw2 : IntKind.i64.wrap ((y : Int) + 1) = (y : Int) + 1 := by rw [IntKind.wrap_i64]; omega
      clear hcell hL3 hL2
      obtain ⟨d, hd⟩ : ∃ d, d = L[k].1 := ⟨_, rfl⟩
      rw [← hd] at c0 HN3 HN2
      clear hd
      by_cases h3 : d = 3
      · subst h3
        have HX2 := Lib.hid (show x + 1 = nk 3 (L.take (k + 1)) by rw [HN3.out, HX.out]; simp)
        have HY2 := Lib.hid (show y = nk 2 (L.take (k + 1)) by rw [HN2.out, HY.out]; simp)
        go_wp2_with fail
        go_roundg (L.length - (k + 1))
        case rel => exact ⟨k + 1, x + 1, y, by omega, by go_num, by go_num, rfl, Nat.le_refl _, by omega, by omega, HX2, HY2, Lib.hid rfl⟩
        case measure => omega
      · have h3b : (d == 3) = false := beq_eq_false_iff_ne.2 h3
        by_cases h2 : d = 2
        · subst h2
          have HX2 := Lib.hid (show x = nk 3 (L.take (k + 1)) by rw [HN3.out, HX.out]; simp)
          have HY2 := Lib.hid (show y + 1 = nk 2 (L.take (k + 1)) by rw [HN2.out, HY.out]; simp)
          go_wp2_with fail
          go_roundg (L.length - (k + 1))
          case rel => exact ⟨k + 1, x, y + 1, by omega, by go_num, rfl, by go_num, Nat.le_refl _, by omega, by omega, HX2, HY2, Lib.hid rfl⟩
          case measure => omega
        · have h2b : (d == 2) = false := beq_eq_false_iff_ne.2 h2
          have HX2 := Lib.hid (show x = nk 3 (L.take (k + 1)) by rw [HN3.out, HX.out, if_neg h3, Nat.add_zero])
          have HY2 := Lib.hid (show y = nk 2 (L.take (k + 1)) by rw [HN2.out, HY.out, if_neg h2, Nat.add_zero])
          clear h3 h2
          go_wp2_with fail
          go_roundg (L.length - (k + 1))
          case rel => exact ⟨k + 1, x, y, by omega, by go_num, rfl, rfl, Nat.le_refl _, by omega, by omega, HX2, HY2, Lib.hid rfl⟩
          case measure => omega
    · obtain rfl : k = L.length := by omega
      have hxe : x = md := by have := HX.out; rw [List.take_length, HW3.out] at this; exact this
      have hye : y = gn := by have := HY.out; rw [List.take_length, HW2.out] at this; exact this
      subst hxe hye
      clear HX HY HW3 HW2 hlt HE
      go_wp2_with fail
      with_reducible refine (live11.at _).mono ?_
      rintro e w6 ⟨rfl, hb⟩
      have HP_6 := Lib.hid (HP_5.out.below hb)
      have HQ_6 := Lib.hid (HQ_5.out.below hb)
      have HB6 := Lib.hid (HB5.out.trans (hb.mono HB5.out.size))
      clear hb HB5 HP_5 HQ_5
      go_wp2_with fail
      with_reducible refine (HSM.out.at c1 c2 HP_6.out HQ_6.out).mono ?_
      rintro e w7 ⟨rfl, hb⟩
      have HP_7 := Lib.hid (HP_6.out.below hb)
      have HQ_7 := Lib.hid (HQ_6.out.below hb)
      have HB7 := Lib.hid (HB6.out.trans (hb.mono HB6.out.size))
      clear hb HB6 HP_6 HQ_6
      go_wp2_with fail
      go_ret
      exact ⟨rfl, HB7.out⟩
end Go.Proofs.Ytigghcmbdnidnaa.Pa
