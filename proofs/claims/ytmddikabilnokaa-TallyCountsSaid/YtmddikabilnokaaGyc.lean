/-
  The reference's Lines and Order (layer 19).
  The library's sort at labels, laid.
  Which of two labels comes first: the comparison, to the world.
  Which of two labels comes first, to the world.
  The contract of the reference's Of (layer 5).
  The contracts of text.has and text.Right.
  The contract of the reference's Same on two rows of the same lines; and what the laws on lines ask of the functions that they call, in one form each.
  Plain facts on numbers and their texts: the text of a number up to 2^31 - 1 is read as that number; what is read as a number is that number's text; reading without a bound and asking at the end comes to the same.
  Small facts on texts as bytes; the contracts of text.Number and text.Decimal in closed form.
  The contract of text.Name: it returns, whatever text it is handed, what the plain function says, and leaves the world as it was.
  The contracts of the reference's Number, Name and Decimal: they come to the same plain functions as the program's own.
  The contract of the reference's Decimal, by induction over the number.
  The contract of the reference's Lines: for all bytes of at most 2^22.
  The contracts of the reference's Right and Join: for all lines of a bulk of at most 2^22.
  What the laws of layer 5 ask of the functions that they call, in one form each.
  A range over the items that are seen, with their places: the iterator's contract.
-/
import Derived.Test.YtmddikabilnokaaGyb
import Derived.Deep.QuietTactic
import Derived.BigQuiet
import Derived.Shelf.SlSortCmp.WholeK
import Derived.Shelf.SlGeneric
import Derived.Ground.SlsfProg
import Derived.Test.YtmddikabilnokaaProg
import Derived.Test.YtmddikabilnokaaGya
import Derived.Deep.RegionWith
import Derived.RangeFuncNested
import Derived.RangeFuncBox
import Derived.RangeFuncBound
import Derived.RangeFuncCalls
import Derived.RangeFuncLeaves
import Derived.Shelf.Abstract
import Derived.Shelf.RegionOpen
import Derived.WalkKit
import Derived.OwnWalkIn
import Derived.TacticsInMore
import Derived.LoopNIn
import Derived.LoopIn
import Derived.Maps.AppendAt
namespace Go.Proofs.Ytmddikabilnokaa.Ta
set_option linter.unusedVariables false
set_option linter.unusedSimpArgs false
open Go.RowKit
open T
open I (It Lb ItemsIn ItemsAt itCells alloc1 own_at own_below)
open V (grown_of drawn_below ItAt it_at)

set_option maxRecDepth 100000 in
set_option maxHeartbeats 4000000 in
theorem rlines_any (A : Option Addr) (cap : Nat) (l : List It) (a0 : Int) (a1 : Nat) (w : World) (hA : ItemsIn w A l) (hl : l.length ≤ 1000000000) :
    Calls Try.prog 12 #[.slice A l.length cap, .agg #[.int .i64 a0, .int .u64 (a1 : Int)]] w fun e w' => e = .returned (.int .i64 (((lns l).count (a0, a1) : Nat) : Int)) ∧ Below w.heap.size w w' := by
  obtain ⟨W0, hW0⟩ : ∃ W : World, W = w.alloc (.cells #[.int .i64 a0, .int .u64 (a1 : Int)] 25) := ⟨_, rfl⟩
  have hB0 : Below w.heap.size w W0 := by rw [hW0]; exact alloc1 _ _
  have HB0 := Lib.hid hB0
  have HX0 := Lib.hid (show W0.heap[w.heap.size]? = some (.cells #[.int .i64 a0, .int .u64 (a1 : Int)] 25 (0, 0)) by rw [hW0]; exact heap_alloc_new w _)
  have HA := Lib.hid (hA.below hB0)
  clear hA hB0
  go_enter Try.func12, Try.ntmps12
  go_wp2_with fail
  rw [← hW0]
  obtain ⟨xb, hxb⟩ : ∃ q, q = w.heap.size := ⟨_, rfl⟩
  rw [← hxb] at HX0
  rw [← hxb]
  have HXB := Lib.hid hxb
  clear hW0 hxb
  go_loopg [5, 6] l.length (fun q n i wr => ∃ (k c : Nat), k ≤ l.length ∧ i = .int .i64 k ∧ n = .int .i64 (c : Int) ∧ c ≤ k ∧ l.length - k ≤ q ∧ Hid (c = (lns (l.take k)).count (a0, a1)) ∧ Hid (Below W0.heap.size W0 wr))
  case atStart => exact ⟨0, 0, Nat.zero_le _, rfl, rfl, Nat.le_refl _, by omega, Lib.hid (by simp [lns]), Lib.hid (Below.refl _ _)⟩
  case round =>
    obtain ⟨k, c, hk, rfl, rfl, hck, hm, HC, HBR⟩ := hrel
    by_cases hlt : k < l.length
    · obtain ⟨bk, off, hAe, hbk, hIt⟩ := HA.out (by omega)
      subst hAe
      have HI := Lib.hid ((it_at hIt hbk hlt).below HBR.out)
      have HN := Lib.hid (count_take (a0, a1) hlt)
      rw [← HC.out] at HN
      have h0k : (0 : Int) ≤ (k : Int) := by omega
      have hki : (k : Int) < (l.length : Int) := by omega
      generalize l[k] = y at *
      have c1 := HI.out.c1
      have c2 := HI.out.c2
      have c3 := HI.out.c3
      obtain ⟨y0, x0, x1, an, tx, ba⟩ := y
      simp only [I.It.lb] at c1 c2 c3 HN
      have hx0 := (HBR.out.block _ (L.blk_lt HX0.out)).trans HX0.out
      have z0 := L.blk_cell hx0 0
      have z1 := L.blk_cell hx0 1
      simp only [List.getElem?_toArray, List.getElem?_cons_zero, List.getElem?_cons_succ] at z0 z1
      have hwq : IntKind.i64.wrap ((c : Int) + 1) = ((c + 1 : Nat) : Int) := by rw [IntKind.wrap_i64]; omega
      have HR : Hid (∀ q, Below W0.heap.size W0 (wr.drewN q)) := Lib.hid fun q => HBR.out.trans ((drawn_below wr q).mono HBR.out.size)
      clear hx0 HI HBR HC hIt
      go_upto_region 5 with fail
      cases an with
      | true =>
        go_quiet (fail)
        go_wp2_with fail
        go_roundg (l.length - (k + 1))
        case rel => exact ⟨k + 1, c, by omega, by go_num, rfl, by omega, Nat.le_refl _, Lib.hid (by rw [HN.out]; simp), Lib.hid (HR.out _)⟩
        case measure => omega
      | false =>
        by_cases e1 : x0 = a0
        · subst e1
          by_cases e2 : x1 = a1
          · subst e2
            go_quiet (fail)
            go_wp2_with fail
            go_roundg (l.length - (k + 1))
            case rel => exact ⟨k + 1, c + 1, by omega, by go_num, by simp, by omega, Nat.le_refl _, Lib.hid (by rw [HN.out, if_pos (by simp)]), Lib.hid (HR.out _)⟩
            case measure => omega
          · have e3 : ¬ (x1 : Int) = (a1 : Int) := by omega
            go_quiet (fail)
            go_wp2_with fail
            go_roundg (l.length - (k + 1))
            case rel => exact ⟨k + 1, c, by omega, by go_num, rfl, by omega, Nat.le_refl _, Lib.hid (by rw [HN.out, if_neg (fun q => e2 (Prod.mk.inj q.2).2), Nat.add_zero]), Lib.hid (HR.out _)⟩
            case measure => omega
        · go_quiet (fail)
          go_wp2_with fail
          go_roundg (l.length - (k + 1))
          case rel => exact ⟨k + 1, c, by omega, by go_num, rfl, by omega, Nat.le_refl _, Lib.hid (by rw [HN.out, if_neg (fun q => e1 (Prod.mk.inj q.2).1), Nat.add_zero]), Lib.hid (HR.out _)⟩
          case measure => omega
    · obtain rfl : k = l.length := by omega
      rw [List.take_length] at HC
      go_wp2_with fail
      go_ret
      exact ⟨by rw [HC.out]; rfl, HB0.out.trans (HBR.out.mono HB0.out.size)⟩
set_option maxRecDepth 100000 in
set_option maxHeartbeats 2000000 in
theorem rorder_any (a0 : Int) (a1 : Nat) (b0 : Int) (b1 : Nat) (w : World) :
    Calls Try.prog 14 #[.agg #[.int .i64 a0, .int .u64 (a1 : Int)], .agg #[.int .i64 b0, .int .u64 (b1 : Int)]] w fun e w' => e = .returned (.int .i64 (ord (a0, a1) (b0, b1))) ∧ Below w.heap.size w w' := by
  obtain ⟨W0, hW0⟩ : ∃ W : World, W = w.alloc (.cells #[.int .i64 a0, .int .u64 (a1 : Int)] 25) := ⟨_, rfl⟩
  obtain ⟨W1, hW1⟩ : ∃ W : World, W = W0.alloc (.cells #[.int .i64 b0, .int .u64 (b1 : Int)] 25) := ⟨_, rfl⟩
  have hb0 : Below w.heap.size w W0 := by rw [hW0]; exact alloc1 _ _
  have hb1 : Below W0.heap.size W0 W1 := by rw [hW1]; exact alloc1 _ _
  have HB := Lib.hid (hb0.trans (hb1.mono hb0.size))
  have hs0 : W0.heap.size = w.heap.size + 1 := by rw [hW0]; simp
  have hx0 : W1.heap[w.heap.size]? = some (.cells #[.int .i64 a0, .int .u64 (a1 : Int)] 25 (0, 0)) := by
    rw [hb1.block _ (by omega), hW0]
    exact heap_alloc_new w _
  have hx1 : W1.heap[w.heap.size + 1]? = some (.cells #[.int .i64 b0, .int .u64 (b1 : Int)] 25 (0, 0)) := by
    rw [hW1, ← hs0]
    exact heap_alloc_new W0 _
  have x0 := L.blk_cell hx0 0
  have x1 := L.blk_cell hx0 1
  have y0 := L.blk_cell hx1 0
  have y1 := L.blk_cell hx1 1
  simp only [List.getElem?_toArray, List.getElem?_cons_zero, List.getElem?_cons_succ] at x0 x1 y0 y1
  clear hb0 hb1 hs0 hx0 hx1
  obtain ⟨v, hv⟩ : ∃ v, v = ord (a0, a1) (b0, b1) := ⟨_, rfl⟩
  have hV : v = if a0 < b0 ∨ a0 = b0 ∧ a1 < b1 then -1 else if a0 = b0 ∧ a1 = b1 then 0 else 1 := by
    rw [hv]
    unfold ord lt
    simp only [Prod.mk.injEq]
  rw [← hv]
  clear hv
  go_enter Try.func14, Try.ntmps14
  go_upto_region 1 with fail
  rw [← hW0, ← hW1]
  obtain ⟨xa, hxa⟩ : ∃ q, q = w.heap.size := ⟨_, rfl⟩
  rw [← hxa] at x0 x1 y0 y1
  simp only [← hxa]
  clear hW0 hW1 hxa
  by_cases h1 : a0 < b0
  · rw [if_pos (.inl h1)] at hV
    subst hV
    go_wp2_with fail
    go_ret
    exact ⟨rfl, HB.out⟩
  · by_cases h2 : a0 = b0
    · subst h2
      by_cases h3 : a1 < b1
      · have h4 : (a1 : Int) < (b1 : Int) := by omega
        rw [if_pos (.inr ⟨rfl, h3⟩)] at hV
        subst hV
        go_wp2_with fail
        go_ret
        exact ⟨rfl, HB.out⟩
      · have h4 : ¬ (a1 : Int) < (b1 : Int) := by omega
        rw [if_neg (fun q => q.elim h1 (fun r => h3 r.2))] at hV
        by_cases h5 : a1 = b1
        · subst h5
          rw [if_pos ⟨rfl, rfl⟩] at hV
          subst hV
          go_wp2_with fail
          go_ret
          exact ⟨rfl, HB.out⟩
        · have h6 : ¬ (a1 : Int) = (b1 : Int) := by omega
          rw [if_neg (fun q => h5 q.2)] at hV
          subst hV
          go_wp2_with fail
          go_ret
          exact ⟨rfl, HB.out⟩
    · rw [if_neg (fun q => q.elim h1 (fun r => h2 r.1)), if_neg (fun q => h2 q.1)] at hV
      subst hV
      go_wp2_with fail
      go_ret
      exact ⟨rfl, HB.out⟩
end Go.Proofs.Ytmddikabilnokaa.Ta

namespace Go.Proofs.Ytmddikabilnokaa.Ta
set_option linter.unusedVariables false
set_option linter.unusedSimpArgs false
open Go.Shelf
def sortLab_ren : Go.Shelf.Ren := ⟨fun | 6 => 29 | 15 => 35 | 14 => 34 | 28 => 44 | 29 => 45 | 20 => 36 | 21 => 37 | 22 => 38 | 23 => 39 | 24 => 40 | 25 => 41 | 26 => 42 | 27 => 43 | 46 => 46 | 47 => 47 | 48 => 48 | 49 => 49 | 50 => 50 | 57 => 51 | n => n, fun | 22 => 35 | 24 => 25 | 25 => 33 | 3 => 3 | 39 => 66 | 0 => 0 | 53 => 76 | 55 => 23 | 4 => 4 | 46 => 69 | 45 => 68 | 50 => 73 | 5 => 5 | 9 => 9 | 66 => 78 | 70 => 82 | 76 => 84 | 77 => 85 | n => n, fun | n => n⟩
theorem sortLab : SlLaysF0.n6 Try.prog sortLab_ren := {
  mixed := by kernel_rfl
  f6 := ⟨Try.f29.name, by decide, Try.func29.trans (congrArg some (by kernel_rfl))⟩
  f14 := ⟨Try.f34.name, by decide, Try.func34.trans (congrArg some (by kernel_rfl))⟩
  f15 := Try.func35.trans (congrArg some (by kernel_rfl))
  f20 := ⟨Try.f36.name, by decide, Try.func36.trans (congrArg some (by kernel_rfl))⟩
  f21 := ⟨Try.f37.name, by decide, Try.func37.trans (congrArg some (by kernel_rfl))⟩
  f22 := ⟨Try.f38.name, by decide, Try.func38.trans (congrArg some (by kernel_rfl))⟩
  f23 := ⟨Try.f39.name, by decide, Try.func39.trans (congrArg some (by kernel_rfl))⟩
  f24 := ⟨Try.f40.name, by decide, Try.func40.trans (congrArg some (by kernel_rfl))⟩
  f25 := ⟨Try.f41.name, by decide, Try.func41.trans (congrArg some (by kernel_rfl))⟩
  f26 := ⟨Try.f42.name, by decide, Try.func42.trans (congrArg some (by kernel_rfl))⟩
  f27 := ⟨Try.f43.name, by decide, Try.func43.trans (congrArg some (by kernel_rfl))⟩
  f28 := Try.func44.trans (congrArg some (by kernel_rfl))
  f29 := Try.func45.trans (congrArg some (by kernel_rfl))
  f46 := ⟨Try.f46.name, by decide, Try.func46.trans (congrArg some (by kernel_rfl))⟩
  f47 := Try.func47.trans (congrArg some (by kernel_rfl))
  f48 := Try.func48.trans (congrArg some (by kernel_rfl))
  f49 := ⟨Try.f49.name, by decide, Try.func49.trans (congrArg some (by kernel_rfl))⟩
  f50 := ⟨Try.f50.name, by decide, Try.func50.trans (congrArg some (by kernel_rfl))⟩
  f57 := ⟨Try.f51.name, by decide, Try.func51.trans (congrArg some (by kernel_rfl))⟩
  t0 := Try.underlying0
  a0 := Try.isAgg0
  z0 := Try.sizeOf0
  v0 := Try.zeroValue0
  t3 := Try.underlying3
  a3 := Try.isAgg3
  z3 := Try.sizeOf3
  v3 := Try.zeroValue3
  t4 := Try.underlying4
  a4 := Try.isAgg4
  z4 := Try.sizeOf4
  v4 := Try.zeroValue4
  t5 := Try.underlying5
  a5 := Try.isAgg5
  z5 := Try.sizeOf5
  v5 := Try.zeroValue5
  t9 := Try.underlying9
  a9 := Try.isAgg9
  z9 := Try.sizeOf9
  v9 := Try.zeroValue9
  t22 := Try.underlying35
  a22 := Try.isAgg35
  z22 := Try.sizeOf35
  v22 := Try.zeroValue35
  t25 := Try.underlying33
  a25 := Try.isAgg33
  z25 := Try.sizeOf33
  v25 := Try.zeroValue33
  t39 := Try.underlying66
  a39 := Try.isAgg66
  z39 := Try.sizeOf66
  v39 := Try.zeroValue66
  t45 := Try.underlying68
  a45 := Try.isAgg68
  z45 := Try.sizeOf68
  v45 := Try.zeroValue68
  t46 := Try.underlying69
  a46 := Try.isAgg69
  z46 := Try.sizeOf69
  v46 := Try.zeroValue69
  t50 := Try.underlying73
  a50 := Try.isAgg73
  z50 := Try.sizeOf73
  v50 := Try.zeroValue73
  t53 := Try.underlying76
  a53 := Try.isAgg76
  z53 := Try.sizeOf76
  v53 := Try.zeroValue76
  t55 := Try.underlying23
  a55 := Try.isAgg23
  z55 := Try.sizeOf23
  v55 := Try.zeroValue23
  t66 := Try.underlying78
  a66 := Try.isAgg78
  z66 := Try.sizeOf78
  v66 := Try.zeroValue78
  t70 := Try.underlying82
  a70 := Try.isAgg82
  z70 := Try.sizeOf82
  v70 := Try.zeroValue82
  t76 := Try.underlying84
  a76 := Try.isAgg84
  z76 := Try.sizeOf84
  v76 := Try.zeroValue84
  t77 := Try.underlying85
  a77 := Try.isAgg85
  z77 := Try.sizeOf85
  v77 := Try.zeroValue85 }
end Go.Proofs.Ytmddikabilnokaa.Ta

namespace Go.Proofs.Ytmddikabilnokaa.Ta
set_option linter.unusedVariables false
set_option linter.unusedSimpArgs false
open Go.RowKit Go.Sort Go.Shelf
open T
open I (It Lb alloc1)
open V (drawn_below)

def cmp3 (a b : Int) : Int := if a < b then -1 else if b < a then 1 else 0
theorem ord_cmp (a b : Lb) : ord a b = if cmp3 a.1 b.1 = 0 then cmp3 (a.2 : Int) (b.2 : Int) else cmp3 a.1 b.1 := by
  obtain ⟨a1, a2⟩ := a
  obtain ⟨b1, b2⟩ := b
  unfold ord cmp3 lt
  simp only [Prod.mk.injEq]
  split <;> split <;> split <;> (try split) <;> (try split) <;> omega
theorem nan_int (a : Int) (w : World) : Calls Try.prog 31 #[.int .i64 a] w fun e w' => e = .returned (.bool false) ∧ w' = w := by
  go_enter Try.func31, Try.ntmps31
  go_wp2_with fail
  go_ret
  simp
theorem nan_u64 (a : Int) (w : World) : Calls Try.prog 32 #[.int .u64 a] w fun e w' => e = .returned (.bool false) ∧ w' = w := by
  go_enter Try.func32, Try.ntmps32
  go_wp2_with fail
  go_ret
  simp
set_option maxHeartbeats 1000000 in
set_option maxRecDepth 100000 in
theorem cmp_int (a b : Int) (w : World) : Calls Try.prog 25 #[.int .i64 a, .int .i64 b] w fun e w' => e = .returned (.int .i64 (cmp3 a b)) ∧ w' = w := by
  unfold cmp3
  by_cases h1 : a < b
  · rw [if_pos h1]
    go_enter Try.func25, Try.ntmps25
    go_wp2_with (go_at_call 31; refine (nan_int _ _).mono ?_; rintro e w' ⟨rfl, rfl⟩)
    go_ret
    exact ⟨rfl, rfl⟩
  · rw [if_neg h1]
    by_cases h2 : b < a
    · rw [if_pos h2]
      go_enter Try.func25, Try.ntmps25
      go_wp2_with (go_at_call 31; refine (nan_int _ _).mono ?_; rintro e w' ⟨rfl, rfl⟩)
      go_ret
      exact ⟨rfl, rfl⟩
    · rw [if_neg h2]
      go_enter Try.func25, Try.ntmps25
      go_wp2_with (go_at_call 31; refine (nan_int _ _).mono ?_; rintro e w' ⟨rfl, rfl⟩)
      go_ret
      exact ⟨rfl, rfl⟩
set_option maxHeartbeats 1000000 in
set_option maxRecDepth 100000 in
theorem cmp_u64 (a b : Int) (w : World) : Calls Try.prog 26 #[.int .u64 a, .int .u64 b] w fun e w' => e = .returned (.int .i64 (cmp3 a b)) ∧ w' = w := by
  unfold cmp3
  by_cases h1 : a < b
  · rw [if_pos h1]
    go_enter Try.func26, Try.ntmps26
    go_wp2_with (go_at_call 32; refine (nan_u64 _ _).mono ?_; rintro e w' ⟨rfl, rfl⟩)
    go_ret
    exact ⟨rfl, rfl⟩
  · rw [if_neg h1]
    by_cases h2 : b < a
    · rw [if_pos h2]
      go_enter Try.func26, Try.ntmps26
      go_wp2_with (go_at_call 32; refine (nan_u64 _ _).mono ?_; rintro e w' ⟨rfl, rfl⟩)
      go_ret
      exact ⟨rfl, rfl⟩
    · rw [if_neg h2]
      go_enter Try.func26, Try.ntmps26
      go_wp2_with (go_at_call 32; refine (nan_u64 _ _).mono ?_; rintro e w' ⟨rfl, rfl⟩)
      go_ret
      exact ⟨rfl, rfl⟩
set_option maxHeartbeats 1000000 in
set_option maxRecDepth 100000 in
theorem or_two (B : Nat) (a b : Int) (w : World) (c0 : w.cell? ⟨B, 0, none⟩ = some (.int .i64 a)) (c1 : w.cell? ⟨B, 1, none⟩ = some (.int .i64 b)) :
    Calls Try.prog 24 #[.slice (some ⟨B, 0, none⟩) 2 2] w fun e w' => e = .returned (.int .i64 (if a = 0 then b else a)) ∧ w' = w := by
  go_enter Try.func24, Try.ntmps24
  go_wp2_with fail
  go_loopg [5, 8] 2 (fun m _ i wr => wr = w ∧ ∃ k : Nat, k ≤ 2 ∧ i = .int .i64 k ∧ 2 - k ≤ m ∧ (1 ≤ k → a = 0) ∧ (2 ≤ k → b = 0))
  case atStart => exact ⟨rfl, 0, by omega, rfl, by omega, by omega, by omega⟩
  case round =>
    obtain ⟨rfl, k, hk, rfl, hm, ha, hb⟩ := hrel
    by_cases h0 : k = 0
    · subst h0
      by_cases e : a = 0
      · have HE := Lib.hid e
        subst e
        go_wp2_with fail
        go_roundg 1
        case rel => exact ⟨rfl, 1, by omega, by go_num, by omega, by first | (intro _; rfl) | (intro hq; omega) | simp, by first | (intro _; rfl) | (intro hq; omega) | simp⟩
        case measure => omega
      · have hne : (a != 0) = true := by simp [e]
        go_wp2_with fail
        go_ret
        simp [e]
    · by_cases h1 : k = 1
      · subst h1
        obtain rfl := ha (by omega)
        by_cases e : b = 0
        · subst e
          go_wp2_with fail
          go_roundg 0
          case rel => exact ⟨rfl, 2, by omega, by go_num, by omega, by first | (intro _; rfl) | (intro hq; omega) | simp, by first | (intro _; rfl) | (intro hq; omega) | simp⟩
          case measure => omega
        · have hne : (b != 0) = true := by simp [e]
          go_wp2_with fail
          go_ret
          simp
      · obtain rfl : k = 2 := by omega
        obtain rfl := ha (by omega)
        obtain rfl := hb (by omega)
        go_wp2_with fail
        go_ret
        simp
end Go.Proofs.Ytmddikabilnokaa.Ta

namespace Go.Proofs.Ytmddikabilnokaa.Ta
set_option linter.unusedVariables false
set_option linter.unusedSimpArgs false
open Go.RowKit Go.Sort Go.Shelf
open T
open I (It Lb alloc1)
open V (drawn_below)

/-- Draws and blocks: nothing else. -/
def Gw (b W : World) : Prop := ∃ q os, W = grow (b.drewN q) os
theorem Gw.refl (b : World) : Gw b b := ⟨0, #[], by simp; rfl⟩
theorem Gw.drew (b : World) : Gw b b.drew := ⟨1, #[], by simp; rfl⟩
theorem Gw.trans {a b c : World} (h : Gw a b) (k : Gw b c) : Gw a c := by
  obtain ⟨q, os, rfl⟩ := h
  obtain ⟨p, os', rfl⟩ := k
  refine ⟨q + p, os ++ os', ?_⟩
  show grow (grow ((a.drewN q).drewN p) os) os' = _
  rw [grow_grow]
  congr 1
  simp [World.drewN, Nat.add_assoc, Nat.add_comm, Nat.add_left_comm]
theorem Gw.alloc {a b : World} (h : Gw a b) (o : Obj) : Gw a (b.alloc o) := h.trans ⟨0, #[o], by rw [alloc_eq_grow]; rfl⟩
theorem Gw.below {a b : World} (h : Gw a b) : Below a.heap.size a b := by
  obtain ⟨q, os, rfl⟩ := h
  exact T.below_grow a q os
theorem Gw.cell {a b : World} (h : Gw a b) {g : Nat} {cs : Array Value} {t : TypeId} (hx : Hid (a.heap[g]? = some (.cells cs t (0, 0)))) (o : Nat) : b.cell? ⟨g, o, none⟩ = cs[o]? :=
  L.blk_cell ((h.below.block _ (L.blk_lt hx.out)).trans hx.out) o
theorem c_int (a b : Int) (w : World) : Calls Try.prog 25 #[.int .i64 a, .int .i64 b] w fun e w' => e = .returned (.int .i64 (cmp3 a b)) ∧ Gw w w' := (cmp_int a b w).mono fun _ _ ⟨h, k⟩ => ⟨h, k ▸ Gw.refl _⟩
theorem c_u64 (a b : Int) (w : World) : Calls Try.prog 26 #[.int .u64 a, .int .u64 b] w fun e w' => e = .returned (.int .i64 (cmp3 a b)) ∧ Gw w w' := (cmp_u64 a b w).mono fun _ _ ⟨h, k⟩ => ⟨h, k ▸ Gw.refl _⟩
theorem c_or {w : World} {g : Nat} {a b v : Int} (hv : Hid (v = if a = 0 then b else a)) (h : w.heap[g]? = some (.cells #[.int .i64 a, .int .i64 b] 3 (0, 0))) :
    Calls Try.prog 24 #[.slice (some ⟨g, 0, none⟩) 2 2] w fun e w' => e = .returned (.int .i64 v) ∧ Gw w w' :=
  (or_two g a b w (L.blk_cell h 0) (L.blk_cell h 1)).mono fun _ _ ⟨h, k⟩ => ⟨by rw [h, hv.out], k ▸ Gw.refl _⟩
set_option maxHeartbeats 4000000 in
set_option maxRecDepth 100000 in
theorem order_gw (a b : Lb) (w : World) : Calls Try.prog 13 #[lbV a, lbV b] w fun e w' => e = .returned (.int .i64 (ord a b)) ∧ Gw w w' := by
  have HO := Lib.hid (ord_cmp a b)
  obtain ⟨a1, a2⟩ := a
  obtain ⟨b1, b2⟩ := b
  simp only at HO
  obtain ⟨w1, hw1⟩ : ∃ W : World, W = w.alloc (.cells #[.int .i64 a1, .int .u64 (a2 : Int)] 25) := ⟨_, rfl⟩
  obtain ⟨w2, hw2⟩ : ∃ W : World, W = w1.alloc (.cells #[.int .i64 b1, .int .u64 (b2 : Int)] 25) := ⟨_, rfl⟩
  have HXA := Lib.hid (show w2.heap[w.heap.size]? = some (.cells #[.int .i64 a1, .int .u64 (a2 : Int)] 25 (0, 0)) by
    rw [hw2, (alloc1 _ _).block _ (by rw [hw1]; simp), hw1]
    exact heap_alloc_new w _)
  have HXB := Lib.hid (show w2.heap[w.heap.size + 1]? = some (.cells #[.int .i64 b1, .int .u64 (b2 : Int)] 25 (0, 0)) by
    rw [hw2]
    have := heap_alloc_new w1 (.cells #[.int .i64 b1, .int .u64 (b2 : Int)] 25)
    rwa [show w1.heap.size = w.heap.size + 1 by rw [hw1]; simp] at this)
  have HGW := Lib.hid (show Gw w w2 by rw [hw2, hw1]; exact ((Gw.refl w).alloc _).alloc _)
  go_enter Try.func13, Try.ntmps13
  go_upto_region 1 with fail
  rw [← hw1, ← hw2]
  clear hw1 hw2
  refine wp_region_held_drew (S := (Gw w2)) (by kernel_rfl) (Gw.drew w2) (fun hK0 => ?_)
  refine wpAnyH_take (i := 0) (oi := { dst := some 5, op := Go.Op.fieldAddr 25 (Go.Operand.tmp 2) 0, type := 0, pos := "tally.go:25", after := #[], guard := none }) (v := ?_) rfl (by kernel_rfl) (by kernel_rfl) (by kernel_rfl) (fun _ _ _ h => h) (Or.inl ⟨by rfl, ?_⟩) hK0 ?_
  rotate_left
  · (intro wz hSz; (try dsimp only at hSz); go_simp; try with_reducible rfl)
  simp only [Act.put, List.setIfInBounds_toArray, List.set_cons_zero, List.set_cons_succ]
  refine wpAnyH_take (i := 1) (oi := { dst := some 6, op := Go.Op.load 3 (Go.Operand.tmp 5), type := 3, pos := "tally.go:25", after := #[{ on := 0, ground := Go.Ground.data }], guard := none }) (v := ?_) rfl (by kernel_rfl) (by kernel_rfl) (by kernel_rfl) (fun _ _ _ h => h) (Or.inl ⟨by rfl, ?_⟩) hK0 ?_
  rotate_left
  · (intro wz hSz; have hcz := hSz.cell HXA 0; simp only [List.getElem?_toArray, List.getElem?_cons_zero, List.getElem?_cons_succ] at hcz; go_simp; try with_reducible rfl)
  simp only [Act.put, List.setIfInBounds_toArray, List.set_cons_zero, List.set_cons_succ]
  refine wpAnyH_take (i := 2) (oi := { dst := some 7, op := Go.Op.fieldAddr 25 (Go.Operand.tmp 3) 0, type := 0, pos := "tally.go:25", after := #[], guard := none }) (v := ?_) rfl (by kernel_rfl) (by kernel_rfl) (by kernel_rfl) (fun _ _ _ h => h) (Or.inl ⟨by rfl, ?_⟩) hK0 ?_
  rotate_left
  · (intro wz hSz; (try dsimp only at hSz); go_simp; try with_reducible rfl)
  simp only [Act.put, List.setIfInBounds_toArray, List.set_cons_zero, List.set_cons_succ]
  refine wpAnyH_take (i := 3) (oi := { dst := some 8, op := Go.Op.load 3 (Go.Operand.tmp 7), type := 3, pos := "tally.go:25", after := #[{ on := 2, ground := Go.Ground.data }], guard := none }) (v := ?_) rfl (by kernel_rfl) (by kernel_rfl) (by kernel_rfl) (fun _ _ _ h => h) (Or.inl ⟨by rfl, ?_⟩) hK0 ?_
  rotate_left
  · (intro wz hSz; have hcz := hSz.cell HXB 0; simp only [List.getElem?_toArray, List.getElem?_cons_zero, List.getElem?_cons_succ] at hcz; go_simp; try with_reducible rfl)
  simp only [Act.put, List.setIfInBounds_toArray, List.set_cons_zero, List.set_cons_succ]
  refine wpAnyH_take (i := 5) (oi := { dst := some 10, op := Go.Op.fieldAddr 25 (Go.Operand.tmp 2) 1, type := 0, pos := "tally.go:25", after := #[], guard := none }) (v := ?_) rfl (by kernel_rfl) (by kernel_rfl) (by kernel_rfl) (fun _ _ _ h => h) (Or.inl ⟨by rfl, ?_⟩) hK0 ?_
  rotate_left
  · (intro wz hSz; (try dsimp only at hSz); go_simp; try with_reducible rfl)
  simp only [Act.put, List.setIfInBounds_toArray, List.set_cons_zero, List.set_cons_succ]
  refine wpAnyH_take (i := 6) (oi := { dst := some 11, op := Go.Op.load 23 (Go.Operand.tmp 10), type := 23, pos := "tally.go:25", after := #[{ on := 5, ground := Go.Ground.data }], guard := none }) (v := ?_) rfl (by kernel_rfl) (by kernel_rfl) (by kernel_rfl) (fun _ _ _ h => h) (Or.inl ⟨by rfl, ?_⟩) hK0 ?_
  rotate_left
  · (intro wz hSz; have hcz := hSz.cell HXA 1; simp only [List.getElem?_toArray, List.getElem?_cons_zero, List.getElem?_cons_succ] at hcz; go_simp; try with_reducible rfl)
  simp only [Act.put, List.setIfInBounds_toArray, List.set_cons_zero, List.set_cons_succ]
  refine wpAnyH_take (i := 7) (oi := { dst := some 12, op := Go.Op.fieldAddr 25 (Go.Operand.tmp 3) 1, type := 0, pos := "tally.go:25", after := #[], guard := none }) (v := ?_) rfl (by kernel_rfl) (by kernel_rfl) (by kernel_rfl) (fun _ _ _ h => h) (Or.inl ⟨by rfl, ?_⟩) hK0 ?_
  rotate_left
  · (intro wz hSz; (try dsimp only at hSz); go_simp; try with_reducible rfl)
  simp only [Act.put, List.setIfInBounds_toArray, List.set_cons_zero, List.set_cons_succ]
  refine wpAnyH_take (i := 8) (oi := { dst := some 13, op := Go.Op.load 23 (Go.Operand.tmp 12), type := 23, pos := "tally.go:25", after := #[{ on := 7, ground := Go.Ground.data }], guard := none }) (v := ?_) rfl (by kernel_rfl) (by kernel_rfl) (by kernel_rfl) (fun _ _ _ h => h) (Or.inl ⟨by rfl, ?_⟩) hK0 ?_
  rotate_left
  · (intro wz hSz; have hcz := hSz.cell HXB 1; simp only [List.getElem?_toArray, List.getElem?_cons_zero, List.getElem?_cons_succ] at hcz; go_simp; try with_reducible rfl)
  simp only [Act.put, List.setIfInBounds_toArray, List.set_cons_zero, List.set_cons_succ]
  refine wpAnyH_ready (rs := [4]) (by kernel_rfl) (by simp) ?_
  refine AllReadyH.cons (o := { dst := some 9, op := Go.Op.call { callee := Go.Callee.value (Go.Operand.func 25), args := #[Go.Operand.tmp 6, Go.Operand.tmp 8], argTypes := #[3, 3] }, type := 3, pos := "tally.go:25", after := #[{ on := 1, ground := Go.Ground.data }, { on := 3, ground := Go.Ground.data }], guard := none }) rfl (fun K hK => ?_) AllReadyH.nil
  go_simp
  refine ((c_int a1 b1 _)).mono ?_
  rintro r wq1 ⟨rfl, hbq⟩
  go_wp2_with fail
  have hS := Gw.trans hK0 hbq
  clear hbq
  refine hK.out _ _ hS (fun hK1 => ?_)
  clear hK K hS hK0
  refine wpAnyH_ready (rs := [9]) (by kernel_rfl) (by simp) ?_
  refine AllReadyH.cons (o := { dst := some 14, op := Go.Op.call { callee := Go.Callee.value (Go.Operand.func 26), args := #[Go.Operand.tmp 11, Go.Operand.tmp 13], argTypes := #[23, 23] }, type := 3, pos := "tally.go:25", after := #[{ on := 6, ground := Go.Ground.data }, { on := 8, ground := Go.Ground.data }, { on := 4, ground := Go.Ground.chain }], guard := none }) rfl (fun K hK => ?_) AllReadyH.nil
  go_simp
  refine ((c_u64 (a2 : Int) (b2 : Int) _)).mono ?_
  rintro r wq2 ⟨rfl, hbq⟩
  go_wp2_with fail
  have hS := Gw.trans hK1 hbq
  clear hbq
  refine hK.out _ _ hS (fun hK2 => ?_)
  clear hK K hS hK1
  refine wpAnyH_ready (rs := [10]) (by kernel_rfl) (by simp) ?_
  refine AllReadyH.cons (o := { dst := some 15, op := Go.Op.buildSlice 60 2 #[(0, Go.Operand.tmp 9), (1, Go.Operand.tmp 14)], type := 60, pos := "tally.go:25", after := #[{ on := 4, ground := Go.Ground.data }, { on := 9, ground := Go.Ground.data }], guard := none }) rfl (fun K hK => ?_) AllReadyH.nil
  go_simp
  obtain ⟨wq3, hwq⟩ : ∃ W : World, W = (wq2.alloc (.cells #[.int .i64 (cmp3 a1 b1), .int .i64 (cmp3 (a2 : Int) (b2 : Int))] 3)) := ⟨_, rfl⟩
  rw [← hwq]
  have hS : Gw w2 wq3 := by rw [hwq]; exact hK2.alloc _
  have hg : wq3.heap[wq2.heap.size]? = some (.cells #[.int .i64 (cmp3 a1 b1), .int .i64 (cmp3 (a2 : Int) (b2 : Int))] 3 (0, 0)) := by rw [hwq]; exact heap_alloc_new wq2 _
  obtain ⟨g, hgn⟩ : ∃ g, g = wq2.heap.size := ⟨_, rfl⟩
  rw [← hgn] at hg ⊢
  have HG := Lib.hid hg
  clear hg hgn hwq
  refine hK.out _ _ hS (fun hK3 => ?_)
  clear hK K hS hK2
  refine wpAnyH_ready (rs := [11]) (by kernel_rfl) (by simp) ?_
  refine AllReadyH.cons (o := { dst := some 16, op := Go.Op.call { callee := Go.Callee.value (Go.Operand.func 24), args := #[Go.Operand.tmp 15], argTypes := #[60] }, type := 3, pos := "tally.go:25", after := #[{ on := 10, ground := Go.Ground.data }, { on := 9, ground := Go.Ground.chain }], guard := none }) rfl (fun K hK => ?_) AllReadyH.nil
  go_simp
  refine ((c_or HO HG.out)).mono ?_
  rintro r wq4 ⟨rfl, hbq⟩
  go_wp2_with fail
  have hS := Gw.trans hK3 hbq
  clear hbq
  refine hK.out _ _ hS (fun hK4 => ?_)
  clear hK K hS hK3
  refine wpAnyH_take (i := 12) (oi := { dst := some 4, op := Go.Op.assign (Go.Operand.tmp 16), type := 3, pos := "tally.go:25", after := #[{ on := 11, ground := Go.Ground.data }, { on := 11, ground := Go.Ground.chain }, { on := 0, ground := Go.Ground.phase }, { on := 1, ground := Go.Ground.phase }, { on := 2, ground := Go.Ground.phase }, { on := 3, ground := Go.Ground.phase }, { on := 4, ground := Go.Ground.phase }, { on := 5, ground := Go.Ground.phase }, { on := 6, ground := Go.Ground.phase }, { on := 7, ground := Go.Ground.phase }, { on := 8, ground := Go.Ground.phase }, { on := 9, ground := Go.Ground.phase }, { on := 10, ground := Go.Ground.phase }, { on := 11, ground := Go.Ground.phase }], guard := none }) (v := ?_) rfl (by kernel_rfl) (by kernel_rfl) (by kernel_rfl) (fun _ _ _ h => h) (Or.inl ⟨by rfl, ?_⟩) hK4 ?_
  rotate_left
  · (intro wz hSz; (try dsimp only at hSz); go_simp; try with_reducible rfl)
  simp only [Act.put, List.setIfInBounds_toArray, List.set_cons_zero, List.set_cons_succ]
  refine wpAnyH_done (by kernel_rfl) ?_ _
  go_wp2_with fail
  go_ret
  exact ⟨rfl, HGW.out.trans hK4⟩
end Go.Proofs.Ytmddikabilnokaa.Ta

namespace Go.Proofs.Ytmddikabilnokaa.V
set_option linter.unusedVariables false
set_option linter.unusedSimpArgs false
open Go.RowKit
open T
open I (It Lb ItemsIn ItemsAt ItemsOk itCells itCells_snoc itCells_at items_cells items_own own_at own_below infoItem alloc1)

def OfEnd (w : World) (o : Lb) (h : List UInt8) (l : List It) (e : Ending) (w' : World) : Prop :=
  (∃ vl va, e = .returned (.agg #[vl, va]) ∧ w'.ownsRow w.heap.size 42 2 vl (lns h (cut o l)).length (lineCells (lns h (cut o l))) ∧ w'.ownsRow w.heap.size 3 1 va (atI o l).length (numCells (atI o l))) ∧ Below w.heap.size w w'
end Go.Proofs.Ytmddikabilnokaa.V

namespace Go.Proofs.Ytmddikabilnokaa.T
open Go.RowKit

/-- Is there a byte 10? -/
def hasNl (l : List UInt8) : Bool := l.contains 10
theorem has_at {s : ByteArray} {k : Nat} (hk : k < s.size) (h : (s[k].toNat : Int) = 10) : hasNl s.data.toList = true := by
  unfold hasNl
  have hl : k < s.data.toList.length := by rw [← Lib.size_eq]; exact hk
  rw [List.contains_iff_mem]
  have : s.data.toList[k] = 10 := by rw [byte s k hk hl]; exact UInt8.toNat_inj.1 (show s[k].toNat = 10 by omega)
  rw [← this]; exact List.getElem_mem hl
theorem has_none {s : ByteArray} (h : ∀ j (hj : j < s.size), ¬ (s[j].toNat : Int) = 10) : hasNl s.data.toList = false := by
  unfold hasNl
  rw [← Bool.not_eq_true, List.contains_iff_mem]
  intro hm
  obtain ⟨j, hj, e⟩ := List.getElem_of_mem hm
  have hj' : j < s.size := by rw [Lib.size_eq]; exact hj
  rw [byte s j hj' hj] at e
  exact h j hj' (by rw [e]; rfl)

theorem right_step {xs : List (List UInt8 × Bool)} {k : Nat} (hk : k < xs.length) : P.right (xs.drop k) = (!(hasNl xs[k].1) && !(xs[k].2 && (decide (k + 1 < xs.length) || xs[k].1.isEmpty)) && P.right (xs.drop (k + 1))) := by
  unfold hasNl
  rw [drop_line hk, P.right]
  congr 4
  cases h : (xs.drop (k + 1)).isEmpty with
  | true =>
    have := List.isEmpty_iff.1 h
    have := congrArg List.length this
    simp at this
    rw [decide_eq_false (by omega)]; rfl
  | false =>
    rw [decide_eq_true]; rfl
    have : ¬ xs.drop (k + 1) = [] := fun e => by rw [e] at h; cases h
    rcases Nat.lt_or_ge (k + 1) xs.length with h' | h'
    · exact h'
    · exact absurd (List.drop_eq_nil_of_le h') this
end Go.Proofs.Ytmddikabilnokaa.T

namespace Go.Proofs.Ytmddikabilnokaa.T
open Go.RowKit

end Go.Proofs.Ytmddikabilnokaa.T

namespace Go.Proofs.Ytmddikabilnokaa.P

/-- The digits of a list read on from n, without a bound. -/
def valGo : List UInt8 → Nat → Option Nat
  | [], n => some n
  | c :: r, n => if c.toNat < 48 ∨ 57 < c.toNat then none else valGo r (10 * n + (c.toNat - 48))
/-- Asked at the end. -/
def upTo (o : Option Nat) : Option Nat := o.bind fun m => if 2147483647 < m then none else some m

theorem valGo_ge : ∀ (l : List UInt8) (n m : Nat), valGo l n = some m → n * 10 ^ l.length ≤ m
  | [], n, m, h => by simp [valGo] at h; simp; omega
  | c :: r, n, m, h => by
    rw [valGo] at h
    split at h
    · cases h
    · have := valGo_ge r _ m h
      rw [List.length_cons, Nat.pow_succ]
      have e : (10 * n) * 10 ^ r.length ≤ (10 * n + (c.toNat - 48)) * 10 ^ r.length := Nat.mul_le_mul_right _ (by omega)
      have e2 : n * (10 ^ r.length * 10) = (10 * n) * 10 ^ r.length := by rw [Nat.mul_comm (10 ^ r.length) 10, ← Nat.mul_assoc, Nat.mul_comm n 10]
      omega
theorem valGo_le (l : List UInt8) (n m : Nat) (h : valGo l n = some m) : n ≤ m := by
  have h1 := valGo_ge l n m h
  have h2 : n * 1 ≤ n * 10 ^ l.length := Nat.mul_le_mul_left _ (Nat.pow_pos (by omega))
  omega

theorem numGo_val : ∀ (l : List UInt8) (n : Nat), n ≤ 2147483647 → numGo l n = upTo (valGo l n)
  | [], n, h => by simp [numGo, valGo, upTo]; omega
  | c :: r, n, h => by
    rw [numGo, valGo]
    split
    · rfl
    · split
      · next hb =>
        cases e : valGo r (10 * n + (c.toNat - 48)) with
        | none => rfl
        | some m =>
          have := valGo_le _ _ _ e
          simp [upTo]; omega
      · next hb => exact numGo_val r _ (by omega)

/-- Too long: more than ten digits without a 0 ahead. -/
theorem number_long (l : List UInt8) (h : 10 < l.length) : number l = none := by
  rw [number]
  split
  · rfl
  · next hc =>
    match l, h, hc with
    | c :: r, h, hc =>
      rw [numGo_val _ _ (by omega)]
      cases e : valGo (c :: r) 0 with
      | none => rfl
      | some m =>
        have hne : c ≠ 48 := fun e => hc (.inr ⟨by rw [e]; rfl, by simp at h ⊢; omega⟩)
        rw [valGo] at e
        split at e
        · cases e
        · next hd =>
          have h1 := valGo_ge r _ m e
          have hc48 : c.toNat ≠ 48 := fun e => hne (UInt8.toNat_inj.1 e)
          have h2 : 1 * 10 ^ 10 ≤ (10 * 0 + (c.toNat - 48)) * 10 ^ r.length :=
            Nat.mul_le_mul (by omega) (Nat.pow_le_pow_right (by omega) (by simp at h; omega))
          simp [upTo]; omega
theorem number_val (l : List UInt8) (h0 : l ≠ []) (h : ¬ (1 < l.length ∧ l.head? = some 48)) : number l = upTo (valGo l 0) := by
  rw [number, if_neg (by rintro (e | e); exact h0 e; exact h ⟨e.2, e.1⟩), numGo_val _ _ (by omega)]

theorem numGo_snoc : ∀ (l : List UInt8) (c : UInt8) (n : Nat), numGo (l ++ [c]) n = (numGo l n).bind fun m => numGo [c] m
  | [], c, n => by simp [numGo]
  | x :: r, c, n => by
    rw [List.cons_append, numGo, numGo]
    split
    · rfl
    · split
      · rfl
      · exact numGo_snoc r c _

theorem digit (d : Nat) (h : d < 10) : (UInt8.ofNat (48 + d)).toNat = 48 + d := by
  rw [UInt8.toNat_ofNat']; omega
theorem digit_of (c : UInt8) (h : 48 ≤ c.toNat) (h2 : c.toNat ≤ 57) : UInt8.ofNat (48 + (c.toNat - 48)) = c := by
  rw [show 48 + (c.toNat - 48) = c.toNat by omega]; simp

theorem numGo_dec (u : Nat) (h : u ≤ 2147483647) : numGo (Lib.decDigits u) 0 = some u := by
  induction u using Nat.strongRecOn with
  | ind u ih =>
    rw [Lib.decDigits]
    split
    · next hu => rw [numGo, digit u hu, if_neg (by omega), if_neg (by omega), numGo]; congr 1; omega
    · next hu =>
      rw [numGo_snoc, ih (u / 10) (by omega) (by omega)]
      show numGo [_] (u / 10) = _
      rw [numGo, digit _ (by omega), if_neg (by omega), if_neg (by omega), numGo]
      congr 1; omega
theorem dec_ne (u : Nat) : Lib.decDigits u ≠ [] := by
  rw [Lib.decDigits]; split <;> simp
theorem dec_head (u : Nat) : 1 ≤ u → (Lib.decDigits u).head? ≠ some 48 := by
  induction u using Nat.strongRecOn with
  | ind u ih =>
    intro hu1
    rw [Lib.decDigits]
    split
    · next hu =>
      simp only [List.head?_cons, ne_eq, Option.some.injEq]
      intro e
      have := congrArg UInt8.toNat e
      rw [digit u hu] at this
      simp at this; omega
    · next hu =>
      have hne := dec_ne (u / 10)
      have := ih (u / 10) (by omega) (by omega)
      cases e : Lib.decDigits (u / 10) with
      | nil => exact absurd e hne
      | cons x r => rw [e] at this; simpa using this
theorem number_dec (u : Nat) (h : u ≤ 2147483647) : number (Lib.decDigits u) = some u := by
  rw [number, if_neg, numGo_dec u h]
  rintro (e | ⟨e1, e2⟩)
  · exact dec_ne u e
  · rcases Nat.eq_zero_or_pos u with h0 | h0
    · subst h0; rw [Lib.decDigits_one (by omega)] at e2; simp at e2
    · exact dec_head u h0 e1

theorem numGo_le (l : List UInt8) (n m : Nat) (hn : n ≤ 2147483647) (h : numGo l n = some m) : n ≤ m ∧ m ≤ 2147483647 := by
  rw [numGo_val l n hn] at h
  cases e : valGo l n with
  | none => rw [e] at h; cases h
  | some k =>
    rw [e] at h
    have := valGo_le l n k e
    simp only [upTo, Option.bind_some] at h
    split at h
    · cases h
    · injection h with h; omega

theorem dec_numGo (l : List UInt8) : ∀ n, l ≠ [] → (l.head? = some 48 → l.length = 1) → numGo l 0 = some n → Lib.decDigits n = l := by
  induction hl : l.length generalizing l with
  | zero => intro n h; exact absurd (List.eq_nil_of_length_eq_zero hl) h
  | succ k ih =>
    intro n hne hz h
    obtain ⟨i, c, rfl⟩ : ∃ i c, l = i ++ [c] := ⟨l.dropLast, l.getLast hne, (List.dropLast_concat_getLast hne).symm⟩
    rw [numGo_snoc] at h
    cases em : numGo i 0 with
    | none => rw [em] at h; cases h
    | some m =>
      rw [em] at h
      simp only [Option.bind_some, numGo] at h
      split at h
      · cases h
      · next hd =>
        split at h
        · cases h
        · next hb =>
          injection h with h
          subst h
          by_cases hi : i = []
          · subst hi
            simp only [numGo, Option.some.injEq] at em
            subst em
            rw [Lib.decDigits_one (by omega), show 48 + (10 * 0 + (c.toNat - 48)) = 48 + (c.toNat - 48) by omega, digit_of c (by omega) (by omega)]
            rfl
          · have hih := ih i (by simp at hl; omega) m hi (fun e => by
              have : (i ++ [c]).head? = some 48 := by
                cases i with
                | nil => exact absurd rfl hi
                | cons x r => simpa using e
              have := hz this
              have hik : i.length = k := by simp at hl; omega
              exact absurd (List.eq_nil_of_length_eq_zero (by omega)) hi) em
            have hm : 1 ≤ m := by
              rcases Nat.eq_zero_or_pos m with h0 | h0
              · subst h0
                rw [Lib.decDigits_one (by omega)] at hih
                have : (i ++ [c]).head? = some 48 := by rw [← hih]; rfl
                have := hz this
                have hik : i.length = k := by simp at hl; omega
                exact absurd (List.eq_nil_of_length_eq_zero (by omega)) hi
              · exact h0
            rw [Lib.decDigits, dif_neg (by omega), show (10 * m + (c.toNat - 48)) / 10 = m by omega, show (10 * m + (c.toNat - 48)) % 10 = c.toNat - 48 by omega, hih, digit_of c (by omega) (by omega)]
theorem dec_number (l : List UInt8) (n : Nat) (h : number l = some n) : Lib.decDigits n = l ∧ n ≤ 2147483647 := by
  rw [number] at h
  split at h
  · cases h
  · next hc =>
    refine ⟨dec_numGo l n (fun e => hc (.inl e)) (fun e => ?_) h, (numGo_le l 0 n (by omega) h).2⟩
    have : ¬ 1 < l.length := fun e2 => hc (.inr ⟨e, e2⟩)
    cases l with
    | nil => simp at e
    | cons x r => simp at this ⊢; omega

theorem decimal_in (n : Int) (h0 : 0 ≤ n) (h1 : n ≤ 2147483647) : decimal n = Lib.decDigits n.toNat := by rw [decimal, if_neg (by omega)]
theorem decimal_out (n : Int) (h : n < 0 ∨ 2147483647 < n) : decimal n = [63] := by rw [decimal, if_pos h]
theorem number_decimal (n : Int) (h0 : 0 ≤ n) (h1 : n ≤ 2147483647) : number (decimal n) = some n.toNat := by
  rw [decimal_in n h0 h1, number_dec _ (by omega)]
theorem number_untold (n : Int) (h : n < 0 ∨ 2147483647 < n) : number (decimal n) = none := by
  rw [decimal_out n h]; decide
theorem decimal_number (l : List UInt8) (n : Nat) (h : number l = some n) : decimal n = l := by
  have := dec_number l n h
  rw [decimal_in n (by omega) (by omega)]
  simpa using this.1
theorem decimal_length (n : Int) : (decimal n).length ≤ 10 := by
  by_cases h : n < 0 ∨ 2147483647 < n
  · rw [decimal_out n h]; decide
  · rw [decimal_in n (by omega) (by omega)]
    rcases Nat.lt_or_ge 10 (Lib.decDigits n.toNat).length with hl | hl
    · have := number_long _ hl
      rw [number_dec _ (by omega)] at this
      cases this
    · exact hl
end Go.Proofs.Ytmddikabilnokaa.P

namespace Go.Proofs.Ytmddikabilnokaa.T
open Go.RowKit

theorem list_data (l : List UInt8) : (⟨l.toArray⟩ : ByteArray).data.toList = l := by simp
theorem list_size (l : List UInt8) : (⟨l.toArray⟩ : ByteArray).size = l.length := by simp [ByteArray.size]
theorem str_eta (s : ByteArray) : (⟨s.data.toList.toArray⟩ : ByteArray) = s := by cases s; simp

end Go.Proofs.Ytmddikabilnokaa.T

namespace Go.Proofs.Ytmddikabilnokaa.T
open Go.RowKit

/-- May a text be a name? -/
theorem name_long (s : ByteArray) (h : s.size < 1 ∨ 64 < s.size) : P.name s.data.toList = false := by
  unfold P.name; rw [← Lib.size_eq]
  rcases h with h | h
  · rw [decide_eq_false (by omega)]; rfl
  · rw [decide_eq_false (p := s.size ≤ 64) (by omega), Bool.and_false]; rfl
theorem name_all (s : ByteArray) (h1 : 1 ≤ s.size) (h2 : s.size ≤ 64) : P.name s.data.toList = s.data.toList.all fun c => decide (33 ≤ c.toNat) && decide (c.toNat ≤ 126) := by
  unfold P.name; rw [← Lib.size_eq, decide_eq_true h1, decide_eq_true h2]; rfl
theorem all_bad (s : ByteArray) (k : Nat) (hk : k < s.size) (h : (s[k].toNat : Int) < 33 ∨ 126 < (s[k].toNat : Int)) : (s.data.toList.all fun c => decide (33 ≤ c.toNat) && decide (c.toNat ≤ 126)) = false := by
  have hl : k < s.data.toList.length := by rw [← Lib.size_eq]; exact hk
  rw [List.all_eq_false]
  refine ⟨s.data.toList[k], List.getElem_mem hl, ?_⟩
  rw [byte s k hk hl]
  simp only [Bool.and_eq_true, decide_eq_true_eq, not_and]
  omega

end Go.Proofs.Ytmddikabilnokaa.T

namespace Go.Proofs.Ytmddikabilnokaa.T
open Go.RowKit

theorem val_bad (s : ByteArray) (k n : Nat) (hk : k < s.size) (h : (s[k].toNat : Int) < 48 ∨ 57 < (s[k].toNat : Int)) : P.valGo (s.data.toList.drop k) n = none := by
  have hl : k < s.data.toList.length := by rw [← Lib.size_eq]; exact hk
  rw [List.drop_eq_getElem_cons hl, P.valGo, if_pos (by rw [byte s k hk hl]; omega)]
theorem val_on (s : ByteArray) (k n : Nat) (hk : k < s.size) (h1 : 48 ≤ (s[k].toNat : Int)) (h2 : (s[k].toNat : Int) ≤ 57) :
    P.valGo (s.data.toList.drop k) n = P.valGo (s.data.toList.drop (k + 1)) (10 * n + (s[k].toNat - 48)) := by
  have hl : k < s.data.toList.length := by rw [← Lib.size_eq]; exact hk
  have e := byte s k hk hl
  rw [List.drop_eq_getElem_cons hl, P.valGo, if_neg (by rw [e]; omega), e]
theorem val_end (s : ByteArray) (n : Nat) : P.valGo (s.data.toList.drop s.size) n = some n := by
  rw [Lib.size_eq, List.drop_length, P.valGo]
theorem pow_bound {n d k : Nat} (h : n < 10 ^ k) (hd : d < 10) (hk : k < 10) : 10 * n + d < 10 ^ (k + 1) ∧ 10 * n + d ≤ 9999999999 := by
  have h1 : 10 * n + d < 10 ^ (k + 1) := by rw [Nat.pow_succ]; omega
  have h2 : 10 ^ (k + 1) ≤ 10 ^ 10 := Nat.pow_le_pow_right (by omega) (by omega)
  omega
theorem number_val (s : ByteArray) (h : 0 < s.size) (h0 : s.size ≤ 1 ∨ ¬ s[0].toNat = 48) : P.number s.data.toList = P.upTo (P.valGo s.data.toList 0) := by
  rw [number_go s h (by rcases h0 with h0 | h0; exact .inl (by omega); exact .inr h0), P.numGo_val _ _ (by omega)]
theorem upTo_none : P.upTo none = none := rfl
theorem upTo_big (n : Nat) (h : 2147483647 < n) : P.upTo (some n) = none := by simp [P.upTo, h]
theorem upTo_in (n : Nat) (h : n ≤ 2147483647) : P.upTo (some n) = some n := by simp [P.upTo]; omega

end Go.Proofs.Ytmddikabilnokaa.T

namespace Go.Proofs.Ytmddikabilnokaa.T
open Go.RowKit

theorem bcell {W w1 : World} (hb : Below W.heap.size W w1) (b o : Nat) (h : b < W.heap.size) : w1.cell? ⟨b, o, none⟩ = W.cell? ⟨b, o, none⟩ := hb.cell (p := ⟨b, o, none⟩) h
theorem dec_small (m : Nat) (h : m < 10) : Lib.decDigits m = [UInt8.ofNat (48 + m)] := Lib.decDigits_one h
theorem dec_big (m : Nat) (h : ¬ m < 10) : Lib.decDigits m = Lib.decDigits (m / 10) ++ [UInt8.ofNat (48 + m % 10)] := by
  conv => lhs; rw [Lib.decDigits, dif_neg h]
theorem str_append (l r : List UInt8) : (⟨l.toArray⟩ : ByteArray) ++ ⟨r.toArray⟩ = ⟨(l ++ r).toArray⟩ := by
  apply ByteArray.ext
  simp

end Go.Proofs.Ytmddikabilnokaa.T

namespace Go.Proofs.Ytmddikabilnokaa.T
open Go.RowKit

theorem lines_nl {l cur : List UInt8} {k : Nat} (hk : k < l.length) (h : l[k].toNat = 10) : P.lines cur (l.drop k) = (cur, false) :: P.lines [] (l.drop (k + 1)) := by
  rw [List.drop_eq_getElem_cons hk, P.lines, if_pos (UInt8.toNat_inj.1 h)]
theorem lines_more {l cur : List UInt8} {k : Nat} (hk : k < l.length) (h : ¬ l[k].toNat = 10) : P.lines cur (l.drop k) = P.lines (cur ++ [l[k]]) (l.drop (k + 1)) := by
  rw [List.drop_eq_getElem_cons hk, P.lines, if_neg (fun e => h (by rw [e]; rfl))]

end Go.Proofs.Ytmddikabilnokaa.T

namespace Go.Proofs.Ytmddikabilnokaa.T
open Go.RowKit

end Go.Proofs.Ytmddikabilnokaa.T

namespace Go.Proofs.Ytmddikabilnokaa.V
set_option linter.unusedVariables false
set_option linter.unusedSimpArgs false
open Go.RowKit
open T
open I (It Lb ItemsIn ItemsAt ItemsOk itCells itCells_snoc itCells_at items_cells items_own own_at own_below infoItem alloc1)

def VoEnd (W : World) (ls : List (List UInt8 × Bool)) (ts : List Int) (e : Ending) (w' : World) : Prop :=
  ∃ LA lcap TA tcap, e = .returned (.agg #[.slice LA ls.length lcap, .slice TA ts.length tcap]) ∧ w'.ownsRow W.heap.size 42 2 (.slice LA ls.length lcap) ls.length (lineCells ls) ∧ w'.ownsRow W.heap.size 3 1 (.slice TA ts.length tcap) ts.length (numCells ts) ∧ Below W.heap.size W w'
theorem lines_own {w : World} {base : Nat} {A : Option Addr} {cap : Nat} {xs : List (List UInt8 × Bool)} (h : w.ownsRow base 42 2 (.slice A xs.length cap) xs.length (lineCells xs)) : LinesIn w A xs := by
  obtain ⟨A', cap', hv, _, hI⟩ := lines_of_own h
  injection hv with e1
  subst e1
  exact hI
/-- A row of a call's own stays when a cell of a block of another type is stored. -/
theorem own_stored {w : World} {base g i : Nat} {u : Value} {e e' : TypeId} {size n : Nat} {v : Value} {xs : List Value} {cs : Array Value} (h : w.ownsRow base e size v n xs) (hg : w.heap[g]? = some (.cells cs e' (0, 0))) (hne : e' ≠ e) : (w.setCell ⟨g, i, none⟩ u).ownsRow base e size v n xs :=
  h.kept (grown_set w ⟨g, i, none⟩ u) (own_ne h fun cs' he => by rw [hg] at he; injection he with he; injection he with _ he; exact hne he)
/-- Of: a view of these lines and places. -/
def VoC (fn : FuncId) (A : Option Addr) (n cap : Nat) (f0 : Int) (f1 : Nat) (hx : ByteArray) (l : List It) (ls : List (List UInt8 × Bool)) (ts : List Int) : Prop :=
  ∀ W : World, ItemsIn W A l → Calls Try.prog fn #[.slice A n cap, .agg #[.int .i64 f0, .int .u64 (f1 : Int)], .string hx] W (VoEnd W ls ts)
theorem VoC.at {fn : FuncId} {A : Option Addr} {n cap : Nat} {f0 : Int} {f1 : Nat} {hx : ByteArray} {l : List It} {ls : List (List UInt8 × Bool)} {ts : List Int} (h : VoC fn A n cap f0 f1 hx l ls ts) (W : World) (h1 : ItemsIn W A l) :
    Calls Try.prog fn #[.slice A n cap, .agg #[.int .i64 f0, .int .u64 (f1 : Int)], .string hx] W (VoEnd W ls ts) := h W h1
def LvC (fn : FuncId) : Prop := ∀ W : World, Calls Try.prog fn #[] W fun e w' => e = .returned (.bool true) ∧ Below W.heap.size W w'
theorem LvC.at {fn : FuncId} (h : LvC fn) (W : World) : Calls Try.prog fn #[] W fun e w' => e = .returned (.bool true) ∧ Below W.heap.size W w' := h W
/-- same, of two views of the same lines and places. -/
def SvC (fn : FuncId) (ls : List (List UInt8 × Bool)) (ts : List Int) : Prop := ∀ (W : World) (LA TA LB TB : Option Addr) (lc tc lc' tc' : Nat), LinesIn W LA ls → IntsIn W TA ts → LinesIn W LB ls → IntsIn W TB ts →
  Calls Try.prog fn #[.agg #[.slice LA ls.length lc, .slice TA ts.length tc], .agg #[.slice LB ls.length lc', .slice TB ts.length tc']] W fun e w' => e = .returned (.bool true) ∧ Below W.heap.size W w'
theorem SvC.at {fn : FuncId} {ls : List (List UInt8 × Bool)} {ts : List Int} (h : SvC fn ls ts) (W : World) {LA TA LB TB : Option Addr} {lc tc lc' tc' : Nat} (h1 : LinesIn W LA ls) (h2 : IntsIn W TA ts) (h3 : LinesIn W LB ls) (h4 : IntsIn W TB ts) :
  Calls Try.prog fn #[.agg #[.slice LA ls.length lc, .slice TA ts.length tc], .agg #[.slice LB ls.length lc', .slice TB ts.length tc']] W fun e w' => e = .returned (.bool true) ∧ Below W.heap.size W w' := h W LA TA LB TB lc tc lc' tc' h1 h2 h3 h4
def BsEnd (W : World) (b : List UInt8) (e : Ending) (w' : World) : Prop := ∃ A cap, e = .returned (.slice A b.length cap) ∧ BytesIn w' A b ∧ Below W.heap.size W w'
/-- Text, of a view. -/
def TxC (fn : FuncId) (ls : List (List UInt8 × Bool)) (b : List UInt8) : Prop := ∀ (W : World) (LA TA : Option Addr) (lc tn tc : Nat), LinesIn W LA ls → Calls Try.prog fn #[.agg #[.slice LA ls.length lc, .slice TA tn tc]] W (BsEnd W b)
theorem TxC.at {fn : FuncId} {ls : List (List UInt8 × Bool)} {b : List UInt8} (h : TxC fn ls b) (W : World) {LA TA : Option Addr} {lc tn tc : Nat} (h1 : LinesIn W LA ls) : Calls Try.prog fn #[.agg #[.slice LA ls.length lc, .slice TA tn tc]] W (BsEnd W b) := h W LA TA lc tn tc h1
/-- Join, of lines. -/
def JnC (fn : FuncId) (ls : List (List UInt8 × Bool)) (b : List UInt8) : Prop := ∀ (W : World) (LA : Option Addr) (lc : Nat), LinesIn W LA ls → Calls Try.prog fn #[.slice LA ls.length lc] W (BsEnd W b)
theorem JnC.at {fn : FuncId} {ls : List (List UInt8 × Bool)} {b : List UInt8} (h : JnC fn ls b) (W : World) {LA : Option Addr} {lc : Nat} (h1 : LinesIn W LA ls) : Calls Try.prog fn #[.slice LA ls.length lc] W (BsEnd W b) := h W LA lc h1
def NsEnd (W : World) (ds : List Int) (e : Ending) (w' : World) : Prop := ∃ A cap, e = .returned (.slice A ds.length cap) ∧ IntsIn w' A ds ∧ Below W.heap.size W w'
/-- IDs, of a view. -/
def IdC (fn : FuncId) (A : Option Addr) (n cap : Nat) (l : List It) (ts ds : List Int) : Prop := ∀ (W : World) (LA TA : Option Addr) (ln lc tc : Nat), ItemsIn W A l → IntsIn W TA ts → Calls Try.prog fn #[.slice A n cap, .agg #[.slice LA ln lc, .slice TA ts.length tc]] W (NsEnd W ds)
theorem IdC.at {fn : FuncId} {A : Option Addr} {n cap : Nat} {l : List It} {ts ds : List Int} (h : IdC fn A n cap l ts ds) (W : World) {LA TA : Option Addr} {ln lc tc : Nat} (h1 : ItemsIn W A l) (h2 : IntsIn W TA ts) :
    Calls Try.prog fn #[.slice A n cap, .agg #[.slice LA ln lc, .slice TA ts.length tc]] W (NsEnd W ds) := h W LA TA ln lc tc h1 h2
/-- Ints, of the same numbers. -/
def InC (fn : FuncId) (ds : List Int) : Prop := ∀ (W : World) (A B : Option Addr) (c c' : Nat), IntsIn W A ds → IntsIn W B ds → Calls Try.prog fn #[.slice A ds.length c, .slice B ds.length c'] W fun e w' => e = .returned (.bool true) ∧ Below W.heap.size W w'
theorem InC.at {fn : FuncId} {ds : List Int} (h : InC fn ds) (W : World) {A B : Option Addr} {c c' : Nat} (h1 : IntsIn W A ds) (h2 : IntsIn W B ds) : Calls Try.prog fn #[.slice A ds.length c, .slice B ds.length c'] W fun e w' => e = .returned (.bool true) ∧ Below W.heap.size W w' := h W A B c c' h1 h2
def IsEnd (W : World) (c : List It) (e : Ending) (w' : World) : Prop := ∃ A cap, e = .returned (.slice A c.length cap) ∧ ItemsIn w' A c ∧ Below W.heap.size W w'
/-- Cut. -/
def CuC (fn : FuncId) (A : Option Addr) (n cap : Nat) (f0 : Int) (f1 : Nat) (l c : List It) : Prop := ∀ W : World, ItemsIn W A l → Calls Try.prog fn #[.slice A n cap, .agg #[.int .i64 f0, .int .u64 (f1 : Int)]] W (IsEnd W c)
theorem CuC.at {fn : FuncId} {A : Option Addr} {n cap : Nat} {f0 : Int} {f1 : Nat} {l c : List It} (h : CuC fn A n cap f0 f1 l c) (W : World) (h1 : ItemsIn W A l) : Calls Try.prog fn #[.slice A n cap, .agg #[.int .i64 f0, .int .u64 (f1 : Int)]] W (IsEnd W c) := h W h1
/-- sameItems, of the same items. -/
def SiC (fn : FuncId) (ds : List It) : Prop := ∀ (W : World) (A B : Option Addr) (c c' : Nat), ItemsIn W A ds → ItemsIn W B ds → Calls Try.prog fn #[.slice A ds.length c, .slice B ds.length c'] W fun e w' => e = .returned (.bool true) ∧ Below W.heap.size W w'
theorem SiC.at {fn : FuncId} {ds : List It} (h : SiC fn ds) (W : World) {A B : Option Addr} {c c' : Nat} (h1 : ItemsIn W A ds) (h2 : ItemsIn W B ds) : Calls Try.prog fn #[.slice A ds.length c, .slice B ds.length c'] W fun e w' => e = .returned (.bool true) ∧ Below W.heap.size W w' := h W A B c c' h1 h2

/-- sameItems, of any items. -/
def SgC (fn : FuncId) (xs ys : List It) (b : Bool) : Prop := ∀ (W : World) (A B : Option Addr) (c c' : Nat), ItemsIn W A xs → ItemsIn W B ys → Calls Try.prog fn #[.slice A xs.length c, .slice B ys.length c'] W fun e w' => e = .returned (.bool b) ∧ Below W.heap.size W w'
theorem SgC.at {fn : FuncId} {xs ys : List It} {b : Bool} (h : SgC fn xs ys b) (W : World) {A B : Option Addr} {c c' : Nat} (h1 : ItemsIn W A xs) (h2 : ItemsIn W B ys) : Calls Try.prog fn #[.slice A xs.length c, .slice B ys.length c'] W fun e w' => e = .returned (.bool b) ∧ Below W.heap.size W w' := h W A B c c' h1 h2
/-- The first place that is n, counted from a number on. -/
def fnd (n : Int) : Nat → List Int → Option Nat
  | _, [] => none
  | k, x :: r => if x = n then some k else fnd n (k + 1) r
def fndK (o : Option Nat) : Int := match o with | some i => (i : Int) | none => 0
theorem fnd_drop {n : Int} {ts : List Int} {j : Nat} (hj : j < ts.length) : fnd n j (ts.drop j) = if ts[j] = n then some j else fnd n (j + 1) (ts.drop (j + 1)) := by
  rw [List.drop_eq_getElem_cons hj, fnd]
/-- Is i no place where an item can be put in? -/
def aftNo (ts : List Int) (n : Int) : Bool := decide (n < 0) || decide ((ts.length : Int) < n) || (decide (0 < n) && (decide (ts.getD (n - 1).toNat 0 < 0) || decide (1073741824 ≤ ts.getD (n - 1).toNat 0)))
/-- Where an item is put in ahead of line n, and an error. -/
def aftK (ts : List Int) (n : Int) : Int := if aftNo ts n = true then 0 else if 0 < n then ts.getD (n - 1).toNat 0 + 1 else 0
def aftE (ts : List Int) (n : Int) : Int := if aftNo ts n = true then 2 else 0
def FdC (fn : FuncId) (ts : List Int) (n k : Int) (b : Bool) : Prop := ∀ (W : World) (LA TA : Option Addr) (ln lc tc : Nat), IntsIn W TA ts → Calls Try.prog fn #[.agg #[.slice LA ln lc, .slice TA ts.length tc], .int .i64 n] W fun e w' => e = .returned (.tuple #[.int .i64 k, .bool b]) ∧ Below W.heap.size W w'
theorem FdC.at {fn : FuncId} {ts : List Int} {n k : Int} {b : Bool} (h : FdC fn ts n k b) (W : World) {LA TA : Option Addr} {ln lc tc : Nat} (h1 : IntsIn W TA ts) : Calls Try.prog fn #[.agg #[.slice LA ln lc, .slice TA ts.length tc], .int .i64 n] W fun e w' => e = .returned (.tuple #[.int .i64 k, .bool b]) ∧ Below W.heap.size W w' := h W LA TA ln lc tc h1
def AfC (fn : FuncId) (ts : List Int) (n k r : Int) : Prop := ∀ (W : World) (LA TA : Option Addr) (ln lc tc : Nat), IntsIn W TA ts → Calls Try.prog fn #[.agg #[.slice LA ln lc, .slice TA ts.length tc], .int .i64 n] W fun e w' => e = .returned (.tuple #[.int .i64 k, .int .i64 r]) ∧ Below W.heap.size W w'
theorem AfC.at {fn : FuncId} {ts : List Int} {n k r : Int} (h : AfC fn ts n k r) (W : World) {LA TA : Option Addr} {ln lc tc : Nat} (h1 : IntsIn W TA ts) : Calls Try.prog fn #[.agg #[.slice LA ln lc, .slice TA ts.length tc], .int .i64 n] W fun e w' => e = .returned (.tuple #[.int .i64 k, .int .i64 r]) ∧ Below W.heap.size W w' := h W LA TA ln lc tc h1
theorem rcu_is (A : Option Addr) (cap : Nat) (l : List It) (o : Lb) (hok : ItemsOk l) (hn : l.length * 56 ≤ 140737488355328) : CuC 21 A l.length cap o.1 o.2 l (cut o l) := fun W h1 =>
  (rcut_any A cap l o W h1 hok hn).mono fun e w' ⟨⟨v, he, ho⟩, hb⟩ => by
    obtain ⟨A', cap', rfl, -, -⟩ := own_form ho
    exact ⟨A', cap', he, items_own ho, hb⟩
end Go.Proofs.Ytmddikabilnokaa.V

namespace Go.Proofs.Ytmddikabilnokaa.V
set_option linter.unusedVariables false
set_option linter.unusedSimpArgs false
open Go.RowKit Go.Shelf
open T
open I (It Lb ItemsIn ItemsAt ItemsOk itCells itCells_snoc itCells_at items_cells items_own own_at own_below infoItem alloc1)
attribute [local go_sem] Oper.semAt_some

/-- The items that are seen, with their places. -/
def prs (o : Lb) : Nat → List It → List (Nat × It)
  | _, [] => []
  | k, x :: r => if sees o x = true then (k, x) :: prs o (k + 1) r else prs o (k + 1) r
theorem prs_snoc (o : Lb) (x : It) : ∀ (l : List It) (k : Nat), prs o k (l ++ [x]) = prs o k l ++ (if sees o x = true then [(k + l.length, x)] else [])
  | [], k => by simp [prs]
  | y :: r, k => by
    rw [List.cons_append, prs, prs, prs_snoc o x r (k + 1), List.length_cons, show k + 1 + r.length = k + (r.length + 1) by omega]
    split <;> rfl
theorem prs_take {o : Lb} {l : List It} {k : Nat} (hk : k < l.length) : prs o 0 (l.take (k + 1)) = prs o 0 (l.take k) ++ (if sees o l[k] = true then [(k, l[k])] else []) := by
  rw [List.take_succ_eq_append_getElem hk, prs_snoc, Nat.zero_add, List.length_take, Nat.min_eq_left (by omega)]
theorem prs_le (o : Lb) : ∀ (l : List It) (k : Nat), (prs o k l).length ≤ l.length
  | [], _ => Nat.le_refl _
  | x :: r, k => by
    rw [prs]
    have := prs_le o r (k + 1)
    split <;> simp <;> omega
def itV (x : It) : Value := .agg #[.int .i64 x.id, .int .i64 x.lv, .int .u64 (x.ct : Int), .bool x.an, .string ⟨x.tx.toArray⟩, .bool x.ba]
/-- What lies below n₀ stays, and the blocks from za on, below zb. -/
def KpZ (n₀ za zb : Nat) (W W' : World) : Prop := Below n₀ W W' ∧ ∀ k, za ≤ k → k < zb → W'.heap[k]? = W.heap[k]?
theorem KpZ.t {n₀ za zb : Nat} {A B C : World} (h : KpZ n₀ za zb A B) (k : KpZ n₀ za zb B C) : KpZ n₀ za zb A C := ⟨h.1.trans k.1, fun i h1 h2 => (k.2 i h1 h2).trans (h.2 i h1 h2)⟩
theorem KpZ.b {n₀ za zb : Nat} {w : World} (hn : n₀ ≤ w.heap.size) (hz : zb ≤ w.heap.size) (W : World) (l : Nat) (o o' : Obj) (hl : w.heap.size ≤ l) (h : W.heap[l]? = some o) (h1 : o.isCells = false) (h2 : o.isWalk = false) : KpZ n₀ za zb W (W.putObj l o') :=
  ⟨belowK_b hn W l o o' hl h h1 h2, fun k _ hk => by
    have := (belowK_b (n₀ := w.heap.size) (Nat.le_refl _) W l o o' hl h h1 h2).block k (by omega)
    exact this⟩
theorem KpZ.of {n₀ za zb : Nat} {W W' : World} (h : Below W.heap.size W W') (hn : n₀ ≤ W.heap.size) (hz : zb ≤ W.heap.size) : KpZ n₀ za zb W W' := ⟨h.mono hn, fun k _ hk => h.block k (by omega)⟩
theorem KpZ.refl (n₀ za zb : Nat) (W : World) : KpZ n₀ za zb W W := ⟨Below.refl _ _, fun _ _ _ => rfl⟩
end Go.Proofs.Ytmddikabilnokaa.V
