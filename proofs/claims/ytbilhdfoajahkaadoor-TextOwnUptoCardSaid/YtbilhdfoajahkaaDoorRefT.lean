/-
  The contracts of the reference's Right, Join and Lines: for all lines of a bulk of at most 2^22, and all bytes of so many.
-/
import Derived.Test.YtbilhdfoajahkaaDoorTextG
import Derived.Test.YtbilhdfoajahkaaDoorRefB
namespace Go.Proofs.YtbilhdfoajahkaaDoor.T
open Go.RowKit

set_option maxHeartbeats 1000000 in
set_option maxRecDepth 100000 in
theorem refRight_any (A : Option Addr) (cap : Nat) (xs : List (List UInt8 × Bool)) (w : World) (hb : P.bulk xs ≤ 4194304) (hA : LinesIn w A xs) :
    Calls Tryd.prog 22 #[.slice A xs.length cap] w fun e w' => e = .returned (.bool (P.right xs)) ∧ w = w' := by
  have hlen := P.length_bulk xs
  have HA := Lib.hid hA
  clear hA
  go_enter Tryd.func22, Tryd.ntmps22
  go_wp2_with fail
  go_loop [3] (fun i => ∃ k : Nat, k ≤ xs.length ∧ i = .int .i64 k ∧ Hid (P.right xs = P.right (xs.drop k))) (fun i => xs.length - (intOf i).toNat)
  case atStart => exact ⟨0, Nat.zero_le _, rfl, Lib.hid rfl⟩
  case round =>
    obtain ⟨k, hk, rfl, HR⟩ := hrel
    by_cases hlt : k < xs.length
    · obtain ⟨bk, off, hAe, hbk, hL⟩ := HA.out (by omega)
      subst hAe
      obtain ⟨c0, c1⟩ := hL k hlt
      have h0k : (0 : Int) ≤ (k : Int) := Int.natCast_nonneg _
      have h1k : (k : Int) < (xs.length : Int) := by omega
      have htl := text_len hlt
      have HS := Lib.hid (HR.out.trans (right_step hlt))
      clear hL HR
      obtain ⟨s, hs⟩ : ∃ s : ByteArray, s = ⟨xs[k].1.toArray⟩ := ⟨_, rfl⟩
      have hst : xs[k].1 = s.data.toList := by rw [hs]
      have hsz : s.size ≤ 4194304 := by rw [Lib.size_eq, ← hst]; omega
      rw [← hs] at c0
      rw [hst] at HS
      generalize xs[k].2 = b at *
      clear hs hst htl
      have hw : IntKind.i64.wrap ((k : Int) + 1) = (k : Int) + 1 := IntWalk.i64_in _ (by omega)
      go_wp2_with fail
      go_loop [4] (fun a => ∃ j : Nat, j ≤ s.size ∧ a = .int .i64 j ∧ Hid (∀ i (hi : i < s.size), i < j → ¬ (s[i].toNat : Int) = 10)) (fun a => s.size - (intOf a).toNat)
      case atStart => exact ⟨0, Nat.zero_le _, rfl, Lib.hid (fun j _ h => absurd h (by omega))⟩
      case round =>
        obtain ⟨j, hj, rfl, HJ⟩ := hrel
        by_cases hjl : j < s.size
        · by_cases h10 : (s[j].toNat : Int) = 10
          · have hb10 : ((s[j].toNat : Int) == 10) = true := by simp [h10]
            have HY := Lib.hid (show P.right xs = false by rw [HS.out, has_at hjl h10]; rfl)
            clear h10
            go_wp2_with fail
            go_ret
            exact ⟨ret_of (by rw [HY.out]; rfl), rfl⟩
          · have hb10 : ((s[j].toNat : Int) == 10) = false := by simp [h10]
            have HN := Lib.hid h10
            clear h10
            go_wp2_with fail
            go_round
            case rel =>
              refine ⟨j + 1, by omega, by go_num, Lib.hid (fun i hi hij => ?_)⟩
              by_cases e : i = j
              · subst e; exact HN.out
              · exact HJ.out i hi (by omega)
            case measure => simp [intOf]; omega
        · have HN := Lib.hid (has_none (s := s) (fun i hi => HJ.out i hi (by omega)))
          have HM := Lib.hid (show P.right xs = (!(b && (decide (k + 1 < xs.length) || s.data.toList.isEmpty)) && P.right (xs.drop (k + 1))) by rw [HS.out, HN.out]; rfl)
          clear HS HJ HN
          cases b with
          | false =>
            go_wp2_with fail
            go_round
            case rel => exact ⟨k + 1, by omega, by go_num, Lib.hid (by rw [HM.out]; rfl)⟩
            case measure => simp [intOf]; omega
          | true =>
            by_cases hk1 : k + 1 < xs.length
            · have hk2 : (k : Int) + 1 < (xs.length : Int) := by omega
              have HY := Lib.hid (show P.right xs = false by rw [HM.out, decide_eq_true hk1]; rfl)
              go_wp2_with fail
              go_ret
              exact ⟨ret_of (by rw [HY.out]; rfl), rfl⟩
            · have hk2 : ¬ (k : Int) + 1 < (xs.length : Int) := by omega
              by_cases hz : s.size = 0
              · have hz2 : ((s.size : Int) == 0) = true := by simp [hz]
                have he : s.data.toList.isEmpty = true := by rw [List.isEmpty_iff]; exact List.length_eq_zero_iff.1 (by rw [← Lib.size_eq]; exact hz)
                have HY := Lib.hid (show P.right xs = false by rw [HM.out, he, Bool.or_true]; rfl)
                clear he hz
                go_wp2_with fail
                go_ret
                exact ⟨ret_of (by rw [HY.out]; rfl), rfl⟩
              · have hz2 : ((s.size : Int) == 0) = false := beq_eq_false_iff_ne.2 (by omega)
                have he : s.data.toList.isEmpty = false := by
                  rw [List.isEmpty_eq_false_iff]; intro e; have := congrArg List.length e; rw [← Lib.size_eq] at this; exact hz this
                have HY := Lib.hid (show P.right xs = P.right (xs.drop (k + 1)) by rw [HM.out, he, decide_eq_false hk1]; rfl)
                clear he hz
                go_wp2_with fail
                go_round
                case rel => exact ⟨k + 1, by omega, by go_num, Lib.hid HY.out⟩
                case measure => simp [intOf]; omega
    · obtain rfl : k = xs.length := by omega
      have HN := Lib.hid (HR.out.trans (by rw [List.drop_length]; rfl : _ = true))
      go_wp2_with fail
      go_ret
      exact ⟨ret_of (by rw [HN.out]; rfl), rfl⟩

set_option maxHeartbeats 1000000 in
set_option maxRecDepth 100000 in
theorem refJoin_any (A : Option Addr) (cap : Nat) (xs : List (List UInt8 × Bool)) (w : World) (hb : P.bulk xs ≤ 4194304) (hA : LinesIn w A xs) :
    Calls Tryd.prog 20 #[.slice A xs.length cap] w fun e w' => ∃ v, e = .returned v ∧ w'.ownsRow w.heap.size 5 1 v (P.join xs).length (byteCells (P.join xs)) ∧ Below w.heap.size w w' := by
  obtain ⟨i0, hi0, hz0, hz1, hz2⟩ := info_parts infoByte
  have hlen := P.length_bulk xs
  have hjl := P.join_length xs
  have HA := Lib.hid hA
  clear hA
  go_enter Tryd.func20, Tryd.ntmps20
  go_wp2_with fail
  go_loopg [3, 4] xs.length (fun n v i wr => ∃ (k : Nat) (pre : List UInt8), k ≤ xs.length ∧ i = .int .i64 k ∧ xs.length - k ≤ n ∧ wr.ownsRow w.heap.size 5 1 v pre.length (byteCells pre) ∧ Hid (P.join xs = pre ++ P.join (xs.drop k)) ∧ Below w.heap.size w wr)
  case atStart => exact ⟨0, [], Nat.zero_le _, rfl, by omega, ⟨by simp [byteCells], .inr ⟨w.heap.size, 0, #[], rfl, Nat.le_refl _, heap_alloc_new w _, Nat.le_refl _, by simp [maxLen], rfl, rfl⟩⟩, Lib.hid rfl, (Below.refl _ _).alloc (Nat.le_refl _) _⟩
  case round =>
    obtain ⟨k, pre, hk, rfl, hn, hown, HR, hbel⟩ := hrel
    by_cases hlt : k < xs.length
    · obtain ⟨bk, off, hAe, hbk, hL⟩ := HA.out (by omega)
      subst hAe
      obtain ⟨c0, c1⟩ := hL.below hbel hbk k hlt
      have HL := Lib.hid (hL k hlt)
      have h0k : (0 : Int) ≤ (k : Int) := Int.natCast_nonneg _
      have h1k : (k : Int) < (xs.length : Int) := by omega
      have HS := Lib.hid (HR.out.trans (congrArg (pre ++ ·) (join_step hlt)))
      have hpl : pre.length + xs[k].1.length + 1 ≤ 4194305 := by
        have h1 := congrArg List.length HS.out
        simp only [List.length_append] at h1
        omega
      clear hL HR
      generalize xs[k].2 = b at *
      generalize xs[k].1 = t at *
      have hsz : (⟨t.toArray⟩ : ByteArray).size = t.length := by simp [ByteArray.size]
      have hw : IntKind.i64.wrap ((k : Int) + 1) = (k : Int) + 1 := IntWalk.i64_in _ (by omega)
      by_cases hk1 : k + 1 < xs.length
      · have hk2 : (k : Int) + 1 < (xs.length : Int) := by omega
        have HS := Lib.hid (show P.join xs = pre ++ (t ++ [10] ++ P.join (xs.drop (k + 1))) by rw [HS.out, decide_eq_true hk1, Bool.or_true]; rfl)
        go_wp2_with (at_builtin; refine Lib.wpList_append_own_string _ rfl (.tmp 12) (.tmp 17) 22 9 rfl w.heap.size 5 i0 Tryd.underlying22 Tryd.underlying9 hi0 hz0 hz1 hz2 _ pre.length (byteCells pre) rfl hown ⟨t.toArray⟩ rfl ?c3 ?c4 ?c5 ?_)
        case c3 => (try simp only [hsz]); simp only [maxLen]; omega
        case c4 => (try simp only [hsz]); omega
        case c5 => exact hbel.size
        intro v' w1 hown1 hg1 _
        have hbel2 : Below w.heap.size w w1 := hbel.grown hg1 hbel.size (own_base hown)
        have q1 : w1.cell? ⟨bk, off + k * 2 + 1, none⟩ = some (.bool b) := (hbel2.cell (p := ⟨bk, off + k * 2 + 1, none⟩) hbk).trans HL.out.2
        try simp only [hsz] at hown1
        rw [byteCells_str, ← byteCells_append, ← List.length_append] at hown1
        clear hown hg1 c0 c1 hsz
        go_wp2_with (at_builtin; refine wpList_append_own _ rfl (.tmp 32) (.tmp 33) 22 rfl w.heap.size 5 i0 _ 1 1 Tryd.underlying22 hi0 hz0 hz1 hz2 rfl (by decide) _ (pre ++ t).length (byteCells (pre ++ t)) rfl (hown1.alloc _) ⟨w1.heap.size, 0, none⟩ 1 1 [.int .u8 10] rfl rfl ?d1 ?d2 ?d3 ?d4 ?d5 ?_)
        case d1 => exact cell_one_new _ _ _
        case d2 => intro u hu; simp at hu; rcases hu with rfl; rfl
        case d3 => rw [List.length_append]; simp only [maxLen]; omega
        case d4 => rw [List.length_append]; omega
        case d5 => have := hbel2.size; simp; omega
        intro v'' w2 hown2 hg2 _
        have hbel3 : Below w.heap.size w w2 := (hbel2.alloc hbel2.size _).grown hg2 (by have := hbel2.size; simp; omega) (own_base hown1)
        have hown3 : w2.ownsRow w.heap.size 5 1 v'' (pre ++ t ++ [10]).length (byteCells (pre ++ t ++ [10])) := by
          have e : (pre ++ t ++ [10]).length = pre.length + t.length + 1 := by rw [List.length_append, List.length_append]; rfl
          rw [byteCells_append (pre ++ t), e]; exact hown2
        clear hown1 hown2 hg2 q1
        go_wp2_with fail
        go_roundg (xs.length - (k + 1))
        case measure => omega
        case rel => exact ⟨k + 1, pre ++ t ++ [10], by omega, by go_num, Nat.le_refl _, hown3, Lib.hid (HS.out.trans (by simp)), hbel3⟩
      · have hk2 : ¬ (k : Int) + 1 < (xs.length : Int) := by omega
        cases b with
        | false =>
          have HS := Lib.hid (show P.join xs = pre ++ (t ++ [10] ++ P.join (xs.drop (k + 1))) from HS.out)
          go_wp2_with (at_builtin; refine Lib.wpList_append_own_string _ rfl (.tmp 12) (.tmp 17) 22 9 rfl w.heap.size 5 i0 Tryd.underlying22 Tryd.underlying9 hi0 hz0 hz1 hz2 _ pre.length (byteCells pre) rfl hown ⟨t.toArray⟩ rfl ?c3 ?c4 ?c5 ?_)
          case c3 => (try simp only [hsz]); simp only [maxLen]; omega
          case c4 => (try simp only [hsz]); omega
          case c5 => exact hbel.size
          intro v' w1 hown1 hg1 _
          have hbel2 : Below w.heap.size w w1 := hbel.grown hg1 hbel.size (own_base hown)
          have q1 : w1.cell? ⟨bk, off + k * 2 + 1, none⟩ = some (.bool false) := (hbel2.cell (p := ⟨bk, off + k * 2 + 1, none⟩) hbk).trans HL.out.2
          try simp only [hsz] at hown1
          rw [byteCells_str, ← byteCells_append, ← List.length_append] at hown1
          clear hown hg1 c0 c1 hsz
          go_wp2_with (at_builtin; refine wpList_append_own _ rfl (.tmp 32) (.tmp 33) 22 rfl w.heap.size 5 i0 _ 1 1 Tryd.underlying22 hi0 hz0 hz1 hz2 rfl (by decide) _ (pre ++ t).length (byteCells (pre ++ t)) rfl (hown1.alloc _) ⟨w1.heap.size, 0, none⟩ 1 1 [.int .u8 10] rfl rfl ?d1 ?d2 ?d3 ?d4 ?d5 ?_)
          case d1 => exact cell_one_new _ _ _
          case d2 => intro u hu; simp at hu; rcases hu with rfl; rfl
          case d3 => rw [List.length_append]; simp only [maxLen]; omega
          case d4 => rw [List.length_append]; omega
          case d5 => have := hbel2.size; simp; omega
          intro v'' w2 hown2 hg2 _
          have hbel3 : Below w.heap.size w w2 := (hbel2.alloc hbel2.size _).grown hg2 (by have := hbel2.size; simp; omega) (own_base hown1)
          have hown3 : w2.ownsRow w.heap.size 5 1 v'' (pre ++ t ++ [10]).length (byteCells (pre ++ t ++ [10])) := by
            have e : (pre ++ t ++ [10]).length = pre.length + t.length + 1 := by rw [List.length_append, List.length_append]; rfl
            rw [byteCells_append (pre ++ t), e]; exact hown2
          clear hown1 hown2 hg2 q1
          go_wp2_with fail
          go_roundg (xs.length - (k + 1))
          case measure => omega
          case rel => exact ⟨k + 1, pre ++ t ++ [10], by omega, by go_num, Nat.le_refl _, hown3, Lib.hid (HS.out.trans (by simp)), hbel3⟩
        | true =>
          have HS := Lib.hid (show P.join xs = pre ++ (t ++ [] ++ P.join (xs.drop (k + 1))) by rw [HS.out, decide_eq_false hk1]; rfl)
          go_wp2_with (at_builtin; refine Lib.wpList_append_own_string _ rfl (.tmp 12) (.tmp 17) 22 9 rfl w.heap.size 5 i0 Tryd.underlying22 Tryd.underlying9 hi0 hz0 hz1 hz2 _ pre.length (byteCells pre) rfl hown ⟨t.toArray⟩ rfl ?c3 ?c4 ?c5 ?_)
          case c3 => (try simp only [hsz]); simp only [maxLen]; omega
          case c4 => (try simp only [hsz]); omega
          case c5 => exact hbel.size
          intro v' w1 hown1 hg1 _
          have hbel2 : Below w.heap.size w w1 := hbel.grown hg1 hbel.size (own_base hown)
          have q1 : w1.cell? ⟨bk, off + k * 2 + 1, none⟩ = some (.bool true) := (hbel2.cell (p := ⟨bk, off + k * 2 + 1, none⟩) hbk).trans HL.out.2
          try simp only [hsz] at hown1
          rw [byteCells_str, ← byteCells_append, ← List.length_append] at hown1
          clear hown hg1 c0 c1 hsz
          go_wp2_with fail
          clear q1
          go_roundg (xs.length - (k + 1))
          case measure => omega
          case rel => exact ⟨k + 1, pre ++ t, by omega, by go_num, Nat.le_refl _, hown1, Lib.hid (HS.out.trans (by simp)), hbel2⟩
    · obtain rfl : k = xs.length := by omega
      have HN := Lib.hid (HR.out.trans (by rw [List.drop_length, P.join, List.append_nil] : _ = pre))
      go_wp2_with fail
      go_ret
      exact ⟨_, rfl, by rw [HN.out]; exact hown, hbel⟩

theorem lines_nl {l cur : List UInt8} {k : Nat} (hk : k < l.length) (h : l[k].toNat = 10) : P.lines cur (l.drop k) = (cur, false) :: P.lines [] (l.drop (k + 1)) := by
  rw [List.drop_eq_getElem_cons hk, P.lines, if_pos (UInt8.toNat_inj.1 h)]
theorem lines_more {l cur : List UInt8} {k : Nat} (hk : k < l.length) (h : ¬ l[k].toNat = 10) : P.lines cur (l.drop k) = P.lines (cur ++ [l[k]]) (l.drop (k + 1)) := by
  rw [List.drop_eq_getElem_cons hk, P.lines, if_neg (fun e => h (by rw [e]; rfl))]

set_option maxHeartbeats 1000000 in
set_option maxRecDepth 100000 in
theorem refLines_any (A : Option Addr) (cap : Nat) (l : List UInt8) (w : World) (hA : BytesIn w A l) (hn : l.length ≤ cap) (hl : l.length ≤ 4194304) :
    Calls Tryd.prog 18 #[.slice A l.length cap] w fun e w' => ∃ v, e = .returned v ∧ w'.ownsRow w.heap.size 59 2 v (P.lines [] l).length (lineCells (P.lines [] l)) ∧ Below w.heap.size w w' := by
  obtain ⟨i0, hi0, hz0, hz1, hz2⟩ := info_parts infoLine
  have HA := Lib.hid hA
  clear hA
  go_enter Tryd.func18, Tryd.ntmps18
  go_wp2_with fail
  go_loopg [3, 4, 5, 6] l.length (fun n v nw op i wr => ∃ (k : Nat) (xs : List (List UInt8 × Bool)) (cur : List UInt8) (o : Bool), k ≤ l.length ∧ i = .int .i64 k ∧ l.length - k ≤ n ∧ xs.length ≤ k ∧ cur.length ≤ k ∧ nw = .string ⟨cur.toArray⟩ ∧ op = .bool o ∧ Hid (o = !cur.isEmpty) ∧ wr.ownsRow w.heap.size 59 2 v xs.length (lineCells xs) ∧ Below w.heap.size w wr ∧ Hid (P.lines [] l = xs ++ P.lines cur (l.drop k)))
  case atStart => exact ⟨0, [], [], false, Nat.zero_le _, rfl, by omega, Nat.le_refl _, Nat.le_refl _, rfl, rfl, Lib.hid rfl, ⟨by simp [lineCells], .inr ⟨w.heap.size, 0, #[], rfl, Nat.le_refl _, heap_alloc_new w _, Nat.le_refl _, by simp [maxLen], rfl, rfl⟩⟩, (Below.refl _ _).alloc (Nat.le_refl _) _, Lib.hid rfl⟩
  case round =>
    obtain ⟨k, xs, cur, o, hk, rfl, hkn, hxs, hcur, rfl, rfl, HO, hown, hbel, HR⟩ := hrel
    by_cases hlt : k < l.length
    · obtain ⟨bk, off, hAe, hbk, hB⟩ := HA.out (by omega)
      subst hAe
      have hcell := (hbel.cell (p := ⟨bk, off + k, none⟩) hbk).trans (hB k hlt)
      have h0k : (0 : Int) ≤ (k : Int) := Int.natCast_nonneg _
      have h1k : (k : Int) < (l.length : Int) := by omega
      by_cases h10 : (l[k].toNat : Int) = 10
      · have hb10 : ((l[k].toNat : Int) == 10) = true := by simp [h10]
        have HN := Lib.hid (HR.out.trans (by rw [lines_nl hlt (by omega)] : _ = xs ++ (cur, false) :: P.lines [] (l.drop (k + 1))))
        clear h10 HR hB HO
        go_wp2_with (at_builtin; refine wpList_append_own _ rfl (.tmp 19) (.tmp 22) 23 rfl w.heap.size 59 i0 _ 2 24 Tryd.underlying23 hi0 hz0 hz1 hz2 rfl (by decide) _ xs.length (lineCells xs) rfl (hown.alloc _) ⟨wr.heap.size, 0, none⟩ 1 1 [.string ⟨cur.toArray⟩, .bool false] rfl rfl ?c1 ?c2 ?c3 ?c4 ?c5 ?_)
        case c1 => exact cell_two_new _ _ _ _
        case c2 => intro u hu; simp at hu; rcases hu with rfl | rfl <;> rfl
        case c3 => simp only [maxLen]; omega
        case c4 => omega
        case c5 => have := hbel.size; simp; omega
        intro v' w1 hown1 hg1 _
        have hbel1 : Below w.heap.size w w1 := (hbel.alloc hbel.size _).grown hg1 (by have := hbel.size; simp; omega) (own_base hown)
        rw [← lineCells_snoc] at hown1
        have hl1 : (xs ++ [(cur, false)]).length = xs.length + 1 := by simp
        rw [← hl1] at hown1
        clear hl1 hown hcell
        go_wp2_with fail
        go_roundg (l.length - (k + 1))
        case measure => omega
        case rel => exact ⟨k + 1, xs ++ [(cur, false)], [], false, by omega, by go_num, Nat.le_refl _, by simp; omega, by simp, rfl, rfl, Lib.hid rfl, hown1, hbel1, Lib.hid (by rw [HN.out]; simp)⟩
      · have hb10 : ((l[k].toNat : Int) == 10) = false := by simp [h10]
        have HN := Lib.hid (HR.out.trans (by rw [lines_more hlt (fun e => h10 (by omega))] : _ = xs ++ P.lines (cur ++ [l[k]]) (l.drop (k + 1))))
        have hcv := conv_bytes wr bk (off + k) 1 (cap - k) [l[k]] rfl (by
          intro j hj
          obtain rfl : j = 0 := by simpa using hj
          exact hcell)
        clear h10 HR hB HO
        generalize l[k] = c at *
        have hw : IntKind.i64.wrap ((k : Int) + 1) = (k : Int) + 1 := IntWalk.i64_in _ (by omega)
        have HE := Lib.hid (show (⟨cur.toArray⟩ : ByteArray) ++ ⟨[c].toArray⟩ = ⟨(cur ++ [c]).toArray⟩ from str_append cur [c])
        have hadd : (⟨cur.toArray⟩ : ByteArray).size + (⟨[c].toArray⟩ : ByteArray).size ≤ 9223372036854775807 := by
          rw [list_size]; show cur.length + 1 ≤ _; omega
        go_wp2_with fail
        go_roundg (l.length - (k + 1))
        case measure => omega
        case rel => exact ⟨k + 1, xs, cur ++ [c], true, by omega, by go_num, Nat.le_refl _, by omega, by simp; omega, by rw [HE.out], rfl, Lib.hid (by simp), hown, hbel, HN⟩
    · obtain rfl : k = l.length := by omega
      cases o with
      | false =>
        have hc : cur = [] := by
          have := HO.out
          simpa using this
        have HN := Lib.hid (HR.out.trans (by rw [List.drop_length, P.lines, if_pos hc, List.append_nil] : _ = xs))
        go_wp2_with fail
        go_ret
        exact ⟨_, rfl, by rw [HN.out]; exact hown, hbel⟩
      | true =>
        have hc : ¬ cur = [] := by
          have := HO.out
          simpa using this
        have HN := Lib.hid (HR.out.trans (by rw [List.drop_length, P.lines, if_neg hc] : _ = xs ++ [(cur, true)]))
        clear hc HR HO
        go_wp2_with (at_builtin; refine wpList_append_own _ rfl (.tmp 33) (.tmp 36) 23 rfl w.heap.size 59 i0 _ 2 24 Tryd.underlying23 hi0 hz0 hz1 hz2 rfl (by decide) _ xs.length (lineCells xs) rfl (hown.alloc _) ⟨wr.heap.size, 0, none⟩ 1 1 [.string ⟨cur.toArray⟩, .bool true] rfl rfl ?c1 ?c2 ?c3 ?c4 ?c5 ?_)
        case c1 => exact cell_two_new _ _ _ _
        case c2 => intro u hu; simp at hu; rcases hu with rfl | rfl <;> rfl
        case c3 => simp only [maxLen]; omega
        case c4 => omega
        case c5 => have := hbel.size; simp; omega
        intro v' w1 hown1 hg1 _
        have hbel1 : Below w.heap.size w w1 := (hbel.alloc hbel.size _).grown hg1 (by have := hbel.size; simp; omega) (own_base hown)
        rw [← lineCells_snoc] at hown1
        have hl1 : (xs ++ [(cur, true)]).length = xs.length + 1 := by simp
        rw [← hl1] at hown1
        clear hl1 hown
        go_wp2_with fail
        go_ret
        exact ⟨_, rfl, by rw [HN.out]; exact hown1, hbel1⟩
end Go.Proofs.YtbilhdfoajahkaaDoor.T
