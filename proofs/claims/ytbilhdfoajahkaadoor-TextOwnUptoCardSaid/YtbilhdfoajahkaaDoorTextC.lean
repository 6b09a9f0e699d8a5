/-
  The contracts of text.Words and text.Lines.
-/
import Derived.Test.YtbilhdfoajahkaaDoorTextD
import Derived.Test.YtbilhdfoajahkaaDoorOwn
import Derived.Deep.LoopGhost
import Derived.Lib.ConvBytes
namespace Go.Proofs.YtbilhdfoajahkaaDoor.T
open Go.RowKit

/-- The cells of lines: each a text and whether it is bare. -/
def lineCells (xs : List (List UInt8 × Bool)) : List Value := xs.flatMap fun x => [.string ⟨x.1.toArray⟩, .bool x.2]
theorem lineCells_snoc (xs : List (List UInt8 × Bool)) (t : List UInt8) (b : Bool) : lineCells (xs ++ [(t, b)]) = lineCells xs ++ [.string ⟨t.toArray⟩, .bool b] := by simp [lineCells]
theorem lineCells_length (xs : List (List UInt8 × Bool)) : (lineCells xs).length = xs.length * 2 := by
  induction xs with
  | nil => rfl
  | cons x r ih => simp [lineCells] at ih ⊢; omega
theorem infoLine : (Tryd.prog.info? 59).map (fun i => (i.zero, i.size, i.bytes)) = some (some (.agg #[.string ⟨#[]⟩, .bool false]), 2, 24) := by kernel_rfl

theorem lines_at {l : List UInt8} {i j : Nat} (hj : j < l.length) (h : l[j].toNat = 10) :
    P.lines ((l.drop i).take (j - i)) (l.drop j) = ((l.drop i).take (j - i), false) :: P.lines [] (l.drop (j + 1)) := by
  rw [List.drop_eq_getElem_cons hj, P.lines, if_pos (UInt8.toNat_inj.1 h)]
theorem lines_on {l : List UInt8} {i j : Nat} (hij : i ≤ j) (hj : j < l.length) (h : ¬ l[j].toNat = 10) :
    P.lines ((l.drop i).take (j - i)) (l.drop j) = P.lines ((l.drop i).take (j + 1 - i)) (l.drop (j + 1)) := by
  rw [List.drop_eq_getElem_cons hj, P.lines, if_neg (fun e => h (by rw [e]; rfl))]
  congr 1
  rw [show j + 1 - i = (j - i) + 1 by omega, List.take_succ_eq_append_getElem (by simp; omega)]
  simp [show i + (j - i) = j by omega]
theorem lines_end {l : List UInt8} {i : Nat} (hi : i < l.length) : P.lines ((l.drop i).take (l.length - i)) (l.drop l.length) = [((l.drop i).take (l.length - i), true)] := by
  rw [List.drop_length, P.lines, if_neg]
  intro e
  have := congrArg List.length e
  simp at this; omega

set_option maxHeartbeats 400000 in
set_option maxRecDepth 100000 in
theorem lines_any (bk off cap : Nat) (l : List UInt8) (w : World) (h : BytesAt w bk off l) (hbk : bk < w.heap.size) (hn : l.length ≤ cap) (hl : l.length ≤ 4194304) :
    Calls Tryd.prog 17 #[.slice (some ⟨bk, off, none⟩) l.length cap] w fun e w' => ∃ v, e = .returned v ∧ w'.ownsRow w.heap.size 59 2 v (P.lines [] l).length (lineCells (P.lines [] l)) ∧ Below w.heap.size w w' := by
  obtain ⟨i0, hi0, hz0, hz1, hz2⟩ := info_parts infoLine
  have H := Lib.hid h
  clear h
  go_enter Tryd.func17, Tryd.ntmps17
  go_wp2_with fail
  go_step3
  go_wp2_with fail
  go_step3
  go_wp2_with fail
  go_loopg [3, 4] l.length (fun k v fr wr => ∃ (i : Nat) (xs : List (List UInt8 × Bool)), i ≤ l.length ∧ fr = .int .i64 i ∧ l.length - i ≤ k ∧ xs.length ≤ i ∧ wr.ownsRow w.heap.size 59 2 v xs.length (lineCells xs) ∧ Below w.heap.size w wr ∧ Hid (P.lines [] l = xs ++ P.lines [] (l.drop i)))
  case atStart => exact ⟨0, [], Nat.zero_le _, rfl, by omega, by simp, ⟨by simp [lineCells], .inl ⟨rfl, rfl⟩⟩, Below.refl _ _, Lib.hid rfl⟩
  case round =>
    obtain ⟨i, xs, hi, rfl, hk, hxs, hown, hbel, HR⟩ := hrel
    obtain ⟨wo, rfl⟩ : ∃ wo : World, wo = wr := ⟨_, rfl⟩
    have HB := Lib.hid (H.out.below hbel hbk)
    go_wp2_with fail
    go_loop [3, 4, 5] (fun a b e => ∃ j : Nat, u3 = a ∧ b = .int .i64 i ∧ i ≤ j ∧ j ≤ l.length ∧ e = .int .i64 j ∧ Hid (P.lines [] (l.drop i) = P.lines ((l.drop i).take (j - i)) (l.drop j))) (fun _ _ e => l.length - (intOf e).toNat)
    case atStart => exact ⟨i, rfl, rfl, Nat.le_refl _, hi, rfl, Lib.hid (by simp)⟩
    case round =>
      obtain ⟨j, rfl, rfl, hij, hj, rfl, HJ⟩ := hrel
      by_cases hlt : j < l.length
      · have hne : ((j : Int) == (l.length : Int)) = false := beq_eq_false_iff_ne.2 (by omega)
        have hcell := HB.out j hlt
        by_cases h10 : (l[j].toNat : Int) = 10
        · have hb10 : ((l[j].toNat : Int) == 10) = true := by simp [h10]
          have Hat := Lib.hid (lines_at (i := i) hlt (by omega))
          clear h10
          go_wp2_with fail
          with_reducible refine (cut_any bk off cap i j l _ HB.out hij hj hn).mono ?_
          rintro e w' ⟨rfl, rfl⟩
          generalize (l.drop i).take (j - i) = m at *
          go_wp2_with (at_builtin; refine wpList_append_own _ rfl (.tmp 18) (.tmp 24) 23 rfl w.heap.size 59 i0 _ 2 24 Tryd.underlying23 hi0 hz0 hz1 hz2 rfl (by decide) _ xs.length (lineCells xs) rfl (hown.alloc _) ⟨wo.heap.size, 0, none⟩ 1 1 [.string ⟨m.toArray⟩, .bool false] rfl rfl ?c1 ?c2 ?c3 ?c4 ?c5 ?_)
          case c1 => exact cell_two_new _ _ _ _
          case c2 => intro u hu; simp at hu; rcases hu with rfl | rfl <;> rfl
          case c3 => simp only [maxLen]; omega
          case c4 => omega
          case c5 => have := hbel.size; simp; omega
          intro v' w1 hown1 hg1 _
          have hbel1 : Below w.heap.size w w1 := (hbel.alloc hbel.size _).grown hg1 (by have := hbel.size; simp; omega) (own_base hown)
          rw [← lineCells_snoc] at hown1
          have hl1 : (xs ++ [(m, false)]).length = xs.length + 1 := by simp
          rw [← hl1] at hown1
          have HR1 := Lib.hid (HR.out.trans (by rw [HJ.out, Hat.out] : xs ++ P.lines [] (l.drop i) = xs ++ (m, false) :: P.lines [] (l.drop (j + 1))))
          clear hl1 hown HB hcell
          go_wp2_with fail
          go_roundg (l.length - (j + 1))
          case rel => exact ⟨j + 1, xs ++ [(m, false)], by omega, by go_num, Nat.le_refl _, by simp; omega, hown1, hbel1, Lib.hid (by rw [HR1.out]; simp)⟩
          case measure => omega
        · have hb10 : ((l[j].toNat : Int) == 10) = false := by simp [h10]
          have Hon := Lib.hid (lines_on hij hlt (fun e => h10 (by omega)))
          clear h10
          go_wp2_with fail
          go_round
          case rel => exact ⟨j + 1, rfl, rfl, by omega, by omega, by go_num, Lib.hid (HJ.out.trans Hon.out)⟩
          case measure => simp [intOf]; omega
      · have hne : ((j : Int) == (l.length : Int)) = true := beq_iff_eq.2 (by omega)
        have HE := Lib.hid (show P.lines [] (l.drop i) = P.lines ((l.drop i).take (l.length - i)) (l.drop l.length) by
          have := HJ.out
          rwa [show j = l.length by omega] at this)
        by_cases hil : i < l.length
        · have HL := Lib.hid (lines_end hil)
          go_wp2_with fail
          with_reducible refine (cut_any bk off cap i l.length l _ HB.out hi (Nat.le_refl _) hn).mono ?_
          rintro e w' ⟨rfl, rfl⟩
          generalize (l.drop i).take (l.length - i) = m at *
          have hne' : ((l.length : Int) == 0) = false := beq_eq_false_iff_ne.2 (by omega)
          go_wp2_with (at_builtin; refine wpList_append_own _ rfl (.tmp 32) (.tmp 39) 23 rfl w.heap.size 59 i0 _ 2 24 Tryd.underlying23 hi0 hz0 hz1 hz2 rfl (by decide) _ xs.length (lineCells xs) rfl (hown.alloc _) ⟨wo.heap.size, 0, none⟩ 1 1 [.string ⟨m.toArray⟩, .bool true] rfl rfl ?c1 ?c2 ?c3 ?c4 ?c5 ?_)
          case c1 => exact cell_two_new _ _ _ _
          case c2 => intro u hu; simp at hu; rcases hu with rfl | rfl <;> rfl
          case c3 => simp only [maxLen]; omega
          case c4 => omega
          case c5 => have := hbel.size; simp; omega
          intro v' w1 hown1 hg1 _
          have hbel1 : Below w.heap.size w w1 := (hbel.alloc hbel.size _).grown hg1 (by have := hbel.size; simp; omega) (own_base hown)
          rw [← lineCells_snoc] at hown1
          have hl1 : (xs ++ [(m, true)]).length = xs.length + 1 := by simp
          rw [← hl1] at hown1
          have HR1 := Lib.hid (HR.out.trans (by rw [HE.out, HL.out] : xs ++ P.lines [] (l.drop i) = xs ++ [(m, true)]))
          clear hl1 hown HB
          go_wp2_with fail
          rw [Exit.noGoto_ret]
          go_ret
          exact ⟨_, rfl, by rw [HR1.out]; exact hown1, hbel1⟩
        · have HR1 := Lib.hid (show P.lines [] l = xs by
            have e1 := HR.out
            rw [show i = l.length by omega, List.drop_length] at e1
            simpa [P.lines] using e1)
          go_wp2_with fail
          go_ret
          exact ⟨_, rfl, by rw [HR1.out]; exact hown, hbel⟩

/-- No bytes: no lines, whatever the slice's address. -/
theorem lines_none (A : Option Addr) (cap : Nat) (w : World) :
    Calls Tryd.prog 17 #[.slice A 0 cap] w fun e w' => e = .returned (.slice none 0 0) ∧ w = w' := by
  go_enter Tryd.func17, Tryd.ntmps17
  go_wp2_with fail
  go_step3
  go_wp2_with fail
  go_step3
  go_wp2_with fail
  refine wp_loop_rounds 1 ?_
  rw [rounds_succ]
  go_wp2_with fail
  refine wp_loop_rounds 1 ?_
  rw [rounds_succ]
  go_wp2_with fail
  first | go_ret | (rw [Exit.noGoto_ret]; go_ret)
  exact ⟨rfl, rfl⟩

/-- The cells of texts. -/
def strCells (xs : List (List UInt8)) : List Value := xs.map fun x => .string ⟨x.toArray⟩
theorem strCells_snoc (xs : List (List UInt8)) (t : List UInt8) : strCells (xs ++ [t]) = strCells xs ++ [.string ⟨t.toArray⟩] := by simp [strCells]

theorem words_at {l : List UInt8} {i j : Nat} (hj : j < l.length) (h : l[j].toNat = 32) :
    P.words ((l.drop i).take (j - i)) (l.drop j) = (l.drop i).take (j - i) :: P.words [] (l.drop (j + 1)) := by
  rw [List.drop_eq_getElem_cons hj, P.words, if_pos (UInt8.toNat_inj.1 h)]
theorem words_on {l : List UInt8} {i j : Nat} (hij : i ≤ j) (hj : j < l.length) (h : ¬ l[j].toNat = 32) :
    P.words ((l.drop i).take (j - i)) (l.drop j) = P.words ((l.drop i).take (j + 1 - i)) (l.drop (j + 1)) := by
  rw [List.drop_eq_getElem_cons hj, P.words, if_neg (fun e => h (by rw [e]; rfl))]
  congr 1
  rw [show j + 1 - i = (j - i) + 1 by omega, List.take_succ_eq_append_getElem (by simp; omega)]
  simp [show i + (j - i) = j by omega]
theorem words_end {l : List UInt8} {i : Nat} : P.words ((l.drop i).take (l.length - i)) (l.drop l.length) = [(l.drop i).take (l.length - i)] := by
  rw [List.drop_length, P.words]

/-- A text as bytes: a new row that holds them. -/
theorem conv_str (s : ByteArray) (w : World) : ∃ (cap : Nat) (w1 : World), (convert 9 22 (.string s)).run Tryd.prog w = .ok (.slice (some ⟨w.heap.size, 0, none⟩) s.size cap) w1 ∧ Below w.heap.size w w1 ∧ w.heap.size < w1.heap.size ∧ s.size ≤ cap ∧ BytesAt w1 w.heap.size 0 s.data.toList := by
  refine ⟨_, _, Lib.run_convert_string_bytes w 9 22 5 s Tryd.underlying9 Tryd.underlying22 Tryd.underlying5, ⟨rfl, rfl, rfl, ?_, fun k hk => Lib.bytesWorld_at_old w _ s k hk⟩, ?_, grownCap_ge _ _ _ _, ?_⟩
  · rw [Lib.bytesWorld_size]; omega
  · rw [Lib.bytesWorld_size]; omega
  · intro j hj
    have hj' : j < s.size := by rw [Lib.size_eq]; exact hj
    rw [Nat.zero_add, Lib.bytesWorld_cell w _ s j hj']
    simp [List.getElem?_eq_getElem hj]

set_option maxHeartbeats 400000 in
set_option maxRecDepth 100000 in
theorem words_any (s : ByteArray) (w : World) (hl : s.size ≤ 4194304) :
    Calls Tryd.prog 27 #[.string s] w fun e w' => ∃ v, e = .returned v ∧ w'.ownsRow w.heap.size 9 1 v (P.words [] s.data.toList).length (strCells (P.words [] s.data.toList)) ∧ Below w.heap.size w w' := by
  obtain ⟨i0, hi0, hz0, hz1, hz2⟩ := info_parts infoStr
  obtain ⟨cap, w1, hcv, hb1, hs1, hcap, hby⟩ := conv_str s w
  rw [Lib.size_eq] at hl hcap hcv
  generalize s.data.toList = l at *
  have HY := Lib.hid hby
  clear hby
  go_enter Tryd.func27, Tryd.ntmps27
  go_wp2_with fail
  clear hcv
  go_loopg [4, 5, 11] l.length (fun k v fr jj wr => ∃ (i j : Nat) (xs : List (List UInt8)), i ≤ j ∧ j ≤ l.length ∧ fr = .int .i64 i ∧ jj = .int .i64 j ∧ l.length - j ≤ k ∧ xs.length ≤ i ∧ wr.ownsRow (w.heap.size + 1) 9 1 v xs.length (strCells xs) ∧ Below w.heap.size w wr ∧ Below (w.heap.size + 1) w1 wr ∧ Hid (P.words [] l = xs ++ P.words ((l.drop i).take (j - i)) (l.drop j)))
  case atStart => exact ⟨0, 0, [], Nat.le_refl _, Nat.zero_le _, rfl, rfl, by omega, by simp, ⟨by simp [strCells], .inl ⟨rfl, rfl⟩⟩, hb1, Below.refl _ _, Lib.hid (by simp)⟩
  case round =>
    obtain ⟨i, j, xs, hij, hj, rfl, rfl, hk, hxs, hown, hbel, hbw, HR⟩ := hrel
    have HB := Lib.hid (HY.out.below hbw (by omega))
    by_cases hlt : j < l.length
    · have hcell := HB.out j hlt
      rw [Nat.zero_add] at hcell
      have hwr : w.heap.size + 1 ≤ wr.heap.size := by have := hbw.size; omega
      by_cases h32 : (l[j].toNat : Int) = 32
      · have hb32 : ((l[j].toNat : Int) == 32) = true := by simp [h32]
        have Hat := Lib.hid (words_at (i := i) hlt (by omega))
        clear h32
        go_wp2_with fail
        with_reducible refine (cut_any w.heap.size 0 cap i j l _ HB.out hij hj hcap).mono ?_
        rintro e w' ⟨rfl, rfl⟩
        generalize (l.drop i).take (j - i) = m at *
        go_wp2_with (at_builtin; refine wpList_append_own _ rfl (.tmp 19) (.tmp 24) 34 rfl (w.heap.size + 1) 9 i0 _ 1 16 Tryd.underlying34 hi0 hz0 hz1 hz2 rfl (by decide) _ xs.length (strCells xs) rfl (hown.alloc _) ⟨wr.heap.size, 0, none⟩ 1 1 [.string ⟨m.toArray⟩] rfl rfl ?c1 ?c2 ?c3 ?c4 ?c5 ?_)
        case c1 => exact cell_one_new _ _ _
        case c2 => intro u hu; simp at hu; rcases hu with rfl; rfl
        case c3 => simp only [maxLen]; omega
        case c4 => omega
        case c5 => simp; omega
        intro v' w2 hown1 hg1 _
        have hbel1 : Below w.heap.size w w2 := (hbel.alloc hbel.size _).grown hg1 (by simp; omega) (fun k hk => by have := own_base hown k hk; omega)
        have hbw1 : Below (w.heap.size + 1) w1 w2 := (hbw.alloc hwr _).grown hg1 (by simp; omega) (own_base hown)
        rw [← strCells_snoc] at hown1
        have hl1 : (xs ++ [m]).length = xs.length + 1 := by simp
        rw [← hl1] at hown1
        have HR1 := Lib.hid (HR.out.trans (by rw [Hat.out] : _ = xs ++ m :: P.words [] (l.drop (j + 1))))
        clear hl1 hown HB hcell
        go_wp2_with fail
        go_roundg (l.length - (j + 1))
        case rel => exact ⟨j + 1, j + 1, xs ++ [m], by omega, by omega, by go_num, by go_num, Nat.le_refl _, by simp; omega, hown1, hbel1, hbw1, Lib.hid (by rw [HR1.out]; simp)⟩
        case measure => omega
      · have hb32 : ((l[j].toNat : Int) == 32) = false := by simp [h32]
        have Hon := Lib.hid (words_on hij hlt (fun e => h32 (by omega)))
        clear h32
        go_wp2_with fail
        go_roundg (l.length - (j + 1))
        case rel => exact ⟨i, j + 1, xs, by omega, by omega, rfl, by go_num, Nat.le_refl _, hxs, hown, hbel, hbw, Lib.hid (by rw [HR.out, Hon.out])⟩
        case measure => omega
    · have HE := Lib.hid (show P.words [] l = xs ++ [(l.drop i).take (l.length - i)] by
        have := HR.out
        rw [show j = l.length by omega] at this
        rw [this, words_end])
      have hwr : w.heap.size + 1 ≤ wr.heap.size := by have := hbw.size; omega
      go_wp2_with fail
      with_reducible refine (cut_any w.heap.size 0 cap i l.length l _ HB.out (by omega) (Nat.le_refl _) hcap).mono ?_
      rintro e w' ⟨rfl, rfl⟩
      generalize (l.drop i).take (l.length - i) = m at *
      go_wp2_with (at_builtin; refine wpList_append_own _ rfl (.tmp 29) (.tmp 35) 34 rfl (w.heap.size + 1) 9 i0 _ 1 16 Tryd.underlying34 hi0 hz0 hz1 hz2 rfl (by decide) _ xs.length (strCells xs) rfl (hown.alloc _) ⟨wr.heap.size, 0, none⟩ 1 1 [.string ⟨m.toArray⟩] rfl rfl ?c1 ?c2 ?c3 ?c4 ?c5 ?_)
      case c1 => exact cell_one_new _ _ _
      case c2 => intro u hu; simp at hu; rcases hu with rfl; rfl
      case c3 => simp only [maxLen]; omega
      case c4 => omega
      case c5 => simp; omega
      intro v' w2 hown1 hg1 _
      have hbel1 : Below w.heap.size w w2 := (hbel.alloc hbel.size _).grown hg1 (by simp; omega) (fun k hk => by have := own_base hown k hk; omega)
      rw [← strCells_snoc] at hown1
      have hl1 : (xs ++ [m]).length = xs.length + 1 := by simp
      rw [← hl1] at hown1
      have hown2 := own_more hown1 (Nat.le_succ w.heap.size)
      clear hl1 hown HB hown1
      go_wp2_with fail
      go_ret
      exact ⟨_, rfl, by rw [HE.out]; exact hown2, hbel1⟩
end Go.Proofs.YtbilhdfoajahkaaDoor.T
