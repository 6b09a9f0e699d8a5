/-
  Rows of bytes in memory, and the contract of text.cut.
  The contracts of text.Words and text.Lines.
  What a policy's reader has been told, as a map and as the plain state; what each line does to both.
  The contracts of takeNumber, takeHidden, takeFloor and takeUser, by the plain functions.
  The contract of the reader's take: a line by the plain function.
  The contracts of the reader's needAll, and of what read defers.
-/
import Derived.Test.YtadhhamfikpimaaDoorGa
import Derived.Laws.BytesArg
import Derived.Test.YtadhhamfikpimaaDoorGb
import Derived.Deep.LoopGhost
import Derived.Lib.ConvBytes
import Derived.Test.YtadhhamfikpimaaDoorGd
import Derived.Test.YtadhhamfikpimaaDoorGe
import Derived.Recover
namespace Go.Proofs.YtadhhamfikpimaaDoor.T
open Go.RowKit

/-- A row of bytes in memory: the cells from an address on hold the bytes of a list. -/
def BytesAt (w : World) (bk off : Nat) (l : List UInt8) : Prop := ∀ j (h : j < l.length), w.cell? ⟨bk, off + j, none⟩ = some (.int .u8 (l[j].toNat : Int))
theorem BytesAt.below {w w' : World} {bk off B : Nat} {l : List UInt8} (h : BytesAt w bk off l) (hb : Below B w w') (hB : bk < B) : BytesAt w' bk off l :=
  fun j hj => (hb.cell (p := ⟨bk, off + j, none⟩) hB).trans (h j hj)
theorem BytesAt.sub {w : World} {bk off i n : Nat} {l : List UInt8} (h : BytesAt w bk off l) : BytesAt w bk (off + i) ((l.drop i).take n) := by
  intro j hj
  have hj' : j < n ∧ j < l.length - i := by simp at hj; omega
  have := h (i + j) (by omega)
  rw [Nat.add_assoc]
  simpa using this

theorem strOfNums_bytes (m : List UInt8) : strOfNums (m.map fun c => (c.toNat : Int)) = ⟨m.toArray⟩ := by
  unfold strOfNums
  congr 1
  congr 1
  rw [List.map_map]
  conv => rhs; rw [← List.map_id m]
  exact List.map_congr_left fun c _ => by simp
theorem conv_bytes (w : World) (bk off len cap : Nat) (m : List UInt8) (hlen : m.length = len) (h : BytesAt w bk off m) :
    (convert 22 9 (.slice (some ⟨bk, off, none⟩) len cap)).run Tryd.prog w = .ok (.string ⟨m.toArray⟩) w := by
  have hc := run_convert_bytes_arg (P := Tryd.prog) w 22 5 Tryd.underlying22 Tryd.underlying5 bk off len cap (m.map fun c => (c.toNat : Int)) (by simpa using hlen)
    (fun i hi => by
      have hi' : i < m.length := by omega
      rw [h i hi']
      simp [List.getElem?_eq_getElem hi']) 9 Tryd.underlying9
  rw [hc, strOfNums_bytes]

set_option maxRecDepth 100000 in
theorem cut_any (bk off cap i j : Nat) (l : List UInt8) (w : World) (h : BytesAt w bk off l) (hij : i ≤ j) (hj : j ≤ l.length) (hn : l.length ≤ cap) :
    Calls Tryd.prog 66 #[.slice (some ⟨bk, off, none⟩) l.length cap, .int .i64 i, .int .i64 j] w fun e w' => e = .returned (.string ⟨((l.drop i).take (j - i)).toArray⟩) ∧ w = w' := by
  obtain ⟨n, hnl⟩ : ∃ n, n = l.length := ⟨_, rfl⟩
  rw [← hnl] at hj hn ⊢
  by_cases e : j = i
  · subst e
    have hcv := conv_bytes w bk off 0 0 [] rfl (fun j hj => absurd hj (by simp))
    have He := Lib.hid (show (l.drop j).take (j - j) = [] by simp)
    clear hnl h hij
    go_enter Tryd.func66, Tryd.ntmps66
    go_wp2
    go_ret
    exact ⟨ret_of (by rw [He.out]; rfl), rfl⟩
  · have hcv := conv_bytes w bk (off + i) (j - i) (j - i) ((l.drop i).take (j - i)) (by simp; omega) h.sub
    generalize (l.drop i).take (j - i) = m at hcv ⊢
    clear hnl h
    go_enter Tryd.func66, Tryd.ntmps66
    go_wp2
    go_ret
    exact ⟨rfl, rfl⟩
end Go.Proofs.YtadhhamfikpimaaDoor.T

namespace Go.Proofs.YtadhhamfikpimaaDoor.T
open Go.RowKit

/-- The cells of lines: each a text and whether it is bare. -/
def lineCells (xs : List (List UInt8 × Bool)) : List Value := xs.flatMap fun x => [.string ⟨x.1.toArray⟩, .bool x.2]
theorem lineCells_snoc (xs : List (List UInt8 × Bool)) (t : List UInt8) (b : Bool) : lineCells (xs ++ [(t, b)]) = lineCells xs ++ [.string ⟨t.toArray⟩, .bool b] := by simp [lineCells]
theorem lineCells_length (xs : List (List UInt8 × Bool)) : (lineCells xs).length = xs.length * 2 := by
  induction xs with
  | nil => rfl
  | cons x r ih => simp [lineCells] at ih ⊢; omega
theorem infoLine : (Tryd.prog.info? 51).map (fun i => (i.zero, i.size, i.bytes)) = some (some (.agg #[.string ⟨#[]⟩, .bool false]), 2, 24) := by kernel_rfl

theorem lines_at {l : List UInt8} {i j : Nat} (hj : j < l.length) (h : l[j].toNat = 10) :
    P.lines ((l.drop i).take (j - i)) (l.drop j) = ((l.drop i).take (j - i), false) :: P.lines [] (l.drop (j + 1)) := by
  rw [List.drop_eq_getElem_cons hj, P.lines, if_pos (UInt8.toNat_inj.1 h)]
theorem lines_on {l : List UInt8} {i j : Nat} (hij : i ≤ j) (hj : j < l.length) (h : ¬ l[j].toNat = 10) :
    P.lines ((l.drop i).take (j - i)) (l.drop j) = P.lines ((l.drop i).take (j + 1 - i)) (l.drop (j + 1)) := by
  rw [List.drop_eq_getElem_cons hj, P.lines, if_neg (fun e => h (by rw [e]; rfl))]
  congr 1
  rw [show j + 1 - i = (j - i) + 1 by omega, List.take_succ_eq_append_getElem (by simp; omega)]
  simp [show i + (j - i) = j by omega]
theorem lines_end {l : List UInt8} {i : Nat} (hi : i < l.length) : P.lines ((l.drop i).take (l.length - i)) (l.drop l.length) = [((l.drop i).take (l.length - i), true)] := by
  rw [List.drop_length, P.lines, if_neg]
  intro e
  have := congrArg List.length e
  simp at this; omega

set_option maxHeartbeats 400000 in
set_option maxRecDepth 100000 in
theorem lines_any (bk off cap : Nat) (l : List UInt8) (w : World) (h : BytesAt w bk off l) (hbk : bk < w.heap.size) (hn : l.length ≤ cap) (hl : l.length ≤ 4194304) :
    Calls Tryd.prog 36 #[.slice (some ⟨bk, off, none⟩) l.length cap] w fun e w' => ∃ v, e = .returned v ∧ w'.ownsRow w.heap.size 51 2 v (P.lines [] l).length (lineCells (P.lines [] l)) ∧ Below w.heap.size w w' := by
  obtain ⟨i0, hi0, hz0, hz1, hz2⟩ := info_parts infoLine
  have H := Lib.hid h
  clear h
  go_enter Tryd.func36, Tryd.ntmps36
  go_wp2_with fail
  go_step3
  go_wp2_with fail
  go_step3
  go_wp2_with fail
  go_loopg [3, 4] l.length (fun k v fr wr => ∃ (i : Nat) (xs : List (List UInt8 × Bool)), i ≤ l.length ∧ fr = .int .i64 i ∧ l.length - i ≤ k ∧ xs.length ≤ i ∧ wr.ownsRow w.heap.size 51 2 v xs.length (lineCells xs) ∧ Below w.heap.size w wr ∧ Hid (P.lines [] l = xs ++ P.lines [] (l.drop i)))
  case atStart => exact ⟨0, [], Nat.zero_le _, rfl, by omega, by simp, ⟨by simp [lineCells], .inl ⟨rfl, rfl⟩⟩, Below.refl _ _, Lib.hid rfl⟩
  case round =>
    obtain ⟨i, xs, hi, rfl, hk, hxs, hown, hbel, HR⟩ := hrel
    obtain ⟨wo, rfl⟩ : ∃ wo : World, wo = wr := ⟨_, rfl⟩
    have HB := Lib.hid (H.out.below hbel hbk)
    go_wp2_with fail
    go_loop [3, 4, 5] (fun a b e => ∃ j : Nat, u3 = a ∧ b = .int .i64 i ∧ i ≤ j ∧ j ≤ l.length ∧ e = .int .i64 j ∧ Hid (P.lines [] (l.drop i) = P.lines ((l.drop i).take (j - i)) (l.drop j))) (fun _ _ e => l.length - (intOf e).toNat)
    case atStart => exact ⟨i, rfl, rfl, Nat.le_refl _, hi, rfl, Lib.hid (by simp)⟩
    case round =>
      obtain ⟨j, rfl, rfl, hij, hj, rfl, HJ⟩ := hrel
      by_cases hlt : j < l.length
      · have hne : ((j : Int) == (l.length : Int)) = false := beq_eq_false_iff_ne.2 (by omega)
        have hcell := HB.out j hlt
        by_cases h10 : (l[j].toNat : Int) = 10
        · have hb10 : ((l[j].toNat : Int) == 10) = true := by simp [h10]
          have Hat := Lib.hid (lines_at (i := i) hlt (by omega))
          clear h10
          go_wp2_with fail
          with_reducible refine (cut_any bk off cap i j l _ HB.out hij hj hn).mono ?_
          rintro e w' ⟨rfl, rfl⟩
          generalize (l.drop i).take (j - i) = m at *
          go_wp2_with (at_builtin; refine wpList_append_own _ rfl (.tmp 18) (.tmp 24) 64 rfl w.heap.size 51 i0 _ 2 24 Tryd.underlying64 hi0 hz0 hz1 hz2 rfl (by decide) _ xs.length (lineCells xs) rfl (hown.alloc _) ⟨wo.heap.size, 0, none⟩ 1 1 [.string ⟨m.toArray⟩, .bool false] rfl rfl ?c1 ?c2 ?c3 ?c4 ?c5 ?_)
          case c1 => exact cell_two_new _ _ _ _
          case c2 => intro u hu; simp at hu; rcases hu with rfl | rfl <;> rfl
          case c3 => simp only [maxLen]; omega
          case c4 => omega
          case c5 => have := hbel.size; simp; omega
          intro v' w1 hown1 hg1 _
          have hbel1 : Below w.heap.size w w1 := (hbel.alloc hbel.size _).grown hg1 (by have := hbel.size; simp; omega) (own_base hown)
          rw [← lineCells_snoc] at hown1
          have hl1 : (xs ++ [(m, false)]).length = xs.length + 1 := by simp
          rw [← hl1] at hown1
          have HR1 := Lib.hid (HR.out.trans (by rw [HJ.out, Hat.out] : xs ++ P.lines [] (l.drop i) = xs ++ (m, false) :: P.lines [] (l.drop (j + 1))))
          clear hl1 hown HB hcell
          go_wp2_with fail
          go_roundg (l.length - (j + 1))
          case rel => exact ⟨j + 1, xs ++ [(m, false)], by omega, by go_num, Nat.le_refl _, by simp; omega, hown1, hbel1, Lib.hid (by rw [HR1.out]; simp)⟩
          case measure => omega
        · have hb10 : ((l[j].toNat : Int) == 10) = false := by simp [h10]
          have Hon := Lib.hid (lines_on hij hlt (fun e => h10 (by omega)))
          clear h10
          go_wp2_with fail
          go_round
          case rel => exact ⟨j + 1, rfl, rfl, by omega, by omega, by go_num, Lib.hid (HJ.out.trans Hon.out)⟩
          case measure => simp [intOf]; omega
      · have hne : ((j : Int) == (l.length : Int)) = true := beq_iff_eq.2 (by omega)
        have HE := Lib.hid (show P.lines [] (l.drop i) = P.lines ((l.drop i).take (l.length - i)) (l.drop l.length) by
          have := HJ.out
          rwa [show j = l.length by omega] at this)
        by_cases hil : i < l.length
        · have HL := Lib.hid (lines_end hil)
          go_wp2_with fail
          with_reducible refine (cut_any bk off cap i l.length l _ HB.out hi (Nat.le_refl _) hn).mono ?_
          rintro e w' ⟨rfl, rfl⟩
          generalize (l.drop i).take (l.length - i) = m at *
          have hne' : ((l.length : Int) == 0) = false := beq_eq_false_iff_ne.2 (by omega)
          go_wp2_with (at_builtin; refine wpList_append_own _ rfl (.tmp 32) (.tmp 39) 64 rfl w.heap.size 51 i0 _ 2 24 Tryd.underlying64 hi0 hz0 hz1 hz2 rfl (by decide) _ xs.length (lineCells xs) rfl (hown.alloc _) ⟨wo.heap.size, 0, none⟩ 1 1 [.string ⟨m.toArray⟩, .bool true] rfl rfl ?c1 ?c2 ?c3 ?c4 ?c5 ?_)
          case c1 => exact cell_two_new _ _ _ _
          case c2 => intro u hu; simp at hu; rcases hu with rfl | rfl <;> rfl
          case c3 => simp only [maxLen]; omega
          case c4 => omega
          case c5 => have := hbel.size; simp; omega
          intro v' w1 hown1 hg1 _
          have hbel1 : Below w.heap.size w w1 := (hbel.alloc hbel.size _).grown hg1 (by have := hbel.size; simp; omega) (own_base hown)
          rw [← lineCells_snoc] at hown1
          have hl1 : (xs ++ [(m, true)]).length = xs.length + 1 := by simp
          rw [← hl1] at hown1
          have HR1 := Lib.hid (HR.out.trans (by rw [HE.out, HL.out] : xs ++ P.lines [] (l.drop i) = xs ++ [(m, true)]))
          clear hl1 hown HB
          go_wp2_with fail
          rw [Exit.noGoto_ret]
          go_ret
          exact ⟨_, rfl, by rw [HR1.out]; exact hown1, hbel1⟩
        · have HR1 := Lib.hid (show P.lines [] l = xs by
            have e1 := HR.out
            rw [show i = l.length by omega, List.drop_length] at e1
            simpa [P.lines] using e1)
          go_wp2_with fail
          go_ret
          exact ⟨_, rfl, by rw [HR1.out]; exact hown, hbel⟩

/-- No bytes: no lines, whatever the slice's address. -/
theorem lines_none (A : Option Addr) (cap : Nat) (w : World) :
    Calls Tryd.prog 36 #[.slice A 0 cap] w fun e w' => e = .returned (.slice none 0 0) ∧ w = w' := by
  go_enter Tryd.func36, Tryd.ntmps36
  go_wp2_with fail
  go_step3
  go_wp2_with fail
  go_step3
  go_wp2_with fail
  refine wp_loop_rounds 1 ?_
  rw [rounds_succ]
  go_wp2_with fail
  refine wp_loop_rounds 1 ?_
  rw [rounds_succ]
  go_wp2_with fail
  first | go_ret | (rw [Exit.noGoto_ret]; go_ret)
  exact ⟨rfl, rfl⟩

/-- The cells of texts. -/
def strCells (xs : List (List UInt8)) : List Value := xs.map fun x => .string ⟨x.toArray⟩
theorem strCells_snoc (xs : List (List UInt8)) (t : List UInt8) : strCells (xs ++ [t]) = strCells xs ++ [.string ⟨t.toArray⟩] := by simp [strCells]

theorem words_at {l : List UInt8} {i j : Nat} (hj : j < l.length) (h : l[j].toNat = 32) :
    P.words ((l.drop i).take (j - i)) (l.drop j) = (l.drop i).take (j - i) :: P.words [] (l.drop (j + 1)) := by
  rw [List.drop_eq_getElem_cons hj, P.words, if_pos (UInt8.toNat_inj.1 h)]
theorem words_on {l : List UInt8} {i j : Nat} (hij : i ≤ j) (hj : j < l.length) (h : ¬ l[j].toNat = 32) :
    P.words ((l.drop i).take (j - i)) (l.drop j) = P.words ((l.drop i).take (j + 1 - i)) (l.drop (j + 1)) := by
  rw [List.drop_eq_getElem_cons hj, P.words, if_neg (fun e => h (by rw [e]; rfl))]
  congr 1
  rw [show j + 1 - i = (j - i) + 1 by omega, List.take_succ_eq_append_getElem (by simp; omega)]
  simp [show i + (j - i) = j by omega]
theorem words_end {l : List UInt8} {i : Nat} : P.words ((l.drop i).take (l.length - i)) (l.drop l.length) = [(l.drop i).take (l.length - i)] := by
  rw [List.drop_length, P.words]

/-- A text as bytes: a new row that holds them. -/
theorem conv_str (s : ByteArray) (w : World) : ∃ (cap : Nat) (w1 : World), (convert 9 22 (.string s)).run Tryd.prog w = .ok (.slice (some ⟨w.heap.size, 0, none⟩) s.size cap) w1 ∧ Below w.heap.size w w1 ∧ w.heap.size < w1.heap.size ∧ s.size ≤ cap ∧ BytesAt w1 w.heap.size 0 s.data.toList := by
  refine ⟨_, _, Lib.run_convert_string_bytes w 9 22 5 s Tryd.underlying9 Tryd.underlying22 Tryd.underlying5, ⟨rfl, rfl, rfl, ?_, fun k hk => Lib.bytesWorld_at_old w _ s k hk⟩, ?_, grownCap_ge _ _ _ _, ?_⟩
  · rw [Lib.bytesWorld_size]; omega
  · rw [Lib.bytesWorld_size]; omega
  · intro j hj
    have hj' : j < s.size := by rw [Lib.size_eq]; exact hj
    rw [Nat.zero_add, Lib.bytesWorld_cell w _ s j hj']
    simp [List.getElem?_eq_getElem hj]

set_option maxHeartbeats 400000 in
set_option maxRecDepth 100000 in
theorem words_any (s : ByteArray) (w : World) (hl : s.size ≤ 4194304) :
    Calls Tryd.prog 90 #[.string s] w fun e w' => ∃ v, e = .returned v ∧ w'.ownsRow w.heap.size 9 1 v (P.words [] s.data.toList).length (strCells (P.words [] s.data.toList)) ∧ Below w.heap.size w w' := by
  obtain ⟨i0, hi0, hz0, hz1, hz2⟩ := info_parts infoStr
  obtain ⟨cap, w1, hcv, hb1, hs1, hcap, hby⟩ := conv_str s w
  rw [Lib.size_eq] at hl hcap hcv
  generalize s.data.toList = l at *
  have HY := Lib.hid hby
  clear hby
  go_enter Tryd.func90, Tryd.ntmps90
  go_wp2_with fail
  clear hcv
  go_loopg [4, 5, 11] l.length (fun k v fr jj wr => ∃ (i j : Nat) (xs : List (List UInt8)), i ≤ j ∧ j ≤ l.length ∧ fr = .int .i64 i ∧ jj = .int .i64 j ∧ l.length - j ≤ k ∧ xs.length ≤ i ∧ wr.ownsRow (w.heap.size + 1) 9 1 v xs.length (strCells xs) ∧ Below w.heap.size w wr ∧ Below (w.heap.size + 1) w1 wr ∧ Hid (P.words [] l = xs ++ P.words ((l.drop i).take (j - i)) (l.drop j)))
  case atStart => exact ⟨0, 0, [], Nat.le_refl _, Nat.zero_le _, rfl, rfl, by omega, by simp, ⟨by simp [strCells], .inl ⟨rfl, rfl⟩⟩, hb1, Below.refl _ _, Lib.hid (by simp)⟩
  case round =>
    obtain ⟨i, j, xs, hij, hj, rfl, rfl, hk, hxs, hown, hbel, hbw, HR⟩ := hrel
    have HB := Lib.hid (HY.out.below hbw (by omega))
    by_cases hlt : j < l.length
    · have hcell := HB.out j hlt
      rw [Nat.zero_add] at hcell
      have hwr : w.heap.size + 1 ≤ wr.heap.size := by have := hbw.size; omega
      by_cases h32 : (l[j].toNat : Int) = 32
      · have hb32 : ((l[j].toNat : Int) == 32) = true := by simp [h32]
        have Hat := Lib.hid (words_at (i := i) hlt (by omega))
        clear h32
        go_wp2_with fail
        with_reducible refine (cut_any w.heap.size 0 cap i j l _ HB.out hij hj hcap).mono ?_
        rintro e w' ⟨rfl, rfl⟩
        generalize (l.drop i).take (j - i) = m at *
        go_wp2_with (at_builtin; refine wpList_append_own _ rfl (.tmp 19) (.tmp 24) 60 rfl (w.heap.size + 1) 9 i0 _ 1 16 Tryd.underlying60 hi0 hz0 hz1 hz2 rfl (by decide) _ xs.length (strCells xs) rfl (hown.alloc _) ⟨wr.heap.size, 0, none⟩ 1 1 [.string ⟨m.toArray⟩] rfl rfl ?c1 ?c2 ?c3 ?c4 ?c5 ?_)
        case c1 => exact cell_one_new _ _ _
        case c2 => intro u hu; simp at hu; rcases hu with rfl; rfl
        case c3 => simp only [maxLen]; omega
        case c4 => omega
        case c5 => simp; omega
        intro v' w2 hown1 hg1 _
        have hbel1 : Below w.heap.size w w2 := (hbel.alloc hbel.size _).grown hg1 (by simp; omega) (fun k hk => by have := own_base hown k hk; omega)
        have hbw1 : Below (w.heap.size + 1) w1 w2 := (hbw.alloc hwr _).grown hg1 (by simp; omega) (own_base hown)
        rw [← strCells_snoc] at hown1
        have hl1 : (xs ++ [m]).length = xs.length + 1 := by simp
        rw [← hl1] at hown1
        have HR1 := Lib.hid (HR.out.trans (by rw [Hat.out] : _ = xs ++ m :: P.words [] (l.drop (j + 1))))
        clear hl1 hown HB hcell
        go_wp2_with fail
        go_roundg (l.length - (j + 1))
        case rel => exact ⟨j + 1, j + 1, xs ++ [m], by omega, by omega, by go_num, by go_num, Nat.le_refl _, by simp; omega, hown1, hbel1, hbw1, Lib.hid (by rw [HR1.out]; simp)⟩
        case measure => omega
      · have hb32 : ((l[j].toNat : Int) == 32) = false := by simp [h32]
        have Hon := Lib.hid (words_on hij hlt (fun e => h32 (by omega)))
        clear h32
        go_wp2_with fail
        go_roundg (l.length - (j + 1))
        case rel => exact ⟨i, j + 1, xs, by omega, by omega, rfl, by go_num, Nat.le_refl _, hxs, hown, hbel, hbw, Lib.hid (by rw [HR.out, Hon.out])⟩
        case measure => omega
    · have HE := Lib.hid (show P.words [] l = xs ++ [(l.drop i).take (l.length - i)] by
        have := HR.out
        rw [show j = l.length by omega] at this
        rw [this, words_end])
      have hwr : w.heap.size + 1 ≤ wr.heap.size := by have := hbw.size; omega
      go_wp2_with fail
      with_reducible refine (cut_any w.heap.size 0 cap i l.length l _ HB.out (by omega) (Nat.le_refl _) hcap).mono ?_
      rintro e w' ⟨rfl, rfl⟩
      generalize (l.drop i).take (l.length - i) = m at *
      go_wp2_with (at_builtin; refine wpList_append_own _ rfl (.tmp 29) (.tmp 35) 60 rfl (w.heap.size + 1) 9 i0 _ 1 16 Tryd.underlying60 hi0 hz0 hz1 hz2 rfl (by decide) _ xs.length (strCells xs) rfl (hown.alloc _) ⟨wr.heap.size, 0, none⟩ 1 1 [.string ⟨m.toArray⟩] rfl rfl ?c1 ?c2 ?c3 ?c4 ?c5 ?_)
      case c1 => exact cell_one_new _ _ _
      case c2 => intro u hu; simp at hu; rcases hu with rfl; rfl
      case c3 => simp only [maxLen]; omega
      case c4 => omega
      case c5 => simp; omega
      intro v' w2 hown1 hg1 _
      have hbel1 : Below w.heap.size w w2 := (hbel.alloc hbel.size _).grown hg1 (by simp; omega) (fun k hk => by have := own_base hown k hk; omega)
      rw [← strCells_snoc] at hown1
      have hl1 : (xs ++ [m]).length = xs.length + 1 := by simp
      rw [← hl1] at hown1
      have hown2 := own_more hown1 (Nat.le_succ w.heap.size)
      clear hl1 hown HB hown1
      go_wp2_with fail
      go_ret
      exact ⟨_, rfl, by rw [HE.out]; exact hown2, hbel1⟩
end Go.Proofs.YtadhhamfikpimaaDoor.T

namespace Go.Proofs.YtadhhamfikpimaaDoor.O
set_option linter.unusedVariables false
set_option linter.unusedSimpArgs false
open Go.RowKit
open T

def told (s : St) (k : List UInt8) : Prop :=
  (∃ i, i < 7 ∧ keys.getD i [] = k ∧ s.once.getD i false = true) ∨ (∃ u ∈ s.p.us, k = kUser ++ 32 :: u.name) ∨ (∃ x ∈ s.p.fs, k = kFloor ++ 32 :: x.pre)
structure Tells (s : St) (f : List UInt8 → Int) : Prop where
  is : ∀ k, f k ≠ 0 ↔ told s k
  ns : s.p.ns.length = 6
  on : s.once.length = 7
variable {s : St} {f : List UInt8 → Int} {line : Int}

theorem key_plain {i : Nat} (hi : i < 7) : (32 : UInt8) ∉ keys.getD i [] := by
  match i, hi with
  | 0, _ | 1, _ | 2, _ | 3, _ | 4, _ | 5, _ | 6, _ => decide
theorem key_ne {i j : Nat} (hi : i < 7) (hj : j < 7) (h : keys.getD i [] = keys.getD j []) : i = j := by
  match i, hi, j, hj with
  | 0, _, 0, _ | 1, _, 1, _ | 2, _, 2, _ | 3, _, 3, _ | 4, _, 4, _ | 5, _, 5, _ | 6, _, 6, _ => rfl
  | 0, _, 1, _ | 0, _, 2, _ | 0, _, 3, _ | 0, _, 4, _ | 0, _, 5, _ | 0, _, 6, _ => exact absurd h (by decide)
  | 1, _, 0, _ | 1, _, 2, _ | 1, _, 3, _ | 1, _, 4, _ | 1, _, 5, _ | 1, _, 6, _ => exact absurd h (by decide)
  | 2, _, 0, _ | 2, _, 1, _ | 2, _, 3, _ | 2, _, 4, _ | 2, _, 5, _ | 2, _, 6, _ => exact absurd h (by decide)
  | 3, _, 0, _ | 3, _, 1, _ | 3, _, 2, _ | 3, _, 4, _ | 3, _, 5, _ | 3, _, 6, _ => exact absurd h (by decide)
  | 4, _, 0, _ | 4, _, 1, _ | 4, _, 2, _ | 4, _, 3, _ | 4, _, 5, _ | 4, _, 6, _ => exact absurd h (by decide)
  | 5, _, 0, _ | 5, _, 1, _ | 5, _, 2, _ | 5, _, 3, _ | 5, _, 4, _ | 5, _, 6, _ => exact absurd h (by decide)
  | 6, _, 0, _ | 6, _, 1, _ | 6, _, 2, _ | 6, _, 3, _ | 6, _, 4, _ | 6, _, 5, _ => exact absurd h (by decide)
theorem user_key {i : Nat} (hi : i < 7) (a b : List UInt8) : keys.getD i [] ≠ a ++ 32 :: b := fun e => key_plain hi (by rw [e]; simp)
theorem user_floor (a b : List UInt8) : kUser ++ 32 :: a ≠ kFloor ++ 32 :: b := fun e => by
  have := congrArg List.head? e
  simp [kUser, kFloor] at this
theorem user_inj {a b : List UInt8} (h : kUser ++ 32 :: a = kUser ++ 32 :: b) : a = b := by simpa using h
theorem floor_inj {a b : List UInt8} (h : kFloor ++ 32 :: a = kFloor ++ 32 :: b) : a = b := by simpa using h

theorem Tells.key (h : Tells s f) {i : Nat} (hi : i < 7) : f (keys.getD i []) = 0 ↔ s.once.getD i false = false := by
  have := h.is (keys.getD i [])
  constructor
  · intro e
    cases hb : s.once.getD i false with
    | false => rfl
    | true => exact absurd e (this.2 (.inl ⟨i, hi, rfl, hb⟩))
  · intro e
    by_cases h0 : f (keys.getD i []) = 0
    · exact h0
    · rcases this.1 h0 with ⟨j, hj, e', hb⟩ | ⟨u, _, e'⟩ | ⟨x, _, e'⟩
      · rw [key_ne hj hi e', e] at hb; cases hb
      · exact absurd e' (user_key hi _ _)
      · exact absurd e' (user_key hi _ _)
theorem Tells.user (h : Tells s f) (nm : List UInt8) : f (kUser ++ 32 :: nm) = 0 ↔ nm ∉ s.p.us.map (·.name) := by
  have := h.is (kUser ++ 32 :: nm)
  constructor
  · intro e hm
    obtain ⟨u, hu, rfl⟩ := List.mem_map.1 hm
    exact (this.2 (.inr (.inl ⟨u, hu, rfl⟩))) e
  · intro hn
    by_cases h0 : f (kUser ++ 32 :: nm) = 0
    · exact h0
    · rcases this.1 h0 with ⟨j, hj, e', _⟩ | ⟨u, hu, e'⟩ | ⟨x, _, e'⟩
      · exact absurd e' (user_key hj _ _)
      · exact absurd (List.mem_map.2 ⟨u, hu, (user_inj e').symm⟩) hn
      · exact absurd e' (user_floor _ _)
theorem Tells.floor (h : Tells s f) (nm : List UInt8) : f (kFloor ++ 32 :: nm) = 0 ↔ nm ∉ s.p.fs.map (·.pre) := by
  have := h.is (kFloor ++ 32 :: nm)
  constructor
  · intro e hm
    obtain ⟨u, hu, rfl⟩ := List.mem_map.1 hm
    exact (this.2 (.inr (.inr ⟨u, hu, rfl⟩))) e
  · intro hn
    by_cases h0 : f (kFloor ++ 32 :: nm) = 0
    · exact h0
    · rcases this.1 h0 with ⟨j, hj, e', _⟩ | ⟨u, hu, e'⟩ | ⟨x, hx, e'⟩
      · exact absurd e' (user_key hj _ _)
      · exact absurd e'.symm (user_floor _ _)
      · exact absurd (List.mem_map.2 ⟨x, hx, (floor_inj e').symm⟩) hn

theorem upd_iff (hl : line ≠ 0) (k x : List UInt8) : upd f k line x ≠ 0 ↔ x = k ∨ f x ≠ 0 := by
  unfold upd
  by_cases e : x = k
  · simp [e, hl]
  · simp [e]
theorem once_set {o : List Bool} {k i : Nat} (hk : k < o.length) : (o.set k true).getD i false = true ↔ i = k ∨ o.getD i false = true := by
  by_cases e : i = k
  · subst e
    rw [List.getD_eq_getElem?_getD, List.getElem?_set_self hk]
    simp
  · rw [List.getD_eq_getElem?_getD, List.getElem?_set_ne (fun h => e h.symm), ← List.getD_eq_getElem?_getD]
    simp [e]
theorem Tells.said (h : Tells s f) {k : Nat} (hk : k < 7) (hl : line ≠ 0) {p' : Pol} (hn : p'.ns.length = 6) (hu : p'.us = s.p.us) (hf : p'.fs = s.p.fs) : Tells ⟨p', s.once.set k true⟩ (upd f (keys.getD k []) line) := by
  refine ⟨fun x => ?_, hn, by simp [h.on]⟩
  rw [upd_iff hl, h.is]
  unfold told
  simp only [hu, hf]
  constructor
  · rintro (rfl | ⟨i, hi, e, hb⟩ | hr)
    · exact .inl ⟨k, hk, rfl, (once_set (by rw [h.on]; exact hk)).2 (.inl rfl)⟩
    · exact .inl ⟨i, hi, e, (once_set (by rw [h.on]; exact hk)).2 (.inr hb)⟩
    · exact .inr hr
  · rintro (⟨i, hi, e, hb⟩ | hr)
    · rcases (once_set (by rw [h.on]; exact hk)).1 hb with rfl | hb
      · exact .inl e.symm
      · exact .inr (.inl ⟨i, hi, e, hb⟩)
    · exact .inr (.inr hr)
theorem Tells.addUser (h : Tells s f) (u : Usr) (hl : line ≠ 0) : Tells ⟨{ s.p with us := s.p.us ++ [u] }, s.once⟩ (upd f (kUser ++ 32 :: u.name) line) := by
  refine ⟨fun x => ?_, h.ns, h.on⟩
  rw [upd_iff hl, h.is]
  unfold told
  constructor
  · rintro (rfl | hi | ⟨v, hv, e⟩ | hr)
    · exact .inr (.inl ⟨u, by simp, rfl⟩)
    · exact .inl hi
    · exact .inr (.inl ⟨v, by simp [hv], e⟩)
    · exact .inr (.inr hr)
  · rintro (hi | ⟨v, hv, e⟩ | hr)
    · exact .inr (.inl hi)
    · rcases List.mem_append.1 hv with hv | hv
      · exact .inr (.inr (.inl ⟨v, hv, e⟩))
      · rw [List.mem_singleton.1 hv] at e; exact .inl e
    · exact .inr (.inr (.inr hr))
theorem Tells.addFloor (h : Tells s f) (u : Flr) (hl : line ≠ 0) : Tells ⟨{ s.p with fs := s.p.fs ++ [u] }, s.once⟩ (upd f (kFloor ++ 32 :: u.pre) line) := by
  refine ⟨fun x => ?_, h.ns, h.on⟩
  rw [upd_iff hl, h.is]
  unfold told
  constructor
  · rintro (rfl | hi | hr | ⟨v, hv, e⟩)
    · exact .inr (.inr ⟨u, by simp, rfl⟩)
    · exact .inl hi
    · exact .inr (.inl hr)
    · exact .inr (.inr ⟨v, by simp [hv], e⟩)
  · rintro (hi | hr | ⟨v, hv, e⟩)
    · exact .inr (.inl hi)
    · exact .inr (.inr (.inl hr))
    · rcases List.mem_append.1 hv with hv | hv
      · exact .inr (.inr (.inr ⟨v, hv, e⟩))
      · rw [List.mem_singleton.1 hv] at e; exact .inl e
theorem Tells.start : Tells St.start (fun _ => 0) := by
  refine ⟨fun k => ?_, rfl, rfl⟩
  constructor
  · intro h; exact absurd rfl h
  · rintro (⟨i, hi, _, hb⟩ | ⟨u, hu, _⟩ | ⟨x, hx, _⟩)
    · match i, hi with
      | 0, _ | 1, _ | 2, _ | 3, _ | 4, _ | 5, _ | 6, _ => cases hb
    · cases hu
    · cases hx

theorem key0 : kLevels.data.toList = keys.getD 0 [] := rfl
theorem key1 : kCats.data.toList = keys.getD 1 [] := rfl
theorem key6 : wHidden.data.toList = keys.getD 6 [] := rfl
/-- What label tells by what was said is what the plain state tells, also where the line's own name was just said. -/
theorem labelBy_is (h : Tells s f) (a b l : List UInt8) (hl : line ≠ 0) : labelBy s.p (upd f (a ++ 32 :: b) line) l = labelFor s l := by
  have h0 : upd f (a ++ 32 :: b) line (keys.getD 0 []) = f (keys.getD 0 []) := by rw [upd, if_neg (user_key (by omega) _ _)]
  have h1 : upd f (a ++ 32 :: b) line (keys.getD 1 []) = f (keys.getD 1 []) := by rw [upd, if_neg (user_key (by omega) _ _)]
  unfold labelBy labelFor
  rw [key0, key1, h0, h1]
  have k0 := h.key (i := 0) (by omega)
  have k1 := h.key (i := 1) (by omega)
  by_cases e0 : s.once.getD 0 false = true
  · by_cases e1 : s.once.getD 1 false = true
    · rw [if_neg (by rintro (e | e); (rw [k0.1 e] at e0; cases e0); (rw [k1.1 e] at e1; cases e1)), if_pos ⟨e0, e1⟩]
      rfl
    · rw [if_pos (.inr (k1.2 (Bool.eq_false_iff.2 e1))), if_neg (fun h => e1 h.2)]
  · rw [if_pos (.inl (k0.2 (Bool.eq_false_iff.2 e0))), if_neg (fun h => e0 h.1)]
theorem numBy_is (h : Tells s f) {k : Nat} (hk : k < 6) (v : List UInt8) : numBy s.p f k v = (numLine s k v).map (·.p) := by
  unfold numBy numLine
  by_cases e : s.once.getD k false = true
  · rw [if_neg (fun h0 => by rw [(h.key (by omega)).1 h0] at e; cases e), if_pos e]; rfl
  · rw [if_pos ((h.key (by omega)).2 (by simpa using e)), if_neg e]
    cases P.number v with
    | none => rfl
    | some x =>
      rw [Option.bind_some, Option.bind_some]
      have hi : inB (lows.getD k 0) (highs.getD k 0) (x : Int) = true ↔ lows.getD k 0 ≤ (x : Int) ∧ (x : Int) ≤ highs.getD k 0 := by unfold inB; simp only [Bool.and_eq_true, decide_eq_true_eq]
      by_cases hb : lows.getD k 0 ≤ (x : Int) ∧ (x : Int) ≤ highs.getD k 0
      · rw [if_pos (hi.2 hb), if_pos hb]; rfl
      · rw [if_neg (fun e => hb (hi.1 e)), if_neg hb]; rfl
theorem numLine_once {k : Nat} {v : List UInt8} {t : St} (h : numLine s k v = some t) : t.once = s.once.set k true ∧ t.p.us = s.p.us ∧ t.p.fs = s.p.fs ∧ t.p.ns.length = s.p.ns.length := by
  unfold numLine at h
  split at h
  · cases h
  · cases hn : P.number v with
    | none => rw [hn] at h; cases h
    | some x =>
      rw [hn, Option.bind_some] at h
      split at h
      · injection h with h; subst h; exact ⟨rfl, rfl, rfl, by simp⟩
      · cases h
end Go.Proofs.YtadhhamfikpimaaDoor.O

namespace Go.Proofs.YtadhhamfikpimaaDoor.O
set_option linter.unusedVariables false
set_option linter.unusedSimpArgs false
open Go.RowKit
open T
variable {w w' : World} {base rb mb n : Nat} {s : St} {f : List UInt8 → Int} {line : Int} {uv fv : Value}

theorem str_is (a b : List UInt8) : ((⟨a.toArray⟩ : ByteArray).toList == b) = decide (a = b) := by
  rw [Lib.toList_data, list_data]
  by_cases h : a = b <;> simp [h]
/-- What becomes of a line. -/
def TakeEnd (w : World) (base rb mb n : Nat) (line : Int) (o : Option St) (e : Ending) (w' : World) : Prop :=
  match o with
  | some t => e = .returned (.tuple #[]) ∧ (∃ f uv fv, Rd w' base rb mb (n + 1) t.p f line uv fv ∧ Tells t f) ∧ Below base w w'
  | none => Fell w base rb line e w'
theorem took_end {t : St} {f' : List UInt8 → Int} {e : Ending} (ht : Tells t f') (h : Took w base rb mb (n + 1) t.p f' line e w') : TakeEnd w base rb mb n line (some t) e w' := by
  obtain ⟨he, ⟨uv, fv, hr⟩, hb⟩ := h
  exact ⟨he, ⟨f', uv, fv, hr, ht⟩, hb⟩

theorem tNumber (h : Rd w base rb mb n s.p f line uv fv) (ht : Tells s f) (hl0 : line ≠ 0) (g cap : Nat) (ws : List (List UInt8)) (hlt : g < w.heap.size) (hw : ∀ j (hj : j < ws.length), w.cell? ⟨g, j, none⟩ = some (.string ⟨ws[j].toArray⟩) ∧ ws[j].length ≤ 8192) (hnl : n < maxLen) (hl : (Lit.int .i64 line).wf = true) :
    Calls Tryd.prog 94 #[.pointer (some ⟨rb, 0, none⟩), .slice (some ⟨g, 0, none⟩) ws.length cap] w (TakeEnd w base rb mb n line (takeNumber s ws)) := by
  match ws, hw with
  | [a0, a1], hw =>
    refine (number_two h g cap a0 a1 hlt (hw 0 (by simp)).1 (hw 1 (by simp)).1 (by have := (hw 1 (by simp)).2; simp at this; omega) ht.ns hnl hl).mono fun e w' he => ?_
    unfold NumberEnd at he
    have e0 : takeNumber s [a0, a1] = (keyOf a0).bind fun k => numLine s k a1 := rfl
    rw [e0]
    cases hk : keyOf a0 with
    | none => rw [hk] at he; exact he
    | some k =>
      rw [hk] at he
      have hk6 : k < 6 := by
        unfold keyOf at hk
        have := List.idxOf?_eq_some_iff.1 hk
        have := this.1
        simpa [keys] using this
      simp only [numBy_is ht hk6] at he
      rw [Option.bind_some]
      cases hnl : numLine s k a1 with
      | none => rw [hnl] at he; exact he
      | some t =>
        rw [hnl] at he
        obtain ⟨h1, h2, h3, h4⟩ := numLine_once hnl
        have htt : Tells ⟨t.p, s.once.set k true⟩ (upd f (keys.getD k []) line) := ht.said (by omega) hl0 (h4.trans ht.ns) h2 h3
        rw [← h1] at htt
        exact took_end htt he
  | [], _ => exact (number_len h _ 0 cap (by omega))
  | [_], _ => exact (number_len h _ 1 cap (by omega))
  | _ :: _ :: _ :: _, _ => exact (number_len h _ _ cap (by simp))

theorem pre_is (l : List UInt8) : Lib.hasPrefix l sHidden.data.toList = true ↔ (kHidden ++ [32]) <+: l := by
  unfold Lib.hasPrefix
  rw [List.isPrefixOf_iff_prefix]
  rfl
theorem tHidden (h : Rd w base rb mb n s.p f line uv fv) (ht : Tells s f) (hl0 : line ≠ 0) (x : ByteArray) (hx : x.size ≤ 8192) (hnl : n < maxLen) (hl : (Lit.int .i64 line).wf = true) :
    Calls Tryd.prog 91 #[.pointer (some ⟨rb, 0, none⟩), .string x] w (TakeEnd w base rb mb n line (takeHidden s x.data.toList)) := by
  have hcut : Cutp x ⟨(Lib.trimPrefix x.data.toList sHidden.data.toList).toArray⟩ (Lib.hasPrefix x.data.toList sHidden.data.toList) := fun w => (Tryd.strings_CutPrefix x sHidden w).mono fun e w' he => ⟨he.1, he.2.symm⟩
  unfold takeHidden
  cases hp : Lib.hasPrefix x.data.toList sHidden.data.toList with
  | false =>
    rw [if_neg (fun h' => by rw [(pre_is _).2 h'.1] at hp; cases hp)]
    rw [hp] at hcut
    exact hid_off h x _ (Lib.hid hcut)
  | true =>
    rw [hp] at hcut
    have htr : Lib.trimPrefix x.data.toList sHidden.data.toList = x.data.toList.drop 7 := by rw [Lib.trimPrefix, if_pos hp]; rfl
    rw [htr] at hcut
    have hpl : Pln ⟨(x.data.toList.drop 7).toArray⟩ (plainB (x.data.toList.drop 7)) := fun w => by
      have := hidden_any ⟨(x.data.toList.drop 7).toArray⟩ w (by rw [list_size, List.length_drop, ← Lib.size_eq]; unfold maxLen; omega)
      rw [list_data] at this
      exact this
    cases hb : plainB (x.data.toList.drop 7) with
    | false =>
      rw [if_neg (fun h' => Bool.false_ne_true h'.2.1)]
      rw [hb] at hpl
      exact hid_bad h x _ (Lib.hid hcut) (Lib.hid hpl)
    | true =>
      rw [hb] at hpl
      by_cases ho : s.once.getD 6 false = false
      · rw [if_pos ⟨(pre_is _).1 hp, rfl, ho⟩]
        refine (hid_yes h x _ (Lib.hid hcut) (Lib.hid hpl) (by rw [key6]; exact (ht.key (by omega)).2 ho) hnl hl).mono fun e w' he => ?_
        exact took_end (t := ⟨{ s.p with hid := x.data.toList.drop 7 }, s.once.set 6 true⟩) (by rw [key6]; exact ht.said (by omega) hl0 ht.ns rfl rfl) he
      · rw [if_neg (fun h' => ho h'.2.2)]
        exact hid_known h x _ (Lib.hid hcut) (Lib.hid hpl) (by rw [key6]; exact fun e => ho ((ht.key (by omega)).1 e))

theorem uKey : kUser ++ 32 :: [] = kUser ++ [32] := rfl
/-- What label does behind name, by the plain state. -/
theorem label_behind (h : Rd w base rb mb n s.p f line uv fv) (ht : Tells s f) (hl0 : line ≠ 0) (hgb : 1 < base) (hT : Tab w) (g m cap : Nat) (hm : 3 ≤ m) (hlt : g < w.heap.size) (lb a b : List UInt8) (c2 : w.cell? ⟨g, 2, none⟩ = some (.string ⟨lb.toArray⟩)) (hlb : lb.length ≤ 8192) (w1 : World) (hS : SayPost w base rb mb (n + 1) s.p (upd f (a ++ 32 :: b) line) line uv fv w1) :
    Calls Tryd.prog 109 #[.pointer (some ⟨rb, 0, none⟩), .slice (some ⟨g, 0, none⟩) m cap] w1 (LabEnd w1 base rb line (labelFor s lb)) := by
  have hb1 := h.saidBelow hS.2
  have := label_any hS.1 g m cap ⟨lb.toArray⟩ hm (Nat.lt_of_lt_of_le hlt hb1.size) (h.map.cellKept hS.2 c2) (by rw [list_size]; omega) (hT.below hb1 hgb)
  rw [list_data, labelBy_is ht _ _ _ hl0] at this
  exact this

theorem tFloor (h : Rd w base rb mb n s.p f line uv fv) (ht : Tells s f) (hl0 : line ≠ 0) (hgb : 1 < base) (hT : Tab w) (g cap : Nat) (ws : List (List UInt8)) (hlt : g < w.heap.size) (hw : ∀ j (hj : j < ws.length), w.cell? ⟨g, j, none⟩ = some (.string ⟨ws[j].toArray⟩) ∧ ws[j].length ≤ 8192) (hnl : n < maxLen) (hl : (Lit.int .i64 line).wf = true) (hh : ws.head? = some kFloor) :
    Calls Tryd.prog 93 #[.pointer (some ⟨rb, 0, none⟩), .slice (some ⟨g, 0, none⟩) ws.length cap] w (TakeEnd w base rb mb n line (takeFloor s ws)) := by
  by_cases h3 : ws.length = 3
  · match ws, h3, hw, hh with
    | [a0, nm, lb], _, hw, hh =>
      obtain rfl : a0 = kFloor := by simpa using hh
      have w0 := hw 0 (by simp)
      have w1 := hw 1 (by simp)
      have w2 := hw 2 (by simp)
      simp only [List.getElem_cons_zero, List.getElem_cons_succ] at w0 w1 w2
      show Calls _ _ #[_, .slice _ 3 _] _ _
      have e : takeFloor s [kFloor, nm, lb] = (if s.p.fs.length < 32 ∧ P.name nm = true ∧ nm ∉ s.p.fs.map (·.pre) then (labelFor s lb).map fun a => (⟨{ s.p with fs := s.p.fs ++ [⟨nm, a.1, a.2⟩] }, s.once⟩ : St) else none) := rfl
      rw [e]
      by_cases hq : s.p.fs.length < 32
      · cases hn : P.name nm with
        | false =>
          rw [if_neg (fun h' => Bool.false_ne_true h'.2.1)]
          exact floor_name h g cap hq (Lib.hid (name_bad h g 3 cap nm (by omega) w1.1 (by unfold maxLen; omega) hn))
        | true =>
          by_cases hk : nm ∈ s.p.fs.map (·.pre)
          · rw [if_neg (fun h' => h'.2.2 hk)]
            exact floor_name h g cap hq (Lib.hid (name_known h g 3 cap kFloor nm (by omega) w0.1 w1.1 (by omega) (by omega) hn (fun e => (ht.floor nm).1 e hk)))
          · rw [if_pos ⟨hq, rfl, hk⟩]
            have HN := Lib.hid (name_yes h g 3 cap kFloor nm (by omega) w0.1 w1.1 (by omega) (by omega) hn ((ht.floor nm).2 hk) hnl hl)
            cases hlf : labelFor s lb with
            | none =>
              refine floor_label h g cap ⟨nm.toArray⟩ hq _ HN (Lib.hid fun w1 hS => ?_)
              have := label_behind h ht hl0 hgb hT g 3 cap (by omega) hlt lb _ _ w2.1 w2.2 w1 hS
              rw [hlf] at this
              exact this
            | some a =>
              refine (floor_yes h g cap ⟨nm.toArray⟩ (a.1 : Int) a.2 hq _ HN (Lib.hid fun w1 hS => ?_)).mono fun e w' he => ?_
              · have := label_behind h ht hl0 hgb hT g 3 cap (by omega) hlt lb _ _ w2.1 w2.2 w1 hS
                rw [hlf] at this
                exact this
              · rw [list_data] at he
                exact took_end (t := ⟨{ s.p with fs := s.p.fs ++ [⟨nm, a.1, a.2⟩] }, s.once⟩) (ht.addFloor ⟨nm, a.1, a.2⟩ hl0) he
      · rw [if_neg (fun h' => hq h'.1)]
        exact floor_full h g cap hq
  · have hno : takeFloor s ws = none := by
      unfold takeFloor
      split
      · exact absurd rfl h3
      · rfl
    rw [hno]
    exact floor_len h g ws.length cap h3
theorem tUser (h : Rd w base rb mb n s.p f line uv fv) (ht : Tells s f) (hl0 : line ≠ 0) (hgb : 1 < base) (hT : Tab w) (g cap : Nat) (ws : List (List UInt8)) (hlt : g < w.heap.size) (hw : ∀ j (hj : j < ws.length), w.cell? ⟨g, j, none⟩ = some (.string ⟨ws[j].toArray⟩) ∧ ws[j].length ≤ 8192) (hnl : n < maxLen) (hl : (Lit.int .i64 line).wf = true) (hh : ws.head? = some kUser) :
    Calls Tryd.prog 92 #[.pointer (some ⟨rb, 0, none⟩), .slice (some ⟨g, 0, none⟩) ws.length cap] w (TakeEnd w base rb mb n line (takeUser s ws)) := by
  by_cases h3 : ws.length = 3
  · match ws, h3, hw, hh with
    | [a0, nm, lb], _, hw, hh =>
      obtain rfl : a0 = kUser := by simpa using hh
      have w0 := hw 0 (by simp)
      have w1 := hw 1 (by simp)
      have w2 := hw 2 (by simp)
      simp only [List.getElem_cons_zero, List.getElem_cons_succ] at w0 w1 w2
      show Calls _ _ #[_, .slice _ 3 _] _ _
      have e : takeUser s [kUser, nm, lb] = (if s.p.us.length < 32 ∧ P.name nm = true ∧ nm ∉ s.p.us.map (·.name) then (labelFor s lb).map fun a => (⟨{ s.p with us := s.p.us ++ [⟨nm, a.1, a.2, false⟩] }, s.once⟩ : St) else none) := rfl
      rw [e]
      by_cases hq : s.p.us.length < 32
      · cases hn : P.name nm with
        | false =>
          rw [if_neg (fun h' => Bool.false_ne_true h'.2.1)]
          exact user3_name h g cap hq (Lib.hid (name_bad h g 3 cap nm (by omega) w1.1 (by unfold maxLen; omega) hn))
        | true =>
          by_cases hk : nm ∈ s.p.us.map (·.name)
          · rw [if_neg (fun h' => h'.2.2 hk)]
            exact user3_name h g cap hq (Lib.hid (name_known h g 3 cap kUser nm (by omega) w0.1 w1.1 (by omega) (by omega) hn (fun e => (ht.user nm).1 e hk)))
          · rw [if_pos ⟨hq, rfl, hk⟩]
            have HN := Lib.hid (name_yes h g 3 cap kUser nm (by omega) w0.1 w1.1 (by omega) (by omega) hn ((ht.user nm).2 hk) hnl hl)
            cases hlf : labelFor s lb with
            | none =>
              refine user3_label h g cap ⟨nm.toArray⟩ hq _ HN (Lib.hid fun w1 hS => ?_)
              have := label_behind h ht hl0 hgb hT g 3 cap (by omega) hlt lb _ _ w2.1 w2.2 w1 hS
              rw [hlf] at this
              exact this
            | some a =>
              refine (user3_yes h g cap ⟨nm.toArray⟩ (a.1 : Int) a.2 hq _ HN (Lib.hid fun w1 hS => ?_)).mono fun e w' he => ?_
              · have := label_behind h ht hl0 hgb hT g 3 cap (by omega) hlt lb _ _ w2.1 w2.2 w1 hS
                rw [hlf] at this
                exact this
              · rw [list_data] at he
                exact took_end (t := ⟨{ s.p with us := s.p.us ++ [⟨nm, a.1, a.2, false⟩] }, s.once⟩) (ht.addUser ⟨nm, a.1, a.2, false⟩ hl0) he
      · rw [if_neg (fun h' => hq h'.1)]
        exact user3_full h g cap hq
  · by_cases h4 : ws.length = 4
    · match ws, h4, hw, hh with
      | [a0, nm, lb, ad], _, hw, hh =>
        obtain rfl : a0 = kUser := by simpa using hh
        have w0 := hw 0 (by simp)
        have w1 := hw 1 (by simp)
        have w2 := hw 2 (by simp)
        have w3 := hw 3 (by simp)
        simp only [List.getElem_cons_zero, List.getElem_cons_succ] at w0 w1 w2 w3
        show Calls _ _ #[_, .slice _ 4 _] _ _
        have hs3' : ((⟨ad.toArray⟩ : ByteArray).toList == [97, 100, 109, 105, 110]) = decide (ad = kAdmin) := str_is ad kAdmin
        by_cases ha : ad = kAdmin
        · have hs3 : ((⟨ad.toArray⟩ : ByteArray).toList == [97, 100, 109, 105, 110]) = true := by rw [hs3', decide_eq_true ha]
          have e : takeUser s [kUser, nm, lb, ad] = (if s.p.us.length < 32 ∧ P.name nm = true ∧ nm ∉ s.p.us.map (·.name) then (labelFor s lb).map fun a => (⟨{ s.p with us := s.p.us ++ [⟨nm, a.1, a.2, true⟩] }, s.once⟩ : St) else none) := by
            show (if ad = kAdmin then addUser s nm lb true else none) = _
            rw [if_pos ha]; rfl
          rw [e]
          by_cases hq : s.p.us.length < 32
          · cases hn : P.name nm with
            | false =>
              rw [if_neg (fun h' => Bool.false_ne_true h'.2.1)]
              exact user4_name h g cap _ w3.1 hs3 hq (Lib.hid (name_bad h g 4 cap nm (by omega) w1.1 (by unfold maxLen; omega) hn))
            | true =>
              by_cases hk : nm ∈ s.p.us.map (·.name)
              · rw [if_neg (fun h' => h'.2.2 hk)]
                exact user4_name h g cap _ w3.1 hs3 hq (Lib.hid (name_known h g 4 cap kUser nm (by omega) w0.1 w1.1 (by omega) (by omega) hn (fun e => (ht.user nm).1 e hk)))
              · rw [if_pos ⟨hq, rfl, hk⟩]
                have HN := Lib.hid (name_yes h g 4 cap kUser nm (by omega) w0.1 w1.1 (by omega) (by omega) hn ((ht.user nm).2 hk) hnl hl)
                cases hlf : labelFor s lb with
                | none =>
                  refine user4_label h g cap _ w3.1 hs3 ⟨nm.toArray⟩ hq _ HN (Lib.hid fun w1 hS => ?_)
                  have := label_behind h ht hl0 hgb hT g 4 cap (by omega) hlt lb _ _ w2.1 w2.2 w1 hS
                  rw [hlf] at this
                  exact this
                | some a =>
                  refine (user4_yes h g cap _ w3.1 hs3 ⟨nm.toArray⟩ (a.1 : Int) a.2 hq _ HN (Lib.hid fun w1 hS => ?_)).mono fun e w' he => ?_
                  · have := label_behind h ht hl0 hgb hT g 4 cap (by omega) hlt lb _ _ w2.1 w2.2 w1 hS
                    rw [hlf] at this
                    exact this
                  · rw [list_data] at he
                    exact took_end (t := ⟨{ s.p with us := s.p.us ++ [⟨nm, a.1, a.2, true⟩] }, s.once⟩) (ht.addUser ⟨nm, a.1, a.2, true⟩ hl0) he
          · rw [if_neg (fun h' => hq h'.1)]
            exact user4_full h g cap _ w3.1 hs3 hq
        · have hs3 : ((⟨ad.toArray⟩ : ByteArray).toList == [97, 100, 109, 105, 110]) = false := by rw [hs3', decide_eq_false ha]
          have e : takeUser s [kUser, nm, lb, ad] = none := by
            show (if ad = kAdmin then addUser s nm lb true else none) = _
            rw [if_neg ha]
          rw [e]
          exact user_word h g cap _ w3.1 hs3
    · have hno : takeUser s ws = none := by
        unfold takeUser
        split
        · exact absurd rfl h3
        · exact absurd rfl h4
        · rfl
      rw [hno]
      exact user_len h g ws.length cap h3 h4
end Go.Proofs.YtadhhamfikpimaaDoor.O

namespace Go.Proofs.YtadhhamfikpimaaDoor.O
set_option linter.unusedVariables false
set_option linter.unusedSimpArgs false
open Go.RowKit
open T
variable {w w' : World} {base rb mb n : Nat} {s : St} {f : List UInt8 → Int} {line : Int} {uv fv : Value}

theorem words_ne (cur l : List UInt8) : P.words cur l ≠ [] := by
  induction l generalizing cur with
  | nil => simp [P.words]
  | cons c r ih => rw [P.words]; split <;> simp [ih]
theorem words_len (l : List UInt8) : ∀ cur x, x ∈ P.words cur l → x.length ≤ cur.length + l.length := by
  induction l with
  | nil => intro cur x hx; simp [P.words] at hx; subst hx; simp
  | cons c r ih =>
    intro cur x hx
    rw [P.words] at hx
    split at hx
    · rcases List.mem_cons.1 hx with rfl | hx
      · simp
      · have := ih [] x hx; simp at this ⊢; omega
    · have := ih _ x hx; simp at this ⊢; omega
theorem words_own {w : World} {base : Nat} {v : Value} {ws : List (List UInt8)} (h : w.ownsRow base 9 1 v ws.length (strCells ws)) (hne : 0 < ws.length) :
    ∃ g cap, v = .slice (some ⟨g, 0, none⟩) ws.length cap ∧ g < w.heap.size ∧ ∀ j (hj : j < ws.length), w.cell? ⟨g, j, none⟩ = some (.string ⟨ws[j].toArray⟩) := by
  obtain ⟨A, cap, hv, hc, hA⟩ := own_form h
  obtain ⟨g, rfl, _, hlt, hcells⟩ := hA hne
  refine ⟨g, cap, hv, hlt, fun j hj => hcells j _ ?_⟩
  simp [strCells, hj]
theorem take_end_trans {w1 : World} {o : Option St} {e : Ending} (h : TakeEnd w1 base rb mb n line o e w') (hb : Below base w w1) : TakeEnd w base rb mb n line o e w' := by
  cases o with
  | none => exact ⟨h.1, h.2.1, hb.trans h.2.2⟩
  | some t => exact ⟨h.1, h.2.1, hb.trans h.2.2⟩
def Hash (x : ByteArray) (b : Bool) : Prop := ∀ w : World, Calls Tryd.prog 48 #[.string x, .string ⟨#[35]⟩] w fun e w' => e = .returned (.bool b) ∧ w = w'
theorem Hash.call {x : ByteArray} {b : Bool} (h : Hash x b) (w : World) : Calls Tryd.prog 48 #[.string x, .string ⟨#[35]⟩] w fun e w' => e = .returned (.bool b) ∧ w = w' := h w
theorem hash_is (x : ByteArray) : Hash x (decide (x.data.toList.head? = some 35)) := fun w => (Tryd.strings_HasPrefix x ⟨#[35]⟩ w).mono fun e w' he => ⟨by
  rw [he.1]
  congr 2
  unfold Lib.hasPrefix
  cases x.data.toList with
  | nil => rfl
  | cons c r =>
    simp [List.isPrefixOf]
    by_cases hc : c = 35
    · subst hc; decide
    · rw [decide_eq_false hc]; exact beq_eq_false_iff_ne.2 (fun e => hc e.symm), he.2.symm⟩

set_option maxRecDepth 100000 in
set_option maxHeartbeats 1000000 in
theorem take_skip (x : ByteArray) (w : World) (h : x.data.toList = [] ∨ x.data.toList.head? = some 35) (v : Value) :
    Calls Tryd.prog 64 #[v, .string x] w fun e w' => e = .returned (.tuple #[]) ∧ w = w' := by
  by_cases h0 : x.data.toList = []
  · have e1 : x.toList = [] := by rw [Lib.toList_data]; exact h0
    clear h h0
    go_enter Tryd.func64, Tryd.ntmps64
    go_wp2_with fail
    first | go_end0 | refine bodyPost_ret (results_none rfl _ _ _) rfl ?_
    exact ⟨rfl, rfl⟩
  · have e1 : x.toList.isEmpty = false := by rw [Lib.toList_data, List.isEmpty_eq_false_iff]; exact h0
    have e2 : ¬ x.toList = [] := by intro e; rw [e] at e1; simp at e1
    have hh := hash_is x
    rw [decide_eq_true (h.resolve_left h0)] at hh
    have HH := Lib.hid hh
    clear h h0 hh
    go_enter Tryd.func64, Tryd.ntmps64
    go_wp2_with fail
    with_reducible refine (HH.out.call _).mono ?_
    rintro e w' ⟨rfl, rfl⟩
    go_wp2_with fail
    first | go_end0 | refine bodyPost_ret (results_none rfl _ _ _) rfl ?_
    exact ⟨rfl, rfl⟩

set_option maxRecDepth 100000 in
set_option maxHeartbeats 4000000 in
theorem take_any (h : Rd w base rb mb n s.p f line uv fv) (ht : Tells s f) (hl0 : line ≠ 0) (hgb : 1 < base) (hT : Tab w) (x : ByteArray) (hx : x.size ≤ 8192) (hnl : n < maxLen) (hl : (Lit.int .i64 line).wf = true) :
    Calls Tryd.prog 64 #[.pointer (some ⟨rb, 0, none⟩), .string x] w (TakeEnd w base rb mb n line (take s x.data.toList)) := by
  by_cases h0 : x.data.toList = [] ∨ x.data.toList.head? = some 35
  · rw [take, if_pos h0]
    exact (take_skip x w h0 _).mono fun e w' ⟨he, hw⟩ => ⟨he, ⟨f, uv, fv, by rw [← hw]; exact { h with map := h.map.mono (Nat.le_succ n) }, ht⟩, by rw [← hw]; exact Below.refl _ _⟩
  · have hz : x.data.toList ≠ [] := fun e => h0 (.inl e)
    have e1 : x.toList.isEmpty = false := by rw [Lib.toList_data, List.isEmpty_eq_false_iff]; exact hz
    have e2 : ¬ x.toList = [] := by intro e; rw [e] at e1; simp at e1
    have hh := hash_is x
    rw [decide_eq_false (fun e => h0 (.inr e))] at hh
    have HH := Lib.hid hh
    have HW := Lib.hid (fun w => words_any x w (by omega))
    have HT : Hid (take s x.data.toList = (if (P.words [] x.data.toList).head? = some kHidden then takeHidden s x.data.toList else if (P.words [] x.data.toList).head? = some kUser then takeUser s (P.words [] x.data.toList) else if (P.words [] x.data.toList).head? = some kFloor then takeFloor s (P.words [] x.data.toList) else takeNumber s (P.words [] x.data.toList))) := Lib.hid (by rw [take, if_neg h0])
    have HLN := Lib.hid (fun (y : List UInt8) (hy : y ∈ P.words [] x.data.toList) => words_len x.data.toList [] y hy)
    have hne := words_ne [] x.data.toList
    have HTH := Lib.hid (fun (w1 : World) (hb : Below w.heap.size w w1) => (tHidden (h.below hb) ht hl0 x hx hnl hl).mono (fun e w' he => take_end_trans he (hb.mono h.size)))
    generalize hws : P.words [] x.data.toList = ws at *
    obtain ⟨o, ho⟩ : ∃ o, o = (if ws.head? = some kHidden then takeHidden s x.data.toList else if ws.head? = some kUser then takeUser s ws else if ws.head? = some kFloor then takeFloor s ws else takeNumber s ws) := ⟨_, rfl⟩
    rw [HT.out, ← ho]
    have HO := Lib.hid ho
    clear ho
    have H := Lib.hid h
    have HTL := Lib.hid ht
    have HTB := Lib.hid hT
    clear h0 hz hh HT hws h ht hT
    go_enter Tryd.func64, Tryd.ntmps64
    go_wp2_with fail
    with_reducible refine (HH.out.call _).mono ?_
    rintro e w' ⟨rfl, rfl⟩
    go_wp2_with fail
    with_reducible refine (HW.out _).mono ?_
    rintro e w1 ⟨v, rfl, hown, hb1⟩
    obtain ⟨g, cap, hv, hlt, hcells⟩ := words_own hown (List.length_pos_iff.2 hne)
    obtain ⟨a0, rest, rfl⟩ : ∃ a0 rest, ws = a0 :: rest := List.exists_cons_of_ne_nil hne
    subst hv
    have c0 : w1.cell? ⟨g, 0, none⟩ = some (.string ⟨a0.toArray⟩) := hcells 0 (by simp)
    have hlen : 0 < (a0 :: rest).length := by simp
    have HWS : Hid (∀ j (hj : j < (a0 :: rest).length), w1.cell? ⟨g, j, none⟩ = some (.string ⟨(a0 :: rest)[j].toArray⟩) ∧ (a0 :: rest)[j].length ≤ 8192) := Lib.hid (fun j hj => ⟨hcells j hj, by have := HLN.out _ (List.getElem_mem hj); rw [← Lib.size_eq] at this; simp at this; omega⟩)
    have hR1 := H.out.below hb1
    have HTH1 := Lib.hid (HTH.out w1 hb1)
    have HTU : Hid (a0 = kUser → Calls Tryd.prog 92 #[.pointer (some ⟨rb, 0, none⟩), .slice (some ⟨g, 0, none⟩) (a0 :: rest).length cap] w1 (TakeEnd w base rb mb n line (takeUser s (a0 :: rest)))) := Lib.hid (fun e => (tUser hR1 HTL.out hl0 hgb (HTB.out.later hb1) g cap _ hlt HWS.out hnl hl (by rw [e]; rfl)).mono (fun e w' he => take_end_trans he (hb1.mono H.out.size)))
    have HTF : Hid (a0 = kFloor → Calls Tryd.prog 93 #[.pointer (some ⟨rb, 0, none⟩), .slice (some ⟨g, 0, none⟩) (a0 :: rest).length cap] w1 (TakeEnd w base rb mb n line (takeFloor s (a0 :: rest)))) := Lib.hid (fun e => (tFloor hR1 HTL.out hl0 hgb (HTB.out.later hb1) g cap _ hlt HWS.out hnl hl (by rw [e]; rfl)).mono (fun e w' he => take_end_trans he (hb1.mono H.out.size)))
    have HTN := Lib.hid ((tNumber hR1 HTL.out hl0 g cap _ hlt HWS.out hnl hl).mono (fun e w' he => take_end_trans he (hb1.mono H.out.size)))
    have q1 : ((⟨a0.toArray⟩ : ByteArray).toList == [104, 105, 100, 100, 101, 110]) = decide (a0 = kHidden) := str_is a0 kHidden
    have q2 : ((⟨a0.toArray⟩ : ByteArray).toList == [117, 115, 101, 114]) = decide (a0 = kUser) := str_is a0 kUser
    have q3 : ((⟨a0.toArray⟩ : ByteArray).toList == [102, 108, 111, 111, 114]) = decide (a0 = kFloor) := str_is a0 kFloor
    clear hcells hR1 hown HTH HLN HW HH HWS hne
    generalize hm : (a0 :: rest).length = m at *
    clear hm
    generalize hxa : (⟨a0.toArray⟩ : ByteArray) = xa at *
    clear hxa
    by_cases k1 : a0 = kHidden
    · rw [decide_eq_true k1] at q1
      have HC := Lib.hid HTH1.out
      rw [← show o = takeHidden s x.data.toList by rw [HO.out, if_pos (by rw [k1]; rfl)]] at HC
      clear HO HTH1 HTU HTF HTN q2 q3 k1
      go_wp2_with fail
      with_reducible refine (HC.out).mono ?_
      rintro e w2 he
      clear HC c0
      rcases o with _ | t
      · obtain ⟨rfl, h1, h2⟩ := he
        go_wp2_with fail
        exact ⟨rfl, rfl, h1, h2⟩
      · obtain ⟨rfl, h1⟩ := he
        have HE := Lib.hid h1
        clear h1
        go_wp2_with fail
        first | go_end0 | refine bodyPost_ret (results_none rfl _ _ _) rfl ?_
        exact ⟨rfl, HE.out⟩
    rw [decide_eq_false k1] at q1
    by_cases k2 : a0 = kUser
    · rw [decide_eq_true k2] at q2
      have HC := Lib.hid (HTU.out k2)
      rw [← show o = takeUser s (a0 :: rest) by rw [HO.out, if_neg (fun e => k1 (by simpa using e)), if_pos (by rw [k2]; rfl)]] at HC
      clear HO HTH1 HTU HTF HTN q3 k1 k2
      go_wp2_with fail
      with_reducible refine (HC.out).mono ?_
      rintro e w2 he
      clear HC c0
      rcases o with _ | t
      · obtain ⟨rfl, h1, h2⟩ := he
        go_wp2_with fail
        exact ⟨rfl, rfl, h1, h2⟩
      · obtain ⟨rfl, h1⟩ := he
        have HE := Lib.hid h1
        clear h1
        go_wp2_with fail
        first | go_end0 | refine bodyPost_ret (results_none rfl _ _ _) rfl ?_
        exact ⟨rfl, HE.out⟩
    rw [decide_eq_false k2] at q2
    by_cases k3 : a0 = kFloor
    · rw [decide_eq_true k3] at q3
      have HC := Lib.hid (HTF.out k3)
      rw [← show o = takeFloor s (a0 :: rest) by rw [HO.out, if_neg (fun e => k1 (by simpa using e)), if_neg (fun e => k2 (by simpa using e)), if_pos (by rw [k3]; rfl)]] at HC
      clear HO HTH1 HTU HTF HTN k1 k2 k3
      go_wp2_with fail
      with_reducible refine (HC.out).mono ?_
      rintro e w2 he
      clear HC c0
      rcases o with _ | t
      · obtain ⟨rfl, h1, h2⟩ := he
        go_wp2_with fail
        exact ⟨rfl, rfl, h1, h2⟩
      · obtain ⟨rfl, h1⟩ := he
        have HE := Lib.hid h1
        clear h1
        go_wp2_with fail
        first | go_end0 | refine bodyPost_ret (results_none rfl _ _ _) rfl ?_
        exact ⟨rfl, HE.out⟩
    rw [decide_eq_false k3] at q3
    · have HC := Lib.hid HTN.out
      rw [← show o = takeNumber s (a0 :: rest) by rw [HO.out, if_neg (fun e => k1 (by simpa using e)), if_neg (fun e => k2 (by simpa using e)), if_neg (fun e => k3 (by simpa using e))]] at HC
      clear HO HTH1 HTU HTF HTN k1 k2 k3
      go_wp2_with fail
      with_reducible refine (HC.out).mono ?_
      rintro e w2 he
      clear HC c0
      rcases o with _ | t
      · obtain ⟨rfl, h1, h2⟩ := he
        go_wp2_with fail
        exact ⟨rfl, rfl, h1, h2⟩
      · obtain ⟨rfl, h1⟩ := he
        have HE := Lib.hid h1
        clear h1
        go_wp2_with fail
        first | go_end0 | refine bodyPost_ret (results_none rfl _ _ _) rfl ?_
        exact ⟨rfl, HE.out⟩
end Go.Proofs.YtadhhamfikpimaaDoor.O

namespace Go.Proofs.YtadhhamfikpimaaDoor.O
set_option linter.unusedVariables false
set_option linter.unusedSimpArgs false
open Go.RowKit
open T
variable {w w' : World} {base rb mb n : Nat} {s : St} {f : List UInt8 → Int} {line : Int} {uv fv : Value}

def AllEnd (w : World) (base rb : Nat) (line : Int) (b : Bool) (e : Ending) (w' : World) : Prop :=
  match b with
  | true => e = .returned (.tuple #[]) ∧ Below w.heap.size w w'
  | false => Fell w base rb line e w'
theorem all_is {o : List Bool} (h : o.length = 7) : o.all id = true ↔ (∀ j, j < 6 → o.getD j false = true) ∧ o.getD 6 false = true := by
  match o, h with
  | [a, b, c, d, e, g, i], _ =>
    constructor
    · intro h
      simp at h
      obtain ⟨rfl, rfl, rfl, rfl, rfl, rfl, rfl⟩ := h
      refine ⟨fun j hj => ?_, rfl⟩
      match j, hj with
      | 0, _ | 1, _ | 2, _ | 3, _ | 4, _ | 5, _ => rfl
    · rintro ⟨h, h6⟩
      have h0 := h 0 (by omega)
      have h1 := h 1 (by omega)
      have h2 := h 2 (by omega)
      have h3 := h 3 (by omega)
      have h4 := h 4 (by omega)
      have h5 := h 5 (by omega)
      simp at h0 h1 h2 h3 h4 h5 h6
      simp [h0, h1, h2, h3, h4, h5, h6]
theorem key_size {k : Nat} (hk : k < 6) : (⟨(keys.getD k []).toArray⟩ : ByteArray).size ≤ maxLen := by
  rw [list_size]
  match k, hk with
  | 0, _ | 1, _ | 2, _ | 3, _ | 4, _ | 5, _ => unfold maxLen; decide

set_option maxRecDepth 100000 in
set_option maxHeartbeats 2000000 in
theorem needAll_any (h : Rd w base rb mb n s.p f line uv fv) (ht : Tells s f) :
    Calls Tryd.prog 65 #[.pointer (some ⟨rb, 0, none⟩)] w (AllEnd w base rb line (s.once.all id)) := by
  have H := Lib.hid h
  have HT := Lib.hid ht
  obtain ⟨bb, hbb⟩ : ∃ b, b = s.once.all id := ⟨_, rfl⟩
  rw [← hbb]
  have HBB := Lib.hid hbb
  clear h ht hbb
  go_enter Tryd.func65, Tryd.ntmps65
  go_wp2_with fail
  with_reducible refine (numbers_any rb 0 _).mono ?_
  rintro e w1 ⟨rfl, hg1, hb1, hs1'⟩
  have HG1 := Lib.hid hg1
  have HB1 := Lib.hid hb1
  clear hg1 hb1 hs1'
  go_wp2_with fail
  go_loopg [9] 6 (fun m i wr => ∃ k : Nat, k ≤ 6 ∧ i = .int .i64 k ∧ 6 - k ≤ m ∧ Below w1.heap.size w1 wr ∧ Hid (∀ j, j < k → s.once.getD j false = true))
  case atStart => exact ⟨0, by omega, rfl, by omega, Below.refl _ _, Lib.hid (fun j hj => absurd hj (by omega))⟩
  case round =>
    obtain ⟨k, hk, rfl, hm, hbr, HJ⟩ := hrel
    have hbw : Below w.heap.size w wr := HB1.out.trans (hbr.mono HB1.out.size)
    by_cases hk6 : k < 6
    · obtain ⟨d0, d1, d2, d3⟩ := cell_num HG1.out hbr hk6
      have hki : (k : Int) < 6 := by omega
      have hk0 : (0 : Int) ≤ (k : Int) := by omega
      have hkl := key_size hk6
      have hkey := HT.out.key (i := k) (by omega)
      cases ho : s.once.getD k false with
      | false =>
        have hf0 := hkey.2 ho
        have hbf : bb = false := by
          rw [HBB.out]
          cases ha : s.once.all id with
          | false => rfl
          | true => rw [((all_is HT.out.on).1 ha).1 k hk6] at ho; cases ho
        generalize keys.getD k [] = kw at *
        generalize lows.getD k 0 = lo at *
        generalize highs.getD k 0 = hi at *
        obtain ⟨xw, hxw⟩ : ∃ x : ByteArray, x = ⟨kw.toArray⟩ := ⟨_, rfl⟩
        have hkw : xw.data.toList = kw := by rw [hxw, list_data]
        rw [← hxw] at d0 hkl
        rw [← hkw] at hf0
        have hb2 : Below wr.heap.size wr (wr.alloc (.cells #[.string xw, .pointer (some ⟨rb, k, none⟩), .int .i64 lo, .int .i64 hi] 112)) := (Below.refl _ _).alloc (Nat.le_refl _) _
        have hR2 := (H.out.below hbw).below hb2
        have HS := Lib.hid (needSaid_no hR2 xw hkl hf0)
        have HF := Lib.hid (hR2.fell ((hbw.trans (hb2.mono hbw.size)).mono H.out.size))
        subst hbf
        clear hxw hkw hf0 hkey ho HBB HJ hb2 hR2
        go_wp2_with fail
        with_reducible refine (HS.out).mono ?_
        rintro e w' ⟨rfl, rfl⟩
        go_wp2_with fail
        exact ⟨rfl, HF.out⟩
      | true =>
        have hf0 : f (keys.getD k []) ≠ 0 := fun e => by rw [hkey.1 e] at ho; cases ho
        have HJ1 := Lib.hid (show ∀ j, j < k + 1 → s.once.getD j false = true from fun j hj => by
          rcases Nat.lt_or_ge j k with h' | h'
          · exact HJ.out j h'
          · rw [show j = k by omega]; exact ho)
        generalize keys.getD k [] = kw at *
        generalize lows.getD k 0 = lo at *
        generalize highs.getD k 0 = hi at *
        obtain ⟨xw, hxw⟩ : ∃ x : ByteArray, x = ⟨kw.toArray⟩ := ⟨_, rfl⟩
        have hkw : xw.data.toList = kw := by rw [hxw, list_data]
        rw [← hxw] at d0 hkl
        rw [← hkw] at hf0
        have hb2 : Below wr.heap.size wr (wr.alloc (.cells #[.string xw, .pointer (some ⟨rb, k, none⟩), .int .i64 lo, .int .i64 hi] 112)) := (Below.refl _ _).alloc (Nat.le_refl _) _
        have hR2 := (H.out.below hbw).below hb2
        have HS := Lib.hid (needSaid_yes hR2 xw hkl hf0)
        have HBR := Lib.hid (hbr.trans (hb2.mono hbr.size))
        clear hxw hkw hf0 hkey ho HJ hb2 hR2
        go_wp2_with fail
        with_reducible refine (HS.out).mono ?_
        rintro e w' ⟨rfl, rfl⟩
        clear d0 d1 d2 d3 hbr hbw
        go_wp2_with fail
        go_roundg (6 - (k + 1))
        case rel => exact ⟨k + 1, by omega, by go_num, Nat.le_refl _, HBR.out, HJ1⟩
        case measure => omega
    · have hk : k = 6 := by omega
      subst hk
      have hR2 := H.out.below hbw
      have hkey := HT.out.key (i := 6) (by omega)
      have HBW := Lib.hid hbw
      cases ho : s.once.getD 6 false with
      | false =>
        have hbf : bb = false := by
          rw [HBB.out]
          cases ha : s.once.all id with
          | false => rfl
          | true => rw [((all_is HT.out.on).1 ha).2] at ho; cases ho
        have HS := Lib.hid (needSaid_no hR2 wHidden (by unfold maxLen; decide) (by rw [key6]; exact hkey.2 ho))
        have HF := Lib.hid (hR2.fell (hbw.mono H.out.size))
        unfold wHidden at HS
        subst hbf
        clear hkey ho HBB HJ hR2 hbr hbw
        go_wp2_with fail
        with_reducible refine (HS.out).mono ?_
        rintro e w' ⟨rfl, rfl⟩
        go_wp2_with fail
        exact ⟨rfl, HF.out⟩
      | true =>
        have hbf : bb = true := by
          rw [HBB.out, (all_is HT.out.on).2 ⟨HJ.out, ho⟩]
        have HS := Lib.hid (needSaid_yes hR2 wHidden (by unfold maxLen; decide) (by rw [key6]; exact fun e => by rw [hkey.1 e] at ho; cases ho))
        unfold wHidden at HS
        subst hbf
        clear hkey ho HBB HJ hR2 hbr hbw
        go_wp2_with fail
        with_reducible refine (HS.out).mono ?_
        rintro e w' ⟨rfl, rfl⟩
        go_wp2_with fail
        first | go_end0 | refine bodyPost_ret (results_none rfl _ _ _) rfl ?_
        exact ⟨rfl, HBW.out⟩

theorem catch_idle (a b c d : Value) (w : World) :
    CallsD Tryd.prog 63 #[a, b, c, d] .returning w fun e u' w' => e = .returned (.tuple #[]) ∧ u' = .returning ∧ w = w' := by
  refine callsD_of_wpS Tryd.func63 rfl fun c₀ cs hu => ?_
  apply wpS_seq
  apply wpS_region
  simp [wpOpsS, go_sem, recoverD, hu, Tryd.ntmps63, Exit.thenS]
  refine wpS_of_wp ?_
  go_wp2_with fail
  cases c₀
  simp_all [bodyPostS, results, Tryd.results63]
/-- The zero policy's cells. -/
def zeroPol : Array Value := #[.int .i64 0, .int .i64 0, .int .i64 0, .int .i64 0, .int .i64 0, .int .i64 0, .string ⟨#[]⟩, .slice none 0 0, .slice none 0 0]
def Caught (w : World) (pb lb eb : Nat) (line : Int) (w' : World) : Prop :=
  w'.heap[pb]? = some (.cells zeroPol 26 (0, 0)) ∧ w'.heap[lb]? = some (.cells #[.int .i64 line] 3 (0, 0)) ∧ w'.heap[eb]? = some (.cells #[.int .i64 3] 27 (0, 0)) ∧ ∀ B, B ≤ pb → B ≤ lb → B ≤ eb → Below B w w'
structure Zp (w w' : World) (pb : Nat) : Prop where
  zero : w'.heap[pb]? = some (.cells zeroPol 26 (0, 0))
  far : ∀ g, g ≠ pb → w'.heap[g]? = w.heap[g]?
  below : ∀ B, B ≤ pb → Below B w w'
theorem Zp.start {w : World} {pb : Nat} (hp : w.heap[pb]? = some (.cells zeroPol 26 (0, 0))) : Zp w w pb := ⟨hp, fun _ _ => rfl, fun _ _ => Below.refl _ _⟩
theorem Zp.step {w w' : World} {pb : Nat} (h : Zp w w' pb) (i : Nat) (v : Value) (hv : zeroPol.setIfInBounds i v = zeroPol) : Zp w (w'.setCell ⟨pb, i, none⟩ v) pb := by
  refine ⟨?_, fun g hg => (L.blk_far hg v).trans (h.far g hg), fun B hB => (h.below B hB).setCell (p := ⟨pb, i, none⟩) hB v⟩
  have := L.blk_set h.zero i v
  rw [hv] at this
  exact this
theorem caught_of {w w' : World} {pb lb eb : Nat} (line : Int) (h : Zp w w' pb) (hl : w.heap[lb]? = some (.cells #[.int .i64 0] 3 (0, 0))) (he : w.heap[eb]? = some (.cells #[.int .i64 0] 27 (0, 0))) (h2 : pb ≠ lb) (h3 : pb ≠ eb) (h4 : lb ≠ eb) :
    Caught w pb lb eb line ((w'.setCell ⟨lb, 0, none⟩ (.int .i64 line)).setCell ⟨eb, 0, none⟩ (.int .i64 3)).drew := by
  refine ⟨?_, ?_, ?_, fun B b1 b2 b3 => ?_⟩
  · exact (L.blk_far h3 _).trans ((L.blk_far h2 _).trans h.zero)
  · have := L.blk_set ((h.far lb (fun e => h2 e.symm)).trans hl) 0 (.int .i64 line)
    exact (L.blk_far h4 _).trans this
  · have := L.blk_set ((L.blk_far (i := 0) (fun e => h4 e.symm) (.int .i64 line)).trans ((h.far eb (fun e => h3 e.symm)).trans he)) 0 (.int .i64 3)
    exact this
  · exact (((h.below B b1).setCell (p := ⟨lb, 0, none⟩) b2 _).setCell (p := ⟨eb, 0, none⟩) b3 _).drew
theorem caught (pb lb eb : Nat) (line : Int) (w : World) (hp : w.heap[pb]? = some (.cells zeroPol 26 (0, 0))) (hl : w.heap[lb]? = some (.cells #[.int .i64 0] 3 (0, 0))) (he : w.heap[eb]? = some (.cells #[.int .i64 0] 27 (0, 0))) (h2 : pb ≠ lb) (h3 : pb ≠ eb) (h4 : lb ≠ eb) :
    Caught w pb lb eb line ((((((((((((w.setCell ⟨pb, 0, none⟩ (.int .i64 0)).setCell ⟨pb, 1, none⟩ (.int .i64 0)).setCell ⟨pb, 2, none⟩ (.int .i64 0)).setCell ⟨pb, 3, none⟩ (.int .i64 0)).setCell ⟨pb, 4, none⟩ (.int .i64 0)).setCell ⟨pb, 5, none⟩ (.int .i64 0)).setCell ⟨pb, 6, none⟩ (.string ⟨#[]⟩)).setCell ⟨pb, 7, none⟩ (.slice none 0 0)).setCell ⟨pb, 8, none⟩ (.slice none 0 0)).setCell ⟨lb, 0, none⟩ (.int .i64 line)).setCell ⟨eb, 0, none⟩ (.int .i64 3)).drew) :=
  caught_of line ((((((((((Zp.start hp).step 0 (.int .i64 0) rfl).step 1 (.int .i64 0) rfl).step 2 (.int .i64 0) rfl).step 3 (.int .i64 0) rfl).step 4 (.int .i64 0) rfl).step 5 (.int .i64 0) rfl).step 6 (.string ⟨#[]⟩) rfl).step 7 (.slice none 0 0) rfl).step 8 (.slice none 0 0) rfl) hl he h2 h3 h4
set_option maxRecDepth 100000 in
set_option maxHeartbeats 4000000 in
theorem catch_panicking (rb pb lb eb : Nat) (line : Int) (w : World) (hc : w.cell? ⟨rb, 10, none⟩ = some (.int .i64 line)) (hp : w.heap[pb]? = some (.cells zeroPol 26 (0, 0))) (hl : w.heap[lb]? = some (.cells #[.int .i64 0] 3 (0, 0))) (he : w.heap[eb]? = some (.cells #[.int .i64 0] 27 (0, 0))) (h1 : pb ≠ rb) (h2 : pb ≠ lb) (h3 : pb ≠ eb) (h4 : lb ≠ eb) :
    CallsD Tryd.prog 63 #[.pointer (some ⟨rb, 0, none⟩), .pointer (some ⟨pb, 0, none⟩), .pointer (some ⟨lb, 0, none⟩), .pointer (some ⟨eb, 0, none⟩)] (.panicking fault) w fun e u' w' =>
      e = .returned (.tuple #[]) ∧ u' = .panicking [{ v := .iface 27 (.int .i64 3), recovered := true }] ∧ Caught w pb lb eb line w' := by
  have HCW := Lib.hid (caught pb lb eb line w hp hl he h2 h3 h4)
  have p0 : w.cell? ⟨pb, 0, none⟩ = some (.int .i64 0) := L.blk_cell hp 0
  have p1 : w.cell? ⟨pb, 1, none⟩ = some (.int .i64 0) := L.blk_cell hp 1
  have p2 : w.cell? ⟨pb, 2, none⟩ = some (.int .i64 0) := L.blk_cell hp 2
  have p3 : w.cell? ⟨pb, 3, none⟩ = some (.int .i64 0) := L.blk_cell hp 3
  have p4 : w.cell? ⟨pb, 4, none⟩ = some (.int .i64 0) := L.blk_cell hp 4
  have p5 : w.cell? ⟨pb, 5, none⟩ = some (.int .i64 0) := L.blk_cell hp 5
  have p6 : w.cell? ⟨pb, 6, none⟩ = some (.string ⟨#[]⟩) := L.blk_cell hp 6
  have p7 : w.cell? ⟨pb, 7, none⟩ = some (.slice none 0 0) := L.blk_cell hp 7
  have p8 : w.cell? ⟨pb, 8, none⟩ = some (.slice none 0 0) := L.blk_cell hp 8
  have z0 := L.blk_free hp 0
  have z1 := L.blk_free hp 1
  have z2 := L.blk_free hp 2
  have z3 := L.blk_free hp 3
  have z4 := L.blk_free hp 4
  have z5 := L.blk_free hp 5
  have z6 := L.blk_free hp 6
  have z7 := L.blk_free hp 7
  have z8 := L.blk_free hp 8
  have l0 : w.cell? ⟨lb, 0, none⟩ = some (.int .i64 0) := L.blk_cell hl 0
  have zl := L.blk_free hl 0
  have e0 : w.cell? ⟨eb, 0, none⟩ = some (.int .i64 0) := L.blk_cell he 0
  have ze := L.blk_free he 0
  have h1' : ¬ rb = pb := fun e => h1 e.symm
  have h2' : ¬ lb = pb := fun e => h2 e.symm
  have h3' : ¬ eb = pb := fun e => h3 e.symm
  have h4' : ¬ eb = lb := fun e => h4 e.symm
  have HP := Lib.hid hp
  have HL := Lib.hid hl
  have HE := Lib.hid he
  clear hp hl he
  have hta : ∀ w : World, (Instr.typeAssert (.iface 27 (.int .i64 3)) 20 27 false).run Tryd.prog w = .ok (.int .i64 3) w := fun _ => by kernel_rfl
  refine callsD_of_wpS Tryd.func63 rfl fun c₀ cs hu => ?_
  unfold fault at hu
  rw [show (#[.pointer (some ⟨rb, 0, none⟩), .pointer (some ⟨pb, 0, none⟩), .pointer (some ⟨lb, 0, none⟩), .pointer (some ⟨eb, 0, none⟩)] ++ Array.replicate (Tryd.f63.ntmps - (#[.pointer (some ⟨rb, 0, none⟩), .pointer (some ⟨pb, 0, none⟩), .pointer (some ⟨lb, 0, none⟩), .pointer (some ⟨eb, 0, none⟩)] : Array Value).size) undef : Array Value) = #[.pointer (some ⟨rb, 0, none⟩), .pointer (some ⟨pb, 0, none⟩), .pointer (some ⟨lb, 0, none⟩), .pointer (some ⟨eb, 0, none⟩), undef, undef, undef, undef, undef, undef, undef, undef, undef] by rw [Tryd.ntmps63]; rfl]
  apply wpS_seq
  apply wpS_region
  simp [wpOpsS, go_sem, recoverD, hu, Exit.thenS]
  refine wpS_of_wp ?_
  go_wp2_with fail
  go_region
  clear p0 p1 p2 p3 p4 p5 p6 p7 p8 z0 z1 z2 z3 z4 z5 z6 z7 z8 l0 zl e0 ze hta hc
  refine ⟨rfl, _, rfl, .tuple #[], ?_, rfl, rfl, HCW.out⟩
  simp [results, Tryd.results63]
end Go.Proofs.YtadhhamfikpimaaDoor.O
