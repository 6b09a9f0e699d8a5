/-
  The contract of label's Print.
-/
import Derived.Test.YtbilhdfoajahkaaDoorLabelE
import Derived.Test.YtbilhdfoajahkaaDoorNums
import Derived.Test.YtbilhdfoajahkaaDoorShelf2
namespace Go.Proofs.YtbilhdfoajahkaaDoor.L
open Go.RowKit
open T

/-- A label's text. -/
def catsText (xs : List Nat) : List UInt8 := Lib.join (xs.map fun n : Nat => P.decimal (n : Int)) [44]
def print (l : Int) (c : Nat) : List UInt8 := if catsTo c 64 = [] then P.decimal l else P.decimal l ++ [58] ++ catsText (catsTo c 64)

theorem own_form {w : World} {base : Nat} {e : TypeId} {size n : Nat} {v : Value} {xs : List Value} (h : w.ownsRow base e size v n xs) :
    ∃ A cap, v = .slice A n cap ∧ n ≤ cap ∧ (0 < n → ∃ g, A = some ⟨g, 0, none⟩ ∧ base ≤ g ∧ g < w.heap.size ∧ ∀ j u, xs[j]? = some u → w.cell? ⟨g, j, none⟩ = some u) := by
  rcases h.2 with ⟨rfl, rfl⟩ | ⟨g, cap, cur, rfl, hg, hh, hnc, _, _, hx⟩
  · exact ⟨none, 0, rfl, Nat.le_refl _, fun h => absurd h (by omega)⟩
  · refine ⟨_, cap, rfl, hnc, fun _ => ⟨g, rfl, hg, blk_lt hh, fun j u hu => ?_⟩⟩
    rw [← hx] at hu
    have hu' : cur.toList[j]? = some u := by
      rw [List.getElem?_take] at hu
      split at hu
      · exact hu
      · cases hu
    rw [blk_cell hh j]
    simpa using hu'

theorem join_len (xs : List Nat) : (catsText xs).length ≤ 11 * xs.length := by
  unfold catsText Lib.join
  induction xs with
  | nil => simp
  | cons x r ih =>
    have := P.decimal_length (x : Int)
    cases r with
    | nil => simp; omega
    | cons y r =>
      rw [List.map_cons, List.map_cons, List.intercalate_cons_cons] 
      simp at ih ⊢
      omega

/-- The texts of categories, as strings. -/
def decStrs (xs : List Nat) : List ByteArray := xs.map fun n : Nat => (⟨(P.decimal (n : Int)).toArray⟩ : ByteArray)
def decCells (xs : List Nat) : List Value := xs.map fun n : Nat => .string ⟨(P.decimal (n : Int)).toArray⟩
theorem decStrs_data (xs : List Nat) : (decStrs xs).map (·.data.toList) = xs.map fun n : Nat => P.decimal (n : Int) := by
  unfold decStrs
  rw [List.map_map]
  exact List.map_congr_left fun _ _ => rfl
theorem dec_take {xs : List Nat} {k : Nat} (hk : k < xs.length) : decCells (xs.take (k + 1)) = decCells (xs.take k) ++ [.string ⟨(P.decimal ((xs[k] : Nat) : Int)).toArray⟩] := by
  unfold decCells
  rw [List.take_succ_eq_append_getElem hk, List.map_append]
  rfl
theorem cat (l r : List UInt8) : (⟨l.toArray⟩ : ByteArray) ++ ⟨r.toArray⟩ = ⟨(l ++ r).toArray⟩ := by
  apply ByteArray.ext
  simp

set_option maxHeartbeats 1000000 in
set_option maxRecDepth 100000 in
theorem print_any (l : Int) (c : Nat) (w : World) (h0 : -9223372036854775808 ≤ l) (h1 : l ≤ 9223372036854775807) (hc : c < 18446744073709551616) (ht : Tab w) :
    Calls Tryd.prog 47 #[lab l c] w fun e w' => e = .returned (.string ⟨(print l c).toArray⟩) ∧ Below w.heap.size w w' := by
  obtain ⟨i0, hi0, hz0, hz1, hz2⟩ := info_parts infoStr
  have HC := Lib.hid (fun w => cats_any l c w hc)
  have HD := Lib.hid (fun (n : Int) (a : -9223372036854775808 ≤ n) (b : n ≤ 9223372036854775807) (w : World) (ht : Tab w) => decimal_any n w a b ht)
  have HT := Lib.hid ht
  have hlen := catsTo_len c 64
  have HX : Hid (∀ j (h : j < (catsTo c 64).length), (catsTo c 64)[j] < 64) := Lib.hid fun j h => by
    have := List.getElem_mem h
    unfold catsTo at this
    rw [List.mem_filter, List.mem_range] at this
    exact this.1
  have HP := Lib.hid (show print l c = if catsTo c 64 = [] then P.decimal l else P.decimal l ++ [58] ++ catsText (catsTo c 64) from rfl)
  generalize print l c = res at *
  generalize catsTo c 64 = xs at *
  clear hc ht
  go_enter Tryd.func47, Tryd.ntmps47
  go_wp2_with fail
  with_reducible refine (HC.out _).mono ?_
  rintro e w1 ⟨v, rfl, hown, hb1⟩
  obtain ⟨A, cap, hv, hcap, hA⟩ := own_form hown
  subst hv
  have hbel : Below w.heap.size w w1 := ((Below.refl _ _).alloc (Nat.le_refl _) _).trans (hb1.mono (by simp))
  have HK0 := Lib.hid ((hb1.block w.heap.size (by simp)).trans (heap_alloc_new w _))
  have hw1 : w.heap.size < w1.heap.size := blk_lt HK0.out
  have HA := Lib.hid hA
  have HT1 := Lib.hid (HT.out.later hbel)
  clear hA hown hb1 HC HT
  go_wp2_with fail
  go_loopg [3, 10] xs.length (fun n v i wr => ∃ k : Nat, k ≤ xs.length ∧ i = .int .i64 k ∧ xs.length - k ≤ n ∧ wr.ownsRow w1.heap.size 9 1 v k (decCells (xs.take k)) ∧ Below w1.heap.size w1 wr)
  case atStart => exact ⟨0, Nat.zero_le _, rfl, by omega, ⟨by simp [decCells], .inl ⟨rfl, rfl⟩⟩, Below.refl _ _⟩
  case round =>
    obtain ⟨k, hk, rfl, hn, hown, hbw⟩ := hrel
    by_cases hlt : k < xs.length
    · obtain ⟨g, hAe, hg0, hg1, hcells⟩ := HA.out (by omega)
      subst hAe
      have hcell : wr.cell? ⟨g, k, none⟩ = some (.int .i64 ((xs[k] : Nat) : Int)) := (hbw.cell (p := ⟨g, k, none⟩) hg1).trans (hcells k _ (by simp [intCells, List.getElem?_eq_getElem hlt]))
      have hx := HX.out k hlt
      have HTk := Lib.hid (dec_take hlt)
      have HTr := Lib.hid (HT1.out.later hbw)
      clear hcells
      generalize xs[k] = x at *
      go_wp2_with fail
      with_reducible refine (HD.out (x : Int) (by omega) (by omega) _ HTr.out).mono ?_
      rintro e w2 ⟨rfl, hb2⟩
      have hbw2 : Below w1.heap.size w1 w2 := hbw.trans (hb2.mono hbw.size)
      have hown2 : w2.ownsRow w1.heap.size 9 1 u3 k (decCells (xs.take k)) := hown.kept (row := none) ⟨hb2.os, hb2.tape, hb2.output, hb2.size, fun i hi _ => hb2.block i hi⟩ (by
        rcases hh : u3.ownBlock with _ | b
        · exact .inl rfl
        · exact .inr (by simp))
      generalize P.decimal (x : Int) = ds at *
      clear hcell hown hb2
      go_wp2_with (at_builtin; refine wpList_append_own _ rfl (.tmp 14) (.tmp 17) 34 rfl w1.heap.size 9 i0 _ 1 16 Tryd.underlying34 hi0 hz0 hz1 hz2 rfl (by decide) _ k (decCells (xs.take k)) rfl ?ho ⟨w2.heap.size, 0, none⟩ 1 1 [.string ⟨ds.toArray⟩] rfl rfl ?c1 ?c2 ?c3 ?c4 ?c5 ?_)
      case ho => exact hown2.alloc _
      case c1 => exact cell_one_new _ _ _
      case c2 => intro u hu; simp at hu; rcases hu with rfl; rfl
      case c3 => simp only [maxLen]; omega
      case c4 => omega
      case c5 => have := hbw2.size; simp; omega
      intro v' w3 hown3 hg3 _
      have hbw3 : Below w1.heap.size w1 w3 := (hbw2.alloc hbw2.size _).grown hg3 (by have := hbw2.size; simp; omega) (own_base hown2)
      rw [← HTk.out] at hown3
      clear hown2
      go_wp2_with fail
      go_roundg (xs.length - (k + 1))
      case measure => omega
      case rel => exact ⟨k + 1, by omega, by go_num, Nat.le_refl _, hown3, hbw3⟩
    · obtain rfl : k = xs.length := by omega
      rw [List.take_length] at hown
      obtain ⟨A', cap', hv', hcap', hA'⟩ := own_form hown
      subst hv'
      have c0 : wr.cell? ⟨w.heap.size, 0, none⟩ = some (.int .i64 l) := blk_cell ((hbw.block _ hw1).trans HK0.out) 0
      have HTr := Lib.hid (HT1.out.later hbw)
      have hbr : Below w.heap.size w wr := hbel.trans (hbw.mono (by omega))
      clear hown
      go_wp2_with fail
      with_reducible refine (HD.out l h0 h1 _ HTr.out).mono ?_
      rintro e w2 ⟨rfl, hb2⟩
      have hb02 : Below w.heap.size w w2 := hbr.trans (hb2.mono hbr.size)
      by_cases hx0 : xs.length = 0
      · have hb0 : ((xs.length : Int) == 0) = true := beq_iff_eq.2 (by omega)
        have HQ := Lib.hid (show res = P.decimal l by rw [HP.out, if_pos (List.eq_nil_of_length_eq_zero hx0)])
        clear hx0 c0
        go_wp2_with fail
        go_ret
        exact ⟨ret_of (by rw [HQ.out]; rfl), hb02⟩
      · have hb0 : ((xs.length : Int) == 0) = false := beq_eq_false_iff_ne.2 (by omega)
        have HQ := Lib.hid (show res = P.decimal l ++ [58] ++ catsText xs by rw [HP.out, if_neg (fun e => hx0 (by rw [e]; rfl))])
        obtain ⟨g, hAe, hg0, hg1, hcells⟩ := hA' (by omega)
        subst hAe
        have hdl := P.decimal_length l
        have hjl := join_len xs
        have hlx : xs.length = (decStrs xs).length := by simp [decStrs]
        have hjoin := Tryd.strings_Join g 0 cap' (decStrs xs) ⟨#[44]⟩ w2 (fun j x hj => by
            rw [Nat.zero_add, hb2.cell (p := ⟨g, j, none⟩) hg1]
            refine hcells j _ ?_
            have : (decCells xs)[j]? = ((decStrs xs)[j]?).map Value.string := by
              simp only [decCells, decStrs, List.getElem?_map, Option.map_map]; rfl
            rw [this, hj]; rfl) (by have := hb2.size; omega) (by omega) (by omega) (by
            rw [decStrs_data]
            show (catsText xs).length ≤ _
            omega)
        rw [decStrs_data, ← hlx] at hjoin
        have HJ : Hid (Calls Tryd.prog 57 #[.slice (some ⟨g, 0, none⟩) xs.length cap', .string ⟨#[44]⟩] w2 fun e w' => e = .returned (.string ⟨(catsText xs).toArray⟩) ∧ Below w2.heap.size w2 w') := Lib.hid hjoin
        clear hjoin hcells c0 hlx hA' hx0
        generalize catsText xs = js at *
        generalize P.decimal l = ds at *
        have ha1 : (⟨ds.toArray⟩ : ByteArray).size + (⟨#[58]⟩ : ByteArray).size ≤ 9223372036854775807 := by
          show ds.toArray.size + 1 ≤ _; simp; omega
        have ha2 : ((⟨ds.toArray⟩ : ByteArray) ++ ⟨#[58]⟩).size + (⟨js.toArray⟩ : ByteArray).size ≤ 9223372036854775807 := by
          rw [ByteArray.size_append]; show ds.toArray.size + 1 + js.toArray.size ≤ _; simp; omega
        go_wp2_with fail
        with_reducible refine (HJ.out).mono ?_
        rintro e w3 ⟨rfl, hb3⟩
        have hb03 : Below w.heap.size w w3 := hb02.trans (hb3.mono hb02.size)
        go_wp2_with fail
        go_ret
        exact ⟨ret_of (by rw [HQ.out, ← cat, ← cat]; rfl), hb03⟩
end Go.Proofs.YtbilhdfoajahkaaDoor.L
