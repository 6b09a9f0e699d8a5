/-
  The contract of label's Print.
  The contracts of delta's checkItem, kind, line and checkText.
  The contract of strings.Cut at a separator of one byte: for every text, whatever its length.
  The contract of label's numbers: for every text of at most 2^22 bytes.
  The contract of label's Parse: for every text of at most 2^22 bytes.
-/
import Derived.Test.YtlggoplffhdkhaaDoorGjd
import Derived.Test.YtlggoplffhdkhaaDoorGjf
import Derived.Lib.IndexLaws
namespace Go.Proofs.YtlggoplffhdkhaaDoor.L
open Go.RowKit
open T

/-- A label's text. -/
def catsText (xs : List Nat) : List UInt8 := Lib.join (xs.map fun n : Nat => P.decimal (n : Int)) [44]
def print (l : Int) (c : Nat) : List UInt8 := if catsTo c 64 = [] then P.decimal l else P.decimal l ++ [58] ++ catsText (catsTo c 64)

theorem own_form {w : World} {base : Nat} {e : TypeId} {size n : Nat} {v : Value} {xs : List Value} (h : w.ownsRow base e size v n xs) :
    ∃ A cap, v = .slice A n cap ∧ n ≤ cap ∧ (0 < n → ∃ g, A = some ⟨g, 0, none⟩ ∧ base ≤ g ∧ g < w.heap.size ∧ ∀ j u, xs[j]? = some u → w.cell? ⟨g, j, none⟩ = some u) := by
  rcases h.2 with ⟨rfl, rfl⟩ | ⟨g, cap, cur, rfl, hg, hh, hnc, _, _, hx⟩
  · exact ⟨none, 0, rfl, Nat.le_refl _, fun h => absurd h (by omega)⟩
  · refine ⟨_, cap, rfl, hnc, fun _ => ⟨g, rfl, hg, blk_lt hh, fun j u hu => ?_⟩⟩
    rw [← hx] at hu
    have hu' : cur.toList[j]? = some u := by
      rw [List.getElem?_take] at hu
      split at hu
      · exact hu
      · cases hu
    rw [blk_cell hh j]
    simpa using hu'

theorem join_len (xs : List Nat) : (catsText xs).length ≤ 11 * xs.length := by
  unfold catsText Lib.join
  induction xs with
  | nil => simp
  | cons x r ih =>
    have := P.decimal_length (x : Int)
    cases r with
    | nil => simp; omega
    | cons y r =>
      rw [List.map_cons, List.map_cons, List.intercalate_cons_cons] 
      simp at ih ⊢
      omega

/-- The texts of categories, as strings. -/
def decStrs (xs : List Nat) : List ByteArray := xs.map fun n : Nat => (⟨(P.decimal (n : Int)).toArray⟩ : ByteArray)
def decCells (xs : List Nat) : List Value := xs.map fun n : Nat => .string ⟨(P.decimal (n : Int)).toArray⟩
theorem decStrs_data (xs : List Nat) : (decStrs xs).map (·.data.toList) = xs.map fun n : Nat => P.decimal (n : Int) := by
  unfold decStrs
  rw [List.map_map]
  exact List.map_congr_left fun _ _ => rfl
theorem dec_take {xs : List Nat} {k : Nat} (hk : k < xs.length) : decCells (xs.take (k + 1)) = decCells (xs.take k) ++ [.string ⟨(P.decimal ((xs[k] : Nat) : Int)).toArray⟩] := by
  unfold decCells
  rw [List.take_succ_eq_append_getElem hk, List.map_append]
  rfl
theorem cat (l r : List UInt8) : (⟨l.toArray⟩ : ByteArray) ++ ⟨r.toArray⟩ = ⟨(l ++ r).toArray⟩ := by
  apply ByteArray.ext
  simp

set_option maxHeartbeats 1000000 in
set_option maxRecDepth 100000 in
theorem print_any (l : Int) (c : Nat) (w : World) (h0 : -9223372036854775808 ≤ l) (h1 : l ≤ 9223372036854775807) (hc : c < 18446744073709551616) (ht : Tab w) :
    Calls Tryd.prog 50 #[lab l c] w fun e w' => e = .returned (.string ⟨(print l c).toArray⟩) ∧ Below w.heap.size w w' := by
  obtain ⟨i0, hi0, hz0, hz1, hz2⟩ := info_parts infoStr
  have HC := Lib.hid (fun w => cats_any l c w hc)
  have HD := Lib.hid (fun (n : Int) (a : -9223372036854775808 ≤ n) (b : n ≤ 9223372036854775807) (w : World) (ht : Tab w) => decimal_any n w a b ht)
  have HT := Lib.hid ht
  have hlen := catsTo_len c 64
  have HX : Hid (∀ j (h : j < (catsTo c 64).length), (catsTo c 64)[j] < 64) := Lib.hid fun j h => by
    have := List.getElem_mem h
    unfold catsTo at this
    rw [List.mem_filter, List.mem_range] at this
    exact this.1
  have HP := Lib.hid (show print l c = if catsTo c 64 = [] then P.decimal l else P.decimal l ++ [58] ++ catsText (catsTo c 64) from rfl)
  generalize print l c = res at *
  generalize catsTo c 64 = xs at *
  clear hc ht
  go_enter Tryd.func50, Tryd.ntmps50
  go_wp2_with fail
  with_reducible refine (HC.out _).mono ?_
  rintro e w1 ⟨v, rfl, hown, hb1⟩
  obtain ⟨A, cap, hv, hcap, hA⟩ := own_form hown
  subst hv
  have hbel : Below w.heap.size w w1 := ((Below.refl _ _).alloc (Nat.le_refl _) _).trans (hb1.mono (by simp))
  have HK0 := Lib.hid ((hb1.block w.heap.size (by simp)).trans (heap_alloc_new w _))
  have hw1 : w.heap.size < w1.heap.size := blk_lt HK0.out
  have HA := Lib.hid hA
  have HT1 := Lib.hid (HT.out.later hbel)
  clear hA hown hb1 HC HT
  go_wp2_with fail
  go_loopg [3, 10] xs.length (fun n v i wr => ∃ k : Nat, k ≤ xs.length ∧ i = .int .i64 k ∧ xs.length - k ≤ n ∧ wr.ownsRow w1.heap.size 9 1 v k (decCells (xs.take k)) ∧ Below w1.heap.size w1 wr)
  case atStart => exact ⟨0, Nat.zero_le _, rfl, by omega, ⟨by simp [decCells], .inl ⟨rfl, rfl⟩⟩, Below.refl _ _⟩
  case round =>
    obtain ⟨k, hk, rfl, hn, hown, hbw⟩ := hrel
    by_cases hlt : k < xs.length
    · obtain ⟨g, hAe, hg0, hg1, hcells⟩ := HA.out (by omega)
      subst hAe
      have hcell : wr.cell? ⟨g, k, none⟩ = some (.int .i64 ((xs[k] : Nat) : Int)) := (hbw.cell (p := ⟨g, k, none⟩) hg1).trans (hcells k _ (by simp [intCells, List.getElem?_eq_getElem hlt]))
      have hx := HX.out k hlt
      have HTk := Lib.hid (dec_take hlt)
      have HTr := Lib.hid (HT1.out.later hbw)
      clear hcells
      generalize xs[k] = x at *
      go_wp2_with fail
      with_reducible refine (HD.out (x : Int) (by omega) (by omega) _ HTr.out).mono ?_
      rintro e w2 ⟨rfl, hb2⟩
      have hbw2 : Below w1.heap.size w1 w2 := hbw.trans (hb2.mono hbw.size)
      have hown2 : w2.ownsRow w1.heap.size 9 1 u3 k (decCells (xs.take k)) := hown.kept (row := none) ⟨hb2.os, hb2.tape, hb2.output, hb2.size, fun i hi _ => hb2.block i hi⟩ (by
        rcases hh : u3.ownBlock with _ | b
        · exact .inl rfl
        · exact .inr (by simp))
      generalize P.decimal (x : Int) = ds at *
      clear hcell hown hb2
      go_wp2_with (at_builtin; refine wpList_append_own _ rfl (.tmp 14) (.tmp 17) 71 rfl w1.heap.size 9 i0 _ 1 16 Tryd.underlying71 hi0 hz0 hz1 hz2 rfl (by decide) _ k (decCells (xs.take k)) rfl ?ho ⟨w2.heap.size, 0, none⟩ 1 1 [.string ⟨ds.toArray⟩] rfl rfl ?c1 ?c2 ?c3 ?c4 ?c5 ?_)
      case ho => exact hown2.alloc _
      case c1 => exact cell_one_new _ _ _
      case c2 => intro u hu; simp at hu; rcases hu with rfl; rfl
      case c3 => simp only [maxLen]; omega
      case c4 => omega
      case c5 => have := hbw2.size; simp; omega
      intro v' w3 hown3 hg3 _
      have hbw3 : Below w1.heap.size w1 w3 := (hbw2.alloc hbw2.size _).grown hg3 (by have := hbw2.size; simp; omega) (own_base hown2)
      rw [← HTk.out] at hown3
      clear hown2
      go_wp2_with fail
      go_roundg (xs.length - (k + 1))
      case measure => omega
      case rel => exact ⟨k + 1, by omega, by go_num, Nat.le_refl _, hown3, hbw3⟩
    · obtain rfl : k = xs.length := by omega
      rw [List.take_length] at hown
      obtain ⟨A', cap', hv', hcap', hA'⟩ := own_form hown
      subst hv'
      have c0 : wr.cell? ⟨w.heap.size, 0, none⟩ = some (.int .i64 l) := blk_cell ((hbw.block _ hw1).trans HK0.out) 0
      have HTr := Lib.hid (HT1.out.later hbw)
      have hbr : Below w.heap.size w wr := hbel.trans (hbw.mono (by omega))
      clear hown
      go_wp2_with fail
      with_reducible refine (HD.out l h0 h1 _ HTr.out).mono ?_
      rintro e w2 ⟨rfl, hb2⟩
      have hb02 : Below w.heap.size w w2 := hbr.trans (hb2.mono hbr.size)
      by_cases hx0 : xs.length = 0
      · have hb0 : ((xs.length : Int) == 0) = true := beq_iff_eq.2 (by omega)
        have HQ := Lib.hid (show res = P.decimal l by rw [HP.out, if_pos (List.eq_nil_of_length_eq_zero hx0)])
        clear hx0 c0
        go_wp2_with fail
        go_ret
        exact ⟨ret_of (by rw [HQ.out]; rfl), hb02⟩
      · have hb0 : ((xs.length : Int) == 0) = false := beq_eq_false_iff_ne.2 (by omega)
        have HQ := Lib.hid (show res = P.decimal l ++ [58] ++ catsText xs by rw [HP.out, if_neg (fun e => hx0 (by rw [e]; rfl))])
        obtain ⟨g, hAe, hg0, hg1, hcells⟩ := hA' (by omega)
        subst hAe
        have hdl := P.decimal_length l
        have hjl := join_len xs
        have hlx : xs.length = (decStrs xs).length := by simp [decStrs]
        have hjoin := Tryd.strings_Join g 0 cap' (decStrs xs) ⟨#[44]⟩ w2 (fun j x hj => by
            rw [Nat.zero_add, hb2.cell (p := ⟨g, j, none⟩) hg1]
            refine hcells j _ ?_
            have : (decCells xs)[j]? = ((decStrs xs)[j]?).map Value.string := by
              simp only [decCells, decStrs, List.getElem?_map, Option.map_map]; rfl
            rw [this, hj]; rfl) (by have := hb2.size; omega) (by omega) (by omega) (by
            rw [decStrs_data]
            show (catsText xs).length ≤ _
            omega)
        rw [decStrs_data, ← hlx] at hjoin
        have HJ : Hid (Calls Tryd.prog 48 #[.slice (some ⟨g, 0, none⟩) xs.length cap', .string ⟨#[44]⟩] w2 fun e w' => e = .returned (.string ⟨(catsText xs).toArray⟩) ∧ Below w2.heap.size w2 w') := Lib.hid hjoin
        clear hjoin hcells c0 hlx hA' hx0
        generalize catsText xs = js at *
        generalize P.decimal l = ds at *
        have ha1 : (⟨ds.toArray⟩ : ByteArray).size + (⟨#[58]⟩ : ByteArray).size ≤ 9223372036854775807 := by
          show ds.toArray.size + 1 ≤ _; simp; omega
        have ha2 : ((⟨ds.toArray⟩ : ByteArray) ++ ⟨#[58]⟩).size + (⟨js.toArray⟩ : ByteArray).size ≤ 9223372036854775807 := by
          rw [ByteArray.size_append]; show ds.toArray.size + 1 + js.toArray.size ≤ _; simp; omega
        go_wp2_with fail
        with_reducible refine (HJ.out).mono ?_
        rintro e w3 ⟨rfl, hb3⟩
        have hb03 : Below w.heap.size w w3 := hb02.trans (hb3.mono hb02.size)
        go_wp2_with fail
        go_ret
        exact ⟨ret_of (by rw [HQ.out, ← cat, ← cat]; rfl), hb03⟩
end Go.Proofs.YtlggoplffhdkhaaDoor.L

namespace Go.Proofs.YtlggoplffhdkhaaDoor.Dl
set_option linter.unusedVariables false
set_option linter.unusedSimpArgs false
open Go.RowKit Go.Maps
open T
open V (drawn_below grown_of)
open I (It ItemsIn ItemsAt itCells itCells_snoc itCells_at alloc1 own_at own_below items_of_own items_own infoItem ItemsIn.below)

theorem ldata (l : List UInt8) : (⟨l.toArray⟩ : ByteArray).data.toList = l := by simp
theorem lsize (l : List UInt8) : (⟨l.toArray⟩ : ByteArray).size = l.length := by simp [ByteArray.size]
theorem ixb_has (c : UInt8) : ∀ l : List UInt8, decide (0 ≤ Lib.indexByte l c) = l.contains c
  | [] => by simp [Lib.indexByte]
  | b :: l => by
    have ih := ixb_has c l
    have hge := Lib.indexByte_ge l c
    rw [Lib.indexByte, List.contains_cons]
    by_cases hb : b = c
    · subst hb; simp
    · rw [if_neg (by simpa using hb), beq_eq_false_iff_ne.2 (fun e => hb e.symm), Bool.false_or, ← ih]
      by_cases h1 : Lib.indexByte l c = -1
      · rw [h1]; decide
      · rw [if_neg (by simpa using h1)]
        rw [decide_eq_true (by omega), decide_eq_true (by omega)]
def NlC (x : ByteArray) (b : Bool) : Prop := ∀ w : World, Calls Tryd.prog 62 #[.string x, .string ⟨#[10]⟩] w fun e w' => e = .returned (.bool b) ∧ w = w'
theorem NlC.call {x : ByteArray} {b : Bool} (h : NlC x b) (w : World) : Calls Tryd.prog 62 #[.string x, .string ⟨#[10]⟩] w fun e w' => e = .returned (.bool b) ∧ w = w' := h w
theorem nl_is (t : List UInt8) : NlC ⟨t.toArray⟩ (t.contains 10) := fun w => (Tryd.strings_Contains_one ⟨t.toArray⟩ 10 w).mono fun e w' he => ⟨by rw [he.1, ldata, ixb_has 10 t], he.2.symm⟩

/-- What is wrong with an item that is to be told. -/
def cki (x : It) : Int := if x.id < 0 ∨ 2147483647 < x.id ∨ L.rightB x.lv = false then 2 else if x.tx.contains 10 = true then 3 else if 200 < x.tx.length then 4 else 0
set_option maxRecDepth 100000 in
set_option maxHeartbeats 4000000 in
theorem citem_any (x : It) (w : World) (ht : x.tx.length ≤ maxLen) : Calls Tryd.prog 47 #[itV x] w fun e w' => e = .returned (.int .i64 (cki x)) ∧ Below w.heap.size w w' := by
  obtain ⟨id, lv, ct, an, tx, ba⟩ := x
  have HV : Hid (cki ⟨id, lv, ct, an, tx, ba⟩ = if id < 0 ∨ 2147483647 < id ∨ L.rightB lv = false then 2 else if tx.contains 10 = true then 3 else if 200 < tx.length then 4 else 0) := Lib.hid rfl
  generalize cki ⟨id, lv, ct, an, tx, ba⟩ = v at *
  simp only [itV] at ht ⊢
  unfold maxLen at ht
  have HNL := Lib.hid (nl_is tx)
  have hsz : (⟨tx.toArray⟩ : ByteArray).size = tx.length := lsize tx
  obtain ⟨s, hs⟩ : ∃ s : ByteArray, s = ⟨tx.toArray⟩ := ⟨_, rfl⟩
  rw [← hs] at HNL hsz ⊢
  generalize tx.length = n at *
  generalize tx.contains 10 = nl at *
  clear hs
  obtain ⟨W1, hW1⟩ : ∃ W : World, W = w.alloc (.cells #[.int .i64 id, .int .i64 lv, .int .u64 (ct : Int), .bool an, .string s, .bool ba] 41) := ⟨_, rfl⟩
  have hx1 : W1.heap[w.heap.size]? = some (.cells #[.int .i64 id, .int .i64 lv, .int .u64 (ct : Int), .bool an, .string s, .bool ba] 41 (0, 0)) := by rw [hW1]; exact heap_alloc_new w _
  have HB1 := Lib.hid (show Below w.heap.size w W1 by rw [hW1]; exact alloc1 _ _)
  have HCR := Lib.hid (L.right_any lv ct W1)
  obtain ⟨xb, hxb⟩ : ∃ q, q = w.heap.size := ⟨_, rfl⟩
  have HX1 := Lib.hid hx1
  have e0 := L.blk_cell hx1 0
  have e1 := L.blk_cell hx1 1
  have e2 := L.blk_cell hx1 2
  simp only [List.getElem?_toArray, List.getElem?_cons_zero, List.getElem?_cons_succ] at e0 e1 e2
  clear hx1
  by_cases h0 : id < 0
  · obtain rfl : v = 2 := HV.out.trans (if_pos (.inl h0))
    clear HV HNL HCR
    go_enter Tryd.func47, Tryd.ntmps47
    go_upto_region 1 with fail
    rw [← hW1]
    clear hW1
    go_wp2_with fail
    go_ret
    exact ⟨rfl, HB1.out⟩
  · by_cases h1 : 2147483647 < id
    · obtain rfl : v = 2 := HV.out.trans (if_pos (.inr (.inl h1)))
      clear HV HNL HCR
      go_enter Tryd.func47, Tryd.ntmps47
      go_upto_region 1 with fail
      rw [← hW1]
      clear hW1
      go_wp2_with fail
      go_ret
      exact ⟨rfl, HB1.out⟩
    · go_enter Tryd.func47, Tryd.ntmps47
      go_upto_region 1 with fail
      rw [← hW1]
      rw [← hxb] at HX1 e0 e1 e2 ⊢
      clear hW1 hxb
      go_wp2_with fail
      with_reducible refine HCR.out.mono ?_
      rintro e w2 ⟨rfl, hb2⟩
      have hx2 := (hb2.block _ (L.blk_lt HX1.out)).trans HX1.out
      have HB2 := Lib.hid (HB1.out.trans (hb2.mono HB1.out.size))
      clear e0 e1 e2 HX1 hb2 HB1 HCR
      have e4 := L.blk_cell hx2 4
      simp only [List.getElem?_toArray, List.getElem?_cons_zero, List.getElem?_cons_succ] at e4
      clear hx2
      by_cases hr : L.rightB lv = true
      · rw [hr] at HV ⊢
        cases nl with
        | true =>
          obtain rfl : v = 3 := HV.out.trans (by rw [if_neg (by simp; omega), if_pos rfl])
          clear HV
          go_wp2_with fail
          with_reducible refine (HNL.out.call _).mono ?_
          rintro e w3 ⟨rfl, rfl⟩
          clear HNL e4
          go_wp2_with fail
          go_ret
          exact ⟨rfl, HB2.out⟩
        | false =>
          by_cases hn : 200 < n
          · obtain rfl : v = 4 := HV.out.trans (by rw [if_neg (by simp; omega), if_neg (by simp), if_pos hn])
            clear HV
            have hni : (200 : Int) < (n : Int) := by omega
            go_wp2_with fail
            with_reducible refine (HNL.out.call _).mono ?_
            rintro e w3 ⟨rfl, rfl⟩
            clear HNL
            go_wp2_with fail
            go_ret
            exact ⟨rfl, HB2.out⟩
          · obtain rfl : v = 0 := HV.out.trans (by rw [if_neg (by simp; omega), if_neg (by simp), if_neg hn])
            clear HV
            have hni : ¬ (200 : Int) < (n : Int) := by omega
            go_wp2_with fail
            with_reducible refine (HNL.out.call _).mono ?_
            rintro e w3 ⟨rfl, rfl⟩
            clear HNL
            go_wp2_with fail
            go_ret
            exact ⟨rfl, HB2.out⟩
      · have hr2 : L.rightB lv = false := by simpa using hr
        obtain rfl : v = 2 := HV.out.trans (if_pos (.inr (.inr hr2)))
        rw [hr2]
        clear HV HNL e4
        go_wp2_with fail
        go_ret
        exact ⟨rfl, HB2.out⟩
/-- The word of an item's kind. -/
def knd (x : It) : List UInt8 := (if x.an then [97] else [108]) ++ (if x.ba then [98] else [])
set_option maxRecDepth 100000 in
set_option maxHeartbeats 4000000 in
theorem kind_any (x : It) (w : World) : Calls Tryd.prog 51 #[itV x] w fun e w' => e = .returned (.string ⟨(knd x).toArray⟩) ∧ Below w.heap.size w w' := by
  obtain ⟨id, lv, ct, an, tx, ba⟩ := x
  simp only [itV]
  obtain ⟨W1, hW1⟩ : ∃ W : World, W = w.alloc (.cells #[.int .i64 id, .int .i64 lv, .int .u64 (ct : Int), .bool an, .string ⟨tx.toArray⟩, .bool ba] 41) := ⟨_, rfl⟩
  have hx1 : W1.heap[w.heap.size]? = some (.cells #[.int .i64 id, .int .i64 lv, .int .u64 (ct : Int), .bool an, .string ⟨tx.toArray⟩, .bool ba] 41 (0, 0)) := by rw [hW1]; exact heap_alloc_new w _
  have HB1 := Lib.hid (show Below w.heap.size w W1 by rw [hW1]; exact alloc1 _ _)
  have e3 := L.blk_cell hx1 3
  have e5 := L.blk_cell hx1 5
  simp only [List.getElem?_toArray, List.getElem?_cons_zero, List.getElem?_cons_succ] at e3 e5
  clear hx1
  have HV : Hid ((⟨(knd ⟨id, lv, ct, an, tx, ba⟩).toArray⟩ : ByteArray) = ⟨(((if an then [97] else [108]) ++ (if ba then [98] else []) : List UInt8)).toArray⟩) := Lib.hid rfl
  generalize (⟨(knd ⟨id, lv, ct, an, tx, ba⟩).toArray⟩ : ByteArray) = v at *
  cases an <;> cases ba
  all_goals
    go_enter Tryd.func51, Tryd.ntmps51
    go_upto_region 1 with fail
    rw [← hW1]
    clear hW1
    go_wp2_with fail
    go_ret
    exact ⟨by rw [HV.out]; rfl, HB1.out⟩
theorem ln_cells {W : World} {b : Nat} {a0 a1 : Value} (h : W.heap[b]? = some (.cells #[a0, a1] 39 (0, 0))) : W.cell? ⟨b, 0, none⟩ = some a0 ∧ W.cell? ⟨b, 1, none⟩ = some a1 ∧ W.frozen? ⟨b, 0, none⟩ = false ∧ W.frozen? ⟨b, 1, none⟩ = false :=
  ⟨L.blk_cell h 0, L.blk_cell h 1, L.blk_free h 0, L.blk_free h 1⟩
set_option maxRecDepth 100000 in
set_option maxHeartbeats 1000000 in
theorem line_walk (v : Value) (y : ByteArray) (w : World) (HJ : Hid (∀ W : World, Below w.heap.size w W → Calls Tryd.prog 48 #[v, .string ⟨#[32]⟩] W fun e w' => e = .returned (.string y) ∧ Below W.heap.size W w')) :
    Calls Tryd.prog 33 #[v] w fun e w' => e = .returned (.agg #[.string y, .bool false]) ∧ Below w.heap.size w w' := by
  obtain ⟨W, hW⟩ : ∃ W : World, W = w.alloc (.cells #[.string ⟨#[]⟩, .bool false] 39) := ⟨_, rfl⟩
  have HP := Lib.hid (show W.heap[w.heap.size]? = some (.cells #[.string ⟨#[]⟩, .bool false] 39 (0, 0)) by rw [hW]; exact heap_alloc_new w _)
  have hbW : Below w.heap.size w W := by rw [hW]; exact (Below.refl _ _).alloc (Nat.le_refl _) _
  have HJ2 := Lib.hid (HJ.out W hbW)
  have HB := Lib.hid hbW
  clear HJ hbW
  go_enter Tryd.func33, Tryd.ntmps33
  go_wp2_with fail
  rw [← hW]
  clear hW
  obtain ⟨rb, hrb⟩ : ∃ rb, rb = w.heap.size := ⟨_, rfl⟩
  rw [← hrb] at HP HB ⊢
  have HRB := Lib.hid hrb
  clear hrb
  with_reducible refine (HJ2.out).mono ?_
  rintro e w2 ⟨rfl, hb2⟩
  have HP2 := Lib.hid ((hb2.block rb (L.blk_lt HP.out)).trans HP.out)
  have HB2 := Lib.hid (HB.out.trans (hb2.mono (Nat.le_of_lt (L.blk_lt HP.out))))
  obtain ⟨c0, c1, f0, f1⟩ := ln_cells HP2.out
  clear hb2 HP HB
  go_wp2_with fail
  clear c0 c1 f0 f1
  have e1 := L.blk_set HP2.out 0 (.string y)
  have e2 := L.blk_set e1 1 (.bool false)
  obtain ⟨q0, q1, -, -⟩ := ln_cells e2
  refine bodyPost_ret (v := .agg #[.string y, .bool false]) (by simp [results, Tryd.results33, go_sem, q0, q1]) rfl ⟨rfl, ?_⟩
  have := (HB2.out.setCell (p := ⟨rb, 0, none⟩) (Nat.le_refl _) (.string y)).setCell (p := ⟨rb, 1, none⟩) (Nat.le_refl _) (.bool false)
  rw [HRB.out] at this ⊢
  exact this
/-- A line of the words that a row holds. -/
theorem line_any (g o cap : Nat) (xs : List ByteArray) (w : World) (hc : ∀ (j : Nat) x, xs[j]? = some x → w.cell? ⟨g, o + j, none⟩ = some (.string x)) (hg : g < w.heap.size) (hcap : xs.length ≤ cap) (hN : xs.length ≤ 140737488355328) (hlen : (Lib.join (xs.map (·.data.toList)) [32]).length ≤ 140737488355328) :
    Calls Tryd.prog 33 #[.slice (some ⟨g, o, none⟩) xs.length cap] w fun e w' => e = .returned (.agg #[.string ⟨(Lib.join (xs.map (·.data.toList)) [32]).toArray⟩, .bool false]) ∧ Below w.heap.size w w' :=
  line_walk _ _ w (Lib.hid fun W hb => Tryd.strings_Join g o cap xs ⟨#[32]⟩ W (fun j x hj => (hb.cell (p := ⟨g, _, none⟩) hg).trans (hc j x hj)) (Nat.lt_of_lt_of_le hg hb.size) hN hcap hlen)

/-- The error of the first item that has one. -/
def cks : List It → Int
  | [] => 0
  | x :: r => if cki x ≠ 0 then cki x else cks r
theorem cks_at {l : List It} {k : Nat} (h : k < l.length) : cks (l.drop k) = if cki l[k] ≠ 0 then cki l[k] else cks (l.drop (k + 1)) := by
  rw [List.drop_eq_getElem_cons h, cks]
/-- What is wrong with a part that is to be told. -/
def ckt (at_ n : Int) (l : List It) : Int := if cpt at_ n l.length ≠ 0 then cpt at_ n l.length else if 2147483647 < at_ ∨ 2147483647 < n then 2 else cks l
set_option maxRecDepth 100000 in
set_option maxHeartbeats 4000000 in
theorem ctext_any (at_ n : Int) (C : Option Addr) (cc : Nat) (l : List It) (w : World) (hC : Ix w C cc l) (hl : l.length ≤ 1000000000000) (ht : ∀ x ∈ l, x.tx.length ≤ maxLen) : Calls Tryd.prog 32 #[.agg #[.int .i64 at_, .int .i64 n, .slice C l.length cc]] w fun e w' => e = .returned (.int .i64 (ckt at_ n l)) ∧ Below w.heap.size w w' := by
  obtain ⟨W1, hW1⟩ : ∃ W : World, W = w.alloc (.cells #[.int .i64 at_, .int .i64 n, .slice C l.length cc] 27) := ⟨_, rfl⟩
  have hx1 : W1.heap[w.heap.size]? = some (.cells #[.int .i64 at_, .int .i64 n, .slice C l.length cc] 27 (0, 0)) := by rw [hW1]; exact heap_alloc_new w _
  have HB1 := Lib.hid (show Below w.heap.size w W1 by rw [hW1]; exact alloc1 _ _)
  have HCP := Lib.hid (cpart_any at_ n C l.length cc W1)
  have HC := Lib.hid hC
  have HT := Lib.hid (fun (k : Nat) (h : k < l.length) => ht l[k] (List.getElem_mem h))
  have HAT := Lib.hid (fun (k : Nat) (h : k < l.length) => cks_at h)
  obtain ⟨ek, hek⟩ : ∃ ek : Nat → Int, ∀ k, cks (l.drop k) = ek k := ⟨fun k => cks (l.drop k), fun _ => rfl⟩
  have HE0 : Hid (ek 0 = cks l) := Lib.hid (by rw [← hek, List.drop_zero])
  have HEE : Hid (ek l.length = 0) := Lib.hid (by rw [← hek, List.drop_length]; rfl)
  simp only [hek] at HAT
  have HV : Hid (ckt at_ n l = if cpt at_ n l.length ≠ 0 then cpt at_ n l.length else if 2147483647 < at_ ∨ 2147483647 < n then 2 else cks l) := Lib.hid rfl
  generalize ckt at_ n l = v at *
  generalize cpt at_ n l.length = z at *
  generalize cks l = er at *
  clear hC ht hek
  have e0 := L.blk_cell hx1 0
  have e1 := L.blk_cell hx1 1
  have e2 := L.blk_cell hx1 2
  simp only [List.getElem?_toArray, List.getElem?_cons_zero, List.getElem?_cons_succ] at e0 e1 e2
  go_enter Tryd.func32, Tryd.ntmps32
  go_upto_region 1 with fail
  rw [← hW1]
  obtain ⟨xb, hxb⟩ : ∃ q, q = w.heap.size := ⟨_, rfl⟩
  rw [← hxb] at hx1 e0 e1 e2 ⊢
  clear hW1 hxb
  go_wp2_with fail
  with_reducible refine HCP.out.mono ?_
  rintro e w2 ⟨rfl, hb2⟩
  have hx2 := (hb2.block _ (L.blk_lt hx1)).trans hx1
  have HB2 := Lib.hid (HB1.out.trans (hb2.mono HB1.out.size))
  clear e0 e1 e2 hx1 hb2 HB1 HCP
  have e0 := L.blk_cell hx2 0
  have e1 := L.blk_cell hx2 1
  have e2 := L.blk_cell hx2 2
  simp only [List.getElem?_toArray, List.getElem?_cons_zero, List.getElem?_cons_succ] at e0 e1 e2
  clear hx2
  by_cases hz : z = 0
  · subst hz
    by_cases ha : 2147483647 < at_
    · obtain rfl : v = 2 := HV.out.trans (by rw [if_neg (by simp), if_pos (.inl ha)])
      clear HV
      go_wp2_with fail
      go_ret
      exact ⟨rfl, HB2.out⟩
    · by_cases hn : 2147483647 < n
      · obtain rfl : v = 2 := HV.out.trans (by rw [if_neg (by simp), if_pos (.inr hn)])
        clear HV
        go_wp2_with fail
        go_ret
        exact ⟨rfl, HB2.out⟩
      · obtain rfl : v = er := HV.out.trans (by rw [if_neg (by simp), if_neg (by omega)])
        clear HV
        go_wp2_with fail
        clear e0 e1 e2
        go_loopg [23] l.length (fun m i wr => ∃ k : Nat, k ≤ l.length ∧ i = .int .i64 (k : Int) ∧ l.length - k ≤ m ∧ Below w.heap.size w wr ∧ Hid (v = ek k))
        case atStart => exact ⟨0, Nat.zero_le _, rfl, by omega, HB2.out, Lib.hid HE0.out.symm⟩
        case round =>
          obtain ⟨k, hk, rfl, hm, hbr, HER⟩ := hrel
          by_cases hlt : k < l.length
          · obtain ⟨bk, off, hAe, hbk, g0, g1, g2, g3, g4, g5⟩ := it_at (HC.out.below hbr).i hlt
            subst hAe
            have HT1 := Lib.hid (HAT.out k hlt)
            have htx := HT.out k hlt
            have h0k : (0 : Int) ≤ (k : Int) := by omega
            have hki : (k : Int) < (l.length : Int) := by omega
            obtain ⟨x, hx⟩ : ∃ x, x = l[k]'hlt := ⟨_, rfl⟩
            rw [← hx] at g0 g1 g2 g3 g4 g5 HT1 htx
            obtain ⟨W2, hW2⟩ : ∃ W : World, W = wr.alloc (.cells #[.int .i64 x.id, .int .i64 x.lv, .int .u64 (x.ct : Int), .bool x.an, .string ⟨x.tx.toArray⟩, .bool x.ba] 41) := ⟨_, rfl⟩
            have HCI := Lib.hid (citem_any x W2 htx)
            simp only [itV] at HCI
            have hb1 : Below wr.heap.size wr W2 := by rw [hW2]; exact alloc1 _ _
            have hx3 : W2.heap[wr.heap.size]? = some (.cells #[.int .i64 x.id, .int .i64 x.lv, .int .u64 (x.ct : Int), .bool x.an, .string ⟨x.tx.toArray⟩, .bool x.ba] 41 (0, 0)) := by rw [hW2]; exact heap_alloc_new wr _
            have HB3 := Lib.hid (hbr.trans (hb1.mono hbr.size))
            have c0 := L.blk_cell hx3 0
            have c1 := L.blk_cell hx3 1
            have c2 := L.blk_cell hx3 2
            have c3 := L.blk_cell hx3 3
            have c4 := L.blk_cell hx3 4
            have c5 := L.blk_cell hx3 5
            simp only [List.getElem?_toArray, List.getElem?_cons_zero, List.getElem?_cons_succ] at c0 c1 c2 c3 c4 c5
            generalize cki x = z at *
            generalize x.id = id at *
            generalize x.lv = lv at *
            generalize x.ct = ct at *
            generalize x.an = an at *
            generalize (⟨x.tx.toArray⟩ : ByteArray) = s at *
            generalize x.ba = ba at *
            clear hx hbk hbr hb1 hx3 htx
            go_upto_region 9 with fail
            rw [← hW2]
            clear hW2 g0 g1 g2 g3 g4 g5
            go_wp2_with fail
            with_reducible refine HCI.out.mono ?_
            rintro e w3 ⟨rfl, hb3⟩
            have HB4 := Lib.hid (HB3.out.trans (hb3.mono HB3.out.size))
            clear HCI hb3 HB3 c0 c1 c2 c3 c4 c5
            by_cases hz : z = 0
            · subst hz
              have HU := Lib.hid (HT1.out.trans (if_neg (by simp)))
              clear HT1
              go_wp2_with fail
              go_roundg (l.length - (k + 1))
              case rel => exact ⟨k + 1, by omega, by go_num, Nat.le_refl _, HB4.out, Lib.hid (by rw [HER.out, HU.out])⟩
              case measure => omega
            · have hzb : (z != 0) = true := by simp [hz]
              have hez : v = z := by rw [HER.out, HT1.out, if_pos hz]
              have HEZ := Lib.hid hez
              clear HT1 hez
              go_wp2_with fail
              go_ret
              exact ⟨by rw [HEZ.out]; rfl, HB4.out⟩
          · obtain rfl : k = l.length := by omega
            have HV0 : Hid (v = 0) := Lib.hid (by rw [HER.out, HEE.out])
            go_wp2_with fail
            go_ret
            exact ⟨by rw [HV0.out]; rfl, hbr⟩
  · obtain rfl : v = z := HV.out.trans (if_pos hz)
    have hzb : (v != 0) = true := by simp [hz]
    clear HV
    go_wp2_with fail
    go_ret
    exact ⟨rfl, HB2.out⟩
end Go.Proofs.YtlggoplffhdkhaaDoor.Dl

namespace Go.Proofs.YtlggoplffhdkhaaDoor.L
open Go.RowKit
open T

/-- A text cut at the first byte c. -/
def split (c : UInt8) : List UInt8 → Option (List UInt8 × List UInt8)
  | [] => none
  | x :: r => if x = c then some ([], r) else (split c r).map fun p => (x :: p.1, p.2)
theorem split_index (c : UInt8) : ∀ l : List UInt8, (Lib.indexByte l c = -1 ∧ split c l = none) ∨ ∃ o : Nat, Lib.indexByte l c = o ∧ o < l.length ∧ split c l = some (l.take o, l.drop (o + 1))
  | [] => .inl ⟨rfl, rfl⟩
  | x :: r => by
    by_cases h : x = c
    · refine .inr ⟨0, ?_, by simp, by simp [split, h]⟩
      simp [Lib.indexByte, h]
    · rcases split_index c r with ⟨h1, h2⟩ | ⟨o, h1, h2, h3⟩
      · exact .inl ⟨by simp [Lib.indexByte, h, h1], by simp [split, h, h2]⟩
      · exact .inr ⟨o + 1, by simp [Lib.indexByte, h, h1], by simpa using h2, by simp [split, h, h3]⟩

def cutVal (s : List UInt8) (o : Option (List UInt8 × List UInt8)) : Value := match o with
  | some p => .tuple #[.string ⟨p.1.toArray⟩, .string ⟨p.2.toArray⟩, .bool true]
  | none => .tuple #[.string ⟨s.toArray⟩, .string ⟨#[]⟩, .bool false]

theorem extract_take (s : ByteArray) (o : Nat) : s.extract 0 o = ⟨(s.data.toList.take o).toArray⟩ := by
  rw [Lib.extract_eq]; simp
theorem extract_drop (s : ByteArray) (o : Nat) : s.extract o s.size = ⟨(s.data.toList.drop o).toArray⟩ := by
  rw [Lib.extract_eq, List.take_of_length_le]
  rw [List.length_drop, Lib.size_eq]; exact Nat.le_refl _

set_option maxHeartbeats 1000000 in
theorem lite_any (s : ByteArray) (c : UInt8) (w : World) (hs : s.size ≤ maxLen) :
    Calls Tryd.prog 69 #[.string s, .string ⟨#[c]⟩] w fun e w' => e = .returned (cutVal s.data.toList (split c s.data.toList)) ∧ ∃ n, w' = w.drewN n := by
  have HI := Lib.hid (Tryd.stringslite_Index_one s c)
  unfold maxLen at hs
  rcases split_index c s.data.toList with ⟨h1, h2⟩ | ⟨o, h1, h2, h3⟩
  · rw [h1] at HI
    have HS := Lib.hid h2
    clear h1 h2
    go_enter Tryd.func69, Tryd.ntmps69
    go_wp2_with fail
    with_reducible refine (HI.out _).mono ?_
    rintro e w' ⟨rfl, rfl⟩
    go_wp2_with fail
    go_ret3
    exact ⟨ret_of (by rw [HS.out]; show _ = Value.tuple #[.string ⟨s.data.toList.toArray⟩, _, _]; cases s; simp), 0, rfl⟩
  · rw [h1] at HI
    rw [← Lib.size_eq] at h2
    have HS := Lib.hid h3
    clear h1 h3
    have hw1 : IntKind.i64.wrap ((o : Int) + 1) = (o : Int) + 1 := IntWalk.i64_in _ (by omega)
    have hn : ((o : Int) + 1).toNat = o + 1 := by omega
    go_enter Tryd.func69, Tryd.ntmps69
    go_wp2_with fail
    with_reducible refine (HI.out _).mono ?_
    rintro e w' ⟨rfl, rfl⟩
    go_wp2_with fail
    go_quiet (fail)
    go_wp2_with fail
    go_ret3
    exact ⟨ret_of (by rw [HS.out]; show Value.tuple #[.string (s.extract 0 o), .string (s.extract (o + 1) s.size), .bool true] = _; rw [extract_take, extract_drop]; rfl), nq, rfl⟩

/-- strings.Cut at one byte. -/
theorem cutc (s : ByteArray) (c : UInt8) (w : World) (hs : s.size ≤ maxLen) :
    Calls Tryd.prog 54 #[.string s, .string ⟨#[c]⟩] w fun e w' => e = .returned (cutVal s.data.toList (split c s.data.toList)) ∧ Below w.heap.size w w' := by
  have HL := Lib.hid (fun w => lite_any s c w hs)
  cases hsp : split c s.data.toList with
  | none =>
    rw [hsp] at HL
    go_enter Tryd.func54, Tryd.ntmps54
    go_wp2_with fail
    with_reducible refine (HL.out _).mono ?_
    rintro e w' ⟨rfl, n, rfl⟩
    simp only [cutVal]
    go_wp2_with fail
    go_ret3
    exact ⟨rfl, below_drewN (Below.refl _ _) n⟩
  | some q =>
    rw [hsp] at HL
    go_enter Tryd.func54, Tryd.ntmps54
    go_wp2_with fail
    with_reducible refine (HL.out _).mono ?_
    rintro e w' ⟨rfl, n, rfl⟩
    simp only [cutVal]
    go_wp2_with fail
    go_ret3
    exact ⟨rfl, below_drewN (Below.refl _ _) n⟩

/-- A text's parts between bytes c. -/
def partsGo (c : UInt8) : List UInt8 → List UInt8 → List (List UInt8)
  | cur, [] => [cur]
  | cur, x :: r => if x = c then cur :: partsGo c [] r else partsGo c (cur ++ [x]) r
theorem parts_none {c : UInt8} : ∀ {l cur : List UInt8}, split c l = none → partsGo c cur l = [cur ++ l]
  | [], cur, _ => by simp [partsGo]
  | x :: r, cur, h => by
    rw [split] at h
    split at h
    · cases h
    · next hx =>
      rw [Option.map_eq_none_iff] at h
      rw [partsGo, if_neg hx, parts_none h]
      simp
theorem parts_some {c : UInt8} : ∀ {l cur a b : List UInt8}, split c l = some (a, b) → partsGo c cur l = (cur ++ a) :: partsGo c [] b
  | [], cur, a, b, h => by simp [split] at h
  | x :: r, cur, a, b, h => by
    rw [split] at h
    split at h
    · next hx => simp at h; rw [partsGo, if_pos hx, h.1, h.2]; simp
    · next hx =>
      rw [Option.map_eq_some_iff] at h
      obtain ⟨⟨a', b'⟩, h1, h2⟩ := h
      simp at h2
      rw [partsGo, if_neg hx, parts_some h1, ← h2.1, ← h2.2]
      simp
theorem split_len {c : UInt8} {l a b : List UInt8} (h : split c l = some (a, b)) : b.length < l.length ∧ a.length < l.length := by
  rcases split_index c l with ⟨_, h2⟩ | ⟨o, _, h2, h3⟩
  · rw [h] at h2; cases h2
  · rw [h] at h3
    injection h3 with h3
    injection h3 with ha hb
    subst ha hb
    simp; omega

/-- The numbers of a text's parts between commas; none if one is no number. -/
def numsOf : List (List UInt8) → Option (List Nat)
  | [] => some []
  | p :: r => (P.number p).bind fun n => (numsOf r).map (n :: ·)
def nums (l : List UInt8) : Option (List Nat) := numsOf (partsGo 44 [] l)
theorem nums_none {l : List UInt8} (h : split 44 l = none) : nums l = (P.number l).map fun n => [n] := by
  unfold nums
  rw [parts_none h, numsOf, numsOf, List.nil_append]
  cases P.number l <;> rfl
theorem nums_some {l a b : List UInt8} (h : split 44 l = some (a, b)) : nums l = (P.number a).bind fun n => (nums b).map (n :: ·) := by
  unfold nums
  rw [parts_some h, numsOf, List.nil_append]
end Go.Proofs.YtlggoplffhdkhaaDoor.L

namespace Go.Proofs.YtlggoplffhdkhaaDoor.L
open Go.RowKit
open T

def NumsPost (o : Option (List Nat)) (w : World) (e : Ending) (w' : World) : Prop :=
  (∃ xs v, o = some xs ∧ e = .returned (.tuple #[v, .bool true]) ∧ w'.ownsRow w.heap.size 3 1 v xs.length (intCells xs) ∧ Below w.heap.size w w') ∨
  (o = none ∧ e = .returned (.tuple #[.slice none 0 0, .bool false]) ∧ Below w.heap.size w w')

def Ct (s : ByteArray) (c : UInt8) (v : Value) : Prop := ∀ w : World, Calls Tryd.prog 54 #[.string s, .string ⟨#[c]⟩] w fun e w' => e = .returned v ∧ Below w.heap.size w w'
theorem Ct.call {s : ByteArray} {c : UInt8} {v : Value} (h : Ct s c v) (w : World) : Calls Tryd.prog 54 #[.string s, .string ⟨#[c]⟩] w fun e w' => e = .returned v ∧ Below w.heap.size w w' := h w
theorem ct_none {s : ByteArray} {c : UInt8} (hs : s.size ≤ maxLen) (h : split c s.data.toList = none) : Ct s c (.tuple #[.string s, .string ⟨#[]⟩, .bool false]) := fun w => by
  have := cutc s c w hs
  rw [h] at this
  simp only [cutVal] at this
  rwa [show (⟨s.data.toList.toArray⟩ : ByteArray) = s by cases s; simp] at this
theorem ct_some {s : ByteArray} {c : UInt8} {a b : List UInt8} (hs : s.size ≤ maxLen) (h : split c s.data.toList = some (a, b)) : Ct s c (.tuple #[.string ⟨a.toArray⟩, .string ⟨b.toArray⟩, .bool true]) := fun w => by
  have := cutc s c w hs
  rw [h] at this
  exact this
def Nm (s : ByteArray) (n : Int) (is : Bool) : Prop := ∀ w : World, Calls Tryd.prog 70 #[.string s] w fun e w' => e = .returned (.tuple #[.int .i64 n, .bool is]) ∧ w = w'
theorem Nm.call {s : ByteArray} {n : Int} {is : Bool} (h : Nm s n is) (w : World) : Calls Tryd.prog 70 #[.string s] w fun e w' => e = .returned (.tuple #[.int .i64 n, .bool is]) ∧ w = w' := h w
theorem nm_some {s : ByteArray} {n : Nat} (hs : s.size ≤ maxLen) (h : P.number s.data.toList = some n) : Nm s n true := fun w => by
  have := number_any s w hs
  rwa [h, numVal_some] at this
theorem nm_none {s : ByteArray} (hs : s.size ≤ maxLen) (h : P.number s.data.toList = none) : Nm s 0 false := fun w => by
  have := number_any s w hs
  rwa [h, numVal_none] at this
theorem size_list (l : List UInt8) : (⟨l.toArray⟩ : ByteArray).size = l.length := by simp [ByteArray.size]

def Rel (w : World) (s0 : ByteArray) (n : Nat) (sv v mv : Value) (wr : World) : Prop :=
  (∃ (s : ByteArray) (acc : List Nat), sv = .string s ∧ mv = .bool true ∧ acc.length + s.size ≤ s0.size ∧ s.size + 1 ≤ n ∧ wr.ownsRow w.heap.size 3 1 v acc.length (intCells acc) ∧ Below w.heap.size w wr ∧ nums s0.data.toList = (nums s.data.toList).map (acc ++ ·)) ∨
  (∃ (s : ByteArray) (acc : List Nat), sv = .string s ∧ mv = .bool false ∧ wr.ownsRow w.heap.size 3 1 v acc.length (intCells acc) ∧ Below w.heap.size w wr ∧ nums s0.data.toList = some acc)

theorem step_none {s0 s : ByteArray} {acc : List Nat} (hr : nums s0.data.toList = (nums s.data.toList).map (acc ++ ·)) (hsp : split 44 s.data.toList = none) (hn : P.number s.data.toList = none) : nums s0.data.toList = none := by
  rw [hr, nums_none hsp, hn]; rfl
theorem step_last {s0 s : ByteArray} {acc : List Nat} {n : Nat} (hr : nums s0.data.toList = (nums s.data.toList).map (acc ++ ·)) (hsp : split 44 s.data.toList = none) (hn : P.number s.data.toList = some n) : nums s0.data.toList = some (acc ++ [n]) := by
  rw [hr, nums_none hsp, hn]; rfl
theorem step_bad {s0 s : ByteArray} {acc : List Nat} {a b : List UInt8} (hr : nums s0.data.toList = (nums s.data.toList).map (acc ++ ·)) (hsp : split 44 s.data.toList = some (a, b)) (hn : P.number a = none) : nums s0.data.toList = none := by
  rw [hr, nums_some hsp, hn]; rfl
theorem step_more {s0 s : ByteArray} {acc : List Nat} {a b : List UInt8} {n : Nat} (hr : nums s0.data.toList = (nums s.data.toList).map (acc ++ ·)) (hsp : split 44 s.data.toList = some (a, b)) (hn : P.number a = some n) : nums s0.data.toList = (nums b).map ((acc ++ [n]) ++ ·) := by
  rw [hr, nums_some hsp, hn]
  cases nums b <;> simp

set_option maxHeartbeats 1000000 in
set_option maxRecDepth 100000 in
theorem numbers_any (s0 : ByteArray) (w : World) (hs0 : s0.size ≤ 4194304) :
    Calls Tryd.prog 80 #[.string s0] w (NumsPost (nums s0.data.toList) w) := by
  obtain ⟨i0, hi0, hz0, hz1, hz2⟩ := info_parts infoInt
  go_enter Tryd.func80, Tryd.ntmps80
  go_wp2_with fail
  go_loopg [0, 4, 5] (s0.size + 1) (fun n sv v mv wr => Rel w s0 n sv v mv wr)
  case atStart => exact .inl ⟨s0, [], rfl, rfl, by simp, Nat.le_refl _, ⟨by simp [intCells], .inl ⟨rfl, rfl⟩⟩, Below.refl _ _, by simp⟩
  case round =>
    rcases hrel with ⟨s, acc, rfl, rfl, hlen, hn, hown, hbel, hr⟩ | ⟨s, acc, rfl, rfl, hown, hbel, hr⟩
    · have HR := Lib.hid hr
      clear hr
      have hmx : s.size ≤ maxLen := by simp only [maxLen]; omega
      cases hsp : split 44 s.data.toList with
      | none =>
        have HC := Lib.hid (ct_none hmx hsp)
        cases hnum : P.number s.data.toList with
        | none =>
          have HN := Lib.hid (nm_none hmx hnum)
          have HF := Lib.hid (step_none HR.out hsp hnum)
          clear hsp hnum hmx
          go_wp2_with fail
          with_reducible refine (HC.out.call _).mono ?_
          rintro e w1 ⟨rfl, hb1⟩
          have hb01 : Below w.heap.size w w1 := hbel.trans (hb1.mono hbel.size)
          go_wp2_with fail
          with_reducible refine (HN.out.call _).mono ?_
          rintro e w2 ⟨rfl, rfl⟩
          go_wp2_with fail
          go_ret2
          exact .inr ⟨HF.out, rfl, hb01⟩
        | some x =>
          have HN := Lib.hid (nm_some hmx hnum)
          have HF := Lib.hid (step_last HR.out hsp hnum)
          clear hsp hnum hmx
          go_wp2_with fail
          with_reducible refine (HC.out.call _).mono ?_
          rintro e w1 ⟨rfl, hb1⟩
          have hb01 : Below w.heap.size w w1 := hbel.trans (hb1.mono hbel.size)
          have hown1 : w1.ownsRow w.heap.size 3 1 u4 acc.length (intCells acc) := hown.kept (row := none) ⟨hb1.os, hb1.tape, hb1.output, hb1.size, fun i hi _ => hb1.block i hi⟩ (by
            rcases hh : u4.ownBlock with _ | b
            · exact .inl rfl
            · exact .inr (by simp))
          clear hown
          go_wp2_with fail
          with_reducible refine (HN.out.call _).mono ?_
          rintro e w2 ⟨rfl, rfl⟩
          go_wp2_with (at_builtin; refine wpList_append_own _ rfl (.tmp 23) (.tmp 25) 80 rfl w.heap.size 3 i0 _ 1 8 Tryd.underlying80 hi0 hz0 hz1 hz2 rfl (by decide) _ acc.length (intCells acc) rfl ?ho ⟨w1.heap.size, 0, none⟩ 1 1 [.int .i64 (x : Int)] rfl rfl ?c1 ?c2 ?c3 ?c4 ?c5 ?_)
          case ho => exact hown1.alloc _
          case c1 => exact cell_one_new _ _ _
          case c2 => intro u hu; simp at hu; rcases hu with rfl; rfl
          case c3 => simp only [maxLen]; omega
          case c4 => omega
          case c5 => have := hb01.size; simp; omega
          intro v' w3 hown3 hg3 _
          have hb03 : Below w.heap.size w w3 := (hb01.alloc hb01.size _).grown hg3 (by have := hb01.size; simp; omega) (own_base hown1)
          rw [← intCells_snoc] at hown3
          have hl1 : (acc ++ [x]).length = acc.length + 1 := by simp
          rw [← hl1] at hown3
          clear hl1 hown1
          go_wp2_with fail
          go_roundg 0
          case measure => omega
          case rel => exact .inr ⟨_, acc ++ [x], rfl, rfl, hown3, hb03, HF.out⟩
      | some q =>
        obtain ⟨a, b⟩ := q
        have HC := Lib.hid (ct_some hmx hsp)
        have hsl := split_len hsp
        rw [← Lib.size_eq] at hsl
        have hma : (⟨a.toArray⟩ : ByteArray).size ≤ maxLen := by rw [size_list]; simp only [maxLen]; omega
        cases hnum : P.number a with
        | none =>
          have HN := Lib.hid (nm_none (s := ⟨a.toArray⟩) hma hnum)
          have HF := Lib.hid (step_bad HR.out hsp hnum)
          clear hsp hnum hmx hma
          go_wp2_with fail
          with_reducible refine (HC.out.call _).mono ?_
          rintro e w1 ⟨rfl, hb1⟩
          have hb01 : Below w.heap.size w w1 := hbel.trans (hb1.mono hbel.size)
          go_wp2_with fail
          with_reducible refine (HN.out.call _).mono ?_
          rintro e w2 ⟨rfl, rfl⟩
          go_wp2_with fail
          go_ret2
          exact .inr ⟨HF.out, rfl, hb01⟩
        | some x =>
          have HN := Lib.hid (nm_some (s := ⟨a.toArray⟩) hma hnum)
          have HF := Lib.hid (step_more HR.out hsp hnum)
          clear hsp hnum hmx hma
          go_wp2_with fail
          with_reducible refine (HC.out.call _).mono ?_
          rintro e w1 ⟨rfl, hb1⟩
          have hb01 : Below w.heap.size w w1 := hbel.trans (hb1.mono hbel.size)
          have hown1 : w1.ownsRow w.heap.size 3 1 u4 acc.length (intCells acc) := hown.kept (row := none) ⟨hb1.os, hb1.tape, hb1.output, hb1.size, fun i hi _ => hb1.block i hi⟩ (by
            rcases hh : u4.ownBlock with _ | b
            · exact .inl rfl
            · exact .inr (by simp))
          clear hown
          go_wp2_with fail
          with_reducible refine (HN.out.call _).mono ?_
          rintro e w2 ⟨rfl, rfl⟩
          go_wp2_with (at_builtin; refine wpList_append_own _ rfl (.tmp 23) (.tmp 25) 80 rfl w.heap.size 3 i0 _ 1 8 Tryd.underlying80 hi0 hz0 hz1 hz2 rfl (by decide) _ acc.length (intCells acc) rfl ?ho ⟨w1.heap.size, 0, none⟩ 1 1 [.int .i64 (x : Int)] rfl rfl ?c1 ?c2 ?c3 ?c4 ?c5 ?_)
          case ho => exact hown1.alloc _
          case c1 => exact cell_one_new _ _ _
          case c2 => intro u hu; simp at hu; rcases hu with rfl; rfl
          case c3 => simp only [maxLen]; omega
          case c4 => omega
          case c5 => have := hb01.size; simp; omega
          intro v' w3 hown3 hg3 _
          have hb03 : Below w.heap.size w w3 := (hb01.alloc hb01.size _).grown hg3 (by have := hb01.size; simp; omega) (own_base hown1)
          rw [← intCells_snoc] at hown3
          have hl1 : (acc ++ [x]).length = acc.length + 1 := by simp
          rw [← hl1] at hown3
          clear hl1 hown1
          go_wp2_with fail
          go_roundg (b.length + 1)
          case measure => omega
          case rel => exact .inl ⟨⟨b.toArray⟩, acc ++ [x], rfl, rfl, by rw [size_list]; simp; omega, by rw [size_list]; exact Nat.le_refl _, hown3, hb03, HF.out⟩
    · have HR := Lib.hid hr
      clear hr
      go_wp2_with fail
      go_ret2
      exact .inl ⟨acc, _, HR.out, rfl, hown, hbel⟩
end Go.Proofs.YtlggoplffhdkhaaDoor.L

namespace Go.Proofs.YtlggoplffhdkhaaDoor.L
open Go.RowKit
open T

/-- A text's label. -/
def parseRest (l : List UInt8) (n : Nat) (o : Option (List Nat)) : Option (Nat × Nat) :=
  o.bind fun xs => (ofAll n (xs.map fun x : Nat => (x : Int))).bind fun c => if print n c = l then some (n, c) else none
def parse (l : List UInt8) : Option (Nat × Nat) :=
  match split 58 l with
  | none => (P.number l).bind fun n => parseRest l n (some [])
  | some p => (P.number p.1).bind fun n => parseRest l n (nums p.2)
def parseVal (o : Option (Nat × Nat)) : Value := match o with
  | some p => .tuple #[lab (p.1 : Int) p.2, .bool true]
  | none => .tuple #[lab 0 0, .bool false]

def Of (l : Int) (A : Option Addr) (n cap : Nat) (v : Value) (w : World) : Prop := Calls Tryd.prog 81 #[.int .i64 l, .slice A n cap] w fun e w' => e = .returned v ∧ Below w.heap.size w w'
theorem Of.call {l : Int} {A : Option Addr} {n cap : Nat} {v : Value} {w : World} (h : Of l A n cap v w) : Calls Tryd.prog 81 #[.int .i64 l, .slice A n cap] w fun e w' => e = .returned v ∧ Below w.heap.size w w' := h
def Pr (l : Int) (c : Nat) (s : ByteArray) : Prop := ∀ w : World, Tab w → Calls Tryd.prog 50 #[lab l c] w fun e w' => e = .returned (.string s) ∧ Below w.heap.size w w'
theorem Pr.call {l : Int} {c : Nat} {s : ByteArray} (h : Pr l c s) (w : World) (ht : Tab w) : Calls Tryd.prog 50 #[lab l c] w fun e w' => e = .returned (.string s) ∧ Below w.heap.size w w' := h w ht

set_option maxHeartbeats 1000000 in
set_option maxRecDepth 100000 in
theorem parse_head (s h r : ByteArray) (m : Bool) (w : World) (HC : Hid (Ct s 58 (.tuple #[.string h, .string r, .bool m]))) (HN : Hid (Nm h 0 false)) :
    Calls Tryd.prog 71 #[.string s] w fun e w' => e = .returned (.tuple #[lab 0 0, .bool false]) ∧ Below w.heap.size w w' := by
  go_enter Tryd.func71, Tryd.ntmps71
  go_wp2_with fail
  with_reducible refine (HC.out.call _).mono ?_
  rintro e w1 ⟨rfl, hb1⟩
  have HK0 := Lib.hid ((hb1.block w.heap.size (by simp)).trans (heap_alloc_new w _))
  have hbel : Below w.heap.size w w1 := ((Below.refl _ _).alloc (Nat.le_refl _) _).trans (hb1.mono (by simp))
  have d0 := (res_cells HK0.out).1
  have d1 := (res_cells HK0.out).2
  have e0 := blk_free HK0.out 0
  have e1 := blk_free HK0.out 1
  clear hb1
  go_wp2_with fail
  with_reducible refine (HN.out.call _).mono ?_
  rintro e w2 ⟨rfl, rfl⟩
  go_wp2_with fail
  have hfin := blk_set (blk_set HK0.out 0 (.int .i64 0)) 1 (.int .u64 0)
  have hbf := (hbel.setCell (p := ⟨w.heap.size, 0, none⟩) (Nat.le_refl _) (.int .i64 0)).setCell (p := ⟨w.heap.size, 1, none⟩) (Nat.le_refl _) (.int .u64 0)
  clear d0 d1 e0 e1
  generalize (w1.setCell ⟨w.heap.size, 0, none⟩ (.int .i64 0)).setCell ⟨w.heap.size, 1, none⟩ (.int .u64 0) = wf at *
  have q0 : wf.cell? ⟨w.heap.size, 0, none⟩ = some (.int .i64 0) := blk_cell hfin 0
  have q1 : wf.cell? ⟨w.heap.size, 1, none⟩ = some (.int .u64 0) := blk_cell hfin 1
  exact bodyPost_ret (v := .tuple #[.agg #[.int .i64 0, .int .u64 0], .bool false]) (by simp [results, Tryd.results71, go_sem, q0, q1]) rfl ⟨rfl, hbf⟩

set_option maxHeartbeats 1000000 in
set_option maxRecDepth 100000 in
theorem parse_nums (s h r : ByteArray) (n : Int) (w : World) (hr : r.size ≤ 4194304) (HC : Hid (Ct s 58 (.tuple #[.string h, .string r, .bool true]))) (HN : Hid (Nm h n true)) (HM : Hid (nums r.data.toList = none)) :
    Calls Tryd.prog 71 #[.string s] w fun e w' => e = .returned (.tuple #[lab 0 0, .bool false]) ∧ Below w.heap.size w w' := by
  go_enter Tryd.func71, Tryd.ntmps71
  go_wp2_with fail
  with_reducible refine (HC.out.call _).mono ?_
  rintro e w1 ⟨rfl, hb1⟩
  have HK1 := Lib.hid ((hb1.block w.heap.size (by simp)).trans (heap_alloc_new w _))
  have hbe1 : Below w.heap.size w w1 := ((Below.refl _ _).alloc (Nat.le_refl _) _).trans (hb1.mono (by simp))
  clear hb1
  go_wp2_with fail
  with_reducible refine (HN.out.call _).mono ?_
  rintro e w2 ⟨rfl, rfl⟩
  go_wp2_with fail
  with_reducible refine (numbers_any r _ hr).mono ?_
  rintro e w2 (⟨xs, v, hx, _⟩ | ⟨_, rfl, hb2⟩)
  · rw [HM.out] at hx; cases hx
  have hbel : Below w.heap.size w w2 := hbe1.trans (hb2.mono hbe1.size)
  have HK0 := Lib.hid ((hb2.block w.heap.size (blk_lt HK1.out)).trans HK1.out)
  have d0 := (res_cells HK0.out).1
  have d1 := (res_cells HK0.out).2
  have e0 := blk_free HK0.out 0
  have e1 := blk_free HK0.out 1
  clear hb2 HK1 hbe1
  go_wp2_with fail
  have hfin := blk_set (blk_set HK0.out 0 (.int .i64 0)) 1 (.int .u64 0)
  have hbf := (hbel.setCell (p := ⟨w.heap.size, 0, none⟩) (Nat.le_refl _) (.int .i64 0)).setCell (p := ⟨w.heap.size, 1, none⟩) (Nat.le_refl _) (.int .u64 0)
  clear d0 d1 e0 e1
  generalize (w2.setCell ⟨w.heap.size, 0, none⟩ (.int .i64 0)).setCell ⟨w.heap.size, 1, none⟩ (.int .u64 0) = wf at *
  have q0 : wf.cell? ⟨w.heap.size, 0, none⟩ = some (.int .i64 0) := blk_cell hfin 0
  have q1 : wf.cell? ⟨w.heap.size, 1, none⟩ = some (.int .u64 0) := blk_cell hfin 1
  exact bodyPost_ret (v := .tuple #[.agg #[.int .i64 0, .int .u64 0], .bool false]) (by simp [results, Tryd.results71, go_sem, q0, q1]) rfl ⟨rfl, hbf⟩
end Go.Proofs.YtlggoplffhdkhaaDoor.L
