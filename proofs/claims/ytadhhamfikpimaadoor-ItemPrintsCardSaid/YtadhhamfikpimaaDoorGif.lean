/-
  Items in memory, wherever they lie; the contracts of item's withinLimits and labelled.
  The contracts of item's formed and Check.
  The contract of item's Check.
-/
import Derived.Test.YtadhhamfikpimaaDoorGic
namespace Go.Proofs.YtadhhamfikpimaaDoor.I
set_option linter.unusedVariables false
set_option linter.unusedSimpArgs false
open Go.RowKit
open T

/-- A row of items in memory: six cells each, from an address on. -/
def ItemsAt (w : World) (bk off : Nat) (xs : List It) : Prop :=
  ∀ j (h : j < xs.length), w.cell? ⟨bk, off + j * 6, none⟩ = some (.int .i64 xs[j].id) ∧ w.cell? ⟨bk, off + j * 6 + 1, none⟩ = some (.int .i64 xs[j].lv) ∧ w.cell? ⟨bk, off + j * 6 + 2, none⟩ = some (.int .u64 (xs[j].ct : Int)) ∧ w.cell? ⟨bk, off + j * 6 + 3, none⟩ = some (.bool xs[j].an) ∧ w.cell? ⟨bk, off + j * 6 + 4, none⟩ = some (.string ⟨xs[j].tx.toArray⟩) ∧ w.cell? ⟨bk, off + j * 6 + 5, none⟩ = some (.bool xs[j].ba)
/-- A slice's items, wherever it lies. -/
def ItemsIn (w : World) (A : Option Addr) (xs : List It) : Prop :=
  0 < xs.length → ∃ bk off, A = some ⟨bk, off, none⟩ ∧ bk < w.heap.size ∧ ItemsAt w bk off xs
theorem ItemsAt.below {w w' : World} {bk off B : Nat} {xs : List It} (h : ItemsAt w bk off xs) (hb : Below B w w') (hB : bk < B) : ItemsAt w' bk off xs := fun j hj => by
  obtain ⟨h0, h1, h2, h3, h4, h5⟩ := h j hj
  exact ⟨(hb.cell (p := ⟨bk, _, none⟩) hB).trans h0, (hb.cell (p := ⟨bk, _, none⟩) hB).trans h1, (hb.cell (p := ⟨bk, _, none⟩) hB).trans h2, (hb.cell (p := ⟨bk, _, none⟩) hB).trans h3, (hb.cell (p := ⟨bk, _, none⟩) hB).trans h4, (hb.cell (p := ⟨bk, _, none⟩) hB).trans h5⟩
theorem ItemsIn.below {w w' : World} {A : Option Addr} {xs : List It} (h : ItemsIn w A xs) (hb : Below w.heap.size w w') : ItemsIn w' A xs := fun hp => by
  obtain ⟨bk, off, e, hlt, hl⟩ := h hp
  exact ⟨bk, off, e, Nat.lt_of_lt_of_le hlt hb.size, hl.below hb hlt⟩
theorem itCells_at : ∀ (xs : List It) (j : Nat) (h : j < xs.length), (itCells xs)[j * 6]? = some (.int .i64 xs[j].id) ∧ (itCells xs)[j * 6 + 1]? = some (.int .i64 xs[j].lv) ∧ (itCells xs)[j * 6 + 2]? = some (.int .u64 (xs[j].ct : Int)) ∧ (itCells xs)[j * 6 + 3]? = some (.bool xs[j].an) ∧ (itCells xs)[j * 6 + 4]? = some (.string ⟨xs[j].tx.toArray⟩) ∧ (itCells xs)[j * 6 + 5]? = some (.bool xs[j].ba)
  | x :: r, 0, _ => by simp [itCells]
  | x :: r, j + 1, h => by
    have ih := itCells_at r j (by simpa using h)
    have e : itCells (x :: r) = .int .i64 x.id :: .int .i64 x.lv :: .int .u64 (x.ct : Int) :: .bool x.an :: .string ⟨x.tx.toArray⟩ :: .bool x.ba :: itCells r := by simp [itCells]
    rw [e, show (j + 1) * 6 = j * 6 + 1 + 1 + 1 + 1 + 1 + 1 by omega]
    simpa using ih
theorem items_of_own {w : World} {base : Nat} {v : Value} {xs : List It} (h : w.ownsRow base 53 6 v xs.length (itCells xs)) :
    ∃ A cap, v = .slice A xs.length cap ∧ ItemsIn w A xs := by
  obtain ⟨A, cap, hv, hc, hA⟩ := own_form h
  refine ⟨A, cap, hv, fun hp => ?_⟩
  obtain ⟨g, rfl, _, hlt, hcells⟩ := hA hp
  refine ⟨g, 0, rfl, hlt, fun j hj => ?_⟩
  obtain ⟨h0, h1, h2, h3, h4, h5⟩ := itCells_at xs j hj
  rw [Nat.zero_add]
  exact ⟨hcells _ _ h0, hcells _ _ h1, hcells _ _ h2, hcells _ _ h3, hcells _ _ h4, hcells _ _ h5⟩
theorem items_cells {w wr : World} {bk off B k : Nat} {xs : List It} (h : ItemsAt w bk off xs) (hb : Below B w wr) (hB : bk < B) (hk : k < xs.length) :
    wr.cell? ⟨bk, off + k * 6, none⟩ = some (.int .i64 xs[k].id) ∧ wr.cell? ⟨bk, off + k * 6 + 1, none⟩ = some (.int .i64 xs[k].lv) ∧ wr.cell? ⟨bk, off + k * 6 + 2, none⟩ = some (.int .u64 (xs[k].ct : Int)) ∧ wr.cell? ⟨bk, off + k * 6 + 3, none⟩ = some (.bool xs[k].an) ∧ wr.cell? ⟨bk, off + k * 6 + 4, none⟩ = some (.string ⟨xs[k].tx.toArray⟩) ∧ wr.cell? ⟨bk, off + k * 6 + 5, none⟩ = some (.bool xs[k].ba) := h.below hb hB k hk
theorem all_step {α : Type} {p : α → Bool} {l : List α} {k : Nat} (hk : k < l.length) (h : ∀ j (hj : j < l.length), j < k → p l[j] = true) (hp : p l[k] = true) : ∀ j (hj : j < l.length), j < k + 1 → p l[j] = true := fun j hj hjk => by
  by_cases e : j = k
  · subst e; exact hp
  · exact h j hj (by omega)
theorem all_no {α : Type} {p : α → Bool} {l : List α} {k : Nat} (hk : k < l.length) (hp : p l[k] = false) : l.all p = false := by
  rw [List.all_eq_false]
  exact ⟨l[k], List.getElem_mem hk, by rw [hp]; decide⟩
theorem all_yes {α : Type} {p : α → Bool} {l : List α} (h : ∀ j (hj : j < l.length), j < l.length → p l[j] = true) : l.all p = true := by
  rw [List.all_eq_true]
  intro x hx
  obtain ⟨j, hj, rfl⟩ := List.getElem_of_mem hx
  exact h j hj hj

def shortB (x : It) : Bool := decide (x.tx.length ≤ 200)
set_option maxRecDepth 100000 in
set_option maxHeartbeats 1000000 in
theorem limits_any (A : Option Addr) (cap : Nat) (l : List It) (w : World) (hA : ItemsIn w A l) (hl : l.length ≤ maxLen) (ht : ∀ x ∈ l, x.tx.length ≤ maxLen) :
    Calls Tryd.prog 56 #[.slice A l.length cap] w fun e w' => e = .returned (.bool (limitsB l)) ∧ Below w.heap.size w w' := by
  unfold maxLen at hl
  by_cases hb : 1073741824 < l.length
  · have HF := Lib.hid (show limitsB l = false by unfold limitsB; rw [decide_eq_false (by omega), Bool.false_and])
    have hb' : 1073741824 < (l.length : Int) := by omega
    clear hA ht
    go_enter Tryd.func56, Tryd.ntmps56
    go_wp2_with fail
    go_ret
    exact ⟨ret_of (by rw [HF.out]; rfl), Below.refl _ _⟩
  · have HL := Lib.hid (show limitsB l = l.all shortB by unfold limitsB; rw [decide_eq_true (by omega), Bool.true_and]; rfl)
    have hb' : ¬ 1073741824 < (l.length : Int) := by omega
    have HA := Lib.hid hA
    have HT := Lib.hid ht
    clear hA ht
    go_enter Tryd.func56, Tryd.ntmps56
    go_wp2_with fail
    go_loopg [10] l.length (fun m i wr => ∃ k : Nat, k ≤ l.length ∧ i = .int .i64 k ∧ l.length - k ≤ m ∧ Below w.heap.size w wr ∧ Hid (∀ j (hj : j < l.length), j < k → shortB l[j] = true))
    case atStart => exact ⟨0, Nat.zero_le _, rfl, by omega, Below.refl _ _, Lib.hid fun j hj h => absurd h (by omega)⟩
    case round =>
      obtain ⟨k, hk, rfl, hm, hbr, HJ⟩ := hrel
      by_cases hlt : k < l.length
      · obtain ⟨bk, off, hAe, hbk, hI⟩ := HA.out (by omega)
        subst hAe
        obtain ⟨c0, c1, c2, c3, c4, c5⟩ := items_cells hI hbr hbk hlt
        have htx := HT.out _ (List.getElem_mem hlt)
        obtain ⟨x, hx⟩ : ∃ x : ByteArray, x = ⟨l[k].tx.toArray⟩ := ⟨_, rfl⟩
        have hxs : x.size = l[k].tx.length := by rw [hx, list_size]
        rw [← hx] at c4
        have h0k : (0 : Int) ≤ (k : Int) := by omega
        have hki : (k : Int) < (l.length : Int) := by omega
        have HB := Lib.hid (hbr.trans ((alloc1 wr (.cells #[.int .i64 l[k].id, .int .i64 l[k].lv, .int .u64 (l[k].ct : Int), .bool l[k].an, .string x, .bool l[k].ba] 53)).mono hbr.size))
        unfold maxLen at htx
        by_cases h2 : 200 < x.size
        · have hd : 200 < (x.size : Int) := by omega
          have HN := Lib.hid (all_no (p := shortB) hlt (decide_eq_false (by omega)))
          generalize l[k] = y at *
          clear hI hx hxs h2
          go_wp2_with fail
          go_ret
          exact ⟨ret_of (by rw [HL.out, HN.out]; rfl), HB.out⟩
        · have hd : ¬ 200 < (x.size : Int) := by omega
          have HS := Lib.hid (all_step (p := shortB) hlt HJ.out (decide_eq_true (by omega)))
          generalize l[k] = y at *
          clear hI hx hxs h2
          go_wp2_with fail
          go_roundg (l.length - (k + 1))
          case rel => exact ⟨k + 1, by omega, by go_num, Nat.le_refl _, HB.out, HS⟩
          case measure => omega
      · obtain rfl : k = l.length := by omega
        have HY := Lib.hid (all_yes (p := shortB) HJ.out)
        go_wp2_with fail
        go_ret
        exact ⟨ret_of (by rw [HL.out, HY.out]; rfl), hbr⟩

def RtC (l : Int) (c : Nat) (b : Bool) : Prop := ∀ W : World, Calls Tryd.prog 85 #[L.lab l c] W fun e w' => e = .returned (.bool b) ∧ Below W.heap.size W w'
theorem RtC.call {l : Int} {c : Nat} {b : Bool} (h : RtC l c b) (W : World) : Calls Tryd.prog 85 #[L.lab l c] W fun e w' => e = .returned (.bool b) ∧ Below W.heap.size W w' := h W
theorem right_c {l : Int} {c : Nat} {b : Bool} (h : L.rightB l = b) : RtC l c b := fun W => by
  have := L.right_any l c W
  rw [h] at this
  exact this
set_option maxRecDepth 100000 in
set_option maxHeartbeats 1000000 in
theorem labelled_any (A : Option Addr) (cap : Nat) (l : List It) (fl : Lb) (w : World) (hfl : fl.2 < 18446744073709551616) (hA : ItemsIn w A l) (hl : l.length ≤ maxLen) (ht : ∀ x ∈ l, x.ct < 18446744073709551616) :
    Calls Tryd.prog 57 #[.slice A l.length cap, L.lab fl.1 fl.2] w fun e w' => e = .returned (.bool (labelledB fl l)) ∧ Below w.heap.size w w' := by
  unfold maxLen at hl
  have HA := Lib.hid hA
  have HT := Lib.hid ht
  have HFL := Lib.hid hfl
  have HL := Lib.hid (show labelledB fl l = l.all (labOk fl) from rfl)
  have hb0 := alloc1 w (.cells #[.int .i64 fl.1, .int .u64 (fl.2 : Int)] 40)
  have hx0 : (w.alloc (.cells #[.int .i64 fl.1, .int .u64 (fl.2 : Int)] 40)).heap[w.heap.size]? = some (.cells #[.int .i64 fl.1, .int .u64 (fl.2 : Int)] 40 (0, 0)) := heap_alloc_new w _
  clear hA ht hfl
  go_enter Tryd.func57, Tryd.ntmps57
  go_wp2_with fail
  obtain ⟨W0, hW0⟩ : ∃ W : World, W = w.alloc (.cells #[.int .i64 fl.1, .int .u64 (fl.2 : Int)] 40) := ⟨_, rfl⟩
  rw [← hW0] at hb0 hx0 ⊢
  have HB0 := Lib.hid hb0
  have HX0 := Lib.hid hx0
  have hsz : w.heap.size < W0.heap.size := L.blk_lt hx0
  clear hW0 hb0 hx0
  obtain ⟨xb, hxb⟩ : ∃ xb, xb = w.heap.size := ⟨_, rfl⟩
  rw [← hxb] at HX0 HB0 hsz ⊢
  have HXB := Lib.hid hxb
  clear hxb
  go_loopg [9] l.length (fun m i wr => ∃ k : Nat, k ≤ l.length ∧ i = .int .i64 k ∧ l.length - k ≤ m ∧ Below W0.heap.size W0 wr ∧ Hid (∀ j (hj : j < l.length), j < k → labOk fl l[j] = true))
  case atStart => exact ⟨0, Nat.zero_le _, rfl, by omega, Below.refl _ _, Lib.hid fun j hj h => absurd h (by omega)⟩
  case round =>
    obtain ⟨k, hk, rfl, hm, hbr, HJ⟩ := hrel
    by_cases hlt : k < l.length
    · obtain ⟨bk, off, hAe, hbk, hI⟩ := HA.out (by omega)
      subst hAe
      obtain ⟨c0, c1, c2, c3, c4, c5⟩ := items_cells hI ((HB0.out).trans (hbr.mono (Nat.le_of_lt hsz))) (by rw [HXB.out]; exact hbk) hlt
      have hct := HT.out _ (List.getElem_mem hlt)
      have hbs := hbr.size
      have h0k : (0 : Int) ≤ (k : Int) := by omega
      have hki : (k : Int) < (l.length : Int) := by omega
      obtain ⟨W1, hW1⟩ : ∃ W : World, W = wr.alloc (.cells #[.int .i64 l[k].id, .int .i64 l[k].lv, .int .u64 (l[k].ct : Int), .bool l[k].an, .string ⟨l[k].tx.toArray⟩, .bool l[k].ba] 53) := ⟨_, rfl⟩
      have HB1 := Lib.hid (show Below W0.heap.size W0 W1 by rw [hW1]; exact hbr.trans ((alloc1 _ _).mono hbr.size))
      have HX1 := Lib.hid (show W1.heap[wr.heap.size]? = some (.cells #[.int .i64 l[k].id, .int .i64 l[k].lv, .int .u64 (l[k].ct : Int), .bool l[k].an, .string ⟨l[k].tx.toArray⟩, .bool l[k].ba] 53 (0, 0)) by rw [hW1]; exact heap_alloc_new wr _)
      have hok : labOk fl l[k] = (L.rightB l[k].lv && L.belowB fl.1 fl.2 l[k].lv l[k].ct) := rfl
      cases hr : L.rightB l[k].lv with
      | false =>
        have HN := Lib.hid (all_no (p := labOk fl) hlt (by rw [hok, hr]; rfl))
        have HR := Lib.hid (right_c (c := l[k].ct) hr)
        generalize l[k] = y at *
        clear hI hok hr
        go_wp2_with fail
        with_reducible refine (HR.out.call _).mono ?_
        rintro e w2 ⟨rfl, hb2⟩
        rw [← hW1] at hb2
        have HB2 := Lib.hid (HB0.out.trans ((HB1.out.trans (hb2.mono HB1.out.size)).mono (Nat.le_of_lt hsz)))
        clear hW1 hb2
        go_wp2_with fail
        go_ret
        exact ⟨ret_of (by rw [HL.out, HN.out]; rfl), by rw [← HXB.out]; exact HB2.out⟩
      | true =>
        have HR := Lib.hid (right_c (c := l[k].ct) hr)
        cases hb : L.belowB fl.1 fl.2 l[k].lv l[k].ct with
        | false =>
          have HN := Lib.hid (all_no (p := labOk fl) hlt (by rw [hok, hr, hb]; rfl))
          have HBL := Lib.hid (below_c hb hct HFL.out)
          generalize l[k] = y at *
          clear hI hok hr hb
          go_wp2_with fail
          with_reducible refine (HR.out.call _).mono ?_
          rintro e w2 ⟨rfl, hb2⟩
          rw [← hW1] at hb2
          have HB2 := Lib.hid (HB1.out.trans (hb2.mono HB1.out.size))
          obtain ⟨b0, b1⟩ := O.lab_cells ((HB2.out.block xb (by omega)).trans HX0.out)
          have hX2 := (hb2.block _ (L.blk_lt HX1.out)).trans HX1.out
          have y1 : w2.cell? ⟨wr.heap.size, 1, none⟩ = some (.int .i64 y.lv) := L.blk_cell hX2 1
          have y2 : w2.cell? ⟨wr.heap.size, 2, none⟩ = some (.int .u64 (y.ct : Int)) := L.blk_cell hX2 2
          clear hW1 hb2 hX2
          go_wp2_with fail
          with_reducible refine (HBL.out.call _).mono ?_
          rintro e w3 ⟨rfl, hb3⟩
          have HB3 := Lib.hid (HB0.out.trans ((HB2.out.trans (hb3.mono HB2.out.size)).mono (Nat.le_of_lt hsz)))
          clear hb3 b0 b1 y1 y2
          go_wp2_with fail
          go_ret
          exact ⟨ret_of (by rw [HL.out, HN.out]; rfl), by rw [← HXB.out]; exact HB3.out⟩
        | true =>
          have HS := Lib.hid (all_step (p := labOk fl) hlt HJ.out (by rw [hok, hr, hb]; rfl))
          have HBL := Lib.hid (below_c hb hct HFL.out)
          generalize l[k] = y at *
          clear hI hok hr hb
          go_wp2_with fail
          with_reducible refine (HR.out.call _).mono ?_
          rintro e w2 ⟨rfl, hb2⟩
          rw [← hW1] at hb2
          have HB2 := Lib.hid (HB1.out.trans (hb2.mono HB1.out.size))
          obtain ⟨b0, b1⟩ := O.lab_cells ((HB2.out.block xb (by omega)).trans HX0.out)
          have hX2 := (hb2.block _ (L.blk_lt HX1.out)).trans HX1.out
          have y1 : w2.cell? ⟨wr.heap.size, 1, none⟩ = some (.int .i64 y.lv) := L.blk_cell hX2 1
          have y2 : w2.cell? ⟨wr.heap.size, 2, none⟩ = some (.int .u64 (y.ct : Int)) := L.blk_cell hX2 2
          clear hW1 hb2 hX2
          go_wp2_with fail
          with_reducible refine (HBL.out.call _).mono ?_
          rintro e w3 ⟨rfl, hb3⟩
          have HB3 := Lib.hid (HB2.out.trans (hb3.mono HB2.out.size))
          clear hb3 b0 b1 y1 y2 c0 c1 c2 c3 c4 c5
          go_wp2_with fail
          go_roundg (l.length - (k + 1))
          case rel => exact ⟨k + 1, by omega, by go_num, Nat.le_refl _, HB3.out, HS⟩
          case measure => omega
    · obtain rfl : k = l.length := by omega
      have HY := Lib.hid (all_yes (p := labOk fl) HJ.out)
      have HBE := Lib.hid (HB0.out.trans (hbr.mono (Nat.le_of_lt hsz)))
      go_wp2_with fail
      go_ret
      exact ⟨ret_of (by rw [HL.out, HY.out]; rfl), by rw [← HXB.out]; exact HBE.out⟩
end Go.Proofs.YtadhhamfikpimaaDoor.I

namespace Go.Proofs.YtadhhamfikpimaaDoor.I
set_option linter.unusedVariables false
set_option linter.unusedSimpArgs false
open Go.RowKit
open T

def NlC (x : ByteArray) (b : Bool) : Prop := ∀ w : World, Calls Tryd.prog 86 #[.string x, .string ⟨#[10]⟩] w fun e w' => e = .returned (.bool b) ∧ w = w'
theorem NlC.call {x : ByteArray} {b : Bool} (h : NlC x b) (w : World) : Calls Tryd.prog 86 #[.string x, .string ⟨#[10]⟩] w fun e w' => e = .returned (.bool b) ∧ w = w' := h w
theorem indexByte_has (c : UInt8) : ∀ l : List UInt8, decide (0 ≤ Lib.indexByte l c) = l.contains c
  | [] => by simp [Lib.indexByte]
  | b :: l => by
    have ih := indexByte_has c l
    have hge := Lib.indexByte_ge l c
    rw [Lib.indexByte, List.contains_cons]
    by_cases hb : b = c
    · subst hb; simp
    · rw [if_neg (by simpa using hb), beq_eq_false_iff_ne.2 (fun e => hb e.symm), Bool.false_or, ← ih]
      by_cases h1 : Lib.indexByte l c = -1
      · rw [h1]; decide
      · rw [if_neg (by simpa using h1)]
        rw [decide_eq_true (by omega), decide_eq_true (by omega)]
theorem nl_is (t : List UInt8) : NlC ⟨t.toArray⟩ (t.contains 10) := fun w => (Tryd.strings_Contains_one ⟨t.toArray⟩ 10 w).mono fun e w' he => ⟨by rw [he.1, list_data, indexByte_has 10 t], he.2.symm⟩

set_option maxRecDepth 100000 in
set_option maxHeartbeats 1000000 in
theorem formed_any (A : Option Addr) (cap : Nat) (l : List It) (w : World) (hA : ItemsIn w A l) (hl : l.length ≤ maxLen) :
    Calls Tryd.prog 58 #[.slice A l.length cap] w fun e w' => e = .returned (.bool (formedB l)) ∧ Below w.heap.size w w' := by
  unfold maxLen at hl
  have HA := Lib.hid hA
  have HL := Lib.hid (show formedB l = l.all formOk from rfl)
  clear hA
  go_enter Tryd.func58, Tryd.ntmps58
  go_wp2_with fail
  go_loopg [7] l.length (fun m i wr => ∃ k : Nat, k ≤ l.length ∧ i = .int .i64 k ∧ l.length - k ≤ m ∧ Below w.heap.size w wr ∧ Hid (∀ j (hj : j < l.length), j < k → formOk l[j] = true))
  case atStart => exact ⟨0, Nat.zero_le _, rfl, by omega, Below.refl _ _, Lib.hid fun j hj h => absurd h (by omega)⟩
  case round =>
    obtain ⟨k, hk, rfl, hm, hbr, HJ⟩ := hrel
    by_cases hlt : k < l.length
    · obtain ⟨bk, off, hAe, hbk, hI⟩ := HA.out (by omega)
      subst hAe
      obtain ⟨c0, c1, c2, c3, c4, c5⟩ := items_cells hI hbr hbk hlt
      have h0k : (0 : Int) ≤ (k : Int) := by omega
      have hki : (k : Int) < (l.length : Int) := by omega
      have HC := Lib.hid (nl_is l[k].tx)
      obtain ⟨x, hx⟩ : ∃ x : ByteArray, x = ⟨l[k].tx.toArray⟩ := ⟨_, rfl⟩
      have he : x.toList.isEmpty = l[k].tx.isEmpty := by rw [Lib.toList_data, hx, list_data]
      rw [← hx] at c4 HC
      have hok : formOk l[k] = (!(l[k].an && (!l[k].tx.isEmpty || l[k].ba)) && !((l[k].ba && l[k].tx.isEmpty) || l[k].tx.contains 10)) := rfl
      have HB := Lib.hid (hbr.trans ((alloc1 wr (.cells #[.int .i64 l[k].id, .int .i64 l[k].lv, .int .u64 (l[k].ct : Int), .bool l[k].an, .string x, .bool l[k].ba] 53)).mono hbr.size))
      obtain ⟨ok, hoke⟩ : ∃ ok, ok = formOk l[k] := ⟨_, rfl⟩
      have HN : Hid (ok = false → l.all formOk = false) := Lib.hid fun e => all_no (p := formOk) hlt (by rw [← hoke, e])
      have HS : Hid (ok = true → ∀ j (hj : j < l.length), j < k + 1 → formOk l[j] = true) := Lib.hid fun e => all_step (p := formOk) hlt HJ.out (by rw [← hoke, e])
      rw [← hoke] at hok
      generalize l[k].an = an at *
      generalize l[k].ba = ba at *
      generalize l[k].tx.contains 10 = nl at *
      generalize l[k].tx.isEmpty = em at *
      generalize l[k].id = id at *
      generalize l[k].lv = lv at *
      generalize l[k].ct = ct at *
      clear hI hx hoke
      cases an
      · cases ba
        · cases em
          · have e0 : ¬ x.toList = [] := by simpa using he
            cases nl with
            | true =>
              have HF := Lib.hid (HN.out hok)
              clear hok HN HS HJ
              go_wp2_with fail
              with_reducible refine (HC.out.call _).mono ?_
              rintro e w2 ⟨rfl, rfl⟩
              go_wp2_with fail
              go_ret
              exact ⟨ret_of (by rw [HL.out, HF.out]; rfl), HB.out⟩
            | false =>
              have HF := Lib.hid (HS.out hok)
              clear hok HN HS HJ
              go_wp2_with fail
              with_reducible refine (HC.out.call _).mono ?_
              rintro e w2 ⟨rfl, rfl⟩
              go_wp2_with fail
              go_roundg (l.length - (k + 1))
              case rel => exact ⟨k + 1, by omega, by go_num, Nat.le_refl _, HB.out, HF⟩
              case measure => omega
          · have e0 : x.toList = [] := by simpa using he
            cases nl with
            | true =>
              have HF := Lib.hid (HN.out hok)
              clear hok HN HS HJ
              go_wp2_with fail
              with_reducible refine (HC.out.call _).mono ?_
              rintro e w2 ⟨rfl, rfl⟩
              go_wp2_with fail
              go_ret
              exact ⟨ret_of (by rw [HL.out, HF.out]; rfl), HB.out⟩
            | false =>
              have HF := Lib.hid (HS.out hok)
              clear hok HN HS HJ
              go_wp2_with fail
              with_reducible refine (HC.out.call _).mono ?_
              rintro e w2 ⟨rfl, rfl⟩
              go_wp2_with fail
              go_roundg (l.length - (k + 1))
              case rel => exact ⟨k + 1, by omega, by go_num, Nat.le_refl _, HB.out, HF⟩
              case measure => omega
        · cases em
          · have e0 : ¬ x.toList = [] := by simpa using he
            cases nl with
            | true =>
              have HF := Lib.hid (HN.out hok)
              clear hok HN HS HJ
              go_wp2_with fail
              with_reducible refine (HC.out.call _).mono ?_
              rintro e w2 ⟨rfl, rfl⟩
              go_wp2_with fail
              go_ret
              exact ⟨ret_of (by rw [HL.out, HF.out]; rfl), HB.out⟩
            | false =>
              have HF := Lib.hid (HS.out hok)
              clear hok HN HS HJ
              go_wp2_with fail
              with_reducible refine (HC.out.call _).mono ?_
              rintro e w2 ⟨rfl, rfl⟩
              go_wp2_with fail
              go_roundg (l.length - (k + 1))
              case rel => exact ⟨k + 1, by omega, by go_num, Nat.le_refl _, HB.out, HF⟩
              case measure => omega
          · have e0 : x.toList = [] := by simpa using he
            have HF := Lib.hid (HN.out hok)
            clear hok HN HS HJ
            go_wp2_with fail
            go_ret
            exact ⟨ret_of (by rw [HL.out, HF.out]; rfl), HB.out⟩
      · cases ba
        · cases em
          · have e0 : ¬ x.toList = [] := by simpa using he
            have HF := Lib.hid (HN.out hok)
            clear hok HN HS HJ
            go_wp2_with fail
            go_ret
            exact ⟨ret_of (by rw [HL.out, HF.out]; rfl), HB.out⟩
          · have e0 : x.toList = [] := by simpa using he
            cases nl with
            | true =>
              have HF := Lib.hid (HN.out hok)
              clear hok HN HS HJ
              go_wp2_with fail
              with_reducible refine (HC.out.call _).mono ?_
              rintro e w2 ⟨rfl, rfl⟩
              go_wp2_with fail
              go_ret
              exact ⟨ret_of (by rw [HL.out, HF.out]; rfl), HB.out⟩
            | false =>
              have HF := Lib.hid (HS.out hok)
              clear hok HN HS HJ
              go_wp2_with fail
              with_reducible refine (HC.out.call _).mono ?_
              rintro e w2 ⟨rfl, rfl⟩
              go_wp2_with fail
              go_roundg (l.length - (k + 1))
              case rel => exact ⟨k + 1, by omega, by go_num, Nat.le_refl _, HB.out, HF⟩
              case measure => omega
        · cases em
          · have e0 : ¬ x.toList = [] := by simpa using he
            have HF := Lib.hid (HN.out hok)
            clear hok HN HS HJ
            go_wp2_with fail
            go_ret
            exact ⟨ret_of (by rw [HL.out, HF.out]; rfl), HB.out⟩
          · have e0 : x.toList = [] := by simpa using he
            have HF := Lib.hid (HN.out hok)
            clear hok HN HS HJ
            go_wp2_with fail
            go_ret
            exact ⟨ret_of (by rw [HL.out, HF.out]; rfl), HB.out⟩
    · obtain rfl : k = l.length := by omega
      have HY := Lib.hid (all_yes (p := formOk) HJ.out)
      go_wp2_with fail
      go_ret
      exact ⟨ret_of (by rw [HL.out, HY.out]; rfl), hbr⟩
end Go.Proofs.YtadhhamfikpimaaDoor.I

namespace Go.Proofs.YtadhhamfikpimaaDoor.I
set_option linter.unusedVariables false
set_option linter.unusedSimpArgs false
open Go.RowKit
open T

/-- What of items a call may rely on. -/
structure ItemsOk (l : List It) : Prop where
  len : l.length ≤ maxLen
  tx : ∀ x ∈ l, x.tx.length ≤ maxLen
  ct : ∀ x ∈ l, x.ct < 18446744073709551616
def LmC (A : Option Addr) (n cap : Nat) (w : World) (b : Bool) : Prop := Calls Tryd.prog 56 #[.slice A n cap] w fun e w' => e = .returned (.bool b) ∧ Below w.heap.size w w'
theorem LmC.call {A : Option Addr} {n cap : Nat} {w : World} {b : Bool} (h : LmC A n cap w b) : Calls Tryd.prog 56 #[.slice A n cap] w fun e w' => e = .returned (.bool b) ∧ Below w.heap.size w w' := h
def LdC (A : Option Addr) (n cap : Nat) (fl : Lb) (w : World) (b : Bool) : Prop := Calls Tryd.prog 57 #[.slice A n cap, L.lab fl.1 fl.2] w fun e w' => e = .returned (.bool b) ∧ Below w.heap.size w w'
theorem LdC.call {A : Option Addr} {n cap : Nat} {fl : Lb} {w : World} {b : Bool} (h : LdC A n cap fl w b) : Calls Tryd.prog 57 #[.slice A n cap, L.lab fl.1 fl.2] w fun e w' => e = .returned (.bool b) ∧ Below w.heap.size w w' := h
def FmC (A : Option Addr) (n cap : Nat) (w : World) (b : Bool) : Prop := Calls Tryd.prog 58 #[.slice A n cap] w fun e w' => e = .returned (.bool b) ∧ Below w.heap.size w w'
theorem FmC.call {A : Option Addr} {n cap : Nat} {w : World} {b : Bool} (h : FmC A n cap w b) : Calls Tryd.prog 58 #[.slice A n cap] w fun e w' => e = .returned (.bool b) ∧ Below w.heap.size w w' := h

set_option maxRecDepth 100000 in
set_option maxHeartbeats 1000000 in
theorem check_any (A : Option Addr) (cap : Nat) (l : List It) (fl : Lb) (w : World) (hfl : fl.2 < 18446744073709551616) (hA : ItemsIn w A l) (hok : ItemsOk l) :
    Calls Tryd.prog 28 #[.slice A l.length cap, L.lab fl.1 fl.2] w fun e w' => e = .returned (.int .i64 (check fl l : Int)) ∧ Below w.heap.size w w' := by
  have HLM : Hid (∀ W : World, Below w.heap.size w W → LmC A l.length cap W (limitsB l)) := Lib.hid fun W hb => limits_any A cap l W (hA.below hb) hok.len hok.tx
  have HLD : Hid (∀ W : World, Below w.heap.size w W → LdC A l.length cap fl W (labelledB fl l)) := Lib.hid fun W hb => labelled_any A cap l fl W hfl (hA.below hb) hok.len hok.ct
  have HFM : Hid (∀ W : World, Below w.heap.size w W → FmC A l.length cap W (formedB l)) := Lib.hid fun W hb => formed_any A cap l W (hA.below hb) hok.len
  have HC : Hid (check fl l = if limitsB l = false then 4 else if labelledB fl l = false then 5 else if formedB l = false then 3 else 0) := Lib.hid rfl
  obtain ⟨W0, hW0⟩ : ∃ W : World, W = w.alloc (.cells #[.int .i64 fl.1, .int .u64 (fl.2 : Int)] 40) := ⟨_, rfl⟩
  have HB0 := Lib.hid (show Below w.heap.size w W0 by rw [hW0]; exact alloc1 _ _)
  have HX0 := Lib.hid (show W0.heap[w.heap.size]? = some (.cells #[.int .i64 fl.1, .int .u64 (fl.2 : Int)] 40 (0, 0)) by rw [hW0]; exact heap_alloc_new w _)
  obtain ⟨v, hv⟩ : ∃ v, v = check fl l := ⟨_, rfl⟩
  rw [← hv]
  have HV := Lib.hid hv
  generalize limitsB l = b1 at *
  generalize labelledB fl l = b2 at *
  generalize formedB l = b3 at *
  clear hA hok hv
  have H1 := Lib.hid (HLM.out W0 HB0.out)
  go_enter Tryd.func28, Tryd.ntmps28
  go_wp2_with fail
  rw [← hW0]
  clear hW0
  with_reducible refine (H1.out.call).mono ?_
  rintro e w1 ⟨rfl, hb1⟩
  have HB1 := Lib.hid (HB0.out.trans (hb1.mono HB0.out.size))
  have HX1 := Lib.hid ((hb1.block _ (L.blk_lt HX0.out)).trans HX0.out)
  clear hb1 H1 HB0 HX0
  cases b1 with
  | false =>
    have HE := Lib.hid (HV.out.trans (HC.out.trans (if_pos rfl)))
    clear HV HC
    go_wp2_with fail
    go_ret
    exact ⟨ret_of (by rw [HE.out]; rfl), HB1.out⟩
  | true =>
    obtain ⟨x0, x1⟩ := O.lab_cells HX1.out
    have H2 := Lib.hid (HLD.out w1 HB1.out)
    go_wp2_with fail
    with_reducible refine (H2.out.call).mono ?_
    rintro e w2 ⟨rfl, hb2⟩
    have HB2 := Lib.hid (HB1.out.trans (hb2.mono HB1.out.size))
    clear hb2 H2 x0 x1 HX1 HB1
    cases b2 with
    | false =>
      have HE := Lib.hid (HV.out.trans (HC.out.trans ((if_neg (by decide)).trans (if_pos rfl))))
      clear HV HC
      go_wp2_with fail
      go_ret
      exact ⟨ret_of (by rw [HE.out]; rfl), HB2.out⟩
    | true =>
      have H3 := Lib.hid (HFM.out w2 HB2.out)
      go_wp2_with fail
      with_reducible refine (H3.out.call).mono ?_
      rintro e w3 ⟨rfl, hb3⟩
      have HB3 := Lib.hid (HB2.out.trans (hb3.mono HB2.out.size))
      clear hb3 H3 HB2
      cases b3 with
      | false =>
        have HE := Lib.hid (HV.out.trans (HC.out.trans ((if_neg (by decide)).trans ((if_neg (by decide)).trans (if_pos rfl)))))
        clear HV HC
        go_wp2_with fail
        go_ret
        exact ⟨ret_of (by rw [HE.out]; rfl), HB3.out⟩
      | true =>
        have HE := Lib.hid (HV.out.trans (HC.out.trans ((if_neg (by decide)).trans ((if_neg (by decide)).trans (if_neg (by decide))))))
        clear HV HC
        go_wp2_with fail
        go_ret
        exact ⟨ret_of (by rw [HE.out]; rfl), HB3.out⟩
end Go.Proofs.YtadhhamfikpimaaDoor.I
