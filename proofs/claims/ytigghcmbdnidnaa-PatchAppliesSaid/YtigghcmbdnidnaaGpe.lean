/-
  Edits in memory; what Check and Changed come to.
  A script's lines while it is laid: the box of done, and its two rows.
  What add comes to.
  Steps and lines, gathered into edits: in plain words.
  What edits comes to.
-/
import Derived.Test.YtigghcmbdnidnaaGpc
import Derived.Test.YtigghcmbdnidnaaGpd
import Derived.Deep.RegionLaw
import Derived.Deep.AppendLies
import Derived.Laws.AppendOwnNone
import Derived.Deep.DeepCutAuto
namespace Go.Proofs.Ytigghcmbdnidnaa.S
open Go.RowKit
open T
open V (grown_of IntsIn numCells numCells_snoc ints_own drawn_below)
open I (alloc1 own_at own_below)
open N (Ln)

/-- What is done, and to which lines. -/
abbrev Ed := Int × List Ln
/-- An edit in memory, its lines in blocks from b on. -/
def EdAt (b : Nat) (w : World) (bk o : Nat) (e : Ed) : Prop :=
  ∃ LA lc, w.cell? ⟨bk, o, none⟩ = some (.int .i64 e.1) ∧ w.cell? ⟨bk, o + 1, none⟩ = some (.slice LA e.2.length lc) ∧ LinesIn w LA e.2 ∧ e.2.length ≤ lc ∧ (LA = none → lc = 0) ∧ ∀ p, LA = some p → b ≤ p.block
/-- A slice's edits, in blocks from b on. -/
def EdsIn (b : Nat) (w : World) (A : Option Addr) (es : List Ed) : Prop :=
  0 < es.length → ∃ bk off, A = some ⟨bk, off, none⟩ ∧ b ≤ bk ∧ bk < w.heap.size ∧ ∀ j (h : j < es.length), EdAt b w bk (off + j * 2) es[j]
theorem EdAt.below {b : Nat} {w w' : World} {bk o : Nat} {e : Ed} (h : EdAt b w bk o e) (hb : Below w.heap.size w w') (hk : bk < w.heap.size) : EdAt b w' bk o e := by
  obtain ⟨LA, lc, h0, h1, h2, h3, h4, h5⟩ := h
  exact ⟨LA, lc, (hb.cell (p := ⟨bk, o, none⟩) hk).trans h0, (hb.cell (p := ⟨bk, o + 1, none⟩) hk).trans h1, h2.below hb, h3, h4, h5⟩
theorem EdsIn.below {b : Nat} {w w' : World} {A : Option Addr} {es : List Ed} (h : EdsIn b w A es) (hb : Below w.heap.size w w') : EdsIn b w' A es := fun hp => by
  obtain ⟨bk, off, rfl, h1, h2, h3⟩ := h hp
  exact ⟨bk, off, rfl, h1, Nat.lt_of_lt_of_le h2 hb.size, fun j hj => (h3 j hj).below hb h2⟩
theorem EdsIn.low {b b' : Nat} {w : World} {A : Option Addr} {es : List Ed} (h : EdsIn b w A es) (hb : b' ≤ b) : EdsIn b' w A es := fun hp => by
  obtain ⟨bk, off, e, h1, h2, h3⟩ := h hp
  refine ⟨bk, off, e, by omega, h2, fun j hj => ?_⟩
  obtain ⟨LA, lc, g0, g1, g2, g3, g4, g5⟩ := h3 j hj
  exact ⟨LA, lc, g0, g1, g2, g3, g4, fun p hp => Nat.le_trans hb (g5 p hp)⟩
/-- What of edits a call may rely on. -/
structure EdsOk (es : List Ed) : Prop where
  len : es.length ≤ maxLen
  ls : ∀ e ∈ es, e.2.length ≤ maxLen
/-- How many lines edits hold. -/
def tl (es : List Ed) : Nat := (es.map fun e => e.2.length).sum
theorem tl_snoc (es : List Ed) (e : Ed) : tl (es ++ [e]) = tl es + e.2.length := by simp [tl]
theorem tl_app (a b : List Ed) : tl (a ++ b) = tl a + tl b := by simp [tl, List.sum_append]
theorem tl_take {es : List Ed} {k : Nat} (hk : k < es.length) : tl (es.take (k + 1)) = tl (es.take k) + es[k].2.length := by
  rw [List.take_succ_eq_append_getElem hk, tl_snoc]
theorem tl_le (es : List Ed) (k : Nat) : tl (es.take k) ≤ tl es := by
  have := tl_app (es.take k) (es.drop k)
  rw [List.take_append_drop] at this
  omega
def okDo (d : Int) : Bool := d == 1 || d == 2 || d == 3
/-- Check. -/
def ck (es : List Ed) : Int := if 800 < es.length ∨ 800 < tl es then 4 else if es.all (fun e => okDo e.1) then 0 else 3
theorem ck_ok {es : List Ed} (h : ck es = 0) : es.length ≤ 800 ∧ tl es ≤ 800 ∧ ∀ e ∈ es, e.1 = 1 ∨ e.1 = 2 ∨ e.1 = 3 := by
  unfold ck at h
  split at h
  · cases h
  · rename_i h1
    split at h
    · rename_i h2
      refine ⟨by omega, by omega, fun e he => ?_⟩
      have := List.all_eq_true.1 h2 e he
      simp only [okDo, Bool.or_eq_true, beq_iff_eq] at this
      omega
    · cases h
/-- What changes, as a sum that may run over. -/
def cg (n : Int) (e : Ed) : Int := if e.1 == 2 || e.1 == 3 then IntKind.i64.wrap (n + e.2.length) else n
def chg (es : List Ed) : Int := es.foldl cg 0
theorem chg_take {es : List Ed} {k : Nat} (hk : k < es.length) : chg (es.take (k + 1)) = cg (chg (es.take k)) es[k] := by
  unfold chg
  rw [List.take_succ_eq_append_getElem hk, List.foldl_append]
  rfl
def chgN (es : List Ed) : Nat := (es.map fun e => if e.1 == 2 || e.1 == 3 then e.2.length else 0).sum
theorem chgN_le (es : List Ed) : chgN es ≤ tl es := by
  induction es with
  | nil => simp [chgN, tl]
  | cons e r ih =>
    have h1 : chgN (e :: r) = (if e.1 == 2 || e.1 == 3 then e.2.length else 0) + chgN r := by simp [chgN]
    have h2 : tl (e :: r) = e.2.length + tl r := by simp [tl]
    rw [h1, h2]
    split <;> omega
theorem chg_small {es : List Ed} (h : tl es ≤ 1000000) : chg es = (chgN es : Int) := by
  have key : ∀ (r : List Ed) (n : Nat), n + tl r ≤ 1000000 → r.foldl cg (n : Int) = ((n + chgN r : Nat) : Int) := by
    intro r
    induction r with
    | nil => intro n _; simp [chgN]
    | cons e r ih =>
      intro n hn
      have h1 : chgN (e :: r) = (if e.1 == 2 || e.1 == 3 then e.2.length else 0) + chgN r := by simp [chgN]
      have h2 : tl (e :: r) = e.2.length + tl r := by simp [tl]
      rw [h2] at hn
      rw [List.foldl_cons, h1, cg]
      split
      · have hw : IntKind.i64.wrap ((n : Int) + (e.2.length : Int)) = ((n + e.2.length : Nat) : Int) := by rw [IntKind.wrap_i64]; omega
        rw [hw, ih _ (by omega)]
        congr 1; omega
      · rw [ih _ (by omega)]
        congr 1; omega
  simpa [chg] using key es 0 (by omega)

set_option maxRecDepth 100000 in
set_option maxHeartbeats 4000000 in
theorem changed_any (A : Option Addr) (c b : Nat) (es : List Ed) (w : World) (hE : EdsIn b w A es) (hok : EdsOk es) :
    Calls Try.prog 57 #[.slice A es.length c] w fun e w' => e = .returned (.int .i64 (chg es)) ∧ Below w.heap.size w w' := by
  have HE := Lib.hid hE
  have hl := hok.len
  have HLS := Lib.hid hok.ls
  unfold maxLen at hl
  clear hE hok
  go_enter Try.func57, Try.ntmps57
  go_wp2_with fail
  go_loopg [3, 8] es.length (fun m nv iv wr => ∃ (k : Nat) (n : Int), k ≤ es.length ∧ iv = .int .i64 k ∧ nv = .int .i64 n ∧ es.length - k ≤ m ∧ Hid (n = chg (es.take k)) ∧ Hid (Below w.heap.size w wr))
  case atStart => exact ⟨0, 0, Nat.zero_le _, rfl, rfl, by omega, Lib.hid rfl, Lib.hid (Below.refl _ _)⟩
  case round =>
    obtain ⟨k, n, hk, rfl, rfl, hmm, HN, HB⟩ := hrel
    by_cases hlt : k < es.length
    · obtain ⟨bk, off, hAe, -, hbk, hI⟩ := HE.out (by omega)
      subst hAe
      obtain ⟨LA, lc, g0, g1, -⟩ := hI k hlt
      have c0 := (HB.out.cell (p := ⟨bk, off + k * 2, none⟩) hbk).trans g0
      have c1 := (HB.out.cell (p := ⟨bk, off + k * 2 + 1, none⟩) hbk).trans g1
      have HT := Lib.hid (chg_take hlt)
      rw [← HN.out] at HT
      generalize es[k] = e at *
      obtain ⟨d, l⟩ := e
      simp only at c0 c1
      obtain ⟨W1, hW1⟩ : ∃ W : World, W = wr.alloc (.cells #[.int .i64 d, .slice LA l.length lc] 54) := ⟨_, rfl⟩
      have hX := heap_alloc_new wr (.cells #[.int .i64 d, .slice LA l.length lc] 54)
      rw [← hW1] at hX
      have x0 := L.blk_cell hX 0
      have x1 := L.blk_cell hX 1
      simp only [List.getElem?_toArray, List.getElem?_cons_zero, List.getElem?_cons_succ] at x0 x1
      have HB1 := Lib.hid (HB.out.trans ((show Below wr.heap.size wr W1 by rw [hW1]; exact alloc1 _ _).mono HB.out.size))
      have h0k : (0 : Int) ≤ (k : Int) := by omega
      have hki : (k : Int) < (es.length : Int) := by omega
      clear hI g0 g1 hX
      by_cases h2 : d = 2
      · subst h2
        have hT : chg (es.take (k + 1)) = IntKind.i64.wrap (n + l.length) := by rw [HT.out]; rfl
        go_upto_region 5 with fail
        rw [← hW1]
        clear hW1 HT
        go_wp2_with fail
        go_roundg (es.length - (k + 1))
        case rel => exact ⟨k + 1, _, by omega, by go_num, rfl, Nat.le_refl _, Lib.hid (by rw [hT]; exact (Go.IntWalk.i64_left _).symm), HB1⟩
        case measure => omega
      · have hd2 : (d == 2) = false := beq_eq_false_iff_ne.2 h2
        by_cases h3 : d = 3
        · subst h3
          have hT : chg (es.take (k + 1)) = IntKind.i64.wrap (n + l.length) := by rw [HT.out]; rfl
          go_upto_region 5 with fail
          rw [← hW1]
          clear hW1 HT
          go_wp2_with fail
          go_roundg (es.length - (k + 1))
          case rel => exact ⟨k + 1, _, by omega, by go_num, rfl, Nat.le_refl _, Lib.hid (by rw [hT]; exact (Go.IntWalk.i64_left _).symm), HB1⟩
          case measure => omega
        · have hd3 : (d == 3) = false := beq_eq_false_iff_ne.2 h3
          have hT : chg (es.take (k + 1)) = n := by rw [HT.out]; simp [cg, h2, h3]
          clear h2 h3
          go_upto_region 5 with fail
          rw [← hW1]
          clear hW1 HT
          go_wp2_with fail
          go_roundg (es.length - (k + 1))
          case rel => exact ⟨k + 1, _, by omega, by go_num, rfl, Nat.le_refl _, Lib.hid hT.symm, HB1⟩
          case measure => omega
    · obtain rfl : k = es.length := by omega
      have hn := HN.out
      rw [List.take_length] at hn
      subst hn
      go_wp2_with fail
      go_ret
      exact ⟨rfl, HB.out⟩
theorem ck_long {es : List Ed} (h : 800 < es.length ∨ 800 < tl es) : ck es = 4 := by unfold ck; rw [if_pos h]
theorem ck_form {es : List Ed} (h1 : es.length ≤ 800) (h2 : tl es ≤ 800) {k : Nat} (hk : k < es.length) (h : okDo es[k].1 = false) : ck es = 3 := by
  unfold ck
  rw [if_neg (by omega), if_neg]
  intro h3
  rw [List.all_eq_true.1 h3 _ (List.getElem_mem hk)] at h
  cases h
theorem ck_all {es : List Ed} (h1 : es.length ≤ 800) (h2 : tl es ≤ 800) (h : ∀ j (hj : j < es.length), okDo es[j].1 = true) : ck es = 0 := by
  unfold ck
  rw [if_neg (by omega), if_pos]
  rw [List.all_eq_true]
  intro e he
  obtain ⟨j, hj, rfl⟩ := List.mem_iff_getElem.1 he
  exact h j hj

set_option maxRecDepth 100000 in
set_option maxHeartbeats 4000000 in
theorem check_any (A : Option Addr) (c b : Nat) (es : List Ed) (w : World) (hE : EdsIn b w A es) (hok : EdsOk es) :
    Calls Try.prog 47 #[.slice A es.length c] w fun e w' => e = .returned (.int .i64 (ck es)) ∧ Below w.heap.size w w' := by
  have HE := Lib.hid hE
  have hl := hok.len
  have HLS := Lib.hid hok.ls
  unfold maxLen at hl
  clear hE hok
  go_enter Try.func47, Try.ntmps47
  by_cases hlong : 800 < es.length
  · have hc := ck_long (es := es) (.inl hlong)
    have h8 : (800 : Int) < (es.length : Int) := by omega
    go_wp2_with fail
    go_ret
    exact ⟨by first | (rw [hc]; rfl) | rfl, Below.refl _ _⟩
  have h8 : ¬ (800 : Int) < (es.length : Int) := by omega
  have h8' : es.length ≤ 800 := by omega
  clear hlong
  go_wp2_with fail
  go_loopg [3, 13] es.length (fun m rv iv wr => ∃ (k : Nat), k ≤ es.length ∧ iv = .int .i64 k ∧ rv = .int .i64 (800 - (tl (es.take k) : Int)) ∧ es.length - k ≤ m ∧ tl (es.take k) ≤ 800 ∧ Hid (Below w.heap.size w wr))
  case atStart => exact ⟨0, Nat.zero_le _, rfl, rfl, by omega, Nat.zero_le _, Lib.hid (Below.refl _ _)⟩
  case round =>
    obtain ⟨k, hk, rfl, rfl, hmm, htk, HB⟩ := hrel
    by_cases hlt : k < es.length
    · obtain ⟨bk, off, hAe, -, hbk, hI⟩ := HE.out (by omega)
      subst hAe
      obtain ⟨LA, lc, g0, g1, -⟩ := hI k hlt
      have c0 := (HB.out.cell (p := ⟨bk, off + k * 2, none⟩) hbk).trans g0
      have c1 := (HB.out.cell (p := ⟨bk, off + k * 2 + 1, none⟩) hbk).trans g1
      have hT := tl_take hlt
      have hTL := tl_le es (k + 1)
      have hll := HLS.out _ (List.getElem_mem hlt)
      unfold maxLen at hll
      generalize es[k] = e at *
      obtain ⟨d, l⟩ := e
      simp only at c0 c1 hT hll
      obtain ⟨W1, hW1⟩ : ∃ W : World, W = wr.alloc (.cells #[.int .i64 d, .slice LA l.length lc] 54) := ⟨_, rfl⟩
      have hX := heap_alloc_new wr (.cells #[.int .i64 d, .slice LA l.length lc] 54)
      rw [← hW1] at hX
      have x0 := L.blk_cell hX 0
      have x1 := L.blk_cell hX 1
      simp only [List.getElem?_toArray, List.getElem?_cons_zero, List.getElem?_cons_succ] at x0 x1
      have HB1 := Lib.hid (HB.out.trans ((show Below wr.heap.size wr W1 by rw [hW1]; exact alloc1 _ _).mono HB.out.size))
      have h0k : (0 : Int) ≤ (k : Int) := by omega
      have hki : (k : Int) < (es.length : Int) := by omega
      have HT := Lib.hid hT
      generalize tl (es.take k) = t at *
      clear hI g0 g1 hX hT
      by_cases hgt : (800 : Int) - (t : Int) < (l.length : Int)
      · have hc := ck_long (es := es) (.inr (by have := HT.out; omega))
        have hgd : decide ((800 : Int) - (t : Int) < (l.length : Int)) = true := decide_eq_true hgt
        go_upto_region 7 with fail
        rw [← hW1]
        clear hW1
        go_wp2_with fail
        go_ret
        exact ⟨by first | (rw [hc]; rfl) | rfl, HB1.out⟩
      · have hgd : decide ((800 : Int) - (t : Int) < (l.length : Int)) = false := decide_eq_false hgt
        have hws : IntKind.i64.wrap ((800 : Int) - (t : Int) - (l.length : Int)) = 800 - (t : Int) - (l.length : Int) := by rw [IntKind.wrap_i64]; omega
        go_upto_region 7 with fail
        rw [← hW1]
        clear hW1
        go_wp2_with fail
        go_roundg (es.length - (k + 1))
        case rel => exact ⟨k + 1, by omega, by go_num, by rw [HT.out]; congr 1; omega, Nat.le_refl _, by rw [HT.out]; omega, HB1⟩
        case measure => omega
    · obtain rfl : k = es.length := by omega
      rw [List.take_length] at htk
      rw [List.take_length]
      clear hk hmm hlt
      go_wp2_with fail
      go_loopg [30] es.length (fun m iv wx => ∃ (k : Nat), k ≤ es.length ∧ iv = .int .i64 k ∧ es.length - k ≤ m ∧ Hid (∀ j (hj : j < es.length), j < k → okDo es[j].1 = true) ∧ Hid (Below w.heap.size w wx))
      case atStart => exact ⟨0, Nat.zero_le _, rfl, by omega, Lib.hid (fun j _ h => absurd h (Nat.not_lt_zero _)), HB⟩
      case round =>
        clear HB
        obtain ⟨k, hk, rfl, hmm, HOK, HB⟩ := hrel
        by_cases hlt : k < es.length
        · obtain ⟨bk, off, hAe, -, hbk, hI⟩ := HE.out (by omega)
          subst hAe
          obtain ⟨LA, lc, g0, g1, -⟩ := hI k hlt
          have c0 := (HB.out.cell (p := ⟨bk, off + k * 2, none⟩) hbk).trans g0
          have c1 := (HB.out.cell (p := ⟨bk, off + k * 2 + 1, none⟩) hbk).trans g1
          have HFM := Lib.hid (fun h => ck_form h8' htk hlt h)
          have HNX : Hid (okDo es[k].1 = true → ∀ j (hj : j < es.length), j < k + 1 → okDo es[j].1 = true) := Lib.hid (fun h j hj hjk => by
            by_cases e : j = k
            · subst e; exact h
            · exact HOK.out j hj (by omega))
          generalize es[k] = e at *
          obtain ⟨d, l⟩ := e
          simp only at c0 c1
          obtain ⟨W1, hW1⟩ : ∃ W : World, W = wr.alloc (.cells #[.int .i64 d, .slice LA l.length lc] 54) := ⟨_, rfl⟩
          have hX := heap_alloc_new wr (.cells #[.int .i64 d, .slice LA l.length lc] 54)
          rw [← hW1] at hX
          have x0 := L.blk_cell hX 0
          simp only [List.getElem?_toArray, List.getElem?_cons_zero] at x0
          have HB1 := Lib.hid (HB.out.trans ((show Below wr.heap.size wr W1 by rw [hW1]; exact alloc1 _ _).mono HB.out.size))
          have h0k : (0 : Int) ≤ (k : Int) := by omega
          have hki : (k : Int) < (es.length : Int) := by omega
          clear hI g0 g1 hX
          by_cases h1 : d = 1
          · subst h1
            go_upto_region 14 with fail
            rw [← hW1]
            clear hW1
            go_wp2_with fail
            go_roundg (es.length - (k + 1))
            case rel => exact ⟨k + 1, by omega, by go_num, Nat.le_refl _, Lib.hid (HNX.out rfl), HB1⟩
            case measure => omega
          · have e1 : (d == 1) = false := beq_eq_false_iff_ne.2 h1
            have n1 : (d != 1) = true := by simp [bne, e1]
            by_cases h2 : d = 2
            · subst h2
              go_upto_region 14 with fail
              rw [← hW1]
              clear hW1
              go_wp2_with fail
              go_roundg (es.length - (k + 1))
              case rel => exact ⟨k + 1, by omega, by go_num, Nat.le_refl _, Lib.hid (HNX.out rfl), HB1⟩
              case measure => omega
            · have e2 : (d == 2) = false := beq_eq_false_iff_ne.2 h2
              have n2 : (d != 2) = true := by simp [bne, e2]
              by_cases h3 : d = 3
              · subst h3
                go_upto_region 14 with fail
                rw [← hW1]
                clear hW1
                go_wp2_with fail
                go_roundg (es.length - (k + 1))
                case rel => exact ⟨k + 1, by omega, by go_num, Nat.le_refl _, Lib.hid (HNX.out rfl), HB1⟩
                case measure => omega
              · have e3 : (d == 3) = false := beq_eq_false_iff_ne.2 h3
                have n3 : (d != 3) = true := by simp [bne, e3]
                have hc := HFM.out (by simp [okDo, e1, e2, e3])
                clear h1 h2 h3 e1 e2 e3
                go_upto_region 14 with fail
                rw [← hW1]
                clear hW1
                go_wp2_with fail
                go_ret
                exact ⟨by first | (rw [hc]; rfl) | rfl, HB1.out⟩
        · obtain rfl : k = es.length := by omega
          have hc := ck_all h8' htk (fun j hj => HOK.out j hj hj)
          go_wp2_with fail
          go_ret
          exact ⟨by first | (rw [hc]; rfl) | rfl, HB.out⟩
end Go.Proofs.Ytigghcmbdnidnaa.S

namespace Go.Proofs.Ytigghcmbdnidnaa.S
open Go.RowKit
open T
open V (grown_of IntsIn numCells numCells_snoc ints_own drawn_below)
open I (alloc1 own_at own_below)
open N (Ln)

theorem lineCells_app (a b : List Ln) : lineCells (a ++ b) = lineCells a ++ lineCells b := by simp [lineCells]
theorem lineCells_one (a : List Ln) : ∀ u ∈ lineCells a, u.oneCell' = true := by
  intro u hu
  simp only [lineCells, List.mem_flatMap] at hu
  obtain ⟨x, _, hu⟩ := hu
  simp at hu
  rcases hu with rfl | rfl <;> rfl
theorem lines_news {w : World} {bk off : Nat} {xs : List Ln} (h : LinesAt w bk off xs) : ∀ j u, (lineCells xs)[j]? = some u → w.cell? ((⟨bk, off, none⟩ : Addr).add j) = some u := by
  intro j u hu
  have hj : j < xs.length * 2 := by rw [← lineCells_length]; exact (List.getElem?_eq_some_iff.1 hu).1
  have hq : j / 2 < xs.length := by omega
  obtain ⟨h0, h1⟩ := lineCells_at xs (j / 2) hq
  obtain ⟨c0, c1⟩ := h (j / 2) hq
  have hd : j = j / 2 * 2 + j % 2 := by omega
  have hm : j % 2 < 2 := Nat.mod_lt _ (by omega)
  rw [show (⟨bk, off, none⟩ : Addr).add j = ⟨bk, off + j, none⟩ by simp [Addr.add]]
  have key : ∀ r, j % 2 = r → j = j / 2 * 2 + r := fun r hr => by omega
  match hr : j % 2, hm with
  | 0, _ => rw [key 0 hr, Nat.add_zero] at hu ⊢; rw [h0] at hu; rw [c0]; exact hu
  | 1, _ => rw [key 1 hr] at hu ⊢; rw [h1] at hu; rw [← Nat.add_assoc, c1]; exact hu
/-- append of a row of lines onto a row of lines that the call owns, wherever the lines lie. -/
theorem wpList_append_lines {w : World} {ops : Array Oper} {rest : List Oper} {o : Oper} {a : Act} {Q : Exit → Act → World → Prop} (hgd : o.guard = none) (s x : Operand)
    (ho : o.op = .call { callee := .builtin .append, args := #[s, x], argTypes := #[23, 23] })
    (base : Nat) (v : Value) (xs l : List Ln) (hs : a.eval s = v) (hown : w.ownsRow base 59 2 v xs.length (lineCells xs))
    (LA : Option Addr) (lc : Nat) (hx : a.eval x = .slice LA l.length lc) (hL : LinesIn w LA l) (hn : LA = none → lc = 0) (hsm : xs.length + l.length ≤ 1000000) (hbase : base ≤ w.heap.size)
    (h : ∀ v' w', w'.ownsRow base 59 2 v' (xs ++ l).length (lineCells (xs ++ l)) → w.grownBy w' v.ownBlock → (v'.ownBlock = v.ownBlock ∨ v'.ownBlock = some w.heap.size) → wpList Try.prog ops Q rest (a.put o.dst v') w') :
    wpList Try.prog ops Q (o :: rest) a w := by
  obtain ⟨i0, hi0, hz0, hz1, hz2⟩ := info_parts infoLine
  have hlen : (lineCells l).length = l.length * 2 := lineCells_length l
  cases LA with
  | none =>
    have hl0 : l = [] := by
      rcases Nat.eq_zero_or_pos l.length with h0 | hp
      · exact List.length_eq_zero_iff.1 h0
      · obtain ⟨_, _, h0, _⟩ := hL hp; cases h0
    obtain rfl := hn rfl
    subst hl0
    refine wpList_append_own_none hgd s x _ ho base 59 i0 2 Try.underlying23 hi0 v _ _ hs hown hx (h v w (by simpa using hown) ⟨rfl, rfl, rfl, Nat.le_refl _, fun _ _ _ => rfl⟩ (.inl rfl))
  | some ad =>
    refine wpList_append_own_at w hgd s x _ ho base 59 i0 _ 2 24 Try.underlying23 hi0 hz0 hz1 hz2 rfl (by decide) v _ _ hs hown ad l.length lc (lineCells l) hx hlen (fun j u hu => ?_) (lineCells_one l) (by unfold maxLen; omega) (by omega) hbase (fun v' w' h1 h2 _ h4 => h v' w' (by rw [List.length_append, lineCells_app]; exact h1) h2 h4)
    by_cases hp : 0 < l.length
    · obtain ⟨bk, off, e, _, hI⟩ := hL hp
      injection e with e
      subst e
      exact lines_news hI j u hu
    · have := (List.getElem?_eq_some_iff.1 hu).1
      omega

abbrev stepCells (ss : List Int) : List Value := numCells ss
theorem infoStp : (Try.prog.info? 52).map (fun i => (i.zero, i.size, i.bytes)) = some (some (.int .i64 0), 1, 8) := by kernel_rfl
/-- The box of done, and the rows in it. -/
structure Dn (w : World) (base db : Nat) (vl vs : Value) (ls : List Ln) (ss : List Int) : Prop where
  hb : base ≤ db
  blk : w.heap[db]? = some (.cells #[vl, vs] 89 (0, 0))
  l : w.ownsRow base 59 2 vl ls.length (lineCells ls)
  s : w.ownsRow base 52 1 vs ss.length (stepCells ss)
/-- What stays when the box is laid on. -/
structure FrA (w w' : World) (db : Nat) (vl vs vl' vs' : Value) : Prop where
  os : w'.os = w.os
  tape : w'.tape = w.tape
  output : w'.output = w.output
  size : w.heap.size ≤ w'.heap.size
  block : ∀ k, k < w.heap.size → k ≠ db → vl.ownBlock ≠ some k → vs.ownBlock ≠ some k → w'.heap[k]? = w.heap[k]?
  nl : vl'.ownBlock = vl.ownBlock ∨ ∃ g, vl'.ownBlock = some g ∧ w.heap.size ≤ g
  ns : vs'.ownBlock = vs.ownBlock ∨ ∃ g, vs'.ownBlock = some g ∧ w.heap.size ≤ g
theorem FrA.refl (w : World) (db : Nat) (vl vs : Value) : FrA w w db vl vs vl vs := ⟨rfl, rfl, rfl, Nat.le_refl _, fun _ _ _ _ _ => rfl, .inl rfl, .inl rfl⟩
theorem far_of {w : World} {v v' : Value} {k : Nat} (h : v'.ownBlock = v.ownBlock ∨ ∃ g, v'.ownBlock = some g ∧ w.heap.size ≤ g) (hk : k < w.heap.size) (hv : v.ownBlock ≠ some k) : v'.ownBlock ≠ some k := by
  rcases h with h | ⟨g, h, hg⟩
  · rw [h]; exact hv
  · rw [h]; intro e; injection e with e; omega
theorem FrA.trans {w w1 w2 : World} {db : Nat} {vl vs vl1 vs1 vl2 vs2 : Value} (h : FrA w w1 db vl vs vl1 vs1) (h' : FrA w1 w2 db vl1 vs1 vl2 vs2) : FrA w w2 db vl vs vl2 vs2 := by
  refine ⟨h'.os.trans h.os, h'.tape.trans h.tape, h'.output.trans h.output, Nat.le_trans h.size h'.size, fun k hk h1 h2 h3 => ?_, ?_, ?_⟩
  · rw [h'.block k (Nat.lt_of_lt_of_le hk h.size) h1 (far_of h.nl hk h2) (far_of h.ns hk h3), h.block k hk h1 h2 h3]
  · rcases h'.nl with e | ⟨g, e, hg⟩
    · rw [e]; exact h.nl
    · exact .inr ⟨g, e, Nat.le_trans h.size hg⟩
  · rcases h'.ns with e | ⟨g, e, hg⟩
    · rw [e]; exact h.ns
    · exact .inr ⟨g, e, Nat.le_trans h.size hg⟩
theorem FrA.of_below {w w' : World} (hb : Below w.heap.size w w') (db : Nat) (vl vs : Value) : FrA w w' db vl vs vl vs :=
  ⟨hb.os, hb.tape, hb.output, hb.size, fun k hk _ _ _ => hb.block k hk, .inl rfl, .inl rfl⟩
theorem FrA.cell {w w' : World} {db : Nat} {vl vs vl' vs' : Value} (h : FrA w w' db vl vs vl' vs') {k o : Nat} (hk : k < w.heap.size) (h1 : k ≠ db) (h2 : vl.ownBlock ≠ some k) (h3 : vs.ownBlock ≠ some k) : w'.cell? ⟨k, o, none⟩ = w.cell? ⟨k, o, none⟩ := by
  simp only [World.cell?, h.block k hk h1 h2 h3]
theorem Dn.lt {w : World} {base db : Nat} {vl vs : Value} {ls : List Ln} {ss : List Int} (h : Dn w base db vl vs ls ss) : db < w.heap.size := L.blk_lt h.blk
theorem Dn.below {w w' : World} {base db : Nat} {vl vs : Value} {ls : List Ln} {ss : List Int} (h : Dn w base db vl vs ls ss) (hb : Below w.heap.size w w') : Dn w' base db vl vs ls ss :=
  ⟨h.hb, (hb.block _ h.lt).trans h.blk, own_below h.l hb, own_below h.s hb⟩
theorem own_type {w : World} {base : Nat} {e : TypeId} {size n : Nat} {v : Value} {xs : List Value} (h : w.ownsRow base e size v n xs) {k : Nat} {cs : Array Value} {t : TypeId} (hk : w.heap[k]? = some (.cells cs t (0, 0))) (hne : t ≠ e) : v.ownBlock ≠ some k := fun e' => by
  rcases h.2 with ⟨rfl, _⟩ | ⟨g, cap, cur, rfl, _, hh, _⟩
  · cases e'
  · simp only [Value.ownBlock, Option.some.injEq] at e'
    subst e'
    rw [hk] at hh
    injection hh with hh
    injection hh with _ hh
    exact hne hh
theorem own_heap {w : World} {base : Nat} {e : TypeId} {size n : Nat} {v : Value} {xs : List Value} (h : w.ownsRow base e size v n xs) {k : Nat} (hk : v.ownBlock = some k) : ∃ cs, w.heap[k]? = some (.cells cs e (0, 0)) := by
  rcases h.2 with ⟨rfl, _⟩ | ⟨g, cap, cur, rfl, _, hh, _⟩
  · cases hk
  · simp only [Value.ownBlock, Option.some.injEq] at hk
    subst hk
    exact ⟨_, hh⟩
theorem own_apart {w : World} {base base' : Nat} {e e' : TypeId} {size size' n n' : Nat} {v v' : Value} {xs xs' : List Value} (h : w.ownsRow base e size v n xs) (h' : w.ownsRow base' e' size' v' n' xs') (hne : e ≠ e') {k : Nat} (hk : v.ownBlock = some k) : v'.ownBlock ≠ some k := by
  obtain ⟨cs, hh⟩ := own_heap h hk
  exact own_type h' hh hne
/-- A row stays where another row grows. -/
theorem own_grown {w w' : World} {base base' : Nat} {e e' : TypeId} {size size' n n' : Nat} {v v' : Value} {xs xs' : List Value} (h : w.ownsRow base e size v n xs) (h' : w.ownsRow base' e' size' v' n' xs') (hne : e ≠ e') (hg : w.grownBy w' v'.ownBlock) : w'.ownsRow base e size v n xs := by
  refine h.kept hg ?_
  cases hv : v.ownBlock with
  | none => exact .inl rfl
  | some k => exact .inr fun q => own_apart h h' hne hv q.symm
theorem putL {w w1 : World} {base db H : Nat} {vl vs vl' : Value} {ls l : List Ln} {ss : List Int} (h : Dn w base db vl vs ls ss) (hg : w.grownBy w1 vl.ownBlock) (ho : w1.ownsRow base 59 2 vl' (ls ++ l).length (lineCells (ls ++ l)))
    (hn : vl'.ownBlock = vl.ownBlock ∨ vl'.ownBlock = some H) (hH : w.heap.size ≤ H) : Dn (w1.setCell ⟨db, 0, none⟩ vl') base db vl' vs (ls ++ l) ss ∧ FrA w (w1.setCell ⟨db, 0, none⟩ vl') db vl vs vl' vs := by
  have hlt := h.lt
  have hd : vl.ownBlock ≠ some db := own_type h.l h.blk (by decide)
  have hb1 : w1.heap[db]? = some (.cells #[vl, vs] 89 (0, 0)) := (hg.block db hlt (fun e => hd e.symm)).trans h.blk
  refine ⟨⟨h.hb, by simpa using L.blk_set hb1 0 vl', V.own_stored ho hb1 (by decide), V.own_stored (own_grown h.s h.l (by decide) hg) hb1 (by decide)⟩, ⟨hg.os, hg.tape, hg.output, by simpa [World.setCell] using hg.size, fun k hk h1 h2 _ => ?_, ?_, .inl rfl⟩⟩
  · rw [L.blk_far h1]
    exact hg.block k hk (fun e => h2 e.symm)
  · rcases hn with e | e
    · exact .inl e
    · exact .inr ⟨H, e, hH⟩
theorem putS {w w1 : World} {base db H : Nat} {vl vs vs' : Value} {ls : List Ln} {ss l : List Int} (h : Dn w base db vl vs ls ss) (hg : w.grownBy w1 vs.ownBlock) (ho : w1.ownsRow base 52 1 vs' (ss ++ l).length (stepCells (ss ++ l)))
    (hn : vs'.ownBlock = vs.ownBlock ∨ vs'.ownBlock = some H) (hH : w.heap.size ≤ H) : Dn (w1.setCell ⟨db, 1, none⟩ vs') base db vl vs' ls (ss ++ l) ∧ FrA w (w1.setCell ⟨db, 1, none⟩ vs') db vl vs vl vs' := by
  have hlt := h.lt
  have hd : vs.ownBlock ≠ some db := own_type h.s h.blk (by decide)
  have hb1 : w1.heap[db]? = some (.cells #[vl, vs] 89 (0, 0)) := (hg.block db hlt (fun e => hd e.symm)).trans h.blk
  refine ⟨⟨h.hb, by simpa using L.blk_set hb1 1 vs', V.own_stored (own_grown h.l h.s (by decide) hg) hb1 (by decide), V.own_stored ho hb1 (by decide)⟩, ⟨hg.os, hg.tape, hg.output, by simpa [World.setCell] using hg.size, fun k hk h1 _ h3 => ?_, .inl rfl, ?_⟩⟩
  · rw [L.blk_far h1]
    exact hg.block k hk (fun e => h3 e.symm)
  · rcases hn with e | e
    · exact .inl e
    · exact .inr ⟨H, e, hH⟩
end Go.Proofs.Ytigghcmbdnidnaa.S

namespace Go.Proofs.Ytigghcmbdnidnaa.S
open Go.RowKit
open T
open V (grown_of IntsIn numCells numCells_snoc ints_own drawn_below)
open I (alloc1 own_at own_below)
open N (Ln)

set_option maxRecDepth 100000 in
set_option maxHeartbeats 4000000 in
theorem add_any (base db : Nat) (vl vs : Value) (ls : List Ln) (ss : List Int) (d : Int) (LA : Option Addr) (lc : Nat) (l : List Ln) (w : World) (hD : Dn w base db vl vs ls ss) (hL : LinesIn w LA l) (hfar : ∀ p, LA = some p → p.block ≠ db ∧ vl.ownBlock ≠ some p.block ∧ vs.ownBlock ≠ some p.block)
    (hls : ls.length + l.length ≤ 1000000) (hss : ss.length + l.length ≤ 1000000) (hbw : base ≤ w.heap.size) :
    Calls Try.prog 58 #[.pointer (some ⟨db, 0, none⟩), .int .i64 d, .slice LA l.length lc] w fun e w' =>
      e = .returned (.tuple #[]) ∧ ∃ vl' vs', Dn w' base db vl' vs' (ls ++ l) (ss ++ l.map fun _ => d) ∧ FrA w w' db vl vs vl' vs' := by
  obtain ⟨i0, hi0, hz0, hz1, hz2⟩ := info_parts infoLine
  obtain ⟨j0, hj0, hy0, hy1, hy2⟩ := info_parts infoStp
  have HD := Lib.hid hD
  have HL := Lib.hid hL
  have HFA := Lib.hid hfar
  clear hD hL hfar
  go_enter Try.func58, Try.ntmps58
  go_wp2_with fail
  go_loopg [10] l.length (fun m iv wr => ∃ (k : Nat) (vl' vs' : Value), k ≤ l.length ∧ iv = .int .i64 k ∧ l.length - k ≤ m ∧ Hid (Dn wr base db vl' vs' (ls ++ l.take k) (ss ++ (l.take k).map fun _ => d)) ∧ Hid (FrA w wr db vl vs vl' vs'))
  case atStart => exact ⟨0, vl, vs, Nat.zero_le _, rfl, by omega, Lib.hid (by simpa using HD.out), Lib.hid (FrA.refl _ _ _ _)⟩
  case round =>
    obtain ⟨k, vl', vs', hk, rfl, hmm, HN, HF⟩ := hrel
    by_cases hlt : k < l.length
    · obtain ⟨bk, off, hAe, hbk, hI⟩ := HL.out (by omega)
      subst hAe
      obtain ⟨g0, g1⟩ := hI k hlt
      obtain ⟨f0, f1, f2⟩ := HFA.out _ rfl
      have c0 := (HF.out.cell (o := off + k * 2) hbk f0 f1 f2).trans g0
      have c1 := (HF.out.cell (o := off + k * 2 + 1) hbk f0 f1 f2).trans g1
      have HT := Lib.hid (List.take_succ_eq_append_getElem hlt)
      generalize l[k] = x at *
      obtain ⟨tx, bb⟩ := x
      obtain ⟨s, hs⟩ : ∃ s : ByteArray, s = ⟨tx.toArray⟩ := ⟨_, rfl⟩
      simp only at c0 c1
      rw [← hs] at c0
      have HS := Lib.hid hs
      have h0k : (0 : Int) ≤ (k : Int) := by omega
      have hki : (k : Int) < (l.length : Int) := by omega
      obtain ⟨W, hW⟩ : ∃ W : World, W = wr.alloc (.cells #[.string s, .bool bb] 59) := ⟨_, rfl⟩
      have hb1 : Below wr.heap.size wr W := by rw [hW]; exact alloc1 _ _
      have HX := Lib.hid (show W.heap[wr.heap.size]? = some (.cells #[.string s, .bool bb] 59 (0, 0)) by rw [hW]; exact heap_alloc_new wr _)
      have HN1 := Lib.hid (HN.out.below hb1)
      have HF1 := Lib.hid (HF.out.trans (FrA.of_below hb1 db vl' vs'))
      have htk : (l.take k).length = k := by rw [List.length_take]; omega
      obtain ⟨l1, hl1⟩ : ∃ q, q = ls ++ l.take k := ⟨_, rfl⟩
      obtain ⟨s1, hs1⟩ : ∃ q, q = ss ++ (l.take k).map fun _ => d := ⟨_, rfl⟩
      rw [← hl1, ← hs1] at HN1
      have hn1 : l1.length + 1 ≤ 1000000 := by rw [hl1, List.length_append, htk]; omega
      have hn2 : s1.length + 1 ≤ 1000000 := by rw [hs1, List.length_append, List.length_map, htk]; omega
      have HLS := Lib.hid (And.intro hl1 hs1)
      have hbw1 : base ≤ W.heap.size := Nat.le_trans hbw HF1.out.size
      clear hI g0 g1 f0 f1 f2 hs HN HF hb1 htk hl1 hs1
      go_upto_region 3 with fail
      rw [← hW]
      obtain ⟨xb, hxb⟩ : ∃ xb, xb = wr.heap.size := ⟨_, rfl⟩
      rw [← hxb] at HX ⊢
      clear hW hxb
      obtain ⟨vA, vcap, rfl, -, -⟩ := own_form HN1.out.l
      obtain ⟨n, hn⟩ : ∃ n, n = l1.length := ⟨_, rfl⟩
      have HNN := Lib.hid hn
      rw [← hn] at HN1 HF1 hn1
      clear hn
      go_cut [] (fun wx => ∃ vl2, Hid (Dn wx base db vl2 vs' (l1 ++ [(tx, bb)]) s1) ∧ Hid (FrA w wx db vl vs vl2 vs'))
      case first =>
        have hcf : W.cell? ⟨db, 0, none⟩ = some (.slice vA n vcap) := L.blk_cell HN1.out.blk 0
        have hzf : W.frozen? ⟨db, 0, none⟩ = false := L.blk_free HN1.out.blk 0
        have x0 : W.cell? ⟨xb, 0, none⟩ = some (.string s) := L.blk_cell HX.out 0
        have x1 : W.cell? ⟨xb, 1, none⟩ = some (.bool bb) := L.blk_cell HX.out 1
        have HOA : Hid ((W.alloc (.cells #[.string s, .bool bb] 59)).drew.ownsRow base 59 2 (.slice vA n vcap) n (lineCells l1)) := Lib.hid (by
          have h0 := HN1.out.l
          rw [← HNN.out] at h0
          exact World.ownsRow.alloc h0 _)
        have HNW := Lib.hid (World.news_of_block (w := (W.alloc (.cells #[.string s, .bool bb] 59)).drew) (heap_alloc_new W _))
        have H1C : Hid (∀ u ∈ ([.string s, .bool bb] : List Value), u.oneCell' = true) := Lib.hid (by intro u hu; simp at hu; rcases hu with rfl | rfl <;> rfl)
        have HRT : Hid (some db ≠ (Value.slice vA n vcap).ownBlock) := Lib.hid fun e => own_type HN1.out.l HN1.out.blk (by decide) e.symm
        have hrl : db < W.heap.size := HN1.out.lt
        go_region_law ((refine step_append_lies _ (by rfl) (.tmp 18) (.tmp 20) 23 (by rfl) base 59 i0 _ 2 24 Try.underlying23 hi0 hz0 hz1 hz2 rfl (by decide) (.slice vA n vcap) n (lineCells l1) (by rfl) HOA.out ⟨W.heap.size, 0, none⟩ 1 1 [.string s, .bool bb] (by rfl) rfl HNW.out H1C.out (by omega) (by unfold maxLen; omega) (by omega) (by simp; omega) _ rfl ?_; intro g3 cap3 w4 hown3 hgrow3 hat3 hlt3; have hc3 := hgrow3.cell_far ⟨db, 0, none⟩ (by simp; omega) HRT.out; have hz3 := hgrow3.frozen_far ⟨db, 0, none⟩ (by simp; omega) HRT.out))
        all_goals
          have hg4 : W.grownBy w4 (Value.slice vA n vcap).ownBlock := (grown_of ((alloc1 W _).drew) _).trans hgrow3
          have ho4 : w4.ownsRow base 59 2 (.slice (some ⟨g3, 0, none⟩) (n + 1) cap3) (l1 ++ [(tx, bb)]).length (lineCells (l1 ++ [(tx, bb)])) := by
            rw [lineCells_snoc, ← HS.out, List.length_append, ← HNN.out]
            exact hown3
          have HPL := Lib.hid (putL (H := (W.alloc (.cells #[.string s, .bool bb] 59)).drew.heap.size) HN1.out hg4 ho4 (by
            rcases hat3 with h | h
            · exact .inl h.symm
            · exact .inr (by rw [h]; rfl)) (by simp))
          clear ho4 hown3 hgrow3 hat3 hg4
          go_wp2_with fail
          go_meet
          case rel => exact ⟨_, Lib.hid HPL.out.1, Lib.hid (HF1.out.trans HPL.out.2)⟩
      case rest =>
      obtain ⟨vl2, HN2, HF2⟩ := hcut
      clear HN1 HF1 HX HNN
      generalize wc = w5 at *
      obtain ⟨vB, scap, rfl, -, -⟩ := own_form HN2.out.s
      obtain ⟨q, hq⟩ : ∃ n, n = s1.length := ⟨_, rfl⟩
      have HQQ := Lib.hid hq
      rw [← hq] at HN2 HF2 hn2
      clear hq
      have hcg : w5.cell? ⟨db, 1, none⟩ = some (.slice vB q scap) := L.blk_cell HN2.out.blk 1
      have hzg : w5.frozen? ⟨db, 1, none⟩ = false := L.blk_free HN2.out.blk 1
      have hrl : db < w5.heap.size := HN2.out.lt
      have hbw5 : base ≤ w5.heap.size := Nat.le_trans hbw HF2.out.size
      have HRT : Hid (some db ≠ (Value.slice vB q scap).ownBlock) := Lib.hid fun e => own_type HN2.out.s HN2.out.blk (by decide) e.symm
      have HOB : Hid ((w5.alloc (.cells #[.int .i64 d] 52)).ownsRow base 52 1 (.slice vB q scap) q (stepCells s1)) := Lib.hid (by
        have h0 := HN2.out.s
        rw [← HQQ.out] at h0
        exact World.ownsRow.alloc h0 _)
      go_wp2_with (at_builtin; refine wpList_append_lies _ rfl (.tmp 28) (.tmp 30) 69 rfl base 52 j0 _ 1 8 Try.underlying69 hj0 hy0 hy1 hy2 rfl (by decide) _ q (stepCells s1) rfl HOB.out ⟨w5.heap.size, 0, none⟩ 1 1 [.int .i64 d] rfl rfl (World.news_of_block (heap_alloc_new w5 _)) (by intro u hu; simp at hu; subst hu; rfl) (by omega) (by unfold maxLen; omega) (by omega) (by simp; omega) _ rfl ?_; intro g5 cap5 w6 hown5 hgrow5 hat5 hlt5; have hc5 : w6.cell? ⟨db, 1, none⟩ = some (.slice vB q scap) := (hgrow5.cell_far ⟨db, 1, none⟩ (by simp; omega) HRT.out).trans (((alloc1 w5 _).cell (p := ⟨db, 1, none⟩) hrl).trans hcg); have hz5 : w6.frozen? ⟨db, 1, none⟩ = false := (hgrow5.frozen_far ⟨db, 1, none⟩ (by simp; omega) HRT.out).trans ((World.frozen?_alloc_past _ db 1 hrl).trans hzg); have HO5 := Lib.hid hown5; have HG5 := Lib.hid hgrow5; have HT5 := Lib.hid hat5; clear hown5 hgrow5 hat5)
      have hg6 : w5.grownBy w6 (Value.slice vB q scap).ownBlock := (grown_of (alloc1 w5 _) _).trans HG5.out
      have ho6 : w6.ownsRow base 52 1 (.slice (some ⟨g5, 0, none⟩) (q + 1) cap5) (s1 ++ [d]).length (stepCells (s1 ++ [d])) := by
        rw [show stepCells (s1 ++ [d]) = stepCells s1 ++ [.int .i64 d] from numCells_snoc s1 d, List.length_append, ← HQQ.out]
        exact HO5.out
      have HPS := Lib.hid (putS (H := (w5.alloc (.cells #[.int .i64 d] 52)).heap.size) HN2.out hg6 ho6 (by
        rcases HT5.out with h | h
        · exact .inl h.symm
        · exact .inr (by rw [h]; rfl)) (by simp))
      clear ho6 hg6 HO5 HG5 HT5
      go_wp2_with fail
      go_roundg (l.length - (k + 1))
      case rel => exact ⟨k + 1, _, _, by omega, by go_num, Nat.le_refl _, Lib.hid (by rw [HT.out, List.map_append, ← List.append_assoc, ← List.append_assoc, ← HLS.out.1, ← HLS.out.2]; exact HPS.out.1), Lib.hid (HF2.out.trans HPS.out.2)⟩
      case measure => omega
    · obtain rfl : k = l.length := by omega
      rw [List.take_length] at HN
      go_wp2_with fail
      go_end0
      exact ⟨rfl, vl', vs', HN.out, HF.out⟩
end Go.Proofs.Ytigghcmbdnidnaa.S

namespace Go.Proofs.Ytigghcmbdnidnaa.S
open Go.RowKit
open T
open V (grown_of IntsIn numCells numCells_snoc ints_own drawn_below)
open I (alloc1 own_at own_below)
open N (Ln)

/-- What is done to a line. -/
abbrev Sl := Int × Ln
def grp : List Sl → List Ed
  | [] => []
  | (s, l) :: r => match grp r with
    | [] => [(s, [l])]
    | (t, ls) :: q => if s = t then (s, l :: ls) :: q else (s, [l]) :: (t, ls) :: q
theorem grp_head (s : Int) (l : Ln) (r : List Sl) : ∃ ls q, grp ((s, l) :: r) = (s, l :: ls) :: q := by
  rw [grp]
  cases h : grp r with
  | nil => exact ⟨[], [], rfl⟩
  | cons e q =>
    obtain ⟨t, ls⟩ := e
    by_cases hs : s = t
    · exact ⟨ls, q, by simp [hs]⟩
    · exact ⟨[], (t, ls) :: q, by simp [hs]⟩
theorem grp_nil {r : List Sl} (h : grp r = []) : r = [] := by
  cases r with
  | nil => rfl
  | cons x r =>
    obtain ⟨s, l⟩ := x
    obtain ⟨ls, q, e⟩ := grp_head s l r
    rw [e] at h; cases h
theorem grp_run {s : Int} {rest : List Sl} (hrest : ∀ x r, rest = x :: r → x.1 ≠ s) : ∀ run : List Sl, run ≠ [] → (∀ x ∈ run, x.1 = s) → grp (run ++ rest) = (s, run.map (·.2)) :: grp rest
  | [], h, _ => absurd rfl h
  | (s', l) :: r, _, hs => by
    obtain rfl : s' = s := hs (s', l) (by simp)
    cases r with
    | nil =>
      rw [List.singleton_append, grp]
      cases hg : grp rest with
      | nil => rfl
      | cons e q =>
        obtain ⟨t, ls⟩ := e
        have hne : s' ≠ t := by
          cases hr : rest with
          | nil => rw [hr] at hg; cases hg
          | cons x r =>
            obtain ⟨u, m⟩ := x
            obtain ⟨ls', q', e'⟩ := grp_head u m r
            rw [hr, e'] at hg
            injection hg with h1 _
            injection h1 with h1 _
            have := hrest (u, m) r hr
            intro e2
            exact this (by simp only; omega)
        simp [hne]
    | cons x r =>
      rw [List.cons_append, grp, grp_run hrest (x :: r) (by simp) (fun y hy => hs y (by simp [hy]))]
      simp
theorem grp_cut {d : List Sl} {f k : Nat} (hfk : f ≤ k) (hk : k < d.length) (hs : ∀ j (hj : j < d.length), f ≤ j → j ≤ k → d[j].1 = d[k].1) (hn : ∀ h : k + 1 < d.length, d[k + 1].1 ≠ d[k].1) :
    grp (d.drop f) = (d[k].1, ((d.map (·.2)).take (k + 1)).drop f) :: grp (d.drop (k + 1)) := by
  have e : d.drop f = (d.take (k + 1)).drop f ++ d.drop (k + 1) := by
    conv => lhs; rw [← List.take_append_drop (k + 1) d]
    rw [List.drop_append_of_le_length (by rw [List.length_take]; omega)]
  rw [e, grp_run (s := d[k].1) (fun x r hx => ?_) _ (fun h0 => ?_) (fun x hx => ?_)]
  · rw [List.map_drop, List.map_take]
  · have hl : k + 1 < d.length := by
      have := congrArg List.length hx
      rw [List.length_drop, List.length_cons] at this; omega
    have : d[k + 1] = x := by
      rw [List.drop_eq_getElem_cons hl] at hx
      injection hx
    rw [← this]
    exact hn hl
  · have := congrArg List.length h0
    rw [List.length_drop, List.length_take, List.length_nil] at this
    omega
  · obtain ⟨j, hj, rfl⟩ := List.mem_iff_getElem.1 hx
    rw [List.length_drop, List.length_take] at hj
    rw [List.getElem_drop, List.getElem_take]
    exact hs _ (by omega) (by omega) (by omega)
/-- Stretches of a row of lines, each with what is done. -/
abbrev Rg := Int × Nat × Nat
def rgEd (ls : List Ln) (r : Rg) : Ed := (r.1, (ls.take r.2.2).drop r.2.1)
def rgCells (g : Nat) (rs : List Rg) : List Value := rs.flatMap fun r => [.int .i64 r.1, .slice (some ⟨g, r.2.1 * 2, none⟩) (r.2.2 - r.2.1) (r.2.2 - r.2.1)]
theorem rgCells_snoc (g : Nat) (rs : List Rg) (r : Rg) : rgCells g (rs ++ [r]) = rgCells g rs ++ [.int .i64 r.1, .slice (some ⟨g, r.2.1 * 2, none⟩) (r.2.2 - r.2.1) (r.2.2 - r.2.1)] := by simp [rgCells]
theorem rgCells_at (g : Nat) : ∀ (rs : List Rg) (j : Nat) (h : j < rs.length), (rgCells g rs)[j * 2]? = some (.int .i64 rs[j].1) ∧ (rgCells g rs)[j * 2 + 1]? = some (.slice (some ⟨g, rs[j].2.1 * 2, none⟩) (rs[j].2.2 - rs[j].2.1) (rs[j].2.2 - rs[j].2.1))
  | r :: rs, 0, _ => ⟨rfl, rfl⟩
  | r :: rs, j + 1, h => by
    have := rgCells_at g rs j (by simpa using h)
    have e : rgCells g (r :: rs) = [.int .i64 r.1, .slice (some ⟨g, r.2.1 * 2, none⟩) (r.2.2 - r.2.1) (r.2.2 - r.2.1)] ++ rgCells g rs := rfl
    rw [e]
    simp only [List.getElem_cons_succ]
    constructor
    · rw [List.getElem?_append_right (by simp; omega)]; simpa [show (j + 1) * 2 - 2 = j * 2 by omega] using this.1
    · rw [List.getElem?_append_right (by simp; omega)]; simpa [show (j + 1) * 2 + 1 - 2 = j * 2 + 1 by omega] using this.2
theorem infoEdit : (Try.prog.info? 54).map (fun i => (i.zero, i.size, i.bytes)) = some (some (.agg #[.int .i64 0, .slice none 0 0]), 2, 32) := by kernel_rfl
/-- A row of edits that the call owns, cut from one row of lines. -/
theorem eds_of_own {w : World} {base b g : Nat} {A : Option Addr} {cap : Nat} {rs : List Rg} {ls : List Ln} (h : w.ownsRow base 54 2 (.slice A rs.length cap) rs.length (rgCells g rs)) (hb : b ≤ base) (hg : b ≤ g) (hgw : g < w.heap.size) (hl : LinesAt w g 0 ls) (hr : ∀ r ∈ rs, r.2.1 < r.2.2 ∧ r.2.2 ≤ ls.length) : EdsIn b w A (rs.map (rgEd ls)) := fun hp => by
  rw [List.length_map] at hp
  obtain ⟨k, rfl, h1, h2, h3⟩ := own_at h hp
  refine ⟨k, 0, rfl, by omega, h2, fun j hj => ?_⟩
  rw [List.length_map] at hj
  obtain ⟨c0, c1⟩ := rgCells_at g rs j hj
  have hrj := hr rs[j] (List.getElem_mem hj)
  obtain ⟨r, hrr⟩ : ∃ r, rs[j] = r := ⟨_, rfl⟩
  obtain ⟨d, a, c⟩ := r
  have hlen : ((ls.take c).drop a).length = c - a := by
    rw [hrr] at hrj
    rw [List.length_drop, List.length_take]; simp only at hrj; omega
  rw [hrr] at c0 c1 hrj
  simp only at c0 c1 hrj
  rw [List.getElem_map, hrr]
  have hmi : ∀ i (hi : i < ((ls.take c).drop a).length), ls[a + i]? = some ((ls.take c).drop a)[i] := fun i hi => by
    rw [List.getElem?_eq_getElem (by omega)]
    simp only [List.getElem_drop, List.getElem_take]
  show EdAt b w k (0 + j * 2) (d, (ls.take c).drop a)
  generalize (ls.take c).drop a = m at *
  have hLI : LinesIn w (some ⟨g, a * 2, none⟩) m := fun _ => ⟨g, a * 2, rfl, hgw, fun i hi => by
    have hai : a + i < ls.length := by omega
    have e := hmi i hi
    rw [List.getElem?_eq_getElem hai] at e
    rw [← Option.some.inj e]
    have := hl (a + i) hai
    rw [show a * 2 + i * 2 = 0 + (a + i) * 2 by omega]
    exact this⟩
  rw [Nat.zero_add]
  refine ⟨some ⟨g, a * 2, none⟩, c - a, h3 _ _ c0, ?_, hLI, ?_, (fun e => by cases e), (fun p hp => ?_)⟩
  · simp only [hlen]; exact h3 _ _ c1
  · simp only [hlen]; exact Nat.le_refl _
  · have hp' := Option.some.inj hp
    rw [← hp']; exact hg
end Go.Proofs.Ytigghcmbdnidnaa.S

namespace Go.Proofs.Ytigghcmbdnidnaa.S
open Go.RowKit
open T
open V (grown_of IntsIn numCells numCells_snoc ints_own drawn_below)
open I (alloc1 own_at own_below)
open N (Ln)

/-- What the loop holds at place k: the stretches that are told, up to f. -/
structure GrI (d : List Sl) (k f : Nat) (rs : List Rg) : Prop where
  le : f ≤ k
  eq : grp d = rs.map (rgEd (d.map (·.2))) ++ grp (d.drop f)
  run : ∀ (hk : k < d.length) j (hj : j < d.length), f ≤ j → j ≤ k → d[j].1 = d[k].1
  fin : k = d.length → f = k
  fit : ∀ r ∈ rs, r.2.1 < r.2.2 ∧ r.2.2 ≤ (d.map (·.2)).length
  few : rs.length ≤ f
theorem GrI.start (d : List Sl) : GrI d 0 0 [] := ⟨Nat.le_refl _, by simp, fun hk j hj h1 h2 => by obtain rfl : j = 0 := (by omega); rfl, fun h => rfl, fun r hr => by simp at hr, Nat.le_refl _⟩
theorem GrI.same {d : List Sl} {k f : Nat} {rs : List Rg} (h : GrI d k f rs) (hk : k + 1 < d.length) (e : d[k + 1].1 = d[k].1) : GrI d (k + 1) f rs :=
  ⟨Nat.le_succ_of_le h.le, h.eq, fun _ j hj h1 h2 => by
    by_cases q : j = k + 1
    · subst q; rfl
    · rw [h.run (by omega) j hj h1 (by omega), e], fun q => by omega, h.fit, h.few⟩
theorem GrI.cut {d : List Sl} {k f : Nat} {rs : List Rg} (h : GrI d k f rs) (hk : k < d.length) (hn : ∀ q : k + 1 < d.length, d[k + 1].1 ≠ d[k].1) : GrI d (k + 1) (k + 1) (rs ++ [(d[k].1, f, k + 1)]) := by
  have hc := grp_cut h.le hk (h.run hk) hn
  refine ⟨Nat.le_refl _, ?_, fun q j hj h1 h2 => by obtain rfl : j = k + 1 := (by omega); rfl, fun q => rfl, fun r hr => ?_, by have := h.few; have := h.le; rw [List.length_append, List.length_singleton]; omega⟩
  · rw [h.eq, hc, List.map_append, List.append_assoc]
    rfl
  · rcases List.mem_append.1 hr with hr | hr
    · exact h.fit r hr
    · have := h.le
      rw [List.mem_singleton] at hr
      subst hr
      simp only [List.length_map]
      omega
theorem GrI.done {d : List Sl} {f : Nat} {rs : List Rg} (h : GrI d d.length f rs) : rs.map (rgEd (d.map (·.2))) = grp d := by
  have e := h.fin rfl
  subst e
  rw [h.eq, List.drop_length]
  simp [grp]
def EsEnd (b : Nat) (w : World) (es : List Ed) (e : Ending) (w' : World) : Prop := ∃ A cap, e = .returned (.slice A es.length cap) ∧ (EdsIn b w' A es ∧ es.length ≤ cap) ∧ Below w.heap.size w w'

set_option maxRecDepth 100000 in
set_option maxHeartbeats 4000000 in
theorem edits_any (base db : Nat) (vl vs : Value) (d : List Sl) (w : World) (hD : Dn w base db vl vs (d.map (·.2)) (d.map (·.1))) (hd : d.length ≤ 1000000) (hbw : base ≤ w.heap.size) :
    Calls Try.prog 59 #[.pointer (some ⟨db, 0, none⟩)] w (EsEnd base w (grp d)) := by
  obtain ⟨i0, hi0, hz0, hz1, hz2⟩ := info_parts infoEdit
  obtain ⟨vA, vcap, hvl, hvc, hvA⟩ := own_form hD.l
  obtain ⟨vB, scap, hvs, hsc, hvB⟩ := own_form hD.s
  subst hvl hvs
  simp only [List.length_map] at hvc hvA hsc hvB hD
  have HD := Lib.hid hD
  have HVA := Lib.hid hvA
  have HVB := Lib.hid hvB
  have hdb := hD.lt
  have y1 := L.blk_cell hD.blk 1
  simp only [List.getElem?_toArray, List.getElem?_cons_zero, List.getElem?_cons_succ] at y1
  clear hD hvA hvB
  go_enter Try.func59, Try.ntmps59
  go_wp2_with fail
  go_loopg [3, 4, 12] d.length (fun m sv fv iv wr => ∃ (k f : Nat) (rs : List Rg), k ≤ d.length ∧ iv = .int .i64 k ∧ fv = .int .i64 f ∧ d.length - k ≤ m ∧ Hid (∀ gl : Nat, vA = some ⟨gl, 0, none⟩ → wr.ownsRow w.heap.size 54 2 sv rs.length (rgCells gl rs)) ∧ (∃ A cap, sv = .slice A rs.length cap) ∧ Hid (GrI d k f rs) ∧ Hid (Below w.heap.size w wr))
  case atStart => exact ⟨0, 0, [], Nat.zero_le _, rfl, rfl, by omega, Lib.hid (fun gl _ => World.ownsRow_nil _ _ _ _), ⟨none, 0, rfl⟩, Lib.hid (GrI.start d), Lib.hid (Below.refl _ _)⟩
  case round =>
    obtain ⟨k, f, rs, hk, rfl, rfl, hmm, HO, ⟨RA, rcap, rfl⟩, HG, HB⟩ := hrel
    by_cases hlt : k < d.length
    · obtain ⟨gl, hgl, -, hglw, -⟩ := HVA.out (by omega)
      obtain ⟨gs, hgs, -, hgsw, hst⟩ := HVB.out (by omega)
      subst hgl hgs
      have hcs : ∀ j (hj : j < d.length), wr.cell? ⟨gs, j, none⟩ = some (.int .i64 d[j].1) := fun j hj => (HB.out.cell (p := ⟨gs, j, none⟩) hgsw).trans (hst j _ (by simp [stepCells, numCells, List.getElem?_eq_getElem hj]))
      have c0 := (HB.out.cell (p := ⟨db, 0, none⟩) hdb).trans (L.blk_cell HD.out.blk 0)
      have c1 := (HB.out.cell (p := ⟨db, 1, none⟩) hdb).trans (L.blk_cell HD.out.blk 1)
      simp only [List.getElem?_toArray, List.getElem?_cons_zero, List.getElem?_cons_succ] at c0 c1
      have ck := hcs k hlt
      have HOW := Lib.hid (HO.out gl rfl)
      have hfk := HG.out.le
      have hfw := HG.out.few
      have h0k : (0 : Int) ≤ (k : Int) := by omega
      have hki : (k : Int) < (d.length : Int) := by omega
      have hwr : IntKind.i64.wrap ((k : Int) + 1) = (k : Int) + 1 := by rw [IntKind.wrap_i64]; omega
      go_upto_region 7 with fail
      by_cases hn : k + 1 < d.length
      · have ck1 := hcs (k + 1) hn
        have hn1 : (k : Int) + 1 < (d.length : Int) := by omega
        have h01 : (0 : Int) ≤ (k : Int) + 1 := by omega
        clear hcs hst
        by_cases he : d[k + 1].1 = d[k].1
        · have HSM := Lib.hid (HG.out.same hn he)
          rw [he] at ck1
          clear he
          generalize d[k].1 = t0 at ck ck1
          go_quiet (fail)
          go_wp2_with fail
          go_roundg (d.length - (k + 1))
          case rel => exact ⟨k + 1, f, rs, by omega, by go_num, rfl, Nat.le_refl _, Lib.hid (fun gl' e => by have e' := Option.some.inj e; injection e' with e'; subst e'; exact own_below HOW.out (drawn_below wr _)), ⟨_, _, rfl⟩, HSM, Lib.hid (HB.out.trans ((drawn_below wr _).mono HB.out.size))⟩
          case measure => omega
        · have HC := Lib.hid (HG.out.cut hlt (fun _ => he))
          have hne : (d[k + 1].1 == d[k].1) = false := beq_eq_false_iff_ne.2 he
          generalize d[k + 1].1 = t1 at ck1 hne
          generalize d[k].1 = t0 at ck hne HC
          clear he
          go_quiet (fail)
          have hs1 : (f : Int) ≤ (k : Int) + 1 := by omega
          have hs2 : (k : Int) + 1 ≤ (vcap : Int) := by omega
          have hs3 : (0 : Int) ≤ (f : Int) := by omega
          have hs4 : ¬ k + 1 = f := by omega
          obtain ⟨W, hW⟩ : ∃ W, W = wr.drewN nq := ⟨_, rfl⟩
          have e0 : W.cell? ⟨db, 0, none⟩ = some (.slice (some ⟨gl, 0, none⟩) d.length vcap) := by rw [hW]; exact c0
          have e1 : W.cell? ⟨db, 1, none⟩ = some (.slice (some ⟨gs, 0, none⟩) d.length scap) := by rw [hW]; exact c1
          have ek : W.cell? ⟨gs, k, none⟩ = some (.int .i64 t0) := by rw [hW]; exact ck
          go_upto_region 8 with fail
          rw [← hW]
          have HOW1 : Hid (W.ownsRow w.heap.size 54 2 (.slice RA rs.length rcap) rs.length (rgCells gl rs)) := Lib.hid (by rw [hW]; exact own_below HOW.out (drawn_below wr _))
          have HBW : Hid (Below w.heap.size w W) := Lib.hid (by rw [hW]; exact HB.out.trans ((drawn_below wr _).mono HB.out.size))
          have hsw : w.heap.size ≤ W.heap.size := HBW.out.size
          clear hW c0 c1 ck ck1
          have HOA : Hid ((W.alloc (.cells #[.int .i64 t0, .slice (some ⟨gl, f * 2, none⟩) (k + 1 - f) (k + 1 - f)] 54)).drew.ownsRow w.heap.size 54 2 (.slice RA rs.length rcap) rs.length (rgCells gl rs)) := Lib.hid (World.ownsRow.alloc HOW1.out _)
          have HNW := Lib.hid (World.news_of_block (w := (W.alloc (.cells #[.int .i64 t0, .slice (some ⟨gl, f * 2, none⟩) (k + 1 - f) (k + 1 - f)] 54)).drew) (heap_alloc_new W _))
          have H1C : Hid (∀ u ∈ ([.int .i64 t0, .slice (some ⟨gl, f * 2, none⟩) (k + 1 - f) (k + 1 - f)] : List Value), u.oneCell' = true) := Lib.hid (by intro u hu; simp at hu; rcases hu with rfl | rfl <;> rfl)
          go_region_law ((refine step_append_lies _ (by rfl) (.tmp 41) (.tmp 58) 40 (by rfl) w.heap.size 54 i0 _ 2 32 Try.underlying40 hi0 hz0 hz1 hz2 rfl (by decide) (.slice RA rs.length rcap) rs.length (rgCells gl rs) (by rfl) HOA.out ⟨W.heap.size, 0, none⟩ 1 1 [.int .i64 t0, .slice (some ⟨gl, f * 2, none⟩) (k + 1 - f) (k + 1 - f)] (by rfl) rfl HNW.out H1C.out (by omega) (by unfold maxLen; omega) (by omega) (by simp; omega) _ rfl ?_; intro g3 cap3 w4 hown3 hgrow3 hat3 hlt3))
          all_goals
            have HO3 : Hid (w4.ownsRow w.heap.size 54 2 (.slice (some ⟨g3, 0, none⟩) (rs.length + 1) cap3) (rs ++ [(t0, f, k + 1)]).length (rgCells gl (rs ++ [(t0, f, k + 1)]))) := Lib.hid (by rw [rgCells_snoc, List.length_append]; exact hown3)
            have HB3 : Hid (Below w.heap.size w w4) := Lib.hid (((HBW.out.alloc hsw _).drew).grown hgrow3 (by simp; omega) (fun q eq => own_base HOW1.out q eq))
            clear hown3 hgrow3 hat3 hlt3
            go_wp2_with fail
            go_roundg (d.length - (k + 1))
            case rel => exact ⟨k + 1, k + 1, rs ++ [(t0, f, k + 1)], by omega, by go_num, by go_num, Nat.le_refl _, Lib.hid (fun gl' e => by have e' := Option.some.inj e; injection e' with e'; subst e'; exact HO3.out), ⟨some ⟨g3, 0, none⟩, cap3, by rw [List.length_append]; rfl⟩, HC, HB3⟩
            case measure => omega
      · have hke : k + 1 = d.length := by omega
        have hn0 : ¬ (k : Int) + 1 < (d.length : Int) := by omega
        have hdn : decide ((k : Int) + 1 < (d.length : Int)) = false := decide_eq_false hn0
        have HC := Lib.hid (HG.out.cut hlt (fun q => absurd q hn))
        generalize d[k].1 = t0 at ck HC
        have hn2 : k + 1 ≤ d.length := by omega
        clear hcs hst hke hn
        go_quiet (fail)
        clear hdn hn0
        have hs1 : (f : Int) ≤ (k : Int) + 1 := by omega
        have hs2 : (k : Int) + 1 ≤ (vcap : Int) := by omega
        have hs3 : (0 : Int) ≤ (f : Int) := by omega
        have hs4 : ¬ k + 1 = f := by omega
        obtain ⟨W, hW⟩ : ∃ W, W = wr.drewN nq := ⟨_, rfl⟩
        have e0 : W.cell? ⟨db, 0, none⟩ = some (.slice (some ⟨gl, 0, none⟩) d.length vcap) := by rw [hW]; exact c0
        have e1 : W.cell? ⟨db, 1, none⟩ = some (.slice (some ⟨gs, 0, none⟩) d.length scap) := by rw [hW]; exact c1
        have ek : W.cell? ⟨gs, k, none⟩ = some (.int .i64 t0) := by rw [hW]; exact ck
        go_upto_region 8 with fail
        rw [← hW]
        have HOW1 : Hid (W.ownsRow w.heap.size 54 2 (.slice RA rs.length rcap) rs.length (rgCells gl rs)) := Lib.hid (by rw [hW]; exact own_below HOW.out (drawn_below wr _))
        have HBW : Hid (Below w.heap.size w W) := Lib.hid (by rw [hW]; exact HB.out.trans ((drawn_below wr _).mono HB.out.size))
        have hsw : w.heap.size ≤ W.heap.size := HBW.out.size
        clear hW c0 c1 ck
        have HOA : Hid ((W.alloc (.cells #[.int .i64 t0, .slice (some ⟨gl, f * 2, none⟩) (k + 1 - f) (k + 1 - f)] 54)).drew.ownsRow w.heap.size 54 2 (.slice RA rs.length rcap) rs.length (rgCells gl rs)) := Lib.hid (World.ownsRow.alloc HOW1.out _)
        have HNW := Lib.hid (World.news_of_block (w := (W.alloc (.cells #[.int .i64 t0, .slice (some ⟨gl, f * 2, none⟩) (k + 1 - f) (k + 1 - f)] 54)).drew) (heap_alloc_new W _))
        have H1C : Hid (∀ u ∈ ([.int .i64 t0, .slice (some ⟨gl, f * 2, none⟩) (k + 1 - f) (k + 1 - f)] : List Value), u.oneCell' = true) := Lib.hid (by intro u hu; simp at hu; rcases hu with rfl | rfl <;> rfl)
        go_region_law ((refine step_append_lies _ (by rfl) (.tmp 41) (.tmp 58) 40 (by rfl) w.heap.size 54 i0 _ 2 32 Try.underlying40 hi0 hz0 hz1 hz2 rfl (by decide) (.slice RA rs.length rcap) rs.length (rgCells gl rs) (by rfl) HOA.out ⟨W.heap.size, 0, none⟩ 1 1 [.int .i64 t0, .slice (some ⟨gl, f * 2, none⟩) (k + 1 - f) (k + 1 - f)] (by rfl) rfl HNW.out H1C.out (by omega) (by unfold maxLen; omega) (by omega) (by simp; omega) _ rfl ?_; intro g3 cap3 w4 hown3 hgrow3 hat3 hlt3))
        all_goals
          have HO3 : Hid (w4.ownsRow w.heap.size 54 2 (.slice (some ⟨g3, 0, none⟩) (rs.length + 1) cap3) (rs ++ [(t0, f, k + 1)]).length (rgCells gl (rs ++ [(t0, f, k + 1)]))) := Lib.hid (by rw [rgCells_snoc, List.length_append]; exact hown3)
          have HB3 : Hid (Below w.heap.size w w4) := Lib.hid (((HBW.out.alloc hsw _).drew).grown hgrow3 (by simp; omega) (fun q eq => own_base HOW1.out q eq))
          clear hown3 hgrow3 hat3 hlt3
          go_wp2_with fail
          go_roundg (d.length - (k + 1))
          case rel => exact ⟨k + 1, k + 1, rs ++ [(t0, f, k + 1)], by omega, by go_num, by go_num, Nat.le_refl _, Lib.hid (fun gl' e => by have e' := Option.some.inj e; injection e' with e'; subst e'; exact HO3.out), ⟨some ⟨g3, 0, none⟩, cap3, by rw [List.length_append]; rfl⟩, HC, HB3⟩
          case measure => omega
    · obtain rfl : k = d.length := by omega
      have hdn := HG.out.done
      have hf := HG.out.fin rfl
      subst hf
      have HRT : Hid (EdsIn base wr RA (grp d) ∧ rs.length = (grp d).length) := Lib.hid ⟨by
        by_cases hp : 0 < d.length
        · obtain ⟨gl, hgl, hgb, hglw, hlc⟩ := HVA.out hp
          rw [← hdn]
          refine eds_of_own (HO.out gl hgl) hbw hgb (Nat.lt_of_lt_of_le hglw HB.out.size) (fun j hj => ?_) HG.out.fit
          obtain ⟨q0, q1⟩ := lineCells_at _ j hj
          exact ⟨by rw [Nat.zero_add]; exact (HB.out.cell (p := ⟨gl, _, none⟩) hglw).trans (hlc _ _ q0), by rw [Nat.zero_add]; exact (HB.out.cell (p := ⟨gl, _, none⟩) hglw).trans (hlc _ _ q1)⟩
        · intro h0
          have := HG.out.few
          rw [← hdn, List.length_map] at h0
          omega, by rw [← hdn, List.length_map]⟩
      have HRC : Hid (rs.length ≤ rcap) := Lib.hid (by
        by_cases hp : 0 < d.length
        · obtain ⟨gl, hgl, -⟩ := HVA.out hp
          obtain ⟨A', cap', hv, hc', _⟩ := own_form (HO.out gl hgl)
          injection hv with _ _ hv
          omega
        · have := HG.out.few; omega)
      clear hdn
      go_wp2_with fail
      go_ret
      exact ⟨RA, rcap, by rw [HRT.out.2]; rfl, ⟨HRT.out.1, by have := HRC.out; have := HRT.out.2; omega⟩, HB.out⟩
end Go.Proofs.Ytigghcmbdnidnaa.S
