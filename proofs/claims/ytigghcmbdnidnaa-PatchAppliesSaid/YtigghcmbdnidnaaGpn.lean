/-
  withinLimits, follows, right and Check.
  Check, the code's and the reference's.
  Join, the code's and the reference's.
-/
import Derived.Test.YtigghcmbdnidnaaGpm
import Derived.Deep.RegionWith
namespace Go.Proofs.Ytigghcmbdnidnaa.H
set_option linter.unusedVariables false
set_option linter.unusedSimpArgs false
open Go.RowKit
open T S
open V (grown_of)
open I (alloc1 own_at own_below)
open N (Ln)

theorem hunk_at {b : Nat} {w wr : World} {A : Option Addr} {hs : List Hk} {k : Nat} (h : HksIn b w A hs) (hb : Below w.heap.size w wr) (hk : k < hs.length) :
    ∃ bk off EA ec, A = some ⟨bk, off, none⟩ ∧ wr.cell? ⟨bk, off + k * 5, none⟩ = some (.int .i64 hs[k].oa) ∧ wr.cell? ⟨bk, off + k * 5 + 1, none⟩ = some (.int .i64 hs[k].o) ∧ wr.cell? ⟨bk, off + k * 5 + 2, none⟩ = some (.int .i64 hs[k].na) ∧ wr.cell? ⟨bk, off + k * 5 + 3, none⟩ = some (.int .i64 hs[k].n) ∧ wr.cell? ⟨bk, off + k * 5 + 4, none⟩ = some (.slice EA hs[k].es.length ec) ∧ EdsIn b w EA hs[k].es ∧ hs[k].es.length ≤ ec ∧ (EA = none → ec = 0) := by
  obtain ⟨bk, off, hA, -, hbk, hI⟩ := h (by omega)
  obtain ⟨EA, ec, h0, h1, h2, h3, h4, h5, h6, h7⟩ := hI k hk
  exact ⟨bk, off, EA, ec, hA, (hb.cell (p := ⟨bk, _, none⟩) hbk).trans h0, (hb.cell (p := ⟨bk, _, none⟩) hbk).trans h1, (hb.cell (p := ⟨bk, _, none⟩) hbk).trans h2, (hb.cell (p := ⟨bk, _, none⟩) hbk).trans h3, (hb.cell (p := ⟨bk, _, none⟩) hbk).trans h4, h5, h6, h7⟩
/-- Are hunks within the limits? -/
def lim (hs : List Hk) : Bool := !decide (400 < hs.length ∨ hs.any (fun h => decide (ck h.es = 4)))
theorem lim_long {hs : List Hk} (h : 400 < hs.length) : lim hs = false := by unfold lim; simp [h]
theorem lim_at {hs : List Hk} {k : Nat} (hk : k < hs.length) (h : ck hs[k].es = 4) : lim hs = false := by
  unfold lim
  have : hs.any (fun h => decide (ck h.es = 4)) = true := List.any_eq_true.2 ⟨_, List.getElem_mem hk, decide_eq_true h⟩
  simp [this]
theorem lim_all {hs : List Hk} (h1 : ¬ 400 < hs.length) (h : ∀ j (hj : j < hs.length), ck hs[j].es ≠ 4) : lim hs = true := by
  unfold lim
  have : hs.any (fun h => decide (ck h.es = 4)) = false := by
    rw [List.any_eq_false]
    intro x hx
    obtain ⟨j, hj, rfl⟩ := List.mem_iff_getElem.1 hx
    simpa using h j hj
  simp [this, h1]
theorem hck_lim (hs : List Hk) : hck hs = if lim hs then (if chain 0 0 hs then 0 else 3) else 4 := by
  unfold hck lim
  by_cases h : 400 < hs.length ∨ hs.any (fun h => decide (ck h.es = 4))
  · rw [if_pos h, decide_eq_true h]; rfl
  · rw [if_neg h, decide_eq_false h]; rfl
set_option maxRecDepth 100000 in
set_option maxHeartbeats 4000000 in
theorem within_any (A : Option Addr) (c b : Nat) (hs : List Hk) (w : World) (hH : HksIn b w A hs) (hok : HksOk hs) :
    Calls Try.prog 44 #[.slice A hs.length c] w (BlEnd w (lim hs)) := by
  have HH := Lib.hid (hH.low (Nat.zero_le _))
  have hl := hok.len
  have HES := Lib.hid hok.es
  unfold maxLen at hl
  clear hH hok
  unfold BlEnd
  go_enter Try.func44, Try.ntmps44
  by_cases hlong : 400 < hs.length
  · have HR := Lib.hid (lim_long hlong)
    have h4 : (400 : Int) < (hs.length : Int) := by omega
    go_wp2_with fail
    go_ret
    exact ⟨by rw [HR.out]; rfl, Below.refl _ _⟩
  have h4 : ¬ (400 : Int) < (hs.length : Int) := by omega
  go_wp2_with fail
  go_loopg [10] hs.length (fun m iv wr => ∃ (k : Nat), k ≤ hs.length ∧ iv = .int .i64 k ∧ hs.length - k ≤ m ∧ Hid (∀ j (hj : j < hs.length), j < k → ck hs[j].es ≠ 4) ∧ Hid (Below w.heap.size w wr))
  case atStart => exact ⟨0, Nat.zero_le _, rfl, by omega, Lib.hid (fun j _ h => absurd h (Nat.not_lt_zero _)), Lib.hid (Below.refl _ _)⟩
  case round =>
    obtain ⟨k, hk, rfl, hmm, HOK, HB⟩ := hrel
    by_cases hlt : k < hs.length
    · obtain ⟨bk, off, EA, ec, hAe, c0, c1, c2, c3, c4, hE, -, -⟩ := hunk_at HH.out HB.out hlt
      subst hAe
      have HFM := Lib.hid (fun h => lim_at hlt h)
      have HNX : Hid (ck hs[k].es ≠ 4 → ∀ j (hj : j < hs.length), j < k + 1 → ck hs[j].es ≠ 4) := Lib.hid (fun h j hj hjk => by
        by_cases e : j = k
        · subst e; exact h
        · exact HOK.out j hj (by omega))
      have hes := HES.out _ (List.getElem_mem hlt)
      have HE := Lib.hid hE
      generalize hs[k] = h at *
      obtain ⟨oa, o, na, nn, es⟩ := h
      simp only at c0 c1 c2 c3 c4 hes HFM HNX HE
      obtain ⟨W1, hW1⟩ : ∃ W : World, W = wr.alloc (.cells #[.int .i64 oa, .int .i64 o, .int .i64 na, .int .i64 nn, .slice EA es.length ec] 65) := ⟨_, rfl⟩
      have hX := heap_alloc_new wr (.cells #[.int .i64 oa, .int .i64 o, .int .i64 na, .int .i64 nn, .slice EA es.length ec] 65)
      rw [← hW1] at hX
      have x4 := L.blk_cell hX 4
      simp only [List.getElem?_toArray, List.getElem?_cons_zero, List.getElem?_cons_succ] at x4
      have HB1 := Lib.hid (HB.out.trans ((show Below wr.heap.size wr W1 by rw [hW1]; exact alloc1 _ _).mono HB.out.size))
      have HC := Lib.hid (check_any EA ec 0 es W1 (HE.out.below HB1.out) hes)
      have h0k : (0 : Int) ≤ (k : Int) := by omega
      have hki : (k : Int) < (hs.length : Int) := by omega
      clear hX hE hes HE
      by_cases hq : ck es = 4
      · have HR := Lib.hid (HFM.out hq)
        rw [hq] at HC
        clear hq HFM HNX
        go_upto_region 6 with fail
        rw [← hW1]
        obtain ⟨xb, hxb⟩ : ∃ xb, xb = wr.heap.size := ⟨_, rfl⟩
        rw [← hxb] at x4 ⊢
        clear hW1 hxb
        go_wp2_with fail
        with_reducible refine (HC.out).mono ?_
        rintro e w2 ⟨rfl, hb2⟩
        have HB2 := Lib.hid (HB1.out.trans (hb2.mono HB1.out.size))
        clear hb2
        go_wp2_with fail
        go_ret
        exact ⟨by rw [HR.out]; rfl, HB2.out⟩
      · have HR := Lib.hid (HNX.out hq)
        have hq4 : (ck es == 4) = false := beq_eq_false_iff_ne.2 hq
        generalize ck es = q at *
        clear hq HFM HNX
        go_upto_region 6 with fail
        rw [← hW1]
        obtain ⟨xb, hxb⟩ : ∃ xb, xb = wr.heap.size := ⟨_, rfl⟩
        rw [← hxb] at x4 ⊢
        clear hW1 hxb
        go_wp2_with fail
        with_reducible refine (HC.out).mono ?_
        rintro e w2 ⟨rfl, hb2⟩
        have HB2 := Lib.hid (HB1.out.trans (hb2.mono HB1.out.size))
        clear hb2
        go_wp2_with fail
        go_roundg (hs.length - (k + 1))
        case rel => exact ⟨k + 1, by omega, by go_num, Nat.le_refl _, HR, HB2⟩
        case measure => omega
    · obtain rfl : k = hs.length := by omega
      have HR := Lib.hid (lim_all hlong (fun j hj => HOK.out j hj hj))
      go_wp2_with fail
      go_ret
      exact ⟨by rw [HR.out]; rfl, HB.out⟩
abbrev hkV (oa o na n : Int) (EA : Option Addr) (k ec : Nat) : Value := .agg #[.int .i64 oa, .int .i64 o, .int .i64 na, .int .i64 n, .slice EA k ec]
/-- Is it a number from 0 to MaxLines? -/
def ok4 (x : Int) : Prop := 0 ≤ x ∧ x ≤ 400
set_option maxRecDepth 100000 in
set_option maxHeartbeats 4000000 in
theorem follows_any (p0 p1 p2 p3 oa o na nn : Int) (PA EA : Option Addr) (pk pc ek ec : Nat) (es : List Ed) (w : World) (h1 : ok4 p0) (h2 : ok4 p1) (h3 : ok4 p2) (h4 : ok4 p3) (h5 : ok4 oa) (h6 : ok4 na) :
    Calls Try.prog 46 #[hkV p0 p1 p2 p3 PA pk pc, hkV oa o na nn EA ek ec] w (BlEnd w (flw (p0 + p1) (p2 + p3) ⟨oa, o, na, nn, es⟩)) := by
  unfold ok4 at h1 h2 h3 h4 h5 h6
  obtain ⟨W, hW, x0, x1, hb⟩ := two w (.cells #[.int .i64 p0, .int .i64 p1, .int .i64 p2, .int .i64 p3, .slice PA pk pc] 65) (.cells #[.int .i64 oa, .int .i64 o, .int .i64 na, .int .i64 nn, .slice EA ek ec] 65)
  have a0 := L.blk_cell x0 0
  have a1 := L.blk_cell x0 1
  have a2 := L.blk_cell x0 2
  have a3 := L.blk_cell x0 3
  have b0 := L.blk_cell x1 0
  have b2 := L.blk_cell x1 2
  simp only [List.getElem?_toArray, List.getElem?_cons_zero, List.getElem?_cons_succ] at a0 a1 a2 a3 b0 b2
  have w1 : IntKind.i64.wrap (p0 + p1) = p0 + p1 := by rw [IntKind.wrap_i64]; omega
  have w2 : IntKind.i64.wrap (p2 + p3) = p2 + p3 := by rw [IntKind.wrap_i64]; omega
  have w3 : IntKind.i64.wrap (oa - (p0 + p1)) = oa - (p0 + p1) := by rw [IntKind.wrap_i64]; omega
  have w4 : IntKind.i64.wrap (na - (p2 + p3)) = na - (p2 + p3) := by rw [IntKind.wrap_i64]; omega
  have HB := Lib.hid hb
  clear x0 x1 hb
  unfold BlEnd hkV
  by_cases hg : 0 ≤ oa - (p0 + p1)
  · have HE : Hid ((oa - (p0 + p1) == na - (p2 + p3)) = flw (p0 + p1) (p2 + p3) ⟨oa, o, na, nn, es⟩) := Lib.hid (by
      unfold flw
      rw [Bool.eq_iff_iff]
      simp
      omega)
    have hgd : decide (0 ≤ oa - (p0 + p1)) = true := decide_eq_true hg
    clear h1 h2 h3 h4 h5 h6
    go_enter Try.func46, Try.ntmps46
    go_upto_region 1 with fail
    rw [← hW]
    clear hW
    go_wp2_with fail
    go_ret
    exact ⟨by rw [← HE.out]; rfl, HB.out⟩
  · have HE : Hid (flw (p0 + p1) (p2 + p3) ⟨oa, o, na, nn, es⟩ = false) := Lib.hid (decide_eq_false (by simp only; omega))
    have hgd : decide (0 ≤ oa - (p0 + p1)) = false := decide_eq_false hg
    clear h1 h2 h3 h4 h5 h6
    go_enter Try.func46, Try.ntmps46
    go_upto_region 1 with fail
    rw [← hW]
    clear hW
    go_wp2_with fail
    go_ret
    exact ⟨by rw [HE.out]; rfl, HB.out⟩
theorem rgt_num {h : Hk} (q : ¬ (ok4 h.oa ∧ ok4 h.o ∧ ok4 h.na ∧ ok4 h.n)) : rgt h = false := by
  unfold rgt
  rw [decide_eq_false]
  · rfl
  · unfold ok4 at q
    intro e
    exact q ⟨⟨e.1, e.2.1⟩, ⟨e.2.2.1, e.2.2.2.1⟩, ⟨e.2.2.2.2.1, e.2.2.2.2.2.1⟩, ⟨e.2.2.2.2.2.2.1, e.2.2.2.2.2.2.2⟩⟩
theorem rgt_ok {h : Hk} (q : ok4 h.oa ∧ ok4 h.o ∧ ok4 h.na ∧ ok4 h.n) : rgt h = (decide (ck h.es = 0) && (decide (norm h.es = h.es) && (decide (chg h.es ≠ 0) && decide (h.o = ((sides h.es).1.length : Int) ∧ h.n = ((sides h.es).2.length : Int))))) := by
  unfold rgt
  unfold ok4 at q
  rw [decide_eq_true ⟨q.1.1, q.1.2, q.2.1.1, q.2.1.2, q.2.2.1.1, q.2.2.1.2, q.2.2.2.1, q.2.2.2.2⟩]; rfl
theorem rgt_nums {h : Hk} (q : rgt h = true) : ok4 h.oa ∧ ok4 h.o ∧ ok4 h.na ∧ ok4 h.n := by
  by_cases e : ok4 h.oa ∧ ok4 h.o ∧ ok4 h.na ∧ ok4 h.n
  · exact e
  · rw [rgt_num e] at q; cases q
set_option maxRecDepth 100000 in
set_option maxHeartbeats 4000000 in
theorem right_any (EA : Option Addr) (ec : Nat) (h : Hk) (w : World) (hE : EdsIn 0 w EA h.es) (hok : EdsOk h.es) :
    Calls Try.prog 45 #[hkV h.oa h.o h.na h.n EA h.es.length ec] w (BlEnd w (rgt h)) := by
  obtain ⟨oa, o, na, nn, es⟩ := h
  simp only at hE hok
  obtain ⟨W, hW, x0, x1, hb⟩ := two w (.cells #[.int .i64 oa, .int .i64 o, .int .i64 na, .int .i64 nn, .slice EA es.length ec] 65) (.cells #[.int .i64 oa, .int .i64 o, .int .i64 na, .int .i64 nn] 3)
  have a1 := L.blk_cell x0 1
  have a3 := L.blk_cell x0 3
  have a4 := L.blk_cell x0 4
  have b0 := L.blk_cell x1 0
  have b1 := L.blk_cell x1 1
  have b2 := L.blk_cell x1 2
  have b3 := L.blk_cell x1 3
  simp only [List.getElem?_toArray, List.getElem?_cons_zero, List.getElem?_cons_succ] at a1 a3 a4 b0 b1 b2 b3
  have hxb : w.heap.size < W.heap.size := L.blk_lt x0
  have HB := Lib.hid hb
  have HEW := Lib.hid (hE.below hb)
  have HOK := Lib.hid hok
  have HNUM := Lib.hid (rgt_num (h := ⟨oa, o, na, nn, es⟩))
  have HRO := Lib.hid (rgt_ok (h := ⟨oa, o, na, nn, es⟩))
  simp only at HNUM HRO
  generalize rgt ⟨oa, o, na, nn, es⟩ = R at *
  clear x0 x1 hb hE hok
  unfold BlEnd hkV
  go_enter Try.func45, Try.ntmps45
  go_upto_region 2 with fail
  rw [← hW]
  obtain ⟨xb, hx⟩ : ∃ xb, xb = w.heap.size := ⟨_, rfl⟩
  rw [← hx] at a1 a3 a4 b0 b1 b2 b3 hxb ⊢
  clear hW hx
  go_loopg [19] 4 (fun m iv wr => ∃ (k : Nat), k ≤ 4 ∧ iv = .int .i64 k ∧ 4 - k ≤ m ∧ wr = W ∧ (0 < k → ok4 oa) ∧ (1 < k → ok4 o) ∧ (2 < k → ok4 na) ∧ (3 < k → ok4 nn))
  case atStart => exact ⟨0, by omega, rfl, by omega, rfl, by omega, by omega, by omega, by omega⟩
  case round =>
    obtain ⟨k, hk, rfl, hmm, rfl, i0, i1, i2, i3⟩ := hrel
    by_cases hlt : k < 4
    · rcases (show k = 0 ∨ k = 1 ∨ k = 2 ∨ k = 3 by omega) with rfl | rfl | rfl | rfl

      · by_cases hx0 : oa < 0
        · have hR := HNUM.out (by unfold ok4; omega)
          have hd : decide (oa < 0) = true := decide_eq_true hx0
          clear HNUM HRO hx0 i0 i1 i2 i3
          go_wp2_with fail
          go_ret
          exact ⟨by rw [hR]; rfl, HB.out⟩
        have hd : decide (oa < 0) = false := decide_eq_false hx0
        by_cases hx1 : 400 < oa
        · have hR := HNUM.out (by unfold ok4; omega)
          have hd1 : decide (400 < oa) = true := decide_eq_true hx1
          clear HNUM HRO hx0 hx1 i0 i1 i2 i3
          go_wp2_with fail
          go_ret
          exact ⟨by rw [hR]; rfl, HB.out⟩
        have hd1 : decide (400 < oa) = false := decide_eq_false hx1
        have hk4 : ok4 oa := ⟨by omega, by omega⟩
        clear hx0 hx1
        go_wp2_with fail
        go_roundg (4 - (0 + 1))
        case rel => exact ⟨1, by omega, by go_num, by omega, rfl, fun _ => hk4, by omega, by omega, by omega⟩
        case measure => omega
      · by_cases hx0 : o < 0
        · have hR := HNUM.out (by unfold ok4; omega)
          have hd : decide (o < 0) = true := decide_eq_true hx0
          clear HNUM HRO hx0 i0 i1 i2 i3
          go_wp2_with fail
          go_ret
          exact ⟨by rw [hR]; rfl, HB.out⟩
        have hd : decide (o < 0) = false := decide_eq_false hx0
        by_cases hx1 : 400 < o
        · have hR := HNUM.out (by unfold ok4; omega)
          have hd1 : decide (400 < o) = true := decide_eq_true hx1
          clear HNUM HRO hx0 hx1 i0 i1 i2 i3
          go_wp2_with fail
          go_ret
          exact ⟨by rw [hR]; rfl, HB.out⟩
        have hd1 : decide (400 < o) = false := decide_eq_false hx1
        have hk4 : ok4 o := ⟨by omega, by omega⟩
        clear hx0 hx1
        go_wp2_with fail
        go_roundg (4 - (1 + 1))
        case rel => exact ⟨2, by omega, by go_num, by omega, rfl, fun _ => i0 (by omega), fun _ => hk4, by omega, by omega⟩
        case measure => omega
      · by_cases hx0 : na < 0
        · have hR := HNUM.out (by unfold ok4; omega)
          have hd : decide (na < 0) = true := decide_eq_true hx0
          clear HNUM HRO hx0 i0 i1 i2 i3
          go_wp2_with fail
          go_ret
          exact ⟨by rw [hR]; rfl, HB.out⟩
        have hd : decide (na < 0) = false := decide_eq_false hx0
        by_cases hx1 : 400 < na
        · have hR := HNUM.out (by unfold ok4; omega)
          have hd1 : decide (400 < na) = true := decide_eq_true hx1
          clear HNUM HRO hx0 hx1 i0 i1 i2 i3
          go_wp2_with fail
          go_ret
          exact ⟨by rw [hR]; rfl, HB.out⟩
        have hd1 : decide (400 < na) = false := decide_eq_false hx1
        have hk4 : ok4 na := ⟨by omega, by omega⟩
        clear hx0 hx1
        go_wp2_with fail
        go_roundg (4 - (2 + 1))
        case rel => exact ⟨3, by omega, by go_num, by omega, rfl, fun _ => i0 (by omega), fun _ => i1 (by omega), fun _ => hk4, by omega⟩
        case measure => omega
      · by_cases hx0 : nn < 0
        · have hR := HNUM.out (by unfold ok4; omega)
          have hd : decide (nn < 0) = true := decide_eq_true hx0
          clear HNUM HRO hx0 i0 i1 i2 i3
          go_wp2_with fail
          go_ret
          exact ⟨by rw [hR]; rfl, HB.out⟩
        have hd : decide (nn < 0) = false := decide_eq_false hx0
        by_cases hx1 : 400 < nn
        · have hR := HNUM.out (by unfold ok4; omega)
          have hd1 : decide (400 < nn) = true := decide_eq_true hx1
          clear HNUM HRO hx0 hx1 i0 i1 i2 i3
          go_wp2_with fail
          go_ret
          exact ⟨by rw [hR]; rfl, HB.out⟩
        have hd1 : decide (400 < nn) = false := decide_eq_false hx1
        have hk4 : ok4 nn := ⟨by omega, by omega⟩
        clear hx0 hx1
        go_wp2_with fail
        go_roundg (4 - (3 + 1))
        case rel => exact ⟨4, by omega, by go_num, by omega, rfl, fun _ => i0 (by omega), fun _ => i1 (by omega), fun _ => i2 (by omega), fun _ => hk4⟩
        case measure => omega
    · obtain rfl : k = 4 := by omega
      have hq4 : ok4 oa ∧ ok4 o ∧ ok4 na ∧ ok4 nn := ⟨i0 (by omega), i1 (by omega), i2 (by omega), i3 (by omega)⟩
      have HR := Lib.hid (HRO.out hq4)
      clear HNUM HRO i0 i1 i2 i3 hq4
      have HN := Lib.hid (normal_any EA ec 0 es wr HEW.out HOK.out)
      by_cases hck : ck es = 0
      · have hnm : nrm es = norm es := by unfold nrm; rw [if_pos hck]
        rw [hnm, hck] at HN
        have hcn := (norm_ok hck).1
        have HON := Lib.hid (EdsOk.of_ck hcn)
        have HSN : Hid (sides (norm es) = ((sides (norm es)).1, (sides (norm es)).2)) := Lib.hid rfl
        rw [decide_eq_true hck, Bool.true_and] at HR
        have HCN := Lib.hid hcn
        clear hnm hck hcn
        go_wp2_with fail
        with_reducible refine (HN.out).mono ?_
        rintro e w2 ⟨NA, nc, rfl, ⟨hE2, -⟩, hb2⟩
        have HB2 := Lib.hid (HB.out.trans (hb2.mono HB.out.size))
        have HE2 := Lib.hid (hE2.low (Nat.zero_le _))
        have k1 := (hb2.cell (p := ⟨xb, 1, none⟩) hxb).trans a1
        have k3 := (hb2.cell (p := ⟨xb, 3, none⟩) hxb).trans a3
        have k4 := (hb2.cell (p := ⟨xb, 4, none⟩) hxb).trans a4
        have hxb2 : xb < w2.heap.size := Nat.lt_of_lt_of_le hxb hb2.size
        have HQ := Lib.hid (equalf_any EA NA ec nc es (norm es) w2 HOK.out HON.out (HEW.out.below hb2) HE2.out)
        clear HN hE2 hb2 a1 a3 a4 b0 b1 b2 b3
        by_cases he : norm es = es
        · have hqe : decide (es = norm es) = true := decide_eq_true he.symm
          rw [hqe] at HQ
          rw [decide_eq_true he, Bool.true_and] at HR
          have HCH := Lib.hid (fun W hb => changed_any NA nc 0 (norm es) W (HE2.out.below hb) HON.out)
          have HSD := Lib.hid (fun W hb => sides_read NA nc 0 (norm es) W (HE2.out.below hb) HON.out)
          rw [HCN.out] at HSD
          rw [he] at HCH HSD
          have hln : (norm es).length = es.length := by rw [he]
          rw [hln] at HQ ⊢
          clear hqe he hln
          go_wp2_with fail
          with_reducible refine (HQ.out).mono ?_
          rintro e w3 ⟨rfl, hb3⟩
          have HB3 := Lib.hid (HB2.out.trans (hb3.mono HB2.out.size))
          have k1' := (hb3.cell (p := ⟨xb, 1, none⟩) hxb2).trans k1
          have k3' := (hb3.cell (p := ⟨xb, 3, none⟩) hxb2).trans k3
          have hxb3 : xb < w3.heap.size := Nat.lt_of_lt_of_le hxb2 hb3.size
          have HC3 := Lib.hid (HCH.out w3 hb3)
          have HSD3 := Lib.hid (fun W (hb : Below w3.heap.size w3 W) => HSD.out W (hb3.trans (hb.mono hb3.size)))
          clear HQ HCH HSD k1 k3 k4 hb3
          by_cases hz : chg es = 0
          · have hz0 : (chg es == 0) = true := by simp [hz]
            have hR : R = false := by rw [HR.out, hz]; simp
            go_wp2_with fail
            with_reducible refine (HC3.out).mono ?_
            rintro e w4 ⟨rfl, hb4⟩
            have HB4 := Lib.hid (HB3.out.trans (hb4.mono HB3.out.size))
            go_wp2_with fail
            go_ret
            exact ⟨by rw [hR]; rfl, HB4.out⟩
          · have hz0 : (chg es == 0) = false := beq_eq_false_iff_ne.2 hz
            have hz1 : decide (chg es ≠ 0) = true := decide_eq_true hz
            rw [hz1, Bool.true_and] at HR
            clear hz hz1
            generalize chg es = cz at *
            go_wp2_with fail
            with_reducible refine (HC3.out).mono ?_
            rintro e w4 ⟨rfl, hb4⟩
            have HB4 := Lib.hid (HB3.out.trans (hb4.mono HB3.out.size))
            have k1 := (hb4.cell (p := ⟨xb, 1, none⟩) hxb3).trans k1'
            have k3 := (hb4.cell (p := ⟨xb, 3, none⟩) hxb3).trans k3'
            have hxb4 : xb < w4.heap.size := Nat.lt_of_lt_of_le hxb3 hb4.size
            have HS4 := Lib.hid (HSD3.out w4 hb4)
            clear HC3 HSD3 hb4 k1' k3'
            go_wp2_with fail
            with_reducible refine (HS4.out).mono ?_
            rintro e w5 ⟨XA, xc, YA, yc, rfl, -, -, hb5⟩
            have HB5 := Lib.hid (HB4.out.trans (hb5.mono HB4.out.size))
            have k1' := (hb5.cell (p := ⟨xb, 1, none⟩) hxb4).trans k1
            have k3' := (hb5.cell (p := ⟨xb, 3, none⟩) hxb4).trans k3
            clear HS4 hb5 k1 k3
            generalize (sides es).1.length = n1 at *
            generalize (sides es).2.length = n2 at *
            by_cases ho : o = (n1 : Int)
            · have ho1 : (o == (n1 : Int)) = true := by simp [ho]
              have hR : R = (nn == (n2 : Int)) := by rw [HR.out, Bool.eq_iff_iff]; simp [ho]
              clear ho
              go_wp2_with fail
              go_ret
              exact ⟨by rw [hR]; rfl, HB5.out⟩
            · have ho1 : (o == (n1 : Int)) = false := beq_eq_false_iff_ne.2 ho
              have hR : R = false := by rw [HR.out]; simp [ho]
              clear ho
              go_wp2_with fail
              go_ret
              exact ⟨by rw [hR]; rfl, HB5.out⟩
        · have hqe : decide (es = norm es) = false := decide_eq_false (fun e => he e.symm)
          rw [hqe] at HQ
          have hR : R = false := by rw [HR.out, decide_eq_false he]; rfl
          clear hqe he
          go_wp2_with fail
          with_reducible refine (HQ.out).mono ?_
          rintro e w3 ⟨rfl, hb3⟩
          have HB3 := Lib.hid (HB2.out.trans (hb3.mono HB2.out.size))
          clear HQ hb3
          go_wp2_with fail
          go_ret
          exact ⟨by rw [hR]; rfl, HB3.out⟩
      · have hnm : nrm es = [] := by unfold nrm; rw [if_neg hck]
        rw [hnm] at HN
        have hR : R = false := by rw [HR.out, decide_eq_false hck]; rfl
        generalize ck es = q at *
        have h0 : (q == 0) = false := beq_eq_false_iff_ne.2 hck
        have h1 : (q != 0) = true := by simp [bne, h0]
        clear hnm hck
        go_wp2_with fail
        with_reducible refine (HN.out).mono ?_
        rintro e w2 ⟨NA, nc, rfl, -, hb2⟩
        have HB2 := Lib.hid (HB.out.trans (hb2.mono HB.out.size))
        clear HN hb2
        go_wp2_with fail
        go_ret
        exact ⟨by rw [hR]; rfl, HB2.out⟩
end Go.Proofs.Ytigghcmbdnidnaa.H

namespace Go.Proofs.Ytigghcmbdnidnaa.H
set_option linter.unusedVariables false
set_option linter.unusedSimpArgs false
open Go.RowKit
open T S
open V (grown_of)
open I (alloc1 own_at own_below)
open N (Ln)

theorem chain_cons {hs : List Hk} {k : Nat} (hk : k < hs.length) (x y : Int) : chain x y (hs.drop k) = (rgt hs[k] && flw x y hs[k] && chain (hs[k].oa + hs[k].o) (hs[k].na + hs[k].n) (hs.drop (k + 1))) := by
  rw [List.drop_eq_getElem_cons hk, chain]
theorem chain_bad {hs : List Hk} {k : Nat} (hk : k < hs.length) {x y : Int} (hc : chain 0 0 hs = chain x y (hs.drop k)) (h : rgt hs[k] = false ∨ flw x y hs[k] = false) : chain 0 0 hs = false := by
  rw [hc, chain_cons hk]
  rcases h with h | h <;> simp [h]
theorem chain_next {hs : List Hk} {k : Nat} (hk : k < hs.length) {x y : Int} (hc : chain 0 0 hs = chain x y (hs.drop k)) (h1 : rgt hs[k] = true) (h2 : flw x y hs[k] = true) : chain 0 0 hs = chain (hs[k].oa + hs[k].o) (hs[k].na + hs[k].n) (hs.drop (k + 1)) := by
  rw [hc, chain_cons hk, h1, h2]; simp
theorem hck4 {hs : List Hk} (h : lim hs = false) : hck hs = 4 := by rw [hck_lim, h]; rfl
theorem hck3 {hs : List Hk} (h : lim hs = true) (h2 : chain 0 0 hs = false) : hck hs = 3 := by rw [hck_lim, h, h2]; rfl
theorem hck0 {hs : List Hk} (h : lim hs = true) (h2 : chain 0 0 hs = true) : hck hs = 0 := by rw [hck_lim, h, h2]; rfl
/-- The hunk ahead. -/
def Pr (A : Option Addr) (k : Nat) (p0 p1 p2 p3 : Int) (w : World) : Prop := ∃ bk off, A = some ⟨bk, off, none⟩ ∧ ∀ W, Below w.heap.size w W → W.cell? ⟨bk, off + (k - 1) * 5, none⟩ = some (.int .i64 p0) ∧ W.cell? ⟨bk, off + (k - 1) * 5 + 1, none⟩ = some (.int .i64 p1) ∧ W.cell? ⟨bk, off + (k - 1) * 5 + 2, none⟩ = some (.int .i64 p2) ∧ W.cell? ⟨bk, off + (k - 1) * 5 + 3, none⟩ = some (.int .i64 p3)
theorem Pr.below {A : Option Addr} {k : Nat} {p0 p1 p2 p3 : Int} {w w' : World} (h : Pr A k p0 p1 p2 p3 w) (hb : Below w.heap.size w w') : Pr A k p0 p1 p2 p3 w' := by
  obtain ⟨bk, off, h1, h2⟩ := h
  exact ⟨bk, off, h1, fun W hW => h2 W (hb.trans (hW.mono hb.size))⟩
def CkEnd (w : World) (q : Int) (e : Ending) (w' : World) : Prop := e = .returned (.int .i64 q) ∧ Below w.heap.size w w'
abbrev hkC (oa o na n : Int) (EA : Option Addr) (k ec : Nat) : Obj := .cells #[.int .i64 oa, .int .i64 o, .int .i64 na, .int .i64 n, .slice EA k ec] 65
theorem hkC_cells {w : World} {xb : Nat} {oa o na n : Int} {EA : Option Addr} {k ec : Nat} (h : w.heap[xb]? = some (hkC oa o na n EA k ec)) :
    w.cell? ⟨xb, 0, none⟩ = some (.int .i64 oa) ∧ w.cell? ⟨xb, 1, none⟩ = some (.int .i64 o) ∧ w.cell? ⟨xb, 2, none⟩ = some (.int .i64 na) ∧ w.cell? ⟨xb, 3, none⟩ = some (.int .i64 n) ∧ w.cell? ⟨xb, 4, none⟩ = some (.slice EA k ec) :=
  ⟨L.blk_cell h 0, L.blk_cell h 1, L.blk_cell h 2, L.blk_cell h 3, L.blk_cell h 4⟩
set_option maxRecDepth 100000 in
set_option maxHeartbeats 4000000 in
theorem hcheck_any (A : Option Addr) (c b : Nat) (hs : List Hk) (w : World) (hH : HksIn b w A hs) (hok : HksOk hs) :
    Calls Try.prog 34 #[.slice A hs.length c] w (CkEnd w (hck hs)) := by
  have HW := Lib.hid (within_any A c b hs w hH hok)
  have HH := Lib.hid (hH.low (Nat.zero_le _))
  have hl := hok.len
  have HES := Lib.hid hok.es
  unfold maxLen at hl
  clear hH hok
  unfold CkEnd
  cases hlim : lim hs with
  | false =>
    rw [hlim] at HW
    have HR := Lib.hid (hck4 hlim)
    rw [HR.out]
    clear hlim HR
    go_enter Try.func34, Try.ntmps34
    go_wp2_with fail
    with_reducible refine (HW.out).mono ?_
    rintro e w1 ⟨rfl, hb1⟩
    go_wp2_with fail
    go_ret
    exact ⟨rfl, hb1⟩
  | true =>
    rw [hlim] at HW
    have HLIM := Lib.hid hlim
    clear hlim
    go_enter Try.func34, Try.ntmps34
    go_wp2_with fail
    with_reducible refine (HW.out).mono ?_
    rintro e w1 ⟨rfl, hb1⟩
    obtain ⟨W0, hW0⟩ : ∃ W : World, W = w1.alloc (hkC 0 0 0 0 none 0 0) := ⟨_, rfl⟩
    have HAB : Hid (W0.heap[w1.heap.size]? = some (hkC 0 0 0 0 none 0 0)) := Lib.hid (by rw [hW0]; exact heap_alloc_new w1 _)
    have HB0 : Hid (Below w.heap.size w W0) := Lib.hid (hb1.trans ((show Below w1.heap.size w1 W0 by rw [hW0]; exact alloc1 _ _).mono hb1.size))
    have hab : w.heap.size ≤ w1.heap.size := hb1.size
    clear hb1 HW
    go_upto_region 4 with fail
    rw [← hW0]
    obtain ⟨ab, hx⟩ : ∃ ab, ab = w1.heap.size := ⟨_, rfl⟩
    rw [← hx] at HAB hab ⊢
    clear hW0 hx
    go_wp2_with fail
    go_loopg [11] hs.length (fun m iv wr => ∃ (k : Nat) (p0 p1 p2 p3 : Int) (PA : Option Addr) (pk pc : Nat), k ≤ hs.length ∧ iv = .int .i64 k ∧ hs.length - k ≤ m ∧ Hid (ok4 p0 ∧ ok4 p1 ∧ ok4 p2 ∧ ok4 p3) ∧ Hid (chain 0 0 hs = chain (p0 + p1) (p2 + p3) (hs.drop k)) ∧ Hid (wr.heap[ab]? = some (hkC p0 p1 p2 p3 PA pk pc)) ∧ Hid (Below w.heap.size w wr))
    case atStart => exact ⟨0, 0, 0, 0, 0, none, 0, 0, Nat.zero_le _, rfl, by omega, Lib.hid (by unfold ok4; omega), Lib.hid (by simp), HAB, HB0⟩
    case round =>
      clear HAB HB0
      obtain ⟨k, p0, p1, p2, p3, PA, pk, pc, hk, rfl, hmm, HP, HCH, HAB, HB⟩ := hrel
      by_cases hlt : k < hs.length
      · obtain ⟨bk, off, EA, ec, hAe, c0, c1, c2, c3, c4, hE, -, -⟩ := hunk_at HH.out HB.out hlt
        subst hAe
        have HBAD := Lib.hid (fun h => chain_bad hlt HCH.out h)
        have HNX := Lib.hid (fun h1 h2 => chain_next hlt HCH.out h1 h2)
        have HRN := Lib.hid (fun (q : rgt hs[k] = true) => rgt_nums q)
        have hes := HES.out _ (List.getElem_mem hlt)
        have hh : hs[k] = ⟨hs[k].oa, hs[k].o, hs[k].na, hs[k].n, hs[k].es⟩ := rfl
        rw [hh] at HBAD HNX HRN
        simp only at HBAD HNX HRN
        clear HCH hh
        generalize hs[k].oa = oa at *
        generalize hs[k].o = o at *
        generalize hs[k].na = na at *
        generalize hs[k].n = nn at *
        generalize hs[k].es = es at *
        obtain ⟨W1, hW1⟩ : ∃ W : World, W = wr.alloc (hkC oa o na nn EA es.length ec) := ⟨_, rfl⟩
        have hX := heap_alloc_new wr (hkC oa o na nn EA es.length ec)
        rw [← hW1] at hX
        have hb1 : Below wr.heap.size wr W1 := by rw [hW1]; exact alloc1 _ _
        have HB1 := Lib.hid (HB.out.trans (hb1.mono HB.out.size))
        have HAB1 := Lib.hid ((hb1.block _ (L.blk_lt HAB.out)).trans HAB.out)
        have HR := Lib.hid (right_any EA ec ⟨oa, o, na, nn, es⟩ W1 (hE.below HB1.out) hes)
        unfold hkV at HR
        simp only at HR
        have HX := Lib.hid hX
        obtain ⟨x0, x1, x2, x3, x4⟩ := hkC_cells hX
        have h0k : (0 : Int) ≤ (k : Int) := by omega
        have hki : (k : Int) < (hs.length : Int) := by omega
        clear hX hE hes HB HAB hb1
        go_upto_region 7 with fail
        rw [← hW1]
        obtain ⟨xb, hxb⟩ : ∃ xb, xb = wr.heap.size := ⟨_, rfl⟩
        rw [← hxb] at x0 x1 x2 x3 x4 HX ⊢
        clear hW1 hxb c0 c1 c2 c3 c4
        cases hr : rgt ⟨oa, o, na, nn, es⟩ with
        | false =>
          have HF := Lib.hid (HBAD.out (.inl hr))
          rw [hr] at HR
          clear hr HBAD HNX HRN
          go_wp2_with fail
          with_reducible refine (HR.out).mono ?_
          rintro e w2 ⟨rfl, hb2⟩
          have HB2 := Lib.hid (HB1.out.trans (hb2.mono HB1.out.size))
          clear hb2 HR
          go_wp2_with fail
          go_ret
          exact ⟨by rw [hck3 HLIM.out HF.out]; rfl, HB2.out⟩
        | true =>
          rw [hr] at HR
          obtain ⟨n1, n2, n3, n4⟩ := HRN.out hr
          have HFL := Lib.hid (fun W => follows_any p0 p1 p2 p3 oa o na nn PA EA pk pc es.length ec es W HP.out.1 HP.out.2.1 HP.out.2.2.1 HP.out.2.2.2 n1 n3)
          unfold hkV at HFL
          cases hf : flw (p0 + p1) (p2 + p3) ⟨oa, o, na, nn, es⟩ with
          | false =>
            have HF := Lib.hid (HBAD.out (.inr hf))
            rw [hf] at HFL
            clear hr hf HBAD HNX HRN n1 n2 n3 n4
            go_wp2_with fail
            with_reducible refine (HR.out).mono ?_
            rintro e w2 ⟨rfl, hb2⟩
            have HB2 := Lib.hid (HB1.out.trans (hb2.mono HB1.out.size))
            have hX2 := (hb2.block _ (L.blk_lt HX.out)).trans HX.out
            have hA2 := (hb2.block _ (L.blk_lt HAB1.out)).trans HAB1.out
            obtain ⟨y0, y1, y2, y3, y4⟩ := hkC_cells hX2
            obtain ⟨z0, z1, z2, z3, z4⟩ := hkC_cells hA2
            have HF2 := Lib.hid (HFL.out w2)
            clear hb2 HR hX2 hA2 x0 x1 x2 x3 x4 HFL HX HAB1
            go_wp2_with fail
            with_reducible refine (HF2.out).mono ?_
            rintro e w3 ⟨rfl, hb3⟩
            have HB3 := Lib.hid (HB2.out.trans (hb3.mono HB2.out.size))
            clear hb3 HF2
            go_wp2_with fail
            go_ret
            exact ⟨by rw [hck3 HLIM.out HF.out]; rfl, HB3.out⟩
          | true =>
            have HF := Lib.hid (HNX.out hr hf)
            rw [hf] at HFL
            have HP' : Hid (ok4 oa ∧ ok4 o ∧ ok4 na ∧ ok4 nn) := Lib.hid ⟨n1, n2, n3, n4⟩
            clear hr hf HBAD HNX HRN n1 n2 n3 n4 HP
            go_wp2_with fail
            with_reducible refine (HR.out).mono ?_
            rintro e w2 ⟨rfl, hb2⟩
            have HB2 := Lib.hid (HB1.out.trans (hb2.mono HB1.out.size))
            have hX2 := (hb2.block _ (L.blk_lt HX.out)).trans HX.out
            have hA2 := (hb2.block _ (L.blk_lt HAB1.out)).trans HAB1.out
            obtain ⟨y0, y1, y2, y3, y4⟩ := hkC_cells hX2
            obtain ⟨z0, z1, z2, z3, z4⟩ := hkC_cells hA2
            have HF2 := Lib.hid (HFL.out w2)
            have HX2 := Lib.hid hX2
            have HA2 := Lib.hid hA2
            clear hb2 HR hX2 hA2 x0 x1 x2 x3 x4 HFL HX HAB1
            go_wp2_with fail
            with_reducible refine (HF2.out).mono ?_
            rintro e w3 ⟨rfl, hb3⟩
            have HB3 := Lib.hid (HB2.out.trans (hb3.mono HB2.out.size))
            have hX3 := (hb3.block _ (L.blk_lt HX2.out)).trans HX2.out
            have hA3 := (hb3.block _ (L.blk_lt HA2.out)).trans HA2.out
            clear hb3 HF2 y0 y1 y2 y3 y4 z0 z1 z2 z3 z4 HX2 HA2
            obtain ⟨y0, y1, y2, y3, y4⟩ := hkC_cells hX3
            obtain ⟨z0, z1, z2, z3, z4⟩ := hkC_cells hA3
            have f0 := fun i => L.blk_free hA3 i
            have HA3 := Lib.hid hA3
            clear hX3 hA3
            go_wp2_with fail
            go_roundg (hs.length - (k + 1))
            case rel => exact ⟨k + 1, oa, o, na, nn, EA, es.length, ec, by omega, by go_num, Nat.le_refl _, HP', HF, Lib.hid (by
              have := L.blk_set (L.blk_set (L.blk_set (L.blk_set (L.blk_set HA3.out 0 (.int .i64 oa)) 1 (.int .i64 o)) 2 (.int .i64 na)) 3 (.int .i64 nn)) 4 (.slice EA es.length ec)
              exact this), Lib.hid (((((HB3.out.setCell (p := ⟨ab, 0, none⟩) hab _).setCell (p := ⟨ab, 1, none⟩) hab _).setCell (p := ⟨ab, 2, none⟩) hab _).setCell (p := ⟨ab, 3, none⟩) hab _).setCell (p := ⟨ab, 4, none⟩) hab _)⟩
            case measure => omega
      · obtain rfl : k = hs.length := by omega
        have HF : Hid (chain 0 0 hs = true) := Lib.hid (by rw [HCH.out, List.drop_length]; rfl)
        go_wp2_with fail
        go_ret
        exact ⟨by rw [hck0 HLIM.out HF.out]; rfl, HB.out⟩

theorem rgt_ref {h : Hk} (h1 : ck h.es = 0) (h2 : norm h.es = h.es) (h3 : chg h.es ≠ 0) : rgt h = !(decide (h.o ≠ ((sides h.es).1.length : Int)) || (decide (h.n ≠ ((sides h.es).2.length : Int)) || (decide (400 < h.o) || (decide (400 < h.n) || (decide (h.oa < 0) || (decide (400 < h.oa) || (decide (h.na < 0) || decide (400 < h.na)))))))) := by
  unfold rgt
  rw [decide_eq_true h1, decide_eq_true h2, decide_eq_true h3, Bool.true_and, Bool.true_and, Bool.true_and, Bool.eq_iff_iff]
  simp
  omega
set_option maxRecDepth 100000 in
set_option maxHeartbeats 8000000 in
theorem rhcheck_any (A : Option Addr) (c b : Nat) (hs : List Hk) (w : World) (hH : HksIn b w A hs) (hok : HksOk hs) :
    Calls Try.prog 36 #[.slice A hs.length c] w (CkEnd w (hck hs)) := by
  have HH := Lib.hid (hH.low (Nat.zero_le _))
  have hl := hok.len
  have HES := Lib.hid hok.es
  unfold maxLen at hl
  clear hH hok
  unfold CkEnd
  go_enter Try.func36, Try.ntmps36
  by_cases hlong : 400 < hs.length
  · have HR := Lib.hid (lim_long hlong)
    have h4 : (400 : Int) < (hs.length : Int) := by omega
    go_wp2_with fail
    go_ret
    exact ⟨by rw [hck4 HR.out]; rfl, Below.refl _ _⟩
  have h4 : ¬ (400 : Int) < (hs.length : Int) := by omega
  go_wp2_with fail
  go_loopg [3] hs.length (fun m iv wr => ∃ (k : Nat), k ≤ hs.length ∧ iv = .int .i64 k ∧ hs.length - k ≤ m ∧ Hid (∀ j (hj : j < hs.length), j < k → ck hs[j].es ≠ 4) ∧ Hid (Below w.heap.size w wr))
  case atStart => exact ⟨0, Nat.zero_le _, rfl, by omega, Lib.hid (fun j _ h => absurd h (Nat.not_lt_zero _)), Lib.hid (Below.refl _ _)⟩
  case round =>
    obtain ⟨k, hk, rfl, hmm, HOK, HB⟩ := hrel
    by_cases hlt : k < hs.length
    · obtain ⟨bk, off, EA, ec, hAe, c0, c1, c2, c3, c4, hE, -, -⟩ := hunk_at HH.out HB.out hlt
      subst hAe
      have HFM := Lib.hid (fun h => lim_at hlt h)
      have HNX : Hid (ck hs[k].es ≠ 4 → ∀ j (hj : j < hs.length), j < k + 1 → ck hs[j].es ≠ 4) := Lib.hid (fun h j hj hjk => by
        by_cases e : j = k
        · subst e; exact h
        · exact HOK.out j hj (by omega))
      have hes := HES.out _ (List.getElem_mem hlt)
      have HC := Lib.hid (rcheck_any EA ec 0 hs[k].es wr (hE.below HB.out) hes)
      have h0k : (0 : Int) ≤ (k : Int) := by omega
      have hki : (k : Int) < (hs.length : Int) := by omega
      generalize hs[k].es.length = el at *
      clear hE hes c0 c1 c2 c3
      by_cases hq : ck hs[k].es = 4
      · have HR := Lib.hid (HFM.out hq)
        rw [hq] at HC
        clear hq HFM HNX
        go_wp2_with fail
        with_reducible refine (HC.out).mono ?_
        rintro e w2 ⟨rfl, hb2⟩
        have HB2 := Lib.hid (HB.out.trans (hb2.mono HB.out.size))
        clear hb2
        go_wp2_with fail
        go_ret
        exact ⟨by rw [hck4 HR.out]; rfl, HB2.out⟩
      · have HR := Lib.hid (HNX.out hq)
        have hq4 : (ck hs[k].es == 4) = false := beq_eq_false_iff_ne.2 hq
        generalize ck hs[k].es = q at *
        clear hq HFM HNX
        go_wp2_with fail
        with_reducible refine (HC.out).mono ?_
        rintro e w2 ⟨rfl, hb2⟩
        have HB2 := Lib.hid (HB.out.trans (hb2.mono HB.out.size))
        clear hb2
        go_wp2_with fail
        go_roundg (hs.length - (k + 1))
        case rel => exact ⟨k + 1, by omega, by go_num, Nat.le_refl _, HR, HB2⟩
        case measure => omega
    · obtain rfl : k = hs.length := by omega
      have HLIM := Lib.hid (lim_all hlong (fun j hj => HOK.out j hj hj))
      clear HOK hk hmm hlt
      go_wp2_with fail
      go_loopg [4] hs.length (fun m iv wr => ∃ (k : Nat) (p0 p1 p2 p3 : Int), k ≤ hs.length ∧ iv = .int .i64 k ∧ hs.length - k ≤ m ∧ Hid (ok4 p0 ∧ ok4 p1 ∧ ok4 p2 ∧ ok4 p3) ∧ Hid ((k = 0 → p0 = 0 ∧ p1 = 0 ∧ p2 = 0 ∧ p3 = 0) ∧ (0 < k → ∃ x, hs[k - 1]? = some x ∧ x.oa = p0 ∧ x.o = p1 ∧ x.na = p2 ∧ x.n = p3)) ∧ Hid (chain 0 0 hs = chain (p0 + p1) (p2 + p3) (hs.drop k)) ∧ Hid (Below w.heap.size w wr))
      case atStart => exact ⟨0, 0, 0, 0, 0, Nat.zero_le _, rfl, by omega, Lib.hid (by unfold ok4; omega), Lib.hid ⟨fun _ => ⟨rfl, rfl, rfl, rfl⟩, fun h => absurd h (Nat.lt_irrefl _)⟩, Lib.hid (by simp), HB⟩
      case round =>
        clear HB
        obtain ⟨k, p0, p1, p2, p3, hk, rfl, hmm, HP, HPP, HCH, HB⟩ := hrel
        by_cases hlt : k < hs.length
        · have HPR : Hid (0 < k → Pr A k p0 p1 p2 p3 wr) := Lib.hid (fun h => by
            obtain ⟨x, qx, q0, q1, q2, q3⟩ := HPP.out.2 h
            obtain ⟨bk, off, hAe, -, hbk, hI⟩ := HH.out (by omega)
            obtain ⟨_, _, d0, d1, d2, d3, -⟩ := hI (k - 1) (by omega)
            rw [List.getElem?_eq_getElem (by omega)] at qx
            have qx := Option.some.inj qx
            rw [qx] at d0 d1 d2 d3
            rw [q0] at d0; rw [q1] at d1; rw [q2] at d2; rw [q3] at d3
            have hbw := Nat.lt_of_lt_of_le hbk HB.out.size
            exact ⟨bk, off, hAe, fun W hW => ⟨(hW.cell (p := ⟨bk, _, none⟩) hbw).trans ((HB.out.cell (p := ⟨bk, _, none⟩) hbk).trans d0), (hW.cell (p := ⟨bk, _, none⟩) hbw).trans ((HB.out.cell (p := ⟨bk, _, none⟩) hbk).trans d1), (hW.cell (p := ⟨bk, _, none⟩) hbw).trans ((HB.out.cell (p := ⟨bk, _, none⟩) hbk).trans d2), (hW.cell (p := ⟨bk, _, none⟩) hbw).trans ((HB.out.cell (p := ⟨bk, _, none⟩) hbk).trans d3)⟩⟩)
          have HP0 : Hid (k = 0 → p0 = 0 ∧ p1 = 0 ∧ p2 = 0 ∧ p3 = 0) := Lib.hid HPP.out.1
          obtain ⟨bk, off, EA, ec, hAe, c0, c1, c2, c3, c4, hE, -, -⟩ := hunk_at HH.out HB.out hlt
          subst hAe
          have HBAD := Lib.hid (fun h => chain_bad hlt HCH.out h)
          have HNX := Lib.hid (fun h1 h2 => chain_next hlt HCH.out h1 h2)
          have HRN := Lib.hid (fun (q : rgt hs[k] = true) => rgt_nums q)
          have HRR := Lib.hid (fun (q1 : ck hs[k].es = 0) (q2 : norm hs[k].es = hs[k].es) (q3 : chg hs[k].es ≠ 0) => rgt_ref q1 q2 q3)
          have HCK := Lib.hid (fun (q : ¬ ck hs[k].es = 0) => show rgt hs[k] = false by unfold rgt; rw [decide_eq_false q]; simp)
          have HNM := Lib.hid (fun (q : ¬ norm hs[k].es = hs[k].es) => show rgt hs[k] = false by unfold rgt; rw [decide_eq_false q]; simp)
          have HZZ := Lib.hid (fun (q : ¬ chg hs[k].es ≠ 0) => show rgt hs[k] = false by unfold rgt; rw [decide_eq_false q]; simp)
          have HNP : Hid (∃ x, hs[k + 1 - 1]? = some x ∧ x.oa = hs[k].oa ∧ x.o = hs[k].o ∧ x.na = hs[k].na ∧ x.n = hs[k].n) := Lib.hid ⟨hs[k], List.getElem?_eq_getElem hlt, rfl, rfl, rfl, rfl⟩
          have hes := HES.out _ (List.getElem_mem hlt)
          have hh : hs[k] = ⟨hs[k].oa, hs[k].o, hs[k].na, hs[k].n, hs[k].es⟩ := rfl
          rw [hh] at HBAD HNX HRN HRR HCK HNM HZZ
          simp only at HBAD HNX HRN HRR HCK HNM HZZ
          clear HCH hh HPP
          generalize hs[k].oa = oa at *
          generalize hs[k].o = o at *
          generalize hs[k].na = na at *
          generalize hs[k].n = nn at *
          generalize hs[k].es = es at *
          obtain ⟨W1, hW1⟩ : ∃ W : World, W = wr.alloc (hkC oa o na nn EA es.length ec) := ⟨_, rfl⟩
          have hX := heap_alloc_new wr (hkC oa o na nn EA es.length ec)
          rw [← hW1] at hX
          have hb1 : Below wr.heap.size wr W1 := by rw [hW1]; exact alloc1 _ _
          have HB1 := Lib.hid (HB.out.trans (hb1.mono HB.out.size))
          have HPR1 := Lib.hid (fun h => (HPR.out h).below hb1)
          have HE1 := Lib.hid (hE.below HB1.out)
          have HN := Lib.hid (rnormal_any EA ec 0 es W1 HE1.out hes)
          have HEO := Lib.hid hes
          have HX := Lib.hid hX
          obtain ⟨x0, x1, x2, x3, x4⟩ := hkC_cells hX
          have h0k : (0 : Int) ≤ (k : Int) := by omega
          have hki : (k : Int) < (hs.length : Int) := by omega
          clear hX hE hes HB hb1 HPR
          go_upto_region 12 with fail
          rw [← hW1]
          obtain ⟨xb, hxb⟩ : ∃ xb, xb = wr.heap.size := ⟨_, rfl⟩
          rw [← hxb] at x0 x1 x2 x3 x4 HX ⊢
          clear hW1 hxb c0 c1 c2 c3 c4
          by_cases hck : ck es = 0
          · have hnm : nrm es = norm es := by unfold nrm; rw [if_pos hck]
            rw [hnm, hck] at HN
            have hcn := (norm_ok hck).1
            have HON := Lib.hid (EdsOk.of_ck hcn)
            have HKC := Lib.hid hck
            clear hnm hck hcn HCK
            go_wp2_with fail
            with_reducible refine (HN.out).mono ?_
            rintro e w2 ⟨NA, nc, rfl, hE2, hb2⟩
            have HB2 := Lib.hid (HB1.out.trans (hb2.mono HB1.out.size))
            have HE2 := Lib.hid hE2
            have HX2 := Lib.hid ((hb2.block _ (L.blk_lt HX.out)).trans HX.out)
            have HPR2 := Lib.hid (fun h => (HPR1.out h).below hb2)
            have HQ := Lib.hid (esame_gen NA EA nc ec (norm es) es w2 HON.out HEO.out HE2.out (HE1.out.below hb2))
            clear HN hE2 hb2 x0 x1 x2 x3 x4 HX HPR1
            obtain ⟨x0, x1, x2, x3, x4⟩ := hkC_cells HX2.out
            by_cases he : norm es = es
            · have hqe : decide (norm es = es) = true := decide_eq_true he
              rw [hqe] at HQ
              have HCH := Lib.hid (fun W hb => rchanged_any NA nc 0 (norm es) W (HE2.out.below hb) HON.out)
              have HSD := Lib.hid (fun W hb => rsides_any NA nc 0 (norm es) W (HE2.out.below hb) HON.out)
              rw [he] at HCH HSD
              have hln : (norm es).length = es.length := by rw [he]
              rw [hln] at HQ ⊢
              rw [HKC.out] at HSD
              have HNE := Lib.hid he
              clear hqe he hln HNM
              go_wp2_with fail
              with_reducible refine (HQ.out).mono ?_
              rintro e w3 ⟨rfl, q3, hw3⟩
              have hb3 : Below w2.heap.size w2 w3 := by rw [hw3]; exact V.drawn_below w2 q3
              have HB3 := Lib.hid (HB2.out.trans (hb3.mono HB2.out.size))
              have HX3 := Lib.hid ((hb3.block _ (L.blk_lt HX2.out)).trans HX2.out)
              have HPR3 := Lib.hid (fun h => (HPR2.out h).below hb3)
              have HC3 := Lib.hid (HCH.out w3 hb3)
              have HSD3 := Lib.hid (fun W (hb : Below w3.heap.size w3 W) => HSD.out W (hb3.trans (hb.mono hb3.size)))
              clear HQ HCH HSD x0 x1 x2 x3 x4 hb3 hw3 HX2 HPR2
              by_cases hz : chg es = 0
              · have hz0 : (chg es == 0) = true := by simp [hz]
                have HF := Lib.hid (HBAD.out (.inl (HZZ.out (fun h => h hz))))
                clear HBAD HNX HRN HRR HZZ
                go_wp2_with fail
                with_reducible refine (HC3.out).mono ?_
                rintro e w4 ⟨rfl, hb4⟩
                have HB4 := Lib.hid (HB3.out.trans (hb4.mono HB3.out.size))
                go_wp2_with fail
                go_ret
                exact ⟨by rw [hck3 HLIM.out HF.out]; rfl, HB4.out⟩
              · have hz0 : (chg es == 0) = false := beq_eq_false_iff_ne.2 hz
                have HRX := Lib.hid (HRR.out HKC.out HNE.out hz)
                clear hz HRR HZZ
                generalize chg es = cz at *
                go_wp2_with fail
                with_reducible refine (HC3.out).mono ?_
                rintro e w4 ⟨rfl, hb4⟩
                have HB4 := Lib.hid (HB3.out.trans (hb4.mono HB3.out.size))
                have HX4 := Lib.hid ((hb4.block _ (L.blk_lt HX3.out)).trans HX3.out)
                have HPR4 := Lib.hid (fun h => (HPR3.out h).below hb4)
                have HS4 := Lib.hid (HSD3.out w4 hb4)
                clear HC3 HSD3 hb4 HX3 HPR3
                go_wp2_with fail
                with_reducible refine (HS4.out).mono ?_
                rintro e w5 ⟨XA, xc, YA, yc, rfl, -, -, hb5⟩
                have HB5 := Lib.hid (HB4.out.trans (hb5.mono HB4.out.size))
                have HX5 := Lib.hid ((hb5.block _ (L.blk_lt HX4.out)).trans HX4.out)
                have HPR5 := Lib.hid (fun h => (HPR4.out h).below hb5)
                obtain ⟨x0, x1, x2, x3, x4⟩ := hkC_cells HX5.out
                clear HS4 hb5 HX4 HPR4
                generalize (sides es).1.length = n1 at *
                generalize (sides es).2.length = n2 at *

                by_cases q0 : o ≠ (n1 : Int)
                · have HF := Lib.hid (HBAD.out (.inl (by rw [HRX.out, decide_eq_true q0]; simp)))
                  have e0 : (o != (n1 : Int)) = true := by simpa [bne] using q0
                  clear HBAD HNX HRN HRX q0
                  go_wp2_with fail
                  go_ret
                  exact ⟨by rw [hck3 HLIM.out HF.out]; rfl, HB5.out⟩
                have e0 : (o != (n1 : Int)) = false := by simpa [bne] using q0
                by_cases q1 : nn ≠ (n2 : Int)
                · have HF := Lib.hid (HBAD.out (.inl (by rw [HRX.out, decide_eq_true q1]; simp)))
                  have e1 : (nn != (n2 : Int)) = true := by simpa [bne] using q1
                  clear HBAD HNX HRN HRX q1
                  go_wp2_with fail
                  go_ret
                  exact ⟨by rw [hck3 HLIM.out HF.out]; rfl, HB5.out⟩
                have e1 : (nn != (n2 : Int)) = false := by simpa [bne] using q1
                by_cases q2 : 400 < o
                · have HF := Lib.hid (HBAD.out (.inl (by rw [HRX.out, decide_eq_true q2]; simp)))
                  have e2 : decide (400 < o) = true := decide_eq_true q2
                  clear HBAD HNX HRN HRX q2
                  go_wp2_with fail
                  go_ret
                  exact ⟨by rw [hck3 HLIM.out HF.out]; rfl, HB5.out⟩
                have e2 : decide (400 < o) = false := decide_eq_false q2
                by_cases q3 : 400 < nn
                · have HF := Lib.hid (HBAD.out (.inl (by rw [HRX.out, decide_eq_true q3]; simp)))
                  have e3 : decide (400 < nn) = true := decide_eq_true q3
                  clear HBAD HNX HRN HRX q3
                  go_wp2_with fail
                  go_ret
                  exact ⟨by rw [hck3 HLIM.out HF.out]; rfl, HB5.out⟩
                have e3 : decide (400 < nn) = false := decide_eq_false q3
                by_cases q4 : oa < 0
                · have HF := Lib.hid (HBAD.out (.inl (by rw [HRX.out, decide_eq_true q4]; simp)))
                  have e4 : decide (oa < 0) = true := decide_eq_true q4
                  clear HBAD HNX HRN HRX q4
                  go_wp2_with fail
                  go_ret
                  exact ⟨by rw [hck3 HLIM.out HF.out]; rfl, HB5.out⟩
                have e4 : decide (oa < 0) = false := decide_eq_false q4
                by_cases q5 : 400 < oa
                · have HF := Lib.hid (HBAD.out (.inl (by rw [HRX.out, decide_eq_true q5]; simp)))
                  have e5 : decide (400 < oa) = true := decide_eq_true q5
                  clear HBAD HNX HRN HRX q5
                  go_wp2_with fail
                  go_ret
                  exact ⟨by rw [hck3 HLIM.out HF.out]; rfl, HB5.out⟩
                have e5 : decide (400 < oa) = false := decide_eq_false q5
                by_cases q6 : na < 0
                · have HF := Lib.hid (HBAD.out (.inl (by rw [HRX.out, decide_eq_true q6]; simp)))
                  have e6 : decide (na < 0) = true := decide_eq_true q6
                  clear HBAD HNX HRN HRX q6
                  go_wp2_with fail
                  go_ret
                  exact ⟨by rw [hck3 HLIM.out HF.out]; rfl, HB5.out⟩
                have e6 : decide (na < 0) = false := decide_eq_false q6
                by_cases q7 : 400 < na
                · have HF := Lib.hid (HBAD.out (.inl (by rw [HRX.out, decide_eq_true q7]; simp)))
                  have e7 : decide (400 < na) = true := decide_eq_true q7
                  clear HBAD HNX HRN HRX q7
                  go_wp2_with fail
                  go_ret
                  exact ⟨by rw [hck3 HLIM.out HF.out]; rfl, HB5.out⟩
                have e7 : decide (400 < na) = false := decide_eq_false q7
                have hrt : rgt ⟨oa, o, na, nn, es⟩ = true := by rw [HRX.out, decide_eq_false q0, decide_eq_false q1, decide_eq_false q2, decide_eq_false q3, decide_eq_false q4, decide_eq_false q5, decide_eq_false q6, decide_eq_false q7]; rfl
                have HOK4 := Lib.hid (HRN.out hrt)
                have HBF := Lib.hid (fun h => HBAD.out (.inr h))
                have HNF := Lib.hid (fun h => HNX.out hrt h)
                have HFLW : Hid (flw (p0 + p1) (p2 + p3) ⟨oa, o, na, nn, es⟩ = !(decide (oa < p0 + p1) || (oa - (p0 + p1) != na - (p2 + p3)))) := Lib.hid (by unfold flw; rw [Bool.eq_iff_iff]; simp [bne] <;> omega)
                have HX6 := Lib.hid x0
                clear q0 q1 q2 q3 q4 q5 q6 q7 hrt HBAD HNX HRN HRX
                obtain ⟨a1, a2, a3, a4⟩ := HP.out
                unfold ok4 at a1 a2 a3 a4
                obtain ⟨b1, -, b3, -⟩ := HOK4.out
                unfold ok4 at b1 b3
                have v1 : IntKind.i64.wrap (p0 + p1) = p0 + p1 := by rw [IntKind.wrap_i64]; omega
                have v2 : IntKind.i64.wrap (p2 + p3) = p2 + p3 := by rw [IntKind.wrap_i64]; omega
                have v3 : IntKind.i64.wrap (oa - (p0 + p1)) = oa - (p0 + p1) := by rw [IntKind.wrap_i64]; omega
                have v4 : IntKind.i64.wrap (na - (p2 + p3)) = na - (p2 + p3) := by rw [IntKind.wrap_i64]; omega
                clear a1 a2 a3 a4 b1 b3
                by_cases hk0 : k = 0
                · subst hk0
                  obtain ⟨rfl, rfl, rfl, rfl⟩ := HP0.out rfl
                  simp only [Int.add_zero, Int.sub_zero] at HBF HNF HFLW v1 v2 v3 v4
                  have hgd0 : decide ((0 : Int) < ((0 : Nat) : Int)) = false := rfl
                  by_cases g1 : oa < 0
                  · have HF := Lib.hid (HBF.out (by rw [HFLW.out, decide_eq_true g1]; simp))
                    rw [decide_eq_false_iff_not] at e4
                    exact absurd g1 e4
                  · have hg1 : decide (oa < 0) = false := decide_eq_false g1
                    cases hg2 : (oa != na) with
                    | true =>
                      have HF := Lib.hid (HBF.out (by rw [HFLW.out, hg2]; simp))
                      clear HBF HNF HFLW g1
                      go_wp2_with fail
                      go_ret
                      exact ⟨by rw [hck3 HLIM.out HF.out]; rfl, HB5.out⟩
                    | false =>
                      have HF := Lib.hid (HNF.out (by rw [HFLW.out, hg1, hg2]; rfl))
                      clear HBF HNF HFLW g1
                      go_wp2_with fail
                      go_roundg (hs.length - (0 + 1))
                      case rel => exact ⟨0 + 1, oa, o, na, nn, by omega, by go_num, Nat.le_refl _, HOK4, Lib.hid ⟨fun h => by omega, fun _ => HNP.out⟩, HF, HB5⟩
                      case measure => omega
                · obtain ⟨bk', off', hAA, hPR⟩ := HPR5.out (by omega)
                  obtain ⟨rfl, rfl⟩ : bk = bk' ∧ off = off' := by injection hAA with e; injection e with e1 e2; exact ⟨e1, e2⟩
                  have HPRW := Lib.hid hPR
                  have hgk : (0 : Int) < (k : Int) := by omega
                  have hwk : IntKind.i64.wrap ((k : Int) - 1) = ((k - 1 : Nat) : Int) := by rw [IntKind.wrap_i64]; omega
                  obtain ⟨k1, hk1⟩ : ∃ k1, k1 = k - 1 := ⟨_, rfl⟩
                  rw [← hk1] at hwk HPRW
                  have h0k1 : (0 : Int) ≤ (k1 : Int) := by omega
                  have hk1n : (k1 : Int) < (hs.length : Int) := by omega
                  obtain ⟨d0, d1, -, -⟩ := HPRW.out w5 (Below.refl _ _)
                  clear hPR hAA HPR5 hk1
                  go_wp2_with fail
                  go_quiet (fail)
                  obtain ⟨w6, hw6⟩ : ∃ W : World, W = w5.drewN nq := ⟨_, rfl⟩
                  rw [← hw6]
                  have hb6 : Below w5.heap.size w5 w6 := by rw [hw6]; exact V.drawn_below w5 nq
                  obtain ⟨-, -, d2, d3⟩ := HPRW.out w6 hb6
                  have HB6 := Lib.hid (HB5.out.trans (hb6.mono HB5.out.size))
                  have x0 := (hb6.cell (p := ⟨xb, 0, none⟩) (L.blk_lt HX5.out)).trans x0
                  have x2 := (hb6.cell (p := ⟨xb, 2, none⟩) (L.blk_lt HX5.out)).trans x2
                  have hx6 := Nat.lt_of_lt_of_le (L.blk_lt HX5.out) hb6.size
                  clear hw6 d0 d1 nq hb6 HPRW x1 x3 x4 HX6 HX5
                  go_wp2_with fail
                  go_quiet (fail)
                  obtain ⟨w7, hw7⟩ : ∃ W : World, W = w6.drewN nq := ⟨_, rfl⟩
                  rw [← hw7]
                  have hb7 : Below w6.heap.size w6 w7 := by rw [hw7]; exact V.drawn_below w6 nq
                  have HB7 := Lib.hid (HB6.out.trans (hb7.mono HB6.out.size))
                  have x0 := (hb7.cell (p := ⟨xb, 0, none⟩) hx6).trans x0
                  have x2 := (hb7.cell (p := ⟨xb, 2, none⟩) hx6).trans x2
                  clear hw7 d2 d3 nq hb7
                  by_cases g1 : oa < p0 + p1
                  · have HF := Lib.hid (HBF.out (by rw [HFLW.out, decide_eq_true g1]; simp))
                    have hg1 : decide (oa < p0 + p1) = true := decide_eq_true g1
                    clear HBF HNF HFLW g1
                    go_wp2_with fail
                    go_ret
                    exact ⟨by rw [hck3 HLIM.out HF.out]; rfl, HB7.out⟩
                  · have hg1 : decide (oa < p0 + p1) = false := decide_eq_false g1
                    cases hg2 : (oa - (p0 + p1) != na - (p2 + p3)) with
                    | true =>
                      have HF := Lib.hid (HBF.out (by rw [HFLW.out, hg2]; simp))
                      clear HBF HNF HFLW g1
                      go_wp2_with fail
                      go_ret
                      exact ⟨by rw [hck3 HLIM.out HF.out]; rfl, HB7.out⟩
                    | false =>
                      have HF := Lib.hid (HNF.out (by rw [HFLW.out, hg1, hg2]; rfl))
                      clear HBF HNF HFLW g1
                      go_wp2_with fail
                      go_roundg (hs.length - (k + 1))
                      case rel => exact ⟨k + 1, oa, o, na, nn, by omega, by go_num, Nat.le_refl _, HOK4, Lib.hid ⟨fun h => by omega, fun _ => HNP.out⟩, HF, HB7⟩
                      case measure => omega
            · have HF := Lib.hid (HBAD.out (.inl (HNM.out he)))
              have hqe : decide (norm es = es) = false := decide_eq_false he
              rw [hqe] at HQ
              clear hqe he HBAD HNX HRN HRR HZZ HNM
              go_wp2_with fail
              with_reducible refine (HQ.out).mono ?_
              rintro e w3 ⟨rfl, q3, hw3⟩
              have HB3 : Hid (Below w.heap.size w w3) := Lib.hid (by rw [hw3]; exact HB2.out.trans ((V.drawn_below w2 q3).mono HB2.out.size))
              clear HQ hw3
              go_wp2_with fail
              go_ret
              exact ⟨by rw [hck3 HLIM.out HF.out]; rfl, HB3.out⟩
          · have hnm : nrm es = [] := by unfold nrm; rw [if_neg hck]
            rw [hnm] at HN
            have HF := Lib.hid (HBAD.out (.inl (HCK.out hck)))
            clear HBAD HNX HRN HRR HZZ HNM HCK
            generalize ck es = q at *
            have h0 : (q == 0) = false := beq_eq_false_iff_ne.2 hck
            have h1 : (q != 0) = true := by simp [bne, h0]
            clear hnm hck
            go_wp2_with fail
            with_reducible refine (HN.out).mono ?_
            rintro e w2 ⟨NA, nc, rfl, -, hb2⟩
            have HB2 := Lib.hid (HB1.out.trans (hb2.mono HB1.out.size))
            clear HN hb2
            go_wp2_with fail
            go_ret
            exact ⟨by rw [hck3 HLIM.out HF.out]; rfl, HB2.out⟩
        · obtain rfl : k = hs.length := by omega
          have HF : Hid (chain 0 0 hs = true) := Lib.hid (by rw [HCH.out, List.drop_length]; rfl)
          go_wp2_with fail
          go_ret
          exact ⟨by rw [hck0 HLIM.out HF.out]; rfl, HB.out⟩
end Go.Proofs.Ytigghcmbdnidnaa.H

namespace Go.Proofs.Ytigghcmbdnidnaa.H
set_option linter.unusedVariables false
set_option linter.unusedSimpArgs false
open Go.RowKit
open T S
open V (grown_of)
open I (alloc1 own_at own_below)
open N (Ln)

def LcEnd (w : World) (l : List Ln) (e : Ending) (w' : World) : Prop :=
  ∃ A cap, e = .returned (.slice A l.length cap) ∧ w'.ownsRow w.heap.size 59 2 (.slice A l.length cap) l.length (lineCells l) ∧ Below w.heap.size w w'
def JnEnd (w : World) (es : List Ed) (e : Ending) (w' : World) : Prop :=
  ∃ A cap, e = .returned (.slice A es.length cap) ∧ EdsIn 0 w' A es ∧ Below w.heap.size w w'
/-- Edits that are gathered. -/
abbrev Gt (w0 w : World) (vs : Value) (rs : List Raw) (es : List Ed) : Prop := Rq w0 w w0.heap.size vs (.slice none 0 0) (.slice none 0 0) (.slice none 0 0) rs es [] [] []
/-- Where only that row has grown. -/
structure Kx (W : World) (vs : Value) (wz : World) : Prop where
  g : W.grownBy wz vs.ownBlock
theorem Kx.below {W wz w' : World} {vs : Value} (h : Kx W vs wz) (hb : Below wz.heap.size wz w') : Kx W vs w' := ⟨h.g.trans (grown_of hb _)⟩
theorem Gt.nil (w : World) : Gt w w (.slice none 0 0) [] [] :=
  ⟨World.ownsRow_nil _ _ _ _, World.ownsRow_nil _ _ _ _, World.ownsRow_nil _ _ _ _, World.ownsRow_nil _ _ _ _, Apart.nil _, Apart.nil _, Apart.nil _, ⟨rfl, fun j h => by simp at h⟩, fun r hr => by simp at hr, Below.refl _ _, Nat.le_refl _, Nat.le_refl _⟩
theorem join_take {hs : List Hk} {k : Nat} (hk : k < hs.length) : join (hs.take (k + 1)) = join (hs.take k) ++ hs[k].es := by
  unfold join
  rw [List.take_succ_eq_append_getElem hk, List.flatMap_append]
  simp
theorem join_le (hs : List Hk) (k : Nat) : (join (hs.take k)).length ≤ (join hs).length := by
  have : join (hs.take k) ++ join (hs.drop k) = join hs := by
    unfold join
    rw [← List.flatMap_append, List.take_append_drop]
  rw [← this, List.length_append]; omega
end Go.Proofs.Ytigghcmbdnidnaa.H
