/-
  Check, the code's and the reference's.
-/
import Derived.Test.YtimalohdchhjgaaGhe
namespace Go.Proofs.Ytimalohdchhjgaa.H
set_option linter.unusedVariables false
set_option linter.unusedSimpArgs false
open Go.RowKit
open T S
open V (grown_of)
open I (alloc1 own_at own_below)
open N (Ln)

theorem chain_cons {hs : List Hk} {k : Nat} (hk : k < hs.length) (x y : Int) : chain x y (hs.drop k) = (rgt hs[k] && flw x y hs[k] && chain (hs[k].oa + hs[k].o) (hs[k].na + hs[k].n) (hs.drop (k + 1))) := by
  rw [List.drop_eq_getElem_cons hk, chain]
theorem chain_bad {hs : List Hk} {k : Nat} (hk : k < hs.length) {x y : Int} (hc : chain 0 0 hs = chain x y (hs.drop k)) (h : rgt hs[k] = false ∨ flw x y hs[k] = false) : chain 0 0 hs = false := by
  rw [hc, chain_cons hk]
  rcases h with h | h <;> simp [h]
theorem chain_next {hs : List Hk} {k : Nat} (hk : k < hs.length) {x y : Int} (hc : chain 0 0 hs = chain x y (hs.drop k)) (h1 : rgt hs[k] = true) (h2 : flw x y hs[k] = true) : chain 0 0 hs = chain (hs[k].oa + hs[k].o) (hs[k].na + hs[k].n) (hs.drop (k + 1)) := by
  rw [hc, chain_cons hk, h1, h2]; simp
theorem hck4 {hs : List Hk} (h : lim hs = false) : hck hs = 4 := by rw [hck_lim, h]; rfl
theorem hck3 {hs : List Hk} (h : lim hs = true) (h2 : chain 0 0 hs = false) : hck hs = 3 := by rw [hck_lim, h, h2]; rfl
theorem hck0 {hs : List Hk} (h : lim hs = true) (h2 : chain 0 0 hs = true) : hck hs = 0 := by rw [hck_lim, h, h2]; rfl
/-- The hunk ahead. -/
def Pr (A : Option Addr) (k : Nat) (p0 p1 p2 p3 : Int) (w : World) : Prop := ∃ bk off, A = some ⟨bk, off, none⟩ ∧ ∀ W, Below w.heap.size w W → W.cell? ⟨bk, off + (k - 1) * 5, none⟩ = some (.int .i64 p0) ∧ W.cell? ⟨bk, off + (k - 1) * 5 + 1, none⟩ = some (.int .i64 p1) ∧ W.cell? ⟨bk, off + (k - 1) * 5 + 2, none⟩ = some (.int .i64 p2) ∧ W.cell? ⟨bk, off + (k - 1) * 5 + 3, none⟩ = some (.int .i64 p3)
theorem Pr.below {A : Option Addr} {k : Nat} {p0 p1 p2 p3 : Int} {w w' : World} (h : Pr A k p0 p1 p2 p3 w) (hb : Below w.heap.size w w') : Pr A k p0 p1 p2 p3 w' := by
  obtain ⟨bk, off, h1, h2⟩ := h
  exact ⟨bk, off, h1, fun W hW => h2 W (hb.trans (hW.mono hb.size))⟩
def CkEnd (w : World) (q : Int) (e : Ending) (w' : World) : Prop := e = .returned (.int .i64 q) ∧ Below w.heap.size w w'
abbrev hkC (oa o na n : Int) (EA : Option Addr) (k ec : Nat) : Obj := .cells #[.int .i64 oa, .int .i64 o, .int .i64 na, .int .i64 n, .slice EA k ec] 44
theorem hkC_cells {w : World} {xb : Nat} {oa o na n : Int} {EA : Option Addr} {k ec : Nat} (h : w.heap[xb]? = some (hkC oa o na n EA k ec)) :
    w.cell? ⟨xb, 0, none⟩ = some (.int .i64 oa) ∧ w.cell? ⟨xb, 1, none⟩ = some (.int .i64 o) ∧ w.cell? ⟨xb, 2, none⟩ = some (.int .i64 na) ∧ w.cell? ⟨xb, 3, none⟩ = some (.int .i64 n) ∧ w.cell? ⟨xb, 4, none⟩ = some (.slice EA k ec) :=
  ⟨L.blk_cell h 0, L.blk_cell h 1, L.blk_cell h 2, L.blk_cell h 3, L.blk_cell h 4⟩
set_option maxRecDepth 100000 in
set_option maxHeartbeats 4000000 in
theorem hcheck_any (A : Option Addr) (c b : Nat) (hs : List Hk) (w : World) (hH : HksIn b w A hs) (hok : HksOk hs) :
    Calls Try.prog 13 #[.slice A hs.length c] w (CkEnd w (hck hs)) := by
  have HW := Lib.hid (within_any A c b hs w hH hok)
  have HH := Lib.hid (hH.low (Nat.zero_le _))
  have hl := hok.len
  have HES := Lib.hid hok.es
  unfold maxLen at hl
  clear hH hok
  unfold CkEnd
  cases hlim : lim hs with
  | false =>
    rw [hlim] at HW
    have HR := Lib.hid (hck4 hlim)
    rw [HR.out]
    clear hlim HR
    go_enter Try.func13, Try.ntmps13
    go_wp2_with fail
    with_reducible refine (HW.out).mono ?_
    rintro e w1 ⟨rfl, hb1⟩
    go_wp2_with fail
    go_ret
    exact ⟨rfl, hb1⟩
  | true =>
    rw [hlim] at HW
    have HLIM := Lib.hid hlim
    clear hlim
    go_enter Try.func13, Try.ntmps13
    go_wp2_with fail
    with_reducible refine (HW.out).mono ?_
    rintro e w1 ⟨rfl, hb1⟩
    obtain ⟨W0, hW0⟩ : ∃ W : World, W = w1.alloc (hkC 0 0 0 0 none 0 0) := ⟨_, rfl⟩
    have HAB : Hid (W0.heap[w1.heap.size]? = some (hkC 0 0 0 0 none 0 0)) := Lib.hid (by rw [hW0]; exact heap_alloc_new w1 _)
    have HB0 : Hid (Below w.heap.size w W0) := Lib.hid (hb1.trans ((show Below w1.heap.size w1 W0 by rw [hW0]; exact alloc1 _ _).mono hb1.size))
    have hab : w.heap.size ≤ w1.heap.size := hb1.size
    clear hb1 HW
    go_upto_region 4 with fail
    rw [← hW0]
    obtain ⟨ab, hx⟩ : ∃ ab, ab = w1.heap.size := ⟨_, rfl⟩
    rw [← hx] at HAB hab ⊢
    clear hW0 hx
    go_wp2_with fail
    go_loopg [11] hs.length (fun m iv wr => ∃ (k : Nat) (p0 p1 p2 p3 : Int) (PA : Option Addr) (pk pc : Nat), k ≤ hs.length ∧ iv = .int .i64 k ∧ hs.length - k ≤ m ∧ Hid (ok4 p0 ∧ ok4 p1 ∧ ok4 p2 ∧ ok4 p3) ∧ Hid (chain 0 0 hs = chain (p0 + p1) (p2 + p3) (hs.drop k)) ∧ Hid (wr.heap[ab]? = some (hkC p0 p1 p2 p3 PA pk pc)) ∧ Hid (Below w.heap.size w wr))
    case atStart => exact ⟨0, 0, 0, 0, 0, none, 0, 0, Nat.zero_le _, rfl, by omega, Lib.hid (by unfold ok4; omega), Lib.hid (by simp), HAB, HB0⟩
    case round =>
      clear HAB HB0
      obtain ⟨k, p0, p1, p2, p3, PA, pk, pc, hk, rfl, hmm, HP, HCH, HAB, HB⟩ := hrel
      by_cases hlt : k < hs.length
      · obtain ⟨bk, off, EA, ec, hAe, c0, c1, c2, c3, c4, hE, -, -⟩ := hunk_at HH.out HB.out hlt
        subst hAe
        have HBAD := Lib.hid (fun h => chain_bad hlt HCH.out h)
        have HNX := Lib.hid (fun h1 h2 => chain_next hlt HCH.out h1 h2)
        have HRN := Lib.hid (fun (q : rgt hs[k] = true) => rgt_nums q)
        have hes := HES.out _ (List.getElem_mem hlt)
        have hh : hs[k] = ⟨hs[k].oa, hs[k].o, hs[k].na, hs[k].n, hs[k].es⟩ := rfl
        rw [hh] at HBAD HNX HRN
        simp only at HBAD HNX HRN
        clear HCH hh
        generalize hs[k].oa = oa at *
        generalize hs[k].o = o at *
        generalize hs[k].na = na at *
        generalize hs[k].n = nn at *
        generalize hs[k].es = es at *
        obtain ⟨W1, hW1⟩ : ∃ W : World, W = wr.alloc (hkC oa o na nn EA es.length ec) := ⟨_, rfl⟩
        have hX := heap_alloc_new wr (hkC oa o na nn EA es.length ec)
        rw [← hW1] at hX
        have hb1 : Below wr.heap.size wr W1 := by rw [hW1]; exact alloc1 _ _
        have HB1 := Lib.hid (HB.out.trans (hb1.mono HB.out.size))
        have HAB1 := Lib.hid ((hb1.block _ (L.blk_lt HAB.out)).trans HAB.out)
        have HR := Lib.hid (right_any EA ec ⟨oa, o, na, nn, es⟩ W1 (hE.below HB1.out) hes)
        unfold hkV at HR
        simp only at HR
        have HX := Lib.hid hX
        obtain ⟨x0, x1, x2, x3, x4⟩ := hkC_cells hX
        have h0k : (0 : Int) ≤ (k : Int) := by omega
        have hki : (k : Int) < (hs.length : Int) := by omega
        clear hX hE hes HB HAB hb1
        go_upto_region 7 with fail
        rw [← hW1]
        obtain ⟨xb, hxb⟩ : ∃ xb, xb = wr.heap.size := ⟨_, rfl⟩
        rw [← hxb] at x0 x1 x2 x3 x4 HX ⊢
        clear hW1 hxb c0 c1 c2 c3 c4
        cases hr : rgt ⟨oa, o, na, nn, es⟩ with
        | false =>
          have HF := Lib.hid (HBAD.out (.inl hr))
          rw [hr] at HR
          clear hr HBAD HNX HRN
          go_wp2_with fail
          with_reducible refine (HR.out).mono ?_
          rintro e w2 ⟨rfl, hb2⟩
          have HB2 := Lib.hid (HB1.out.trans (hb2.mono HB1.out.size))
          clear hb2 HR
          go_wp2_with fail
          go_ret
          exact ⟨by rw [hck3 HLIM.out HF.out]; rfl, HB2.out⟩
        | true =>
          rw [hr] at HR
          obtain ⟨n1, n2, n3, n4⟩ := HRN.out hr
          have HFL := Lib.hid (fun W => follows_any p0 p1 p2 p3 oa o na nn PA EA pk pc es.length ec es W HP.out.1 HP.out.2.1 HP.out.2.2.1 HP.out.2.2.2 n1 n3)
          unfold hkV at HFL
          cases hf : flw (p0 + p1) (p2 + p3) ⟨oa, o, na, nn, es⟩ with
          | false =>
            have HF := Lib.hid (HBAD.out (.inr hf))
            rw [hf] at HFL
            clear hr hf HBAD HNX HRN n1 n2 n3 n4
            go_wp2_with fail
            with_reducible refine (HR.out).mono ?_
            rintro e w2 ⟨rfl, hb2⟩
            have HB2 := Lib.hid (HB1.out.trans (hb2.mono HB1.out.size))
            have hX2 := (hb2.block _ (L.blk_lt HX.out)).trans HX.out
            have hA2 := (hb2.block _ (L.blk_lt HAB1.out)).trans HAB1.out
            obtain ⟨y0, y1, y2, y3, y4⟩ := hkC_cells hX2
            obtain ⟨z0, z1, z2, z3, z4⟩ := hkC_cells hA2
            have HF2 := Lib.hid (HFL.out w2)
            clear hb2 HR hX2 hA2 x0 x1 x2 x3 x4 HFL HX HAB1
            go_wp2_with fail
            with_reducible refine (HF2.out).mono ?_
            rintro e w3 ⟨rfl, hb3⟩
            have HB3 := Lib.hid (HB2.out.trans (hb3.mono HB2.out.size))
            clear hb3 HF2
            go_wp2_with fail
            go_ret
            exact ⟨by rw [hck3 HLIM.out HF.out]; rfl, HB3.out⟩
          | true =>
            have HF := Lib.hid (HNX.out hr hf)
            rw [hf] at HFL
            have HP' : Hid (ok4 oa ∧ ok4 o ∧ ok4 na ∧ ok4 nn) := Lib.hid ⟨n1, n2, n3, n4⟩
            clear hr hf HBAD HNX HRN n1 n2 n3 n4 HP
            go_wp2_with fail
            with_reducible refine (HR.out).mono ?_
            rintro e w2 ⟨rfl, hb2⟩
            have HB2 := Lib.hid (HB1.out.trans (hb2.mono HB1.out.size))
            have hX2 := (hb2.block _ (L.blk_lt HX.out)).trans HX.out
            have hA2 := (hb2.block _ (L.blk_lt HAB1.out)).trans HAB1.out
            obtain ⟨y0, y1, y2, y3, y4⟩ := hkC_cells hX2
            obtain ⟨z0, z1, z2, z3, z4⟩ := hkC_cells hA2
            have HF2 := Lib.hid (HFL.out w2)
            have HX2 := Lib.hid hX2
            have HA2 := Lib.hid hA2
            clear hb2 HR hX2 hA2 x0 x1 x2 x3 x4 HFL HX HAB1
            go_wp2_with fail
            with_reducible refine (HF2.out).mono ?_
            rintro e w3 ⟨rfl, hb3⟩
            have HB3 := Lib.hid (HB2.out.trans (hb3.mono HB2.out.size))
            have hX3 := (hb3.block _ (L.blk_lt HX2.out)).trans HX2.out
            have hA3 := (hb3.block _ (L.blk_lt HA2.out)).trans HA2.out
            clear hb3 HF2 y0 y1 y2 y3 y4 z0 z1 z2 z3 z4 HX2 HA2
            obtain ⟨y0, y1, y2, y3, y4⟩ := hkC_cells hX3
            obtain ⟨z0, z1, z2, z3, z4⟩ := hkC_cells hA3
            have f0 := fun i => L.blk_free hA3 i
            have HA3 := Lib.hid hA3
            clear hX3 hA3
            go_wp2_with fail
            go_roundg (hs.length - (k + 1))
            case rel => exact ⟨k + 1, oa, o, na, nn, EA, es.length, ec, by omega, by go_num, Nat.le_refl _, HP', HF, Lib.hid (by
              have := L.blk_set (L.blk_set (L.blk_set (L.blk_set (L.blk_set HA3.out 0 (.int .i64 oa)) 1 (.int .i64 o)) 2 (.int .i64 na)) 3 (.int .i64 nn)) 4 (.slice EA es.length ec)
              exact this), Lib.hid (((((HB3.out.setCell (p := ⟨ab, 0, none⟩) hab _).setCell (p := ⟨ab, 1, none⟩) hab _).setCell (p := ⟨ab, 2, none⟩) hab _).setCell (p := ⟨ab, 3, none⟩) hab _).setCell (p := ⟨ab, 4, none⟩) hab _)⟩
            case measure => omega
      · obtain rfl : k = hs.length := by omega
        have HF : Hid (chain 0 0 hs = true) := Lib.hid (by rw [HCH.out, List.drop_length]; rfl)
        go_wp2_with fail
        go_ret
        exact ⟨by rw [hck0 HLIM.out HF.out]; rfl, HB.out⟩

theorem rgt_ref {h : Hk} (h1 : ck h.es = 0) (h2 : norm h.es = h.es) (h3 : chg h.es ≠ 0) : rgt h = !(decide (h.o ≠ ((sides h.es).1.length : Int)) || (decide (h.n ≠ ((sides h.es).2.length : Int)) || (decide (400 < h.o) || (decide (400 < h.n) || (decide (h.oa < 0) || (decide (400 < h.oa) || (decide (h.na < 0) || decide (400 < h.na)))))))) := by
  unfold rgt
  rw [decide_eq_true h1, decide_eq_true h2, decide_eq_true h3, Bool.true_and, Bool.true_and, Bool.true_and, Bool.eq_iff_iff]
  simp
  omega
set_option maxRecDepth 100000 in
set_option maxHeartbeats 8000000 in
theorem rhcheck_any (A : Option Addr) (c b : Nat) (hs : List Hk) (w : World) (hH : HksIn b w A hs) (hok : HksOk hs) :
    Calls Try.prog 14 #[.slice A hs.length c] w (CkEnd w (hck hs)) := by
  have HH := Lib.hid (hH.low (Nat.zero_le _))
  have hl := hok.len
  have HES := Lib.hid hok.es
  unfold maxLen at hl
  clear hH hok
  unfold CkEnd
  go_enter Try.func14, Try.ntmps14
  by_cases hlong : 400 < hs.length
  · have HR := Lib.hid (lim_long hlong)
    have h4 : (400 : Int) < (hs.length : Int) := by omega
    go_wp2_with fail
    go_ret
    exact ⟨by rw [hck4 HR.out]; rfl, Below.refl _ _⟩
  have h4 : ¬ (400 : Int) < (hs.length : Int) := by omega
  go_wp2_with fail
  go_loopg [3] hs.length (fun m iv wr => ∃ (k : Nat), k ≤ hs.length ∧ iv = .int .i64 k ∧ hs.length - k ≤ m ∧ Hid (∀ j (hj : j < hs.length), j < k → ck hs[j].es ≠ 4) ∧ Hid (Below w.heap.size w wr))
  case atStart => exact ⟨0, Nat.zero_le _, rfl, by omega, Lib.hid (fun j _ h => absurd h (Nat.not_lt_zero _)), Lib.hid (Below.refl _ _)⟩
  case round =>
    obtain ⟨k, hk, rfl, hmm, HOK, HB⟩ := hrel
    by_cases hlt : k < hs.length
    · obtain ⟨bk, off, EA, ec, hAe, c0, c1, c2, c3, c4, hE, -, -⟩ := hunk_at HH.out HB.out hlt
      subst hAe
      have HFM := Lib.hid (fun h => lim_at hlt h)
      have HNX : Hid (ck hs[k].es ≠ 4 → ∀ j (hj : j < hs.length), j < k + 1 → ck hs[j].es ≠ 4) := Lib.hid (fun h j hj hjk => by
        by_cases e : j = k
        · subst e; exact h
        · exact HOK.out j hj (by omega))
      have hes := HES.out _ (List.getElem_mem hlt)
      have HC := Lib.hid (rcheck_any EA ec 0 hs[k].es wr (hE.below HB.out) hes)
      have h0k : (0 : Int) ≤ (k : Int) := by omega
      have hki : (k : Int) < (hs.length : Int) := by omega
      generalize hs[k].es.length = el at *
      clear hE hes c0 c1 c2 c3
      by_cases hq : ck hs[k].es = 4
      · have HR := Lib.hid (HFM.out hq)
        rw [hq] at HC
        clear hq HFM HNX
        go_wp2_with fail
        with_reducible refine (HC.out).mono ?_
        rintro e w2 ⟨rfl, hb2⟩
        have HB2 := Lib.hid (HB.out.trans (hb2.mono HB.out.size))
        clear hb2
        go_wp2_with fail
        go_ret
        exact ⟨by rw [hck4 HR.out]; rfl, HB2.out⟩
      · have HR := Lib.hid (HNX.out hq)
        have hq4 : (ck hs[k].es == 4) = false := beq_eq_false_iff_ne.2 hq
        generalize ck hs[k].es = q at *
        clear hq HFM HNX
        go_wp2_with fail
        with_reducible refine (HC.out).mono ?_
        rintro e w2 ⟨rfl, hb2⟩
        have HB2 := Lib.hid (HB.out.trans (hb2.mono HB.out.size))
        clear hb2
        go_wp2_with fail
        go_roundg (hs.length - (k + 1))
        case rel => exact ⟨k + 1, by omega, by go_num, Nat.le_refl _, HR, HB2⟩
        case measure => omega
    · obtain rfl : k = hs.length := by omega
      have HLIM := Lib.hid (lim_all hlong (fun j hj => HOK.out j hj hj))
      clear HOK hk hmm hlt
      go_wp2_with fail
      go_loopg [4] hs.length (fun m iv wr => ∃ (k : Nat) (p0 p1 p2 p3 : Int), k ≤ hs.length ∧ iv = .int .i64 k ∧ hs.length - k ≤ m ∧ Hid (ok4 p0 ∧ ok4 p1 ∧ ok4 p2 ∧ ok4 p3) ∧ Hid ((k = 0 → p0 = 0 ∧ p1 = 0 ∧ p2 = 0 ∧ p3 = 0) ∧ (0 < k → ∃ x, hs[k - 1]? = some x ∧ x.oa = p0 ∧ x.o = p1 ∧ x.na = p2 ∧ x.n = p3)) ∧ Hid (chain 0 0 hs = chain (p0 + p1) (p2 + p3) (hs.drop k)) ∧ Hid (Below w.heap.size w wr))
      case atStart => exact ⟨0, 0, 0, 0, 0, Nat.zero_le _, rfl, by omega, Lib.hid (by unfold ok4; omega), Lib.hid ⟨fun _ => ⟨rfl, rfl, rfl, rfl⟩, fun h => absurd h (Nat.lt_irrefl _)⟩, Lib.hid (by simp), HB⟩
      case round =>
        clear HB
        obtain ⟨k, p0, p1, p2, p3, hk, rfl, hmm, HP, HPP, HCH, HB⟩ := hrel
        by_cases hlt : k < hs.length
        · have HPR : Hid (0 < k → Pr A k p0 p1 p2 p3 wr) := Lib.hid (fun h => by
            obtain ⟨x, qx, q0, q1, q2, q3⟩ := HPP.out.2 h
            obtain ⟨bk, off, hAe, -, hbk, hI⟩ := HH.out (by omega)
            obtain ⟨_, _, d0, d1, d2, d3, -⟩ := hI (k - 1) (by omega)
            rw [List.getElem?_eq_getElem (by omega)] at qx
            have qx := Option.some.inj qx
            rw [qx] at d0 d1 d2 d3
            rw [q0] at d0; rw [q1] at d1; rw [q2] at d2; rw [q3] at d3
            have hbw := Nat.lt_of_lt_of_le hbk HB.out.size
            exact ⟨bk, off, hAe, fun W hW => ⟨(hW.cell (p := ⟨bk, _, none⟩) hbw).trans ((HB.out.cell (p := ⟨bk, _, none⟩) hbk).trans d0), (hW.cell (p := ⟨bk, _, none⟩) hbw).trans ((HB.out.cell (p := ⟨bk, _, none⟩) hbk).trans d1), (hW.cell (p := ⟨bk, _, none⟩) hbw).trans ((HB.out.cell (p := ⟨bk, _, none⟩) hbk).trans d2), (hW.cell (p := ⟨bk, _, none⟩) hbw).trans ((HB.out.cell (p := ⟨bk, _, none⟩) hbk).trans d3)⟩⟩)
          have HP0 : Hid (k = 0 → p0 = 0 ∧ p1 = 0 ∧ p2 = 0 ∧ p3 = 0) := Lib.hid HPP.out.1
          obtain ⟨bk, off, EA, ec, hAe, c0, c1, c2, c3, c4, hE, -, -⟩ := hunk_at HH.out HB.out hlt
          subst hAe
          have HBAD := Lib.hid (fun h => chain_bad hlt HCH.out h)
          have HNX := Lib.hid (fun h1 h2 => chain_next hlt HCH.out h1 h2)
          have HRN := Lib.hid (fun (q : rgt hs[k] = true) => rgt_nums q)
          have HRR := Lib.hid (fun (q1 : ck hs[k].es = 0) (q2 : norm hs[k].es = hs[k].es) (q3 : chg hs[k].es ≠ 0) => rgt_ref q1 q2 q3)
          have HCK := Lib.hid (fun (q : ¬ ck hs[k].es = 0) => show rgt hs[k] = false by unfold rgt; rw [decide_eq_false q]; simp)
          have HNM := Lib.hid (fun (q : ¬ norm hs[k].es = hs[k].es) => show rgt hs[k] = false by unfold rgt; rw [decide_eq_false q]; simp)
          have HZZ := Lib.hid (fun (q : ¬ chg hs[k].es ≠ 0) => show rgt hs[k] = false by unfold rgt; rw [decide_eq_false q]; simp)
          have HNP : Hid (∃ x, hs[k + 1 - 1]? = some x ∧ x.oa = hs[k].oa ∧ x.o = hs[k].o ∧ x.na = hs[k].na ∧ x.n = hs[k].n) := Lib.hid ⟨hs[k], List.getElem?_eq_getElem hlt, rfl, rfl, rfl, rfl⟩
          have hes := HES.out _ (List.getElem_mem hlt)
          have hh : hs[k] = ⟨hs[k].oa, hs[k].o, hs[k].na, hs[k].n, hs[k].es⟩ := rfl
          rw [hh] at HBAD HNX HRN HRR HCK HNM HZZ
          simp only at HBAD HNX HRN HRR HCK HNM HZZ
          clear HCH hh HPP
          generalize hs[k].oa = oa at *
          generalize hs[k].o = o at *
          generalize hs[k].na = na at *
          generalize hs[k].n = nn at *
          generalize hs[k].es = es at *
          obtain ⟨W1, hW1⟩ : ∃ W : World, W = wr.alloc (hkC oa o na nn EA es.length ec) := ⟨_, rfl⟩
          have hX := heap_alloc_new wr (hkC oa o na nn EA es.length ec)
          rw [← hW1] at hX
          have hb1 : Below wr.heap.size wr W1 := by rw [hW1]; exact alloc1 _ _
          have HB1 := Lib.hid (HB.out.trans (hb1.mono HB.out.size))
          have HPR1 := Lib.hid (fun h => (HPR.out h).below hb1)
          have HE1 := Lib.hid (hE.below HB1.out)
          have HN := Lib.hid (rnormal_any EA ec 0 es W1 HE1.out hes)
          have HEO := Lib.hid hes
          have HX := Lib.hid hX
          obtain ⟨x0, x1, x2, x3, x4⟩ := hkC_cells hX
          have h0k : (0 : Int) ≤ (k : Int) := by omega
          have hki : (k : Int) < (hs.length : Int) := by omega
          clear hX hE hes HB hb1 HPR
          go_upto_region 12 with fail
          rw [← hW1]
          obtain ⟨xb, hxb⟩ : ∃ xb, xb = wr.heap.size := ⟨_, rfl⟩
          rw [← hxb] at x0 x1 x2 x3 x4 HX ⊢
          clear hW1 hxb c0 c1 c2 c3 c4
          by_cases hck : ck es = 0
          · have hnm : nrm es = norm es := by unfold nrm; rw [if_pos hck]
            rw [hnm, hck] at HN
            have hcn := (norm_ok hck).1
            have HON := Lib.hid (EdsOk.of_ck hcn)
            have HKC := Lib.hid hck
            clear hnm hck hcn HCK
            go_wp2_with fail
            with_reducible refine (HN.out).mono ?_
            rintro e w2 ⟨NA, nc, rfl, hE2, hb2⟩
            have HB2 := Lib.hid (HB1.out.trans (hb2.mono HB1.out.size))
            have HE2 := Lib.hid hE2
            have HX2 := Lib.hid ((hb2.block _ (L.blk_lt HX.out)).trans HX.out)
            have HPR2 := Lib.hid (fun h => (HPR1.out h).below hb2)
            have HQ := Lib.hid (esame_gen NA EA nc ec (norm es) es w2 HON.out HEO.out HE2.out (HE1.out.below hb2))
            clear HN hE2 hb2 x0 x1 x2 x3 x4 HX HPR1
            obtain ⟨x0, x1, x2, x3, x4⟩ := hkC_cells HX2.out
            by_cases he : norm es = es
            · have hqe : decide (norm es = es) = true := decide_eq_true he
              rw [hqe] at HQ
              have HCH := Lib.hid (fun W hb => rchanged_any NA nc 0 (norm es) W (HE2.out.below hb) HON.out)
              have HSD := Lib.hid (fun W hb => rsides_any NA nc 0 (norm es) W (HE2.out.below hb) HON.out)
              rw [he] at HCH HSD
              have hln : (norm es).length = es.length := by rw [he]
              rw [hln] at HQ ⊢
              rw [HKC.out] at HSD
              have HNE := Lib.hid he
              clear hqe he hln HNM
              go_wp2_with fail
              with_reducible refine (HQ.out).mono ?_
              rintro e w3 ⟨rfl, q3, hw3⟩
              have hb3 : Below w2.heap.size w2 w3 := by rw [hw3]; exact V.drawn_below w2 q3
              have HB3 := Lib.hid (HB2.out.trans (hb3.mono HB2.out.size))
              have HX3 := Lib.hid ((hb3.block _ (L.blk_lt HX2.out)).trans HX2.out)
              have HPR3 := Lib.hid (fun h => (HPR2.out h).below hb3)
              have HC3 := Lib.hid (HCH.out w3 hb3)
              have HSD3 := Lib.hid (fun W (hb : Below w3.heap.size w3 W) => HSD.out W (hb3.trans (hb.mono hb3.size)))
              clear HQ HCH HSD x0 x1 x2 x3 x4 hb3 hw3 HX2 HPR2
              by_cases hz : chg es = 0
              · have hz0 : (chg es == 0) = true := by simp [hz]
                have HF := Lib.hid (HBAD.out (.inl (HZZ.out (fun h => h hz))))
                clear HBAD HNX HRN HRR HZZ
                go_wp2_with fail
                with_reducible refine (HC3.out).mono ?_
                rintro e w4 ⟨rfl, hb4⟩
                have HB4 := Lib.hid (HB3.out.trans (hb4.mono HB3.out.size))
                go_wp2_with fail
                go_ret
                exact ⟨by rw [hck3 HLIM.out HF.out]; rfl, HB4.out⟩
              · have hz0 : (chg es == 0) = false := beq_eq_false_iff_ne.2 hz
                have HRX := Lib.hid (HRR.out HKC.out HNE.out hz)
                clear hz HRR HZZ
                generalize chg es = cz at *
                go_wp2_with fail
                with_reducible refine (HC3.out).mono ?_
                rintro e w4 ⟨rfl, hb4⟩
                have HB4 := Lib.hid (HB3.out.trans (hb4.mono HB3.out.size))
                have HX4 := Lib.hid ((hb4.block _ (L.blk_lt HX3.out)).trans HX3.out)
                have HPR4 := Lib.hid (fun h => (HPR3.out h).below hb4)
                have HS4 := Lib.hid (HSD3.out w4 hb4)
                clear HC3 HSD3 hb4 HX3 HPR3
                go_wp2_with fail
                with_reducible refine (HS4.out).mono ?_
                rintro e w5 ⟨XA, xc, YA, yc, rfl, -, -, hb5⟩
                have HB5 := Lib.hid (HB4.out.trans (hb5.mono HB4.out.size))
                have HX5 := Lib.hid ((hb5.block _ (L.blk_lt HX4.out)).trans HX4.out)
                have HPR5 := Lib.hid (fun h => (HPR4.out h).below hb5)
                obtain ⟨x0, x1, x2, x3, x4⟩ := hkC_cells HX5.out
                clear HS4 hb5 HX4 HPR4
                generalize (sides es).1.length = n1 at *
                generalize (sides es).2.length = n2 at *

                by_cases q0 : o ≠ (n1 : Int)
                · have HF := Lib.hid (HBAD.out (.inl (by rw [HRX.out, decide_eq_true q0]; simp)))
                  have e0 : (o != (n1 : Int)) = true := by simpa [bne] using q0
                  clear HBAD HNX HRN HRX q0
                  go_wp2_with fail
                  go_ret
                  exact ⟨by rw [hck3 HLIM.out HF.out]; rfl, HB5.out⟩
                have e0 : (o != (n1 : Int)) = false := by simpa [bne] using q0
                by_cases q1 : nn ≠ (n2 : Int)
                · have HF := Lib.hid (HBAD.out (.inl (by rw [HRX.out, decide_eq_true q1]; simp)))
                  have e1 : (nn != (n2 : Int)) = true := by simpa [bne] using q1
                  clear HBAD HNX HRN HRX q1
                  go_wp2_with fail
                  go_ret
                  exact ⟨by rw [hck3 HLIM.out HF.out]; rfl, HB5.out⟩
                have e1 : (nn != (n2 : Int)) = false := by simpa [bne] using q1
                by_cases q2 : 400 < o
                · have HF := Lib.hid (HBAD.out (.inl (by rw [HRX.out, decide_eq_true q2]; simp)))
                  have e2 : decide (400 < o) = true := decide_eq_true q2
                  clear HBAD HNX HRN HRX q2
                  go_wp2_with fail
                  go_ret
                  exact ⟨by rw [hck3 HLIM.out HF.out]; rfl, HB5.out⟩
                have e2 : decide (400 < o) = false := decide_eq_false q2
                by_cases q3 : 400 < nn
                · have HF := Lib.hid (HBAD.out (.inl (by rw [HRX.out, decide_eq_true q3]; simp)))
                  have e3 : decide (400 < nn) = true := decide_eq_true q3
                  clear HBAD HNX HRN HRX q3
                  go_wp2_with fail
                  go_ret
                  exact ⟨by rw [hck3 HLIM.out HF.out]; rfl, HB5.out⟩
                have e3 : decide (400 < nn) = false := decide_eq_false q3
                by_cases q4 : oa < 0
                · have HF := Lib.hid (HBAD.out (.inl (by rw [HRX.out, decide_eq_true q4]; simp)))
                  have e4 : decide (oa < 0) = true := decide_eq_true q4
                  clear HBAD HNX HRN HRX q4
                  go_wp2_with fail
                  go_ret
                  exact ⟨by rw [hck3 HLIM.out HF.out]; rfl, HB5.out⟩
                have e4 : decide (oa < 0) = false := decide_eq_false q4
                by_cases q5 : 400 < oa
                · have HF := Lib.hid (HBAD.out (.inl (by rw [HRX.out, decide_eq_true q5]; simp)))
                  have e5 : decide (400 < oa) = true := decide_eq_true q5
                  clear HBAD HNX HRN HRX q5
                  go_wp2_with fail
                  go_ret
                  exact ⟨by rw [hck3 HLIM.out HF.out]; rfl, HB5.out⟩
                have e5 : decide (400 < oa) = false := decide_eq_false q5
                by_cases q6 : na < 0
                · have HF := Lib.hid (HBAD.out (.inl (by rw [HRX.out, decide_eq_true q6]; simp)))
                  have e6 : decide (na < 0) = true := decide_eq_true q6
                  clear HBAD HNX HRN HRX q6
                  go_wp2_with fail
                  go_ret
                  exact ⟨by rw [hck3 HLIM.out HF.out]; rfl, HB5.out⟩
                have e6 : decide (na < 0) = false := decide_eq_false q6
                by_cases q7 : 400 < na
                · have HF := Lib.hid (HBAD.out (.inl (by rw [HRX.out, decide_eq_true q7]; simp)))
                  have e7 : decide (400 < na) = true := decide_eq_true q7
                  clear HBAD HNX HRN HRX q7
                  go_wp2_with fail
                  go_ret
                  exact ⟨by rw [hck3 HLIM.out HF.out]; rfl, HB5.out⟩
                have e7 : decide (400 < na) = false := decide_eq_false q7
                have hrt : rgt ⟨oa, o, na, nn, es⟩ = true := by rw [HRX.out, decide_eq_false q0, decide_eq_false q1, decide_eq_false q2, decide_eq_false q3, decide_eq_false q4, decide_eq_false q5, decide_eq_false q6, decide_eq_false q7]; rfl
                have HOK4 := Lib.hid (HRN.out hrt)
                have HBF := Lib.hid (fun h => HBAD.out (.inr h))
                have HNF := Lib.hid (fun h => HNX.out hrt h)
                have HFLW : Hid (flw (p0 + p1) (p2 + p3) ⟨oa, o, na, nn, es⟩ = !(decide (oa < p0 + p1) || (oa - (p0 + p1) != na - (p2 + p3)))) := Lib.hid (by unfold flw; rw [Bool.eq_iff_iff]; simp [bne] <;> omega)
                have HX6 := Lib.hid x0
                clear q0 q1 q2 q3 q4 q5 q6 q7 hrt HBAD HNX HRN HRX
                obtain ⟨a1, a2, a3, a4⟩ := HP.out
                unfold ok4 at a1 a2 a3 a4
                obtain ⟨b1, -, b3, -⟩ := HOK4.out
                unfold ok4 at b1 b3
                have v1 : IntKind.i64.wrap (p0 + p1) = p0 + p1 := by rw [IntKind.wrap_i64]; omega
                have v2 : IntKind.i64.wrap (p2 + p3) = p2 + p3 := by rw [IntKind.wrap_i64]; omega
                have v3 : IntKind.i64.wrap (oa - (p0 + p1)) = oa - (p0 + p1) := by rw [IntKind.wrap_i64]; omega
                have v4 : IntKind.i64.wrap (na - (p2 + p3)) = na - (p2 + p3) := by rw [IntKind.wrap_i64]; omega
                clear a1 a2 a3 a4 b1 b3
                by_cases hk0 : k = 0
                · subst hk0
                  obtain ⟨rfl, rfl, rfl, rfl⟩ := HP0.out rfl
                  simp only [Int.add_zero, Int.sub_zero] at HBF HNF HFLW v1 v2 v3 v4
                  have hgd0 : decide ((0 : Int) < ((0 : Nat) : Int)) = false := rfl
                  by_cases g1 : oa < 0
                  · have HF := Lib.hid (HBF.out (by rw [HFLW.out, decide_eq_true g1]; simp))
                    rw [decide_eq_false_iff_not] at e4
                    exact absurd g1 e4
                  · have hg1 : decide (oa < 0) = false := decide_eq_false g1
                    cases hg2 : (oa != na) with
                    | true =>
                      have HF := Lib.hid (HBF.out (by rw [HFLW.out, hg2]; simp))
                      clear HBF HNF HFLW g1
                      go_wp2_with fail
                      go_ret
                      exact ⟨by rw [hck3 HLIM.out HF.out]; rfl, HB5.out⟩
                    | false =>
                      have HF := Lib.hid (HNF.out (by rw [HFLW.out, hg1, hg2]; rfl))
                      clear HBF HNF HFLW g1
                      go_wp2_with fail
                      go_roundg (hs.length - (0 + 1))
                      case rel => exact ⟨0 + 1, oa, o, na, nn, by omega, by go_num, Nat.le_refl _, HOK4, Lib.hid ⟨fun h => by omega, fun _ => HNP.out⟩, HF, HB5⟩
                      case measure => omega
                · obtain ⟨bk', off', hAA, hPR⟩ := HPR5.out (by omega)
                  obtain ⟨rfl, rfl⟩ : bk = bk' ∧ off = off' := by injection hAA with e; injection e with e1 e2; exact ⟨e1, e2⟩
                  have HPRW := Lib.hid hPR
                  have hgk : (0 : Int) < (k : Int) := by omega
                  have hwk : IntKind.i64.wrap ((k : Int) - 1) = ((k - 1 : Nat) : Int) := by rw [IntKind.wrap_i64]; omega
                  obtain ⟨k1, hk1⟩ : ∃ k1, k1 = k - 1 := ⟨_, rfl⟩
                  rw [← hk1] at hwk HPRW
                  have h0k1 : (0 : Int) ≤ (k1 : Int) := by omega
                  have hk1n : (k1 : Int) < (hs.length : Int) := by omega
                  obtain ⟨d0, d1, -, -⟩ := HPRW.out w5 (Below.refl _ _)
                  clear hPR hAA HPR5 hk1
                  go_wp2_with fail
                  go_quiet (fail)
                  obtain ⟨w6, hw6⟩ : ∃ W : World, W = w5.drewN nq := ⟨_, rfl⟩
                  rw [← hw6]
                  have hb6 : Below w5.heap.size w5 w6 := by rw [hw6]; exact V.drawn_below w5 nq
                  obtain ⟨-, -, d2, d3⟩ := HPRW.out w6 hb6
                  have HB6 := Lib.hid (HB5.out.trans (hb6.mono HB5.out.size))
                  have x0 := (hb6.cell (p := ⟨xb, 0, none⟩) (L.blk_lt HX5.out)).trans x0
                  have x2 := (hb6.cell (p := ⟨xb, 2, none⟩) (L.blk_lt HX5.out)).trans x2
                  have hx6 := Nat.lt_of_lt_of_le (L.blk_lt HX5.out) hb6.size
                  clear hw6 d0 d1 nq hb6 HPRW x1 x3 x4 HX6 HX5
                  go_wp2_with fail
                  go_quiet (fail)
                  obtain ⟨w7, hw7⟩ : ∃ W : World, W = w6.drewN nq := ⟨_, rfl⟩
                  rw [← hw7]
                  have hb7 : Below w6.heap.size w6 w7 := by rw [hw7]; exact V.drawn_below w6 nq
                  have HB7 := Lib.hid (HB6.out.trans (hb7.mono HB6.out.size))
                  have x0 := (hb7.cell (p := ⟨xb, 0, none⟩) hx6).trans x0
                  have x2 := (hb7.cell (p := ⟨xb, 2, none⟩) hx6).trans x2
                  clear hw7 d2 d3 nq hb7
                  by_cases g1 : oa < p0 + p1
                  · have HF := Lib.hid (HBF.out (by rw [HFLW.out, decide_eq_true g1]; simp))
                    have hg1 : decide (oa < p0 + p1) = true := decide_eq_true g1
                    clear HBF HNF HFLW g1
                    go_wp2_with fail
                    go_ret
                    exact ⟨by rw [hck3 HLIM.out HF.out]; rfl, HB7.out⟩
                  · have hg1 : decide (oa < p0 + p1) = false := decide_eq_false g1
                    cases hg2 : (oa - (p0 + p1) != na - (p2 + p3)) with
                    | true =>
                      have HF := Lib.hid (HBF.out (by rw [HFLW.out, hg2]; simp))
                      clear HBF HNF HFLW g1
                      go_wp2_with fail
                      go_ret
                      exact ⟨by rw [hck3 HLIM.out HF.out]; rfl, HB7.out⟩
                    | false =>
                      have HF := Lib.hid (HNF.out (by rw [HFLW.out, hg1, hg2]; rfl))
                      clear HBF HNF HFLW g1
                      go_wp2_with fail
                      go_roundg (hs.length - (k + 1))
                      case rel => exact ⟨k + 1, oa, o, na, nn, by omega, by go_num, Nat.le_refl _, HOK4, Lib.hid ⟨fun h => by omega, fun _ => HNP.out⟩, HF, HB7⟩
                      case measure => omega
            · have HF := Lib.hid (HBAD.out (.inl (HNM.out he)))
              have hqe : decide (norm es = es) = false := decide_eq_false he
              rw [hqe] at HQ
              clear hqe he HBAD HNX HRN HRR HZZ HNM
              go_wp2_with fail
              with_reducible refine (HQ.out).mono ?_
              rintro e w3 ⟨rfl, q3, hw3⟩
              have HB3 : Hid (Below w.heap.size w w3) := Lib.hid (by rw [hw3]; exact HB2.out.trans ((V.drawn_below w2 q3).mono HB2.out.size))
              clear HQ hw3
              go_wp2_with fail
              go_ret
              exact ⟨by rw [hck3 HLIM.out HF.out]; rfl, HB3.out⟩
          · have hnm : nrm es = [] := by unfold nrm; rw [if_neg hck]
            rw [hnm] at HN
            have HF := Lib.hid (HBAD.out (.inl (HCK.out hck)))
            clear HBAD HNX HRN HRR HZZ HNM HCK
            generalize ck es = q at *
            have h0 : (q == 0) = false := beq_eq_false_iff_ne.2 hck
            have h1 : (q != 0) = true := by simp [bne, h0]
            clear hnm hck
            go_wp2_with fail
            with_reducible refine (HN.out).mono ?_
            rintro e w2 ⟨NA, nc, rfl, -, hb2⟩
            have HB2 := Lib.hid (HB1.out.trans (hb2.mono HB1.out.size))
            clear HN hb2
            go_wp2_with fail
            go_ret
            exact ⟨by rw [hck3 HLIM.out HF.out]; rfl, HB2.out⟩
        · obtain rfl : k = hs.length := by omega
          have HF : Hid (chain 0 0 hs = true) := Lib.hid (by rw [HCH.out, List.drop_length]; rfl)
          go_wp2_with fail
          go_ret
          exact ⟨by rw [hck0 HLIM.out HF.out]; rfl, HB.out⟩
end Go.Proofs.Ytimalohdchhjgaa.H
