/-
  The contract of delta's Make.
  The contracts of delta's checkPart, checkWithin, Size and Apply.
  Plain facts on numbers and their texts: the text of a number up to 2^31 - 1 is read as that number; what is read as a number is that number's text; reading without a bound and asking at the end comes to the same.
  What the shelf gives here: nothing more is asked of it.
-/
import Derived.Test.YtlggoplffhdkhaaDoorGje
import Derived.Test.YtlggoplffhdkhaaDoorGja
import Derived.Test.YtlggoplffhdkhaaDoorGjb
namespace Go.Proofs.YtlggoplffhdkhaaDoor.Dl
set_option linter.unusedVariables false
set_option linter.unusedSimpArgs false
open Go.RowKit Go.Maps
open T
open V (drawn_below grown_of)
open I (It ItemsIn ItemsAt itCells itCells_snoc itCells_at alloc1 own_at own_below items_of_own items_own infoItem ItemsIn.below)

/-- How far Make has come. -/
structure St (a b : List It) (i j : Nat) (d : List Pt) (lst : Nat) : Prop where
  eq : make a b = Dl.mk (a.drop i) (b.drop j) i (d, lst)
  c2 : lst = 2 → ∀ (h : j < b.length), b[j] ∈ a.drop i
  c1 : lst = 1 → ∀ (h : i < a.length) (h' : j < b.length), a[i] ≠ b[j]
  hi : i ≤ a.length
  hj : j ≤ b.length
theorem drop_not (p : It → Bool) : ∀ (l : List It) (h : 0 < (l.dropWhile p).length), p (l.dropWhile p)[0] = false
  | [], h => by simp at h
  | x :: r, h => by
    by_cases e : p x = true
    · have e1 : (x :: r).dropWhile p = r.dropWhile p := by rw [List.dropWhile_cons, if_pos e]
      have ih := drop_not p r (by rw [← e1]; exact h)
      simp only [e1]
      exact ih
    · have e1 : (x :: r).dropWhile p = x :: r := by rw [List.dropWhile_cons, if_neg e]
      simp only [e1, List.getElem_cons_zero]
      exact eq_false_of_ne_true e
theorem St.start (a b : List It) : St a b 0 0 [] 0 := ⟨rfl, (fun h => by cases h), (fun h => by cases h), Nat.zero_le _, Nat.zero_le _⟩
theorem mis_beh {a b : List It} {i j : Nat} : mis (fun x => (beh a x : Int)) i (b.drop j) = ((b.drop j).takeWhile fun x => decide (x ∉ a.drop i)).length := by
  unfold mis
  congr 2
  funext x
  have h := beh_iff a x i
  show decide ((beh a x : Int) ≤ (i : Int)) = _
  by_cases e : x ∈ a.drop i
  · have := h.1 e
    rw [decide_eq_false (by omega), decide_eq_false (by simpa using e)]
  · have : ¬ i < beh a x := fun q => e (h.2 q)
    rw [decide_eq_true (by omega), decide_eq_true e]
theorem St.own {a b : List It} {i j lst : Nat} {d : List Pt} (h : St a b i j d lst) {n : Nat} (hn : mis (fun x => (beh a x : Int)) i (b.drop j) = n) (h0 : 0 < n) : j + n ≤ b.length ∧ St a b i (j + n) (d ++ [⟨0, 0, cuti b j n⟩]) 2 := by
  rw [mis_beh] at hn
  have hle : n ≤ (b.drop j).length := by rw [← hn]; exact (List.takeWhile_sublist _).length_le
  rw [List.length_drop] at hle
  have hpre : (b.drop j).takeWhile (fun x => decide (x ∉ a.drop i)) = cuti b j n := by
    have hp := List.takeWhile_prefix (l := b.drop j) (fun x => decide (x ∉ a.drop i))
    rw [List.prefix_iff_eq_take.1 hp, hn]; rfl
  have hall : ∀ x ∈ cuti b j n, x ∉ a.drop i := fun x hx => by
    rw [← hpre] at hx
    have := List.all_takeWhile (l := b.drop j) (p := fun x => decide (x ∉ a.drop i))
    rw [List.all_eq_true] at this
    simpa using this x hx
  have hsp : b.drop j = cuti b j n ++ b.drop (j + n) := by rw [cuti, ← List.drop_drop, List.take_append_drop]
  have hlt : j < b.length := by have := h.hj; omega
  have hne : cuti b j n ≠ [] := fun e => by have := congrArg List.length e; rw [cuti_len (by omega)] at this; simp at this; omega
  have h2 : lst ≠ 2 := fun e => by
    have h1 := h.c2 e hlt
    refine hall b[j] ?_ h1
    rw [cuti, List.drop_eq_getElem_cons hlt]
    obtain ⟨m, rfl⟩ : ∃ m, n = m + 1 := ⟨n - 1, by omega⟩
    rw [List.take_succ_cons]; exact List.mem_cons_self
  refine ⟨by omega, ⟨?_, fun _ hl => ?_, (fun e => by cases e), h.hi, by omega⟩⟩
  · rw [h.eq, hsp, mk_own i _ hall hne h2]
  · have hd : (b.drop j).dropWhile (fun x => decide (x ∉ a.drop i)) = b.drop (j + n) := by
      have h3 := List.takeWhile_append_dropWhile (p := fun x => decide (x ∉ a.drop i)) (l := b.drop j)
      rw [hpre] at h3
      have h4 := hsp
      rw [← h3] at h4
      exact List.append_cancel_left h4
    have h5 := drop_not (fun x => decide (x ∉ a.drop i)) (b.drop j) (by rw [hd, List.length_drop]; omega)
    simp only [hd] at h5
    simpa using h5
theorem alk_pos {x : It} {a b : List It} : 0 < alk (x :: a) (x :: b) := by rw [alk, if_pos rfl]; omega
theorem alk_max : ∀ (a b : List It) (h1 : alk a b < a.length) (h2 : alk a b < b.length), a[alk a b] ≠ b[alk a b]
  | [], b, h1, h2 => by simp [alk] at h1
  | x :: a, [], h1, h2 => by simp [alk] at h2
  | x :: a, y :: b, h1, h2 => by
    by_cases e : x = y
    · have ea : alk (x :: a) (y :: b) = alk a b + 1 := by rw [alk, if_pos e]
      have ih := alk_max a b (by rw [ea] at h1; simpa using h1) (by rw [ea] at h2; simpa using h2)
      simp only [ea, List.getElem_cons_succ]
      exact ih
    · have ea : alk (x :: a) (y :: b) = 0 := by rw [alk, if_neg e]
      simp only [ea, List.getElem_cons_zero]
      exact e
theorem St.copy {a b : List It} {i j lst : Nat} {d : List Pt} (h : St a b i j d lst) (hj : j < b.length) (hn : mis (fun x => (beh a x : Int)) i (b.drop j) = 0) :
    b[j] ∈ a.drop i ∧ i + (a.drop i).idxOf b[j] ≤ a.length ∧ (∀ n, alk (a.drop (i + (a.drop i).idxOf b[j])) (b.drop j) = n → 0 < n ∧ i + (a.drop i).idxOf b[j] + n ≤ a.length ∧ j + n ≤ b.length ∧ St a b (i + (a.drop i).idxOf b[j] + n) (j + n) (d ++ [⟨((i + (a.drop i).idxOf b[j] : Nat) : Int), (n : Int), []⟩]) 1) := by
  have hm : b[j] ∈ a.drop i := by
    rw [mis_beh, List.drop_eq_getElem_cons hj, List.takeWhile_cons] at hn
    by_cases e : b[j] ∈ a.drop i
    · exact e
    · rw [decide_eq_true e, if_pos rfl] at hn; simp at hn
  have hq := List.idxOf_lt_length_iff.2 hm
  have hge := List.getElem_idxOf hq
  have hnot : b[j] ∉ (a.drop i).take ((a.drop i).idxOf b[j]) := fun hx => by
    obtain ⟨k, hk, e⟩ := List.getElem_of_mem hx
    rw [List.length_take] at hk
    rw [List.getElem_take] at e
    have := List.not_of_lt_findIdx (p := (· == b[j])) (xs := a.drop i) (i := k) (Nat.lt_of_lt_of_le hk (Nat.min_le_left _ _))
    simp [e] at this
  rw [List.length_drop] at hq
  generalize hQ : (a.drop i).idxOf b[j] = q at *
  refine ⟨hm, by omega, fun n hn' => ?_⟩
  have hsp : a.drop i = (a.drop i).take q ++ a.drop (i + q) := by rw [← List.drop_drop, List.take_append_drop]
  have hlz : ((a.drop i).take q).length = q := by rw [List.length_take, List.length_drop]; omega
  have haq : a.drop (i + q) = b[j] :: a.drop (i + q + 1) := by
    rw [List.drop_eq_getElem_cons (by omega)]
    rw [List.getElem_drop] at hge
    rw [hge]
  have hbj : b.drop j = b[j] :: b.drop (j + 1) := List.drop_eq_getElem_cons hj
  have h0 : 0 < n := by rw [← hn', haq, hbj]; exact alk_pos
  have hle := alk_le (a.drop (i + q)) (b.drop j)
  rw [hn', List.length_drop, List.length_drop] at hle
  have hc1 : a.drop (i + q) = (a.drop (i + q)).take n ++ a.drop (i + q + n) := by have h9 := (List.take_append_drop n (a.drop (i + q))).symm; rwa [List.drop_drop] at h9
  have hc2 : b.drop j = (a.drop (i + q)).take n ++ b.drop (j + n) := by rw [hle.2.2]; have h9 := (List.take_append_drop n (b.drop j)).symm; rwa [List.drop_drop] at h9
  have hlc : ((a.drop (i + q)).take n).length = n := by rw [List.length_take, List.length_drop]; omega
  have e1 : make a b = Dl.mk (a.drop (i + q)) (b.drop j) (i + q) (d, if (a.drop i).take q = [] then lst else 0) := by
    rw [h.eq]
    conv => lhs; rw [hsp, hbj]
    rw [mk_skips _ _ _ _ hnot (by rw [haq]; exact List.mem_cons_self), hlz, ← hbj]
  have hs1 : (if (a.drop i).take q = [] then lst else 0) ≠ 1 := by
    split
    · rename_i e
      have hq0 : q = 0 := by have := congrArg List.length e; rw [hlz] at this; simpa using this
      subst hq0
      intro e1
      have h1 := h.c1 e1 (by omega) hj
      rw [Nat.add_zero] at haq
      rw [List.drop_eq_getElem_cons (by omega : i < a.length)] at haq
      exact h1 (List.cons.inj haq).1
    · decide
  refine ⟨h0, by omega, by omega, ⟨?_, (fun e => by cases e), fun _ h1 h2 => ?_, by omega, by omega⟩⟩
  · rw [e1]
    conv => lhs; rw [hc1, hc2]
    rw [mk_copy _ _ _ (by intro e; have := congrArg List.length e; rw [hlc] at this; simp at this; omega) hs1, hlc]
  · have h3 := alk_max (a.drop (i + q)) (b.drop j) (by rw [hn', List.length_drop]; omega) (by rw [hn', List.length_drop]; omega)
    simp only [hn', List.getElem_drop] at h3
    exact h3
theorem St.done {a b : List It} {i lst : Nat} {d : List Pt} (h : St a b i b.length d lst) : make a b = d := by
  rw [h.eq, List.drop_length, mk_nil]
set_option maxRecDepth 100000 in
set_option maxHeartbeats 16000000 in
theorem make_any {A B : Option Addr} {ca cb : Nat} {a b : List It} (w : World) (hA : Ix w A ca a) (hB : Ix w B cb b) (ha : a.length ≤ 1000) (hb : b.length ≤ 1000) (hwa : ∀ x ∈ a, Wi x) (hwb : ∀ x ∈ b, Wi x) (hca : ca ≤ 9223372036854775807) (hcb : cb ≤ 9223372036854775807) :
    Calls Tryd.prog 11 #[.slice A a.length ca, .slice B b.length cb] w (PtEnd w (make a b)) := by
  obtain ⟨i0, hi0, hz0, hz1, hz2⟩ := info_parts infoPart
  have HA := Lib.hid hA
  have HB := Lib.hid hB
  have HEN := Lib.hid (ends_any A ca a w hA.i (by omega) hwa)
  have HST := Lib.hid (St.start a b)
  obtain ⟨mk0, hmk0⟩ : ∃ q, q = make a b := ⟨_, rfl⟩
  have HMK := Lib.hid hmk0
  rw [← hmk0]
  have hra := hA.r
  have hrb := hB.r
  have HZA := Lib.hid hA.z
  have HZB := Lib.hid hB.z
  clear hA hB hmk0
  go_enter Tryd.func11, Tryd.ntmps11
  go_wp2_with fail
  with_reducible refine HEN.out.mono ?_
  rintro e w1 ⟨mb, rfl, hmap, hb1⟩
  have HB1 := Lib.hid hb1
  have HM1 := Lib.hid hmap
  replace HA := Lib.hid (HA.out.below hb1)
  replace HB := Lib.hid (HB.out.below hb1)
  clear HEN hb1 hmap
  go_wp2_with fail
  go_loopg [6, 7, 8, 9, 10] b.length (fun m v vi vj x9 x10 wr => ∃ (i j lst : Nat) (qs : List Pq) (VA : Option Addr) (vc : Nat), vi = .int .i64 (i : Int) ∧ vj = .int .i64 (j : Int) ∧ v = .slice VA qs.length vc ∧ b.length - j ≤ m ∧ Hid (Pw wr w1.heap.size (.slice VA qs.length vc) qs) ∧ Hid (Below w1.heap.size w1 wr) ∧ Hid (St a b i j (qs.map (·.p)) lst) ∧ qs.length ≤ j)
  case atStart => exact ⟨0, 0, 0, [], none, 0, rfl, rfl, rfl, by omega, Lib.hid (Pw.nil _ _), Lib.hid (Below.refl _ _), HST, Nat.le_refl _⟩
  case round =>
    clear HST
    obtain ⟨i, j, lst, qs, VA, vc, rfl, rfl, rfl, hm, HP, HBR, HS, hqj⟩ := hrel
    have hi := HS.out.hi
    have hj := HS.out.hj
    have HAr := Lib.hid (HA.out.below HBR.out)
    have HBr := Lib.hid (HB.out.below HBR.out)
    by_cases hlt : j < b.length
    · have h0j : (0 : Int) ≤ (j : Int) := by omega
      have hji : (j : Int) < (b.length : Int) := by omega
      have hsl := fun W => drop_is (B := B) (n := b.length) (c := cb) (k := j) (by omega) hrb HZB.out W
      have hdx := drop_ix HBr.out hj
      have HMS := Lib.hid (missing_any (dropP B cb j) (cb - j) (b.drop j) mb a.length (fun x => (beh a x : Int)) i wr hdx.i (by rw [List.length_drop]; omega) (fun x hx => hwb x (List.mem_of_mem_drop hx)) (HM1.out.kept (grown_of HBR.out none) (by simp)))
      rw [List.length_drop] at HMS
      obtain ⟨n, hn⟩ : ∃ n, n = mis (fun x => (beh a x : Int)) i (b.drop j) := ⟨_, rfl⟩
      rw [← hn] at HMS
      have HN := Lib.hid hn.symm
      clear hn hdx
      go_wp2_with fail
      with_reducible refine HMS.out.mono ?_
      rintro e w2 ⟨rfl, rfl⟩
      clear HMS
      by_cases hn0 : 0 < n
      · obtain ⟨hle, hst⟩ := HS.out.own HN.out hn0
        have HS2 := Lib.hid hst
        have hni : (0 : Int) < (n : Int) := by omega
        have HCT := Lib.hid (cut_any (B := B) (c := cb) (m := b.length) (k := j) (n := n) w2 hle hrb HZB.out hcb)
        have hcx := cut_in HBr.out hle
        have HCL := Lib.hid (clone_any w2 hcx (by rw [cuti_len hle]; omega))
        rw [cuti_len hle] at HCL
        have HCN := Lib.hid (cuti_len hle)
        have hw1 : IntKind.i64.wrap ((j : Int) + (n : Int)) = ((j + n : Nat) : Int) := by rw [IntKind.wrap_i64]; omega
        clear hst hcx hsl
        go_wp2_with fail
        with_reducible refine HCT.out.mono ?_
        rintro e w3 ⟨rfl, rfl⟩
        clear HCT
        go_wp2_with fail
        with_reducible refine HCL.out.mono ?_
        rintro e w4 ⟨C, cc, rfl, hco, hb4, -⟩
        have HP4 := Lib.hid (HP.out.below hb4)
        have HB4 := Lib.hid (HBR.out.trans (hb4.mono HBR.out.size))
        have HCO : Hid (w4.ownsRow w1.heap.size 41 6 (.slice C (cuti b j n).length cc) (cuti b j n).length (itCells (cuti b j n))) := Lib.hid (by rw [HCN.out]; exact V.own_base_le hco HBR.out.size)
        have HP5 := Lib.hid (HP4.out.below (alloc1 w4 (.cells #[.int .i64 0, .int .i64 0, .slice C n cc] 27)))
        have HC5 := Lib.hid (own_below HCO.out (alloc1 w4 (.cells #[.int .i64 0, .int .i64 0, .slice C n cc] 27)))
        have hs4 := HB4.out.size
        clear hco hb4 HCL HP HBR HP4 HCO
        go_upto_region 8 with (at_builtin; refine wpList_append_own_at _ rfl (.tmp 25) (.tmp 32) _ rfl w1.heap.size 27 i0 _ 3 40 Tryd.underlying24 hi0 hz0 hz1 hz2 rfl (by decide) _ _ _ rfl HP5.out.own ⟨w4.heap.size, 0, none⟩ 1 1 [.int .i64 0, .int .i64 0, .slice C n cc] rfl rfl (World.news_of_block (heap_alloc_new w4 _)) (by intro u hu; simp at hu; rcases hu with rfl | rfl | rfl <;> rfl) (by unfold maxLen; omega) (by omega) (by simp; omega) ?_; intro v1 w6 ho6 hg6 _ hat6)
        have HP6 : Hid (Pw w6 w1.heap.size v1 (qs ++ [⟨⟨0, 0, cuti b j n⟩, C, cc⟩])) := Lib.hid (HP5.out.add (q := ⟨⟨0, 0, cuti b j n⟩, C, cc⟩) HC5.out hg6 (by simp only [HCN.out]; exact ho6))
        have HB6 := Lib.hid ((HB4.out.trans ((alloc1 w4 (.cells #[.int .i64 0, .int .i64 0, .slice C n cc] 27)).mono hs4)).grown hg6 (by simp; omega) (fun k e => (World.ownsRow.lt HP5.out.own k e).1))
        obtain ⟨RA, rcap, rfl, -, -⟩ := own_form HP6.out.own
        clear ho6 hg6 hat6 HP5 HC5 HB4
        go_wp2_with fail
        go_roundg (b.length - (j + n))
        case rel => exact ⟨i, j + n, 2, qs ++ [⟨⟨0, 0, cuti b j n⟩, C, cc⟩], RA, rcap, rfl, rfl, rfl, Nat.le_refl _, HP6, HB6, Lib.hid (by rw [List.map_append]; exact HS2.out), by simp; omega⟩
        case measure => omega
      · obtain rfl : n = 0 := by omega
        obtain ⟨hmem, hq1, hq2⟩ := HS.out.copy hlt HN.out
        have HQ2 := Lib.hid hq2
        have HIX := Lib.hid (fun (W : World) (h : Below w2.heap.size w2 W) => index_any (dropP A ca i) (ca - i) (a.drop i) b[j] W ((drop_ix HAr.out hi).below h).i (by rw [List.length_drop]; omega) hmem)
        simp only [List.length_drop, itV] at HIX
        obtain ⟨bk, off, hBe, hbk, g0, g1, g2, g3, g4, g5⟩ := it_at HBr.out.i hlt
        subst hBe
        generalize hy : b[j]'hlt = y at *
        obtain ⟨q, hq⟩ : ∃ q, q = (a.drop i).idxOf y := ⟨_, rfl⟩
        rw [← hq] at HIX HQ2 hq1
        clear hq hy hmem hq2
        have hsa := fun W => drop_is (B := A) (n := a.length) (c := ca) (k := i) hi hra HZA.out W
        have hw1 : IntKind.i64.wrap ((i : Int) + (q : Int)) = ((i + q : Nat) : Int) := by rw [IntKind.wrap_i64]; omega
        have HSX : Hid (∀ W, Below w2.heap.size w2 W → (W.cell? ⟨bk, off + j * 6, none⟩ = some (.int .i64 y.id) ∧ W.cell? ⟨bk, off + j * 6 + 1, none⟩ = some (.int .i64 y.lv) ∧ W.cell? ⟨bk, off + j * 6 + 2, none⟩ = some (.int .u64 (y.ct : Int)) ∧ W.cell? ⟨bk, off + j * 6 + 3, none⟩ = some (.bool y.an) ∧ W.cell? ⟨bk, off + j * 6 + 4, none⟩ = some (.string ⟨y.tx.toArray⟩) ∧ W.cell? ⟨bk, off + j * 6 + 5, none⟩ = some (.bool y.ba) ∧ Below w2.heap.size w2 W)) := Lib.hid (fun W h => ⟨(h.cell (p := ⟨bk, _, none⟩) hbk).trans g0, (h.cell (p := ⟨bk, _, none⟩) hbk).trans g1, (h.cell (p := ⟨bk, _, none⟩) hbk).trans g2, (h.cell (p := ⟨bk, _, none⟩) hbk).trans g3, (h.cell (p := ⟨bk, _, none⟩) hbk).trans g4, (h.cell (p := ⟨bk, _, none⟩) hbk).trans g5, h⟩)
        have HIY : Hid (∀ W, Below w2.heap.size w2 W → Calls Tryd.prog 27 #[.slice (dropP A ca i) (a.length - i) (ca - i), .agg #[.int .i64 y.id, .int .i64 y.lv, .int .u64 (y.ct : Int), .bool y.an, .string ⟨y.tx.toArray⟩, .bool y.ba]] W fun e w' => e = .returned (.int .i64 (q : Int)) ∧ Below w2.heap.size w2 w') := Lib.hid (fun W h => (HIX.out W h).mono fun e w' h' => ⟨h'.1, h.trans (h'.2.mono h.size)⟩)
        clear hsl HIX g0 g1 g2 g3 g4 g5 hbk
        go_upto_region 9 with fail
        go_cut [7] (fun v wz => v = .int .i64 ((i + q : Nat) : Int) ∧ Hid (Below w2.heap.size w2 wz))
        case first =>
          go_region_held3 (fun W => W.cell? ⟨bk, off + j * 6, none⟩ = some (.int .i64 y.id) ∧ W.cell? ⟨bk, off + j * 6 + 1, none⟩ = some (.int .i64 y.lv) ∧ W.cell? ⟨bk, off + j * 6 + 2, none⟩ = some (.int .u64 (y.ct : Int)) ∧ W.cell? ⟨bk, off + j * 6 + 3, none⟩ = some (.bool y.an) ∧ W.cell? ⟨bk, off + j * 6 + 4, none⟩ = some (.string ⟨y.tx.toArray⟩) ∧ W.cell? ⟨bk, off + j * 6 + 5, none⟩ = some (.bool y.ba) ∧ Below w2.heap.size w2 W)
            (first | exact HSX.out _ ((Below.refl _ _).drew) | exact HSX.out _ (by assumption))
            (first | (go_at_call 27; with_reducible refine (HIY.out _ (And.right (And.right (And.right (And.right (And.right (And.right (by assumption)))))))).mono ?_; rintro r wq ⟨rfl, hbq⟩))
          all_goals
            go_wp2_with fail
            go_meet
            case rel => exact ⟨rfl, Lib.hid (And.right (And.right (And.right (And.right (And.right (And.right (by assumption)))))))⟩
        case rest =>
        obtain ⟨rfl, HZ⟩ := hcut
        generalize wc = w3 at *
        have hAr := HAr.out.below HZ.out
        have hBr := HBr.out.below HZ.out
        have HBR3 := Lib.hid (HBR.out.trans (HZ.out.mono HBR.out.size))
        have HP3 := Lib.hid (HP.out.below HZ.out)
        obtain ⟨n, hn⟩ : ∃ n, n = alk (a.drop (i + q)) (b.drop j) := ⟨_, rfl⟩
        obtain ⟨hn1, hn2, hn3, hst⟩ := HQ2.out n hn.symm
        have HS2 := Lib.hid hst
        have HAL := Lib.hid (fun (W : World) (h : Below w3.heap.size w3 W) => (alike_any (dropP A ca (i + q)) (dropP (some ⟨bk, off, none⟩) cb j) (ca - (i + q)) (cb - j) (a.drop (i + q)) (b.drop j) W ((drop_ix hAr hq1).below h).i ((drop_ix hBr hj).below h).i (by rw [List.length_drop]; omega) (by rw [List.length_drop]; omega)).mono fun e w' h' => show e = .returned (.int .i64 (n : Int)) ∧ Below w3.heap.size w3 w' from ⟨by rw [hn]; exact h'.1, h.trans (h'.2.mono h.size)⟩)
        simp only [List.length_drop] at HAL
        have hsa2 := fun W => drop_is (B := A) (n := a.length) (c := ca) (k := i + q) hq1 hra HZA.out W
        have hsb2 := fun W => drop_is (B := some ⟨bk, off, none⟩) (n := b.length) (c := cb) (k := j) hj hrb HZB.out W
        have hiq : ((i + q : Nat) : Int) ≤ (a.length : Int) := by omega
        have hq9 : qs.length + 1 ≤ 2000 := by omega
        clear hst hsa HSX HIY hw1 hAr hBr HQ2 HZ HBR HP hn
        obtain ⟨p, hp⟩ : ∃ p, p = i + q := ⟨_, rfl⟩
        rw [← hp] at HAL hsa2 hiq HS2 hn2 hq1 ⊢
        have h0p : (0 : Int) ≤ (p : Int) := by omega
        clear hp
        go_upto_region 10 with fail
        go_cut [10] (fun v wz => v = .int .i64 (n : Int) ∧ Hid (Below w3.heap.size w3 wz))
        case first =>
          go_region_held3 (fun W => Below w3.heap.size w3 W)
            (first | exact (Below.refl _ _).drew | with_reducible exact (by assumption))
            (first | (go_at_call 28; with_reducible refine (HAL.out _ (by assumption)).mono ?_; rintro r wq ⟨rfl, hbq⟩))
          all_goals
            go_wp2_with fail
            go_meet
            case rel => exact ⟨rfl, Lib.hid (by assumption)⟩
        case rest =>
        obtain ⟨rfl, HZ⟩ := hcut
        generalize wc = w4 at *
        have HB4 := Lib.hid (HBR3.out.trans (HZ.out.mono HBR3.out.size))
        have HP4 := Lib.hid (HP3.out.below HZ.out)
        have HP5 := Lib.hid (HP4.out.below (alloc1 w4 (.cells #[.int .i64 (p : Int), .int .i64 (n : Int), .slice none 0 0] 27)))
        have hs4 := HB4.out.size
        have hw1 : IntKind.i64.wrap ((p : Int) + (n : Int)) = ((p + n : Nat) : Int) := by rw [IntKind.wrap_i64]; omega
        have hw3 : IntKind.i64.wrap ((j : Int) + (n : Int)) = ((j + n : Nat) : Int) := by rw [IntKind.wrap_i64]; omega
        clear HAL hsa2 hsb2 HBR3 HP3 HZ HP4
        go_upto_region 12 with (at_builtin; refine wpList_append_own_at _ rfl (.tmp 54) (.tmp 58) _ rfl w1.heap.size 27 i0 _ 3 40 Tryd.underlying24 hi0 hz0 hz1 hz2 rfl (by decide) _ _ _ rfl HP5.out.own ⟨w4.heap.size, 0, none⟩ 1 1 [.int .i64 (p : Int), .int .i64 (n : Int), .slice none 0 0] rfl rfl (World.news_of_block (heap_alloc_new w4 _)) (by intro u hu; simp at hu; rcases hu with rfl | rfl | rfl <;> rfl) (Nat.le_trans hq9 (by unfold maxLen; decide)) (Nat.le_trans (Nat.mul_le_mul_right 40 hq9) (by decide)) (Nat.le_trans hs4 (alloc1 w4 _).size) ?_; intro v1 w6 ho6 hg6 _ hat6)
        have HP6 : Hid (Pw w6 w1.heap.size v1 (qs ++ [⟨⟨(p : Int), (n : Int), []⟩, none, 0⟩])) := Lib.hid (HP5.out.add (q := ⟨⟨(p : Int), (n : Int), []⟩, none, 0⟩) (World.ownsRow_nil _ _ _ _) hg6 ho6)
        have HB6 := Lib.hid ((HB4.out.trans ((alloc1 w4 (.cells #[.int .i64 (p : Int), .int .i64 (n : Int), .slice none 0 0] 27)).mono hs4)).grown hg6 (Nat.le_trans hs4 (alloc1 w4 _).size) (fun k e => (World.ownsRow.lt HP5.out.own k e).1))
        obtain ⟨RA, rcap, rfl, -, -⟩ := own_form HP6.out.own
        clear ho6 hg6 hat6 HP5 HB4
        go_wp2_with fail
        go_roundg (b.length - (j + n))
        case rel => exact ⟨p + n, j + n, 1, qs ++ [⟨⟨(p : Int), (n : Int), []⟩, none, 0⟩], RA, rcap, rfl, rfl, rfl, Nat.le_refl _, HP6, HB6, Lib.hid (by rw [List.map_append]; exact HS2.out), by rw [List.length_append]; simp only [List.length_cons, List.length_nil]; omega⟩
        case measure => omega
    · obtain rfl : j = b.length := by omega
      have hd := HS.out.done
      have HD := Lib.hid (HMK.out.trans hd)
      clear hd
      go_wp2_with fail
      go_ret
      exact ⟨VA, vc, by rw [HD.out, List.length_map]; rfl, by rw [HD.out]; exact HP.out.read, HB1.out.trans (HBR.out.mono HB1.out.size)⟩
end Go.Proofs.YtlggoplffhdkhaaDoor.Dl

namespace Go.Proofs.YtlggoplffhdkhaaDoor.Dl
set_option linter.unusedVariables false
set_option linter.unusedSimpArgs false
open Go.RowKit Go.Maps
open T
open V (drawn_below grown_of)
open I (It ItemsIn ItemsAt itCells itCells_snoc itCells_at alloc1 own_at own_below items_of_own items_own infoItem ItemsIn.below)

/-- What is wrong with a part. -/
def cpt (at_ n : Int) (m : Nat) : Int := if (m = 0 ∧ n = 0) ∨ (0 < m ∧ n ≠ 0) then 3 else if at_ < 0 ∨ n < 0 ∨ (0 < m ∧ at_ ≠ 0) then 2 else 0
def cwn (at_ n : Int) (m most : Nat) : Int := if cpt at_ n m ≠ 0 then cpt at_ n m else if (most : Int) - n < at_ then 2 else 0
theorem cpt_zero {at_ n : Int} {m : Nat} (h : cpt at_ n m = 0) : 0 ≤ at_ ∧ 0 ≤ n ∧ (0 < m → at_ = 0 ∧ n = 0) ∧ (m = 0 → 0 < n) := by
  unfold cpt at h
  split at h
  · cases h
  · split at h
    · cases h
    · rename_i h1 h2
      omega
theorem pt_at {w : World} {A : Option Addr} {d : List Pt} (h : PtsIn w A d) {k : Nat} (hk : k < d.length) : ∃ bk off C cc, A = some ⟨bk, off, none⟩ ∧ bk < w.heap.size ∧ w.cell? ⟨bk, off + k * 3, none⟩ = some (.int .i64 d[k].at_) ∧ w.cell? ⟨bk, off + k * 3 + 1, none⟩ = some (.int .i64 d[k].n) ∧ w.cell? ⟨bk, off + k * 3 + 2, none⟩ = some (.slice C d[k].its.length cc) ∧ Ix w C cc d[k].its := by
  obtain ⟨bk, off, e, h1, h2⟩ := h (by omega)
  obtain ⟨c0, c1, C, cc, c2, c3⟩ := h2 k hk
  exact ⟨bk, off, C, cc, e, h1, c0, c1, c2, c3⟩

set_option maxRecDepth 100000 in
set_option maxHeartbeats 4000000 in
theorem cpart_any (at_ n : Int) (C : Option Addr) (m cc : Nat) (w : World) : Calls Tryd.prog 46 #[.agg #[.int .i64 at_, .int .i64 n, .slice C m cc]] w fun e w' => e = .returned (.int .i64 (cpt at_ n m)) ∧ Below w.heap.size w w' := by
  obtain ⟨W1, hW1⟩ : ∃ W : World, W = w.alloc (.cells #[.int .i64 at_, .int .i64 n, .slice C m cc] 27) := ⟨_, rfl⟩
  have hx1 : W1.heap[w.heap.size]? = some (.cells #[.int .i64 at_, .int .i64 n, .slice C m cc] 27 (0, 0)) := by rw [hW1]; exact heap_alloc_new w _
  have HB1 := Lib.hid (show Below w.heap.size w W1 by rw [hW1]; exact alloc1 _ _)
  have e0 := L.blk_cell hx1 0
  have e1 := L.blk_cell hx1 1
  have e2 := L.blk_cell hx1 2
  simp only [List.getElem?_toArray, List.getElem?_cons_zero, List.getElem?_cons_succ] at e0 e1 e2
  clear hx1
  have HV : Hid (cpt at_ n m = if (m = 0 ∧ n = 0) ∨ (0 < m ∧ n ≠ 0) then 3 else if at_ < 0 ∨ n < 0 ∨ (0 < m ∧ at_ ≠ 0) then 2 else 0) := Lib.hid rfl
  generalize cpt at_ n m = v at *
  by_cases hm : 0 < m
  · have hmi : (0 : Int) < (m : Int) := by omega
    by_cases hn : n = 0
    · subst hn
      by_cases ha : at_ < 0
      · obtain rfl : v = 2 := HV.out.trans (by rw [if_neg (by omega), if_pos (by omega)])
        clear HV
        go_enter Tryd.func46, Tryd.ntmps46
        go_upto_region 1 with fail
        rw [← hW1]
        clear hW1
        go_wp2_with fail
        go_ret
        exact ⟨rfl, HB1.out⟩
      · by_cases hz : at_ = 0
        · subst hz
          obtain rfl : v = 0 := HV.out.trans (by rw [if_neg (by omega), if_neg (by omega)])
          clear HV
          clear ha
          go_enter Tryd.func46, Tryd.ntmps46
          go_upto_region 1 with fail
          rw [← hW1]
          clear hW1
          go_wp2_with fail
          go_ret
          exact ⟨rfl, HB1.out⟩
        · have hzb : (at_ != 0) = true := by simp [hz]
          obtain rfl : v = 2 := HV.out.trans (by rw [if_neg (by omega), if_pos (by omega)])
          clear HV
          go_enter Tryd.func46, Tryd.ntmps46
          go_upto_region 1 with fail
          rw [← hW1]
          clear hW1
          go_wp2_with fail
          go_ret
          exact ⟨rfl, HB1.out⟩
    · have hnb : (n != 0) = true := by simp [hn]
      obtain rfl : v = 3 := HV.out.trans (by rw [if_pos (by omega)])
      clear HV
      go_enter Tryd.func46, Tryd.ntmps46
      go_upto_region 1 with fail
      rw [← hW1]
      clear hW1
      go_wp2_with fail
      go_ret
      exact ⟨rfl, HB1.out⟩
  · obtain rfl : m = 0 := by omega
    by_cases hn : n = 0
    · subst hn
      obtain rfl : v = 3 := HV.out.trans (by rw [if_pos (by omega)])
      clear HV
      clear hm
      go_enter Tryd.func46, Tryd.ntmps46
      go_upto_region 1 with fail
      rw [← hW1]
      clear hW1
      go_wp2_with fail
      go_ret
      exact ⟨rfl, HB1.out⟩
    · have hnb : (n != 0) = true := by simp [hn]
      by_cases ha : at_ < 0
      · clear hm
        obtain rfl : v = 2 := HV.out.trans (by rw [if_neg (by omega), if_pos (by omega)])
        clear HV
        go_enter Tryd.func46, Tryd.ntmps46
        go_upto_region 1 with fail
        rw [← hW1]
        clear hW1
        go_wp2_with fail
        go_ret
        exact ⟨rfl, HB1.out⟩
      · by_cases hl : n < 0
        · clear hm
          obtain rfl : v = 2 := HV.out.trans (by rw [if_neg (by omega), if_pos (by omega)])
          clear HV
          go_enter Tryd.func46, Tryd.ntmps46
          go_upto_region 1 with fail
          rw [← hW1]
          clear hW1
          go_wp2_with fail
          go_ret
          exact ⟨rfl, HB1.out⟩
        · clear hm
          obtain rfl : v = 0 := HV.out.trans (by rw [if_neg (by omega), if_neg (by omega)])
          clear HV
          go_enter Tryd.func46, Tryd.ntmps46
          go_upto_region 1 with fail
          rw [← hW1]
          clear hW1
          go_wp2_with fail
          go_ret
          exact ⟨rfl, HB1.out⟩
set_option maxRecDepth 100000 in
set_option maxHeartbeats 4000000 in
theorem cwithin_any (at_ n : Int) (C : Option Addr) (m cc most : Nat) (w : World) (hmo : most ≤ 9223372036854775807) (hn6 : n ≤ 9223372036854775807) : Calls Tryd.prog 30 #[.agg #[.int .i64 at_, .int .i64 n, .slice C m cc], .int .i64 (most : Int)] w fun e w' => e = .returned (.int .i64 (cwn at_ n m most)) ∧ Below w.heap.size w w' := by
  obtain ⟨W1, hW1⟩ : ∃ W : World, W = w.alloc (.cells #[.int .i64 at_, .int .i64 n, .slice C m cc] 27) := ⟨_, rfl⟩
  have hx1 : W1.heap[w.heap.size]? = some (.cells #[.int .i64 at_, .int .i64 n, .slice C m cc] 27 (0, 0)) := by rw [hW1]; exact heap_alloc_new w _
  have HB1 := Lib.hid (show Below w.heap.size w W1 by rw [hW1]; exact alloc1 _ _)
  have HCP := Lib.hid (cpart_any at_ n C m cc W1)
  have HV : Hid (cwn at_ n m most = if cpt at_ n m ≠ 0 then cpt at_ n m else if (most : Int) - n < at_ then 2 else 0) := Lib.hid rfl
  have HZ := Lib.hid (fun (h : cpt at_ n m = 0) => cpt_zero h)
  generalize cwn at_ n m most = v at *
  generalize cpt at_ n m = z at *
  have e0 := L.blk_cell hx1 0
  have e1 := L.blk_cell hx1 1
  have e2 := L.blk_cell hx1 2
  simp only [List.getElem?_toArray, List.getElem?_cons_zero, List.getElem?_cons_succ] at e0 e1 e2
  go_enter Tryd.func30, Tryd.ntmps30
  go_upto_region 1 with fail
  rw [← hW1]
  obtain ⟨xb, hxb⟩ : ∃ q, q = w.heap.size := ⟨_, rfl⟩
  rw [← hxb] at hx1 e0 e1 e2 ⊢
  clear hW1 hxb
  go_wp2_with fail
  with_reducible refine HCP.out.mono ?_
  rintro e w2 ⟨rfl, hb2⟩
  have hx2 := (hb2.block _ (L.blk_lt hx1)).trans hx1
  have HB2 := Lib.hid (HB1.out.trans (hb2.mono HB1.out.size))
  clear e0 e1 e2 hx1 hb2 HB1 HCP
  have e0 := L.blk_cell hx2 0
  have e1 := L.blk_cell hx2 1
  have e2 := L.blk_cell hx2 2
  simp only [List.getElem?_toArray, List.getElem?_cons_zero, List.getElem?_cons_succ] at e0 e1 e2
  clear hx2
  by_cases hz : z = 0
  · have hq := HZ.out hz
    subst hz
    have hw1 : IntKind.i64.wrap ((most : Int) - n) = (most : Int) - n := by rw [IntKind.wrap_i64]; omega
    by_cases hl : (most : Int) - n < at_
    · obtain rfl : v = 2 := HV.out.trans (by rw [if_neg (by simp), if_pos hl])
      clear HV HZ hq
      go_wp2_with fail
      go_ret
      exact ⟨rfl, HB2.out⟩
    · obtain rfl : v = 0 := HV.out.trans (by rw [if_neg (by simp), if_neg hl])
      clear HV HZ hq
      go_wp2_with fail
      go_ret
      exact ⟨rfl, HB2.out⟩
  · obtain rfl : v = z := HV.out.trans (if_pos hz)
    have hzb : (v != 0) = true := by simp [hz]
    clear HV HZ
    go_wp2_with fail
    go_ret
    exact ⟨rfl, HB2.out⟩
theorem siz_take {d : List Pt} {k : Nat} (h : k < d.length) : siz (d.take (k + 1)) = siz (d.take k) + d[k].its.length := by
  rw [List.take_succ_eq_append_getElem h, siz_snoc]
theorem siz_le (d : List Pt) (k : Nat) : siz (d.take k) ≤ siz d := by
  have : siz d = siz (d.take k) + siz (d.drop k) := by
    unfold siz; rw [← List.sum_append, ← List.map_append, List.take_append_drop]
  omega
set_option maxRecDepth 100000 in
set_option maxHeartbeats 4000000 in
theorem size_any (A : Option Addr) (c : Nat) (d : List Pt) (w : World) (hA : PtsIn w A d) (hl : d.length ≤ 1000000000) (hs : siz d ≤ 9223372036854775807) :
    Calls Tryd.prog 15 #[.slice A d.length c] w fun e w' => e = .returned (.int .i64 (siz d : Int)) ∧ Below w.heap.size w w' := by
  have HA := Lib.hid hA
  have HT := Lib.hid (fun (k : Nat) (h : k < d.length) => siz_take h)
  have HL := Lib.hid (fun k => Nat.le_trans (siz_le d k) hs)
  obtain ⟨sk, hsk⟩ : ∃ sk : Nat → Nat, ∀ k, siz (d.take k) = sk k := ⟨fun k => siz (d.take k), fun _ => rfl⟩
  have HS0 : Hid (sk 0 = 0) := Lib.hid (by rw [← hsk]; rfl)
  have HSE : Hid (sk d.length = siz d) := Lib.hid (by rw [← hsk, List.take_length])
  simp only [hsk] at HT HL
  generalize siz d = sd at *
  clear hA hsk
  go_enter Tryd.func15, Tryd.ntmps15
  go_wp2_with fail
  go_loopg [3, 8] d.length (fun m s i wr => ∃ k : Nat, k ≤ d.length ∧ i = .int .i64 (k : Int) ∧ s = .int .i64 (sk k : Int) ∧ d.length - k ≤ m ∧ Below w.heap.size w wr)
  case atStart => exact ⟨0, Nat.zero_le _, rfl, by rw [HS0.out]; rfl, by omega, Below.refl _ _⟩
  case round =>
    obtain ⟨k, hk, rfl, rfl, hm, hbr⟩ := hrel
    by_cases hlt : k < d.length
    · obtain ⟨bk, off, C, cc, hAe, hbk, g0, g1, g2, -⟩ := pt_at (HA.out.below hbr) hlt
      subst hAe
      have HT1 := Lib.hid (HT.out k hlt)
      have h1 := HL.out (k + 1)
      rw [HT1.out] at h1
      have h0k : (0 : Int) ≤ (k : Int) := by omega
      have hki : (k : Int) < (d.length : Int) := by omega
      obtain ⟨x, hx⟩ : ∃ x, x = d[k]'hlt := ⟨_, rfl⟩
      rw [← hx] at g0 g1 g2 HT1 h1
      obtain ⟨pa, pn, pi⟩ := x
      simp only at g0 g1 g2 HT1 h1
      obtain ⟨z, hz⟩ : ∃ z, z = pi.length := ⟨_, rfl⟩
      rw [← hz] at g2 HT1 h1
      have hw1 : IntKind.i64.wrap ((sk k : Int) + (z : Int)) = ((sk k + z : Nat) : Int) := by rw [IntKind.wrap_i64]; omega
      obtain ⟨W1, hW1⟩ : ∃ W : World, W = wr.alloc (.cells #[.int .i64 pa, .int .i64 pn, .slice C z cc] 27) := ⟨_, rfl⟩
      have hb1 : Below wr.heap.size wr W1 := by rw [hW1]; exact alloc1 _ _
      have hx1 : W1.heap[wr.heap.size]? = some (.cells #[.int .i64 pa, .int .i64 pn, .slice C z cc] 27 (0, 0)) := by rw [hW1]; exact heap_alloc_new wr _
      have HB1 := Lib.hid (hbr.trans (hb1.mono hbr.size))
      have e2 := L.blk_cell hx1 2
      simp only [List.getElem?_toArray, List.getElem?_cons_zero, List.getElem?_cons_succ] at e2
      clear hx hz hbk hbr hb1 hx1
      go_upto_region 5 with fail
      rw [← hW1]
      clear hW1 g0 g1 g2
      go_wp2_with fail
      go_roundg (d.length - (k + 1))
      case rel => exact ⟨k + 1, by omega, by go_num, by rw [HT1.out, Int.natCast_add], Nat.le_refl _, HB1.out⟩
      case measure => omega
    · obtain rfl : k = d.length := by omega
      rw [HSE.out]
      go_wp2_with fail
      go_ret
      exact ⟨rfl, hbr⟩
/-- The error of the first part that has one. -/
def aer (most : Nat) : List Pt → Int
  | [] => 0
  | p :: r => if cwn p.at_ p.n p.its.length most ≠ 0 then cwn p.at_ p.n p.its.length most else aer most r
theorem aer_at {most : Nat} {d : List Pt} {k : Nat} (h : k < d.length) : aer most (d.drop k) = if cwn d[k].at_ d[k].n d[k].its.length most ≠ 0 then cwn d[k].at_ d[k].n d[k].its.length most else aer most (d.drop (k + 1)) := by
  rw [List.drop_eq_getElem_cons h, aer]
theorem aer_zero {most : Nat} : ∀ {d : List Pt}, aer most d = 0 → ∀ p ∈ d, 0 ≤ p.at_ ∧ 0 ≤ p.n ∧ p.at_ + p.n ≤ most ∧ (0 < p.its.length → p.at_ = 0 ∧ p.n = 0) ∧ (p.its.length = 0 → 0 < p.n)
  | [], _, p, hp => by cases hp
  | q :: r, h, p, hp => by
    rw [aer] at h
    by_cases e : cwn q.at_ q.n q.its.length most = 0
    · rw [if_neg (by simpa using e)] at h
      rcases List.mem_cons.1 hp with rfl | hp
      · unfold cwn at e
        by_cases e2 : cpt p.at_ p.n p.its.length = 0
        · have h3 := cpt_zero e2
          rw [if_neg (by simpa using e2)] at e
          split at e
          · cases e
          · exact ⟨h3.1, h3.2.1, by omega, h3.2.2.1, h3.2.2.2⟩
        · rw [if_pos e2] at e; exact absurd e e2
      · exact aer_zero h p hp
    · rw [if_pos e] at h; exact absurd h e
def apl (a : List It) (d : List Pt) : List It := if aer a.length d = 0 then ol a d else []
theorem ol_take {a : List It} {d : List Pt} {k : Nat} (h : k < d.length) : ol a (d.take (k + 1)) = ol a (d.take k) ++ (d[k].its ++ (a.drop d[k].at_.toNat).take d[k].n.toNat) := by
  rw [List.take_succ_eq_append_getElem h, ol_snoc]
theorem ol_le (a : List It) (d : List Pt) (k : Nat) : (ol a (d.take k)).length ≤ (ol a d).length := by
  have : ol a d = ol a (d.take k) ++ ol a (d.drop k) := by
    unfold ol; rw [← List.flatMap_append, List.take_append_drop]
  rw [this, List.length_append]; omega
def ApEnd (w : World) (l : List It) (z : Int) (e : Ending) (w' : World) : Prop := ∃ A cap, e = .returned (.tuple #[.slice A l.length cap, .int .i64 z]) ∧ w'.ownsRow w.heap.size 41 6 (.slice A l.length cap) l.length (itCells l) ∧ Below w.heap.size w w'
set_option maxRecDepth 100000 in
set_option maxHeartbeats 8000000 in
theorem apply_any (A D : Option Addr) (ca cd : Nat) (a : List It) (d : List Pt) (w : World) (hA : Ix w A ca a) (hD : PtsIn w D d) (hd : d.length ≤ 1000000000) (hca : ca ≤ 9223372036854775807) (hpn : ∀ p ∈ d, p.n ≤ 9223372036854775807) (hsm : aer a.length d = 0 → (ol a d).length ≤ 1200000000000) :
    Calls Tryd.prog 16 #[.slice A a.length ca, .slice D d.length cd] w (ApEnd w (apl a d) (aer a.length d)) := by
  have HA := Lib.hid hA
  have HD := Lib.hid hD
  have hra := hA.r
  have HZA := Lib.hid hA.z
  have HPN := Lib.hid (fun (k : Nat) (h : k < d.length) => hpn d[k] (List.getElem_mem h))
  have HAT := Lib.hid (fun (k : Nat) (h : k < d.length) => aer_at (most := a.length) h)
  obtain ⟨ek, hek⟩ : ∃ ek : Nat → Int, ∀ k, aer a.length (d.drop k) = ek k := ⟨fun k => aer a.length (d.drop k), fun _ => rfl⟩
  have HE0 : Hid (ek 0 = aer a.length d) := Lib.hid (by rw [← hek, List.drop_zero])
  have HEE : Hid (ek d.length = 0) := Lib.hid (by rw [← hek, List.drop_length]; rfl)
  simp only [hek] at HAT
  have HAP : Hid (aer a.length d ≠ 0 → apl a d = []) := Lib.hid (fun h => if_neg h)
  have HAQ : Hid (aer a.length d = 0 → apl a d = ol a d) := Lib.hid (fun h => if_pos h)
  have HOK := Lib.hid (fun (h : aer a.length d = 0) (k : Nat) (hk : k < d.length) => aer_zero h d[k] (List.getElem_mem hk))
  have HOT := Lib.hid (fun (k : Nat) (h : k < d.length) => ol_take (a := a) h)
  have HOL := Lib.hid (fun (h : aer a.length d = 0) k => Nat.le_trans (ol_le a d k) (hsm h))
  obtain ⟨ok, hok⟩ : ∃ ok : Nat → List It, ∀ k, ol a (d.take k) = ok k := ⟨fun k => ol a (d.take k), fun _ => rfl⟩
  have HO0 : Hid (ok 0 = []) := Lib.hid (by rw [← hok]; rfl)
  have HOE : Hid (ok d.length = ol a d) := Lib.hid (by rw [← hok, List.take_length])
  simp only [hok] at HOT HOL
  generalize apl a d = res at *
  generalize aer a.length d = er at *
  generalize ol a d = lst at *
  clear hA hD hpn hek hok hsm
  go_enter Tryd.func16, Tryd.ntmps16
  go_wp2_with fail
  go_loopg [8, 14] d.length (fun m x8 i wr => ∃ k : Nat, k ≤ d.length ∧ i = .int .i64 (k : Int) ∧ d.length - k ≤ m ∧ Below w.heap.size w wr ∧ Hid (er = ek k))
  case atStart => exact ⟨0, Nat.zero_le _, rfl, by omega, Below.refl _ _, Lib.hid HE0.out.symm⟩
  case round =>
    obtain ⟨k, hk, rfl, hm, hbr, HER⟩ := hrel
    by_cases hlt : k < d.length
    · obtain ⟨bk, off, C, cc, hDe, hbk, g0, g1, g2, -⟩ := pt_at (HD.out.below hbr) hlt
      subst hDe
      have HT1 := Lib.hid (HAT.out k hlt)
      have hpk := HPN.out k hlt
      have h0k : (0 : Int) ≤ (k : Int) := by omega
      have hki : (k : Int) < (d.length : Int) := by omega
      obtain ⟨x, hx⟩ : ∃ x, x = d[k]'hlt := ⟨_, rfl⟩
      rw [← hx] at g0 g1 g2 HT1 hpk
      obtain ⟨pa, pn, pi⟩ := x
      simp only at g0 g1 g2 HT1 hpk
      obtain ⟨W1, hW1⟩ : ∃ W : World, W = wr.alloc (.cells #[.int .i64 pa, .int .i64 pn, .slice C pi.length cc] 27) := ⟨_, rfl⟩
      have HCW := Lib.hid (cwithin_any pa pn C pi.length cc a.length W1 (by omega) hpk)
      have hb1 : Below wr.heap.size wr W1 := by rw [hW1]; exact alloc1 _ _
      have hx1 : W1.heap[wr.heap.size]? = some (.cells #[.int .i64 pa, .int .i64 pn, .slice C pi.length cc] 27 (0, 0)) := by rw [hW1]; exact heap_alloc_new wr _
      have HB1 := Lib.hid (hbr.trans (hb1.mono hbr.size))
      have e0 := L.blk_cell hx1 0
      have e1 := L.blk_cell hx1 1
      have e2 := L.blk_cell hx1 2
      simp only [List.getElem?_toArray, List.getElem?_cons_zero, List.getElem?_cons_succ] at e0 e1 e2
      generalize cwn pa pn pi.length a.length = z at *
      clear hx hbk hbr hb1 hx1 hpk
      go_upto_region 4 with fail
      rw [← hW1]
      clear hW1 g0 g1 g2
      go_wp2_with fail
      with_reducible refine HCW.out.mono ?_
      rintro e w2 ⟨rfl, hb2⟩
      have HB2 := Lib.hid (HB1.out.trans (hb2.mono HB1.out.size))
      clear HCW hb2 HB1 e0 e1 e2
      by_cases hz : z = 0
      · subst hz
        have HV := Lib.hid (HT1.out.trans (if_neg (by simp)))
        clear HT1
        go_wp2_with fail
        go_roundg (d.length - (k + 1))
        case rel => exact ⟨k + 1, by omega, by go_num, Nat.le_refl _, HB2.out, Lib.hid (by rw [HER.out, HV.out])⟩
        case measure => omega
      · have hzb : (z != 0) = true := by simp [hz]
        have HV := Lib.hid (HT1.out.trans (if_pos hz))
        have hez : er = z := by rw [HER.out, HV.out]
        have HEZ := Lib.hid hez
        have HRS := Lib.hid (HAP.out (by rw [hez]; exact hz))
        clear HT1 hez
        go_wp2_with fail
        refine bodyPost_ret (v := .tuple #[.slice none 0 0, .int .i64 z]) (by simp [results, Tryd.results16, go_sem]) rfl (by rw [HRS.out, HEZ.out]; exact ⟨none, 0, rfl, World.ownsRow_nil _ _ _ _, HB2.out⟩)
    · obtain rfl : k = d.length := by omega
      have her : er = 0 := by rw [HER.out, HEE.out]
      have HRS := Lib.hid (HAQ.out her)
      have HOK2 := Lib.hid (HOK.out her)
      have HOL2 := Lib.hid (HOL.out her)
      have HER0 := Lib.hid her
      have HB1 := Lib.hid hbr
      clear HAP HAQ HOK HOL her hbr HER HAT HEE HE0 HPN
      go_wp2_with fail
      go_loopg [9, 28] d.length (fun m v i wr => ∃ (k : Nat) (VA : Option Addr) (vc : Nat), k ≤ d.length ∧ i = .int .i64 (k : Int) ∧ v = .slice VA (ok k).length vc ∧ d.length - k ≤ m ∧ wr.ownsRow w.heap.size 41 6 (.slice VA (ok k).length vc) (ok k).length (itCells (ok k)) ∧ Below w.heap.size w wr)
      case atStart => exact ⟨0, none, 0, Nat.zero_le _, rfl, by rw [HO0.out]; rfl, by omega, by rw [HO0.out]; exact World.ownsRow_nil _ _ _ _, HB1.out⟩
      case round =>
        obtain ⟨k, VA, vc, hk2, rfl, rfl, hm2, hown, hbr⟩ := hrel
        by_cases hlt2 : k < d.length
        · obtain ⟨bk, off, C, cc, hDe, hbk, g0, g1, g2, hix⟩ := pt_at (HD.out.below hbr) hlt2
          subst hDe
          have HT1 := Lib.hid (HOT.out k hlt2)
          have hok := HOK2.out k hlt2
          have hlen := HOL2.out (k + 1)
          rw [HT1.out, List.length_append, List.length_append] at hlen
          have h0k : (0 : Int) ≤ (k : Int) := by omega
          have hki : (k : Int) < (d.length : Int) := by omega
          obtain ⟨x, hx⟩ : ∃ x, x = d[k]'hlt2 := ⟨_, rfl⟩
          rw [← hx] at g0 g1 g2 HT1 hok hix hlen
          obtain ⟨pa, pn, pi⟩ := x
          simp only at g0 g1 g2 HT1 hok hix hlen
          obtain ⟨q1, q2, q3, -, -⟩ := hok
          obtain ⟨p, rfl⟩ : ∃ p : Nat, pa = p := ⟨pa.toNat, by omega⟩
          obtain ⟨n, rfl⟩ : ∃ n : Nat, pn = n := ⟨pn.toNat, by omega⟩
          rw [Int.toNat_natCast, Int.toNat_natCast] at HT1 hlen
          have hpn2 : p + n ≤ a.length := by omega
          obtain ⟨W1, hW1⟩ : ∃ W : World, W = wr.alloc (.cells #[.int .i64 (p : Int), .int .i64 (n : Int), .slice C pi.length cc] 27) := ⟨_, rfl⟩
          have hb1 : Below wr.heap.size wr W1 := by rw [hW1]; exact alloc1 _ _
          have hx1 : W1.heap[wr.heap.size]? = some (.cells #[.int .i64 (p : Int), .int .i64 (n : Int), .slice C pi.length cc] 27 (0, 0)) := by rw [hW1]; exact heap_alloc_new wr _
          have HB2 := Lib.hid (hbr.trans (hb1.mono hbr.size))
          have HO2 := Lib.hid (own_below hown hb1)
          have HIX := Lib.hid (hix.below hb1)
          have HX1 := Lib.hid hx1
          have e2 := L.blk_cell hx1 2
          simp only [List.getElem?_toArray, List.getElem?_cons_zero, List.getElem?_cons_succ] at e2
          have hs2 := HB2.out.size
          obtain ⟨y, hy⟩ : ∃ y, y = ok k := ⟨_, rfl⟩
          rw [← hy] at HT1 HO2 hlen ⊢
          have hc1 : (cuti a p n).length = n := cuti_len hpn2
          have hl1 : y.length + pi.length ≤ 2199023255552 := by omega
          have hl2 : (y ++ pi).length + (cuti a p n).length ≤ 2199023255552 := by
            rw [List.length_append, hc1]
            have : ((a.drop p).take n).length = n := hc1
            omega
          have HCN := Lib.hid hc1
          clear hx hbk hbr hb1 hx1 hown hy hix hlen hc1 q1 q2 q3
          go_upto_region 12 with fail
          rw [← hW1]
          obtain ⟨xb, hxb⟩ : ∃ q, q = wr.heap.size := ⟨_, rfl⟩
          rw [← hxb] at HX1 e2 ⊢
          clear hW1 g0 g1 g2 hxb
          go_upto_region 13 with (at_builtin; refine wpList_append_items rfl (.tmp 32) (.tmp 34) rfl w.heap.size _ y pi rfl HO2.out C cc rfl HIX.out hl1 hs2 ?_; intro v1 w3 ho3 hg3 hat3)
          have HB3 := Lib.hid (HB2.out.grown hg3 hs2 (fun k e => (World.ownsRow.lt HO2.out k e).1))
          have hx3 := (hg3.block _ (L.blk_lt HX1.out) (V.own_ne' HO2.out (fun cs e => by rw [HX1.out] at e; injection e with e; injection e with _ e; exact absurd e (by decide)))).trans HX1.out
          obtain ⟨RA, rcap, rfl, -, -⟩ := own_form ho3
          have HO3 := Lib.hid ho3
          have hs3 := HB3.out.size
          have e0 := L.blk_cell hx3 0
          have e1 := L.blk_cell hx3 1
          simp only [List.getElem?_toArray, List.getElem?_cons_zero, List.getElem?_cons_succ] at e0 e1
          have HCT := Lib.hid (cut_any (B := A) (c := ca) (m := a.length) (k := p) (n := n) w3 hpn2 hra HZA.out hca)
          have HIC := Lib.hid (cut_in (HA.out.below HB3.out) hpn2)
          obtain ⟨t, ht⟩ : ∃ t, t = y ++ pi := ⟨_, rfl⟩
          rw [← ht] at HO3 hl2 ⊢
          have HTY := Lib.hid ht
          obtain ⟨ct, hct⟩ : ∃ ct, ct = cuti a p n := ⟨_, rfl⟩
          rw [← hct] at HIC hl2 HCN
          have HCE := Lib.hid hct
          clear ho3 hg3 hat3 hx3 HO2 HB2 HIX HX1 e2 ht hct hs2 hl1
          go_wp2_with fail
          with_reducible refine HCT.out.mono ?_
          rintro e w4 ⟨rfl, rfl⟩
          clear HCT e0 e1
          go_upto_region 14 with (at_builtin; refine wpList_append_items rfl (.tmp 36) (.tmp 42) rfl w.heap.size _ t ct rfl HO3.out (cutP A p n) n (by rw [HCN.out]; rfl) HIC.out hl2 hs3 ?_; intro v2 w5 ho5 hg5 hat5)
          have HB5 := Lib.hid (HB3.out.grown hg5 hs3 (fun k e => (World.ownsRow.lt HO3.out k e).1))
          obtain ⟨RB, rc2, rfl, -, -⟩ := own_form ho5
          have HE : Hid (ok (k + 1) = t ++ ct) := Lib.hid (by rw [HT1.out, HTY.out, HCE.out, List.append_assoc]; rfl)
          clear hg5 hat5 HO3 HB3 HIC HCN HCE HTY HT1 hs3 hl2
          go_wp2_with fail
          go_roundg (d.length - (k + 1))
          case rel => exact ⟨k + 1, RB, rc2, by omega, by go_num, by rw [HE.out], Nat.le_refl _, by rw [HE.out]; exact ho5, HB5.out⟩
          case measure => omega
        · obtain rfl : k = d.length := by omega
          rw [HOE.out] at hown ⊢
          go_wp2_with fail
          refine bodyPost_ret (v := .tuple #[.slice VA lst.length vc, .int .i64 0]) (by simp [results, Tryd.results16, go_sem]) rfl (by rw [HRS.out, HER0.out]; exact ⟨VA, vc, rfl, hown, hbr⟩)
end Go.Proofs.YtlggoplffhdkhaaDoor.Dl

namespace Go.Proofs.YtlggoplffhdkhaaDoor.P

/-- The digits of a list read on from n, without a bound. -/
def valGo : List UInt8 → Nat → Option Nat
  | [], n => some n
  | c :: r, n => if c.toNat < 48 ∨ 57 < c.toNat then none else valGo r (10 * n + (c.toNat - 48))
/-- Asked at the end. -/
def upTo (o : Option Nat) : Option Nat := o.bind fun m => if 2147483647 < m then none else some m

theorem valGo_ge : ∀ (l : List UInt8) (n m : Nat), valGo l n = some m → n * 10 ^ l.length ≤ m
  | [], n, m, h => by simp [valGo] at h; simp; omega
  | c :: r, n, m, h => by
    rw [valGo] at h
    split at h
    · cases h
    · have := valGo_ge r _ m h
      rw [List.length_cons, Nat.pow_succ]
      have e : (10 * n) * 10 ^ r.length ≤ (10 * n + (c.toNat - 48)) * 10 ^ r.length := Nat.mul_le_mul_right _ (by omega)
      have e2 : n * (10 ^ r.length * 10) = (10 * n) * 10 ^ r.length := by rw [Nat.mul_comm (10 ^ r.length) 10, ← Nat.mul_assoc, Nat.mul_comm n 10]
      omega
theorem valGo_le (l : List UInt8) (n m : Nat) (h : valGo l n = some m) : n ≤ m := by
  have h1 := valGo_ge l n m h
  have h2 : n * 1 ≤ n * 10 ^ l.length := Nat.mul_le_mul_left _ (Nat.pow_pos (by omega))
  omega

theorem numGo_val : ∀ (l : List UInt8) (n : Nat), n ≤ 2147483647 → numGo l n = upTo (valGo l n)
  | [], n, h => by simp [numGo, valGo, upTo]; omega
  | c :: r, n, h => by
    rw [numGo, valGo]
    split
    · rfl
    · split
      · next hb =>
        cases e : valGo r (10 * n + (c.toNat - 48)) with
        | none => rfl
        | some m =>
          have := valGo_le _ _ _ e
          simp [upTo]; omega
      · next hb => exact numGo_val r _ (by omega)

/-- Too long: more than ten digits without a 0 ahead. -/
theorem number_long (l : List UInt8) (h : 10 < l.length) : number l = none := by
  rw [number]
  split
  · rfl
  · next hc =>
    match l, h, hc with
    | c :: r, h, hc =>
      rw [numGo_val _ _ (by omega)]
      cases e : valGo (c :: r) 0 with
      | none => rfl
      | some m =>
        have hne : c ≠ 48 := fun e => hc (.inr ⟨by rw [e]; rfl, by simp at h ⊢; omega⟩)
        rw [valGo] at e
        split at e
        · cases e
        · next hd =>
          have h1 := valGo_ge r _ m e
          have hc48 : c.toNat ≠ 48 := fun e => hne (UInt8.toNat_inj.1 e)
          have h2 : 1 * 10 ^ 10 ≤ (10 * 0 + (c.toNat - 48)) * 10 ^ r.length :=
            Nat.mul_le_mul (by omega) (Nat.pow_le_pow_right (by omega) (by simp at h; omega))
          simp [upTo]; omega
theorem number_val (l : List UInt8) (h0 : l ≠ []) (h : ¬ (1 < l.length ∧ l.head? = some 48)) : number l = upTo (valGo l 0) := by
  rw [number, if_neg (by rintro (e | e); exact h0 e; exact h ⟨e.2, e.1⟩), numGo_val _ _ (by omega)]

theorem numGo_snoc : ∀ (l : List UInt8) (c : UInt8) (n : Nat), numGo (l ++ [c]) n = (numGo l n).bind fun m => numGo [c] m
  | [], c, n => by simp [numGo]
  | x :: r, c, n => by
    rw [List.cons_append, numGo, numGo]
    split
    · rfl
    · split
      · rfl
      · exact numGo_snoc r c _

theorem digit (d : Nat) (h : d < 10) : (UInt8.ofNat (48 + d)).toNat = 48 + d := by
  rw [UInt8.toNat_ofNat']; omega
theorem digit_of (c : UInt8) (h : 48 ≤ c.toNat) (h2 : c.toNat ≤ 57) : UInt8.ofNat (48 + (c.toNat - 48)) = c := by
  rw [show 48 + (c.toNat - 48) = c.toNat by omega]; simp

theorem numGo_dec (u : Nat) (h : u ≤ 2147483647) : numGo (Lib.decDigits u) 0 = some u := by
  induction u using Nat.strongRecOn with
  | ind u ih =>
    rw [Lib.decDigits]
    split
    · next hu => rw [numGo, digit u hu, if_neg (by omega), if_neg (by omega), numGo]; congr 1; omega
    · next hu =>
      rw [numGo_snoc, ih (u / 10) (by omega) (by omega)]
      show numGo [_] (u / 10) = _
      rw [numGo, digit _ (by omega), if_neg (by omega), if_neg (by omega), numGo]
      congr 1; omega
theorem dec_ne (u : Nat) : Lib.decDigits u ≠ [] := by
  rw [Lib.decDigits]; split <;> simp
theorem dec_head (u : Nat) : 1 ≤ u → (Lib.decDigits u).head? ≠ some 48 := by
  induction u using Nat.strongRecOn with
  | ind u ih =>
    intro hu1
    rw [Lib.decDigits]
    split
    · next hu =>
      simp only [List.head?_cons, ne_eq, Option.some.injEq]
      intro e
      have := congrArg UInt8.toNat e
      rw [digit u hu] at this
      simp at this; omega
    · next hu =>
      have hne := dec_ne (u / 10)
      have := ih (u / 10) (by omega) (by omega)
      cases e : Lib.decDigits (u / 10) with
      | nil => exact absurd e hne
      | cons x r => rw [e] at this; simpa using this
theorem number_dec (u : Nat) (h : u ≤ 2147483647) : number (Lib.decDigits u) = some u := by
  rw [number, if_neg, numGo_dec u h]
  rintro (e | ⟨e1, e2⟩)
  · exact dec_ne u e
  · rcases Nat.eq_zero_or_pos u with h0 | h0
    · subst h0; rw [Lib.decDigits_one (by omega)] at e2; simp at e2
    · exact dec_head u h0 e1

theorem numGo_le (l : List UInt8) (n m : Nat) (hn : n ≤ 2147483647) (h : numGo l n = some m) : n ≤ m ∧ m ≤ 2147483647 := by
  rw [numGo_val l n hn] at h
  cases e : valGo l n with
  | none => rw [e] at h; cases h
  | some k =>
    rw [e] at h
    have := valGo_le l n k e
    simp only [upTo, Option.bind_some] at h
    split at h
    · cases h
    · injection h with h; omega

theorem dec_numGo (l : List UInt8) : ∀ n, l ≠ [] → (l.head? = some 48 → l.length = 1) → numGo l 0 = some n → Lib.decDigits n = l := by
  induction hl : l.length generalizing l with
  | zero => intro n h; exact absurd (List.eq_nil_of_length_eq_zero hl) h
  | succ k ih =>
    intro n hne hz h
    obtain ⟨i, c, rfl⟩ : ∃ i c, l = i ++ [c] := ⟨l.dropLast, l.getLast hne, (List.dropLast_concat_getLast hne).symm⟩
    rw [numGo_snoc] at h
    cases em : numGo i 0 with
    | none => rw [em] at h; cases h
    | some m =>
      rw [em] at h
      simp only [Option.bind_some, numGo] at h
      split at h
      · cases h
      · next hd =>
        split at h
        · cases h
        · next hb =>
          injection h with h
          subst h
          by_cases hi : i = []
          · subst hi
            simp only [numGo, Option.some.injEq] at em
            subst em
            rw [Lib.decDigits_one (by omega), show 48 + (10 * 0 + (c.toNat - 48)) = 48 + (c.toNat - 48) by omega, digit_of c (by omega) (by omega)]
            rfl
          · have hih := ih i (by simp at hl; omega) m hi (fun e => by
              have : (i ++ [c]).head? = some 48 := by
                cases i with
                | nil => exact absurd rfl hi
                | cons x r => simpa using e
              have := hz this
              have hik : i.length = k := by simp at hl; omega
              exact absurd (List.eq_nil_of_length_eq_zero (by omega)) hi) em
            have hm : 1 ≤ m := by
              rcases Nat.eq_zero_or_pos m with h0 | h0
              · subst h0
                rw [Lib.decDigits_one (by omega)] at hih
                have : (i ++ [c]).head? = some 48 := by rw [← hih]; rfl
                have := hz this
                have hik : i.length = k := by simp at hl; omega
                exact absurd (List.eq_nil_of_length_eq_zero (by omega)) hi
              · exact h0
            rw [Lib.decDigits, dif_neg (by omega), show (10 * m + (c.toNat - 48)) / 10 = m by omega, show (10 * m + (c.toNat - 48)) % 10 = c.toNat - 48 by omega, hih, digit_of c (by omega) (by omega)]
theorem dec_number (l : List UInt8) (n : Nat) (h : number l = some n) : Lib.decDigits n = l ∧ n ≤ 2147483647 := by
  rw [number] at h
  split at h
  · cases h
  · next hc =>
    refine ⟨dec_numGo l n (fun e => hc (.inl e)) (fun e => ?_) h, (numGo_le l 0 n (by omega) h).2⟩
    have : ¬ 1 < l.length := fun e2 => hc (.inr ⟨e, e2⟩)
    cases l with
    | nil => simp at e
    | cons x r => simp at this ⊢; omega

theorem decimal_in (n : Int) (h0 : 0 ≤ n) (h1 : n ≤ 2147483647) : decimal n = Lib.decDigits n.toNat := by rw [decimal, if_neg (by omega)]
theorem decimal_out (n : Int) (h : n < 0 ∨ 2147483647 < n) : decimal n = [63] := by rw [decimal, if_pos h]
theorem number_decimal (n : Int) (h0 : 0 ≤ n) (h1 : n ≤ 2147483647) : number (decimal n) = some n.toNat := by
  rw [decimal_in n h0 h1, number_dec _ (by omega)]
theorem number_untold (n : Int) (h : n < 0 ∨ 2147483647 < n) : number (decimal n) = none := by
  rw [decimal_out n h]; decide
theorem decimal_number (l : List UInt8) (n : Nat) (h : number l = some n) : decimal n = l := by
  have := dec_number l n h
  rw [decimal_in n (by omega) (by omega)]
  simpa using this.1
theorem decimal_length (n : Int) : (decimal n).length ≤ 10 := by
  by_cases h : n < 0 ∨ 2147483647 < n
  · rw [decimal_out n h]; decide
  · rw [decimal_in n (by omega) (by omega)]
    rcases Nat.lt_or_ge 10 (Lib.decDigits n.toNat).length with hl | hl
    · have := number_long _ hl
      rw [number_dec _ (by omega)] at this
      cases this
    · exact hl
end Go.Proofs.YtlggoplffhdkhaaDoor.P


