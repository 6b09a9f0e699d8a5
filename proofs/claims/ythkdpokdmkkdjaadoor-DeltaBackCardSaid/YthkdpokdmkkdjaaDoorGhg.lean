/-
  The contract of delta's Make.
-/
import Derived.Test.YthkdpokdmkkdjaaDoorGhf
namespace Go.Proofs.YthkdpokdmkkdjaaDoor.Dl
set_option linter.unusedVariables false
set_option linter.unusedSimpArgs false
open Go.RowKit Go.Maps
open T
open V (drawn_below grown_of)
open I (It ItemsIn ItemsAt itCells itCells_snoc itCells_at alloc1 own_at own_below items_of_own items_own infoItem ItemsIn.below)

/-- How far Make has come. -/
structure St (a b : List It) (i j : Nat) (d : List Pt) (lst : Nat) : Prop where
  eq : make a b = Dl.mk (a.drop i) (b.drop j) i (d, lst)
  c2 : lst = 2 → ∀ (h : j < b.length), b[j] ∈ a.drop i
  c1 : lst = 1 → ∀ (h : i < a.length) (h' : j < b.length), a[i] ≠ b[j]
  hi : i ≤ a.length
  hj : j ≤ b.length
theorem drop_not (p : It → Bool) : ∀ (l : List It) (h : 0 < (l.dropWhile p).length), p (l.dropWhile p)[0] = false
  | [], h => by simp at h
  | x :: r, h => by
    by_cases e : p x = true
    · have e1 : (x :: r).dropWhile p = r.dropWhile p := by rw [List.dropWhile_cons, if_pos e]
      have ih := drop_not p r (by rw [← e1]; exact h)
      simp only [e1]
      exact ih
    · have e1 : (x :: r).dropWhile p = x :: r := by rw [List.dropWhile_cons, if_neg e]
      simp only [e1, List.getElem_cons_zero]
      exact eq_false_of_ne_true e
theorem St.start (a b : List It) : St a b 0 0 [] 0 := ⟨rfl, (fun h => by cases h), (fun h => by cases h), Nat.zero_le _, Nat.zero_le _⟩
theorem mis_beh {a b : List It} {i j : Nat} : mis (fun x => (beh a x : Int)) i (b.drop j) = ((b.drop j).takeWhile fun x => decide (x ∉ a.drop i)).length := by
  unfold mis
  congr 2
  funext x
  have h := beh_iff a x i
  show decide ((beh a x : Int) ≤ (i : Int)) = _
  by_cases e : x ∈ a.drop i
  · have := h.1 e
    rw [decide_eq_false (by omega), decide_eq_false (by simpa using e)]
  · have : ¬ i < beh a x := fun q => e (h.2 q)
    rw [decide_eq_true (by omega), decide_eq_true e]
theorem St.own {a b : List It} {i j lst : Nat} {d : List Pt} (h : St a b i j d lst) {n : Nat} (hn : mis (fun x => (beh a x : Int)) i (b.drop j) = n) (h0 : 0 < n) : j + n ≤ b.length ∧ St a b i (j + n) (d ++ [⟨0, 0, cuti b j n⟩]) 2 := by
  rw [mis_beh] at hn
  have hle : n ≤ (b.drop j).length := by rw [← hn]; exact (List.takeWhile_sublist _).length_le
  rw [List.length_drop] at hle
  have hpre : (b.drop j).takeWhile (fun x => decide (x ∉ a.drop i)) = cuti b j n := by
    have hp := List.takeWhile_prefix (l := b.drop j) (fun x => decide (x ∉ a.drop i))
    rw [List.prefix_iff_eq_take.1 hp, hn]; rfl
  have hall : ∀ x ∈ cuti b j n, x ∉ a.drop i := fun x hx => by
    rw [← hpre] at hx
    have := List.all_takeWhile (l := b.drop j) (p := fun x => decide (x ∉ a.drop i))
    rw [List.all_eq_true] at this
    simpa using this x hx
  have hsp : b.drop j = cuti b j n ++ b.drop (j + n) := by rw [cuti, ← List.drop_drop, List.take_append_drop]
  have hlt : j < b.length := by have := h.hj; omega
  have hne : cuti b j n ≠ [] := fun e => by have := congrArg List.length e; rw [cuti_len (by omega)] at this; simp at this; omega
  have h2 : lst ≠ 2 := fun e => by
    have h1 := h.c2 e hlt
    refine hall b[j] ?_ h1
    rw [cuti, List.drop_eq_getElem_cons hlt]
    obtain ⟨m, rfl⟩ : ∃ m, n = m + 1 := ⟨n - 1, by omega⟩
    rw [List.take_succ_cons]; exact List.mem_cons_self
  refine ⟨by omega, ⟨?_, fun _ hl => ?_, (fun e => by cases e), h.hi, by omega⟩⟩
  · rw [h.eq, hsp, mk_own i _ hall hne h2]
  · have hd : (b.drop j).dropWhile (fun x => decide (x ∉ a.drop i)) = b.drop (j + n) := by
      have h3 := List.takeWhile_append_dropWhile (p := fun x => decide (x ∉ a.drop i)) (l := b.drop j)
      rw [hpre] at h3
      have h4 := hsp
      rw [← h3] at h4
      exact List.append_cancel_left h4
    have h5 := drop_not (fun x => decide (x ∉ a.drop i)) (b.drop j) (by rw [hd, List.length_drop]; omega)
    simp only [hd] at h5
    simpa using h5
theorem alk_pos {x : It} {a b : List It} : 0 < alk (x :: a) (x :: b) := by rw [alk, if_pos rfl]; omega
theorem alk_max : ∀ (a b : List It) (h1 : alk a b < a.length) (h2 : alk a b < b.length), a[alk a b] ≠ b[alk a b]
  | [], b, h1, h2 => by simp [alk] at h1
  | x :: a, [], h1, h2 => by simp [alk] at h2
  | x :: a, y :: b, h1, h2 => by
    by_cases e : x = y
    · have ea : alk (x :: a) (y :: b) = alk a b + 1 := by rw [alk, if_pos e]
      have ih := alk_max a b (by rw [ea] at h1; simpa using h1) (by rw [ea] at h2; simpa using h2)
      simp only [ea, List.getElem_cons_succ]
      exact ih
    · have ea : alk (x :: a) (y :: b) = 0 := by rw [alk, if_neg e]
      simp only [ea, List.getElem_cons_zero]
      exact e
theorem St.copy {a b : List It} {i j lst : Nat} {d : List Pt} (h : St a b i j d lst) (hj : j < b.length) (hn : mis (fun x => (beh a x : Int)) i (b.drop j) = 0) :
    b[j] ∈ a.drop i ∧ i + (a.drop i).idxOf b[j] ≤ a.length ∧ (∀ n, alk (a.drop (i + (a.drop i).idxOf b[j])) (b.drop j) = n → 0 < n ∧ i + (a.drop i).idxOf b[j] + n ≤ a.length ∧ j + n ≤ b.length ∧ St a b (i + (a.drop i).idxOf b[j] + n) (j + n) (d ++ [⟨((i + (a.drop i).idxOf b[j] : Nat) : Int), (n : Int), []⟩]) 1) := by
  have hm : b[j] ∈ a.drop i := by
    rw [mis_beh, List.drop_eq_getElem_cons hj, List.takeWhile_cons] at hn
    by_cases e : b[j] ∈ a.drop i
    · exact e
    · rw [decide_eq_true e, if_pos rfl] at hn; simp at hn
  have hq := List.idxOf_lt_length_iff.2 hm
  have hge := List.getElem_idxOf hq
  have hnot : b[j] ∉ (a.drop i).take ((a.drop i).idxOf b[j]) := fun hx => by
    obtain ⟨k, hk, e⟩ := List.getElem_of_mem hx
    rw [List.length_take] at hk
    rw [List.getElem_take] at e
    have := List.not_of_lt_findIdx (p := (· == b[j])) (xs := a.drop i) (i := k) (Nat.lt_of_lt_of_le hk (Nat.min_le_left _ _))
    simp [e] at this
  rw [List.length_drop] at hq
  generalize hQ : (a.drop i).idxOf b[j] = q at *
  refine ⟨hm, by omega, fun n hn' => ?_⟩
  have hsp : a.drop i = (a.drop i).take q ++ a.drop (i + q) := by rw [← List.drop_drop, List.take_append_drop]
  have hlz : ((a.drop i).take q).length = q := by rw [List.length_take, List.length_drop]; omega
  have haq : a.drop (i + q) = b[j] :: a.drop (i + q + 1) := by
    rw [List.drop_eq_getElem_cons (by omega)]
    rw [List.getElem_drop] at hge
    rw [hge]
  have hbj : b.drop j = b[j] :: b.drop (j + 1) := List.drop_eq_getElem_cons hj
  have h0 : 0 < n := by rw [← hn', haq, hbj]; exact alk_pos
  have hle := alk_le (a.drop (i + q)) (b.drop j)
  rw [hn', List.length_drop, List.length_drop] at hle
  have hc1 : a.drop (i + q) = (a.drop (i + q)).take n ++ a.drop (i + q + n) := by have h9 := (List.take_append_drop n (a.drop (i + q))).symm; rwa [List.drop_drop] at h9
  have hc2 : b.drop j = (a.drop (i + q)).take n ++ b.drop (j + n) := by rw [hle.2.2]; have h9 := (List.take_append_drop n (b.drop j)).symm; rwa [List.drop_drop] at h9
  have hlc : ((a.drop (i + q)).take n).length = n := by rw [List.length_take, List.length_drop]; omega
  have e1 : make a b = Dl.mk (a.drop (i + q)) (b.drop j) (i + q) (d, if (a.drop i).take q = [] then lst else 0) := by
    rw [h.eq]
    conv => lhs; rw [hsp, hbj]
    rw [mk_skips _ _ _ _ hnot (by rw [haq]; exact List.mem_cons_self), hlz, ← hbj]
  have hs1 : (if (a.drop i).take q = [] then lst else 0) ≠ 1 := by
    split
    · rename_i e
      have hq0 : q = 0 := by have := congrArg List.length e; rw [hlz] at this; simpa using this
      subst hq0
      intro e1
      have h1 := h.c1 e1 (by omega) hj
      rw [Nat.add_zero] at haq
      rw [List.drop_eq_getElem_cons (by omega : i < a.length)] at haq
      exact h1 (List.cons.inj haq).1
    · decide
  refine ⟨h0, by omega, by omega, ⟨?_, (fun e => by cases e), fun _ h1 h2 => ?_, by omega, by omega⟩⟩
  · rw [e1]
    conv => lhs; rw [hc1, hc2]
    rw [mk_copy _ _ _ (by intro e; have := congrArg List.length e; rw [hlc] at this; simp at this; omega) hs1, hlc]
  · have h3 := alk_max (a.drop (i + q)) (b.drop j) (by rw [hn', List.length_drop]; omega) (by rw [hn', List.length_drop]; omega)
    simp only [hn', List.getElem_drop] at h3
    exact h3
theorem St.done {a b : List It} {i lst : Nat} {d : List Pt} (h : St a b i b.length d lst) : make a b = d := by
  rw [h.eq, List.drop_length, mk_nil]
set_option maxRecDepth 100000 in
set_option maxHeartbeats 16000000 in
theorem make_any {A B : Option Addr} {ca cb : Nat} {a b : List It} (w : World) (hA : Ix w A ca a) (hB : Ix w B cb b) (ha : a.length ≤ 1000) (hb : b.length ≤ 1000) (hwa : ∀ x ∈ a, Wi x) (hwb : ∀ x ∈ b, Wi x) (hca : ca ≤ 9223372036854775807) (hcb : cb ≤ 9223372036854775807) :
    Calls Tryd.prog 11 #[.slice A a.length ca, .slice B b.length cb] w (PtEnd w (make a b)) := by
  obtain ⟨i0, hi0, hz0, hz1, hz2⟩ := info_parts infoPart
  have HA := Lib.hid hA
  have HB := Lib.hid hB
  have HEN := Lib.hid (ends_any A ca a w hA.i (by omega) hwa)
  have HST := Lib.hid (St.start a b)
  obtain ⟨mk0, hmk0⟩ : ∃ q, q = make a b := ⟨_, rfl⟩
  have HMK := Lib.hid hmk0
  rw [← hmk0]
  have hra := hA.r
  have hrb := hB.r
  have HZA := Lib.hid hA.z
  have HZB := Lib.hid hB.z
  clear hA hB hmk0
  go_enter Tryd.func11, Tryd.ntmps11
  go_wp2_with fail
  with_reducible refine HEN.out.mono ?_
  rintro e w1 ⟨mb, rfl, hmap, hb1⟩
  have HB1 := Lib.hid hb1
  have HM1 := Lib.hid hmap
  replace HA := Lib.hid (HA.out.below hb1)
  replace HB := Lib.hid (HB.out.below hb1)
  clear HEN hb1 hmap
  go_wp2_with fail
  go_loopg [6, 7, 8, 9, 10] b.length (fun m v vi vj x9 x10 wr => ∃ (i j lst : Nat) (qs : List Pq) (VA : Option Addr) (vc : Nat), vi = .int .i64 (i : Int) ∧ vj = .int .i64 (j : Int) ∧ v = .slice VA qs.length vc ∧ b.length - j ≤ m ∧ Hid (Pw wr w1.heap.size (.slice VA qs.length vc) qs) ∧ Hid (Below w1.heap.size w1 wr) ∧ Hid (St a b i j (qs.map (·.p)) lst) ∧ qs.length ≤ j)
  case atStart => exact ⟨0, 0, 0, [], none, 0, rfl, rfl, rfl, by omega, Lib.hid (Pw.nil _ _), Lib.hid (Below.refl _ _), HST, Nat.le_refl _⟩
  case round =>
    clear HST
    obtain ⟨i, j, lst, qs, VA, vc, rfl, rfl, rfl, hm, HP, HBR, HS, hqj⟩ := hrel
    have hi := HS.out.hi
    have hj := HS.out.hj
    have HAr := Lib.hid (HA.out.below HBR.out)
    have HBr := Lib.hid (HB.out.below HBR.out)
    by_cases hlt : j < b.length
    · have h0j : (0 : Int) ≤ (j : Int) := by omega
      have hji : (j : Int) < (b.length : Int) := by omega
      have hsl := fun W => drop_is (B := B) (n := b.length) (c := cb) (k := j) (by omega) hrb HZB.out W
      have hdx := drop_ix HBr.out hj
      have HMS := Lib.hid (missing_any (dropP B cb j) (cb - j) (b.drop j) mb a.length (fun x => (beh a x : Int)) i wr hdx.i (by rw [List.length_drop]; omega) (fun x hx => hwb x (List.mem_of_mem_drop hx)) (HM1.out.kept (grown_of HBR.out none) (by simp)))
      rw [List.length_drop] at HMS
      obtain ⟨n, hn⟩ : ∃ n, n = mis (fun x => (beh a x : Int)) i (b.drop j) := ⟨_, rfl⟩
      rw [← hn] at HMS
      have HN := Lib.hid hn.symm
      clear hn hdx
      go_wp2_with fail
      with_reducible refine HMS.out.mono ?_
      rintro e w2 ⟨rfl, rfl⟩
      clear HMS
      by_cases hn0 : 0 < n
      · obtain ⟨hle, hst⟩ := HS.out.own HN.out hn0
        have HS2 := Lib.hid hst
        have hni : (0 : Int) < (n : Int) := by omega
        have HCT := Lib.hid (cut_any (B := B) (c := cb) (m := b.length) (k := j) (n := n) w2 hle hrb HZB.out hcb)
        have hcx := cut_in HBr.out hle
        have HCL := Lib.hid (clone_any w2 hcx (by rw [cuti_len hle]; omega))
        rw [cuti_len hle] at HCL
        have HCN := Lib.hid (cuti_len hle)
        have hw1 : IntKind.i64.wrap ((j : Int) + (n : Int)) = ((j + n : Nat) : Int) := by rw [IntKind.wrap_i64]; omega
        clear hst hcx hsl
        go_wp2_with fail
        with_reducible refine HCT.out.mono ?_
        rintro e w3 ⟨rfl, rfl⟩
        clear HCT
        go_wp2_with fail
        with_reducible refine HCL.out.mono ?_
        rintro e w4 ⟨C, cc, rfl, hco, hb4, -⟩
        have HP4 := Lib.hid (HP.out.below hb4)
        have HB4 := Lib.hid (HBR.out.trans (hb4.mono HBR.out.size))
        have HCO : Hid (w4.ownsRow w1.heap.size 41 6 (.slice C (cuti b j n).length cc) (cuti b j n).length (itCells (cuti b j n))) := Lib.hid (by rw [HCN.out]; exact V.own_base_le hco HBR.out.size)
        have HP5 := Lib.hid (HP4.out.below (alloc1 w4 (.cells #[.int .i64 0, .int .i64 0, .slice C n cc] 27)))
        have HC5 := Lib.hid (own_below HCO.out (alloc1 w4 (.cells #[.int .i64 0, .int .i64 0, .slice C n cc] 27)))
        have hs4 := HB4.out.size
        clear hco hb4 HCL HP HBR HP4 HCO
        go_upto_region 8 with (at_builtin; refine wpList_append_own_at _ rfl (.tmp 25) (.tmp 32) _ rfl w1.heap.size 27 i0 _ 3 40 Tryd.underlying24 hi0 hz0 hz1 hz2 rfl (by decide) _ _ _ rfl HP5.out.own ⟨w4.heap.size, 0, none⟩ 1 1 [.int .i64 0, .int .i64 0, .slice C n cc] rfl rfl (World.news_of_block (heap_alloc_new w4 _)) (by intro u hu; simp at hu; rcases hu with rfl | rfl | rfl <;> rfl) (by unfold maxLen; omega) (by omega) (by simp; omega) ?_; intro v1 w6 ho6 hg6 _ hat6)
        have HP6 : Hid (Pw w6 w1.heap.size v1 (qs ++ [⟨⟨0, 0, cuti b j n⟩, C, cc⟩])) := Lib.hid (HP5.out.add (q := ⟨⟨0, 0, cuti b j n⟩, C, cc⟩) HC5.out hg6 (by simp only [HCN.out]; exact ho6))
        have HB6 := Lib.hid ((HB4.out.trans ((alloc1 w4 (.cells #[.int .i64 0, .int .i64 0, .slice C n cc] 27)).mono hs4)).grown hg6 (by simp; omega) (fun k e => (World.ownsRow.lt HP5.out.own k e).1))
        obtain ⟨RA, rcap, rfl, -, -⟩ := own_form HP6.out.own
        clear ho6 hg6 hat6 HP5 HC5 HB4
        go_wp2_with fail
        go_roundg (b.length - (j + n))
        case rel => exact ⟨i, j + n, 2, qs ++ [⟨⟨0, 0, cuti b j n⟩, C, cc⟩], RA, rcap, rfl, rfl, rfl, Nat.le_refl _, HP6, HB6, Lib.hid (by rw [List.map_append]; exact HS2.out), by simp; omega⟩
        case measure => omega
      · obtain rfl : n = 0 := by omega
        obtain ⟨hmem, hq1, hq2⟩ := HS.out.copy hlt HN.out
        have HQ2 := Lib.hid hq2
        have HIX := Lib.hid (fun (W : World) (h : Below w2.heap.size w2 W) => index_any (dropP A ca i) (ca - i) (a.drop i) b[j] W ((drop_ix HAr.out hi).below h).i (by rw [List.length_drop]; omega) hmem)
        simp only [List.length_drop, itV] at HIX
        obtain ⟨bk, off, hBe, hbk, g0, g1, g2, g3, g4, g5⟩ := it_at HBr.out.i hlt
        subst hBe
        generalize hy : b[j]'hlt = y at *
        obtain ⟨q, hq⟩ : ∃ q, q = (a.drop i).idxOf y := ⟨_, rfl⟩
        rw [← hq] at HIX HQ2 hq1
        clear hq hy hmem hq2
        have hsa := fun W => drop_is (B := A) (n := a.length) (c := ca) (k := i) hi hra HZA.out W
        have hw1 : IntKind.i64.wrap ((i : Int) + (q : Int)) = ((i + q : Nat) : Int) := by rw [IntKind.wrap_i64]; omega
        have HSX : Hid (∀ W, Below w2.heap.size w2 W → (W.cell? ⟨bk, off + j * 6, none⟩ = some (.int .i64 y.id) ∧ W.cell? ⟨bk, off + j * 6 + 1, none⟩ = some (.int .i64 y.lv) ∧ W.cell? ⟨bk, off + j * 6 + 2, none⟩ = some (.int .u64 (y.ct : Int)) ∧ W.cell? ⟨bk, off + j * 6 + 3, none⟩ = some (.bool y.an) ∧ W.cell? ⟨bk, off + j * 6 + 4, none⟩ = some (.string ⟨y.tx.toArray⟩) ∧ W.cell? ⟨bk, off + j * 6 + 5, none⟩ = some (.bool y.ba) ∧ Below w2.heap.size w2 W)) := Lib.hid (fun W h => ⟨(h.cell (p := ⟨bk, _, none⟩) hbk).trans g0, (h.cell (p := ⟨bk, _, none⟩) hbk).trans g1, (h.cell (p := ⟨bk, _, none⟩) hbk).trans g2, (h.cell (p := ⟨bk, _, none⟩) hbk).trans g3, (h.cell (p := ⟨bk, _, none⟩) hbk).trans g4, (h.cell (p := ⟨bk, _, none⟩) hbk).trans g5, h⟩)
        have HIY : Hid (∀ W, Below w2.heap.size w2 W → Calls Tryd.prog 27 #[.slice (dropP A ca i) (a.length - i) (ca - i), .agg #[.int .i64 y.id, .int .i64 y.lv, .int .u64 (y.ct : Int), .bool y.an, .string ⟨y.tx.toArray⟩, .bool y.ba]] W fun e w' => e = .returned (.int .i64 (q : Int)) ∧ Below w2.heap.size w2 w') := Lib.hid (fun W h => (HIX.out W h).mono fun e w' h' => ⟨h'.1, h.trans (h'.2.mono h.size)⟩)
        clear hsl HIX g0 g1 g2 g3 g4 g5 hbk
        go_upto_region 9 with fail
        go_cut [7] (fun v wz => v = .int .i64 ((i + q : Nat) : Int) ∧ Hid (Below w2.heap.size w2 wz))
        case first =>
          go_region_held3 (fun W => W.cell? ⟨bk, off + j * 6, none⟩ = some (.int .i64 y.id) ∧ W.cell? ⟨bk, off + j * 6 + 1, none⟩ = some (.int .i64 y.lv) ∧ W.cell? ⟨bk, off + j * 6 + 2, none⟩ = some (.int .u64 (y.ct : Int)) ∧ W.cell? ⟨bk, off + j * 6 + 3, none⟩ = some (.bool y.an) ∧ W.cell? ⟨bk, off + j * 6 + 4, none⟩ = some (.string ⟨y.tx.toArray⟩) ∧ W.cell? ⟨bk, off + j * 6 + 5, none⟩ = some (.bool y.ba) ∧ Below w2.heap.size w2 W)
            (first | exact HSX.out _ ((Below.refl _ _).drew) | exact HSX.out _ (by assumption))
            (first | (go_at_call 27; with_reducible refine (HIY.out _ (And.right (And.right (And.right (And.right (And.right (And.right (by assumption)))))))).mono ?_; rintro r wq ⟨rfl, hbq⟩))
          all_goals
            go_wp2_with fail
            go_meet
            case rel => exact ⟨rfl, Lib.hid (And.right (And.right (And.right (And.right (And.right (And.right (by assumption)))))))⟩
        case rest =>
        obtain ⟨rfl, HZ⟩ := hcut
        generalize wc = w3 at *
        have hAr := HAr.out.below HZ.out
        have hBr := HBr.out.below HZ.out
        have HBR3 := Lib.hid (HBR.out.trans (HZ.out.mono HBR.out.size))
        have HP3 := Lib.hid (HP.out.below HZ.out)
        obtain ⟨n, hn⟩ : ∃ n, n = alk (a.drop (i + q)) (b.drop j) := ⟨_, rfl⟩
        obtain ⟨hn1, hn2, hn3, hst⟩ := HQ2.out n hn.symm
        have HS2 := Lib.hid hst
        have HAL := Lib.hid (fun (W : World) (h : Below w3.heap.size w3 W) => (alike_any (dropP A ca (i + q)) (dropP (some ⟨bk, off, none⟩) cb j) (ca - (i + q)) (cb - j) (a.drop (i + q)) (b.drop j) W ((drop_ix hAr hq1).below h).i ((drop_ix hBr hj).below h).i (by rw [List.length_drop]; omega) (by rw [List.length_drop]; omega)).mono fun e w' h' => show e = .returned (.int .i64 (n : Int)) ∧ Below w3.heap.size w3 w' from ⟨by rw [hn]; exact h'.1, h.trans (h'.2.mono h.size)⟩)
        simp only [List.length_drop] at HAL
        have hsa2 := fun W => drop_is (B := A) (n := a.length) (c := ca) (k := i + q) hq1 hra HZA.out W
        have hsb2 := fun W => drop_is (B := some ⟨bk, off, none⟩) (n := b.length) (c := cb) (k := j) hj hrb HZB.out W
        have hiq : ((i + q : Nat) : Int) ≤ (a.length : Int) := by omega
        have hq9 : qs.length + 1 ≤ 2000 := by omega
        clear hst hsa HSX HIY hw1 hAr hBr HQ2 HZ HBR HP hn
        obtain ⟨p, hp⟩ : ∃ p, p = i + q := ⟨_, rfl⟩
        rw [← hp] at HAL hsa2 hiq HS2 hn2 hq1 ⊢
        have h0p : (0 : Int) ≤ (p : Int) := by omega
        clear hp
        go_upto_region 10 with fail
        go_cut [10] (fun v wz => v = .int .i64 (n : Int) ∧ Hid (Below w3.heap.size w3 wz))
        case first =>
          go_region_held3 (fun W => Below w3.heap.size w3 W)
            (first | exact (Below.refl _ _).drew | with_reducible exact (by assumption))
            (first | (go_at_call 28; with_reducible refine (HAL.out _ (by assumption)).mono ?_; rintro r wq ⟨rfl, hbq⟩))
          all_goals
            go_wp2_with fail
            go_meet
            case rel => exact ⟨rfl, Lib.hid (by assumption)⟩
        case rest =>
        obtain ⟨rfl, HZ⟩ := hcut
        generalize wc = w4 at *
        have HB4 := Lib.hid (HBR3.out.trans (HZ.out.mono HBR3.out.size))
        have HP4 := Lib.hid (HP3.out.below HZ.out)
        have HP5 := Lib.hid (HP4.out.below (alloc1 w4 (.cells #[.int .i64 (p : Int), .int .i64 (n : Int), .slice none 0 0] 27)))
        have hs4 := HB4.out.size
        have hw1 : IntKind.i64.wrap ((p : Int) + (n : Int)) = ((p + n : Nat) : Int) := by rw [IntKind.wrap_i64]; omega
        have hw3 : IntKind.i64.wrap ((j : Int) + (n : Int)) = ((j + n : Nat) : Int) := by rw [IntKind.wrap_i64]; omega
        clear HAL hsa2 hsb2 HBR3 HP3 HZ HP4
        go_upto_region 12 with (at_builtin; refine wpList_append_own_at _ rfl (.tmp 54) (.tmp 58) _ rfl w1.heap.size 27 i0 _ 3 40 Tryd.underlying24 hi0 hz0 hz1 hz2 rfl (by decide) _ _ _ rfl HP5.out.own ⟨w4.heap.size, 0, none⟩ 1 1 [.int .i64 (p : Int), .int .i64 (n : Int), .slice none 0 0] rfl rfl (World.news_of_block (heap_alloc_new w4 _)) (by intro u hu; simp at hu; rcases hu with rfl | rfl | rfl <;> rfl) (Nat.le_trans hq9 (by unfold maxLen; decide)) (Nat.le_trans (Nat.mul_le_mul_right 40 hq9) (by decide)) (Nat.le_trans hs4 (alloc1 w4 _).size) ?_; intro v1 w6 ho6 hg6 _ hat6)
        have HP6 : Hid (Pw w6 w1.heap.size v1 (qs ++ [⟨⟨(p : Int), (n : Int), []⟩, none, 0⟩])) := Lib.hid (HP5.out.add (q := ⟨⟨(p : Int), (n : Int), []⟩, none, 0⟩) (World.ownsRow_nil _ _ _ _) hg6 ho6)
        have HB6 := Lib.hid ((HB4.out.trans ((alloc1 w4 (.cells #[.int .i64 (p : Int), .int .i64 (n : Int), .slice none 0 0] 27)).mono hs4)).grown hg6 (Nat.le_trans hs4 (alloc1 w4 _).size) (fun k e => (World.ownsRow.lt HP5.out.own k e).1))
        obtain ⟨RA, rcap, rfl, -, -⟩ := own_form HP6.out.own
        clear ho6 hg6 hat6 HP5 HB4
        go_wp2_with fail
        go_roundg (b.length - (j + n))
        case rel => exact ⟨p + n, j + n, 1, qs ++ [⟨⟨(p : Int), (n : Int), []⟩, none, 0⟩], RA, rcap, rfl, rfl, rfl, Nat.le_refl _, HP6, HB6, Lib.hid (by rw [List.map_append]; exact HS2.out), by rw [List.length_append]; simp only [List.length_cons, List.length_nil]; omega⟩
        case measure => omega
    · obtain rfl : j = b.length := by omega
      have hd := HS.out.done
      have HD := Lib.hid (HMK.out.trans hd)
      clear hd
      go_wp2_with fail
      go_ret
      exact ⟨VA, vc, by rw [HD.out, List.length_map]; rfl, by rw [HD.out]; exact HP.out.read, HB1.out.trans (HBR.out.mono HB1.out.size)⟩
end Go.Proofs.YthkdpokdmkkdjaaDoor.Dl
