/-
  Whoever is told of a patch: the contracts of patch.Gone and Made.
  The contract of patch.Size.
  The reference's Sides, with the room of its rows.
  What each law on patches asks first (live); the contracts on patches, one form each.
  The reference's Build: the row of hunks while each one's edits are brought into their normal form.
  The reference's Normal, with the room of its row.
-/
import Derived.Test.YtigghcmbdnidnaaGpr
import Derived.Test.YtigghcmbdnidnaaGpp
import Derived.BigQuiet
import Derived.Test.YtigghcmbdnidnaaGpi
import Derived.Test.YtigghcmbdnidnaaGpm
namespace Go.Proofs.Ytigghcmbdnidnaa.Pa
open Go.RowKit
open T S H
open V (grown_of drawn_below IntsIn numCells numCells_snoc ints_own alloc_at)
open I (alloc1 own_at own_below)
open N (Ln)

def GnEnd (w : World) (g : List Int) (q : Int) (e : Ending) (w' : World) : Prop :=
  ∃ A c, e = .returned (.tuple #[.slice A g.length c, .int .i64 q]) ∧ IntsIn w' A g ∧ Below w.heap.size w w'

set_option maxRecDepth 100000 in
set_option maxHeartbeats 2000000 in
theorem tellGone_any (w0 : World) (Bp n1 : Nat) (hB : Bp < n1) (l : Tl) (s : Int) (i j : Nat) (W : World) (hJ : JB w0 Bp 28 3 1 (fun l => numCells (goT l)) (fun l => (goT l).length) n1 l W) (hn1 : n1 ≤ W.heap.size) (hl : l.length ≤ 800) :
    Calls Try.prog 27 #[.int .i64 s, .agg #[.int .i64 (i : Int), .int .i64 (j : Int)], .pointer (some ⟨Bp, 0, none⟩)] W fun e W' => e = .returned (.tuple #[]) ∧ JB w0 Bp 28 3 1 (fun l => numCells (goT l)) (fun l => (goT l).length) n1 (l ++ [(s, i, j)]) W' ∧ KpA Bp n1 W W' := by
  obtain ⟨i0, hi0, hz0, hz1, hz2⟩ := info_parts L.infoInt
  obtain ⟨v, hbx, hown, hb⟩ := hJ
  have c0 := L.blk_cell hbx 0
  have f0 := L.blk_free hbx 0
  simp only [List.getElem?_toArray, List.getElem?_cons_zero] at c0
  have hbl := L.blk_lt hbx
  have c1 : ∀ o, (W.alloc o).cell? ⟨Bp, 0, none⟩ = some v := fun o => ((alloc1 W o).cell (p := ⟨Bp, 0, none⟩) hbl).trans c0
  have HBX := Lib.hid hbx
  have HOW := Lib.hid hown
  have HB := Lib.hid hb
  have HBN := Lib.hid (And.intro hB hn1)
  have hpl := goT_len l
  have hpr : goT (l ++ [(s, i, j)]) = goT l ++ (if s = 2 then [(i : Int)] else []) := by unfold goT; by_cases h : s = 2 <;> simp [h]
  obtain ⟨n, hn⟩ : ∃ n, n = (goT l).length := ⟨_, rfl⟩
  have HN := Lib.hid hn
  simp only [← hn] at HOW
  have hnl : n ≤ 800 := by omega
  clear hbx hown hb hn hpl
  by_cases hs : s = 2
  · subst hs
    have HP : Hid (goT (l ++ [(2, i, j)]) = goT l ++ [(i : Int)]) := Lib.hid (by rw [hpr, if_pos rfl])
    have HM : Hid (numCells (goT l) ++ [.int .i64 (i : Int)] = numCells (goT (l ++ [(2, i, j)]))) := Lib.hid (by rw [HP.out, numCells_snoc])
    have HLN : Hid (n + 1 = (goT (l ++ [(2, i, j)])).length) := Lib.hid (by rw [HP.out, HN.out]; simp)
    clear hpr
    go_enter Try.func27, Try.ntmps27
    go_wp2_with (at_builtin; refine wpList_append_own _ rfl _ _ 28 rfl n1 3 i0 _ 1 8 Try.underlying28 hi0 hz0 hz1 hz2 rfl (by decide) _ n _ rfl ((HOW.out.alloc _).alloc _) ⟨_, 0, none⟩ 1 1 [.int .i64 (i : Int)] rfl rfl (World.news_of_block (alloc_at _ (by first | rfl | simp))) (by intro u hu; simp at hu; rcases hu with rfl; rfl) (by simp only [maxLen]; omega) (by omega) (by first | omega | (simp; done) | (simp; omega)) ?_; intro v' w4 hown4 hg4 _; obtain ⟨VA, vcap, rfl, -, -⟩ := own_form hown4; obtain ⟨p1, p2, p3, p4⟩ := put_back HBX.out HOW.out (by decide) (by decide) HBN.out.1 HBN.out.2 hg4 hown4; have c4 := L.blk_cell p1 0; have f4 := L.blk_free p1 0; simp only [List.getElem?_toArray, List.getElem?_cons_zero] at c4; have P2 := Lib.hid p2; have P3 := Lib.hid p3; have P4 := Lib.hid p4; clear p1 p2 p3 p4 hown4 hg4)
    go_end0
    exact ⟨rfl, ⟨_, P2.out, by dsimp only; rw [← HM.out, ← HLN.out]; exact P3.out, HB.out.trans P4.out.1⟩, P4.out⟩
  · have HP : Hid (goT (l ++ [(s, i, j)]) = goT l) := Lib.hid (by rw [hpr, if_neg hs, List.append_nil])
    have hsb : (s == 2) = false := beq_eq_false_iff_ne.2 hs
    clear hpr hs
    go_enter Try.func27, Try.ntmps27
    go_wp2_with fail
    go_end0
    exact ⟨rfl, JB.keeps _ _ _ ⟨v, HBX.out, by dsimp only; rw [HP.out, ← HN.out]; exact HOW.out, HB.out⟩ (alloc1 _ _), kpa_alloc _ HBN.out.1 HBN.out.2⟩
theorem tellGone (w0 : World) (Bp n1 : Nat) (hB : Bp < n1) : Told 27 (.pointer (some ⟨Bp, 0, none⟩)) Bp n1 (JB w0 Bp 28 3 1 (fun l => numCells (goT l)) (fun l => (goT l).length) n1) :=
  ⟨Go.Proofs.enters_of Try.func27 (by kernel_rfl) rfl, JB.keeps, JB.sets, fun l s i j W hJ hn hl => tellGone_any w0 Bp n1 hB l s i j W hJ hn hl⟩
set_option maxRecDepth 100000 in
set_option maxHeartbeats 2000000 in
theorem gone_any (A B : Option Addr) (c c' : Nat) (hs : List Hk) (a : List Ln) (w : World) (hH : HksIn 0 w A hs) (hok : HksOk hs) (hL : LinesIn w B a) (hc : a.length ≤ c') (ham : a.length ≤ maxLen) (hT : ∀ y ∈ sd 2 (whl hs a).1, y.1.length ≤ maxLen) :
    Calls Try.prog 9 #[.slice A hs.length c, .slice B a.length c'] w (GnEnd w (goT (tld hs a)) (mde hs a).2) := by
  have hmf : ∀ (fn : Fn) (first cap : Array Value) (w : World), (Instr.makeFunc fn first cap).run Try.prog w = .ok (.func fn first cap) w := fun _ _ _ _ => rfl
  obtain ⟨W0, hW0⟩ : ∃ W : World, W = w.alloc (.cells #[.slice none 0 0] 28) := ⟨_, rfl⟩
  have hb0 : Below w.heap.size w W0 := by rw [hW0]; exact alloc1 _ _
  have hx0 : W0.heap[w.heap.size]? = some (.cells #[.slice none 0 0] 28 (0, 0)) := by rw [hW0]; exact heap_alloc_new w _
  have HWK := Lib.hid (walk_any 27 _ w.heap.size (JB w w.heap.size 28 3 1 (fun l => numCells (goT l)) (fun l => (goT l).length)) (fun n1 hB => tellGone w w.heap.size n1 hB) A B c c' hs a W0 (hH.below hb0) hok (hL.below hb0) hc ham hT hx0 (fun n1 => ⟨_, hx0, World.ownsRow_nil _ _ _ _, hb0⟩))
  clear hH hL hb0 hx0 hT
  generalize (mde hs a).1 = b at *
  generalize (mde hs a).2 = q at *
  generalize tld hs a = X at *
  go_enter Try.func9, Try.ntmps9
  go_wp2_with fail
  rw [← hW0]
  clear hW0
  with_reducible refine HWK.out.mono ?_
  rintro e w1 ⟨n1, BA, bc, rfl, hBL, ⟨v, hbx, hown, hbl⟩, -, hn1⟩
  have c0 := L.blk_cell hbx 0
  simp only [List.getElem?_toArray, List.getElem?_cons_zero] at c0
  obtain ⟨VA, vcap, rfl, -, -⟩ := own_form hown
  have HOW := Lib.hid (ints_own (xs := goT X) hown)
  have HBB := Lib.hid hbl
  clear hown hbx hBL hbl hn1 HWK
  go_wp2_with fail
  refine bodyPost_ret (v := .tuple #[.slice VA (goT X).length vcap, .int .i64 q]) (by simp [results, Try.results9, go_sem]) rfl ⟨VA, vcap, rfl, HOW.out, HBB.out⟩

set_option maxRecDepth 100000 in
set_option maxHeartbeats 2000000 in
theorem tellMade_any (w0 : World) (Bp n1 : Nat) (hB : Bp < n1) (l : Tl) (s : Int) (i j : Nat) (W : World) (hJ : JB w0 Bp 28 3 1 (fun l => numCells (maT l)) (fun l => (maT l).length) n1 l W) (hn1 : n1 ≤ W.heap.size) (hl : l.length ≤ 800) :
    Calls Try.prog 28 #[.int .i64 s, .agg #[.int .i64 (i : Int), .int .i64 (j : Int)], .pointer (some ⟨Bp, 0, none⟩)] W fun e W' => e = .returned (.tuple #[]) ∧ JB w0 Bp 28 3 1 (fun l => numCells (maT l)) (fun l => (maT l).length) n1 (l ++ [(s, i, j)]) W' ∧ KpA Bp n1 W W' := by
  obtain ⟨i0, hi0, hz0, hz1, hz2⟩ := info_parts L.infoInt
  obtain ⟨v, hbx, hown, hb⟩ := hJ
  have c0 := L.blk_cell hbx 0
  have f0 := L.blk_free hbx 0
  simp only [List.getElem?_toArray, List.getElem?_cons_zero] at c0
  have hbl := L.blk_lt hbx
  have c1 : ∀ o, (W.alloc o).cell? ⟨Bp, 0, none⟩ = some v := fun o => ((alloc1 W o).cell (p := ⟨Bp, 0, none⟩) hbl).trans c0
  have HBX := Lib.hid hbx
  have HOW := Lib.hid hown
  have HB := Lib.hid hb
  have HBN := Lib.hid (And.intro hB hn1)
  have hpl := maT_len l
  have hpr : maT (l ++ [(s, i, j)]) = maT l ++ (if s = 3 then [(j : Int)] else []) := by unfold maT; by_cases h : s = 3 <;> simp [h]
  obtain ⟨n, hn⟩ : ∃ n, n = (maT l).length := ⟨_, rfl⟩
  have HN := Lib.hid hn
  simp only [← hn] at HOW
  have hnl : n ≤ 800 := by omega
  clear hbx hown hb hn hpl
  by_cases hs : s = 3
  · subst hs
    have HP : Hid (maT (l ++ [(3, i, j)]) = maT l ++ [(j : Int)]) := Lib.hid (by rw [hpr, if_pos rfl])
    have HM : Hid (numCells (maT l) ++ [.int .i64 (j : Int)] = numCells (maT (l ++ [(3, i, j)]))) := Lib.hid (by rw [HP.out, numCells_snoc])
    have HLN : Hid (n + 1 = (maT (l ++ [(3, i, j)])).length) := Lib.hid (by rw [HP.out, HN.out]; simp)
    clear hpr
    go_enter Try.func28, Try.ntmps28
    go_wp2_with (at_builtin; refine wpList_append_own _ rfl _ _ 28 rfl n1 3 i0 _ 1 8 Try.underlying28 hi0 hz0 hz1 hz2 rfl (by decide) _ n _ rfl ((HOW.out.alloc _).alloc _) ⟨_, 0, none⟩ 1 1 [.int .i64 (j : Int)] rfl rfl (World.news_of_block (alloc_at _ (by first | rfl | simp))) (by intro u hu; simp at hu; rcases hu with rfl; rfl) (by simp only [maxLen]; omega) (by omega) (by first | omega | (simp; done) | (simp; omega)) ?_; intro v' w4 hown4 hg4 _; obtain ⟨VA, vcap, rfl, -, -⟩ := own_form hown4; obtain ⟨p1, p2, p3, p4⟩ := put_back HBX.out HOW.out (by decide) (by decide) HBN.out.1 HBN.out.2 hg4 hown4; have c4 := L.blk_cell p1 0; have f4 := L.blk_free p1 0; simp only [List.getElem?_toArray, List.getElem?_cons_zero] at c4; have P2 := Lib.hid p2; have P3 := Lib.hid p3; have P4 := Lib.hid p4; clear p1 p2 p3 p4 hown4 hg4)
    go_end0
    exact ⟨rfl, ⟨_, P2.out, by dsimp only; rw [← HM.out, ← HLN.out]; exact P3.out, HB.out.trans P4.out.1⟩, P4.out⟩
  · have HP : Hid (maT (l ++ [(s, i, j)]) = maT l) := Lib.hid (by rw [hpr, if_neg hs, List.append_nil])
    have hsb : (s == 3) = false := beq_eq_false_iff_ne.2 hs
    clear hpr hs
    go_enter Try.func28, Try.ntmps28
    go_wp2_with fail
    go_end0
    exact ⟨rfl, JB.keeps _ _ _ ⟨v, HBX.out, by dsimp only; rw [HP.out, ← HN.out]; exact HOW.out, HB.out⟩ (alloc1 _ _), kpa_alloc _ HBN.out.1 HBN.out.2⟩
theorem tellMade (w0 : World) (Bp n1 : Nat) (hB : Bp < n1) : Told 28 (.pointer (some ⟨Bp, 0, none⟩)) Bp n1 (JB w0 Bp 28 3 1 (fun l => numCells (maT l)) (fun l => (maT l).length) n1) :=
  ⟨Go.Proofs.enters_of Try.func28 (by kernel_rfl) rfl, JB.keeps, JB.sets, fun l s i j W hJ hn hl => tellMade_any w0 Bp n1 hB l s i j W hJ hn hl⟩
set_option maxRecDepth 100000 in
set_option maxHeartbeats 2000000 in
theorem made_any (A B : Option Addr) (c c' : Nat) (hs : List Hk) (a : List Ln) (w : World) (hH : HksIn 0 w A hs) (hok : HksOk hs) (hL : LinesIn w B a) (hc : a.length ≤ c') (ham : a.length ≤ maxLen) (hT : ∀ y ∈ sd 2 (whl hs a).1, y.1.length ≤ maxLen) :
    Calls Try.prog 10 #[.slice A hs.length c, .slice B a.length c'] w (GnEnd w (maT (tld hs a)) (mde hs a).2) := by
  have hmf : ∀ (fn : Fn) (first cap : Array Value) (w : World), (Instr.makeFunc fn first cap).run Try.prog w = .ok (.func fn first cap) w := fun _ _ _ _ => rfl
  obtain ⟨W0, hW0⟩ : ∃ W : World, W = w.alloc (.cells #[.slice none 0 0] 28) := ⟨_, rfl⟩
  have hb0 : Below w.heap.size w W0 := by rw [hW0]; exact alloc1 _ _
  have hx0 : W0.heap[w.heap.size]? = some (.cells #[.slice none 0 0] 28 (0, 0)) := by rw [hW0]; exact heap_alloc_new w _
  have HWK := Lib.hid (walk_any 28 _ w.heap.size (JB w w.heap.size 28 3 1 (fun l => numCells (maT l)) (fun l => (maT l).length)) (fun n1 hB => tellMade w w.heap.size n1 hB) A B c c' hs a W0 (hH.below hb0) hok (hL.below hb0) hc ham hT hx0 (fun n1 => ⟨_, hx0, World.ownsRow_nil _ _ _ _, hb0⟩))
  clear hH hL hb0 hx0 hT
  generalize (mde hs a).1 = b at *
  generalize (mde hs a).2 = q at *
  generalize tld hs a = X at *
  go_enter Try.func10, Try.ntmps10
  go_wp2_with fail
  rw [← hW0]
  clear hW0
  with_reducible refine HWK.out.mono ?_
  rintro e w1 ⟨n1, BA, bc, rfl, hBL, ⟨v, hbx, hown, hbl⟩, -, hn1⟩
  have c0 := L.blk_cell hbx 0
  simp only [List.getElem?_toArray, List.getElem?_cons_zero] at c0
  obtain ⟨VA, vcap, rfl, -, -⟩ := own_form hown
  have HOW := Lib.hid (ints_own (xs := maT X) hown)
  have HBB := Lib.hid hbl
  clear hown hbx hBL hbl hn1 HWK
  go_wp2_with fail
  refine bodyPost_ret (v := .tuple #[.slice VA (maT X).length vcap, .int .i64 q]) (by simp [results, Try.results10, go_sem]) rfl ⟨VA, vcap, rfl, HOW.out, HBB.out⟩
end Go.Proofs.Ytigghcmbdnidnaa.Pa

namespace Go.Proofs.Ytigghcmbdnidnaa.Pa
open Go.RowKit
open T S H
open V (grown_of drawn_below)
open I (alloc1 own_at own_below)
open N (Ln)

theorem wgt_take {d : Int} {es : List Ed} {m : Nat} (h : m < es.length) : wgt d (es.take (m + 1)) = wgt d (es.take m) + if es[m].1 = d then es[m].2.length else 0 := by
  rw [List.take_succ_eq_append_getElem h, wgt_app, wgt_cons]; simp [wgt]
theorem wgt_join {d : Int} {hs : List Hk} {k : Nat} (h : k < hs.length) : wgt d (join (hs.take (k + 1))) = wgt d (join (hs.take k)) + wgt d hs[k].es := by
  unfold join
  rw [List.take_succ_eq_append_getElem h, List.flatMap_append, List.flatMap_cons, List.flatMap_nil, List.append_nil, wgt_app]
theorem wgt_split (d : Int) (es : List Ed) (m : Nat) : wgt d (es.take m) ≤ wgt d es := by
  have := wgt_app d (es.take m) (es.drop m)
  rw [List.take_append_drop] at this
  omega
theorem wgt_jle (d : Int) (hs : List Hk) (k : Nat) : wgt d (join (hs.take k)) ≤ wgt d (join hs) := by
  have h : join hs = join (hs.take k) ++ join (hs.drop k) := by unfold join; rw [← List.flatMap_append, List.take_append_drop]
  rw [h, wgt_app]; omega

set_option maxRecDepth 100000 in
set_option maxHeartbeats 4000000 in
theorem size_any (A : Option Addr) (c : Nat) (hs : List Hk) (w : World) (hH : HksIn 0 w A hs) (hok : HksOk hs) (ht : tl (join hs) ≤ 2000000) :
    Calls Try.prog 21 #[.slice A hs.length c] w fun e w' => e = .returned (.tuple #[.int .i64 (wgt 3 (join hs) : Nat), .int .i64 (wgt 2 (join hs) : Nat)]) ∧ Below w.heap.size w w' := by
  have hlm := hok.len
  unfold maxLen at hlm
  have HH := Lib.hid hH
  have HT3 := Lib.hid (fun k => Nat.le_trans (wgt_jle 3 hs k) (Nat.le_trans (wgt_le 3 (join hs)) ht))
  have HT2 := Lib.hid (fun k => Nat.le_trans (wgt_jle 2 hs k) (Nat.le_trans (wgt_le 2 (join hs)) ht))
  have HEL := Lib.hid (fun h (hm : h ∈ hs) => (hok.es h hm).len)
  clear hH hok ht
  go_enter Try.func21, Try.ntmps21
  go_wp2_with fail
  go_loopg [4, 5, 12] hs.length (fun q x4 x5 iv wr => ∃ (k p r : Nat), k ≤ hs.length ∧ iv = .int .i64 k ∧ x4 = .int .i64 p ∧ x5 = .int .i64 r ∧ hs.length - k ≤ q ∧ Hid (Below w.heap.size w wr) ∧ Hid (p = wgt 3 (join (hs.take k))) ∧ Hid (r = wgt 2 (join (hs.take k))))
  case atStart => exact ⟨0, 0, 0, Nat.zero_le _, rfl, rfl, rfl, by omega, Lib.hid (Below.refl _ _), Lib.hid rfl, Lib.hid rfl⟩
  case round =>
    obtain ⟨k, p, r, hk, rfl, rfl, rfl, hmo, HB, HP, HR⟩ := hrel
    by_cases hlt : k < hs.length
    · obtain ⟨bk, off, EA, ec, hAe, c0, c1, c2, c3, c4, hE, -, -⟩ := hunk_at HH.out HB.out hlt
      subst hAe
      have HJ3 := Lib.hid (wgt_join (d := 3) hlt)
      have HJ2 := Lib.hid (wgt_join (d := 2) hlt)
      have hel := HEL.out _ (List.getElem_mem hlt)
      unfold maxLen at hel
      have h0k : (0 : Int) ≤ (k : Int) := by omega
      have hki : (k : Int) < (hs.length : Int) := by omega
      generalize hs[k].oa = oa at *
      generalize hs[k].o = o at *
      generalize hs[k].na = na at *
      generalize hs[k].n = nn at *
      generalize hs[k].es = es at *
      have hsb := HB.out.size
      obtain ⟨W1, hW1⟩ : ∃ W : World, W = wr.alloc (.cells #[.int .i64 oa, .int .i64 o, .int .i64 na, .int .i64 nn, .slice EA es.length ec] 65) := ⟨_, rfl⟩
      have hb1 : Below wr.heap.size wr W1 := by rw [hW1]; exact alloc1 _ _
      have hX := heap_alloc_new wr (.cells #[.int .i64 oa, .int .i64 o, .int .i64 na, .int .i64 nn, .slice EA es.length ec] 65)
      rw [← hW1] at hX
      have HB1 := Lib.hid (HB.out.trans (hb1.mono hsb))
      have x4 := L.blk_cell hX 4
      simp only [List.getElem?_toArray, List.getElem?_cons_zero, List.getElem?_cons_succ] at x4
      have HE := Lib.hid hE
      clear hX hE hb1 HB hsb
      go_upto_region 5 with fail
      rw [← hW1]
      clear hW1 c0 c1 c2 c3 c4
      go_wp2_with fail
      go_loopg [4, 5, 19] es.length (fun q x4 x5 iv wr => ∃ (m p' r' : Nat), m ≤ es.length ∧ iv = .int .i64 m ∧ x4 = .int .i64 p' ∧ x5 = .int .i64 r' ∧ es.length - m ≤ q ∧ Hid (Below w.heap.size w wr) ∧ Hid (p' = p + wgt 3 (es.take m)) ∧ Hid (r' = r + wgt 2 (es.take m)))
      case atStart => exact ⟨0, p, r, Nat.zero_le _, rfl, rfl, rfl, by omega, HB1, Lib.hid rfl, Lib.hid rfl⟩
      case round =>
        clear HB1 x4
        obtain ⟨m, p', r', hm, rfl, rfl, rfl, hmm, HB, HP', HR'⟩ := hrel
        by_cases hlm : m < es.length
        · obtain ⟨eb, eo, LA, lc, hAe, hcc, -, -⟩ := edit_in HE.out hlm
          subst hAe
          obtain ⟨g0, g1⟩ := hcc wr HB.out
          have HW3 := Lib.hid (wgt_take (d := 3) hlm)
          have HW2 := Lib.hid (wgt_take (d := 2) hlm)
          have HL3 := Lib.hid (show p + wgt 3 (es.take (m + 1)) ≤ 2000000 by have h1 := HT3.out (k + 1); rw [HJ3.out, ← HP.out] at h1; have := wgt_split 3 es (m + 1); omega)
          have HL2 := Lib.hid (show r + wgt 2 (es.take (m + 1)) ≤ 2000000 by have h1 := HT2.out (k + 1); rw [HJ2.out, ← HR.out] at h1; have := wgt_split 2 es (m + 1); omega)
          have h0m : (0 : Int) ≤ (m : Int) := by omega
          have hmi : (m : Int) < (es.length : Int) := by omega
          clear hcc
          obtain ⟨z, hz⟩ : ∃ z, z = es[m] := ⟨_, rfl⟩
          rw [← hz] at g0 g1 HW3 HW2
          clear hz
          obtain ⟨d, ls⟩ := z
          simp only at g0 g1 HW3 HW2
          have HBA : Hid (∀ o, Below w.heap.size w (wr.alloc o)) := Lib.hid (fun o => HB.out.trans ((alloc1 wr o).mono HB.out.size))
          obtain ⟨ll, hll⟩ : ∃ n, n = ls.length := ⟨_, rfl⟩
          rw [← hll] at g1 HW3 HW2
          clear hll
          by_cases h3 : d = 3
          · subst h3
            have hp : p' + ll ≤ 2000000 := by have h1 := HW3.out; have h2 := HL3.out; have h4 := HP'.out; simp at h1; omega
            have HP2 := Lib.hid (show p' + ll = p + wgt 3 (es.take (m + 1)) by have h1 := HW3.out; have h4 := HP'.out; simp at h1; omega)
            have HR2 := Lib.hid (show r' = r + wgt 2 (es.take (m + 1)) by have h1 := HW2.out; have h4 := HR'.out; simp at h1; omega)
            have hw : IntKind.i64.wrap ((p' : Int) + (ll : Int)) = (p' : Int) + (ll : Int) := by rw [IntKind.wrap_i64]; omega
            clear HW3 HW2
            go_wp2_with fail
            go_roundg (es.length - (m + 1))
            case rel => exact ⟨m + 1, p' + ll, r', by omega, by go_num, by go_num, rfl, Nat.le_refl _, HBA.out _, HP2, HR2⟩
            case measure => omega
          · have h3b : (d == 3) = false := beq_eq_false_iff_ne.2 h3
            by_cases h2 : d = 2
            · subst h2
              have hp : r' + ll ≤ 2000000 := by have h1 := HW2.out; have h2 := HL2.out; have h4 := HR'.out; simp at h1; omega
              have HP2 := Lib.hid (show p' = p + wgt 3 (es.take (m + 1)) by have h1 := HW3.out; have h4 := HP'.out; simp at h1; omega)
              have HR2 := Lib.hid (show r' + ll = r + wgt 2 (es.take (m + 1)) by have h1 := HW2.out; have h4 := HR'.out; simp at h1; omega)
              have hw : IntKind.i64.wrap ((r' : Int) + (ll : Int)) = (r' : Int) + (ll : Int) := by rw [IntKind.wrap_i64]; omega
              clear HW3 HW2
              go_wp2_with fail
              go_roundg (es.length - (m + 1))
              case rel => exact ⟨m + 1, p', r' + ll, by omega, by go_num, rfl, by go_num, Nat.le_refl _, HBA.out _, HP2, HR2⟩
              case measure => omega
            · have h2b : (d == 2) = false := beq_eq_false_iff_ne.2 h2
              have HP2 := Lib.hid (show p' = p + wgt 3 (es.take (m + 1)) by have h1 := HW3.out; have h4 := HP'.out; rw [if_neg h3] at h1; omega)
              have HR2 := Lib.hid (show r' = r + wgt 2 (es.take (m + 1)) by have h1 := HW2.out; have h4 := HR'.out; rw [if_neg h2] at h1; omega)
              clear HW3 HW2 h3 h2
              go_wp2_with fail
              go_roundg (es.length - (m + 1))
              case rel => exact ⟨m + 1, p', r', by omega, by go_num, rfl, rfl, Nat.le_refl _, HBA.out _, HP2, HR2⟩
              case measure => omega
        · obtain rfl : m = es.length := by omega
          have HP2 := Lib.hid (show p' = wgt 3 (join (hs.take (k + 1))) by have h4 := HP'.out; rw [List.take_length] at h4; rw [HJ3.out, ← HP.out]; exact h4)
          have HR2 := Lib.hid (show r' = wgt 2 (join (hs.take (k + 1))) by have h4 := HR'.out; rw [List.take_length] at h4; rw [HJ2.out, ← HR.out]; exact h4)
          go_wp2_with fail
          go_roundg (hs.length - (k + 1))
          case rel => exact ⟨k + 1, p', r', by omega, by go_num, rfl, rfl, Nat.le_refl _, HB, HP2, HR2⟩
          case measure => omega
    · obtain rfl : k = hs.length := by omega
      have HP2 := Lib.hid (show p = wgt 3 (join hs) by have h4 := HP.out; rw [List.take_length] at h4; exact h4)
      have HR2 := Lib.hid (show r = wgt 2 (join hs) by have h4 := HR.out; rw [List.take_length] at h4; exact h4)
      clear HP HR
      go_wp2_with fail
      refine bodyPost_ret (v := .tuple #[.int .i64 (p : Int), .int .i64 (r : Int)]) (by simp [results, Try.results21, go_sem]) rfl ?_
      exact ⟨by rw [HP2.out, HR2.out], HB.out⟩
end Go.Proofs.Ytigghcmbdnidnaa.Pa

namespace Go.Proofs.Ytigghcmbdnidnaa.H
set_option linter.unusedVariables false
set_option linter.unusedSimpArgs false
open Go.RowKit
open T S
open V (grown_of)
open I (alloc1 own_at own_below)
open N (Ln)

def LpEnd (w : World) (r : List Ln) (e : Ending) (w' : World) : Prop := ∃ A cap, e = .returned (.slice A r.length cap) ∧ LinesIn w' A r ∧ r.length ≤ cap ∧ Below w.heap.size w w'
set_option maxRecDepth 100000 in
set_option maxHeartbeats 4000000 in
theorem rside_cap (but : Int) (A : Option Addr) (c b : Nat) (es : List Ed) (w : World) (hE : EdsIn b w A es) (hel : es.length ≤ 800) (htl : tl es ≤ 800) :
    Calls Try.prog 54 #[.slice A es.length c, .int .i64 but] w (LpEnd w (sd but es)) := by
  have HE := Lib.hid hE
  obtain ⟨W0, hW0⟩ : ∃ W : World, W = w.alloc (.cells #[] 59) := ⟨_, rfl⟩
  have HO0 : Hid (W0.ownsRow w.heap.size 59 2 (.slice (some ⟨w.heap.size, 0, none⟩) 0 0) ([] : List Ln).length (lineCells [])) := Lib.hid (by rw [hW0]; exact World.ownsRow_made (size := 2) (e := 59) w #[] 0 (Nat.le_refl _) (by unfold maxLen; omega) rfl)
  have HB0 := Lib.hid (show Below w.heap.size w W0 by rw [hW0]; exact alloc1 _ _)
  clear hE
  go_enter Try.func54, Try.ntmps54
  go_wp2_with fail
  rw [← hW0]
  clear hW0
  go_loopg [5, 6] es.length (fun m ov iv wr => ∃ (k : Nat) (o : List Ln), k ≤ es.length ∧ iv = .int .i64 k ∧ es.length - k ≤ m ∧ Hid (o = sd but (es.take k)) ∧ Hid (wr.ownsRow w.heap.size 59 2 ov o.length (lineCells o)) ∧ Hid (Below w.heap.size w wr))
  case atStart => exact ⟨0, [], Nat.zero_le _, rfl, by omega, Lib.hid rfl, HO0, HB0⟩
  case round =>
    clear HO0 HB0
    obtain ⟨k, o, hk, rfl, hmm, HT, HO, HB⟩ := hrel
    obtain ⟨oA, ocap, rfl, hoc, -⟩ := own_form HO.out
    have HOC := Lib.hid hoc
    clear hoc
    have hol : o.length ≤ 800 := by rw [HT.out]; have := sd_len but (es.take k); have := tl_le es k; omega
    by_cases hlt : k < es.length
    · obtain ⟨bk, off, LA, lc, hAe, c0, c1, g2, -, g4⟩ := edit_at HE.out HB.out hlt
      subst hAe
      have HL1 : Hid (LinesIn wr LA es[k].2) := Lib.hid (g2.below HB.out)
      have HLN := Lib.hid g4
      have hel4 : es[k].2.length ≤ 800 := by have := tl_take hlt; have := tl_le es (k + 1); omega
      have HNS : Hid (sd but (es.take (k + 1)) = o ++ (if es[k].1 = but then [] else es[k].2)) := Lib.hid (by rw [sd_take hlt, ← HT.out])
      generalize es[k] = e at *
      obtain ⟨d, l⟩ := e
      simp only at c0 c1 hel4 HL1 HLN HNS
      have h0k : (0 : Int) ≤ (k : Int) := by omega
      have hki : (k : Int) < (es.length : Int) := by omega
      have hbr := HB.out.size
      clear g2 g4
      by_cases hd : d = but
      · have hnb : (d != but) = false := by simp [hd]
        have HN2 : Hid (sd but (es.take (k + 1)) = o) := Lib.hid (by rw [HNS.out, if_pos hd]; simp)
        clear hd
        go_wp2_with fail
        go_roundg (es.length - (k + 1))
        case rel => exact ⟨k + 1, o, by omega, by go_num, Nat.le_refl _, Lib.hid HN2.out.symm, HO, HB⟩
        case measure => omega
      · have hnb : (d != but) = true := by simpa [bne] using hd
        have HN2 : Hid (sd but (es.take (k + 1)) = o ++ l) := Lib.hid (by rw [HNS.out, if_neg hd])
        clear hd
        go_wp2_with (at_builtin; refine wpList_append_lines (w := wr) rfl (.tmp 21) (.tmp 26) rfl w.heap.size (.slice oA o.length ocap) o l rfl HO.out LA lc rfl HL1.out HLN.out (by omega) hbr ?_; intro v' w4 ho4 hg4 hat4; have HO4 := Lib.hid ho4; have HB4 := Lib.hid (HB.out.grown hg4 hbr (fun q e => own_base HO.out q e)); clear ho4 hg4 hat4)
        go_roundg (es.length - (k + 1))
        case rel => exact ⟨k + 1, o ++ l, by omega, by go_num, Nat.le_refl _, Lib.hid HN2.out.symm, HO4, HB4⟩
        case measure => omega
    · obtain rfl : k = es.length := by omega
      rw [List.take_length] at HT
      have ht := HT.out
      subst ht
      go_wp2_with fail
      go_ret
      exact ⟨oA, ocap, rfl, own_lines HO.out, HOC.out, HB.out⟩
def RpEnd (w : World) (b a : List Ln) (e : Ending) (w' : World) : Prop :=
  ∃ A ca B cb, e = .returned (.tuple #[.slice A b.length ca, .slice B a.length cb, .int .i64 0]) ∧ LinesIn w' A b ∧ b.length ≤ ca ∧ Below w.heap.size w w'
set_option maxRecDepth 100000 in
set_option maxHeartbeats 4000000 in
theorem rsides_cap (A : Option Addr) (c b : Nat) (es : List Ed) (w : World) (hE : EdsIn b w A es) (hok : EdsOk es) (hc : ck es = 0) :
    Calls Try.prog 40 #[.slice A es.length c] w (RpEnd w (sd 3 es) (sd 2 es)) := by
  have HC := Lib.hid (rcheck_any A c b es w hE hok)
  · obtain ⟨hel, htl, hd3⟩ := ck_ok hc
    have H3 := Lib.hid (fun (W : World) (h : Below w.heap.size w W) => rside_cap 3 A c b es W (hE.below h) hel htl)
    have H2 := Lib.hid (fun (W : World) (h : Below w.heap.size w W) => rside_cap 2 A c b es W (hE.below h) hel htl)
    rw [hc] at HC
    clear hE hok hd3 hc
    go_enter Try.func40, Try.ntmps40
    go_wp2_with fail
    with_reducible refine (HC.out).mono ?_
    rintro e w1 ⟨rfl, hb1⟩
    have HB1 := Lib.hid hb1
    clear hb1
    go_wp2_with fail
    with_reducible refine (H3.out w1 HB1.out).mono ?_
    rintro e w2 ⟨XA, xc, rfl, hx2, hxc, hb2⟩
    have HXC := Lib.hid hxc
    clear hxc
    have HX2 := Lib.hid hx2
    have HB2 := Lib.hid (HB1.out.trans (hb2.mono HB1.out.size))
    clear hx2 hb2
    go_wp2_with fail
    with_reducible refine (H2.out w2 HB2.out).mono ?_
    rintro e w3 ⟨YA, yc, rfl, hx3, -, hb3⟩
    have HX3 := Lib.hid (HX2.out.below hb3)
    have HY3 := Lib.hid hx3
    have HB3 := Lib.hid (HB2.out.trans (hb3.mono HB2.out.size))
    clear hx3 hb3
    go_wp2_with fail
    go_ret3
    exact ⟨XA, xc, YA, yc, rfl, HX3.out, HXC.out, HB3.out⟩
end Go.Proofs.Ytigghcmbdnidnaa.H

namespace Go.Proofs.Ytigghcmbdnidnaa.Pa
open Go.RowKit
open T S H
open V (grown_of drawn_below IntsIn numCells)
open I (alloc1 own_at own_below)
open N (Ln PrIn prCells)
open M (Lv)

def ApC (hs : List Hk) (a b : List Ln) (ps : List (Int × Int)) (q : Int) : Prop := ∀ (w : World) (A B : Option Addr) (c c' : Nat), HksIn 0 w A hs → LinesIn w B a → a.length ≤ c' → Calls Try.prog 8 #[.slice A hs.length c, .slice B a.length c'] w (ApEnd w b ps q)
def GnC (fn : FuncId) (hs : List Hk) (a : List Ln) (gs : List Int) (q : Int) : Prop := ∀ (w : World) (A B : Option Addr) (c c' : Nat), HksIn 0 w A hs → LinesIn w B a → a.length ≤ c' → Calls Try.prog fn #[.slice A hs.length c, .slice B a.length c'] w (GnEnd w gs q)
def RvC (hs rs : List Hk) (q : Int) : Prop := ∀ (w : World) (A : Option Addr) (c : Nat), HksIn 0 w A hs → Calls Try.prog 19 #[.slice A hs.length c] w (HnEnd w rs q)
def SzC (hs : List Hk) (m g : Nat) : Prop := ∀ (w : World) (A : Option Addr) (c : Nat), HksIn 0 w A hs → Calls Try.prog 21 #[.slice A hs.length c] w fun e w' => e = .returned (.tuple #[.int .i64 (m : Int), .int .i64 (g : Int)]) ∧ Below w.heap.size w w'
theorem ApC.at {hs : List Hk} {a b : List Ln} {ps : List (Int × Int)} {q : Int} (h : ApC hs a b ps q) {w : World} {A B : Option Addr} (c c' : Nat) (hE : HksIn 0 w A hs) (hL : LinesIn w B a) (hc : a.length ≤ c') : Calls Try.prog 8 #[.slice A hs.length c, .slice B a.length c'] w (ApEnd w b ps q) := h w A B c c' hE hL hc
theorem GnC.at {fn : FuncId} {hs : List Hk} {a : List Ln} {gs : List Int} {q : Int} (h : GnC fn hs a gs q) {w : World} {A B : Option Addr} (c c' : Nat) (hE : HksIn 0 w A hs) (hL : LinesIn w B a) (hc : a.length ≤ c') : Calls Try.prog fn #[.slice A hs.length c, .slice B a.length c'] w (GnEnd w gs q) := h w A B c c' hE hL hc
theorem RvC.at {hs rs : List Hk} {q : Int} (h : RvC hs rs q) {w : World} {A : Option Addr} (c : Nat) (hE : HksIn 0 w A hs) : Calls Try.prog 19 #[.slice A hs.length c] w (HnEnd w rs q) := h w A c hE
theorem SzC.at {hs : List Hk} {m g : Nat} (h : SzC hs m g) {w : World} {A : Option Addr} (c : Nat) (hE : HksIn 0 w A hs) : Calls Try.prog 21 #[.slice A hs.length c] w fun e w' => e = .returned (.tuple #[.int .i64 (m : Int), .int .i64 (g : Int)]) ∧ Below w.heap.size w w' := h w A c hE
theorem c_papply {hs : List Hk} {a : List Ln} (hok : HksOk hs) (ha : a.length ≤ maxLen) (hT : ∀ y ∈ sd 2 (whl hs a).1, y.1.length ≤ maxLen) : ApC hs a (mde hs a).1 (prT (tld hs a)) (mde hs a).2 := fun w A B c c' hH hL hc => apply_any A B c c' hs a w hH hok hL hc ha hT
theorem c_pgone {hs : List Hk} {a : List Ln} (hok : HksOk hs) (ha : a.length ≤ maxLen) (hT : ∀ y ∈ sd 2 (whl hs a).1, y.1.length ≤ maxLen) : GnC 9 hs a (goT (tld hs a)) (mde hs a).2 := fun w A B c c' hH hL hc => gone_any A B c c' hs a w hH hok hL hc ha hT
theorem c_pmade {hs : List Hk} {a : List Ln} (hok : HksOk hs) (ha : a.length ≤ maxLen) (hT : ∀ y ∈ sd 2 (whl hs a).1, y.1.length ≤ maxLen) : GnC 10 hs a (maT (tld hs a)) (mde hs a).2 := fun w A B c c' hH hL hc => made_any A B c c' hs a w hH hok hL hc ha hT
theorem c_reverse {hs : List Hk} (hok : HksOk hs) : RvC hs (rev hs).1 (rev hs).2 := fun w A c hH => reverse_any A c hs w hH hok
theorem c_size {hs : List Hk} (hok : HksOk hs) (ht : tl (join hs) ≤ 2000000) : SzC hs (wgt 3 (join hs)) (wgt 2 (join hs)) := fun w A c hH => size_any A c hs w hH hok ht

abbrev lnX : Ln := ([120], false)
abbrev es11 : List Ed := [(3, [lnX]), (1, [lnA])]
abbrev hs11 : List Hk := [⟨0, 0, 0, 1, [(3, [lnX])]⟩]
theorem nf11 : Nf es11 := by simp [Nfc, okp]
theorem norm11 : norm es11 = es11 := norm_nf nf11
theorem ck11 : ck es11 = 0 := ck_of (by simp) (by simp [tl]) (nf11.good)
theorem bld11 : bld 0 es11 = hs11 := by simp [bld, hg, putH, newH, lenO, lenN]
theorem whole11 : whl hs11 [lnA] = (es11, 0) := by
  have := whl_bld 0 ck11 (by simp) (by simp [tl])
  rw [norm11, bld11] at this
  exact this
theorem made11 : (mde hs11 [lnA]) = ([lnX, lnA], 0) := by
  unfold mde
  rw [whole11]
  rfl
theorem tld11 : prT (tld hs11 [lnA]) = [(0, 1)] := by
  unfold tld scr
  rw [made11, if_pos rfl, whole11]
  rfl
theorem ok11 : HksOk hs11 := ⟨by simp [maxLen], fun h hm => by
  obtain rfl := List.mem_singleton.1 hm
  exact ⟨by simp [maxLen], fun e he => by simp at he; rcases he with rfl; simp [maxLen]⟩⟩
set_option maxRecDepth 100000 in
set_option maxHeartbeats 4000000 in
theorem live11 : Lv 12 := fun w => by
  obtain ⟨W1, hW1, k0, k1, k2, hb1⟩ := three w (.cells #[.string ⟨#[120]⟩, .bool false] 59) (.cells #[.int .i64 3, .slice (some ⟨w.heap.size, 0, none⟩) 1 1] 54) (.cells #[.int .i64 0, .int .i64 0, .int .i64 0, .int .i64 1, .slice (some ⟨w.heap.size + 1, 0, none⟩) 1 1] 65)
  have hE : EdsIn 0 W1 (some ⟨w.heap.size + 1, 0, none⟩) [(3, [lnX])] := fun _ => ⟨_, 0, rfl, Nat.zero_le _, L.blk_lt k1, fun j hj => by
    match j, hj with
    | 0, _ => exact ⟨_, 1, L.blk_cell k1 0, L.blk_cell k1 1, lines_ones (x := lnX) k0, by simp, (fun e => by simp at e), fun p _ => Nat.zero_le _⟩⟩
  have hH : HksIn 0 W1 (some ⟨w.heap.size + 1 + 1, 0, none⟩) hs11 := fun _ => ⟨_, 0, rfl, Nat.zero_le _, L.blk_lt k2, fun j hj => by
    match j, hj with
    | 0, _ => exact ⟨_, 1, L.blk_cell k2 0, L.blk_cell k2 1, L.blk_cell k2 2, L.blk_cell k2 3, L.blk_cell k2 4, hE, by simp, (fun e => by simp at e)⟩⟩
  have HB1 := Lib.hid hb1
  have HH1 := Lib.hid hH
  obtain ⟨W3, hW3⟩ : ∃ W : World, W = W1.alloc (.cells #[.string ⟨#[97]⟩, .bool false] 59) := ⟨_, rfl⟩
  have hx3 := heap_alloc_new W1 (.cells #[.string ⟨#[97]⟩, .bool false] 59)
  rw [← hW3] at hx3
  have hb3 : Below W1.heap.size W1 W3 := by rw [hW3]; exact alloc1 _ _
  have HB3 := Lib.hid (HB1.out.trans (hb3.mono HB1.out.size))
  have HH3 := Lib.hid (HH1.out.below hb3)
  have HAP := Lib.hid ((c_papply (hs := hs11) (a := [lnA]) ok11 (by simp [maxLen]) (by rw [whole11]; intro y hy; simp [sd] at hy; rcases hy with rfl | rfl <;> simp [maxLen])).at 1 1 HH3.out (lines_ones (x := lnA) hx3) (by simp))
  rw [made11, tld11] at HAP
  have HSZ := Lib.hid ((c_size (hs := hs11) ok11 (by simp [join, tl])))
  have e3 : wgt 3 (join hs11) = 1 := by simp [join, wgt]
  have e2 : wgt 2 (join hs11) = 0 := by simp [join, wgt]
  rw [e3, e2] at HSZ
  simp only [List.length_cons, List.length_nil, Nat.zero_add] at HAP
  rw [show W1.heap.size = w.heap.size + 1 + 1 + 1 by rw [hW1]; simp] at HAP
  clear k0 k1 k2 hE hb1 hH hx3 hb3 e3 e2 HH1 HB1
  go_enter Try.func12, Try.ntmps12
  go_wp2_with fail
  rw [← hW1, ← hW3]
  clear hW1 hW3
  with_reducible refine (HAP.out).mono ?_
  rintro e w4 ⟨BA, bc, PA, pc, rfl, hL4, hP4, hb4⟩
  simp only [List.length_cons, List.length_nil, Nat.zero_add, Nat.reduceAdd]
  have HB4 := Lib.hid (HB3.out.trans (hb4.mono HB3.out.size))
  have HH4 := Lib.hid (HH3.out.below hb4)
  have HL4 := Lib.hid hL4
  have HP4 := Lib.hid hP4
  have HSZ4 := Lib.hid (HSZ.out.at 1 HH4.out)
  simp only [List.length_cons, List.length_nil, Nat.zero_add] at HSZ4
  clear hL4 hP4 hb4 HAP HH3 HB3 HSZ HH4
  go_wp2_with fail
  with_reducible refine (HSZ4.out).mono ?_
  rintro e w5 ⟨rfl, hb5⟩
  have HB5 := Lib.hid (HB4.out.trans (hb5.mono HB4.out.size))
  obtain ⟨lb, lo, rfl, -, hIl⟩ := (HL4.out.below hb5) (by simp)
  obtain ⟨pb, po, rfl, -, hIp⟩ := (HP4.out.below hb5) (by simp)
  have g0 := (hIl 0 (by simp)).1
  have p0 := (hIp 0 (by simp)).1
  have p1 := (hIp 0 (by simp)).2
  simp only [List.getElem_cons_zero, Nat.zero_mul, Nat.add_zero] at g0 p0 p1
  have qE : ∀ W : World, (binOp .eql 57 (.agg #[.int .i64 0, .int .i64 1]) (.agg #[.int .i64 0, .int .i64 1])).run Try.prog W = .ok (.bool true) W := fun W => N.pair_eql' W 0 1 0 1
  clear hIl hIp HSZ4 HL4 HP4 HB4 hb5
  go_wp2_with fail
  go_ret
  exact ⟨rfl, HB5.out⟩
end Go.Proofs.Ytigghcmbdnidnaa.Pa

namespace Go.Proofs.Ytigghcmbdnidnaa.H
set_option linter.unusedVariables false
set_option linter.unusedSimpArgs false
open Go.RowKit
open T S
open V (grown_of)
open I (alloc1 own_at own_below)
open N (Ln)

theorem Rd.below {w w' : World} {q : Hq} (h : Rd w q) (hb : Below w.heap.size w w') : Rd w' q := ⟨h.e.below hb, h.ne, h.full, h.c⟩
theorem hqCells_same (qs : List Hq) (j : Nat) (hj : j < qs.length) (i : Nat) (hi : i < 5) (u : Value) (hu : (hqCell qs[j])[i]? = some u) : (hqCells qs).set (j * 5 + i) u = hqCells qs := by
  have h := hqCells_at qs j hj i hi
  rw [hu] at h
  apply List.ext_getElem?
  intro k
  by_cases e : j * 5 + i = k
  · subst e
    rw [List.getElem?_set_self (by rw [hqCells_len]; omega), h]
  · rw [List.getElem?_set_ne e]
theorem hqCells_set4 (z : Hq) : ∀ (qs : List Hq) (j : Nat) (hj : j < qs.length), z.h.oa = qs[j].h.oa → z.h.o = qs[j].h.o → z.h.na = qs[j].h.na → z.h.n = qs[j].h.n →
    (hqCells qs).set (j * 5 + 4) (.slice z.A z.h.es.length z.c) = hqCells (qs.set j z)
  | [], j, hj, _, _, _, _ => by simp at hj
  | x :: r, 0, _, h1, h2, h3, h4 => by
    have e : hqCells (x :: r) = hqCell x ++ hqCells r := by simp [hqCells]
    have e' : hqCells (z :: r) = hqCell z ++ hqCells r := by simp [hqCells]
    simp only [List.getElem_cons_zero] at h1 h2 h3 h4
    rw [List.set_cons_zero, e, e', List.set_append_left _ _ (by show 0 * 5 + 4 < 5; omega)]
    congr 1
    unfold hqCell
    rw [h1, h2, h3, h4]
    rfl
  | x :: r, j + 1, hj, h1, h2, h3, h4 => by
    have e : hqCells (x :: r) = hqCell x ++ hqCells r := by simp [hqCells]
    have e' : hqCells (x :: r.set j z) = hqCell x ++ hqCells (r.set j z) := by simp [hqCells]
    have l5 : (hqCell x).length = 5 := rfl
    rw [List.set_cons_succ, e, e', List.set_append_right _ _ (by omega), l5, show (j + 1) * 5 + 4 - 5 = j * 5 + 4 by omega]
    congr 1
    exact hqCells_set4 z r j (by simpa using hj) h1 h2 h3 h4
/-- The row of hunks: each one's edits may be read. -/
structure Hqs (w0 w : World) (base : Nat) (vh : Value) (qs : List Hq) : Prop where
  own : w.ownsRow base 65 5 vh qs.length (hqCells qs)
  rd : ∀ q ∈ qs, Rd w q
  b : Below w0.heap.size w0 w
  hb : w0.heap.size ≤ base
  hs : base ≤ w.heap.size
theorem Hqs.below {w0 w w' : World} {base : Nat} {vh : Value} {qs : List Hq} (h : Hqs w0 w base vh qs) (hb : Below w.heap.size w w') : Hqs w0 w' base vh qs :=
  ⟨own_below h.own hb, fun q hq => (h.rd q hq).below hb, h.b.trans (hb.mono h.b.size), h.hb, Nat.le_trans h.hs hb.size⟩
theorem Hqs.one {w0 w : World} {base g n cap : Nat} {qs qs' : List Hq} {z : Hq} (h : Hqs w0 w base (.slice (some ⟨g, 0, none⟩) n cap) qs) (hz : Rd w z) {p : Nat} (hp : p < qs.length * 5) (u : Value) (hl : qs'.length = qs.length) (hc : (hqCells qs).set p u = hqCells qs') (hq : ∀ q ∈ qs', q ∈ qs ∨ q = z) :
    Hqs w0 (w.setCell ⟨g, p, none⟩ u) base (.slice (some ⟨g, 0, none⟩) n cap) qs' ∧ Rd (w.setCell ⟨g, p, none⟩ u) z := by
  have hn : n = qs.length := by
    rcases h.own.2 with ⟨h', _⟩ | ⟨g', cap', cur, h', _⟩
    · cases h'
    · injection h'
  subst hn
  obtain ⟨h1, h2⟩ := World.ownsRow.stored h.own p u
  have kept := fun (q : Hq) (hr : Rd w q) => Rd.kept hr rfl h.own h.rd hp u
  refine ⟨⟨?_, fun q hm => ?_, h.b.grown h2 h.b.size (fun k e => by obtain rfl := Option.some.inj e; exact Nat.le_trans h.hb (own_base h.own _ rfl)), h.hb, Nat.le_trans h.hs h2.size⟩, kept z hz⟩
  · rw [hl, ← hc]; exact h1
  · rcases hq q hm with hm | rfl
    · exact kept q (h.rd q hm)
    · exact kept q hz
/-- One of them is laid anew, with other edits. -/
theorem Hqs.renew {w0 w : World} {base g n cap : Nat} {qs : List Hq} {z : Hq} (h : Hqs w0 w base (.slice (some ⟨g, 0, none⟩) n cap) qs) (j : Nat) (hj : j < qs.length) (hz : Rd w z) (h1 : z.h.oa = qs[j].h.oa) (h2 : z.h.o = qs[j].h.o) (h3 : z.h.na = qs[j].h.na) (h4 : z.h.n = qs[j].h.n) :
    Hqs w0 (((((w.setCell ⟨g, j * 5 + 0, none⟩ (.int .i64 z.h.oa)).setCell ⟨g, j * 5 + 1, none⟩ (.int .i64 z.h.o)).setCell ⟨g, j * 5 + 2, none⟩ (.int .i64 z.h.na)).setCell ⟨g, j * 5 + 3, none⟩ (.int .i64 z.h.n)).setCell ⟨g, j * 5 + 4, none⟩ (.slice z.A z.h.es.length z.c)) base (.slice (some ⟨g, 0, none⟩) n cap) (qs.set j z) := by
  obtain ⟨a1, a2⟩ := h.one hz (p := j * 5 + 0) (by omega) (.int .i64 z.h.oa) rfl (hqCells_same qs j hj 0 (by omega) _ (by rw [h1]; rfl)) (fun q hq => .inl hq)
  obtain ⟨b1, b2⟩ := a1.one a2 (p := j * 5 + 1) (by omega) (.int .i64 z.h.o) rfl (hqCells_same qs j hj 1 (by omega) _ (by rw [h2]; rfl)) (fun q hq => .inl hq)
  obtain ⟨c1, c2⟩ := b1.one b2 (p := j * 5 + 2) (by omega) (.int .i64 z.h.na) rfl (hqCells_same qs j hj 2 (by omega) _ (by rw [h3]; rfl)) (fun q hq => .inl hq)
  obtain ⟨d1, d2⟩ := c1.one c2 (p := j * 5 + 3) (by omega) (.int .i64 z.h.n) rfl (hqCells_same qs j hj 3 (by omega) _ (by rw [h4]; rfl)) (fun q hq => .inl hq)
  exact (d1.one d2 (p := j * 5 + 4) (by omega) (.slice z.A z.h.es.length z.c) (by simp) (hqCells_set4 z qs j hj h1 h2 h3 h4) (fun q hq => by
    rcases List.mem_or_eq_of_mem_set hq with hq | hq
    · exact .inl hq
    · exact .inr hq)).1
/-- What the code laid may be read. -/
theorem Hs.reads {w0 w : World} {base : Nat} {vh : Value} {xs : List Hr} (h : Hs w0 w base vh xs) (hn : ∀ x ∈ xs, x.h.es ≠ [] ∧ ∀ e ∈ x.h.es, e.2 ≠ []) : Hqs w0 w base vh (xs.map fun x => ⟨x.h, x.A, x.c⟩) := by
  have hc : hqCells (xs.map fun x => ⟨x.h, x.A, x.c⟩) = hrCells xs := by
    have key : ∀ xs : List Hr, (∀ x ∈ xs, x.rs.length = x.h.es.length) → hqCells (xs.map fun x => ⟨x.h, x.A, x.c⟩) = hrCells xs := fun xs => by
      induction xs with
      | nil => intro _; rfl
      | cons x r ih =>
        intro hl
        have e : hrCells (x :: r) = hrCell x ++ hrCells r := by simp [hrCells]
        have e' : hqCells ((x :: r).map fun x => (⟨x.h, x.A, x.c⟩ : Hq)) = hqCell ⟨x.h, x.A, x.c⟩ ++ hqCells (r.map fun x => ⟨x.h, x.A, x.c⟩) := by simp [hqCells]
        rw [e, e', ih (fun y hy => hl y (List.mem_cons_of_mem _ hy))]
        congr 1
        unfold hqCell hrCell Hr.v
        rw [hl x (List.mem_cons_self ..)]
    exact key xs (fun x hx => (h.ok x hx).e.1)
  refine ⟨by rw [hc, List.length_map]; exact h.own, fun q hq => ?_, h.b, h.hb, h.hs⟩
  obtain ⟨x, hx, rfl⟩ := List.mem_map.1 hq
  have ho := h.ok x hx
  have hl := ho.e.1
  have hr := ho.r
  unfold Hr.v at hr
  rw [hl] at hr
  obtain ⟨A', cap', hv, hcp, _⟩ := own_form hr
  injection hv with _ _ hv
  exact ⟨raws_eds hr (ho.e.below h.b) (Nat.zero_le _), (hn x hx).1, (hn x hx).2, by simp only; omega⟩
theorem Hqs.hks {w0 w : World} {base n cap : Nat} {A : Option Addr} {qs : List Hq} (h : Hqs w0 w base (.slice A n cap) qs) : n = qs.length ∧ HksIn 0 w A (qs.map (·.h)) := by
  have hn : n = qs.length := by
    rcases h.own.2 with ⟨h', h2⟩ | ⟨g', cap', cur, h', _⟩
    · injection h' with _ h' _; have := h.own.1; omega
    · injection h'
  subst hn
  refine ⟨rfl, fun hp => ?_⟩
  rw [List.length_map] at hp
  obtain ⟨g, rfl, h1, h2, h3⟩ := own_at h.own hp
  refine ⟨g, 0, rfl, Nat.zero_le _, h2, fun j hj => ?_⟩
  rw [List.length_map] at hj
  rw [List.getElem_map, Nat.zero_add]
  have hx := h.rd qs[j] (List.getElem_mem hj)
  have at5 := fun i hi => hqCells_at qs j hj i hi
  refine ⟨qs[j].A, qs[j].c, h3 _ _ (at5 0 (by omega)), h3 _ _ (at5 1 (by omega)), h3 _ _ (at5 2 (by omega)), h3 _ _ (at5 3 (by omega)), h3 _ _ (at5 4 (by omega)), hx.e, hx.c, fun e => ?_⟩
  obtain ⟨_, _, ha, _⟩ := hx.e (List.length_pos_iff.2 hx.ne)
  rw [ha] at e; cases e
theorem Hqs.at {w0 w : World} {base g n cap : Nat} {qs : List Hq} (h : Hqs w0 w base (.slice (some ⟨g, 0, none⟩) n cap) qs) (j : Nat) (hj : j < qs.length) :
    (∀ k, k < 5 → w.cell? ⟨g, j * 5 + k, none⟩ = (hqCell qs[j])[k]?) ∧ (∀ k, w.frozen? ⟨g, k, none⟩ = false) ∧ g < w.heap.size ∧ base ≤ g := by
  obtain ⟨cs, hh⟩ := own_heap h.own rfl
  have hn : n = qs.length := by
    rcases h.own.2 with ⟨h', _⟩ | ⟨g', cap', cur, h', _⟩
    · cases h'
    · injection h'
  subst hn
  obtain ⟨g', hg, hb, hlt, h3⟩ := own_at h.own (by omega)
  obtain rfl : g = g' := by injection hg with hg; injection hg
  refine ⟨fun k hk => ?_, fun k => L.blk_free hh k, hlt, hb⟩
  have h4 := hqCells_at qs j hj k hk
  rw [← h4]
  have h5 : j * 5 + k < (hqCells qs).length := by rw [hqCells_len]; omega
  rw [List.getElem?_eq_getElem h5]
  exact h3 _ _ (List.getElem?_eq_getElem h5)
/-- A hunk with its edits in their normal form. -/
def nH (h : Hk) : Hk := ⟨h.oa, h.o, h.na, h.n, nrm h.es⟩
theorem half_len {RES : List Hk} {qs : List Hq} {j : Nat} (h : qs.map (·.h) = (RES.take j).map nH ++ RES.drop j) : qs.length = RES.length := by
  have := congrArg List.length h
  simp at this
  omega
theorem half_at {RES : List Hk} {qs : List Hq} {j : Nat} (h : qs.map (·.h) = (RES.take j).map nH ++ RES.drop j) (hj : j < RES.length) (hq : j < qs.length) : qs[j].h = RES[j] := by
  have e : (qs.map (·.h))[j]? = some RES[j] := by
    rw [h, List.getElem?_append_right (by simp; omega), show j - ((RES.take j).map nH).length = 0 by simp; omega, List.getElem?_drop]
    simp [hj]
  rw [List.getElem?_map, List.getElem?_eq_getElem hq] at e
  simpa using e
theorem half_step {RES : List Hk} {qs : List Hq} {j : Nat} (h : qs.map (·.h) = (RES.take j).map nH ++ RES.drop j) (hj : j < RES.length) {z : Hq} (hz : z.h = nH RES[j]) : (qs.set j z).map (·.h) = (RES.take (j + 1)).map nH ++ RES.drop (j + 1) := by
  rw [List.map_set, h, hz, List.set_append_right _ _ (by simp; omega), show j - ((RES.take j).map nH).length = 0 by simp; omega, List.drop_eq_getElem_cons hj, List.set_cons_zero, List.take_succ_eq_append_getElem hj, List.map_append]
  simp
theorem nfc_full : ∀ {d : Int} {es : List Ed}, Nfc d es → ∀ e ∈ es, e.2 ≠ []
  | _, [], _, e, he => by cases he
  | d, x :: r, h, e, he => by
    rcases List.mem_cons.1 he with rfl | he
    · exact h.2.1
    · exact nfc_full h.2.2.2 e he
/-- A box of a hunk is laid on: edits that may be read stay. -/
theorem Rd.box {w : World} {xb : Nat} {oa ho na nn : Int} {QA : Option Addr} {xe : List Ed} {qc : Nat} {z : Hq} (hz : Rd w z) (hx : w.heap[xb]? = some (hkC oa ho na nn QA xe.length qc)) (hq : Rd w ⟨⟨oa, ho, na, nn, xe⟩, QA, qc⟩) {p : Nat} (hp : p < 5) (u : Value) : Rd (w.setCell ⟨xb, p, none⟩ u) z :=
  Rd.kept (base := 0) (n := 1) (cap := 1) (qs := [⟨⟨oa, ho, na, nn, xe⟩, QA, qc⟩]) hz rfl ⟨rfl, .inr ⟨xb, 1, _, rfl, Nat.zero_le _, hx, Nat.le_refl _, by unfold maxLen; omega, rfl, rfl⟩⟩ (fun z hz => by obtain rfl := List.mem_singleton.1 hz; exact hq) (by omega) u
end Go.Proofs.Ytigghcmbdnidnaa.H

namespace Go.Proofs.Ytigghcmbdnidnaa.H
set_option linter.unusedVariables false
set_option linter.unusedSimpArgs false
open Go.RowKit
open T S
open V (grown_of IntsIn numCells numCells_snoc ints_own drawn_below)
open I (alloc1 own_at own_below)
open N (Ln)

/-- A script and an error, to be read, with the room of its row. -/
def RcEnd (w : World) (r : List Ed) (e0 : Int) (e : Ending) (w' : World) : Prop :=
  ∃ A cap, e = .returned (.tuple #[.slice A r.length cap, .int .i64 e0]) ∧ EdsIn 0 w' A r ∧ r.length ≤ cap ∧ Below w.heap.size w w'
set_option maxRecDepth 100000 in
set_option maxHeartbeats 8000000 in
theorem rnormal_cap (A : Option Addr) (c b : Nat) (es : List Ed) (w : World) (hE : EdsIn b w A es) (hok : EdsOk es) (hc : ck es = 0) :
    Calls Try.prog 32 #[.slice A es.length c] w (RcEnd w (norm es) 0) := by
  have HC := Lib.hid (rcheck_any A c b es w hE hok)
  rw [hc] at HC
  obtain ⟨hel, htl, hd3⟩ := ck_ok hc
  have HE := Lib.hid hE
  have HD3 := Lib.hid hd3
  clear hE hok hc hd3
  go_enter Try.func32, Try.ntmps32
  go_wp2_with fail
  with_reducible refine (HC.out).mono ?_
  rintro e w1 ⟨rfl, hb1⟩
  have HQ0 := Lib.hid (Rq.start w w1 hb1)
  obtain ⟨base, hbase⟩ : ∃ n, n = w1.heap.size := ⟨_, rfl⟩
  clear hb1 HC
  go_wp2_with fail
  rw [← hbase] at HQ0 ⊢
  clear hbase
  go_loopg [5, 6, 7, 8, 9] es.length (fun m vo vk vg vm iv wr => ∃ (k : Nat) (rs : List Raw) (t : Rst), k ≤ es.length ∧ iv = .int .i64 k ∧ es.length - k ≤ m ∧ Hid (t = rnsts (es.take k)) ∧ Hid (Rq w wr base vo vk vg vm rs t.r t.k t.g t.m))
  case atStart => exact ⟨0, [], ⟨[], [], [], []⟩, Nat.zero_le _, rfl, by omega, Lib.hid rfl, HQ0⟩
  case round =>
    clear HQ0
    obtain ⟨k, rs, ⟨rr, rk, rg, rm⟩, hk, rfl, hmm, HT, HQ⟩ := hrel
    simp only at HQ
    obtain ⟨oA, ocap, rfl, -, -⟩ := own_form HQ.out.o
    obtain ⟨kA, kcap, rfl, -, -⟩ := own_form HQ.out.k
    obtain ⟨gA, gcap, rfl, -, -⟩ := own_form HQ.out.g
    obtain ⟨mA, mcap, rfl, -, -⟩ := own_form HQ.out.m
    have hrl : rs.length ≤ 3 * 800 ∧ rk.length + rg.length + rm.length ≤ 800 := by
      have h1 := rnsts_len (es.take k)
      have h2 := tl_le es k
      have h3 := rr_len (es.take k)
      have h4 : (es.take k).length ≤ es.length := by rw [List.length_take]; omega
      have h5 := HQ.out.r.1
      rw [← HT.out] at h1 h3
      simp only [rlen] at h1 h3
      omega
    have hrl1 := hrl.1
    have hrl2 := hrl.2
    clear hrl
    by_cases hlt : k < es.length
    · obtain ⟨bk, off, LA, lc, hAe, hcc, g2, g4⟩ := edit_in HE.out hlt
      subst hAe
      obtain ⟨c0, c1⟩ := hcc wr HQ.out.b
      have HCC := Lib.hid hcc
      have HL0 := Lib.hid g2
      have HLN := Lib.hid g4
      have hel4 : es[k].2.length ≤ 800 := by have := tl_take hlt; have := tl_le es (k + 1); omega
      have HNS : Hid (rnsts (es.take (k + 1)) = rnst ⟨rr, rk, rg, rm⟩ es[k]) := Lib.hid (by rw [rnsts_take hlt, ← HT.out])
      have H3 := HD3.out _ (List.getElem_mem hlt)
      generalize es[k] = e at *
      obtain ⟨d, l⟩ := e
      simp only at c0 c1 hel4 H3 HCC HL0 HLN
      have HL1 := Lib.hid (HL0.out.below HQ.out.b)
      have hbr := HQ.out.hs
      have h0k : (0 : Int) ≤ (k : Int) := by omega
      have hki : (k : Int) < (es.length : Int) := by omega
      clear hcc g2 g4 HT
      rcases H3 with rfl | rfl | rfl
      · by_cases hl0 : l.length = 0
        · have hz : decide (0 < l.length) = false := decide_eq_false (by omega)
          have hz2 : ¬ 0 < l.length := by omega
          have HNT : Hid (rnst ⟨rr, rk, rg, rm⟩ (1, l) = ⟨rr, rk ++ l, rg, rm⟩) := Lib.hid (by unfold rnst; rw [if_neg (by simp only; omega)]; rfl)
          obtain ⟨n, hn⟩ : ∃ n, n = l.length := ⟨_, rfl⟩
          have HLE := Lib.hid hn
          clear hn hl0
          go_wp2_with (at_builtin; refine wpList_append_lines (w := wr) rfl (.tmp 62) (.tmp 67) rfl base (.slice kA rk.length kcap) rk l rfl HQ.out.k LA lc rfl HL1.out HLN.out (by omega) hbr ?_; intro v' w4 ho4 hg4 hat4; have HQ4 := Lib.hid (HQ.out.addK hg4 ho4 hat4); clear ho4 hg4 hat4)
          go_roundg (es.length - (k + 1))
          case rel => exact ⟨k + 1, _, _, by omega, by go_num, Nat.le_refl _, Lib.hid (by rw [HNS.out, HNT.out]), HQ4⟩
          case measure => omega
        · by_cases hgm : rg.length + rm.length = 0
          · have hz : decide (0 < l.length) = true := decide_eq_true (by omega)
            have hz2 : 0 < l.length := by omega
            have hg0 : rg.length = 0 := by omega
            have hm0 : rm.length = 0 := by omega
            have HNT : Hid (rnst ⟨rr, rk, rg, rm⟩ (1, l) = ⟨rr, rk ++ l, rg, rm⟩) := Lib.hid (by unfold rnst; rw [if_neg (by simp only; omega)]; rfl)
            obtain rfl := List.length_eq_zero_iff.1 hg0
            obtain rfl := List.length_eq_zero_iff.1 hm0
            clear hl0 hgm hg0 hm0
            go_wp2_with (at_builtin; refine wpList_append_lines (w := wr) rfl (.tmp 62) (.tmp 67) rfl base (.slice kA rk.length kcap) rk l rfl HQ.out.k LA lc rfl HL1.out HLN.out (by omega) hbr ?_; intro v' w4 ho4 hg4 hat4; have HQ4 := Lib.hid (HQ.out.addK hg4 ho4 hat4); clear ho4 hg4 hat4)
            go_roundg (es.length - (k + 1))
            case rel => exact ⟨k + 1, _, _, by omega, by go_num, Nat.le_refl _, Lib.hid (by rw [HNS.out, HNT.out]), HQ4⟩
            case measure => omega
          · have hz : decide (0 < l.length) = true := decide_eq_true (by omega)
            have hz2 : 0 < l.length := by omega
            have hs : 0 < rg.length + rm.length := by omega
            have hs1 : decide (0 < rg.length + rm.length) = true := decide_eq_true hs
            have hs2 : (0 : Int) < (rg.length : Int) + (rm.length : Int) := by omega
            have hs3 : decide ((0 : Int) < (rg.length : Int) + (rm.length : Int)) = true := decide_eq_true hs2
            have HNT : Hid (rnst ⟨rr, rk, rg, rm⟩ (1, l) = ⟨rall ⟨rr, rk, rg, rm⟩, l, [], []⟩) := Lib.hid (by unfold rnst; rw [if_pos ⟨rfl, hz2, hs⟩]; simp [rput])
            clear hl0 hgm
            go_wp2_with fail
            with_reducible refine (lay_any w wr base oA ocap (.slice kA rk.length kcap) (.slice gA rg.length gcap) (.slice mA rm.length mcap) rs rr rk rg rm 1 kA kcap rk HQ.out (own_lines HQ.out.k) (fun e => by subst e; exact own_none HQ.out.k) (by omega) (by omega)).mono ?_
            rintro e w2 ⟨pA, pcap, rs2, rfl, hq2⟩
            have HQ2 := Lib.hid hq2
            have hl2 : rs2.length ≤ 2401 := by have h1 := hq2.r.1; rw [List.length_append, ← HQ.out.r.1] at h1; have := ly_len 1 rk; omega
            clear hq2
            go_wp2_with fail
            with_reducible refine (lay_any w w2 base pA pcap (.slice kA rk.length kcap) (.slice gA rg.length gcap) (.slice mA rm.length mcap) rs2 (rr ++ lyE 1 rk) rk rg rm 2 gA gcap rg HQ2.out (own_lines HQ2.out.g) (fun e => by subst e; exact own_none HQ2.out.g) (by omega) (by omega)).mono ?_
            rintro e w3 ⟨qA, qcap, rs3, rfl, hq3⟩
            have HQ3 := Lib.hid hq3
            have hl3 : rs3.length ≤ 2402 := by have h1 := hq3.r.1; rw [List.length_append, ← HQ2.out.r.1] at h1; have := ly_len 2 rg; omega
            clear hq3
            go_wp2_with fail
            with_reducible refine (lay_any w w3 base qA qcap (.slice kA rk.length kcap) (.slice gA rg.length gcap) (.slice mA rm.length mcap) rs3 ((rr ++ lyE 1 rk) ++ lyE 2 rg) rk rg rm 3 mA mcap rm HQ3.out (own_lines HQ3.out.m) (fun e => by subst e; exact own_none HQ3.out.m) (by omega) (by omega)).mono ?_
            rintro e w4 ⟨sA, scap, rs4, rfl, hq4⟩
            have HQ4 := Lib.hid hq4
            clear hq4
            clear c0 c1
            obtain ⟨c0, c1⟩ := HCC.out w4 HQ4.out.b
            have HQ5 := Lib.hid HQ4.out.clear
            have HL5 := Lib.hid (HL0.out.below HQ4.out.b)
            have hbr5 := HQ5.out.hs
            go_wp2_with (at_builtin; refine wpList_append_lines (w := w4) rfl (.tmp 62) (.tmp 67) rfl base (.slice none 0 0) [] l rfl HQ5.out.k LA lc rfl HL5.out HLN.out (by simp; omega) hbr5 ?_; intro v' w5 ho5 hg5 hat5; have HQ6 := Lib.hid (HQ5.out.addK hg5 ho5 hat5); clear ho5 hg5 hat5)
            go_roundg (es.length - (k + 1))
            case rel => exact ⟨k + 1, _, _, by omega, by go_num, Nat.le_refl _, Lib.hid (by rw [HNS.out, HNT.out]), HQ6⟩
            case measure => omega
      · have HNT : Hid (rnst ⟨rr, rk, rg, rm⟩ (2, l) = ⟨rr, rk, rg ++ l, rm⟩) := Lib.hid (by unfold rnst; rw [if_neg (by simp)]; rfl)
        go_wp2_with (at_builtin; refine wpList_append_lines (w := wr) rfl (.tmp 71) (.tmp 76) rfl base (.slice gA rg.length gcap) rg l rfl HQ.out.g LA lc rfl HL1.out HLN.out (by omega) hbr ?_; intro v' w4 ho4 hg4 hat4; have HQ4 := Lib.hid (((HQ.out.rot.addK hg4 ho4 hat4).rot).rot); clear ho4 hg4 hat4)
        go_roundg (es.length - (k + 1))
        case rel => exact ⟨k + 1, _, _, by omega, by go_num, Nat.le_refl _, Lib.hid (by rw [HNS.out, HNT.out]), HQ4⟩
        case measure => omega
      · have HNT : Hid (rnst ⟨rr, rk, rg, rm⟩ (3, l) = ⟨rr, rk, rg, rm ++ l⟩) := Lib.hid (by unfold rnst; rw [if_neg (by simp)]; rfl)
        go_wp2_with (at_builtin; refine wpList_append_lines (w := wr) rfl (.tmp 80) (.tmp 85) rfl base (.slice mA rm.length mcap) rm l rfl HQ.out.m LA lc rfl HL1.out HLN.out (by omega) hbr ?_; intro v' w4 ho4 hg4 hat4; have HQ4 := Lib.hid ((HQ.out.rot.rot.addK hg4 ho4 hat4).rot); clear ho4 hg4 hat4)
        go_roundg (es.length - (k + 1))
        case rel => exact ⟨k + 1, _, _, by omega, by go_num, Nat.le_refl _, Lib.hid (by rw [HNS.out, HNT.out]), HQ4⟩
        case measure => omega
    · obtain rfl : k = es.length := by omega
      rw [List.take_length] at HT
      go_wp2_with fail
      with_reducible refine (lay_any w wr base oA ocap (.slice kA rk.length kcap) (.slice gA rg.length gcap) (.slice mA rm.length mcap) rs rr rk rg rm 1 kA kcap rk HQ.out (own_lines HQ.out.k) (fun e => by subst e; exact own_none HQ.out.k) (by omega) (by omega)).mono ?_
      rintro e w2 ⟨pA, pcap, rs2, rfl, hq2⟩
      have HQ2 := Lib.hid hq2
      have hl2 : rs2.length ≤ 2401 := by have h1 := hq2.r.1; rw [List.length_append, ← HQ.out.r.1] at h1; have := ly_len 1 rk; omega
      clear hq2
      go_wp2_with fail
      with_reducible refine (lay_any w w2 base pA pcap (.slice kA rk.length kcap) (.slice gA rg.length gcap) (.slice mA rm.length mcap) rs2 (rr ++ lyE 1 rk) rk rg rm 2 gA gcap rg HQ2.out (own_lines HQ2.out.g) (fun e => by subst e; exact own_none HQ2.out.g) (by omega) (by omega)).mono ?_
      rintro e w3 ⟨qA, qcap, rs3, rfl, hq3⟩
      have HQ3 := Lib.hid hq3
      have hl3 : rs3.length ≤ 2402 := by have h1 := hq3.r.1; rw [List.length_append, ← HQ2.out.r.1] at h1; have := ly_len 2 rg; omega
      clear hq3
      go_wp2_with fail
      with_reducible refine (lay_any w w3 base qA qcap (.slice kA rk.length kcap) (.slice gA rg.length gcap) (.slice mA rm.length mcap) rs3 ((rr ++ lyE 1 rk) ++ lyE 2 rg) rk rg rm 3 mA mcap rm HQ3.out (own_lines HQ3.out.m) (fun e => by subst e; exact own_none HQ3.out.m) (by omega) (by omega)).mono ?_
      rintro e w4 ⟨sA, scap, rs4, rfl, hq4⟩
      have HQ4 := Lib.hid hq4
      clear hq4
      have HRA : Hid (((rr ++ lyE 1 rk) ++ lyE 2 rg) ++ lyE 3 rm = norm es) := Lib.hid (by
        have := rall_norm HD3.out
        rw [← HT.out] at this
        exact this)
      have HR : Hid (EdsIn 0 w4 sA (norm es)) := Lib.hid (by
        have ho := HQ4.out.o
        have hr := HQ4.out.r
        have hl := hr.1
        rw [HRA.out] at hr hl
        rw [hl] at ho
        exact raws_eds ho hr (Nat.zero_le _))
      have HRL : Hid (rs4.length = (norm es).length) := Lib.hid (by rw [← HRA.out]; exact HQ4.out.r.1)
      have HB4 := Lib.hid HQ4.out.b
      have HCAP : Hid ((norm es).length ≤ scap) := Lib.hid (by
        obtain ⟨_, _, hv, hcp, _⟩ := own_form HQ4.out.o
        injection hv with h1 h2 h3
        rw [← HRL.out, h3]
        exact hcp)
      go_wp2_with fail
      go_ret2
      exact ⟨sA, scap, by rw [HRL.out]; rfl, HR.out, HCAP.out, HB4.out⟩
end Go.Proofs.Ytigghcmbdnidnaa.H
