/-
  The law PatchParts.
-/
import Derived.Test.YtigghcmbdnidnaaGpv
import Derived.Test.YtigghcmbdnidnaaGpf
import Derived.BigQuiet
import Derived.RegionTactic
import Derived.ChangeAlike
namespace Go.Proofs.Ytigghcmbdnidnaa.Pa
set_option linter.unusedVariables false
set_option linter.unusedSimpArgs false
open Go.RowKit
open T S H
open V (grown_of drawn_below IntsIn numCells)
open I (alloc1 own_at own_below)
open N (Ln PrIn)
open M (Lv made_row infoI)

theorem texts_whl {hs : List Hk} {a : List Ln} (ha : ∀ y ∈ a, y.1.length ≤ maxLen) (hh : ∀ h ∈ hs, ∀ e ∈ h.es, ∀ y ∈ e.2, y.1.length ≤ maxLen) : ∀ y ∈ sd 2 (whl hs a).1, y.1.length ≤ maxLen := by
  by_cases h : (whl hs a).2 = 0
  · rw [whl_good h]
    have key : ∀ (p : Nat) (hs : List Hk), (∀ h ∈ hs, ∀ e ∈ h.es, ∀ y ∈ e.2, y.1.length ≤ maxLen) → ∀ e ∈ wl a p hs, ∀ y ∈ e.2, y.1.length ≤ maxLen := by
      intro p hs
      induction hs generalizing p with
      | nil =>
        intro _ e he y hy
        simp only [wl, List.mem_singleton] at he
        subst he
        exact ha y (List.mem_of_mem_drop hy)
      | cons x r ih =>
        intro hh e he y hy
        rw [wl] at he
        rcases List.mem_cons.1 he with rfl | he
        · exact ha y (List.mem_of_mem_drop (List.mem_of_mem_take hy))
        · rcases List.mem_append.1 he with he | he
          · exact hh x (List.mem_cons_self ..) e he y hy
          · exact ih _ (fun z hz => hh z (List.mem_cons_of_mem _ hz)) e he y hy
    intro y hy
    obtain ⟨e, he, hy⟩ := List.mem_flatMap.1 hy
    by_cases h2 : e.1 = 2
    · rw [if_pos h2] at hy; cases hy
    · rw [if_neg h2] at hy; exact key 0 hs hh e he y hy
  · have e : (whl hs a).1 = [] := by
      unfold whl at h ⊢
      by_cases h1 : hck hs = 0
      · rw [if_pos h1] at h ⊢
        by_cases h2 : 400 < a.length
        · rw [if_pos h2]
        · rw [if_neg h2] at h ⊢
          by_cases h3 : hs.all (stn a) = true
          · rw [if_pos h3] at h ⊢
            show nrm _ = []
            unfold nrm
            rw [if_neg h]
          · rw [if_neg h3]
      · rw [if_neg h1]
    rw [e]
    intro y hy
    simp [sd] at hy

set_option maxRecDepth 100000 in
set_option maxHeartbeats 4000000 in
theorem pparts_bad {A B : Option Addr} {c c' : Nat} {hs : List Hk} {a : List Ln} {w : World} (hH : HksIn 0 w A hs) (hok : HksOk hs) (hcA : hs.length ≤ c) (hL : LinesIn w B a) (ha : a.length ≤ maxLen) (hca : a.length ≤ c') (hT : ∀ y ∈ sd 2 (whl (hs.take 20) a).1, y.1.length ≤ maxLen) (hq : (mde (hs.take 20) a).2 ≠ 0) :
    Calls Try.prog 6 #[.slice A hs.length c, .slice B a.length c'] w fun e w' => e = .returned (.bool true) ∧ Below w.heap.size w w' := by
  obtain ⟨e1, e2, e3⟩ := mde_bad hq
  have HH0 := Lib.hid (hH.take 20)
  have HX0 := Lib.hid hL
  have hmin : min (hs.length : Int) 20 = ((hs.take 20).length : Int) := by rw [List.length_take]; omega
  have hlt : (hs.take 20).length ≤ hs.length := List.length_take_le' _ _
  have hok2 : HksOk (hs.take 20) := ⟨by have := hok.len; omega, fun h hm => hok.es h (List.mem_of_mem_take hm)⟩
  have hln := hok.len
  have HAP := Lib.hid (c_papply hok2 ha hT)
  have HGO := Lib.hid (c_pgone hok2 ha hT)
  have HMA := Lib.hid (c_pmade hok2 ha hT)
  rw [e1, e3] at HAP
  rw [e3] at HGO HMA
  generalize hs.take 20 = T at *
  obtain ⟨n, hn⟩ : ∃ n, n = hs.length := ⟨_, rfl⟩
  rw [← hn] at hmin hlt hln hcA ⊢
  have hTc : T.length ≤ c := by omega
  unfold maxLen at hln ha
  clear e1 e2 e3 hok hH hL hT hok2 hn
  rw [show prT [] = [] from rfl] at HAP
  rw [show goT [] = [] from rfl] at HGO
  rw [show maT [] = [] from rfl] at HMA
  generalize (mde T a).2 = q at *
  have h0 : (q == 0) = false := beq_eq_false_iff_ne.2 hq
  have h1 : (q != 0) = true := by simp [bne, h0]
  have HB0 : Hid (Below w.heap.size w w) := Lib.hid (Below.refl _ _)
  go_enter Try.func6, Try.ntmps6
  go_wp2_with fail
  with_reducible refine (HAP.out.at c c' HH0.out HX0.out hca).mono ?_
  rintro e w1 ⟨BA, bc, PA, pc, rfl, hl, hp, hb⟩
  have HH_1 := Lib.hid (HH0.out.below hb)
  have HX_1 := Lib.hid (HX0.out.below hb)
  have HY_1 := Lib.hid hl
  have HP_1 := Lib.hid hp
  have HB1 := Lib.hid (HB0.out.trans (hb.mono HB0.out.size))
  clear hb HB0 HH0 HX0 hl hp
  go_wp2_with fail
  with_reducible refine (HGO.out.at c c' HH_1.out HX_1.out hca).mono ?_
  rintro e w2 ⟨GA, gc, rfl, hg, hb⟩
  have HH_2 := Lib.hid (HH_1.out.below hb)
  have HX_2 := Lib.hid (HX_1.out.below hb)
  have HY_2 := Lib.hid (HY_1.out.below hb)
  have HP_2 := Lib.hid (HP_1.out.below hb)
  have HG_2 := Lib.hid hg
  have HB2 := Lib.hid (HB1.out.trans (hb.mono HB1.out.size))
  clear hb HB1 HH_1 HX_1 HY_1 HP_1 hg
  go_wp2_with fail
  with_reducible refine (HMA.out.at c c' HH_2.out HX_2.out hca).mono ?_
  rintro e w3 ⟨MA, mc, rfl, hm, hb⟩
  have HX_3 := Lib.hid (HX_2.out.below hb)
  have HY_3 := Lib.hid (HY_2.out.below hb)
  have HP_3 := Lib.hid (HP_2.out.below hb)
  have HG_3 := Lib.hid (HG_2.out.below hb)
  have HM_3 := Lib.hid hm
  have HB3 := Lib.hid (HB2.out.trans (hb.mono HB2.out.size))
  clear hb HB2 HH_2 HX_2 HY_2 HP_2 HG_2 hm
  go_wp2_with fail
  with_reducible refine (live11.at _).mono ?_
  rintro e w4 ⟨rfl, hb⟩
  have HX_4 := Lib.hid (HX_3.out.below hb)
  have HY_4 := Lib.hid (HY_3.out.below hb)
  have HP_4 := Lib.hid (HP_3.out.below hb)
  have HG_4 := Lib.hid (HG_3.out.below hb)
  have HM_4 := Lib.hid (HM_3.out.below hb)
  have HB4 := Lib.hid (HB3.out.trans (hb.mono HB3.out.size))
  clear hb HB3 HX_3 HY_3 HP_3 HG_3 HM_3
  go_wp2_with fail
  go_ret
  exact ⟨rfl, HB4.out⟩
set_option maxRecDepth 100000 in
set_option maxHeartbeats 8000000 in
theorem pparts_good {A B : Option Addr} {c c' : Nat} {hs : List Hk} {a : List Ln} {w : World} (hH : HksIn 0 w A hs) (hok : HksOk hs) (hcA : hs.length ≤ c) (hL : LinesIn w B a) (ha : a.length ≤ maxLen) (hca : a.length ≤ c') (hT : ∀ y ∈ sd 2 (whl (hs.take 20) a).1, y.1.length ≤ maxLen) (hq : (mde (hs.take 20) a).2 = 0) :
    Calls Try.prog 6 #[.slice A hs.length c, .slice B a.length c'] w fun e w' => e = .returned (.bool true) ∧ Below w.heap.size w w' := by
  have HPT := Lib.hid (mde_parts hq)
  have hao := mde_old hq
  have hbo := (mde_ok hq).2.2.1
  have HH0 := Lib.hid (hH.take 20)
  have HX0 := Lib.hid hL
  have hmin : min (hs.length : Int) 20 = ((hs.take 20).length : Int) := by rw [List.length_take]; omega
  have hlt : (hs.take 20).length ≤ hs.length := List.length_take_le' _ _
  have hok2 : HksOk (hs.take 20) := ⟨by have := hok.len; omega, fun h hm => hok.es h (List.mem_of_mem_take hm)⟩
  have hln := hok.len
  have HAP := Lib.hid (c_papply hok2 ha hT)
  have HGO := Lib.hid (c_pgone hok2 ha hT)
  have HMA := Lib.hid (c_pmade hok2 ha hT)
  have HTL := Lib.hid (tld_len (hs.take 20) a)
  generalize hs.take 20 = T at *
  obtain ⟨n, hn⟩ : ∃ n, n = hs.length := ⟨_, rfl⟩
  rw [← hn] at hmin hlt hln hcA ⊢
  have hTc : T.length ≤ c := by omega
  unfold maxLen at hln ha
  rw [hq] at HAP HGO HMA
  have hlp := prT_len (tld T a)
  have hlg := goT_len (tld T a)
  have hlm := maT_len (tld T a)
  have hTL := HTL.out
  clear hq hok hH hL hT hok2 hn
  generalize (mde T a).1 = b at *
  generalize prT (tld T a) = ps at *
  generalize goT (tld T a) = gs at *
  generalize maT (tld T a) = ms at *
  have hp8 : ps.length ≤ 800 := by omega
  have hg8 : gs.length ≤ 800 := by omega
  have hm8 : ms.length ≤ 800 := by omega
  clear hlp hlg hlm hTL HTL
  have hmk1 := run_make_row' (P := Try.prog) 28 3 (.int .i64 0) 8 Try.underlying28 infoI rfl .i64 .i64 a.length (by omega) (by omega)
  have hmk2 := run_make_row' (P := Try.prog) 28 3 (.int .i64 0) 8 Try.underlying28 infoI rfl .i64 .i64 b.length (by omega) (by omega)
  have HB0 : Hid (Below w.heap.size w w) := Lib.hid (Below.refl _ _)
  go_enter Try.func6, Try.ntmps6
  go_wp2_with fail
  with_reducible refine (HAP.out.at c c' HH0.out HX0.out hca).mono ?_
  rintro e w1 ⟨BA, bc, PA, pc, rfl, hl, hp, hb⟩
  have HH_1 := Lib.hid (HH0.out.below hb)
  have HX_1 := Lib.hid (HX0.out.below hb)
  have HY_1 := Lib.hid hl
  have HP_1 := Lib.hid hp
  have HB1 := Lib.hid (HB0.out.trans (hb.mono HB0.out.size))
  clear hb HB0 HH0 HX0 hl hp
  go_wp2_with fail
  with_reducible refine (HGO.out.at c c' HH_1.out HX_1.out hca).mono ?_
  rintro e w2 ⟨GA, gc, rfl, hg, hb⟩
  have HH_2 := Lib.hid (HH_1.out.below hb)
  have HX_2 := Lib.hid (HX_1.out.below hb)
  have HY_2 := Lib.hid (HY_1.out.below hb)
  have HP_2 := Lib.hid (HP_1.out.below hb)
  have HG_2 := Lib.hid hg
  have HB2 := Lib.hid (HB1.out.trans (hb.mono HB1.out.size))
  clear hb HB1 HH_1 HX_1 HY_1 HP_1 hg
  go_wp2_with fail
  with_reducible refine (HMA.out.at c c' HH_2.out HX_2.out hca).mono ?_
  rintro e w3 ⟨MA, mc, rfl, hm, hb⟩
  have HX_3 := Lib.hid (HX_2.out.below hb)
  have HY_3 := Lib.hid (HY_2.out.below hb)
  have HP_3 := Lib.hid (HP_2.out.below hb)
  have HG_3 := Lib.hid (HG_2.out.below hb)
  have HM_3 := Lib.hid hm
  have HB3 := Lib.hid (HB2.out.trans (hb.mono HB2.out.size))
  clear hb HB2 HH_2 HX_2 HY_2 HP_2 HG_2 hm
  go_wp2_with fail
  go_upto_region 7 with fail
  go_cut [12, 13] (fun v1 v2 wr => ∃ g1 g2, v1 = .slice (some ⟨g1, 0, none⟩) a.length a.length ∧ v2 = .slice (some ⟨g2, 0, none⟩) b.length b.length ∧ Hid (Two w3 wr g1 g2 (List.replicate a.length 0) (List.replicate b.length 0)))
  case first =>
    go_region
    all_goals
      go_wp2_with fail
      go_meet
      case rel =>
        first
        | exact ⟨_, _, rfl, rfl, Lib.hid ((two_new w3 a.length b.length).below ((Below.refl _ _).drew))⟩
        | exact ⟨_, _, rfl, rfl, Lib.hid ((two_new w3 b.length a.length).turn.below ((Below.refl _ _).drew))⟩
  case rest =>
  obtain ⟨g1, g2, rfl, rfl, HT0⟩ := hcut
  generalize wc = w4 at *
  rw [← cn_nil a.length, ← cn_nil b.length] at HT0
  clear hmk1 hmk2 HAP HGO HMA hmin hlt hln hTc hcA hca ha
  go_wp2_with fail
  go_loopg [14] ps.length (fun q iv wr => ∃ k : Nat, k ≤ ps.length ∧ iv = .int .i64 k ∧ ps.length - k ≤ q ∧ Hid (Two w3 wr g1 g2 (cn ((ps.take k).map fun z => z.1) a.length) (cn ((ps.take k).map fun z => z.2) b.length)))
  case atStart => exact ⟨0, Nat.zero_le _, rfl, by omega, HT0⟩
  case round =>
    clear HT0
    obtain ⟨k, hk, rfl, hmq, HT⟩ := hrel
    by_cases hlt : k < ps.length
    · obtain ⟨pb, po, hAe, -, hIp⟩ := (HP_3.out.below HT.out.b) (by omega)
      subst hAe
      obtain ⟨c0, c1⟩ := hIp k hlt
      obtain ⟨p, q, hp, hq, hz, hs⟩ := HPT.out.same ps[k] (List.getElem_mem hlt)
      have HN1 := Lib.hid (map_take_snoc (fun z : Int × Int => z.1) hlt)
      have HN2 := Lib.hid (map_take_snoc (fun z : Int × Int => z.2) hlt)
      rw [hz] at c0 c1 HN1 HN2
      simp only at c0 c1 HN1 HN2
      obtain ⟨l1, hl1⟩ : ∃ l, l = (ps.take k).map fun z => z.1 := ⟨_, rfl⟩
      obtain ⟨l2, hl2⟩ : ∃ l, l = (ps.take k).map fun z => z.2 := ⟨_, rfl⟩
      have hl1n : l1.length ≤ 800 := by rw [hl1, List.length_map, List.length_take]; omega
      have hl2n : l2.length ≤ 800 := by rw [hl2, List.length_map, List.length_take]; omega
      rw [← hl1] at HN1 HT
      rw [← hl2] at HN2 HT
      obtain ⟨k1, hk1⟩ : ∃ n : Nat, n = l1.count (p : Int) := ⟨_, rfl⟩
      obtain ⟨k2, hk2⟩ : ∃ n : Nat, n = l2.count (q : Int) := ⟨_, rfl⟩
      have hk1n : k1 ≤ 800 := by rw [hk1]; exact Nat.le_trans List.count_le_length hl1n
      have hk2n : k2 ≤ 800 := by rw [hk2]; exact Nat.le_trans List.count_le_length hl2n
      have HK1 := Lib.hid hk1
      have HK2 := Lib.hid hk2
      have h0k : (0 : Int) ≤ (k : Int) := by omega
      have hki : (k : Int) < (ps.length : Int) := by omega
      have h0p : (0 : Int) ≤ (p : Int) := by omega
      have hpn : (p : Int) < (a.length : Int) := by omega
      have h0q : (0 : Int) ≤ (q : Int) := by omega
      have hqn : (q : Int) < (b.length : Int) := by omega
      have hd1 : decide ((p : Int) < 0) = false := decide_eq_false (by omega)
      have hd2 : decide ((a.length : Int) ≤ (p : Int)) = false := decide_eq_false (by omega)
      have hd3 : decide ((q : Int) < 0) = false := decide_eq_false (by omega)
      have hd4 : decide ((b.length : Int) ≤ (q : Int)) = false := decide_eq_false (by omega)
      have hw1 : IntKind.i64.wrap ((k1 : Int) + 1) = (k1 : Int) + 1 := by rw [IntKind.wrap_i64]; omega
      have hw2 : IntKind.i64.wrap ((k2 : Int) + 1) = (k2 : Int) + 1 := by rw [IntKind.wrap_i64]; omega
      clear hIp hl1 hl2 hk1 hk2 hz hl1n hl2n
      go_wp2_with fail
      go_quiet (fail)
      obtain ⟨v, hv⟩ : ∃ W, W = wr.drewN nq := ⟨_, rfl⟩
      have HTv := Lib.hid (HT.out.below (show Below wr.heap.size wr v by rw [hv]; exact drawn_below wr nq))
      rw [← hv]
      clear hv c0 c1 HT
      obtain ⟨ab, ao, hXe, -, hIa⟩ := (HX_3.out.below HTv.out.b) (by omega)
      subst hXe
      obtain ⟨m0, m1⟩ := hIa p hp
      obtain ⟨bb, bo, hYe, -, hIb⟩ := (HY_3.out.below HTv.out.b) (by omega)
      subst hYe
      obtain ⟨n0, n1⟩ := hIb q hq
      have hq0 := fun W => ln_neq W a[p] b[q]
      rw [decide_eq_true hs] at hq0
      simp only [lnV] at hq0
      clear hIa hIb hs
      generalize a[p].2 = t2 at *
      generalize a[p].1 = t1 at *
      generalize b[q].2 = s2 at *
      generalize b[q].1 = s1 at *
      have hqq : ∀ W, (binOp .neq 59 (.agg #[.string ⟨t1.toArray⟩, .bool t2]) (.agg #[.string ⟨s1.toArray⟩, .bool s2])).run Try.prog W = .ok (.bool false) W := hq0
      clear hq0
      go_wp2_with fail
      go_quiet (fail)
      obtain ⟨u, hu⟩ : ∃ W, W = v.drewN nq := ⟨_, rfl⟩
      have HTu := Lib.hid (HTv.out.below (show Below v.heap.size v u by rw [hu]; exact drawn_below v nq))
      rw [← hu]
      clear hu HTv hqq m0 m1 n0 n1
      have r0 := HTu.out.r1.cell (j := p) (by rw [cn_len]; exact hp)
      rw [cn_at _ hp, ← HK1.out] at r0
      have f0 := HTu.out.r1.free p
      obtain ⟨W1, hW1⟩ : ∃ W, W = u.setCell ⟨g1, p, none⟩ (.int .i64 ((k1 : Int) + 1)) := ⟨_, rfl⟩
      have HT1 := Lib.hid (HTu.out.set1 p ((k1 : Int) + 1))
      rw [← hW1, HK1.out, cn_set _ hp, ← HN1.out] at HT1
      go_upto_region 15 with fail
      rw [← hW1]
      clear hW1 r0 f0 HTu
      have r0 := HT1.out.r2.cell (j := q) (by rw [cn_len]; exact hq)
      rw [cn_at _ hq, ← HK2.out] at r0
      have f0 := HT1.out.r2.free q
      have HT2 := Lib.hid (HT1.out.set2 q ((k2 : Int) + 1))
      rw [HK2.out, cn_set _ hq, ← HN2.out, ← HK2.out] at HT2
      clear HT1 HN1 HN2 HK1 HK2
      go_wp2_with fail
      go_roundg (ps.length - (k + 1))
      case rel => exact ⟨k + 1, by omega, by go_num, Nat.le_refl _, HT2⟩
      case measure => omega
    · obtain rfl : k = ps.length := by omega
      rw [List.take_length] at HT
      have HN0 : Hid (∃ l1 l2, l1 = (ps.map fun z => z.1) ∧ l2 = (ps.map fun z => z.2)) := Lib.hid ⟨_, _, rfl, rfl⟩
      obtain ⟨l1, l2, hl1, hl2⟩ := HN0.out
      have hl1n : l1.length ≤ 800 := by rw [hl1, List.length_map]; omega
      have hl2n : l2.length ≤ 800 := by rw [hl2, List.length_map]; omega
      have HO := Lib.hid HPT.out.old
      have HW := Lib.hid HPT.out.now
      rw [← hl1] at HT HO
      rw [← hl2] at HT HW
      clear hl1 hl2 HN0 hlt hmq hk
      go_wp2_with fail
      go_loopg [17] gs.length (fun q iv wr => ∃ k : Nat, k ≤ gs.length ∧ iv = .int .i64 k ∧ gs.length - k ≤ q ∧ Hid (Two w3 wr g1 g2 (cn (l1 ++ gs.take k) a.length) (cn l2 b.length)))
      case atStart => exact ⟨0, Nat.zero_le _, rfl, by omega, by rw [List.take_zero, List.append_nil]; exact HT⟩
      case round =>
        clear HT
        obtain ⟨k, hk, rfl, hmq, HT⟩ := hrel
        by_cases hlt : k < gs.length
        · obtain ⟨pb, po, hAe, -, hIp⟩ := (HG_3.out.below HT.out.b) (by omega)
          subst hAe
          have c0 := hIp k hlt
          obtain ⟨p, hz, hp⟩ := HPT.out.gone gs[k] (List.getElem_mem hlt)
          have HN1 := Lib.hid (app_take_snoc (l := l1) hlt)
          rw [hz] at c0 HN1
          obtain ⟨ll, hll⟩ : ∃ z, z = l1 ++ gs.take k := ⟨_, rfl⟩
          have hlln : ll.length ≤ 1600 := by rw [hll, List.length_append, List.length_take]; omega
          rw [← hll] at HN1 HT
          obtain ⟨k1, hk1⟩ : ∃ n : Nat, n = ll.count (p : Int) := ⟨_, rfl⟩
          have hk1n : k1 ≤ 1600 := by rw [hk1]; exact Nat.le_trans List.count_le_length hlln
          have HK1 := Lib.hid hk1
          have h0k : (0 : Int) ≤ (k : Int) := by omega
          have hki : (k : Int) < (gs.length : Int) := by omega
          have h0p : (0 : Int) ≤ (p : Int) := by omega
          have hpn : (p : Int) < (a.length : Int) := by omega
          have hd1 : decide ((p : Int) < 0) = false := decide_eq_false (by omega)
          have hd2 : decide ((a.length : Int) ≤ (p : Int)) = false := decide_eq_false (by omega)
          have hw1 : IntKind.i64.wrap ((k1 : Int) + 1) = (k1 : Int) + 1 := by rw [IntKind.wrap_i64]; omega
          have r0 := HT.out.r1.cell (j := p) (by rw [cn_len]; exact hp)
          rw [cn_at _ hp, ← HK1.out] at r0
          have f0 := HT.out.r1.free p
          have HT2 := Lib.hid (HT.out.set1 p ((k1 : Int) + 1))
          rw [HK1.out, cn_set _ hp, ← HN1.out, ← HK1.out] at HT2
          clear hIp hll hk1 hz hlln HT HN1 HK1
          go_wp2_with fail
          go_roundg (gs.length - (k + 1))
          case rel => exact ⟨k + 1, by omega, by go_num, Nat.le_refl _, HT2⟩
          case measure => omega
        · obtain rfl : k = gs.length := by omega
          rw [List.take_length] at HT
          clear hlt hmq hk
          go_wp2_with fail
          go_loopg [18] ms.length (fun q iv wr => ∃ k : Nat, k ≤ ms.length ∧ iv = .int .i64 k ∧ ms.length - k ≤ q ∧ Hid (Two w3 wr g1 g2 (cn (l1 ++ gs) a.length) (cn (l2 ++ ms.take k) b.length)))
          case atStart => exact ⟨0, Nat.zero_le _, rfl, by omega, by rw [List.take_zero, List.append_nil]; exact HT⟩
          case round =>
            clear HT
            obtain ⟨k, hk, rfl, hmq, HT⟩ := hrel
            by_cases hlt : k < ms.length
            · obtain ⟨pb, po, hAe, -, hIp⟩ := (HM_3.out.below HT.out.b) (by omega)
              subst hAe
              have c0 := hIp k hlt
              obtain ⟨p, hz, hp⟩ := HPT.out.made ms[k] (List.getElem_mem hlt)
              have HN1 := Lib.hid (app_take_snoc (l := l2) hlt)
              rw [hz] at c0 HN1
              obtain ⟨ll, hll⟩ : ∃ z, z = l2 ++ ms.take k := ⟨_, rfl⟩
              have hlln : ll.length ≤ 1600 := by rw [hll, List.length_append, List.length_take]; omega
              rw [← hll] at HN1 HT
              obtain ⟨k1, hk1⟩ : ∃ n : Nat, n = ll.count (p : Int) := ⟨_, rfl⟩
              have hk1n : k1 ≤ 1600 := by rw [hk1]; exact Nat.le_trans List.count_le_length hlln
              have HK1 := Lib.hid hk1
              have h0k : (0 : Int) ≤ (k : Int) := by omega
              have hki : (k : Int) < (ms.length : Int) := by omega
              have h0p : (0 : Int) ≤ (p : Int) := by omega
              have hpn : (p : Int) < (b.length : Int) := by omega
              have hd1 : decide ((p : Int) < 0) = false := decide_eq_false (by omega)
              have hd2 : decide ((b.length : Int) ≤ (p : Int)) = false := decide_eq_false (by omega)
              have hw1 : IntKind.i64.wrap ((k1 : Int) + 1) = (k1 : Int) + 1 := by rw [IntKind.wrap_i64]; omega
              have r0 := HT.out.r2.cell (j := p) (by rw [cn_len]; exact hp)
              rw [cn_at _ hp, ← HK1.out] at r0
              have f0 := HT.out.r2.free p
              have HT2 := Lib.hid (HT.out.set2 p ((k1 : Int) + 1))
              rw [HK1.out, cn_set _ hp, ← HN1.out, ← HK1.out] at HT2
              clear hIp hll hk1 hz hlln HT HN1 HK1
              go_wp2_with fail
              go_roundg (ms.length - (k + 1))
              case rel => exact ⟨k + 1, by omega, by go_num, Nat.le_refl _, HT2⟩
              case measure => omega
            · obtain rfl : k = ms.length := by omega
              rw [List.take_length] at HT
              clear hlt hmq hk
              go_wp2_with fail
              go_loopg [19] a.length (fun q iv wr => ∃ k : Nat, k ≤ a.length ∧ iv = .int .i64 k ∧ a.length - k ≤ q ∧ Hid (Two w3 wr g1 g2 (cn (l1 ++ gs) a.length) (cn (l2 ++ ms) b.length)))
              case atStart => exact ⟨0, Nat.zero_le _, rfl, by omega, HT⟩
              case round =>
                clear HT
                obtain ⟨k, hk, rfl, hmq, HT⟩ := hrel
                by_cases hlt : k < a.length
                · have r0 := HT.out.r1.cell (j := k) (by rw [cn_len]; exact hlt)
                  rw [cn_at _ hlt, List.count_append, HO.out k hlt] at r0
                  have h0k : (0 : Int) ≤ (k : Int) := by omega
                  have hki : (k : Int) < (a.length : Int) := by omega
                  go_wp2_with fail
                  go_roundg (a.length - (k + 1))
                  case rel => exact ⟨k + 1, by omega, by go_num, Nat.le_refl _, HT⟩
                  case measure => omega
                · obtain rfl : k = a.length := by omega
                  clear hlt hmq hk
                  go_wp2_with fail
                  go_loopg [20] b.length (fun q iv wr => ∃ k : Nat, k ≤ b.length ∧ iv = .int .i64 k ∧ b.length - k ≤ q ∧ Hid (Two w3 wr g1 g2 (cn (l1 ++ gs) a.length) (cn (l2 ++ ms) b.length)))
                  case atStart => exact ⟨0, Nat.zero_le _, rfl, by omega, HT⟩
                  case round =>
                    clear HT
                    obtain ⟨k, hk, rfl, hmq, HT⟩ := hrel
                    by_cases hlt : k < b.length
                    · have r0 := HT.out.r2.cell (j := k) (by rw [cn_len]; exact hlt)
                      rw [cn_at _ hlt, List.count_append, HW.out k hlt] at r0
                      have h0k : (0 : Int) ≤ (k : Int) := by omega
                      have hki : (k : Int) < (b.length : Int) := by omega
                      go_wp2_with fail
                      go_roundg (b.length - (k + 1))
                      case rel => exact ⟨k + 1, by omega, by go_num, Nat.le_refl _, HT⟩
                      case measure => omega
                    · obtain rfl : k = b.length := by omega
                      clear hlt hmq hk
                      go_wp2_with fail
                      have HB' := Lib.hid (HB3.out.trans (HT.out.b.mono HB3.out.size))
                      with_reducible refine (live11.at wr).mono ?_
                      rintro e w9 ⟨rfl, hb9⟩
                      go_wp2_with fail
                      go_ret
                      exact ⟨rfl, HB'.out.trans (hb9.mono HB'.out.size)⟩
theorem pparts_law {A B : Option Addr} {c c' : Nat} {hs : List Hk} {a : List Ln} {w : World} (hH : HksIn 0 w A hs) (hok : HksOk hs) (hcA : hs.length ≤ c) (hL : LinesIn w B a) (ha : a.length ≤ maxLen) (hca : a.length ≤ c') (hT : ∀ y ∈ sd 2 (whl (hs.take 20) a).1, y.1.length ≤ maxLen) :
    Calls Try.prog 6 #[.slice A hs.length c, .slice B a.length c'] w fun e w' => e = .returned (.bool true) ∧ Below w.heap.size w w' := by
  by_cases hq : (mde (hs.take 20) a).2 = 0
  · exact pparts_good hH hok hcA hL ha hca hT hq
  · exact pparts_bad hH hok hcA hL ha hca hT hq
end Go.Proofs.Ytigghcmbdnidnaa.Pa
