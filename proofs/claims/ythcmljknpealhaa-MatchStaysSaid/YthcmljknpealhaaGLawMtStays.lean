/-
  The law MatchStays.
-/
import Derived.Test.YthcmljknpealhaaGLawMtComposes
import Derived.BigQuiet
namespace Go.Proofs.Ythcmljknpealhaa.Mt
set_option linter.unusedVariables false
set_option linter.unusedSimpArgs false
open Go.RowKit
open T
open N (PrIn PrIn.below)
open V (drawn_below IntsIn)
open I (alloc1 own_at own_below)

theorem WfP.inv {p : List Pr} (h : WfP p) : WfP (inv p) := fun z hz => by
  obtain ⟨q, hq, rfl⟩ := List.mem_map.1 hz
  exact ⟨(h q hq).2, (h q hq).1⟩
theorem WfP.comp {p q : List Pr} (hp : WfP p) (hq : WfP q) : WfP (comp p q) := fun z hz => by
  obtain ⟨y, hy, he⟩ := List.mem_filterMap.1 hz
  obtain ⟨k, hk, rfl⟩ := Option.map_eq_some_iff.1 he
  exact ⟨(hp y hy).1, (hq _ (fnd_mem hk)).2⟩
/-- Three rows of pairs, to be read. -/
structure P3 (w : World) (A B C : Option Addr) (p q r : List Pr) : Prop where
  p : PrIn w A p
  q : PrIn w B q
  r : PrIn w C r
theorem P3.below {w w' : World} {A B C : Option Addr} {p q r : List Pr} (h : P3 w A B C p q r) (hb : Below w.heap.size w w') : P3 w' A B C p q r := ⟨h.p.below hb, h.q.below hb, h.r.below hb⟩
/-- What the law asks of three matches. -/
structure StF (p q r : List Pr) (a b c : Int) : Prop where
  pq : right (comp p q) a c = true
  ip : right (inv p) b a = true
  grp : comp p (comp q r) = comp (comp p q) r
  back : comp (inv q) (inv p) = inv (comp p q)
theorem stF {p q r : List Pr} {a b c d : Int} (hp : right p a b = true) (hq : right q b c = true) (hr : right r c d = true) : StF p q r a b c := by
  have h1 := right_iff.1 hp
  have h2 := right_iff.1 hq
  have h3 := right_iff.1 hr
  exact ⟨right_iff.2 (h1.comp h2), right_iff.2 h1.inv, (comp_comp h1 h2 h3).symm, (inv_comp h1 h2).symm⟩
def FwC (A : Option Addr) (n c m : Nat) : Prop := ∀ W : World, Calls Try.prog 6 #[.slice A n c] W fun e w' => e = .returned (.slice A m c) ∧ w' = W
theorem FwC.at {A : Option Addr} {n c m : Nat} (h : FwC A n c m) (W : World) : Calls Try.prog 6 #[.slice A n c] W fun e w' => e = .returned (.slice A m c) ∧ w' = W := h W
theorem c_few {A : Option Addr} {c : Nat} {p : List Pr} (hm : p.length ≤ maxLen) (hc : p.length ≤ c) : FwC A p.length c (p.take 40).length := fun W => (few_any A p c W hm hc).mono fun _ _ h => ⟨h.1, h.2.symm⟩

set_option maxRecDepth 100000 in
set_option maxHeartbeats 8000000 in
theorem mstays_walk {A B C X Y : Option Addr} {cA cB cC cX cY nA nB nC nX nY : Nat} {p q r ds : List Pr} {x y : List Int} {a b c d : Int} (w : World)
    (ha : -128 ≤ a ∧ a ≤ 127) (hb : -128 ≤ b ∧ b ≤ 127) (hc : -128 ≤ c ∧ c ≤ 127) (hd : -128 ≤ d ∧ d ≤ 127) (hp : p.length ≤ 40) (hq : q.length ≤ 40) (hr : r.length ≤ 40) (hwp : WfP p) (hwq : WfP q) (hwr : WfP r)
    (HF0 : Hid (FwC A nA cA p.length)) (HF1 : Hid (FwC B nB cB q.length)) (HF2 : Hid (FwC C nC cC r.length))
    (hx : min (nX : Int) 40 = (x.length : Int)) (hy : min (nY : Int) 40 = (y.length : Int)) (hcx : nX ≤ cX) (hcy : nY ≤ cY) (hmx : nX ≤ maxLen) (hmy : nY ≤ maxLen)
    (hP : P3 w A B C p q r) (hX : IntsIn w X x) (hY : IntsIn w Y y)
    (HI : Hid (IdC 11 x y ds)) (HRI : Hid (RtC 13 ds x.length y.length true)) :
    Calls Try.prog 4 #[.slice A nA cA, .slice B nB cB, .slice C nC cC, .agg #[.int .i8 a, .int .i8 b, .int .i8 c, .int .i8 d], .slice X nX cX, .slice Y nY cY] w fun e w' => e = .returned (.bool true) ∧ Below w.heap.size w w' := by
  unfold maxLen at hmx hmy
  obtain ⟨W0, hW0⟩ : ∃ W : World, W = w.alloc (.cells #[.int .i8 a, .int .i8 b, .int .i8 c, .int .i8 d] 31) := ⟨_, rfl⟩
  have hb0 : Below w.heap.size w W0 := by rw [hW0]; exact alloc1 _ _
  have HB0 := Lib.hid hb0
  have HN0 := Lib.hid (show W0.heap[w.heap.size]? = some (.cells #[.int .i8 a, .int .i8 b, .int .i8 c, .int .i8 d] 31 (0, 0)) by rw [hW0]; exact heap_alloc_new w _)
  have HP := Lib.hid (hP.below hb0)
  have HX := Lib.hid (hX.below hb0)
  have HY := Lib.hid (hY.below hb0)
  have HNP := Lib.hid (c_rright (p := p) a b (by omega))
  have HNQ := Lib.hid (c_rright (p := q) b c (by omega))
  have HNR := Lib.hid (c_rright (p := r) c d (by omega))
  have HST := Lib.hid (fun h1 h2 h3 => stF (p := p) (q := q) (r := r) (a := a) (b := b) (c := c) (d := d) h1 h2 h3)
  have hl1 := comp_len p q
  have hl2 := comp_len q r
  have hl3 := comp_len (comp p q) r
  have hl4 := inv_len p
  have hl5 := inv_len q
  have hl6 := inv_len (comp p q)
  have HCPQ := Lib.hid (c_comp (p := p) (q := q) (by omega) (by omega) hwq hwp)
  have HCQR := Lib.hid (c_comp (p := q) (q := r) (by omega) (by omega) hwr hwq)
  have HCX := Lib.hid (c_comp (p := comp p q) (q := r) (by omega) (by omega) hwr (hwp.comp hwq))
  have HCZ := Lib.hid (c_comp (p := p) (q := comp q r) (by omega) (by omega) (hwq.comp hwr) hwp)
  have HCB := Lib.hid (c_comp (p := inv q) (q := inv p) (by omega) (by omega) hwp.inv hwq.inv)
  have HRPQ := Lib.hid (c_right (p := comp p q) a c (by omega))
  have HRIP := Lib.hid (c_right (p := inv p) b a (by omega))
  have HIP := Lib.hid (c_inv (p := p) (by omega))
  have HIQ := Lib.hid (c_inv (p := q) (by omega))
  have HIPQ := Lib.hid (c_inv (p := comp p q) (by omega))
  have HSX := Lib.hid (c_same (p := comp (comp p q) r) (by omega))
  have HSB := Lib.hid (c_same (p := inv (comp p q)) (by omega))
  have hca : IntKind.i64.wrap a = a := by rw [IntKind.wrap_i64]; omega
  have hcb : IntKind.i64.wrap b = b := by rw [IntKind.wrap_i64]; omega
  have hcc : IntKind.i64.wrap c = c := by rw [IntKind.wrap_i64]; omega
  have hcd : IntKind.i64.wrap d = d := by rw [IntKind.wrap_i64]; omega
  obtain ⟨r1, hr1⟩ : ∃ v, v = right p a b := ⟨_, rfl⟩
  obtain ⟨r2, hr2⟩ : ∃ v, v = right q b c := ⟨_, rfl⟩
  obtain ⟨r3, hr3⟩ : ∃ v, v = right r c d := ⟨_, rfl⟩
  have HS := Lib.hid (show r1 = true → r2 = true → r3 = true → StF p q r a b c from fun e1 e2 e3 => HST.out (by rw [← hr1]; exact e1) (by rw [← hr2]; exact e2) (by rw [← hr3]; exact e3))
  rw [← hr1] at HNP
  rw [← hr2] at HNQ
  rw [← hr3] at HNR
  clear hP hX hY hb0 hwp hwq hwr HST hl1 hl2 hl3 hl4 hl5 hl6 hr1 hr2 hr3 hp hq hr
  go_enter Try.func4, Try.ntmps4
  go_wp2_with fail
  rw [← hW0]
  clear hW0
  go_quiet ((go_at_call 6; first | with_reducible exact Calls.quiet_of_same (HF0.out.at _) | with_reducible exact Calls.quiet_of_same (HF1.out.at _) | with_reducible exact Calls.quiet_of_same (HF2.out.at _)))
  obtain ⟨w1, hw1⟩ : ∃ W, W = W0.drewN nq := ⟨_, rfl⟩
  have hq1 : Below W0.heap.size W0 w1 := by rw [hw1]; exact drawn_below W0 nq
  have HB1 := Lib.hid (HB0.out.trans (hq1.mono HB0.out.size))
  have HN1 := Lib.hid ((hq1.block _ (L.blk_lt HN0.out)).trans HN0.out)
  replace HP := Lib.hid (HP.out.below hq1)
  replace HX := Lib.hid (HX.out.below hq1)
  replace HY := Lib.hid (HY.out.below hq1)
  rw [← hw1]
  clear hw1 hq1 hx hy hcx hcy hmx hmy HF0 HF1 HF2 HB0 HN0
  have HN := HN1
  clear HN1
  go_wp2_with fail
  with_reducible refine (HI.out.at cX cY HX.out HY.out).mono ?_
  rintro e w2 ⟨D, dc, rfl, hd0, hb2⟩
  have HB2 := Lib.hid (HB1.out.trans (hb2.mono HB1.out.size))
  replace HP := Lib.hid (HP.out.below hb2)
  replace HN := Lib.hid ((hb2.block _ (L.blk_lt HN.out)).trans HN.out)
  have HD := Lib.hid hd0
  clear hb2 HB1 hd0 HX HY
  go_wp2_with fail
  with_reducible refine (HRI.out.at dc HD.out).mono ?_
  rintro e w3 ⟨rfl, hb3⟩
  have HB3 := Lib.hid (HB2.out.trans (hb3.mono HB2.out.size))
  replace HP := Lib.hid (HP.out.below hb3)
  replace HN := Lib.hid ((hb3.block _ (L.blk_lt HN.out)).trans HN.out)
  clear hb3 HB2 HD
  have n0 := L.blk_cell HN.out 0
  have n1 := L.blk_cell HN.out 1
  have n2 := L.blk_cell HN.out 2
  have n3 := L.blk_cell HN.out 3
  simp only [List.getElem?_toArray, List.getElem?_cons_zero, List.getElem?_cons_succ] at n0 n1 n2 n3
  go_wp2_with fail
  go_quiet (fail)
  clear n0 n1 n2 n3
  obtain ⟨v3, hv3⟩ : ∃ W, W = w3.drewN nq := ⟨_, rfl⟩
  have hq3 : Below w3.heap.size w3 v3 := by rw [hv3]; exact drawn_below w3 nq
  have HB4 := Lib.hid (HB3.out.trans (hq3.mono HB3.out.size))
  replace HP := Lib.hid (HP.out.below hq3)
  rw [← hv3]
  clear hv3 hq3 HB3 HN
  go_wp2_with fail
  with_reducible refine (HNP.out.at cA HP.out.p).mono ?_
  rintro e w5 ⟨rfl, hb5⟩
  have HB5 := Lib.hid (HB4.out.trans (hb5.mono HB4.out.size))
  replace HP := Lib.hid (HP.out.below hb5)
  clear hb5 HB4
  by_cases er1 : r1 = false
  · subst er1
    go_wp2_with fail
    with_reducible refine (live12.at w5).mono ?_
    rintro e w6 ⟨rfl, hb6⟩
    go_wp2_with fail
    go_ret
    exact ⟨rfl, HB5.out.trans (hb6.mono HB5.out.size)⟩
  obtain rfl : r1 = true := by revert er1; cases r1 <;> simp
  clear er1
  go_wp2_with fail
  with_reducible refine (HNQ.out.at cB HP.out.q).mono ?_
  rintro e w6 ⟨rfl, hb6⟩
  have HB6 := Lib.hid (HB5.out.trans (hb6.mono HB5.out.size))
  replace HP := Lib.hid (HP.out.below hb6)
  clear hb6 HB5
  by_cases er2 : r2 = false
  · subst er2
    go_wp2_with fail
    with_reducible refine (live12.at w6).mono ?_
    rintro e w7 ⟨rfl, hb7⟩
    go_wp2_with fail
    go_ret
    exact ⟨rfl, HB6.out.trans (hb7.mono HB6.out.size)⟩
  obtain rfl : r2 = true := by revert er2; cases r2 <;> simp
  clear er2
  go_wp2_with fail
  with_reducible refine (HNR.out.at cC HP.out.r).mono ?_
  rintro e w7 ⟨rfl, hb7⟩
  have HB7 := Lib.hid (HB6.out.trans (hb7.mono HB6.out.size))
  replace HP := Lib.hid (HP.out.below hb7)
  clear hb7 HB6
  by_cases er3 : r3 = false
  · subst er3
    go_wp2_with fail
    with_reducible refine (live12.at w7).mono ?_
    rintro e w8 ⟨rfl, hb8⟩
    go_wp2_with fail
    go_ret
    exact ⟨rfl, HB7.out.trans (hb8.mono HB7.out.size)⟩
  obtain rfl : r3 = true := by revert er3; cases r3 <;> simp
  clear er3
  have hst : StF p q r a b c := by first | exact HS.out rfl rfl rfl | exact HS.out trivial trivial trivial | simpa using HS.out
  rw [hst.pq] at HRPQ
  rw [hst.ip] at HRIP
  rw [hst.grp] at HCZ
  rw [hst.back] at HCB
  clear hst HS HNP HNQ HNR
  go_wp2_with fail
  with_reducible refine (HCPQ.out.at cA cB HP.out.p HP.out.q).mono ?_
  rintro e w8 ⟨PQ, pqc, rfl, h1, hb8⟩
  have HB8 := Lib.hid (HB7.out.trans (hb8.mono HB7.out.size))
  replace HP := Lib.hid (HP.out.below hb8)
  have HPQ := Lib.hid h1
  clear hb8 HB7 h1
  go_wp2_with fail
  with_reducible refine (live12.at w8).mono ?_
  rintro e w9 ⟨rfl, hb9⟩
  have HB9 := Lib.hid (HB8.out.trans (hb9.mono HB8.out.size))
  replace HP := Lib.hid (HP.out.below hb9)
  replace HPQ := Lib.hid (HPQ.out.below hb9)
  clear hb9 HB8
  go_wp2_with fail
  with_reducible refine (HRPQ.out.at pqc HPQ.out).mono ?_
  rintro e w10 ⟨rfl, hb10⟩
  have HB10 := Lib.hid (HB9.out.trans (hb10.mono HB9.out.size))
  replace HP := Lib.hid (HP.out.below hb10)
  replace HPQ := Lib.hid (HPQ.out.below hb10)
  clear hb10 HB9
  go_wp2_with fail
  with_reducible refine (HIP.out.at cA HP.out.p).mono ?_
  rintro e w11 ⟨IP, ipc, rfl, h1, hb11⟩
  have HB11 := Lib.hid (HB10.out.trans (hb11.mono HB10.out.size))
  replace HP := Lib.hid (HP.out.below hb11)
  replace HPQ := Lib.hid (HPQ.out.below hb11)
  have HI1 := Lib.hid h1
  clear hb11 HB10 h1
  go_wp2_with fail
  with_reducible refine (HRIP.out.at ipc HI1.out).mono ?_
  rintro e w12 ⟨rfl, hb12⟩
  have HB12 := Lib.hid (HB11.out.trans (hb12.mono HB11.out.size))
  replace HP := Lib.hid (HP.out.below hb12)
  replace HPQ := Lib.hid (HPQ.out.below hb12)
  clear hb12 HB11 HI1
  go_wp2_with fail
  with_reducible refine (HCX.out.at pqc cC HPQ.out HP.out.r).mono ?_
  rintro e w13 ⟨XX, xc, rfl, h1, hb13⟩
  have HB13 := Lib.hid (HB12.out.trans (hb13.mono HB12.out.size))
  replace HP := Lib.hid (HP.out.below hb13)
  replace HPQ := Lib.hid (HPQ.out.below hb13)
  have HXX := Lib.hid h1
  clear hb13 HB12 h1
  go_wp2_with fail
  with_reducible refine (HCQR.out.at cB cC HP.out.q HP.out.r).mono ?_
  rintro e w14 ⟨YY, yc, rfl, h1, hb14⟩
  have HB14 := Lib.hid (HB13.out.trans (hb14.mono HB13.out.size))
  replace HP := Lib.hid (HP.out.below hb14)
  replace HPQ := Lib.hid (HPQ.out.below hb14)
  replace HXX := Lib.hid (HXX.out.below hb14)
  have HYY := Lib.hid h1
  clear hb14 HB13 h1
  go_wp2_with fail
  with_reducible refine (HCZ.out.at cA yc HP.out.p HYY.out).mono ?_
  rintro e w15 ⟨ZZ, zc, rfl, h1, hb15⟩
  have HB15 := Lib.hid (HB14.out.trans (hb15.mono HB14.out.size))
  replace HP := Lib.hid (HP.out.below hb15)
  replace HPQ := Lib.hid (HPQ.out.below hb15)
  replace HXX := Lib.hid (HXX.out.below hb15)
  have HZZ := Lib.hid h1
  clear hb15 HB14 h1 HYY
  go_wp2_with fail
  with_reducible refine (HSX.out.at xc zc HXX.out HZZ.out).mono ?_
  rintro e w16 ⟨rfl, hb16⟩
  have HB16 := Lib.hid (HB15.out.trans (hb16.mono HB15.out.size))
  replace HP := Lib.hid (HP.out.below hb16)
  replace HPQ := Lib.hid (HPQ.out.below hb16)
  clear hb16 HB15 HXX HZZ
  go_wp2_with fail
  with_reducible refine (HIPQ.out.at pqc HPQ.out).mono ?_
  rintro e w17 ⟨UU, uc, rfl, h1, hb17⟩
  have HB17 := Lib.hid (HB16.out.trans (hb17.mono HB16.out.size))
  replace HP := Lib.hid (HP.out.below hb17)
  have HUU := Lib.hid h1
  clear hb17 HB16 h1 HPQ
  go_wp2_with fail
  with_reducible refine (HIQ.out.at cB HP.out.q).mono ?_
  rintro e w18 ⟨VV, vc, rfl, h1, hb18⟩
  have HB18 := Lib.hid (HB17.out.trans (hb18.mono HB17.out.size))
  replace HP := Lib.hid (HP.out.below hb18)
  replace HUU := Lib.hid (HUU.out.below hb18)
  have HVV := Lib.hid h1
  clear hb18 HB17 h1
  go_wp2_with fail
  with_reducible refine (HIP.out.at cA HP.out.p).mono ?_
  rintro e w19 ⟨TT, tc, rfl, h1, hb19⟩
  have HB19 := Lib.hid (HB18.out.trans (hb19.mono HB18.out.size))
  replace HUU := Lib.hid (HUU.out.below hb19)
  replace HVV := Lib.hid (HVV.out.below hb19)
  have HTT := Lib.hid h1
  clear hb19 HB18 h1 HP
  go_wp2_with fail
  with_reducible refine (HCB.out.at vc tc HVV.out HTT.out).mono ?_
  rintro e w20 ⟨SS, sc, rfl, h1, hb20⟩
  have HB20 := Lib.hid (HB19.out.trans (hb20.mono HB19.out.size))
  replace HUU := Lib.hid (HUU.out.below hb20)
  have HSS := Lib.hid h1
  clear hb20 HB19 h1 HVV HTT
  go_wp2_with fail
  with_reducible refine (HSB.out.at uc sc HUU.out HSS.out).mono ?_
  rintro e w21 ⟨rfl, hb21⟩
  have HB21 := Lib.hid (HB20.out.trans (hb21.mono HB20.out.size))
  clear hb21 HB20 HUU HSS
  go_wp2_with fail
  go_ret
  exact ⟨rfl, HB21.out⟩
theorem mstays_law {A B C X Y : Option Addr} {cA cB cC cX cY : Nat} {p q r : List Pr} {x y : List Int} {a b c d : Int} {w : World}
    (hP : PrIn w A p) (hQ : PrIn w B q) (hR : PrIn w C r) (hX : IntsIn w X x) (hY : IntsIn w Y y) (m0 : p.length ≤ maxLen) (m1 : q.length ≤ maxLen) (m2 : r.length ≤ maxLen) (m3 : x.length ≤ maxLen) (m4 : y.length ≤ maxLen)
    (d0 : p.length ≤ cA) (d1 : q.length ≤ cB) (d2 : r.length ≤ cC) (d3 : x.length ≤ cX) (d4 : y.length ≤ cY) (f0 : PrFit p) (f1 : PrFit q) (f2 : PrFit r) (f3 : WfI x) (f4 : WfI y)
    (ha : -128 ≤ a ∧ a ≤ 127) (hb : -128 ≤ b ∧ b ≤ 127) (hc : -128 ≤ c ∧ c ≤ 127) (hd : -128 ≤ d ∧ d ≤ 127) :
    Calls Try.prog 4 #[.slice A p.length cA, .slice B q.length cB, .slice C r.length cC, .agg #[.int .i8 a, .int .i8 b, .int .i8 c, .int .i8 d], .slice X x.length cX, .slice Y y.length cY] w fun e w' => e = .returned (.bool true) ∧ Below w.heap.size w w' := by
  have l3 : (x.take 40).length ≤ 40 := by rw [List.length_take]; omega
  have l4 : (y.take 40).length ≤ 40 := by rw [List.length_take]; omega
  have l5 := ids_len (x.take 40) (y.take 40)
  refine mstays_walk (p := p.take 40) (q := q.take 40) (r := r.take 40) (x := x.take 40) (y := y.take 40) w ha hb hc hd (by rw [List.length_take]; omega) (by rw [List.length_take]; omega) (by rw [List.length_take]; omega) (f0.wf 40) (f1.wf 40) (f2.wf 40) (Lib.hid (c_few m0 d0)) (Lib.hid (c_few m1 d1)) (Lib.hid (c_few m2 d2))
    (by rw [List.length_take]; omega) (by rw [List.length_take]; omega) d3 d4 m3 m4 ⟨pr_take hP 40, pr_take hQ 40, pr_take hR 40⟩ (ints_take hX 40) (ints_take hY 40) (Lib.hid (c_ids (by omega) (by omega) (f3.take 40) (f4.take 40))) (Lib.hid ?_)
  have := c_right (p := ids (x.take 40) (y.take 40)) (x.take 40).length (y.take 40).length (by omega)
  rw [right_iff.2 (ids_right (x.take 40) (y.take 40))] at this
  exact this
end Go.Proofs.Ythcmljknpealhaa.Mt
