/-
  The law RankTurns, walked.
-/
import Derived.Test.YtfndiggpnkjacaaDoorGLawRkLike
import Derived.Test.YtfndiggpnkjacaaDoorGzm
import Derived.BigQuiet
namespace Go.Proofs.YtfndiggpnkjacaaDoor.Rk
set_option linter.unusedVariables false
set_option linter.unusedSimpArgs false
open Go.RowKit
open T
open N (Ln ListsIn)
open Fp (fV isN same same_any ky vl ONE isN_zero)

/-- Have the first ones a line in common with others? -/
def cm (us v : List Ln) : Bool := us.any fun x => decide (x ∈ v)
theorem cm_take {u : List Ln} (v : List Ln) {k : Nat} (h : k < u.length) : cm (u.take (k + 1)) v = (cm (u.take k) v || decide (u[k] ∈ v)) := by
  rw [List.take_succ_eq_append_getElem h]
  unfold cm
  rw [List.any_append]
  simp
theorem mem_take (p : Ln) {v : List Ln} {q : Nat} (h : q < v.length) : decide (p ∈ v.take (q + 1)) = (decide (p ∈ v.take q) || decide (p = v[q])) := by
  rw [List.take_succ_eq_append_getElem h]
  simp only [List.mem_append, List.mem_singleton, Bool.decide_or]
theorem cm_cn (u v : List Ln) : cm u v = !decide (cn u v = 0) := by
  cases h : cm u v
  · have h0 : cn u v = 0 := (cn_none u v).2 fun i j hi hj e => by
      have : cm u v = true := by
        unfold cm
        rw [List.any_eq_true]
        exact ⟨u[i], List.getElem_mem hi, decide_eq_true (by rw [e]; exact List.getElem_mem hj)⟩
      rw [h] at this
      cases this
    simp [h0]
  · unfold cm at h
    rw [List.any_eq_true] at h
    obtain ⟨x, hx, hv⟩ := h
    have hv := of_decide_eq_true hv
    obtain ⟨i, hi, rfl⟩ := List.getElem_of_mem hx
    obtain ⟨j, hj, e⟩ := List.getElem_of_mem hv
    have : ¬ cn u v = 0 := fun q => (cn_none u v).1 q i j hi hj e.symm
    simp [this]
set_option maxRecDepth 100000 in
set_option maxHeartbeats 8000000 in
theorem rturns_walk {A B : Option Addr} {u v : List Ln} {n m ca cb : Nat} {w : World} (hu : u.length ≤ 40) (hv : v.length ≤ 40) (HF1 : Hid (∀ w : World, Calls Tryd.prog 9 #[.slice A n ca] w fun e w' => e = .returned (.slice A u.length ca) ∧ w' = w)) (HF2 : Hid (∀ w : World, Calls Tryd.prog 9 #[.slice B m cb] w fun e w' => e = .returned (.slice B v.length cb) ∧ w' = w))
    (hA : LinesIn w A u) (hB : LinesIn w B v) (hca : u.length ≤ ca) (hcb : v.length ≤ cb) (HL1 : Hid (LkC 14 u v)) (HL2 : Hid (LkC 14 v u)) (ht : Tab w) :
    Calls Tryd.prog 6 #[.slice A n ca, .slice B m cb] w fun e w' => e = .returned (.bool true) ∧ Below w.heap.size w w' := by
  have HIA := Lib.hid hA
  have HIB := Lib.hid hB
  have HTT := Lib.hid ht
  clear hA hB ht
  go_enter Tryd.func6, Tryd.ntmps6
  go_wp2_with fail
  refine (HF1.out _).mono ?_
  rintro e wz ⟨rfl, hwz⟩
  rw [hwz]
  clear hwz
  go_wp2_with fail
  refine (HF2.out _).mono ?_
  rintro e wz ⟨rfl, hwz⟩
  rw [hwz]
  clear hwz
  go_wp2_with fail
  refine (HL1.out.call w HIA.out HIB.out hca hcb).mono ?_
  rintro e w1 ⟨x, rfl, hx, hb1⟩
  have HX := Lib.hid hx
  have HIA1 := Lib.hid (HIA.out.below hb1)
  have HIB1 := Lib.hid (HIB.out.below hb1)
  go_wp2_with fail
  refine (HL2.out.call w1 HIB1.out HIA1.out hcb hca).mono ?_
  rintro e w2 ⟨y, rfl, hy, hb2⟩
  have HB := Lib.hid (bel hb1 hb2)
  have HT := Lib.hid (Tab.later HTT.out HB.out)
  have HI := Lib.hid (HIA1.out.below hb2)
  have HJ := Lib.hid (HIB1.out.below hb2)
  have HS := Lib.hid (show ∀ W : World, Calls Tryd.prog 13 #[fV x.toNat, fV y.toNat] W fun e w' => e = .returned (.bool true) ∧ w' = W from fun W => (same_any _ _ (u_lt x) (u_lt y) W).mono fun e w' ⟨h1, h2⟩ => ⟨by rw [h1, show same x.toNat y.toNat = true from decide_eq_true (by rw [hx.key, hy.key, lks_turn])], h2⟩)
  clear hx hy hb1 hb2 HIA HIB HIA1 HIB1 HTT HL1 HL2 HF1 HF2 hca hcb
  by_cases hz : u.length + v.length = 0
  · have nx : isN x.toNat = true := HX.out.nan hz
    have hu0 : u.length = 0 := by omega
    have hv0 : v.length = 0 := by omega
    have hui : (u.length : Int) = 0 := by omega
    have hvi : (v.length : Int) = 0 := by omega
    have hw0 : IntKind.i64.wrap 0 = 0 := by decide
    clear hz
    go_wp2_with fail
    refine (HS.out _).mono ?_
    rintro e wz ⟨rfl, hwz⟩
    rw [hwz]
    clear hwz HS HX
    go_wp2_with fail
    go_loopg [7, 8] 0 (fun n cv i wr => i = .int .i64 0 ∧ cv = .bool false ∧ Hid (Below w2.heap.size w2 wr))
    case atStart => exact ⟨rfl, rfl, Lib.hid (Below.refl _ _)⟩
    case round =>
      obtain ⟨rfl, rfl, HBR⟩ := hrel
      have HB3 := Lib.hid (bel HB.out HBR.out)
      have HLV := Lib.hid (live23.call wr (Tab.later HT.out HBR.out))
      clear HB HT
      go_wp2_with fail
      refine (HLV.out).mono ?_
      rintro e w4 ⟨rfl, hb4⟩
      go_wp2_with fail
      go_ret
      exact ⟨rfl, bel HB3.out hb4⟩
  · obtain ⟨nx, hxl, hx1, hxv, hxo, hxz⟩ := HX.out.num hz
    have hzi : ¬ (u.length : Int) + (v.length : Int) = 0 := by omega
    have hwz0 : IntKind.i64.wrap ((u.length : Int) + (v.length : Int)) = (u.length : Int) + (v.length : Int) := by rw [IntKind.wrap_i64]; omega
    have HXV := Lib.hid (And.intro hx1 (And.intro hxv (And.intro hxo hxz)))
    have hzd : decide ((u.length : Int) + (v.length : Int) = 0) = false := decide_eq_false hzi
    have hze : (((u.length : Int) + (v.length : Int)) == 0) = false := by simpa using hzi
    clear hxl hx1 hxv hxo hxz
    go_wp2_with fail
    refine (HS.out _).mono ?_
    rintro e wz ⟨rfl, hwz⟩
    rw [hwz]
    clear hwz HS
    go_wp2_with fail
    go_loopg [7, 8] u.length (fun n cv i wr => ∃ (k : Nat) (c : Bool), k ≤ u.length ∧ i = .int .i64 (k : Int) ∧ cv = .bool c ∧ u.length - k ≤ n ∧ Hid (c = cm (u.take k) v) ∧ Hid (Below w2.heap.size w2 wr))
    case atStart => exact ⟨0, false, Nat.zero_le _, rfl, rfl, by omega, Lib.hid (by simp [cm]), Lib.hid (Below.refl _ _)⟩
    case round =>
      obtain ⟨k, c, hk, rfl, rfl, hm, HC, HBR⟩ := hrel
      have h0k : (0 : Int) ≤ (k : Int) := by omega
      by_cases hlt : k < u.length
      · have hki : (k : Int) < (u.length : Int) := by omega
        have HCN := Lib.hid (cm_take v hlt)
        rw [← HC.out] at HCN
        obtain ⟨ba, oa, hAe, hba, hatA⟩ := HI.out (by omega)
        have HAK : Hid (A = some ⟨ba, oa, none⟩) := Lib.hid hAe
        obtain ⟨c0, c1⟩ := hatA k hlt
        obtain ⟨p, hp⟩ : ∃ p, p = u[k]'hlt := ⟨_, rfl⟩
        rw [← hp] at c0 c1 HCN
        clear hatA hp HC
        generalize wr = wo at *
        go_upto_region 10 with fail
        go_loopg [7, 9] v.length (fun n cv j wr => ∃ (q : Nat) (d : Bool), q ≤ v.length ∧ j = .int .i64 (q : Int) ∧ cv = .bool d ∧ v.length - q ≤ n ∧ Hid (d = (c || decide (p ∈ v.take q))) ∧ Hid (Below w2.heap.size w2 wr))
        case atStart => exact ⟨0, c, Nat.zero_le _, rfl, rfl, by omega, Lib.hid (by simp), HBR⟩
        case round =>
          clear HBR
          obtain ⟨q, d, hq, rfl, rfl, hmq, HD, HBR⟩ := hrel
          have h0q : (0 : Int) ≤ (q : Int) := by omega
          by_cases hql : q < v.length
          · have hqi : (q : Int) < (v.length : Int) := by omega
            have HMT := Lib.hid (mem_take p hql)
            obtain ⟨bb, ob, hBe, hbb, hatB⟩ := HJ.out (by omega)
            have hAe := HAK.out
            subst hAe hBe
            obtain ⟨d0, d1⟩ := hatB q hql
            have e0 := (HBR.out.cell (p := ⟨ba, _, none⟩) hba).trans c0
            have e1 := (HBR.out.cell (p := ⟨ba, _, none⟩) hba).trans c1
            have f0 := (HBR.out.cell (p := ⟨bb, _, none⟩) hbb).trans d0
            have f1 := (HBR.out.cell (p := ⟨bb, _, none⟩) hbb).trans d1
            obtain ⟨r, hr⟩ : ∃ r, r = v[q]'hql := ⟨_, rfl⟩
            rw [← hr] at f0 f1 HMT
            have HR : Hid (∀ n, Below w2.heap.size w2 (wr.drewN n)) := Lib.hid fun n => HBR.out.trans ((V.drawn_below wr n).mono HBR.out.size)
            clear hatB hr d0 d1
            cases d with
            | true =>
              clear e0 e1 f0 f1
              go_upto_region 12 with fail
              go_quiet (fail)
              go_wp2_with fail
              go_roundg (v.length - (q + 1))
              case rel => exact ⟨q + 1, true, by omega, by go_num, rfl, Nat.le_refl _, Lib.hid (by rw [HMT.out, ← Bool.or_assoc, ← HD.out]; rfl), Lib.hid (HR.out _)⟩
              case measure => omega
            | false =>
              have hq0 := fun W => Mg.ln_eql W p r
              simp only [Mg.lnV] at hq0
              cases hb : decide (p = r) with
              | true =>
                have HDB := Lib.hid hb
                rw [hb] at hq0
                clear hb
                obtain ⟨p0, p1⟩ := p
                obtain ⟨r0, r1⟩ := r
                simp only at e0 e1 f0 f1
                have hq2 : ∀ W, (binOp .eql 44 (.agg #[.string ⟨p0.toArray⟩, .bool p1]) (.agg #[.string ⟨r0.toArray⟩, .bool r1])).run Tryd.prog W = .ok (.bool true) W := hq0
                clear hq0
                go_upto_region 12 with fail
                go_quiet (fail)
                clear hq2
                go_wp2_with fail
                go_roundg (v.length - (q + 1))
                case rel => exact ⟨q + 1, true, by omega, by go_num, rfl, Nat.le_refl _, Lib.hid (by rw [HMT.out, ← Bool.or_assoc, ← HD.out, HDB.out]; rfl), Lib.hid (HR.out _)⟩
                case measure => omega
              | false =>
                have HDB := Lib.hid hb
                rw [hb] at hq0
                clear hb
                obtain ⟨p0, p1⟩ := p
                obtain ⟨r0, r1⟩ := r
                simp only at e0 e1 f0 f1
                have hq2 : ∀ W, (binOp .eql 44 (.agg #[.string ⟨p0.toArray⟩, .bool p1]) (.agg #[.string ⟨r0.toArray⟩, .bool r1])).run Tryd.prog W = .ok (.bool false) W := hq0
                clear hq0
                go_upto_region 12 with fail
                go_quiet (fail)
                clear hq2
                go_wp2_with fail
                go_roundg (v.length - (q + 1))
                case rel => exact ⟨q + 1, false, by omega, by go_num, rfl, Nat.le_refl _, Lib.hid (by rw [HMT.out, ← Bool.or_assoc, ← HD.out, HDB.out]; rfl), Lib.hid (HR.out _)⟩
                case measure => omega
          · have hqe : q = v.length := by omega
            subst hqe
            rw [List.take_length] at HD
            go_wp2_with fail
            go_roundg (u.length - (k + 1))
            case rel => exact ⟨k + 1, d, by omega, by go_num, rfl, Nat.le_refl _, Lib.hid (by rw [HCN.out, HD.out]), HBR⟩
            case measure => omega
      · have hke : k = u.length := by omega
        subst hke
        rw [List.take_length] at HC
        have HB3 := Lib.hid (bel HB.out HBR.out)
        have HLV := Lib.hid (live23.call wr (Tab.later HT.out HBR.out))
        have z0 := isN_zero
        have v0 : vl 0 = 0 := by decide
        have z1 : isN 4607182418800017408 = false := by decide
        have v1 : vl 4607182418800017408 = 4607182418800017408 := by decide
        have hON : ONE = 4607182418800017408 := rfl
        obtain ⟨hx1, hxv, hxo, hxz⟩ := HXV.out
        have hcc := HC.out
        rw [cm_cn] at hcc
        have g0 : 0 ≤ vl x.toNat := by rw [hxv]; omega
        have g1 : vl x.toNat ≤ 4607182418800017408 := by rw [hxv]; omega
        clear hzi hwz0 hzd hze HXV
        by_cases huv : u = v
        · have hx1' := hxo.2 huv
          have q1 : vl x.toNat = 4607182418800017408 := by rw [hxv, hx1', hON]; rfl
          have q3 : ¬ vl x.toNat = 0 := by omega
          have hc : c = true := by rw [hcc, decide_eq_false (fun e => by have := hxz.2 e; omega)]; rfl
          have HSM : Hid (∀ W, Below wr.heap.size wr W → Calls Tryd.prog 23 #[.slice A u.length ca, .slice B v.length cb] W fun e w' => e = .returned (.bool true) ∧ Below wr.heap.size wr w') := Lib.hid fun W h => by
            have := Mg.rsame_gen A B ca cb u v W (by unfold maxLen; omega) (by unfold maxLen; omega) ((HI.out.below HBR.out).below h) ((HJ.out.below HBR.out).below h)
            rw [show decide (u = v) = true from decide_eq_true huv] at this
            exact this.mono fun e w' q => ⟨q.1, bel h q.2⟩
          clear hx1 hxv hxo hxz hcc huv HC HB HT HI HJ HX hON
          subst hc
          go_wp2_with fail
          refine (HLV.out).mono ?_
          rintro e w4 ⟨rfl, hb4⟩
          go_wp2_with fail
          refine (HSM.out w4 hb4).mono ?_
          rintro e w5 ⟨rfl, hb5⟩
          go_wp2_with fail
          go_ret
          exact ⟨rfl, bel HB3.out hb5⟩
        · have q1 : ¬ vl x.toNat = 4607182418800017408 := fun e => huv (hxo.1 (by rw [hxv] at e; omega))
          by_cases hc0 : cn u v = 0
          · have hx0 := hxz.2 hc0
            have q3 : vl x.toNat = 0 := by rw [hxv, hx0]; rfl
            have hc : c = false := by rw [hcc, decide_eq_true hc0]; rfl
            have HSM : Hid (∀ W, Below wr.heap.size wr W → Calls Tryd.prog 23 #[.slice A u.length ca, .slice B v.length cb] W fun e w' => e = .returned (.bool false) ∧ Below wr.heap.size wr w') := Lib.hid fun W h => by
              have := Mg.rsame_gen A B ca cb u v W (by unfold maxLen; omega) (by unfold maxLen; omega) ((HI.out.below HBR.out).below h) ((HJ.out.below HBR.out).below h)
              rw [show decide (u = v) = false from decide_eq_false huv] at this
              exact this.mono fun e w' q => ⟨q.1, bel h q.2⟩
            clear hx1 hxv hxo hxz hcc huv HC HB HT HI HJ HX hON
            subst hc
            go_wp2_with fail
            refine (HLV.out).mono ?_
            rintro e w4 ⟨rfl, hb4⟩
            go_wp2_with fail
            refine (HSM.out w4 hb4).mono ?_
            rintro e w5 ⟨rfl, hb5⟩
            go_wp2_with fail
            go_ret
            exact ⟨rfl, bel HB3.out hb5⟩
          · have q3 : ¬ vl x.toNat = 0 := fun e => hc0 (hxz.1 (by rw [hxv] at e; omega))
            have hc : c = true := by rw [hcc, decide_eq_false hc0]; rfl
            have HSM : Hid (∀ W, Below wr.heap.size wr W → Calls Tryd.prog 23 #[.slice A u.length ca, .slice B v.length cb] W fun e w' => e = .returned (.bool false) ∧ Below wr.heap.size wr w') := Lib.hid fun W h => by
              have := Mg.rsame_gen A B ca cb u v W (by unfold maxLen; omega) (by unfold maxLen; omega) ((HI.out.below HBR.out).below h) ((HJ.out.below HBR.out).below h)
              rw [show decide (u = v) = false from decide_eq_false huv] at this
              exact this.mono fun e w' q => ⟨q.1, bel h q.2⟩
            clear hx1 hxv hxo hxz hcc huv HC HB HT HI HJ HX hON
            subst hc
            go_wp2_with fail
            refine (HLV.out).mono ?_
            rintro e w4 ⟨rfl, hb4⟩
            go_wp2_with fail
            refine (HSM.out w4 hb4).mono ?_
            rintro e w5 ⟨rfl, hb5⟩
            go_wp2_with fail
            go_ret
            exact ⟨rfl, bel HB3.out hb5⟩
theorem rturns_law {A B : Option Addr} {a b : List Ln} {c c' : Nat} (w : World) (hA : LinesIn w A a) (hB : LinesIn w B b) (ha : a.length ≤ maxLen) (hb : b.length ≤ maxLen) (hca : a.length ≤ c) (hcb : b.length ≤ c')
    (hta : ∀ y ∈ a, y.1.length ≤ maxLen) (htb : ∀ y ∈ b, y.1.length ≤ maxLen) (ht : Tab w) :
    Calls Tryd.prog 6 #[.slice A a.length c, .slice B b.length c'] w fun e w' => e = .returned (.bool true) ∧ Below w.heap.size w w' :=
  rturns_walk (u := fw a) (v := fw b) (fw_le a) (fw_le b) (Lib.hid (few_is ha hca)) (Lib.hid (few_is hb hcb)) (fw_in hA) (fw_in hB) (fw_cap hca) (fw_cap hcb) (Lib.hid (lk_is (fw_le a) (fw_le b) (fw_mem hta) (fw_mem htb))) (Lib.hid (lk_is (fw_le b) (fw_le a) (fw_mem htb) (fw_mem hta))) ht
end Go.Proofs.YtfndiggpnkjacaaDoor.Rk
