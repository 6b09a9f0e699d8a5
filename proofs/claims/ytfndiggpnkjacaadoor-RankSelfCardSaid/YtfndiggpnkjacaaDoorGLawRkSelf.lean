/-
  The law RankSelf, walked.
-/
import Derived.Test.YtfndiggpnkjacaaDoorGLawRkAll
import Derived.Test.YtfndiggpnkjacaaDoorGzm
namespace Go.Proofs.YtfndiggpnkjacaaDoor.Rk
set_option linter.unusedVariables false
set_option linter.unusedSimpArgs false
open Go.RowKit
open T
open N (Ln ListsIn)
open Fp (fV isN same same_any ky ONE Rok Rt fl)

/-- The word is one that may stand for how much they are like each other. -/
theorem lks_ok {a t : List Ln} (ha : a.length ≤ 40) (hb : t.length ≤ 40) : Lw a t (lks a t) := by
  have hl := cn_le a t
  have e0 : lks a t = lw (cn a t) a.length t.length := rfl
  by_cases h0 : a.length + t.length = 0
  · have : lks a t = 9221120237041090561 := by rw [e0]; unfold lw; rw [if_pos h0]
    refine ⟨by rw [this]; decide, fun _ => by rw [this]; decide, fun h => absurd h0 h⟩
  · have hk : Rok (cn a t) a.length t.length := ⟨by omega, by omega, by omega, by omega, by omega, by omega, by omega, by omega⟩
    obtain ⟨r, hr, hle⟩ := Fp.share hk
    have e1 : lks a t = r := by
      rw [e0]
      unfold lw
      rw [if_neg h0, show Ieee.double.div (fl (2 * cn a t)) (fl (a.length + t.length)) = some r from hr]
      rfl
    rw [e1]
    refine Lw.of ha hb ⟨(Fp.small_num hle).2.2, fun h => absurd hk h, fun _ => ?_⟩
    simpa using hr
theorem ky_small {r : Nat} (h : r ≤ ONE) : ky r = r := by
  have h1 := Fp.small_num h
  have e : ONE = 4607182418800017408 := rfl
  have e1 : Fp.rg r = r := Nat.mod_eq_of_lt (by omega)
  have e2 : Fp.ng r = false := by
    unfold Fp.ng
    rw [Nat.div_eq_of_lt (by omega)]; rfl
  unfold ky
  rw [h1.1, e2, e1]
  rfl
/-- The first one of those in order. -/
theorem head_of {ws : List UInt64} {xs : List Kx} (h : Rd ws xs) (hp : 0 < ws.length) : ∃ j, ∃ (hj : j < ws.length) (s : List Kx), xs = ((j : Int), ws[j]) :: s ∧ ∀ i (hi : i < ws.length), i ≠ j → lx ((j : Int), ws[j]) ((i : Int), ws[i]) = true := by
  have hl := h.len
  cases xs with
  | nil => simp at hl; omega
  | cons x s =>
    obtain ⟨j, hj, rfl⟩ := nd_mem (h.pe.mem_iff.1 List.mem_cons_self)
    refine ⟨j, hj, s, rfl, fun i hi hne => ?_⟩
    have hm : ((i : Int), ws[i]) ∈ ((j : Int), ws[j]) :: s := h.pe.mem_iff.2 (mem_nd hi)
    rcases List.mem_cons.1 hm with q | q
    · exact absurd (congrArg Prod.fst q) (by simp only; omega)
    · exact (List.pairwise_cons.1 h.so).1 _ q
theorem cw_at {ls : List (List Ln)} {t : List Ln} {j : Nat} (hj : j < (cw ls t).length) (hj' : j < ls.length) (hl : ls[j].length ≤ 40) (ht : t.length ≤ 40) : (cw ls t)[j].toNat = lks ls[j] t := by
  have e : (cw ls t)[j] = UInt64.ofNat (lks ls[j] t) := by simp [cw]
  rw [e, UInt64.toNat_ofNat']
  exact Nat.mod_eq_of_lt (lks_ok hl ht).lt
/-- A text that is among them is the nearest one to itself, or one that is the same ahead of it. -/
theorem near_self {ls : List (List Ln)} (h40 : ∀ l ∈ ls, l.length ≤ 40) {i : Nat} (hi : i < ls.length) (h0 : ls[i].length ≠ 0) : ∃ j, ∃ (hj : j < ls.length), nr (ox ls ls[i]) = ((j : Int), true) ∧ j ≤ i ∧ ls[j] = ls[i] := by
  have hcl : (cw ls ls[i]).length = ls.length := by simp [cw]
  have ht := h40 _ (List.getElem_mem hi)
  obtain ⟨j, hj, s, hx, hall⟩ := head_of (ox_rd ls ls[i]) (by omega)
  have hj' : j < ls.length := by omega
  have hi' : i < (cw ls ls[i]).length := by omega
  have ej := cw_at hj hj' (h40 _ (List.getElem_mem hj')) ht
  have ei := cw_at hi' hi ht ht
  have wj := (lks_ok (h40 _ (List.getElem_mem hj')) ht).num (by omega)
  have wi := (lks_ok ht ht).num (by omega)
  have hio : lks ls[i] ls[i] = ONE := wi.2.2.2.2.1.2 rfl
  have nj : isN (cw ls ls[i])[j].toNat = false := by rw [ej]; exact wj.1
  have ni : isN (cw ls ls[i])[i].toNat = false := by rw [ei]; exact wi.1
  have kj : kz (cw ls ls[i])[j] = -((lks ls[j] ls[i] : Nat) : Int) := by rw [kz_num nj, ej, ky_small wj.2.2.1]
  have ki : kz (cw ls ls[i])[i] = -(ONE : Int) := by rw [kz_num ni, ei, hio, ky_small (Nat.le_refl _)]
  have hle := wj.2.2.1
  refine ⟨j, hj', by rw [hx]; simp [nr, nj], ?_, ?_⟩
  · by_cases e : i = j
    · omega
    · have := hall i hi' e
      simp only [lx, decide_eq_true_eq, kj, ki] at this
      omega
  · by_cases e : i = j
    · subst e; rfl
    · have := hall i hi' e
      simp only [lx, decide_eq_true_eq, kj, ki] at this
      exact wj.2.2.2.2.1.1 (by omega)
/-- What is nearest to no line at all has lines. -/
theorem near_none {ls : List (List Ln)} (h40 : ∀ l ∈ ls, l.length ≤ 40) {i : Nat} (hi : i < ls.length) (h0 : ls[i].length = 0) : (nr (ox ls ls[i])).2 = false ∨ ∃ j, ∃ (hj : j < ls.length), nr (ox ls ls[i]) = ((j : Int), true) ∧ ls[j].length ≠ 0 := by
  have hcl : (cw ls ls[i]).length = ls.length := by simp [cw]
  have ht := h40 _ (List.getElem_mem hi)
  obtain ⟨j, hj, s, hx, hall⟩ := head_of (ox_rd ls ls[i]) (by omega)
  have hj' : j < ls.length := by omega
  have ej := cw_at hj hj' (h40 _ (List.getElem_mem hj')) ht
  rw [hx]
  by_cases e : ls[j].length = 0
  · have hn := (lks_ok (h40 _ (List.getElem_mem hj')) ht).nan (by omega)
    left
    simp [nr, ej, hn]
  · right
    have hn := ((lks_ok (h40 _ (List.getElem_mem hj')) ht).num (by omega)).1
    exact ⟨j, hj', by simp [nr, ej, hn], e⟩
set_option maxRecDepth 100000 in
set_option maxHeartbeats 4000000 in
theorem rself_law {A : Option Addr} {ls : List (List Ln)} {x c : Nat} (w : World) (hX : Tx w A ls) (hx : x < 256) (ht : Tab w) :
    Calls Tryd.prog 7 #[.slice A ls.length c, .int .u8 (x : Int)] w fun e w' => e = .returned (.bool true) ∧ Below w.heap.size w w' := by
  have HTX := Lib.hid (texts_any A ls c w hX.i hX.l hX.n)
  have h8 := tx_le ls
  have HT0 := Lib.hid ht
  have H40 : Hid (∀ l ∈ tx ls, l.length ≤ 40) := Lib.hid fun l hl => by
    obtain ⟨m, -, rfl⟩ := tx_mem hl
    exact fw_le m
  have HLKA : Hid (∀ t ∈ tx ls, ∀ l ∈ tx ls, LkC 14 l t) := Lib.hid fun t htt => by
    obtain ⟨m, hm, rfl⟩ := tx_mem htt
    exact hX.lk (fw_le m) (fw_mem (hX.t m hm))
  clear hX ht
  generalize tx ls = ts at *
  obtain ⟨n, hn⟩ : ∃ n, n = ts.length := ⟨_, rfl⟩
  rw [← hn] at HTX h8
  have HN := Lib.hid hn
  clear hn
  go_enter Tryd.func7, Tryd.ntmps7
  go_wp2_with fail
  refine (HTX.out).mono ?_
  rintro e w1 ⟨D, cap, rfl, hD, hcap, hb1⟩
  have HT := Lib.hid (Tab.later HT0.out hb1)
  have HB := Lib.hid hb1
  by_cases hn0 : n = 0
  · subst hn0
    have HLV := Lib.hid (live23.call w1 HT.out)
    clear HTX HT HLKA H40
    go_wp2_with fail
    refine (HLV.out).mono ?_
    rintro e w2 ⟨rfl, hb2⟩
    go_wp2_with fail
    go_ret
    exact ⟨rfl, bel HB.out hb2⟩
  obtain ⟨i, hi⟩ : ∃ i, i = x % n := ⟨_, rfl⟩
  have hin : i < n := by rw [hi]; exact Nat.mod_lt _ (by omega)
  have hrm : Int.tmod (x : Int) (n : Int) = (i : Int) := by rw [hi, Int.tmod_eq_emod_of_nonneg (by omega)]; omega
  have hni : ¬ (n : Int) = 0 := by omega
  have hit : i < ts.length := by rw [← HN.out]; exact hin
  obtain ⟨bk, off, hDe, hbk, hat⟩ := hD (by omega)
  subst hDe
  obtain ⟨TI, ci, ei, hTI, hci⟩ := hat i hit
  have hiz : (0 : Int) ≤ (i : Int) := by omega
  have hil : (i : Int) < (n : Int) := by omega
  have HNR : Hid (Calls Tryd.prog 18 #[.slice (some ⟨bk, off, none⟩) n cap, .slice TI (ts[i]'hit).length ci] w1 fun e w' => e = .returned (.tuple #[.int .i64 (nr (ox ts (ts[i]'hit))).1, .bool (nr (ox ts (ts[i]'hit))).2]) ∧ Below w1.heap.size w1 w') := Lib.hid (by
    have := nearest_any (some ⟨bk, off, none⟩) TI ts (ts[i]'hit) cap ci w1 hD hTI (by rw [← HN.out]; exact h8) hci (HLKA.out _ (List.getElem_mem hit))
    rw [← HN.out] at this
    exact this)
  have hwi : IntKind.i64.wrap (i : Int) = (i : Int) := by rw [IntKind.wrap_i64]; omega
  have HI0 := Lib.hid hi
  clear hi HTX HLKA
  go_wp2_with fail
  refine (HNR.out).mono ?_
  rintro e w2 ⟨rfl, hb2⟩
  have HB2 := Lib.hid (bel HB.out hb2)
  have HT2 := Lib.hid (Tab.later HT.out hb2)
  have di := (hb2.cell (p := ⟨bk, off + i, none⟩) hbk).trans ei
  clear HNR hrm HI0
  by_cases h0 : (ts[i]'hit).length = 0
  · have h0i : (((ts[i]'hit).length : Nat) : Int) = 0 := by omega
    have HLV := Lib.hid (live23.call w2 HT2.out)
    rcases near_none H40.out hit h0 with hr | ⟨j, hj, hr, hjl⟩
    · rcases hrr : nr (ox ts (ts[i]'hit)) with ⟨r1, r2⟩
      rw [hrr] at hr
      simp only at hr
      subst hr
      obtain ⟨q, hq⟩ : ∃ q, q = (ts[i]'hit).length := ⟨_, rfl⟩
      rw [← hq] at h0 h0i di
      simp only [hrr]
      clear hrr hat ei hTI hci hq hD
      subst h0
      go_wp2_with fail
      refine (HLV.out).mono ?_
      rintro e w3 ⟨rfl, hb3⟩
      go_wp2_with fail
      go_ret
      exact ⟨rfl, bel HB2.out hb3⟩
    · obtain ⟨TJ, cj, ej, hTJ, hcj⟩ := hat j hj
      have dj := (hb2.cell (p := ⟨bk, off + j, none⟩) hbk).trans ej
      have hjz : (0 : Int) ≤ (j : Int) := by omega
      have hjn : (j : Int) < (n : Int) := by have := HN.out; omega
      rw [hr]
      obtain ⟨q, hq⟩ : ∃ q, q = (ts[i]'hit).length := ⟨_, rfl⟩
      rw [← hq] at h0 h0i di
      obtain ⟨p, hp⟩ : ∃ p, p = (ts[j]'hj).length := ⟨_, rfl⟩
      rw [← hp] at hjl dj
      have hpz : (0 : Int) < (p : Int) := by omega
      have hpn : 0 < p := by omega
      have hpd : decide (0 < p) = true := decide_eq_true hpn
      have hbk2 := Nat.lt_of_lt_of_le hbk hb2.size
      clear hr hat ei ej hTI hTJ hci hcj hq hp hD
      subst h0
      go_wp2_with fail
      refine (HLV.out).mono ?_
      rintro e w3 ⟨rfl, hb3⟩
      have fj := (hb3.cell (p := ⟨bk, off + j, none⟩) hbk2).trans dj
      clear dj di
      go_wp2_with fail
      go_ret
      exact ⟨rfl, bel HB2.out hb3⟩
  · obtain ⟨j, hj, hr, hji, hje⟩ := near_self H40.out hit h0
    obtain ⟨TJ, cj, ej, hTJ, hcj⟩ := hat j hj
    have hjz : (0 : Int) ≤ (j : Int) := by omega
    have hjn : (j : Int) < (n : Int) := by have := HN.out; omega
    have hjii : (j : Int) ≤ (i : Int) := by omega
    have hti := H40.out _ (List.getElem_mem hit)
    rw [hr]
    rw [hje] at ej hTJ
    have HLJ := Lib.hid (hTJ.below hb2)
    have HLI := Lib.hid (hTI.below hb2)
    have HCJ := Lib.hid ((hb2.cell (p := ⟨bk, off + j, none⟩) hbk).trans ej)
    have HCI := Lib.hid di
    have HBK := Lib.hid (Nat.lt_of_lt_of_le hbk hb2.size)
    obtain ⟨t, htt⟩ : ∃ t, t = ts[i]'hit := ⟨_, rfl⟩
    rw [← htt] at h0 di HLJ HLI HCJ HCI hti
    have HSM : Hid (∀ (W : World) (A B : Option Addr) (c c' : Nat), LinesIn W A t → LinesIn W B t → Calls Tryd.prog 23 #[.slice A t.length c, .slice B t.length c'] W fun e w' => e = .returned (.bool true) ∧ Below W.heap.size W w') := Lib.hid fun W A B c c' h1 h2 => by
      have := Mg.rsame_gen A B c c' t t W (by unfold maxLen; omega) (by unfold maxLen; omega) h1 h2
      rw [decide_eq_true rfl] at this
      exact this
    have h0i : ¬ ((t.length : Nat) : Int) = 0 := by omega
    clear HB HT hr hat ei ej hTI hTJ hci hcj htt hje hD hb2
    have HB := HB2
    have HT := HT2
    clear HB2 HT2 HT0
    go_upto_region 8 with fail
    clear di
    refine wp_region_held_drew (S := (Keeps w2)) (by kernel_rfl) (keeps_drew _) (fun hH0 => ?_)
    refine wpAnyH_ready (rs := [0]) (by kernel_rfl) (by simp) ?_
    refine AllReadyH.cons (o := { dst := some 57, op := Go.Op.call { callee := Go.Callee.value (Go.Operand.func 10), args := #[], argTypes := #[] }, type := 4, pos := "law.go:82", after := #[], guard := none }) rfl (fun K hK => ?_) AllReadyH.nil
    go_simp
    with_reducible refine (live23.call _ (HT.out.later hH0.b)).mono ?_
    rintro r wq1 ⟨rfl, hbq⟩
    go_wp2_with fail
    refine hK.out _ _ (Keeps.trans hH0 hbq) (fun hJ => ?_)
    refine wpAnyH_more (S' := Keeps wq1) (fun z hz => Keeps.trans hJ hz) _ _ _ _ ?_
    replace HB := Lib.hid (HB.out.trans (Below.mono hJ HB.out.size))
    replace HT := Lib.hid (HT.out.later hJ)
    replace HLJ := Lib.hid (HLJ.out.below hJ)
    replace HLI := Lib.hid (HLI.out.below hJ)
    replace HCJ := Lib.hid ((Below.cell hJ (p := ⟨bk, off + j, none⟩) HBK.out).trans HCJ.out)
    replace HCI := Lib.hid ((Below.cell hJ (p := ⟨bk, off + i, none⟩) HBK.out).trans HCI.out)
    replace HBK := Lib.hid (Nat.lt_of_lt_of_le HBK.out (Below.size hJ))
    have hH1 : Keeps wq1 wq1 := Below.refl _ _
    clear hK K hbq hH0 hJ
    refine wpAnyH_take (i := 1) (oi := { dst := some 58, op := Go.Op.move (Go.Operand.tmp 57), type := 4, pos := "law.go:82", after := #[{ on := 0, ground := Go.Ground.data }, { on := 0, ground := Go.Ground.chain }], guard := none }) (v := ?_) rfl (by kernel_rfl) (by kernel_rfl) (by kernel_rfl) (fun _ _ _ h => h) (Or.inl ⟨by rfl, ?_⟩) hH1 ?_
    rotate_left
    · (intro wz hSz; (try dsimp only at hSz); go_simp; try with_reducible rfl)
    simp only [Act.put, List.setIfInBounds_toArray, List.set_cons_zero, List.set_cons_succ]
    refine wpAnyH_take (i := 2) (oi := { dst := some 59, op := Go.Op.move (Go.Operand.tmp 7), type := 4, pos := "law.go:82", after := #[{ on := 1, ground := Go.Ground.guard }], guard := some (1, true) }) (v := ?_) rfl (by kernel_rfl) (by kernel_rfl) (by kernel_rfl) (fun _ _ _ h => h) (Or.inl ⟨by rfl, ?_⟩) hH1 ?_
    rotate_left
    · (intro wz hSz; (try dsimp only at hSz); go_simp; try with_reducible rfl)
    simp only [Act.put, List.setIfInBounds_toArray, List.set_cons_zero, List.set_cons_succ]
    refine wpAnyH_take (i := 3) (oi := { dst := some 60, op := Go.Op.pick (Go.Operand.tmp 58) (Go.Operand.tmp 59) (Go.Operand.const (Go.Value.bool false)), type := 4, pos := "law.go:82", after := #[{ on := 1, ground := Go.Ground.data }, { on := 2, ground := Go.Ground.data }], guard := none }) (v := ?_) rfl (by kernel_rfl) (by kernel_rfl) (by kernel_rfl) (fun _ _ _ h => h) (Or.inl ⟨by rfl, ?_⟩) hH1 ?_
    rotate_left
    · (intro wz hSz; (try dsimp only at hSz); go_simp; try with_reducible rfl)
    simp only [Act.put, List.setIfInBounds_toArray, List.set_cons_zero, List.set_cons_succ]
    refine wpAnyH_take (i := 4) (oi := { dst := some 61, op := Go.Op.move (Go.Operand.tmp 60), type := 4, pos := "law.go:82", after := #[{ on := 3, ground := Go.Ground.data }, { on := 1, ground := Go.Ground.chain }], guard := none }) (v := ?_) rfl (by kernel_rfl) (by kernel_rfl) (by kernel_rfl) (fun _ _ _ h => h) (Or.inl ⟨by rfl, ?_⟩) hH1 ?_
    rotate_left
    · (intro wz hSz; (try dsimp only at hSz); go_simp; try with_reducible rfl)
    simp only [Act.put, List.setIfInBounds_toArray, List.set_cons_zero, List.set_cons_succ]
    refine wpAnyH_take (i := 5) (oi := { dst := some 62, op := Go.Op.move (Go.Operand.tmp 6), type := 3, pos := "law.go:82", after := #[{ on := 4, ground := Go.Ground.guard }], guard := some (4, true) }) (v := ?_) rfl (by kernel_rfl) (by kernel_rfl) (by kernel_rfl) (fun _ _ _ h => h) (Or.inl ⟨by rfl, ?_⟩) hH1 ?_
    rotate_left
    · (intro wz hSz; (try dsimp only at hSz); go_simp; try with_reducible rfl)
    simp only [Act.put, List.setIfInBounds_toArray, List.set_cons_zero, List.set_cons_succ]
    refine wpAnyH_take (i := 6) (oi := { dst := some 63, op := Go.Op.binOp Go.BinOp.geq 3 (Go.Operand.tmp 62) (Go.Operand.const (Go.Value.int Go.IntKind.i64 0)) 3, type := 4, pos := "law.go:82", after := #[{ on := 5, ground := Go.Ground.data }, { on := 4, ground := Go.Ground.guard }], guard := some (4, true) }) (v := ?_) rfl (by kernel_rfl) (by kernel_rfl) (by kernel_rfl) (fun _ _ _ h => h) (Or.inl ⟨by rfl, ?_⟩) hH1 ?_
    rotate_left
    · (intro wz hSz; (try dsimp only at hSz); go_simp; try with_reducible rfl)
    simp only [Act.put, List.setIfInBounds_toArray, List.set_cons_zero, List.set_cons_succ]
    refine wpAnyH_take (i := 7) (oi := { dst := some 64, op := Go.Op.pick (Go.Operand.tmp 61) (Go.Operand.tmp 63) (Go.Operand.const (Go.Value.bool false)), type := 4, pos := "law.go:82", after := #[{ on := 4, ground := Go.Ground.data }, { on := 6, ground := Go.Ground.data }], guard := none }) (v := ?_) rfl (by kernel_rfl) (by kernel_rfl) (by kernel_rfl) (fun _ _ _ h => h) (Or.inl ⟨by rfl, ?_⟩) hH1 ?_
    rotate_left
    · (intro wz hSz; (try dsimp only at hSz); go_simp; try with_reducible rfl)
    simp only [Act.put, List.setIfInBounds_toArray, List.set_cons_zero, List.set_cons_succ]
    refine wpAnyH_take (i := 8) (oi := { dst := some 65, op := Go.Op.move (Go.Operand.tmp 64), type := 4, pos := "law.go:82", after := #[{ on := 7, ground := Go.Ground.data }, { on := 4, ground := Go.Ground.chain }], guard := none }) (v := ?_) rfl (by kernel_rfl) (by kernel_rfl) (by kernel_rfl) (fun _ _ _ h => h) (Or.inl ⟨by rfl, ?_⟩) hH1 ?_
    rotate_left
    · (intro wz hSz; (try dsimp only at hSz); go_simp; try with_reducible rfl)
    simp only [Act.put, List.setIfInBounds_toArray, List.set_cons_zero, List.set_cons_succ]
    refine wpAnyH_take (i := 9) (oi := { dst := some 66, op := Go.Op.move (Go.Operand.tmp 6), type := 3, pos := "law.go:82", after := #[{ on := 8, ground := Go.Ground.guard }], guard := some (8, true) }) (v := ?_) rfl (by kernel_rfl) (by kernel_rfl) (by kernel_rfl) (fun _ _ _ h => h) (Or.inl ⟨by rfl, ?_⟩) hH1 ?_
    rotate_left
    · (intro wz hSz; (try dsimp only at hSz); go_simp; try with_reducible rfl)
    simp only [Act.put, List.setIfInBounds_toArray, List.set_cons_zero, List.set_cons_succ]
    refine wpAnyH_take (i := 10) (oi := { dst := some 67, op := Go.Op.move (Go.Operand.tmp 5), type := 3, pos := "law.go:82", after := #[{ on := 8, ground := Go.Ground.guard }], guard := some (8, true) }) (v := ?_) rfl (by kernel_rfl) (by kernel_rfl) (by kernel_rfl) (fun _ _ _ h => h) (Or.inl ⟨by rfl, ?_⟩) hH1 ?_
    rotate_left
    · (intro wz hSz; (try dsimp only at hSz); go_simp; try with_reducible rfl)
    simp only [Act.put, List.setIfInBounds_toArray, List.set_cons_zero, List.set_cons_succ]
    refine wpAnyH_take (i := 11) (oi := { dst := some 68, op := Go.Op.binOp Go.BinOp.leq 3 (Go.Operand.tmp 66) (Go.Operand.tmp 67) 3, type := 4, pos := "law.go:82", after := #[{ on := 9, ground := Go.Ground.data }, { on := 10, ground := Go.Ground.data }, { on := 8, ground := Go.Ground.guard }], guard := some (8, true) }) (v := ?_) rfl (by kernel_rfl) (by kernel_rfl) (by kernel_rfl) (fun _ _ _ h => h) (Or.inl ⟨by rfl, ?_⟩) hH1 ?_
    rotate_left
    · (intro wz hSz; (try dsimp only at hSz); go_simp; try with_reducible rfl)
    simp only [Act.put, List.setIfInBounds_toArray, List.set_cons_zero, List.set_cons_succ]
    refine wpAnyH_take (i := 12) (oi := { dst := some 69, op := Go.Op.pick (Go.Operand.tmp 65) (Go.Operand.tmp 68) (Go.Operand.const (Go.Value.bool false)), type := 4, pos := "law.go:82", after := #[{ on := 8, ground := Go.Ground.data }, { on := 11, ground := Go.Ground.data }], guard := none }) (v := ?_) rfl (by kernel_rfl) (by kernel_rfl) (by kernel_rfl) (fun _ _ _ h => h) (Or.inl ⟨by rfl, ?_⟩) hH1 ?_
    rotate_left
    · (intro wz hSz; (try dsimp only at hSz); go_simp; try with_reducible rfl)
    simp only [Act.put, List.setIfInBounds_toArray, List.set_cons_zero, List.set_cons_succ]
    refine wpAnyH_take (i := 13) (oi := { dst := some 70, op := Go.Op.move (Go.Operand.tmp 69), type := 4, pos := "law.go:82", after := #[{ on := 12, ground := Go.Ground.data }, { on := 8, ground := Go.Ground.chain }], guard := none }) (v := ?_) rfl (by kernel_rfl) (by kernel_rfl) (by kernel_rfl) (fun _ _ _ h => h) (Or.inl ⟨by rfl, ?_⟩) hH1 ?_
    rotate_left
    · (intro wz hSz; (try dsimp only at hSz); go_simp; try with_reducible rfl)
    simp only [Act.put, List.setIfInBounds_toArray, List.set_cons_zero, List.set_cons_succ]
    refine wpAnyH_take (i := 14) (oi := { dst := some 71, op := Go.Op.move (Go.Operand.tmp 0), type := 30, pos := "law.go:82", after := #[{ on := 13, ground := Go.Ground.guard }], guard := some (13, true) }) (v := ?_) rfl (by kernel_rfl) (by kernel_rfl) (by kernel_rfl) (fun _ _ _ h => h) (Or.inl ⟨by rfl, ?_⟩) hH1 ?_
    rotate_left
    · (intro wz hSz; (try dsimp only at hSz); go_simp; try with_reducible rfl)
    simp only [Act.put, List.setIfInBounds_toArray, List.set_cons_zero, List.set_cons_succ]
    refine wpAnyH_take (i := 15) (oi := { dst := some 72, op := Go.Op.move (Go.Operand.tmp 6), type := 3, pos := "law.go:82", after := #[{ on := 13, ground := Go.Ground.guard }], guard := some (13, true) }) (v := ?_) rfl (by kernel_rfl) (by kernel_rfl) (by kernel_rfl) (fun _ _ _ h => h) (Or.inl ⟨by rfl, ?_⟩) hH1 ?_
    rotate_left
    · (intro wz hSz; (try dsimp only at hSz); go_simp; try with_reducible rfl)
    simp only [Act.put, List.setIfInBounds_toArray, List.set_cons_zero, List.set_cons_succ]
    refine wpAnyH_take (i := 16) (oi := { dst := some 73, op := Go.Op.indexAddr 30 (Go.Operand.tmp 71) (Go.Operand.tmp 72), type := 0, pos := "law.go:82", after := #[{ on := 14, ground := Go.Ground.data }, { on := 15, ground := Go.Ground.data }, { on := 13, ground := Go.Ground.guard }], guard := some (13, true) }) (v := ?_) rfl (by kernel_rfl) (by kernel_rfl) (by kernel_rfl) (fun _ _ _ h => h) (Or.inl ⟨by rfl, ?_⟩) hH1 ?_
    rotate_left
    · (intro wz hSz; (try dsimp only at hSz); go_simp; try with_reducible rfl)
    simp only [Act.put, List.setIfInBounds_toArray, List.set_cons_zero, List.set_cons_succ]
    refine wpAnyH_take (i := 17) (oi := { dst := some 74, op := Go.Op.load 22 (Go.Operand.tmp 73), type := 22, pos := "law.go:82", after := #[{ on := 16, ground := Go.Ground.data }, { on := 13, ground := Go.Ground.guard }], guard := some (13, true) }) (v := ?_) rfl (by kernel_rfl) (by kernel_rfl) (by kernel_rfl) (fun _ _ _ h => h) (Or.inl ⟨by rfl, ?_⟩) hH1 ?_
    rotate_left
    · (intro wz hSz; have hcz := (Below.cell hSz (p := ⟨bk, off + j, none⟩) HBK.out).trans HCJ.out; go_simp; try with_reducible rfl)
    simp only [Act.put, List.setIfInBounds_toArray, List.set_cons_zero, List.set_cons_succ]
    refine wpAnyH_take (i := 18) (oi := { dst := some 75, op := Go.Op.move (Go.Operand.tmp 0), type := 30, pos := "law.go:82", after := #[{ on := 13, ground := Go.Ground.guard }], guard := some (13, true) }) (v := ?_) rfl (by kernel_rfl) (by kernel_rfl) (by kernel_rfl) (fun _ _ _ h => h) (Or.inl ⟨by rfl, ?_⟩) hH1 ?_
    rotate_left
    · (intro wz hSz; (try dsimp only at hSz); go_simp; try with_reducible rfl)
    simp only [Act.put, List.setIfInBounds_toArray, List.set_cons_zero, List.set_cons_succ]
    refine wpAnyH_take (i := 19) (oi := { dst := some 76, op := Go.Op.move (Go.Operand.tmp 5), type := 3, pos := "law.go:82", after := #[{ on := 13, ground := Go.Ground.guard }], guard := some (13, true) }) (v := ?_) rfl (by kernel_rfl) (by kernel_rfl) (by kernel_rfl) (fun _ _ _ h => h) (Or.inl ⟨by rfl, ?_⟩) hH1 ?_
    rotate_left
    · (intro wz hSz; (try dsimp only at hSz); go_simp; try with_reducible rfl)
    simp only [Act.put, List.setIfInBounds_toArray, List.set_cons_zero, List.set_cons_succ]
    refine wpAnyH_take (i := 20) (oi := { dst := some 77, op := Go.Op.indexAddr 30 (Go.Operand.tmp 75) (Go.Operand.tmp 76), type := 0, pos := "law.go:82", after := #[{ on := 18, ground := Go.Ground.data }, { on := 19, ground := Go.Ground.data }, { on := 13, ground := Go.Ground.guard }], guard := some (13, true) }) (v := ?_) rfl (by kernel_rfl) (by kernel_rfl) (by kernel_rfl) (fun _ _ _ h => h) (Or.inl ⟨by rfl, ?_⟩) hH1 ?_
    rotate_left
    · (intro wz hSz; (try dsimp only at hSz); go_simp; try with_reducible rfl)
    simp only [Act.put, List.setIfInBounds_toArray, List.set_cons_zero, List.set_cons_succ]
    refine wpAnyH_take (i := 21) (oi := { dst := some 78, op := Go.Op.load 22 (Go.Operand.tmp 77), type := 22, pos := "law.go:82", after := #[{ on := 20, ground := Go.Ground.data }, { on := 13, ground := Go.Ground.guard }], guard := some (13, true) }) (v := ?_) rfl (by kernel_rfl) (by kernel_rfl) (by kernel_rfl) (fun _ _ _ h => h) (Or.inl ⟨by rfl, ?_⟩) hH1 ?_
    rotate_left
    · (intro wz hSz; have hcz := (Below.cell hSz (p := ⟨bk, off + i, none⟩) HBK.out).trans HCI.out; go_simp; try with_reducible rfl)
    simp only [Act.put, List.setIfInBounds_toArray, List.set_cons_zero, List.set_cons_succ]
    refine wpAnyH_ready (rs := [22]) (by kernel_rfl) (by simp) ?_
    refine AllReadyH.cons (o := { dst := some 79, op := Go.Op.call { callee := Go.Callee.value (Go.Operand.func 23), args := #[Go.Operand.tmp 74, Go.Operand.tmp 78], argTypes := #[22, 22] }, type := 4, pos := "law.go:82", after := #[{ on := 17, ground := Go.Ground.data }, { on := 21, ground := Go.Ground.data }, { on := 13, ground := Go.Ground.chain }, { on := 13, ground := Go.Ground.guard }], guard := some (13, true) }) rfl (fun K hK => ?_) AllReadyH.nil
    go_simp
    with_reducible refine (HSM.out _ _ _ _ _ (HLJ.out.below hH1.b) (HLI.out.below hH1.b)).mono ?_
    rintro r wq2 ⟨rfl, hbq⟩
    go_wp2_with fail
    refine hK.out _ _ (Keeps.trans hH1 hbq) (fun hJ => ?_)
    refine wpAnyH_more (S' := Keeps wq2) (fun z hz => Keeps.trans hJ hz) _ _ _ _ ?_
    replace HB := Lib.hid (HB.out.trans (Below.mono hJ HB.out.size))
    replace HT := Lib.hid (HT.out.later hJ)
    replace HLJ := Lib.hid (HLJ.out.below hJ)
    replace HLI := Lib.hid (HLI.out.below hJ)
    replace HCJ := Lib.hid ((Below.cell hJ (p := ⟨bk, off + j, none⟩) HBK.out).trans HCJ.out)
    replace HCI := Lib.hid ((Below.cell hJ (p := ⟨bk, off + i, none⟩) HBK.out).trans HCI.out)
    replace HBK := Lib.hid (Nat.lt_of_lt_of_le HBK.out (Below.size hJ))
    have hH2 : Keeps wq2 wq2 := Below.refl _ _
    clear hK K hbq hH1 hJ
    refine wpAnyH_take (i := 23) (oi := { dst := some 80, op := Go.Op.pick (Go.Operand.tmp 70) (Go.Operand.tmp 79) (Go.Operand.const (Go.Value.bool false)), type := 4, pos := "law.go:82", after := #[{ on := 13, ground := Go.Ground.data }, { on := 22, ground := Go.Ground.data }], guard := none }) (v := ?_) rfl (by kernel_rfl) (by kernel_rfl) (by kernel_rfl) (fun _ _ _ h => h) (Or.inl ⟨by rfl, ?_⟩) hH2 ?_
    rotate_left
    · (intro wz hSz; (try dsimp only at hSz); go_simp; try with_reducible rfl)
    simp only [Act.put, List.setIfInBounds_toArray, List.set_cons_zero, List.set_cons_succ]
    refine wpAnyH_take (i := 24) (oi := { dst := some 4, op := Go.Op.assign (Go.Operand.tmp 80), type := 4, pos := "law.go:82", after := #[{ on := 23, ground := Go.Ground.data }, { on := 22, ground := Go.Ground.chain }, { on := 0, ground := Go.Ground.phase }, { on := 1, ground := Go.Ground.phase }, { on := 2, ground := Go.Ground.phase }, { on := 3, ground := Go.Ground.phase }, { on := 4, ground := Go.Ground.phase }, { on := 5, ground := Go.Ground.phase }, { on := 6, ground := Go.Ground.phase }, { on := 7, ground := Go.Ground.phase }, { on := 8, ground := Go.Ground.phase }, { on := 9, ground := Go.Ground.phase }, { on := 10, ground := Go.Ground.phase }, { on := 11, ground := Go.Ground.phase }, { on := 12, ground := Go.Ground.phase }, { on := 13, ground := Go.Ground.phase }, { on := 14, ground := Go.Ground.phase }, { on := 15, ground := Go.Ground.phase }, { on := 16, ground := Go.Ground.phase }, { on := 17, ground := Go.Ground.phase }, { on := 18, ground := Go.Ground.phase }, { on := 19, ground := Go.Ground.phase }, { on := 20, ground := Go.Ground.phase }, { on := 21, ground := Go.Ground.phase }, { on := 22, ground := Go.Ground.phase }, { on := 23, ground := Go.Ground.phase }], guard := none }) (v := ?_) rfl (by kernel_rfl) (by kernel_rfl) (by kernel_rfl) (fun _ _ _ h => h) (Or.inl ⟨by rfl, ?_⟩) hH2 ?_
    rotate_left
    · (intro wz hSz; (try dsimp only at hSz); go_simp; try with_reducible rfl)
    simp only [Act.put, List.setIfInBounds_toArray, List.set_cons_zero, List.set_cons_succ]
    refine wpAnyH_done (by kernel_rfl) ?_ _
    go_wp2_with fail
    go_ret
    exact ⟨rfl, HB.out⟩
end Go.Proofs.YtfndiggpnkjacaaDoor.Rk
