/-
  The law RankCounts, walked.
-/
import Derived.Test.YtfndiggpnkjacaaDoorGLawRkAll
import Derived.BigQuiet
namespace Go.Proofs.YtfndiggpnkjacaaDoor.Rk
set_option linter.unusedVariables false
set_option linter.unusedSimpArgs false
open Go.RowKit
open T
open V (drawn_below)
open I (alloc1)
open N (Ln ListsIn)
open Fp (fV isN same same_any ky vl)

/-- How often each place has been told. -/
def zc (xs : List Kx) (n k : Nat) : List Int := (List.range n).map fun i : Nat => (((xs.take k).map (·.1)).count (i : Int) : Int)
theorem zc_len (xs : List Kx) (n k : Nat) : (zc xs n k).length = n := by simp [zc]
theorem zc_at (xs : List Kx) (n k i : Nat) (h : i < (zc xs n k).length) : (zc xs n k)[i] = (((xs.take k).map (·.1)).count (i : Int) : Int) := by simp [zc]
theorem zc_zero (xs : List Kx) (n : Nat) : zc xs n 0 = List.replicate n 0 := by
  refine List.ext_getElem (by simp [zc_len]) fun i h1 h2 => ?_
  rw [zc_at]
  simp
theorem zc_step {xs : List Kx} {n k j : Nat} (hk : k < xs.length) (hj : xs[k].1 = (j : Int)) (hjn : j < (zc xs n k).length) : zc xs n (k + 1) = (zc xs n k).set j ((zc xs n k)[j] + 1) := by
  refine List.ext_getElem (by simp [zc_len]) fun i h1 h2 => ?_
  rw [zc_at, List.getElem_set, List.take_succ_eq_append_getElem hk, List.map_append, List.count_append]
  simp only [List.map_cons, List.map_nil, hj]
  by_cases e : j = i
  · subst e
    rw [if_pos rfl, zc_at]
    simp
  · rw [if_neg e, zc_at, List.count_cons_of_ne (by omega)]
    simp
theorem zc_small (xs : List Kx) (n k i : Nat) (h : i < (zc xs n k).length) : 0 ≤ (zc xs n k)[i] ∧ (zc xs n k)[i] ≤ xs.length := by
  rw [zc_at]
  have : ((xs.take k).map (·.1)).count (i : Int) ≤ xs.length := by
    refine Nat.le_trans List.count_le_length ?_
    rw [List.length_map, List.length_take]
    omega
  omega
theorem zc_one {ws : List UInt64} {xs : List Kx} (h : Rd ws xs) {n : Nat} (hn : ws.length = n) (i : Nat) (hi : i < (zc xs n xs.length).length) : (zc xs n xs.length)[i] = 1 := by
  rw [zc_at, List.take_length]
  have hp : (xs.map (·.1)).Perm ((nd ws).map (·.1)) := h.pe.map _
  rw [hp.count_eq]
  rw [zc_len] at hi
  have hm : (i : Int) ∈ (nd ws).map (·.1) := by
    rw [List.mem_map]
    exact ⟨_, mem_nd (i := i) (by omega), rfl⟩
  rw [List.Nodup.count (nd_nodup ws), if_pos hm]
  rfl
/-- A likeness told is that of its text. -/
theorem rd_at {ls : List (List Ln)} {t : List Ln} {ws : List UInt64} {xs : List Kx} (hl : ws.length = ls.length) (hw : Ws ls t ws) (h : Rd ws xs) {k : Nat} (hk : k < xs.length) : ∃ j, ∃ (hj : j < ls.length), xs[k].1 = (j : Int) ∧ Lw ls[j] t xs[k].2.toNat := by
  obtain ⟨j, hj, e⟩ := nd_mem (h.pe.mem_iff.1 (List.getElem_mem hk))
  rw [e]
  exact ⟨j, by omega, rfl, hw j hj (by omega)⟩
/-- None is told ahead of one that is more like. -/
theorem rd_order {ws : List UInt64} {xs : List Kx} (h : Rd ws xs) {k : Nat} (hk : k + 1 < xs.length) : kz (xs[k]'(by omega)).2 ≤ kz xs[k + 1].2 := by
  have := List.pairwise_iff_getElem.1 h.so k (k + 1) (by omega) hk (by omega)
  simp only [lx, decide_eq_true_eq] at this
  omega
set_option maxRecDepth 100000 in
set_option maxHeartbeats 8000000 in
theorem rcounts_law {A B : Option Addr} {ls : List (List Ln)} {t : List Ln} {c c' : Nat} (w : World) (hX : Tx w A ls) (hB : LinesIn w B t) (htn : t.length ≤ maxLen) (hcb : t.length ≤ c') (htl : ∀ y ∈ t, y.1.length ≤ maxLen) (ht : Tab w) :
    Calls Tryd.prog 8 #[.slice A ls.length c, .slice B t.length c'] w fun e w' => e = .returned (.bool true) ∧ Below w.heap.size w w' := by
  have HTX := Lib.hid (texts_any A ls c w hX.i hX.l hX.n)
  have HF := Lib.hid (few_is (A := B) htn hcb)
  have HLK := Lib.hid (hX.lk (fw_le t) (fw_mem htl))
  have HIB := Lib.hid (fw_in hB)
  have hcu : (fw t).length ≤ c' := fw_cap hcb
  have h8 := tx_le ls
  have HT := Lib.hid ht
  clear hX hB htn hcb htl ht
  generalize tx ls = ts at *
  generalize fw t = u at *
  obtain ⟨n, hn⟩ : ∃ n, n = ts.length := ⟨_, rfl⟩
  rw [← hn] at HTX h8
  have HN := Lib.hid hn
  have hmk := run_make_row' (P := Tryd.prog) 46 3 (.int .i64 0) 8 Tryd.underlying46 M.infoI rfl .i64 .i64 n (by omega) (by omega)
  clear hn
  go_enter Tryd.func8, Tryd.ntmps8
  go_wp2_with fail
  refine (HTX.out).mono ?_
  rintro e w1 ⟨D, cap, rfl, hD, hcap, hb1⟩
  go_wp2_with fail
  refine (HF.out _).mono ?_
  rintro e wz ⟨rfl, hwz⟩
  rw [hwz]
  clear hwz
  have HRA : Hid (Calls Tryd.prog 20 #[.slice D n cap, .slice B u.length c'] w1 (AlEnd w1 ts u)) := Lib.hid (by
    have := all_any D B ts u cap c' w1 hD (HIB.out.below hb1) (by rw [← HN.out]; exact h8) hcu HLK.out
    rw [← HN.out] at this
    exact this)
  have HD := Lib.hid hD
  have HBU := Lib.hid (HIB.out.below hb1)
  have HB1 := Lib.hid hb1
  clear hD hb1 HIB HTX HF
  go_wp2_with fail
  refine (HRA.out).mono ?_
  rintro e w2 ⟨ws, xs, X, xc, rfl, hl, hw, hrd, hX, hxc, hb2⟩
  replace HD := Lib.hid (HD.out.below hb2)
  replace HBU := Lib.hid (HBU.out.below hb2)
  replace HB1 := Lib.hid (bel HB1.out hb2)
  have HT2 := Lib.hid (Tab.later HT.out HB1.out)
  have HXI := Lib.hid hX
  have hxl : xs.length = n := by rw [hrd.len, hl, HN.out]
  have HXL := Lib.hid hxl
  have HAT := Lib.hid (fun (k : Nat) (hk : k < xs.length) => rd_at hl hw hrd hk)
  have HOR := Lib.hid (fun (k : Nat) (hk : k + 1 < xs.length) => rd_order hrd hk)
  have HON := Lib.hid (zc_one hrd (n := n) (by rw [hl, HN.out]))
  have HLE := Lib.hid (fun l hl => HLK.out l hl)
  rw [← HN.out]
  clear hl hw hrd hX hxc hb2 HRA HT hxl HLK
  go_upto_region 5 with fail
  obtain ⟨W0, hW0⟩ : ∃ W : World, W = w2.alloc (.cells (madeCells #[.int .i64 0] n) 3) := ⟨_, rfl⟩
  have HR0 := Lib.hid (show M.Row W0 w2.heap.size (zc xs n 0) by rw [zc_zero]; unfold M.Row; rw [hW0, M.made_row]; exact heap_alloc_new w2 _)
  have HB0 := Lib.hid (show Below w2.heap.size w2 W0 by rw [hW0]; exact alloc1 _ _)
  go_upto_region 6 with fail
  rw [← hW0]
  clear hW0 hmk
  obtain ⟨G, hG⟩ : ∃ g, g = w2.heap.size := ⟨_, rfl⟩
  rw [← hG] at HR0 ⊢
  have HGE := Lib.hid (show w2.heap.size ≤ G by omega)
  clear hG
  go_wp2_with fail
  go_loopg [7] n (fun q i wr => ∃ (k : Nat), k ≤ n ∧ i = .int .i64 (k : Int) ∧ n - k ≤ q ∧ Hid (M.Row wr G (zc xs n k)) ∧ Hid (Below w2.heap.size w2 wr))
  case atStart => exact ⟨0, Nat.zero_le _, rfl, by omega, HR0, HB0⟩
  case round =>
    clear HR0 HB0
    obtain ⟨k, hk, rfl, hm, HR, HBR⟩ := hrel
    have h0k : (0 : Int) ≤ (k : Int) := by omega
    by_cases hlt : k < n
    · have hki : (k : Int) < (n : Int) := by omega
      have hkx : k < xs.length := by have := HXL.out; omega
      obtain ⟨b1, o1, hXe, hb1, hxat⟩ := (HXI.out.below HBR.out) (by omega)
      subst hXe
      obtain ⟨e0, e1⟩ := hxat k hkx
      obtain ⟨j, hj, hj1, hjw⟩ := HAT.out k hkx
      obtain ⟨bk, off, hDe, hbk, hdat⟩ := (HD.out.below HBR.out) (by omega)
      subst hDe
      obtain ⟨TJ, cj, ej, hTJ, hcj⟩ := hdat j hj
      have HLK := Lib.hid (HLE.out _ (List.getElem_mem hj))
      have HZS := Lib.hid (fun (h : j < (zc xs n k).length) => zc_step (n := n) hkx hj1 h)
      have hjn : j < n := by rw [HN.out]; exact hj
      have hjz : (0 : Int) ≤ (j : Int) := by omega
      have hjl : (j : Int) < (n : Int) := by omega
      have hd1 : decide ((j : Int) < 0) = false := decide_eq_false (by omega)
      have hd2 : decide ((n : Int) ≤ (j : Int)) = false := decide_eq_false (by omega)
      have hd3 : ¬ (n : Int) ≤ (j : Int) := by omega
      have hd4 : decide (n ≤ j) = false := decide_eq_false (by omega)
      rw [hj1] at e0
      have HP : Hid (∀ k', k' + 1 = k → ∃ p : UInt64, wr.cell? ⟨b1, o1 + k' * 2 + 1, none⟩ = some (fV p.toNat) ∧ kz p ≤ kz xs[k].2) := Lib.hid (fun k' e => by
        subst e
        exact ⟨_, (hxat k' (by omega)).2, HOR.out k' hkx⟩)
      obtain ⟨x, hx⟩ : ∃ x : UInt64, x = (xs[k]'hkx).2 := ⟨_, rfl⟩
      rw [← hx] at e1 hjw HP
      obtain ⟨tj, htj⟩ : ∃ t, t = ts[j]'hj := ⟨_, rfl⟩
      rw [← htj] at ej hTJ hcj HLK hjw
      have HSM : Hid (∀ (W : World) (y : UInt64), Lw tj u y.toNat → Calls Tryd.prog 13 #[fV x.toNat, fV y.toNat] W fun e w' => e = .returned (.bool true) ∧ Below W.heap.size W w') := Lib.hid fun W y hy => (same_any _ _ (u_lt x) (u_lt y) W).mono fun e w' ⟨h1, h2⟩ => ⟨by rw [h1, show same x.toNat y.toNat = true from decide_eq_true (by rw [hjw.key, hy.key])], by rw [h2]; exact Below.refl _ _⟩
      have HC0 := Lib.hid e0
      have HC1 := Lib.hid e1
      have HCL := Lib.hid ej
      have HLJ := Lib.hid hTJ
      have HLU := Lib.hid (HBU.out.below HBR.out)
      have HBK := Lib.hid hbk
      have HB1' := Lib.hid hb1
      have HP1 : Hid (∀ W, Below wr.heap.size wr W → ∀ k', k' + 1 = k → ∃ p : UInt64, W.cell? ⟨b1, o1 + k' * 2 + 1, none⟩ = some (fV p.toNat) ∧ kz p ≤ kz x) := Lib.hid (fun W h k' e => by
        obtain ⟨p, q1, q2⟩ := HP.out k' e
        exact ⟨p, (h.cell (p := ⟨b1, _, none⟩) hb1).trans q1, q2⟩)
      obtain ⟨wb, hwb⟩ : ∃ W : World, W = wr := ⟨_, rfl⟩
      have HBB : Hid (Below wb.heap.size wb wr) := Lib.hid (by rw [hwb]; exact Below.refl _ _)
      have HBL := HB1
      clear HB1
      have HB1 := HB1'
      clear HB1' e0 e1 ej hTJ hx htj hxat hdat hj1 hjw HP hb1 hbk hkx
      have HG1 : Hid (b1 ≠ G) := Lib.hid (fun e => by
        subst e
        have h1 := HC1.out
        have h2 := HR.out
        unfold M.Row at h2
        have h3 := L.blk_cell h2 (o1 + k * 2 + 1)
        rw [h3, List.getElem?_toArray] at h1
        have h4 := List.mem_of_getElem? h1
        simp [V.numCells] at h4)
      rw [← hwb] at HP1
      go_upto_region 9 with fail
      refine wp_region_held_drew (S := (Keeps wr)) (by kernel_rfl) (keeps_drew _) (fun hH0 => ?_)
      refine wpAnyH_take (i := 0) (oi := { dst := some 30, op := Go.Op.move (Go.Operand.tmp 5), type := 32, pos := "law.go:94", after := #[], guard := none }) (v := ?_) rfl (by kernel_rfl) (by kernel_rfl) (by kernel_rfl) (fun _ _ _ h => h) (Or.inl ⟨by rfl, ?_⟩) hH0 ?_
      rotate_left
      · (intro wz hSz; (try dsimp only at hSz); go_simp; try with_reducible rfl)
      simp only [Act.put, List.setIfInBounds_toArray, List.set_cons_zero, List.set_cons_succ]
      refine wpAnyH_take (i := 1) (oi := { dst := some 31, op := Go.Op.move (Go.Operand.tmp 7), type := 3, pos := "law.go:94", after := #[], guard := none }) (v := ?_) rfl (by kernel_rfl) (by kernel_rfl) (by kernel_rfl) (fun _ _ _ h => h) (Or.inl ⟨by rfl, ?_⟩) hH0 ?_
      rotate_left
      · (intro wz hSz; (try dsimp only at hSz); go_simp; try with_reducible rfl)
      simp only [Act.put, List.setIfInBounds_toArray, List.set_cons_zero, List.set_cons_succ]
      refine wpAnyH_take (i := 2) (oi := { dst := some 32, op := Go.Op.indexAddr 32 (Go.Operand.tmp 30) (Go.Operand.tmp 31), type := 0, pos := "law.go:94", after := #[{ on := 0, ground := Go.Ground.data }, { on := 1, ground := Go.Ground.data }], guard := none }) (v := ?_) rfl (by kernel_rfl) (by kernel_rfl) (by kernel_rfl) (fun _ _ _ h => h) (Or.inl ⟨by rfl, ?_⟩) hH0 ?_
      rotate_left
      · (intro wz hSz; (try dsimp only at hSz); go_simp; try with_reducible rfl)
      simp only [Act.put, List.setIfInBounds_toArray, List.set_cons_zero, List.set_cons_succ]
      refine wpAnyH_take (i := 3) (oi := { dst := some 33, op := Go.Op.fieldAddr 37 (Go.Operand.tmp 32) 0, type := 0, pos := "law.go:94", after := #[{ on := 2, ground := Go.Ground.data }], guard := none }) (v := ?_) rfl (by kernel_rfl) (by kernel_rfl) (by kernel_rfl) (fun _ _ _ h => h) (Or.inl ⟨by rfl, ?_⟩) hH0 ?_
      rotate_left
      · (intro wz hSz; (try dsimp only at hSz); go_simp; try with_reducible rfl)
      simp only [Act.put, List.setIfInBounds_toArray, List.set_cons_zero, List.set_cons_succ]
      refine wpAnyH_take (i := 4) (oi := { dst := some 34, op := Go.Op.load 3 (Go.Operand.tmp 33), type := 3, pos := "law.go:94", after := #[{ on := 3, ground := Go.Ground.data }], guard := none }) (v := ?_) rfl (by kernel_rfl) (by kernel_rfl) (by kernel_rfl) (fun _ _ _ h => h) (Or.inl ⟨by rfl, ?_⟩) hH0 ?_
      rotate_left
      · (intro wz hSz; have hcz := (Below.cell hSz (p := ⟨b1, _, none⟩) HB1.out).trans HC0.out; go_simp; try with_reducible rfl)
      simp only [Act.put, List.setIfInBounds_toArray, List.set_cons_zero, List.set_cons_succ]
      refine wpAnyH_take (i := 5) (oi := { dst := some 35, op := Go.Op.binOp Go.BinOp.lss 3 (Go.Operand.tmp 34) (Go.Operand.const (Go.Value.int Go.IntKind.i64 0)) 3, type := 4, pos := "law.go:94", after := #[{ on := 4, ground := Go.Ground.data }], guard := none }) (v := ?_) rfl (by kernel_rfl) (by kernel_rfl) (by kernel_rfl) (fun _ _ _ h => h) (Or.inl ⟨by rfl, ?_⟩) hH0 ?_
      rotate_left
      · (intro wz hSz; (try dsimp only at hSz); go_simp; try with_reducible rfl)
      simp only [Act.put, List.setIfInBounds_toArray, List.set_cons_zero, List.set_cons_succ]
      refine wpAnyH_take (i := 6) (oi := { dst := some 36, op := Go.Op.move (Go.Operand.tmp 35), type := 4, pos := "law.go:94", after := #[{ on := 5, ground := Go.Ground.data }], guard := none }) (v := ?_) rfl (by kernel_rfl) (by kernel_rfl) (by kernel_rfl) (fun _ _ _ h => h) (Or.inl ⟨by rfl, ?_⟩) hH0 ?_
      rotate_left
      · (intro wz hSz; (try dsimp only at hSz); go_simp; try with_reducible rfl)
      simp only [Act.put, List.setIfInBounds_toArray, List.set_cons_zero, List.set_cons_succ]
      refine wpAnyH_take (i := 7) (oi := { dst := some 37, op := Go.Op.move (Go.Operand.tmp 5), type := 32, pos := "law.go:94", after := #[{ on := 6, ground := Go.Ground.guard }], guard := some (6, false) }) (v := ?_) rfl (by kernel_rfl) (by kernel_rfl) (by kernel_rfl) (fun _ _ _ h => h) (Or.inl ⟨by rfl, ?_⟩) hH0 ?_
      rotate_left
      · (intro wz hSz; (try dsimp only at hSz); go_simp; try with_reducible rfl)
      simp only [Act.put, List.setIfInBounds_toArray, List.set_cons_zero, List.set_cons_succ]
      refine wpAnyH_take (i := 8) (oi := { dst := some 38, op := Go.Op.move (Go.Operand.tmp 7), type := 3, pos := "law.go:94", after := #[{ on := 6, ground := Go.Ground.guard }], guard := some (6, false) }) (v := ?_) rfl (by kernel_rfl) (by kernel_rfl) (by kernel_rfl) (fun _ _ _ h => h) (Or.inl ⟨by rfl, ?_⟩) hH0 ?_
      rotate_left
      · (intro wz hSz; (try dsimp only at hSz); go_simp; try with_reducible rfl)
      simp only [Act.put, List.setIfInBounds_toArray, List.set_cons_zero, List.set_cons_succ]
      refine wpAnyH_take (i := 9) (oi := { dst := some 39, op := Go.Op.indexAddr 32 (Go.Operand.tmp 37) (Go.Operand.tmp 38), type := 0, pos := "law.go:94", after := #[{ on := 7, ground := Go.Ground.data }, { on := 8, ground := Go.Ground.data }, { on := 6, ground := Go.Ground.guard }], guard := some (6, false) }) (v := ?_) rfl (by kernel_rfl) (by kernel_rfl) (by kernel_rfl) (fun _ _ _ h => h) (Or.inl ⟨by rfl, ?_⟩) hH0 ?_
      rotate_left
      · (intro wz hSz; (try dsimp only at hSz); go_simp; try with_reducible rfl)
      simp only [Act.put, List.setIfInBounds_toArray, List.set_cons_zero, List.set_cons_succ]
      refine wpAnyH_take (i := 10) (oi := { dst := some 40, op := Go.Op.fieldAddr 37 (Go.Operand.tmp 39) 0, type := 0, pos := "law.go:94", after := #[{ on := 9, ground := Go.Ground.data }, { on := 6, ground := Go.Ground.guard }], guard := some (6, false) }) (v := ?_) rfl (by kernel_rfl) (by kernel_rfl) (by kernel_rfl) (fun _ _ _ h => h) (Or.inl ⟨by rfl, ?_⟩) hH0 ?_
      rotate_left
      · (intro wz hSz; (try dsimp only at hSz); go_simp; try with_reducible rfl)
      simp only [Act.put, List.setIfInBounds_toArray, List.set_cons_zero, List.set_cons_succ]
      refine wpAnyH_take (i := 11) (oi := { dst := some 41, op := Go.Op.load 3 (Go.Operand.tmp 40), type := 3, pos := "law.go:94", after := #[{ on := 10, ground := Go.Ground.data }, { on := 6, ground := Go.Ground.guard }], guard := some (6, false) }) (v := ?_) rfl (by kernel_rfl) (by kernel_rfl) (by kernel_rfl) (fun _ _ _ h => h) (Or.inl ⟨by rfl, ?_⟩) hH0 ?_
      rotate_left
      · (intro wz hSz; have hcz := (Below.cell hSz (p := ⟨b1, _, none⟩) HB1.out).trans HC0.out; go_simp; try with_reducible rfl)
      simp only [Act.put, List.setIfInBounds_toArray, List.set_cons_zero, List.set_cons_succ]
      refine wpAnyH_take (i := 12) (oi := { dst := some 42, op := Go.Op.move (Go.Operand.tmp 0), type := 30, pos := "law.go:94", after := #[{ on := 6, ground := Go.Ground.guard }], guard := some (6, false) }) (v := ?_) rfl (by kernel_rfl) (by kernel_rfl) (by kernel_rfl) (fun _ _ _ h => h) (Or.inl ⟨by rfl, ?_⟩) hH0 ?_
      rotate_left
      · (intro wz hSz; (try dsimp only at hSz); go_simp; try with_reducible rfl)
      simp only [Act.put, List.setIfInBounds_toArray, List.set_cons_zero, List.set_cons_succ]
      refine wpAnyH_take (i := 13) (oi := { dst := some 43, op := Go.Op.call { callee := Go.Callee.builtin Go.Builtin.len, args := #[Go.Operand.tmp 42], argTypes := #[30] }, type := 3, pos := "law.go:94", after := #[{ on := 12, ground := Go.Ground.data }, { on := 6, ground := Go.Ground.guard }], guard := some (6, false) }) (v := ?_) rfl (by kernel_rfl) (by kernel_rfl) (by kernel_rfl) (fun _ _ _ h => h) (Or.inl ⟨by rfl, ?_⟩) hH0 ?_
      rotate_left
      · (intro wz hSz; (try dsimp only at hSz); go_simp; try with_reducible rfl)
      simp only [Act.put, List.setIfInBounds_toArray, List.set_cons_zero, List.set_cons_succ]
      refine wpAnyH_take (i := 14) (oi := { dst := some 44, op := Go.Op.binOp Go.BinOp.geq 3 (Go.Operand.tmp 41) (Go.Operand.tmp 43) 3, type := 4, pos := "law.go:94", after := #[{ on := 11, ground := Go.Ground.data }, { on := 13, ground := Go.Ground.data }, { on := 6, ground := Go.Ground.guard }], guard := some (6, false) }) (v := ?_) rfl (by kernel_rfl) (by kernel_rfl) (by kernel_rfl) (fun _ _ _ h => h) (Or.inl ⟨by rfl, ?_⟩) hH0 ?_
      rotate_left
      · (intro wz hSz; (try dsimp only at hSz); go_simp; try with_reducible rfl)
      simp only [Act.put, List.setIfInBounds_toArray, List.set_cons_zero, List.set_cons_succ]
      refine wpAnyH_take (i := 15) (oi := { dst := some 45, op := Go.Op.pick (Go.Operand.tmp 36) (Go.Operand.const (Go.Value.bool true)) (Go.Operand.tmp 44), type := 4, pos := "law.go:94", after := #[{ on := 6, ground := Go.Ground.data }, { on := 14, ground := Go.Ground.data }], guard := none }) (v := ?_) rfl (by kernel_rfl) (by kernel_rfl) (by kernel_rfl) (fun _ _ _ h => h) (Or.inl ⟨by rfl, ?_⟩) hH0 ?_
      rotate_left
      · (intro wz hSz; (try dsimp only at hSz); go_simp; try with_reducible rfl)
      simp only [Act.put, List.setIfInBounds_toArray, List.set_cons_zero, List.set_cons_succ]
      refine wpAnyH_take (i := 16) (oi := { dst := some 46, op := Go.Op.move (Go.Operand.tmp 45), type := 4, pos := "law.go:94", after := #[{ on := 15, ground := Go.Ground.data }, { on := 6, ground := Go.Ground.chain }], guard := none }) (v := ?_) rfl (by kernel_rfl) (by kernel_rfl) (by kernel_rfl) (fun _ _ _ h => h) (Or.inl ⟨by rfl, ?_⟩) hH0 ?_
      rotate_left
      · (intro wz hSz; (try dsimp only at hSz); go_simp; try with_reducible rfl)
      simp only [Act.put, List.setIfInBounds_toArray, List.set_cons_zero, List.set_cons_succ]
      refine wpAnyH_take (i := 17) (oi := { dst := some 47, op := Go.Op.move (Go.Operand.tmp 5), type := 32, pos := "law.go:94", after := #[{ on := 16, ground := Go.Ground.guard }], guard := some (16, false) }) (v := ?_) rfl (by kernel_rfl) (by kernel_rfl) (by kernel_rfl) (fun _ _ _ h => h) (Or.inl ⟨by rfl, ?_⟩) hH0 ?_
      rotate_left
      · (intro wz hSz; (try dsimp only at hSz); go_simp; try with_reducible rfl)
      simp only [Act.put, List.setIfInBounds_toArray, List.set_cons_zero, List.set_cons_succ]
      refine wpAnyH_take (i := 18) (oi := { dst := some 48, op := Go.Op.move (Go.Operand.tmp 7), type := 3, pos := "law.go:94", after := #[{ on := 16, ground := Go.Ground.guard }], guard := some (16, false) }) (v := ?_) rfl (by kernel_rfl) (by kernel_rfl) (by kernel_rfl) (fun _ _ _ h => h) (Or.inl ⟨by rfl, ?_⟩) hH0 ?_
      rotate_left
      · (intro wz hSz; (try dsimp only at hSz); go_simp; try with_reducible rfl)
      simp only [Act.put, List.setIfInBounds_toArray, List.set_cons_zero, List.set_cons_succ]
      refine wpAnyH_take (i := 19) (oi := { dst := some 49, op := Go.Op.indexAddr 32 (Go.Operand.tmp 47) (Go.Operand.tmp 48), type := 0, pos := "law.go:94", after := #[{ on := 17, ground := Go.Ground.data }, { on := 18, ground := Go.Ground.data }, { on := 16, ground := Go.Ground.guard }], guard := some (16, false) }) (v := ?_) rfl (by kernel_rfl) (by kernel_rfl) (by kernel_rfl) (fun _ _ _ h => h) (Or.inl ⟨by rfl, ?_⟩) hH0 ?_
      rotate_left
      · (intro wz hSz; (try dsimp only at hSz); go_simp; try with_reducible rfl)
      simp only [Act.put, List.setIfInBounds_toArray, List.set_cons_zero, List.set_cons_succ]
      refine wpAnyH_take (i := 20) (oi := { dst := some 50, op := Go.Op.fieldAddr 37 (Go.Operand.tmp 49) 1, type := 0, pos := "law.go:94", after := #[{ on := 19, ground := Go.Ground.data }, { on := 16, ground := Go.Ground.guard }], guard := some (16, false) }) (v := ?_) rfl (by kernel_rfl) (by kernel_rfl) (by kernel_rfl) (fun _ _ _ h => h) (Or.inl ⟨by rfl, ?_⟩) hH0 ?_
      rotate_left
      · (intro wz hSz; (try dsimp only at hSz); go_simp; try with_reducible rfl)
      simp only [Act.put, List.setIfInBounds_toArray, List.set_cons_zero, List.set_cons_succ]
      refine wpAnyH_take (i := 21) (oi := { dst := some 51, op := Go.Op.load 27 (Go.Operand.tmp 50), type := 27, pos := "law.go:94", after := #[{ on := 20, ground := Go.Ground.data }, { on := 16, ground := Go.Ground.guard }], guard := some (16, false) }) (v := ?_) rfl (by kernel_rfl) (by kernel_rfl) (by kernel_rfl) (fun _ _ _ h => h) (Or.inl ⟨by rfl, ?_⟩) hH0 ?_
      rotate_left
      · (intro wz hSz; have hcz := (Below.cell hSz (p := ⟨b1, _, none⟩) HB1.out).trans HC1.out; go_simp; try with_reducible rfl)
      simp only [Act.put, List.setIfInBounds_toArray, List.set_cons_zero, List.set_cons_succ]
      refine wpAnyH_take (i := 22) (oi := { dst := some 52, op := Go.Op.move (Go.Operand.tmp 0), type := 30, pos := "law.go:94", after := #[{ on := 16, ground := Go.Ground.guard }], guard := some (16, false) }) (v := ?_) rfl (by kernel_rfl) (by kernel_rfl) (by kernel_rfl) (fun _ _ _ h => h) (Or.inl ⟨by rfl, ?_⟩) hH0 ?_
      rotate_left
      · (intro wz hSz; (try dsimp only at hSz); go_simp; try with_reducible rfl)
      simp only [Act.put, List.setIfInBounds_toArray, List.set_cons_zero, List.set_cons_succ]
      refine wpAnyH_take (i := 23) (oi := { dst := some 53, op := Go.Op.move (Go.Operand.tmp 5), type := 32, pos := "law.go:94", after := #[{ on := 16, ground := Go.Ground.guard }], guard := some (16, false) }) (v := ?_) rfl (by kernel_rfl) (by kernel_rfl) (by kernel_rfl) (fun _ _ _ h => h) (Or.inl ⟨by rfl, ?_⟩) hH0 ?_
      rotate_left
      · (intro wz hSz; (try dsimp only at hSz); go_simp; try with_reducible rfl)
      simp only [Act.put, List.setIfInBounds_toArray, List.set_cons_zero, List.set_cons_succ]
      refine wpAnyH_take (i := 24) (oi := { dst := some 54, op := Go.Op.move (Go.Operand.tmp 7), type := 3, pos := "law.go:94", after := #[{ on := 16, ground := Go.Ground.guard }], guard := some (16, false) }) (v := ?_) rfl (by kernel_rfl) (by kernel_rfl) (by kernel_rfl) (fun _ _ _ h => h) (Or.inl ⟨by rfl, ?_⟩) hH0 ?_
      rotate_left
      · (intro wz hSz; (try dsimp only at hSz); go_simp; try with_reducible rfl)
      simp only [Act.put, List.setIfInBounds_toArray, List.set_cons_zero, List.set_cons_succ]
      refine wpAnyH_take (i := 25) (oi := { dst := some 55, op := Go.Op.indexAddr 32 (Go.Operand.tmp 53) (Go.Operand.tmp 54), type := 0, pos := "law.go:94", after := #[{ on := 23, ground := Go.Ground.data }, { on := 24, ground := Go.Ground.data }, { on := 16, ground := Go.Ground.guard }], guard := some (16, false) }) (v := ?_) rfl (by kernel_rfl) (by kernel_rfl) (by kernel_rfl) (fun _ _ _ h => h) (Or.inl ⟨by rfl, ?_⟩) hH0 ?_
      rotate_left
      · (intro wz hSz; (try dsimp only at hSz); go_simp; try with_reducible rfl)
      simp only [Act.put, List.setIfInBounds_toArray, List.set_cons_zero, List.set_cons_succ]
      refine wpAnyH_take (i := 26) (oi := { dst := some 56, op := Go.Op.fieldAddr 37 (Go.Operand.tmp 55) 0, type := 0, pos := "law.go:94", after := #[{ on := 25, ground := Go.Ground.data }, { on := 16, ground := Go.Ground.guard }], guard := some (16, false) }) (v := ?_) rfl (by kernel_rfl) (by kernel_rfl) (by kernel_rfl) (fun _ _ _ h => h) (Or.inl ⟨by rfl, ?_⟩) hH0 ?_
      rotate_left
      · (intro wz hSz; (try dsimp only at hSz); go_simp; try with_reducible rfl)
      simp only [Act.put, List.setIfInBounds_toArray, List.set_cons_zero, List.set_cons_succ]
      refine wpAnyH_take (i := 27) (oi := { dst := some 57, op := Go.Op.load 3 (Go.Operand.tmp 56), type := 3, pos := "law.go:94", after := #[{ on := 26, ground := Go.Ground.data }, { on := 16, ground := Go.Ground.guard }], guard := some (16, false) }) (v := ?_) rfl (by kernel_rfl) (by kernel_rfl) (by kernel_rfl) (fun _ _ _ h => h) (Or.inl ⟨by rfl, ?_⟩) hH0 ?_
      rotate_left
      · (intro wz hSz; have hcz := (Below.cell hSz (p := ⟨b1, _, none⟩) HB1.out).trans HC0.out; go_simp; try with_reducible rfl)
      simp only [Act.put, List.setIfInBounds_toArray, List.set_cons_zero, List.set_cons_succ]
      refine wpAnyH_take (i := 28) (oi := { dst := some 58, op := Go.Op.indexAddr 30 (Go.Operand.tmp 52) (Go.Operand.tmp 57), type := 0, pos := "law.go:94", after := #[{ on := 22, ground := Go.Ground.data }, { on := 27, ground := Go.Ground.data }, { on := 16, ground := Go.Ground.guard }], guard := some (16, false) }) (v := ?_) rfl (by kernel_rfl) (by kernel_rfl) (by kernel_rfl) (fun _ _ _ h => h) (Or.inl ⟨by rfl, ?_⟩) hH0 ?_
      rotate_left
      · (intro wz hSz; (try dsimp only at hSz); go_simp; try with_reducible rfl)
      simp only [Act.put, List.setIfInBounds_toArray, List.set_cons_zero, List.set_cons_succ]
      refine wpAnyH_take (i := 29) (oi := { dst := some 59, op := Go.Op.load 22 (Go.Operand.tmp 58), type := 22, pos := "law.go:94", after := #[{ on := 28, ground := Go.Ground.data }, { on := 16, ground := Go.Ground.guard }], guard := some (16, false) }) (v := ?_) rfl (by kernel_rfl) (by kernel_rfl) (by kernel_rfl) (fun _ _ _ h => h) (Or.inl ⟨by rfl, ?_⟩) hH0 ?_
      rotate_left
      · (intro wz hSz; have hcz := (Below.cell hSz (p := ⟨bk, off + j, none⟩) HBK.out).trans HCL.out; go_simp; try with_reducible rfl)
      simp only [Act.put, List.setIfInBounds_toArray, List.set_cons_zero, List.set_cons_succ]
      refine wpAnyH_take (i := 30) (oi := { dst := some 60, op := Go.Op.move (Go.Operand.tmp 1), type := 22, pos := "law.go:94", after := #[{ on := 16, ground := Go.Ground.guard }], guard := some (16, false) }) (v := ?_) rfl (by kernel_rfl) (by kernel_rfl) (by kernel_rfl) (fun _ _ _ h => h) (Or.inl ⟨by rfl, ?_⟩) hH0 ?_
      rotate_left
      · (intro wz hSz; (try dsimp only at hSz); go_simp; try with_reducible rfl)
      simp only [Act.put, List.setIfInBounds_toArray, List.set_cons_zero, List.set_cons_succ]
      refine wpAnyH_ready (rs := [31]) (by kernel_rfl) (by simp) ?_
      refine AllReadyH.cons (o := { dst := some 61, op := Go.Op.call { callee := Go.Callee.value (Go.Operand.func 14), args := #[Go.Operand.tmp 59, Go.Operand.tmp 60], argTypes := #[22, 22] }, type := 27, pos := "law.go:94", after := #[{ on := 29, ground := Go.Ground.data }, { on := 30, ground := Go.Ground.data }, { on := 16, ground := Go.Ground.chain }, { on := 16, ground := Go.Ground.guard }], guard := some (16, false) }) rfl (fun K hK => ?_) AllReadyH.nil
      go_simp
      with_reducible refine (HLK.out.call _ (HLJ.out.below hH0.b) (HLU.out.below hH0.b) hcj hcu).mono ?_
      rintro r wq1 ⟨y, rfl, hy, hbq⟩
      go_wp2_with fail
      refine hK.out _ _ (Keeps.trans hH0 hbq) (fun hJ => ?_)
      refine wpAnyH_more (S' := Keeps wq1) (fun z hz => Keeps.trans hJ hz) _ _ _ _ ?_
      replace HBB := Lib.hid (HBB.out.trans (Below.mono hJ HBB.out.size))
      replace HBR := Lib.hid (HBR.out.trans (Below.mono hJ HBR.out.size))
      replace HR := Lib.hid (HR.out.kept hJ)
      replace HLJ := Lib.hid (HLJ.out.below hJ)
      replace HLU := Lib.hid (HLU.out.below hJ)
      replace HC0 := Lib.hid ((Below.cell hJ (p := ⟨b1, _, none⟩) HB1.out).trans HC0.out)
      replace HC1 := Lib.hid ((Below.cell hJ (p := ⟨b1, _, none⟩) HB1.out).trans HC1.out)
      replace HCL := Lib.hid ((Below.cell hJ (p := ⟨bk, off + j, none⟩) HBK.out).trans HCL.out)
      replace HBK := Lib.hid (Nat.lt_of_lt_of_le HBK.out (Below.size hJ))
      replace HB1 := Lib.hid (Nat.lt_of_lt_of_le HB1.out (Below.size hJ))
      have hH1 : Keeps wq1 wq1 := Below.refl _ _
      clear hK K hbq hH0 hJ
      refine wpAnyH_ready (rs := [32]) (by kernel_rfl) (by simp) ?_
      refine AllReadyH.cons (o := { dst := some 62, op := Go.Op.call { callee := Go.Callee.value (Go.Operand.func 13), args := #[Go.Operand.tmp 51, Go.Operand.tmp 61], argTypes := #[27, 27] }, type := 4, pos := "law.go:94", after := #[{ on := 21, ground := Go.Ground.data }, { on := 31, ground := Go.Ground.data }, { on := 31, ground := Go.Ground.chain }, { on := 16, ground := Go.Ground.guard }], guard := some (16, false) }) rfl (fun K hK => ?_) AllReadyH.nil
      go_simp
      with_reducible refine (HSM.out _ y hy).mono ?_
      rintro r wq2 ⟨rfl, hbq⟩
      go_wp2_with fail
      refine hK.out _ _ (Keeps.trans hH1 hbq) (fun hJ => ?_)
      refine wpAnyH_more (S' := Keeps wq2) (fun z hz => Keeps.trans hJ hz) _ _ _ _ ?_
      replace HBB := Lib.hid (HBB.out.trans (Below.mono hJ HBB.out.size))
      replace HBR := Lib.hid (HBR.out.trans (Below.mono hJ HBR.out.size))
      replace HR := Lib.hid (HR.out.kept hJ)
      replace HLJ := Lib.hid (HLJ.out.below hJ)
      replace HLU := Lib.hid (HLU.out.below hJ)
      replace HC0 := Lib.hid ((Below.cell hJ (p := ⟨b1, _, none⟩) HB1.out).trans HC0.out)
      replace HC1 := Lib.hid ((Below.cell hJ (p := ⟨b1, _, none⟩) HB1.out).trans HC1.out)
      replace HCL := Lib.hid ((Below.cell hJ (p := ⟨bk, off + j, none⟩) HBK.out).trans HCL.out)
      replace HBK := Lib.hid (Nat.lt_of_lt_of_le HBK.out (Below.size hJ))
      replace HB1 := Lib.hid (Nat.lt_of_lt_of_le HB1.out (Below.size hJ))
      have hH2 : Keeps wq2 wq2 := Below.refl _ _
      clear hK K hbq hH1 hJ
      refine wpAnyH_take (i := 33) (oi := { dst := some 63, op := Go.Op.unOp Go.UnOp.not 4 (Go.Operand.tmp 62), type := 4, pos := "law.go:94", after := #[{ on := 32, ground := Go.Ground.data }, { on := 16, ground := Go.Ground.guard }], guard := some (16, false) }) (v := ?_) rfl (by kernel_rfl) (by kernel_rfl) (by kernel_rfl) (fun _ _ _ h => h) (Or.inl ⟨by rfl, ?_⟩) hH2 ?_
      rotate_left
      · (intro wz hSz; (try dsimp only at hSz); go_simp; try with_reducible rfl)
      simp only [Act.put, List.setIfInBounds_toArray, List.set_cons_zero, List.set_cons_succ]
      refine wpAnyH_take (i := 34) (oi := { dst := some 64, op := Go.Op.pick (Go.Operand.tmp 46) (Go.Operand.const (Go.Value.bool true)) (Go.Operand.tmp 63), type := 4, pos := "law.go:94", after := #[{ on := 16, ground := Go.Ground.data }, { on := 33, ground := Go.Ground.data }], guard := none }) (v := ?_) rfl (by kernel_rfl) (by kernel_rfl) (by kernel_rfl) (fun _ _ _ h => h) (Or.inl ⟨by rfl, ?_⟩) hH2 ?_
      rotate_left
      · (intro wz hSz; (try dsimp only at hSz); go_simp; try with_reducible rfl)
      simp only [Act.put, List.setIfInBounds_toArray, List.set_cons_zero, List.set_cons_succ]
      refine wpAnyH_done (by kernel_rfl) ?_ _
      have hjz' : j < (zc xs n k).length := by rw [zc_len]; exact hjn
      obtain ⟨m, hm'⟩ : ∃ m, m = (zc xs n k)[j]'hjz' := ⟨_, rfl⟩
      have hms := zc_small xs n k j hjz'
      rw [← hm', HXL.out] at hms
      have r0 := HR.out.cell hjz'
      rw [← hm'] at r0
      have rf := HR.out.free j
      have hwm : IntKind.i64.wrap (m + 1) = m + 1 := by rw [IntKind.wrap_i64]; omega
      have c0 := HC0.out
      have HMM := Lib.hid hm'
      have HJZ := Lib.hid hjz'
      clear hms hm'
      go_upto_region 12 with fail
      obtain ⟨w5, hw5⟩ : ∃ W : World, W = wq2.setCell ⟨G, j, none⟩ (.int .i64 (m + 1)) := ⟨_, rfl⟩
      have HR5 := Lib.hid (show M.Row w5 G (zc xs n (k + 1)) by rw [HZS.out HJZ.out, ← HMM.out, hw5]; exact HR.out.set j _)
      have HB5 := Lib.hid (show Below w2.heap.size w2 w5 by rw [hw5]; exact HBR.out.setCell (p := ⟨G, j, none⟩) HGE.out _)
      have HCC := Lib.hid (show ∀ o v, wq2.cell? ⟨b1, o, none⟩ = some v → w5.cell? ⟨b1, o, none⟩ = some v from fun o v h => by rw [hw5, World.cell?_setCell_far _ _ _ _ (show G ≠ b1 from fun e => HG1.out e.symm)]; exact h)
      have f1 := HCC.out _ _ HC1.out
      rw [← hw5]
      have HPP := Lib.hid (HP1.out _ HBB.out)
      have HRN : Hid (∀ q, M.Row (w5.drewN q) G (zc xs n (k + 1)) ∧ Below w2.heap.size w2 (w5.drewN q)) := Lib.hid fun q => ⟨HR5.out.kept (drawn_below w5 q), HB5.out.trans ((drawn_below w5 q).mono HB5.out.size)⟩
      clear hw5 r0 rf hwm c0 HMM HJZ hjz' HR HBR HC0 HC1 HCL HLJ HLU HBK HB1 HP1 HBB HZS HSM HLK HG1 HR5 HB5 hwb
      cases k with
      | zero =>
        clear f1
        go_quiet (fail)
        go_wp2_with fail
        go_roundg (n - 1)
        case rel => exact ⟨1, by omega, by go_num, by omega, Lib.hid (HRN.out _).1, Lib.hid (HRN.out _).2⟩
        case measure => omega
      | succ k' =>
        obtain ⟨p, p1, hle⟩ := HPP.out k' rfl
        have f0 := HCC.out _ _ p1
        have hwj : IntKind.i64.wrap (k' : Int) = (k' : Int) := by rw [IntKind.wrap_i64]; omega
        have h0j : (0 : Int) ≤ (k' : Int) := by omega
        have hjc : (k' : Int) < (n : Int) := by omega
        have h1j : (0 : Int) ≤ (k' : Int) + 1 := by omega
        have hjd : (k' : Int) + 1 < (n : Int) := by omega
        have htn : ((k' : Int) + 1).toNat = k' + 1 := by omega
        clear p1
        cases np : isN p.toNat
        · cases nx : isN x.toNat
          · have hv : ¬ vl p.toNat < vl x.toNat := fun h => by
              have := Fp.vl_num h np nx
              rw [kz_num np, kz_num nx] at hle
              omega
            have hvd : decide (vl p.toNat < vl x.toNat) = false := decide_eq_false hv
            clear hle hv
            go_quiet (fail)
            go_wp2_with fail
            go_roundg (n - (k' + 1 + 1))
            case rel => exact ⟨k' + 1 + 1, by omega, by go_num, by omega, Lib.hid (HRN.out _).1, Lib.hid (HRN.out _).2⟩
            case measure => omega
          · clear hle
            go_quiet (fail)
            go_wp2_with fail
            go_roundg (n - (k' + 1 + 1))
            case rel => exact ⟨k' + 1 + 1, by omega, by go_num, by omega, Lib.hid (HRN.out _).1, Lib.hid (HRN.out _).2⟩
            case measure => omega
        · cases nx : isN x.toNat
          · have := kz_lt nx
            rw [kz_nan np] at hle
            omega
          · clear hle
            go_quiet (fail)
            go_wp2_with fail
            go_roundg (n - (k' + 1 + 1))
            case rel => exact ⟨k' + 1 + 1, by omega, by go_num, by omega, Lib.hid (HRN.out _).1, Lib.hid (HRN.out _).2⟩
            case measure => omega
    · have hkn : k = n := by omega
      subst hkn
      have HZ1 := Lib.hid (show ∀ i (hi : i < (zc xs k k).length), (zc xs k k)[i] = 1 from fun i hi => by
        have h := HON.out i
        rw [HXL.out] at h
        exact h hi)
      have HLV := Lib.hid (live23.call wr (Tab.later HT2.out HBR.out))
      have HBF := Lib.hid (HB1.out.trans (HBR.out.mono HB1.out.size))
      obtain ⟨w6, hw6⟩ : ∃ W : World, W = wr := ⟨_, rfl⟩
      rw [← hw6] at HLV HBF HR ⊢
      clear hw6 HBR HB1 HON HAT HOR HXI HD HBU
      go_wp2_with fail
      go_loopg [8] k (fun q i wr => ∃ (i' : Nat), i' ≤ k ∧ i = .int .i64 (i' : Int) ∧ k - i' ≤ q ∧ wr = w6)
      case atStart => exact ⟨0, Nat.zero_le _, rfl, by omega, rfl⟩
      case round =>
        obtain ⟨i, hi, rfl, hmi, hwr⟩ := hrel
        subst hwr
        have h0i : (0 : Int) ≤ (i : Int) := by omega
        by_cases hil : i < k
        · have hii : (i : Int) < (k : Int) := by omega
          have r1 := HR.out.cell (j := i) (by rw [zc_len]; exact hil)
          rw [HZ1.out] at r1
          go_wp2_with fail
          go_roundg (k - (i + 1))
          case rel => exact ⟨i + 1, by omega, by go_num, by omega, rfl⟩
          case measure => omega
        · have hik : i = k := by omega
          subst hik
          go_wp2_with fail
          refine (HLV.out).mono ?_
          rintro e w7 ⟨rfl, hb7⟩
          go_wp2_with fail
          go_ret
          exact ⟨rfl, bel HBF.out hb7⟩
end Go.Proofs.YtfndiggpnkjacaaDoor.Rk
