/-
  The reference's line (layer 3) for users whose label fits.
  The reference's line (layer 3) for floors whose label fits.
-/
import Derived.Test.YtadhhamfikpimaaDoorGp
import Derived.Deep.DeepCutAuto
import Derived.Test.YtadhhamfikpimaaDoorGo
import Derived.Test.YtadhhamfikpimaaDoorGm
import Derived.Test.YtadhhamfikpimaaDoorGl
import Derived.Deep.AppendLies
import Derived.Deep.RegionHeldLaw
import Derived.Deep.DrawnRows
import Derived.StillTailTactics
namespace Go.Proofs.YtadhhamfikpimaaDoor.O
set_option linter.unusedVariables false
set_option linter.unusedSimpArgs false
open Go.RowKit
open T
attribute [local go_sem ↓] Go.wp_at_zero Go.wp_at_succ
variable {w w' : World} {base sb : Nat} {s : St} {uv fv : Value}


theorem refFind_cells (n0 n1 n2 n3 n4 n5 : Int) (hid : ByteArray) (uA fA : Option Addr) (ucap fn fcap un : Nat) (us : List Usr) (x : ByteArray) (hlen : us.length ≤ maxLen) (hun : un = us.length) :
    ∃ (yn : ByteArray) (yl : Int) (yc : Nat) (ya : Bool), ∀ w : World, UsersIn w uA us → Calls Tryd.prog 70 #[polA n0 n1 n2 n3 n4 n5 hid (.slice uA un ucap) (.slice fA fn fcap), .string x] w fun e w' => e = .returned (.tuple #[.agg #[.string yn, .int .i64 yl, .int .u64 (yc : Int), .bool ya], .bool (decide (x.data.toList ∈ us.map (·.name)))]) ∧ Below w.heap.size w w' := by
  subst hun
  have h := fun (w : World) (hU : UsersIn w uA us) => refFind_any n0 n1 n2 n3 n4 n5 hid uA fA ucap fn fcap us x w hU hlen
  cases hf : us.find? (fun u => decide (u.name = x.data.toList)) with
  | none =>
    rw [hf] at h
    refine ⟨⟨#[]⟩, 0, 0, false, fun w hU => (h w hU).mono fun e w' he => ⟨?_, he.2⟩⟩
    rw [he.1, decide_eq_false]
    · rfl
    · intro hm
      obtain ⟨u, hu, e⟩ := List.mem_map.1 hm
      have := List.find?_eq_none.1 hf u hu
      simp [e] at this
  | some u =>
    rw [hf] at h
    refine ⟨⟨u.name.toArray⟩, u.lv, u.ct, u.ad, fun w hU => (h w hU).mono fun e w' he => ⟨?_, he.2⟩⟩
    have h1 := List.find?_some hf
    have h2 := List.mem_of_find?_eq_some hf
    rw [he.1, decide_eq_true]
    · rfl
    · exact List.mem_map.2 ⟨u, h2, by simpa using h1⟩
def FdC (a : Array Value) (v : Value) (A : Option Addr) (us : List Usr) : Prop := ∀ W : World, UsersIn W A us → Calls Tryd.prog 70 a W fun e w' => e = .returned v ∧ Below W.heap.size W w'
theorem FdC.call {a : Array Value} {v : Value} {A : Option Addr} {us : List Usr} (h : FdC a v A us) {W : World} (hU : UsersIn W A us) : Calls Tryd.prog 70 a W fun e w' => e = .returned v ∧ Below W.heap.size W w' := h W hU
/-- What is held while a user is looked for: the policy's cells, a word, and all that was there. -/
def Core (w3 : World) (sb g : Nat) (wz : World) : Prop := sb < w3.heap.size ∧ g < w3.heap.size ∧ Below w3.heap.size w3 wz
abbrev K16 (w3 : World) (sb g : Nat) (n0 n1 n2 n3 n4 n5 : Int) (hid : ByteArray) (uv fv : Value) (x1 : ByteArray) (wz : World) : Prop :=
  wz.cell? ⟨sb, 0, none⟩ = some (.int .i64 n0) ∧ wz.cell? ⟨sb, 1, none⟩ = some (.int .i64 n1) ∧ wz.cell? ⟨sb, 2, none⟩ = some (.int .i64 n2) ∧ wz.cell? ⟨sb, 3, none⟩ = some (.int .i64 n3) ∧ wz.cell? ⟨sb, 4, none⟩ = some (.int .i64 n4) ∧ wz.cell? ⟨sb, 5, none⟩ = some (.int .i64 n5) ∧ wz.cell? ⟨sb, 6, none⟩ = some (.string hid) ∧ wz.cell? ⟨sb, 7, none⟩ = some uv ∧ wz.cell? ⟨sb, 8, none⟩ = some fv ∧ wz.cell? ⟨g, 1, none⟩ = some (.string x1) ∧ Core w3 sb g wz
section
variable {w3 W W' : World} {sb g : Nat} {n0 n1 n2 n3 n4 n5 : Int} {hid : ByteArray} {uv fv : Value} {x1 : ByteArray}
theorem k16_core (h : K16 w3 sb g n0 n1 n2 n3 n4 n5 hid uv fv x1 W) : Core w3 sb g W := h.2.2.2.2.2.2.2.2.2.2
theorem k16_end (h : K16 w3 sb g n0 n1 n2 n3 n4 n5 hid uv fv x1 W) : Below w3.heap.size w3 W := (k16_core h).2.2
theorem k16_size (h : K16 w3 sb g n0 n1 n2 n3 n4 n5 hid uv fv x1 W) : w3.heap.size ≤ W.heap.size := (k16_end h).size
theorem k16_move (h : K16 w3 sb g n0 n1 n2 n3 n4 n5 hid uv fv x1 W) (hc : ∀ b o, b < w3.heap.size → W'.cell? ⟨b, o, none⟩ = W.cell? ⟨b, o, none⟩) (hb : Below w3.heap.size w3 W') : K16 w3 sb g n0 n1 n2 n3 n4 n5 hid uv fv x1 W' := by
  obtain ⟨h0, h1, h2, h3, h4, h5, h6, h7, h8, h9, a, b, c⟩ := h
  exact ⟨(hc _ _ a).trans h0, (hc _ _ a).trans h1, (hc _ _ a).trans h2, (hc _ _ a).trans h3, (hc _ _ a).trans h4, (hc _ _ a).trans h5, (hc _ _ a).trans h6, (hc _ _ a).trans h7, (hc _ _ a).trans h8, (hc _ _ b).trans h9, a, b, hb⟩
theorem k16_below (h : K16 w3 sb g n0 n1 n2 n3 n4 n5 hid uv fv x1 W) (hb : Below W.heap.size W W') : K16 w3 sb g n0 n1 n2 n3 n4 n5 hid uv fv x1 W' :=
  k16_move h (fun b o hl => L.bcell hb b o (Nat.lt_of_lt_of_le hl (k16_size h))) ((k16_end h).trans (hb.mono (k16_size h)))
theorem k16_alloc (h : K16 w3 sb g n0 n1 n2 n3 n4 n5 hid uv fv x1 W) (o : Obj) : K16 w3 sb g n0 n1 n2 n3 n4 n5 hid uv fv x1 (W.alloc o) := k16_below h ((Below.refl _ _).alloc (Nat.le_refl _) o)
theorem k16_drew (h : K16 w3 sb g n0 n1 n2 n3 n4 n5 hid uv fv x1 W) : K16 w3 sb g n0 n1 n2 n3 n4 n5 hid uv fv x1 W.drew := k16_below h (drew_below W)
theorem k16_set (h : K16 w3 sb g n0 n1 n2 n3 n4 n5 hid uv fv x1 W) {b i : Nat} (hb : w3.heap.size ≤ b) (u : Value) : K16 w3 sb g n0 n1 n2 n3 n4 n5 hid uv fv x1 (W.setCell ⟨b, i, none⟩ u) :=
  k16_move h (fun c o hl => World.cell?_setCell_other W ⟨b, i, none⟩ ⟨c, o, none⟩ u (fun e => by injection e with e1; omega)) ((k16_end h).setCell (p := ⟨b, i, none⟩) hb u)
end
theorem usr_cells {W : World} {b : Nat} {a0 a1 a2 a3 : Value} (h : W.heap[b]? = some (.cells #[a0, a1, a2, a3] 72 (0, 0))) : (W.cell? ⟨b, 0, none⟩ = some a0 ∧ W.cell? ⟨b, 1, none⟩ = some a1 ∧ W.cell? ⟨b, 2, none⟩ = some a2 ∧ W.cell? ⟨b, 3, none⟩ = some a3) ∧ W.frozen? ⟨b, 0, none⟩ = false ∧ W.frozen? ⟨b, 1, none⟩ = false ∧ W.frozen? ⟨b, 2, none⟩ = false ∧ W.frozen? ⟨b, 3, none⟩ = false :=
  ⟨⟨L.blk_cell h 0, L.blk_cell h 1, L.blk_cell h 2, L.blk_cell h 3⟩, L.blk_free h 0, L.blk_free h 1, L.blk_free h 2, L.blk_free h 3⟩


set_option maxRecDepth 100000 in
set_option maxHeartbeats 4000000 in
theorem rline_user_lab (h : Sd w base sb s uv fv) (x : ByteArray) (hx : x.size ≤ 8192) (ws : List (List UInt8)) (a0 : List UInt8) (hws : P.words [] x.data.toList = ws) (hlen : 2 ≤ ws.length) (hz : ws[0]'(by omega) = a0) (HNK : Hid (∀ j, j < 7 → keys.getD j [] ≠ a0)) (ha : a0 = kUser) (h3 : 3 ≤ ws.length) (h0 : s.once.getD 0 false = true) (h1 : s.once.getD 1 false = true) (hl1 : (ws[1]'(by omega)).length ≤ 8192) (hnm : P.name (ws[1]'(by omega)) = true) (l k : Nat) (hk : k < 18446744073709551616) (HP : Hid (RPs ⟨(ws[2]'(by omega)).toArray⟩ l k true)) (HFI : Hid (fitsB (s.p.ns.getD 0 0) (s.p.ns.getD 1 0) l k = true)) (HLF : Hid (labelFor s (ws[2]'(by omega)) = some (l, k))) (hul : s.p.us.length ≤ maxLen) :
    Calls Tryd.prog 38 #[.pointer (some ⟨sb, 0, none⟩), .string x] w (RlEnd w base sb (takeUser s ws)) := by
  have HTU : Hid (takeUser s ws = if ws.length ≤ 4 ∧ ∀ h : 3 < ws.length, ws[3] = kAdmin then (if s.p.us.length < 32 ∧ (ws[1]'(by omega)) ∉ s.p.us.map (·.name) then some ⟨{ s.p with us := s.p.us ++ [⟨ws[1]'(by omega), l, k, decide (ws.length = 4)⟩] }, s.once⟩ else none) else none) := Lib.hid (by
    rw [takeUser_eq s ws h3]
    unfold addUser
    rw [HLF.out, hnm]
    simp only [true_and, Option.map_some])
  clear HLF
  obtain ⟨o, ho⟩ : ∃ o, o = takeUser s ws := ⟨_, rfl⟩
  rw [← ho] at HTU ⊢
  clear ho
  obtain ⟨i0, hi0, hz0, hz1, hz2⟩ := info_parts infoUsr
  obtain ⟨uA, ucap, hu, -, -⟩ := own_form h.us
  obtain ⟨fA, fcap, hf, -, -⟩ := own_form h.fs
  obtain ⟨un, hun⟩ : ∃ un, un = s.p.us.length := ⟨_, rfl⟩
  obtain ⟨fn, hfn⟩ : ∃ fn, fn = s.p.fs.length := ⟨_, rfl⟩
  rw [← hun] at hu
  rw [← hfn] at hf
  subst hu hf
  have HUN := Lib.hid hun
  have HFN := Lib.hid hfn
  clear hun hfn
  have hW := refWords_any x w (by omega)
  rw [hws] at hW
  have HW := Lib.hid hW
  have H := Lib.hid h
  clear h hW
  obtain ⟨m, hm⟩ : ∃ m, m = ws.length := ⟨_, rfl⟩
  have hm2 : 2 ≤ m := by rw [hm]; exact hlen
  have HM := Lib.hid hm
  obtain ⟨x0, hx0⟩ : ∃ x0 : ByteArray, x0 = ⟨a0.toArray⟩ := ⟨_, rfl⟩
  have HQ : Hid (∀ j, j < 7 → ((⟨(keys.getD j []).toArray⟩ : ByteArray).toList == x0.toList) = false) := Lib.hid (fun j hj => by rw [hx0, key_beq]; exact decide_eq_false (HNK.out j hj))
  have HX0 := Lib.hid hx0
  clear hm
  have qu : (x0.toList == [117, 115, 101, 114]) = true := by rw [hx0, str_is]; exact decide_eq_true ha
  have qf : True := trivial
  clear hx0
  go_enter Tryd.func38, Tryd.ntmps38
  go_wp2_with fail
  with_reducible refine (HW.out).mono ?_
  rintro e w1 ⟨v1, rfl, hown, hb1⟩
  obtain ⟨g, cap, hv, hlt, hcells⟩ := words_own hown (by omega)
  subst hv
  have HWS := Lib.hid hcells
  rw [← HM.out]
  have HB1 := Lib.hid hb1
  have HS1 := Lib.hid (H.out.below hb1)
  clear hcells hown hb1 HW
  have hm0 : ¬ (m : Int) < 2 := by omega
  obtain ⟨wB, hwB⟩ : ∃ wB : World, wB = w1.alloc (.cells keyCells 103) := ⟨_, rfl⟩
  have tB : Below w1.heap.size w1 wB := by rw [hwB]; exact (Below.refl _ _).alloc (Nat.le_refl _) _
  have tK : wB.heap[w1.heap.size]? = some (.cells keyCells 103 (0, 0)) := by rw [hwB]; exact heap_alloc_new w1 _
  unfold keyCells at hwB
  go_wp2_with fail
  rw [← hwB]
  clear hwB
  have HWB : Hid (∀ j (hj : j < ws.length), wB.cell? ⟨g, j, none⟩ = some (.string ⟨ws[j].toArray⟩)) := Lib.hid (fun j hj => cell_later tB (HWS.out j hj))
  have HSB := Lib.hid (HS1.out.below tB)
  have HBB := Lib.hid ((HB1.out.mono H.out.size).trans (tB.mono HS1.out.size))
  have HBW := Lib.hid (HB1.out.trans (tB.mono HB1.out.size))
  have HK := Lib.hid tK
  generalize w1.heap.size = kb at *
  clear tB tK HWS HS1 HB1
  have c0 := HWB.out 0 (by omega)
  have ha0 : ws[0]'(by omega) = a0 := hz
  rw [ha0, ← HX0.out] at c0
  clear ha0
  go_loopg [7] 8 (fun n i wr => ∃ j : Nat, j ≤ 7 ∧ i = .int .i64 j ∧ 8 - j ≤ n ∧ ∃ q, wr = wB.drewN q)
  case atStart => exact ⟨0, Nat.zero_le _, rfl, by omega, 0, rfl⟩
  case round =>
    obtain ⟨j, hj, rfl, hn, q, rfl⟩ := hrel
    have h0j : (0 : Int) ≤ (j : Int) := by omega
    have hm0' : 0 < m := by omega
    by_cases hj7 : j < 7
    · have hj7' : (j : Int) < 7 := by omega
      have d0 : wB.cell? ⟨kb, j, none⟩ = some (.string ⟨(keys.getD j []).toArray⟩) := (L.blk_cell HK.out j).trans (keyCells_at hj7)
      have hq := HQ.out j hj7
      generalize (⟨(keys.getD j []).toArray⟩ : ByteArray) = xk at *
      go_wp2_with fail
      go_quiet (fail)
      go_wp2_with fail
      go_roundg (8 - (j + 1))
      case rel => exact ⟨j + 1, by omega, by go_num, Nat.le_refl _, _, rfl⟩
      case measure => omega
    · have hj8 : j = 7 := by omega
      subst hj8
      have hm3 : ¬ (m : Int) < 3 := by have := HM.out; omega
      have o0 : wB.cell? ⟨sb, 9, none⟩ = some (.bool true) := by rw [← h0]; exact L.blk_cell HSB.out.blk 9
      have o1 : wB.cell? ⟨sb, 10, none⟩ = some (.bool true) := by rw [← h1]; exact L.blk_cell HSB.out.blk 10
      have c1 := HWB.out 1 (by omega)
      have c2 := HWB.out 2 (by omega)
      have hN := refName_any ⟨(ws[1]'(by omega)).toArray⟩ (wB.drewN q) (by rw [list_size]; unfold maxLen; omega)
      rw [list_data, hnm] at hN
      obtain ⟨x1, hx1⟩ : ∃ x1 : ByteArray, x1 = ⟨(ws[1]'(by omega)).toArray⟩ := ⟨_, rfl⟩
      rw [← hx1] at hN c1
      have HX1 := Lib.hid hx1
      clear hx1
      obtain ⟨x2, hx2⟩ : ∃ x2 : ByteArray, x2 = ⟨(ws[2]'(by omega)).toArray⟩ := ⟨_, rfl⟩
      rw [← hx2] at HP c2
      clear hx2
      have HN := Lib.hid hN
      clear hN hnm
      have hm1 : (1 : Int) < m := by omega
      have hm2' : (2 : Int) < m := by omega
      have hm00 : (0 : Int) < m := by omega
      go_wp2_with fail
      with_reducible refine (HN.out).mono ?_
      rintro e w' ⟨rfl, rfl⟩
      go_wp2_with fail
      with_reducible refine (HP.out.call _).mono ?_
      rintro e w2 ⟨rfl, hb2'⟩
      have hb2 : Below wB.heap.size wB w2 := (below_drewN (Below.refl _ wB) q).trans hb2'
      have HS2 := Lib.hid (HSB.out.below hb2)
      have HB2 := Lib.hid (HBB.out.trans (hb2.mono HSB.out.size))
      have HW2 : Hid (∀ j (hj : j < ws.length), w2.cell? ⟨g, j, none⟩ = some (.string ⟨ws[j].toArray⟩)) := Lib.hid (fun j hj => cell_later hb2 (HWB.out j hj))
      clear hb2 hb2' HN HP HWB HSB HBB HBW c0 c1 c2 o0 o1 HK HQ
      go_wp2_with fail
      obtain ⟨W, hW⟩ : ∃ W : World, W = w2.alloc (.cells #[.int .i64 l, .int .u64 (k : Int)] 40) := ⟨_, rfl⟩
      rw [← hW]
      have hbW : Below w2.heap.size w2 W := by rw [hW]; exact (Below.refl _ _).alloc (Nat.le_refl _) _
      have HBX := Lib.hid (show W.heap[w2.heap.size]? = some (.cells #[.int .i64 l, .int .u64 (k : Int)] 40 (0, 0)) by rw [hW]; exact heap_alloc_new w2 _)
      have HSW := Lib.hid (HS2.out.below hbW)
      have HBWW := Lib.hid (HB2.out.trans (hbW.mono HS2.out.size))
      have HWW : Hid (∀ j (hj : j < ws.length), W.cell? ⟨g, j, none⟩ = some (.string ⟨ws[j].toArray⟩)) := Lib.hid (fun j hj => cell_later hbW (HW2.out j hj))
      clear hW hbW HS2 HB2 HW2
      generalize w2.heap.size = lb at *
      obtain ⟨⟨a0', a1', a2', a3', a4', a5'⟩, a6', a7', a8'⟩ := HSW.out.nine
      obtain ⟨b0, b1⟩ := lab_cells HBX.out
      have hkk : k < 18446744073709551616 := hk
      generalize s.p.ns.getD 0 0 = n0 at *
      generalize s.p.ns.getD 1 0 = n1 at *
      generalize s.p.ns.getD 2 0 = n2 at *
      generalize s.p.ns.getD 3 0 = n3 at *
      generalize s.p.ns.getD 4 0 = n4 at *
      generalize s.p.ns.getD 5 0 = n5 at *
      generalize (⟨s.p.hid.toArray⟩ : ByteArray) = hid at *
      go_still_tail 8, (by kernel_rfl)
      change wpList _ _ _ _ _ (World.drew _)
      clear a0' a1' a2' a3' a4' a5' a6' a7' a8'
      go_wp2_with fail
      with_reducible refine (refFits_any _ _ _ _ _ _ _ _ _ _ _ _ _ _ _ _ hkk).mono ?_
      rintro e w3 ⟨rfl, hb3'⟩
      have hb3 : Below W.heap.size W w3 := (drew_below W).trans hb3'
      have HS3 := Lib.hid (HSW.out.below hb3)
      have HB3 := Lib.hid (HBWW.out.trans (hb3.mono HSW.out.size))
      have HW3 : Hid (∀ j (hj : j < ws.length), w3.cell? ⟨g, j, none⟩ = some (.string ⟨ws[j].toArray⟩)) := Lib.hid (fun j hj => cell_later hb3 (HWW.out j hj))
      have HBX3 := Lib.hid ((hb3.block lb (L.blk_lt HBX.out)).trans HBX.out)
      clear hb3 hb3' b0 b1 HSW HBWW HWW HBX
      rw [HFI.out]
      have c0 := HW3.out 0 (by omega)
      have ha0 : ws[0]'(by omega) = a0 := hz
      rw [ha0, ← HX0.out] at c0
      clear ha0
      obtain ⟨⟨a0', a1', a2', a3', a4', a5'⟩, a6', a7', a8'⟩ := HS3.out.nine
      have c1 := HW3.out 1 (by omega)
      rw [← HX1.out] at c1
      have HU3 : Hid (UsersIn w3 uA s.p.us) := Lib.hid (by
        obtain ⟨A', cap', e1, e2⟩ := users_of_own HS3.out.us
        injection e1 with e1
        rw [e1]
        exact e2)
      have hsl : sb < w3.heap.size := L.blk_lt HS3.out.blk
      have hgl : g < w3.heap.size := World.block_lt_of_cell? w3 _ c1
      generalize s.p.ns.getD 0 0 = n0 at *
      generalize s.p.ns.getD 1 0 = n1 at *
      generalize s.p.ns.getD 2 0 = n2 at *
      generalize s.p.ns.getD 3 0 = n3 at *
      generalize s.p.ns.getD 4 0 = n4 at *
      generalize s.p.ns.getD 5 0 = n5 at *
      generalize (⟨s.p.hid.toArray⟩ : ByteArray) = hid at *
      have HK0 := Lib.hid (show K16 w3 sb g n0 n1 n2 n3 n4 n5 hid (.slice uA un ucap) (.slice fA fn fcap) x1 w3 from ⟨a0', a1', a2', a3', a4', a5', a6', a7', a8', c1, hsl, hgl, Below.refl _ _⟩)
      obtain ⟨yn, yl, yc, ya, hfd⟩ := refFind_cells n0 n1 n2 n3 n4 n5 hid uA fA ucap fn fcap un s.p.us x1 hul HUN.out
      obtain ⟨b, hb⟩ : ∃ b, b = decide (x1.data.toList ∈ s.p.us.map (·.name)) := ⟨_, rfl⟩
      rw [← hb] at hfd
      have hx1d : x1.data.toList = ws[1]'(by omega) := by rw [HX1.out, list_data]
      rw [hx1d] at hb
      have HBB' := Lib.hid hb
      have HFD := Lib.hid (show FdC _ _ uA s.p.us from hfd)
      clear hfd hb hx1d a0' a1' a2' a3' a4' a5' a6' a7' a8' c1 hsl hgl
      go_upto_region 16 with fail
      go_cut [10, 11] (fun s10 s11 wx => ∃ bx : Nat, s10 = .pointer (some ⟨bx, 0, none⟩) ∧ s11 = .bool b ∧ Hid (Below w3.heap.size w3 wx))
      case first =>
        clear c0 HW3 HBX3 HS3 HB3 HTU
        refine wp_region_held_drew (S := fun wz => wz.cell? ⟨sb, 0, none⟩ = some (.int .i64 n0) ∧ wz.cell? ⟨sb, 1, none⟩ = some (.int .i64 n1) ∧ wz.cell? ⟨sb, 2, none⟩ = some (.int .i64 n2) ∧ wz.cell? ⟨sb, 3, none⟩ = some (.int .i64 n3) ∧ wz.cell? ⟨sb, 4, none⟩ = some (.int .i64 n4) ∧ wz.cell? ⟨sb, 5, none⟩ = some (.int .i64 n5) ∧ wz.cell? ⟨sb, 6, none⟩ = some (.string hid) ∧ wz.cell? ⟨sb, 7, none⟩ = some (.slice uA un ucap) ∧ wz.cell? ⟨sb, 8, none⟩ = some (.slice fA fn fcap) ∧ wz.cell? ⟨g, 1, none⟩ = some (.string x1) ∧ Core w3 sb g wz) (by kernel_rfl) (k16_drew HK0.out) (fun hH0 => ?_)
        generalize w3.drew = W0 at *
        refine wpAnyH_take (i := 0) (oi := { dst := some 101, op := Go.Op.move (Go.Operand.tmp 0), type := 66, pos := "ref.go:172", after := #[], guard := none }) (v := ?_) rfl (by kernel_rfl) (by kernel_rfl) (by kernel_rfl) (fun _ _ _ h => h) (Or.inl ⟨by rfl, ?_⟩) hH0 ?_
        rotate_left
        · (intro wz hSz; (try dsimp only at hSz); go_simp; try with_reducible rfl)
        try simp only [Act.put, List.setIfInBounds_toArray, List.set_cons_zero, List.set_cons_succ]
        refine wpAnyH_take (i := 1) (oi := { dst := some 102, op := Go.Op.nilCheck (Go.Operand.tmp 101), type := 0, pos := "ref.go:172", after := #[{ on := 0, ground := Go.Ground.data }], guard := none }) (v := ?_) rfl (by kernel_rfl) (by kernel_rfl) (by kernel_rfl) (fun _ _ _ h => h) (Or.inl ⟨by rfl, ?_⟩) hH0 ?_
        rotate_left
        · (intro wz hSz; (try dsimp only at hSz); go_simp; try with_reducible rfl)
        try simp only [Act.put, List.setIfInBounds_toArray, List.set_cons_zero, List.set_cons_succ]
        refine wpAnyH_take (i := 2) (oi := { dst := some 103, op := Go.Op.fieldAddr 69 (Go.Operand.tmp 102) 0, type := 0, pos := "ref.go:172", after := #[{ on := 1, ground := Go.Ground.data }], guard := none }) (v := ?_) rfl (by kernel_rfl) (by kernel_rfl) (by kernel_rfl) (fun _ _ _ h => h) (Or.inl ⟨by rfl, ?_⟩) hH0 ?_
        rotate_left
        · (intro wz hSz; (try dsimp only at hSz); go_simp; try with_reducible rfl)
        try simp only [Act.put, List.setIfInBounds_toArray, List.set_cons_zero, List.set_cons_succ]
        refine wpAnyH_take (i := 3) (oi := { dst := some 104, op := Go.Op.load 26 (Go.Operand.tmp 103), type := 26, pos := "ref.go:172", after := #[{ on := 2, ground := Go.Ground.data }], guard := none }) (v := ?_) rfl (by kernel_rfl) (by kernel_rfl) (by kernel_rfl) (fun _ _ _ h => h) (Or.inl ⟨by rfl, ?_⟩) hH0 ?_
        rotate_left
        · (intro wz hSz; (try dsimp only at hSz); go_simp; try with_reducible rfl)
        try simp only [Act.put, List.setIfInBounds_toArray, List.set_cons_zero, List.set_cons_succ]
        refine wpAnyH_take (i := 4) (oi := { dst := some 105, op := Go.Op.move (Go.Operand.tmp 5), type := 60, pos := "ref.go:172", after := #[], guard := none }) (v := ?_) rfl (by kernel_rfl) (by kernel_rfl) (by kernel_rfl) (fun _ _ _ h => h) (Or.inl ⟨by rfl, ?_⟩) hH0 ?_
        rotate_left
        · (intro wz hSz; (try dsimp only at hSz); go_simp; try with_reducible rfl)
        try simp only [Act.put, List.setIfInBounds_toArray, List.set_cons_zero, List.set_cons_succ]
        refine wpAnyH_take (i := 5) (oi := { dst := some 106, op := Go.Op.indexAddr 60 (Go.Operand.tmp 105) (Go.Operand.const (Go.Value.int Go.IntKind.i64 1)), type := 0, pos := "ref.go:172", after := #[{ on := 4, ground := Go.Ground.data }], guard := none }) (v := ?_) rfl (by kernel_rfl) (by kernel_rfl) (by kernel_rfl) (fun _ _ _ h => h) (Or.inl ⟨by rfl, ?_⟩) hH0 ?_
        rotate_left
        · (intro wz hSz; (try dsimp only at hSz); go_simp; try with_reducible rfl)
        try simp only [Act.put, List.setIfInBounds_toArray, List.set_cons_zero, List.set_cons_succ]
        refine wpAnyH_take (i := 6) (oi := { dst := some 107, op := Go.Op.load 9 (Go.Operand.tmp 106), type := 9, pos := "ref.go:172", after := #[{ on := 5, ground := Go.Ground.data }], guard := none }) (v := ?_) rfl (by kernel_rfl) (by kernel_rfl) (by kernel_rfl) (fun _ _ _ h => h) (Or.inl ⟨by rfl, ?_⟩) hH0 ?_
        rotate_left
        · (intro wz hSz; (try dsimp only at hSz); go_simp; try with_reducible rfl)
        try simp only [Act.put, List.setIfInBounds_toArray, List.set_cons_zero, List.set_cons_succ]
        refine wpAnyH_ready (rs := [7, 11]) (by kernel_rfl) (by simp) ?_
        refine AllReadyH.cons (o := { dst := some 108, op := Go.Op.call { callee := Go.Callee.value (Go.Operand.func 70), args := #[Go.Operand.tmp 104, Go.Operand.tmp 107], argTypes := #[26, 9] }, type := 73, pos := "ref.go:172", after := #[{ on := 3, ground := Go.Ground.data }, { on := 6, ground := Go.Ground.data }], guard := none }) rfl (fun K hK => ?_) (AllReadyH.cons (o := { dst := some 10, op := Go.Op.alloc 72, type := 0, pos := "ref.go:172", after := #[], guard := none }) rfl (fun K hK => ?_) (AllReadyH.nil))
        · skip
          go_simp
          with_reducible refine (HFD.out.call (HU3.out.below (k16_end hH0))).mono ?_
          rintro r W1 ⟨rfl, hbq⟩
          go_wp2_with fail
          refine hK.out _ _ (k16_below hH0 hbq) (fun hH1 => ?_)
          clear hK K hbq hH0
          try simp only [Act.put, List.setIfInBounds_toArray, List.set_cons_zero, List.set_cons_succ]
          refine wpAnyH_take (i := 8) (oi := { dst := some 100, op := Go.Op.move (Go.Operand.tmp 108), type := 73, pos := "ref.go:172", after := #[{ on := 7, ground := Go.Ground.data }], guard := none }) (v := ?_) rfl (by kernel_rfl) (by kernel_rfl) (by kernel_rfl) (fun _ _ _ h => h) (Or.inl ⟨by rfl, ?_⟩) hH1 ?_
          rotate_left
          · (intro wz hSz; (try dsimp only at hSz); go_simp; try with_reducible rfl)
          try simp only [Act.put, List.setIfInBounds_toArray, List.set_cons_zero, List.set_cons_succ]
          refine wpAnyH_take (i := 9) (oi := { dst := some 109, op := Go.Op.extract (Go.Operand.tmp 100) 0, type := 72, pos := "ref.go:172", after := #[{ on := 8, ground := Go.Ground.data }], guard := none }) (v := ?_) rfl (by kernel_rfl) (by kernel_rfl) (by kernel_rfl) (fun _ _ _ h => h) (Or.inl ⟨by rfl, ?_⟩) hH1 ?_
          rotate_left
          · (intro wz hSz; (try dsimp only at hSz); go_simp; try with_reducible rfl)
          try simp only [Act.put, List.setIfInBounds_toArray, List.set_cons_zero, List.set_cons_succ]
          refine wpAnyH_take (i := 10) (oi := { dst := some 110, op := Go.Op.extract (Go.Operand.tmp 100) 1, type := 4, pos := "ref.go:172", after := #[{ on := 8, ground := Go.Ground.data }, { on := 12, ground := Go.Ground.gcOnly Go.Departure.lateStores }], guard := none }) (v := ?_) rfl (by kernel_rfl) (by kernel_rfl) (by kernel_rfl) (fun _ _ _ h => h) (Or.inl ⟨by rfl, ?_⟩) hH1 ?_
          rotate_left
          · (intro wz hSz; (try dsimp only at hSz); go_simp; try with_reducible rfl)
          try simp only [Act.put, List.setIfInBounds_toArray, List.set_cons_zero, List.set_cons_succ]
          refine wpAnyH_ready (rs := [11]) (by kernel_rfl) (by simp) ?_
          refine AllReadyH.cons (o := { dst := some 10, op := Go.Op.alloc 72, type := 0, pos := "ref.go:172", after := #[], guard := none }) rfl (fun K hK => ?_) (AllReadyH.nil)
          go_simp
          refine hK.out _ _ (k16_alloc hH1 _) (fun hH2 => ?_)
          have HBX := Lib.hid (heap_alloc_new W1 (.cells #[.string ⟨#[]⟩, .int .i64 0, .int .u64 0, .bool false] 72))
          have hz := k16_size hH1
          clear hK K hH1
          generalize W1.alloc (.cells #[.string ⟨#[]⟩, .int .i64 0, .int .u64 0, .bool false] 72) = W2 at *
          generalize W1.heap.size = bx at *
          try simp only [Act.put, List.setIfInBounds_toArray, List.set_cons_zero, List.set_cons_succ]
          refine wpAnyH_ready (rs := [12]) (by kernel_rfl) (by simp) ?_
          refine AllReadyH.cons (o := { dst := none, op := Go.Op.store 72 (Go.Operand.tmp 10) (Go.Operand.tmp 109), type := 0, pos := "ref.go:172", after := #[{ on := 11, ground := Go.Ground.data }, { on := 9, ground := Go.Ground.data }, { on := 7, ground := Go.Ground.chain }, { on := 0, ground := Go.Ground.phase }, { on := 1, ground := Go.Ground.phase }, { on := 2, ground := Go.Ground.phase }, { on := 3, ground := Go.Ground.phase }, { on := 4, ground := Go.Ground.phase }, { on := 5, ground := Go.Ground.phase }, { on := 6, ground := Go.Ground.phase }, { on := 7, ground := Go.Ground.phase }, { on := 8, ground := Go.Ground.phase }, { on := 9, ground := Go.Ground.phase }, { on := 10, ground := Go.Ground.textOnly Go.Departure.lateStores }, { on := 11, ground := Go.Ground.phase }], guard := none }) rfl (fun K hK => ?_) (AllReadyH.nil)
          obtain ⟨⟨c0, c1, c2, c3⟩, f0, f1, f2, f3⟩ := usr_cells HBX.out
          go_simp
          refine hK.out _ _ (k16_set (k16_set (k16_set (k16_set hH2 hz _) hz _) hz _) hz _) (fun hH3 => ?_)
          clear hK K hH2 c0 c1 c2 c3 f0 f1 f2 f3 HBX
          try simp only [Act.put, List.setIfInBounds_toArray, List.set_cons_zero, List.set_cons_succ]
          refine wpAnyH_take (i := 13) (oi := { dst := some 11, op := Go.Op.assign (Go.Operand.tmp 110), type := 4, pos := "ref.go:172", after := #[{ on := 10, ground := Go.Ground.data }, { on := 12, ground := Go.Ground.chain }, { on := 0, ground := Go.Ground.phase }, { on := 1, ground := Go.Ground.phase }, { on := 2, ground := Go.Ground.phase }, { on := 3, ground := Go.Ground.phase }, { on := 4, ground := Go.Ground.phase }, { on := 5, ground := Go.Ground.phase }, { on := 6, ground := Go.Ground.phase }, { on := 7, ground := Go.Ground.phase }, { on := 8, ground := Go.Ground.phase }, { on := 9, ground := Go.Ground.phase }, { on := 10, ground := Go.Ground.phase }, { on := 11, ground := Go.Ground.phase }, { on := 12, ground := Go.Ground.phase }], guard := none }) (v := ?_) rfl (by kernel_rfl) (by kernel_rfl) (by kernel_rfl) (fun _ _ _ h => h) (Or.inl ⟨by rfl, ?_⟩) hH3 ?_
          rotate_left
          · (intro wz hSz; (try dsimp only at hSz); go_simp; try with_reducible rfl)
          try simp only [Act.put, List.setIfInBounds_toArray, List.set_cons_zero, List.set_cons_succ]
          refine wpAnyH_done (by kernel_rfl) ?_ _
          go_wp2_with fail
          go_meet
          exact ⟨bx, rfl, rfl, Lib.hid (k16_end hH3)⟩
        · skip
          go_simp
          refine hK.out _ _ (k16_alloc hH0 _) (fun hH1 => ?_)
          have HBX := Lib.hid (heap_alloc_new W0 (.cells #[.string ⟨#[]⟩, .int .i64 0, .int .u64 0, .bool false] 72))
          have hz := k16_size hH0
          clear hK K hH0
          generalize W0.alloc (.cells #[.string ⟨#[]⟩, .int .i64 0, .int .u64 0, .bool false] 72) = W1 at *
          generalize W0.heap.size = bx at *
          try simp only [Act.put, List.setIfInBounds_toArray, List.set_cons_zero, List.set_cons_succ]
          refine wpAnyH_ready (rs := [7]) (by kernel_rfl) (by simp) ?_
          refine AllReadyH.cons (o := { dst := some 108, op := Go.Op.call { callee := Go.Callee.value (Go.Operand.func 70), args := #[Go.Operand.tmp 104, Go.Operand.tmp 107], argTypes := #[26, 9] }, type := 73, pos := "ref.go:172", after := #[{ on := 3, ground := Go.Ground.data }, { on := 6, ground := Go.Ground.data }], guard := none }) rfl (fun K hK => ?_) (AllReadyH.nil)
          go_simp
          with_reducible refine (HFD.out.call (HU3.out.below (k16_end hH1))).mono ?_
          rintro r W2 ⟨rfl, hbq⟩
          go_wp2_with fail
          refine hK.out _ _ (k16_below hH1 hbq) (fun hH2 => ?_)
          replace HBX := Lib.hid ((hbq.block _ (L.blk_lt HBX.out)).trans HBX.out)
          clear hK K hbq hH1
          try simp only [Act.put, List.setIfInBounds_toArray, List.set_cons_zero, List.set_cons_succ]
          refine wpAnyH_take (i := 8) (oi := { dst := some 100, op := Go.Op.move (Go.Operand.tmp 108), type := 73, pos := "ref.go:172", after := #[{ on := 7, ground := Go.Ground.data }], guard := none }) (v := ?_) rfl (by kernel_rfl) (by kernel_rfl) (by kernel_rfl) (fun _ _ _ h => h) (Or.inl ⟨by rfl, ?_⟩) hH2 ?_
          rotate_left
          · (intro wz hSz; (try dsimp only at hSz); go_simp; try with_reducible rfl)
          try simp only [Act.put, List.setIfInBounds_toArray, List.set_cons_zero, List.set_cons_succ]
          refine wpAnyH_take (i := 9) (oi := { dst := some 109, op := Go.Op.extract (Go.Operand.tmp 100) 0, type := 72, pos := "ref.go:172", after := #[{ on := 8, ground := Go.Ground.data }], guard := none }) (v := ?_) rfl (by kernel_rfl) (by kernel_rfl) (by kernel_rfl) (fun _ _ _ h => h) (Or.inl ⟨by rfl, ?_⟩) hH2 ?_
          rotate_left
          · (intro wz hSz; (try dsimp only at hSz); go_simp; try with_reducible rfl)
          try simp only [Act.put, List.setIfInBounds_toArray, List.set_cons_zero, List.set_cons_succ]
          refine wpAnyH_take (i := 10) (oi := { dst := some 110, op := Go.Op.extract (Go.Operand.tmp 100) 1, type := 4, pos := "ref.go:172", after := #[{ on := 8, ground := Go.Ground.data }, { on := 12, ground := Go.Ground.gcOnly Go.Departure.lateStores }], guard := none }) (v := ?_) rfl (by kernel_rfl) (by kernel_rfl) (by kernel_rfl) (fun _ _ _ h => h) (Or.inl ⟨by rfl, ?_⟩) hH2 ?_
          rotate_left
          · (intro wz hSz; (try dsimp only at hSz); go_simp; try with_reducible rfl)
          try simp only [Act.put, List.setIfInBounds_toArray, List.set_cons_zero, List.set_cons_succ]
          refine wpAnyH_ready (rs := [12]) (by kernel_rfl) (by simp) ?_
          refine AllReadyH.cons (o := { dst := none, op := Go.Op.store 72 (Go.Operand.tmp 10) (Go.Operand.tmp 109), type := 0, pos := "ref.go:172", after := #[{ on := 11, ground := Go.Ground.data }, { on := 9, ground := Go.Ground.data }, { on := 7, ground := Go.Ground.chain }, { on := 0, ground := Go.Ground.phase }, { on := 1, ground := Go.Ground.phase }, { on := 2, ground := Go.Ground.phase }, { on := 3, ground := Go.Ground.phase }, { on := 4, ground := Go.Ground.phase }, { on := 5, ground := Go.Ground.phase }, { on := 6, ground := Go.Ground.phase }, { on := 7, ground := Go.Ground.phase }, { on := 8, ground := Go.Ground.phase }, { on := 9, ground := Go.Ground.phase }, { on := 10, ground := Go.Ground.textOnly Go.Departure.lateStores }, { on := 11, ground := Go.Ground.phase }], guard := none }) rfl (fun K hK => ?_) (AllReadyH.nil)
          obtain ⟨⟨c0, c1, c2, c3⟩, f0, f1, f2, f3⟩ := usr_cells HBX.out
          go_simp
          refine hK.out _ _ (k16_set (k16_set (k16_set (k16_set hH2 hz _) hz _) hz _) hz _) (fun hH3 => ?_)
          clear hK K hH2 c0 c1 c2 c3 f0 f1 f2 f3 HBX
          try simp only [Act.put, List.setIfInBounds_toArray, List.set_cons_zero, List.set_cons_succ]
          refine wpAnyH_take (i := 13) (oi := { dst := some 11, op := Go.Op.assign (Go.Operand.tmp 110), type := 4, pos := "ref.go:172", after := #[{ on := 10, ground := Go.Ground.data }, { on := 12, ground := Go.Ground.chain }, { on := 0, ground := Go.Ground.phase }, { on := 1, ground := Go.Ground.phase }, { on := 2, ground := Go.Ground.phase }, { on := 3, ground := Go.Ground.phase }, { on := 4, ground := Go.Ground.phase }, { on := 5, ground := Go.Ground.phase }, { on := 6, ground := Go.Ground.phase }, { on := 7, ground := Go.Ground.phase }, { on := 8, ground := Go.Ground.phase }, { on := 9, ground := Go.Ground.phase }, { on := 10, ground := Go.Ground.phase }, { on := 11, ground := Go.Ground.phase }, { on := 12, ground := Go.Ground.phase }], guard := none }) (v := ?_) rfl (by kernel_rfl) (by kernel_rfl) (by kernel_rfl) (fun _ _ _ h => h) (Or.inl ⟨by rfl, ?_⟩) hH3 ?_
          rotate_left
          · (intro wz hSz; (try dsimp only at hSz); go_simp; try with_reducible rfl)
          try simp only [Act.put, List.setIfInBounds_toArray, List.set_cons_zero, List.set_cons_succ]
          refine wpAnyH_done (by kernel_rfl) ?_ _
          go_wp2_with fail
          go_meet
          exact ⟨bx, rfl, rfl, Lib.hid (k16_end hH3)⟩
      case rest =>
      obtain ⟨bx, rfl, rfl, HK⟩ := hcut
      have HS5 := Lib.hid (HS3.out.below HK.out)
      have HB5 := Lib.hid (HB3.out.trans (HK.out.mono HS3.out.size))
      have HW5 : Hid (∀ j (hj : j < ws.length), wc.cell? ⟨g, j, none⟩ = some (.string ⟨ws[j].toArray⟩)) := Lib.hid (fun j hj => cell_later HK.out (HW3.out j hj))
      have HBX5 := Lib.hid ((HK.out.block lb (L.blk_lt HBX3.out)).trans HBX3.out)
      clear HFD HS3 HB3 HW3 HBX3 c0 HU3 HK0 HK
      have c7 : wc.cell? ⟨sb, 7, none⟩ = some (.slice uA un ucap) := L.blk_cell HS5.out.blk 7
      cases b
      · have HMEM := Lib.hid (of_decide_eq_false HBB'.out.symm)
        clear HBB'
        by_cases h32 : un < 32
        · have h32' : ¬ (32 : Int) ≤ (un : Int) := by omega
          by_cases h4 : m ≤ 4
          · have h4' : ¬ (4 : Int) < (m : Int) := by omega
            by_cases h44 : m = 4
            · have he4 : ((m : Int) == 4) = true := beq_iff_eq.2 (by omega)
              have hj3 : (3 : Int) < (m : Int) := by omega
              have hw3 : 3 < ws.length := by have := HM.out; omega
              have c3 := HW5.out 3 hw3
              obtain ⟨x3, hx3⟩ : ∃ x3 : ByteArray, x3 = ⟨(ws[3]'(by omega)).toArray⟩ := ⟨_, rfl⟩
              rw [← hx3] at c3
              have hq3 : (x3.toList == [97, 100, 109, 105, 110]) = decide (ws[3]'(by omega) = kAdmin) := by rw [hx3]; exact str_is _ kAdmin
              have hq3' : (x3.toList != [97, 100, 109, 105, 110]) = !decide (ws[3]'(by omega) = kAdmin) := by rw [bne, hq3]
              clear hx3
              by_cases had : ws[3]'(by omega) = kAdmin
              · rw [decide_eq_true had] at hq3 hq3'
                have HYES := Lib.hid (show o = some ⟨{ s.p with us := s.p.us ++ [⟨ws[1]'(by omega), l, k, true⟩] }, s.once⟩ by
                  have hw4 : ws.length = 4 := by have := HM.out; omega
                  rw [HTU.out, if_pos ⟨by omega, fun _ => had⟩, if_pos ⟨by rw [← HUN.out]; exact h32, HMEM.out⟩, decide_eq_true hw4])
                clear had HTU HMEM
                go_wp2_with fail
                clear c7 c3
                have hcf : wc.cell? ⟨sb, 7, none⟩ = some (.slice uA un ucap) := L.blk_cell HS5.out.blk 7
                have hzf : wc.frozen? ⟨sb, 7, none⟩ = false := L.blk_free HS5.out.blk 7
                obtain ⟨b0, b1⟩ := lab_cells HBX5.out
                have c1 := HW5.out 1 (by omega)
                rw [← HX1.out] at c1
                have hown : wc.drew.ownsRow base 72 4 (.slice uA un ucap) un (usrCells s.p.us) := by have := HS5.out.us; rw [← HUN.out] at this; exact this
                have hownA : (wc.alloc (.cells #[.string x1, .int .i64 l, .int .u64 (k : Int), .bool true] 72)).drew.ownsRow base 72 4 (.slice uA un ucap) un (usrCells s.p.us) := World.ownsRow.alloc hown _
                have HNW := Lib.hid (World.news_of_block (w := (wc.alloc (.cells #[.string x1, .int .i64 l, .int .u64 (k : Int), .bool true] 72)).drew) (heap_alloc_new wc _))
                have H1C : Hid (∀ u ∈ ([.string x1, .int .i64 l, .int .u64 (k : Int), .bool true] : List Value), u.oneCell' = true) := Lib.hid (by intro u hu; simp at hu; rcases hu with rfl | rfl | rfl | rfl <;> rfl)
                have hrt : some sb ≠ (Value.slice uA un ucap).ownBlock := fun e => by
                  rcases own_ne hown (g := sb) (fun cs => ne_type (by decide) HS5.out.blk) with h0 | h0
                  · rw [h0] at e; cases e
                  · exact h0 e.symm
                have HRT := Lib.hid hrt
                have hrl : sb < wc.heap.size := L.blk_lt HS5.out.blk
                have hbs : base ≤ wc.heap.size := HS5.out.size
                have HOA := Lib.hid hownA
                have HVV := Lib.hid (show (Value.slice uA un ucap) = .slice uA s.p.us.length ucap by rw [HUN.out])
                clear hrt hownA hown
                go_region_law ((refine step_append_lies _ (by rfl) (.tmp 142) (.tmp 151) 23 (by rfl) base 72 i0 _ 4 40 Tryd.underlying23 hi0 hz0 hz1 hz2 rfl (by decide) (.slice uA un ucap) un (usrCells s.p.us) (by rfl) HOA.out ⟨wc.heap.size, 0, none⟩ 1 1 [.string x1, .int .i64 l, .int .u64 (k : Int), .bool true] (by rfl) rfl HNW.out H1C.out (by omega) (by unfold maxLen; omega) (by omega) (by simp; omega) _ rfl ?_; intro g3 cap3 w5 hown3 hgrow3 hat3 hlt3; have hc3 := hgrow3.cell_far ⟨sb, 7, none⟩ (by simp; omega) HRT.out; have hz3 := hgrow3.frozen_far ⟨sb, 7, none⟩ (by simp; omega) HRT.out))
                all_goals
                  go_wp2_with fail
                  go_ret
                  rw [HYES.out]
                  obtain ⟨q1, q2⟩ := sdPushUsr (x := ⟨ws[1]'(by omega), l, k, true⟩) HS5.out HB5.out HUN.out HVV.out hgrow3 (by rw [HX1.out] at hown3; exact hown3)
                  exact ⟨rfl, ⟨_, _, q1⟩, q2⟩
              · rw [decide_eq_false had] at hq3 hq3'
                have HNO := Lib.hid (show o = none by rw [HTU.out, if_neg (fun h' => had (h'.2 hw3))])
                clear had HTU HMEM
                go_wp2_with fail
                go_ret
                rw [HNO.out]
                exact ⟨rfl, HB5.out.bx⟩
            · have he4 : ((m : Int) == 4) = false := beq_eq_false_iff_ne.2 (by omega)
              have c3 : True := trivial
              have HYES := Lib.hid (show o = some ⟨{ s.p with us := s.p.us ++ [⟨ws[1]'(by omega), l, k, false⟩] }, s.once⟩ by
                have hw4 : ¬ ws.length = 4 := by have := HM.out; omega
                have hw3 : ws.length = 3 := by have := HM.out; omega
                rw [HTU.out, if_pos ⟨by omega, fun h => absurd h (by omega)⟩, if_pos ⟨by rw [← HUN.out]; exact h32, HMEM.out⟩, decide_eq_false hw4])
              clear HTU HMEM
              go_wp2_with fail
              clear c7 c3
              have hcf : wc.cell? ⟨sb, 7, none⟩ = some (.slice uA un ucap) := L.blk_cell HS5.out.blk 7
              have hzf : wc.frozen? ⟨sb, 7, none⟩ = false := L.blk_free HS5.out.blk 7
              obtain ⟨b0, b1⟩ := lab_cells HBX5.out
              have c1 := HW5.out 1 (by omega)
              rw [← HX1.out] at c1
              have hown : wc.drew.ownsRow base 72 4 (.slice uA un ucap) un (usrCells s.p.us) := by have := HS5.out.us; rw [← HUN.out] at this; exact this
              have hownA : (wc.alloc (.cells #[.string x1, .int .i64 l, .int .u64 (k : Int), .bool false] 72)).drew.ownsRow base 72 4 (.slice uA un ucap) un (usrCells s.p.us) := World.ownsRow.alloc hown _
              have HNW := Lib.hid (World.news_of_block (w := (wc.alloc (.cells #[.string x1, .int .i64 l, .int .u64 (k : Int), .bool false] 72)).drew) (heap_alloc_new wc _))
              have H1C : Hid (∀ u ∈ ([.string x1, .int .i64 l, .int .u64 (k : Int), .bool false] : List Value), u.oneCell' = true) := Lib.hid (by intro u hu; simp at hu; rcases hu with rfl | rfl | rfl | rfl <;> rfl)
              have hrt : some sb ≠ (Value.slice uA un ucap).ownBlock := fun e => by
                rcases own_ne hown (g := sb) (fun cs => ne_type (by decide) HS5.out.blk) with h0 | h0
                · rw [h0] at e; cases e
                · exact h0 e.symm
              have HRT := Lib.hid hrt
              have hrl : sb < wc.heap.size := L.blk_lt HS5.out.blk
              have hbs : base ≤ wc.heap.size := HS5.out.size
              have HOA := Lib.hid hownA
              have HVV := Lib.hid (show (Value.slice uA un ucap) = .slice uA s.p.us.length ucap by rw [HUN.out])
              clear hrt hownA hown
              go_region_law ((refine step_append_lies _ (by rfl) (.tmp 142) (.tmp 151) 23 (by rfl) base 72 i0 _ 4 40 Tryd.underlying23 hi0 hz0 hz1 hz2 rfl (by decide) (.slice uA un ucap) un (usrCells s.p.us) (by rfl) HOA.out ⟨wc.heap.size, 0, none⟩ 1 1 [.string x1, .int .i64 l, .int .u64 (k : Int), .bool false] (by rfl) rfl HNW.out H1C.out (by omega) (by unfold maxLen; omega) (by omega) (by simp; omega) _ rfl ?_; intro g3 cap3 w5 hown3 hgrow3 hat3 hlt3; have hc3 := hgrow3.cell_far ⟨sb, 7, none⟩ (by simp; omega) HRT.out; have hz3 := hgrow3.frozen_far ⟨sb, 7, none⟩ (by simp; omega) HRT.out))
              all_goals
                go_wp2_with fail
                go_ret
                rw [HYES.out]
                obtain ⟨q1, q2⟩ := sdPushUsr (x := ⟨ws[1]'(by omega), l, k, false⟩) HS5.out HB5.out HUN.out HVV.out hgrow3 (by rw [HX1.out] at hown3; exact hown3)
                exact ⟨rfl, ⟨_, _, q1⟩, q2⟩
          · have h4' : (4 : Int) < (m : Int) := by omega
            have HNO := Lib.hid (show o = none by rw [HTU.out, if_neg (fun h' => by have := HM.out; omega)])
            clear HTU HMEM
            go_wp2_with fail
            go_ret
            rw [HNO.out]
            exact ⟨rfl, HB5.out.bx⟩
        · have h32' : (32 : Int) ≤ (un : Int) := by omega
          have HNO := Lib.hid (show o = none by
            rw [HTU.out]
            split
            · rw [if_neg (fun h' => h32 (by rw [HUN.out]; exact h'.1))]
            · rfl)
          clear HTU HMEM
          go_wp2_with fail
          go_ret
          rw [HNO.out]
          exact ⟨rfl, HB5.out.bx⟩
      · have HMEM := Lib.hid (of_decide_eq_true HBB'.out.symm)
        clear HBB'
        have HNO := Lib.hid (show o = none by
          rw [HTU.out]
          split
          · rw [if_neg (fun h' => h'.2 HMEM.out)]
          · rfl)
        clear HTU HMEM
        go_wp2_with fail
        go_ret
        rw [HNO.out]
        exact ⟨rfl, HB5.out.bx⟩

end Go.Proofs.YtadhhamfikpimaaDoor.O

namespace Go.Proofs.YtadhhamfikpimaaDoor.O
set_option linter.unusedVariables false
set_option linter.unusedSimpArgs false
open Go.RowKit
open T
attribute [local go_sem ↓] Go.wp_at_zero Go.wp_at_succ
variable {w w' : World} {base sb : Nat} {s : St} {uv fv : Value}


set_option maxRecDepth 100000 in
set_option maxHeartbeats 4000000 in
theorem rline_floor_lab (h : Sd w base sb s uv fv) (x : ByteArray) (hx : x.size ≤ 8192) (ws : List (List UInt8)) (a0 : List UInt8) (hws : P.words [] x.data.toList = ws) (hlen : 2 ≤ ws.length) (hz : ws[0]'(by omega) = a0) (HNK : Hid (∀ j, j < 7 → keys.getD j [] ≠ a0)) (ha : a0 = kFloor) (h3 : 3 ≤ ws.length) (h0 : s.once.getD 0 false = true) (h1 : s.once.getD 1 false = true) (hl1 : (ws[1]'(by omega)).length ≤ 8192) (hnm : P.name (ws[1]'(by omega)) = true) (l k : Nat) (hk : k < 18446744073709551616) (HP : Hid (RPs ⟨(ws[2]'(by omega)).toArray⟩ l k true)) (HFI : Hid (fitsB (s.p.ns.getD 0 0) (s.p.ns.getD 1 0) l k = true)) (HLF : Hid (labelFor s (ws[2]'(by omega)) = some (l, k))) (hfl : s.p.fs.length ≤ maxLen) :
    Calls Tryd.prog 38 #[.pointer (some ⟨sb, 0, none⟩), .string x] w (RlEnd w base sb (takeFloor s ws)) := by
  unfold maxLen at hfl
  have HTU : Hid (takeFloor s ws = if ws.length ≤ 3 then (if s.p.fs.length < 32 ∧ (ws[1]'(by omega)) ∉ s.p.fs.map (·.pre) then some ⟨{ s.p with fs := s.p.fs ++ [⟨ws[1]'(by omega), l, k⟩] }, s.once⟩ else none) else none) := Lib.hid (by
    rw [takeFloor_eq s ws h3]
    rw [HLF.out, hnm]
    simp only [true_and, Option.map_some])
  clear HLF
  obtain ⟨o, ho⟩ : ∃ o, o = takeFloor s ws := ⟨_, rfl⟩
  rw [← ho] at HTU ⊢
  clear ho
  obtain ⟨i0, hi0, hz0, hz1, hz2⟩ := info_parts infoFlr
  obtain ⟨uA, ucap, hu, -, -⟩ := own_form h.us
  obtain ⟨fA, fcap, hf, -, -⟩ := own_form h.fs
  obtain ⟨un, hun⟩ : ∃ un, un = s.p.us.length := ⟨_, rfl⟩
  obtain ⟨fn, hfn⟩ : ∃ fn, fn = s.p.fs.length := ⟨_, rfl⟩
  rw [← hun] at hu
  rw [← hfn] at hf
  subst hu hf
  have HUN := Lib.hid hun
  have HFN := Lib.hid hfn
  clear hun hfn
  have hW := refWords_any x w (by omega)
  rw [hws] at hW
  have HW := Lib.hid hW
  have H := Lib.hid h
  clear h hW
  obtain ⟨m, hm⟩ : ∃ m, m = ws.length := ⟨_, rfl⟩
  have hm2 : 2 ≤ m := by rw [hm]; exact hlen
  have HM := Lib.hid hm
  obtain ⟨x0, hx0⟩ : ∃ x0 : ByteArray, x0 = ⟨a0.toArray⟩ := ⟨_, rfl⟩
  have HQ : Hid (∀ j, j < 7 → ((⟨(keys.getD j []).toArray⟩ : ByteArray).toList == x0.toList) = false) := Lib.hid (fun j hj => by rw [hx0, key_beq]; exact decide_eq_false (HNK.out j hj))
  have HX0 := Lib.hid hx0
  clear hm
  have qu : (x0.toList == [117, 115, 101, 114]) = false := by rw [hx0, str_is]; exact decide_eq_false (by rw [ha]; decide)
  have qf : (x0.toList == [102, 108, 111, 111, 114]) = true := by rw [hx0, str_is]; exact decide_eq_true ha
  clear hx0
  go_enter Tryd.func38, Tryd.ntmps38
  go_wp2_with fail
  with_reducible refine (HW.out).mono ?_
  rintro e w1 ⟨v1, rfl, hown, hb1⟩
  obtain ⟨g, cap, hv, hlt, hcells⟩ := words_own hown (by omega)
  subst hv
  have HWS := Lib.hid hcells
  rw [← HM.out]
  have HB1 := Lib.hid hb1
  have HS1 := Lib.hid (H.out.below hb1)
  clear hcells hown hb1 HW
  have hm0 : ¬ (m : Int) < 2 := by omega
  obtain ⟨wB, hwB⟩ : ∃ wB : World, wB = w1.alloc (.cells keyCells 103) := ⟨_, rfl⟩
  have tB : Below w1.heap.size w1 wB := by rw [hwB]; exact (Below.refl _ _).alloc (Nat.le_refl _) _
  have tK : wB.heap[w1.heap.size]? = some (.cells keyCells 103 (0, 0)) := by rw [hwB]; exact heap_alloc_new w1 _
  unfold keyCells at hwB
  go_wp2_with fail
  rw [← hwB]
  clear hwB
  have HWB : Hid (∀ j (hj : j < ws.length), wB.cell? ⟨g, j, none⟩ = some (.string ⟨ws[j].toArray⟩)) := Lib.hid (fun j hj => cell_later tB (HWS.out j hj))
  have HSB := Lib.hid (HS1.out.below tB)
  have HBB := Lib.hid ((HB1.out.mono H.out.size).trans (tB.mono HS1.out.size))
  have HBW := Lib.hid (HB1.out.trans (tB.mono HB1.out.size))
  have HK := Lib.hid tK
  generalize w1.heap.size = kb at *
  clear tB tK HWS HS1 HB1
  have c0 := HWB.out 0 (by omega)
  have ha0 : ws[0]'(by omega) = a0 := hz
  rw [ha0, ← HX0.out] at c0
  clear ha0
  go_loopg [7] 8 (fun n i wr => ∃ j : Nat, j ≤ 7 ∧ i = .int .i64 j ∧ 8 - j ≤ n ∧ ∃ q, wr = wB.drewN q)
  case atStart => exact ⟨0, Nat.zero_le _, rfl, by omega, 0, rfl⟩
  case round =>
    obtain ⟨j, hj, rfl, hn, q, rfl⟩ := hrel
    have h0j : (0 : Int) ≤ (j : Int) := by omega
    have hm0' : 0 < m := by omega
    by_cases hj7 : j < 7
    · have hj7' : (j : Int) < 7 := by omega
      have d0 : wB.cell? ⟨kb, j, none⟩ = some (.string ⟨(keys.getD j []).toArray⟩) := (L.blk_cell HK.out j).trans (keyCells_at hj7)
      have hq := HQ.out j hj7
      generalize (⟨(keys.getD j []).toArray⟩ : ByteArray) = xk at *
      go_wp2_with fail
      go_quiet (fail)
      go_wp2_with fail
      go_roundg (8 - (j + 1))
      case rel => exact ⟨j + 1, by omega, by go_num, Nat.le_refl _, _, rfl⟩
      case measure => omega
    · have hj8 : j = 7 := by omega
      subst hj8
      have hm3 : ¬ (m : Int) < 3 := by have := HM.out; omega
      have o0 : wB.cell? ⟨sb, 9, none⟩ = some (.bool true) := by rw [← h0]; exact L.blk_cell HSB.out.blk 9
      have o1 : wB.cell? ⟨sb, 10, none⟩ = some (.bool true) := by rw [← h1]; exact L.blk_cell HSB.out.blk 10
      have c1 := HWB.out 1 (by omega)
      have c2 := HWB.out 2 (by omega)
      have hN := refName_any ⟨(ws[1]'(by omega)).toArray⟩ (wB.drewN q) (by rw [list_size]; unfold maxLen; omega)
      rw [list_data, hnm] at hN
      obtain ⟨x1, hx1⟩ : ∃ x1 : ByteArray, x1 = ⟨(ws[1]'(by omega)).toArray⟩ := ⟨_, rfl⟩
      rw [← hx1] at hN c1
      have HX1 := Lib.hid hx1
      clear hx1
      obtain ⟨x2, hx2⟩ : ∃ x2 : ByteArray, x2 = ⟨(ws[2]'(by omega)).toArray⟩ := ⟨_, rfl⟩
      rw [← hx2] at HP c2
      clear hx2
      have HN := Lib.hid hN
      clear hN hnm
      have hm1 : (1 : Int) < m := by omega
      have hm2' : (2 : Int) < m := by omega
      have hm00 : (0 : Int) < m := by omega
      go_wp2_with fail
      with_reducible refine (HN.out).mono ?_
      rintro e w' ⟨rfl, rfl⟩
      go_wp2_with fail
      with_reducible refine (HP.out.call _).mono ?_
      rintro e w2 ⟨rfl, hb2'⟩
      have hb2 : Below wB.heap.size wB w2 := (below_drewN (Below.refl _ wB) q).trans hb2'
      have HS2 := Lib.hid (HSB.out.below hb2)
      have HB2 := Lib.hid (HBB.out.trans (hb2.mono HSB.out.size))
      have HW2 : Hid (∀ j (hj : j < ws.length), w2.cell? ⟨g, j, none⟩ = some (.string ⟨ws[j].toArray⟩)) := Lib.hid (fun j hj => cell_later hb2 (HWB.out j hj))
      clear hb2 hb2' HN HP HWB HSB HBB HBW c0 c1 c2 o0 o1 HK HQ
      go_wp2_with fail
      obtain ⟨W, hW⟩ : ∃ W : World, W = w2.alloc (.cells #[.int .i64 l, .int .u64 (k : Int)] 40) := ⟨_, rfl⟩
      rw [← hW]
      have hbW : Below w2.heap.size w2 W := by rw [hW]; exact (Below.refl _ _).alloc (Nat.le_refl _) _
      have HBX := Lib.hid (show W.heap[w2.heap.size]? = some (.cells #[.int .i64 l, .int .u64 (k : Int)] 40 (0, 0)) by rw [hW]; exact heap_alloc_new w2 _)
      have HSW := Lib.hid (HS2.out.below hbW)
      have HBWW := Lib.hid (HB2.out.trans (hbW.mono HS2.out.size))
      have HWW : Hid (∀ j (hj : j < ws.length), W.cell? ⟨g, j, none⟩ = some (.string ⟨ws[j].toArray⟩)) := Lib.hid (fun j hj => cell_later hbW (HW2.out j hj))
      clear hW hbW HS2 HB2 HW2
      generalize w2.heap.size = lb at *
      obtain ⟨⟨a0', a1', a2', a3', a4', a5'⟩, a6', a7', a8'⟩ := HSW.out.nine
      obtain ⟨b0, b1⟩ := lab_cells HBX.out
      have hkk : k < 18446744073709551616 := hk
      generalize s.p.ns.getD 0 0 = n0 at *
      generalize s.p.ns.getD 1 0 = n1 at *
      generalize s.p.ns.getD 2 0 = n2 at *
      generalize s.p.ns.getD 3 0 = n3 at *
      generalize s.p.ns.getD 4 0 = n4 at *
      generalize s.p.ns.getD 5 0 = n5 at *
      generalize (⟨s.p.hid.toArray⟩ : ByteArray) = hid at *
      go_still_tail 8, (by kernel_rfl)
      change wpList _ _ _ _ _ (World.drew _)
      clear a0' a1' a2' a3' a4' a5' a6' a7' a8'
      go_wp2_with fail
      with_reducible refine (refFits_any _ _ _ _ _ _ _ _ _ _ _ _ _ _ _ _ hkk).mono ?_
      rintro e w3 ⟨rfl, hb3'⟩
      have hb3 : Below W.heap.size W w3 := (drew_below W).trans hb3'
      have HS3 := Lib.hid (HSW.out.below hb3)
      have HB3 := Lib.hid (HBWW.out.trans (hb3.mono HSW.out.size))
      have HW3 : Hid (∀ j (hj : j < ws.length), w3.cell? ⟨g, j, none⟩ = some (.string ⟨ws[j].toArray⟩)) := Lib.hid (fun j hj => cell_later hb3 (HWW.out j hj))
      have HBX3 := Lib.hid ((hb3.block lb (L.blk_lt HBX.out)).trans HBX.out)
      clear hb3 hb3' b0 b1 HSW HBWW HWW HBX
      rw [HFI.out]
      have c0 := HW3.out 0 (by omega)
      have ha0 : ws[0]'(by omega) = a0 := hz
      rw [ha0, ← HX0.out] at c0
      clear ha0
      have HFS : Hid (FloorsIn w3 fA s.p.fs) := Lib.hid (by
        obtain ⟨A', cap', e1, e2⟩ := floors_of_own HS3.out.fs
        injection e1 with e1
        rw [e1]
        exact e2)
      go_wp2_with fail
      go_loopg [12] (fn + 1) (fun m' i wr => ∃ k' : Nat, k' ≤ fn ∧ i = .int .i64 k' ∧ fn + 1 - k' ≤ m' ∧ Hid (∀ j (hj : j < s.p.fs.length), j < k' → s.p.fs[j].pre ≠ ws[1]'(by omega)) ∧ ∃ q', wr = w3.drewN q')
      case atStart => exact ⟨0, Nat.zero_le _, rfl, by omega, Lib.hid (fun j _ h => absurd h (Nat.not_lt_zero _)), 0, rfl⟩
      case round =>
        obtain ⟨k', hk', rfl, hmm, HNE, q', rfl⟩ := hrel
        have c8 : w3.cell? ⟨sb, 8, none⟩ = some (.slice fA fn fcap) := L.blk_cell HS3.out.blk 8
        have c1 := HW3.out 1 (by omega)
        rw [← HX1.out] at c1
        by_cases hlt : k' < fn
        · have hlf : k' < s.p.fs.length := by rw [← HFN.out]; exact hlt
          obtain ⟨bk, off, hAe, hbk, hB⟩ := HFS.out (by omega)
          subst hAe
          have d0 := (hB k' hlf).1
          have hq := str_bytes s.p.fs[k'].pre x1
          rw [show x1.data.toList = ws[1]'(by omega) by rw [HX1.out, list_data]] at hq
          have h0k : (0 : Int) ≤ (k' : Int) := by omega
          have hki : (k' : Int) < (fn : Int) := by omega
          by_cases heq : s.p.fs[k'].pre = ws[1]'(by omega)
          · rw [decide_eq_true heq] at hq
            generalize (⟨s.p.fs[k'].pre.toArray⟩ : ByteArray) = xk at *
            have HNO := Lib.hid (show o = none by
              rw [HTU.out]
              split
              · rw [if_neg (fun h' => h'.2 (List.mem_map.2 ⟨_, List.getElem_mem hlf, heq⟩))]
              · rfl)
            clear HTU HNE heq hB
            go_wp2_with fail
            go_quiet (fail)
            clear d0 hq
            go_wp2_with fail
            go_ret
            rw [HNO.out]
            exact ⟨rfl, (below_drewN (below_drewN HB3.out _) _).bx⟩
          · rw [decide_eq_false heq] at hq
            generalize (⟨s.p.fs[k'].pre.toArray⟩ : ByteArray) = xk at *
            have HNE2 : Hid (∀ j (hj : j < s.p.fs.length), j < k' + 1 → s.p.fs[j].pre ≠ ws[1]'(by omega)) := Lib.hid (fun j hj h => by
              rcases Nat.lt_or_ge j k' with h1 | h1
              · exact HNE.out j hj h1
              · have e : j = k' := by omega
                subst e
                exact heq)
            clear HNE heq hB
            go_wp2_with fail
            go_quiet (fail)
            clear d0 hq
            go_wp2_with fail
            go_roundg (fn + 1 - (k' + 1))
            case rel => exact ⟨k' + 1, by omega, by go_num, Nat.le_refl _, HNE2, q' + nq, rfl⟩
            case measure => omega
        · have hkf : k' = fn := by omega
          have HMEM := Lib.hid (show (ws[1]'(by omega)) ∉ s.p.fs.map (·.pre) from fun hm => by
            obtain ⟨u, hu, e⟩ := List.mem_map.1 hm
            obtain ⟨j, hj, rfl⟩ := List.getElem_of_mem hu
            exact HNE.out j hj (by have := HFN.out; omega) e)
          clear HNE
          by_cases h32 : fn < 32
          · have h32' : ¬ (32 : Int) ≤ (fn : Int) := by omega
            by_cases h4 : m ≤ 3
            · have h4' : ¬ (3 : Int) < (m : Int) := by omega
              have HYES := Lib.hid (show o = some ⟨{ s.p with fs := s.p.fs ++ [⟨ws[1]'(by omega), l, k⟩] }, s.once⟩ by
                rw [HTU.out, if_pos (by have := HM.out; omega), if_pos ⟨by rw [← HFN.out]; exact h32, HMEM.out⟩])
              clear HTU HMEM
              obtain ⟨W5, hW5⟩ : ∃ W5 : World, W5 = w3.drewN q' := ⟨_, rfl⟩
              have hb5 : Below w3.heap.size w3 W5 := by rw [hW5]; exact below_drewN (Below.refl _ _) q'
              have HS5 := Lib.hid (HS3.out.below hb5)
              have HB5 := Lib.hid (HB3.out.trans (hb5.mono HS3.out.size))
              have HBX5 := Lib.hid ((hb5.block lb (L.blk_lt HBX3.out)).trans HBX3.out)
              have c1' : W5.cell? ⟨g, 1, none⟩ = some (.string x1) := by rw [hW5]; exact c1
              have c8' : W5.cell? ⟨sb, 8, none⟩ = some (.slice fA fn fcap) := by rw [hW5]; exact c8
              rw [← hW5]
              clear c1 c8 hb5 hW5 HS3 HB3 HW3 HBX3 HFS c0
              go_wp2_with fail
              have hzf : W5.frozen? ⟨sb, 8, none⟩ = false := L.blk_free HS5.out.blk 8
              obtain ⟨b0, b1⟩ := lab_cells HBX5.out
              have hown : W5.drew.ownsRow base 76 3 (.slice fA fn fcap) fn (flrCells s.p.fs) := by have := HS5.out.fs; rw [← HFN.out] at this; exact this
              have hownA : (W5.alloc (.cells #[.string x1, .int .i64 l, .int .u64 (k : Int)] 76)).drew.ownsRow base 76 3 (.slice fA fn fcap) fn (flrCells s.p.fs) := World.ownsRow.alloc hown _
              have HNW := Lib.hid (World.news_of_block (w := (W5.alloc (.cells #[.string x1, .int .i64 l, .int .u64 (k : Int)] 76)).drew) (heap_alloc_new W5 _))
              have H1C : Hid (∀ u ∈ ([.string x1, .int .i64 l, .int .u64 (k : Int)] : List Value), u.oneCell' = true) := Lib.hid (by intro u hu; simp at hu; rcases hu with rfl | rfl | rfl <;> rfl)
              have hrt : some sb ≠ (Value.slice fA fn fcap).ownBlock := fun e => by
                rcases own_ne hown (g := sb) (fun cs => ne_type (by decide) HS5.out.blk) with h0 | h0
                · rw [h0] at e; cases e
                · exact h0 e.symm
              have HRT := Lib.hid hrt
              have hrl : sb < W5.heap.size := L.blk_lt HS5.out.blk
              have hbs : base ≤ W5.heap.size := HS5.out.size
              have HOA := Lib.hid hownA
              have HVV := Lib.hid (show (Value.slice fA fn fcap) = .slice fA s.p.fs.length fcap by rw [HFN.out])
              clear hrt hownA hown
              go_region_law ((refine step_append_lies _ (by rfl) (.tmp 196) (.tmp 202) 24 (by rfl) base 76 i0 _ 3 32 Tryd.underlying24 hi0 hz0 hz1 hz2 rfl (by decide) (.slice fA fn fcap) fn (flrCells s.p.fs) (by rfl) HOA.out ⟨W5.heap.size, 0, none⟩ 1 1 [.string x1, .int .i64 l, .int .u64 (k : Int)] (by rfl) rfl HNW.out H1C.out (by omega) (by unfold maxLen; omega) (by omega) (by simp; omega) _ rfl ?_; intro g3 cap3 w5 hown3 hgrow3 hat3 hlt3; have hc3 := hgrow3.cell_far ⟨sb, 8, none⟩ (by simp; omega) HRT.out; have hz3 := hgrow3.frozen_far ⟨sb, 8, none⟩ (by simp; omega) HRT.out))
              all_goals
                go_wp2_with fail
                go_ret
                rw [HYES.out]
                obtain ⟨q1, q2⟩ := sdPushFlr (x := ⟨ws[1]'(by omega), l, k⟩) HS5.out HB5.out HFN.out HVV.out hgrow3 (by rw [HX1.out] at hown3; exact hown3)
                exact ⟨rfl, ⟨_, _, q1⟩, q2⟩
            · have h4' : (3 : Int) < (m : Int) := by omega
              have HNO := Lib.hid (show o = none by rw [HTU.out, if_neg (by have := HM.out; omega)])
              clear HTU HMEM
              go_wp2_with fail
              go_ret
              rw [HNO.out]
              exact ⟨rfl, (below_drewN HB3.out _).bx⟩
          · have h32' : (32 : Int) ≤ (fn : Int) := by omega
            have HNO := Lib.hid (show o = none by
              rw [HTU.out]
              split
              · rw [if_neg (fun h' => h32 (by rw [HFN.out]; exact h'.1))]
              · rfl)
            clear HTU HMEM
            go_wp2_with fail
            go_ret
            rw [HNO.out]
            exact ⟨rfl, (below_drewN HB3.out _).bx⟩

end Go.Proofs.YtadhhamfikpimaaDoor.O
