/-
  The reference's line (layer 3) for users and floors whose label is none, or does not fit.
-/
import Derived.Test.YtadhhamfikpimaaDoorGo
import Derived.Test.YtadhhamfikpimaaDoorGm
import Derived.Test.YtadhhamfikpimaaDoorGl
import Derived.Deep.AppendLies
import Derived.Deep.RegionHeldLaw
import Derived.Deep.DrawnRows
import Derived.StillTailTactics
namespace Go.Proofs.YtadhhamfikpimaaDoor.O
set_option linter.unusedVariables false
set_option linter.unusedSimpArgs false
open Go.RowKit
open T
attribute [local go_sem ↓] Go.wp_at_zero Go.wp_at_succ
variable {w w' : World} {base sb : Nat} {s : St} {uv fv : Value}


def RlEnd (w : World) (base sb : Nat) (o : Option St) (e : Ending) (w' : World) : Prop :=
  match o with
  | some t => e = .returned (.bool true) ∧ (∃ uv fv, Sd w' base sb t uv fv) ∧ Bx base sb w w'
  | none => e = .returned (.bool false) ∧ Bx base sb w w'
def RPs (x : ByteArray) (l : Int) (k : Nat) (b : Bool) : Prop := ∀ w : World, Calls Tryd.prog 69 #[.string x] w fun e w' => e = .returned (.tuple #[L.lab l k, .bool b]) ∧ Below w.heap.size w w'
theorem RPs.call {x : ByteArray} {l : Int} {k : Nat} {b : Bool} (h : RPs x l k b) (w : World) : Calls Tryd.prog 69 #[.string x] w fun e w' => e = .returned (.tuple #[L.lab l k, .bool b]) ∧ Below w.heap.size w w' := h w
/-- What is laid behind a policy's nine cells. -/
theorem Sd.nine (h : Sd w base sb s uv fv) : (w.cell? ⟨sb, 0, none⟩ = some (.int .i64 (s.p.ns.getD 0 0)) ∧ w.cell? ⟨sb, 1, none⟩ = some (.int .i64 (s.p.ns.getD 1 0)) ∧ w.cell? ⟨sb, 2, none⟩ = some (.int .i64 (s.p.ns.getD 2 0)) ∧ w.cell? ⟨sb, 3, none⟩ = some (.int .i64 (s.p.ns.getD 3 0)) ∧ w.cell? ⟨sb, 4, none⟩ = some (.int .i64 (s.p.ns.getD 4 0)) ∧ w.cell? ⟨sb, 5, none⟩ = some (.int .i64 (s.p.ns.getD 5 0))) ∧ w.cell? ⟨sb, 6, none⟩ = some (.string ⟨s.p.hid.toArray⟩) ∧ w.cell? ⟨sb, 7, none⟩ = some uv ∧ w.cell? ⟨sb, 8, none⟩ = some fv :=
  ⟨⟨L.blk_cell h.blk 0, L.blk_cell h.blk 1, L.blk_cell h.blk 2, L.blk_cell h.blk 3, L.blk_cell h.blk 4, L.blk_cell h.blk 5⟩, L.blk_cell h.blk 6, L.blk_cell h.blk 7, L.blk_cell h.blk 8⟩


theorem sdPushUsr {W w3 : World} {o : Obj} {q g3 cap3 vcap : Nat} {vA : Option Addr} {x : Usr} (HR : Sd W base sb s uv fv) (HB : Below base w W) (hq : q = s.p.us.length) (hv : uv = .slice vA s.p.us.length vcap)
    (hg : (W.alloc o).drew.grownBy w3 (Value.slice vA q vcap).ownBlock) (hown3 : w3.ownsRow base 72 4 (.slice (some ⟨g3, 0, none⟩) (q + 1) cap3) (q + 1) (usrCells s.p.us ++ [.string ⟨x.name.toArray⟩, .int .i64 x.lv, .int .u64 (x.ct : Int), .bool x.ad])) :
    Sd (w3.setCell ⟨sb, 7, none⟩ (.slice (some ⟨g3, 0, none⟩) (q + 1) cap3)) base sb ⟨{ s.p with us := s.p.us ++ [x] }, s.once⟩ (.slice (some ⟨g3, 0, none⟩) (q + 1) cap3) fv ∧ Bx base sb w (w3.setCell ⟨sb, 7, none⟩ (.slice (some ⟨g3, 0, none⟩) (q + 1) cap3)) := by
  rw [hq, ← hv] at hg
  have hrow := HR.us
  have hgW : W.grownBy w3 uv.ownBlock := ⟨hg.os, hg.tape, hg.output, Nat.le_trans (by simp) hg.size, fun k hk hne => (hg.block k (by simp; omega) hne).trans (Below.heap_alloc W o k hk)⟩
  have hrb : some sb ≠ uv.ownBlock := fun e => by
    rcases own_ne hrow (g := sb) (fun cs => ne_type (by decide) HR.blk) with h0 | h0
    · rw [h0] at e; cases e
    · exact h0 e.symm
  have hob : fv.ownBlock = none ∨ fv.ownBlock ≠ uv.ownBlock := by
    rcases hrow.2 with ⟨e, _⟩ | ⟨gf, cf, cur, e, _, hh, _⟩
    · rw [e]; cases fv.ownBlock <;> simp [Value.ownBlock]
    · rw [e]; exact own_ne HR.fs (g := gf) (fun cs => ne_type (by decide) hh)
  have blk3 : w3.heap[sb]? = some (.cells (sdCells s.p s.once uv fv) 69 (0, 0)) := (hgW.block sb (L.blk_lt HR.blk) hrb).trans HR.blk
  have oth3 := HR.fs.kept hgW hob
  have hset := grown_set w3 ⟨sb, 7, none⟩ (.slice (some ⟨g3, 0, none⟩) (q + 1) cap3)
  refine ⟨⟨Nat.le_trans HR.hb (Nat.le_trans hgW.size hset.size), ?_, ?_, ?_, HR.ns, HR.on⟩, ?_⟩
  · have := L.blk_set blk3 7 (.slice (some ⟨g3, 0, none⟩) (q + 1) cap3)
    exact this
  · have e : (s.p.us ++ [x]).length = q + 1 := by simp [hq]
    show World.ownsRow _ _ _ _ _ (s.p.us ++ [x]).length (usrCells (s.p.us ++ [x]))
    rw [e, show usrCells (s.p.us ++ [x]) = usrCells s.p.us ++ [.string ⟨x.name.toArray⟩, .int .i64 x.lv, .int .u64 (x.ct : Int), .bool x.ad] by simp [usrCells]]
    exact hown3.kept hset (own_ne hown3 (fun cs => ne_type (by decide) blk3))
  · exact oth3.kept hset (own_ne oth3 (fun cs => ne_type (by decide) blk3))
  · exact (HB.grown hgW (HR.size) (fun k hk => own_base hrow k hk)).bx.setCell (p := ⟨sb, 7, none⟩) rfl _


theorem sdPushFlr {W w3 : World} {o : Obj} {q g3 cap3 vcap : Nat} {vA : Option Addr} {x : Flr} (HR : Sd W base sb s uv fv) (HB : Below base w W) (hq : q = s.p.fs.length) (hv : fv = .slice vA s.p.fs.length vcap)
    (hg : (W.alloc o).drew.grownBy w3 (Value.slice vA q vcap).ownBlock) (hown3 : w3.ownsRow base 76 3 (.slice (some ⟨g3, 0, none⟩) (q + 1) cap3) (q + 1) (flrCells s.p.fs ++ [.string ⟨x.pre.toArray⟩, .int .i64 x.lv, .int .u64 (x.ct : Int)])) :
    Sd (w3.setCell ⟨sb, 8, none⟩ (.slice (some ⟨g3, 0, none⟩) (q + 1) cap3)) base sb ⟨{ s.p with fs := s.p.fs ++ [x] }, s.once⟩ uv (.slice (some ⟨g3, 0, none⟩) (q + 1) cap3) ∧ Bx base sb w (w3.setCell ⟨sb, 8, none⟩ (.slice (some ⟨g3, 0, none⟩) (q + 1) cap3)) := by
  rw [hq, ← hv] at hg
  have hrow := HR.fs
  have hgW : W.grownBy w3 fv.ownBlock := ⟨hg.os, hg.tape, hg.output, Nat.le_trans (by simp) hg.size, fun k hk hne => (hg.block k (by simp; omega) hne).trans (Below.heap_alloc W o k hk)⟩
  have hrb : some sb ≠ fv.ownBlock := fun e => by
    rcases own_ne hrow (g := sb) (fun cs => ne_type (by decide) HR.blk) with h0 | h0
    · rw [h0] at e; cases e
    · exact h0 e.symm
  have hob : uv.ownBlock = none ∨ uv.ownBlock ≠ fv.ownBlock := by
    rcases hrow.2 with ⟨e, _⟩ | ⟨gf, cf, cur, e, _, hh, _⟩
    · rw [e]; cases uv.ownBlock <;> simp [Value.ownBlock]
    · rw [e]; exact own_ne HR.us (g := gf) (fun cs => ne_type (by decide) hh)
  have blk3 : w3.heap[sb]? = some (.cells (sdCells s.p s.once uv fv) 69 (0, 0)) := (hgW.block sb (L.blk_lt HR.blk) hrb).trans HR.blk
  have oth3 := HR.us.kept hgW hob
  have hset := grown_set w3 ⟨sb, 8, none⟩ (.slice (some ⟨g3, 0, none⟩) (q + 1) cap3)
  refine ⟨⟨Nat.le_trans HR.hb (Nat.le_trans hgW.size hset.size), ?_, ?_, ?_, HR.ns, HR.on⟩, ?_⟩
  · have := L.blk_set blk3 8 (.slice (some ⟨g3, 0, none⟩) (q + 1) cap3)
    exact this
  · exact oth3.kept hset (own_ne oth3 (fun cs => ne_type (by decide) blk3))
  · have e : (s.p.fs ++ [x]).length = q + 1 := by simp [hq]
    show World.ownsRow _ _ _ _ _ (s.p.fs ++ [x]).length (flrCells (s.p.fs ++ [x]))
    rw [e, show flrCells (s.p.fs ++ [x]) = flrCells s.p.fs ++ [.string ⟨x.pre.toArray⟩, .int .i64 x.lv, .int .u64 (x.ct : Int)] by simp [flrCells]]
    exact hown3.kept hset (own_ne hown3 (fun cs => ne_type (by decide) blk3))
  · exact (HB.grown hgW (HR.size) (fun k hk => own_base hrow k hk)).bx.setCell (p := ⟨sb, 8, none⟩) rfl _


set_option maxRecDepth 100000 in
set_option maxHeartbeats 4000000 in
theorem rline_user_nolab (h : Sd w base sb s uv fv) (x : ByteArray) (hx : x.size ≤ 8192) (ws : List (List UInt8)) (a0 : List UInt8) (hws : P.words [] x.data.toList = ws) (hlen : 2 ≤ ws.length) (hz : ws[0]'(by omega) = a0) (HNK : Hid (∀ j, j < 7 → keys.getD j [] ≠ a0)) (ha : a0 = kUser) (h3 : 3 ≤ ws.length) (h0 : s.once.getD 0 false = true) (h1 : s.once.getD 1 false = true) (hl1 : (ws[1]'(by omega)).length ≤ 8192) (hnm : P.name (ws[1]'(by omega)) = true) (l : Int) (k : Nat) (HP : Hid (RPs ⟨(ws[2]'(by omega)).toArray⟩ l k false)) :
    Calls Tryd.prog 38 #[.pointer (some ⟨sb, 0, none⟩), .string x] w (RlEnd w base sb none) := by
  have hW := refWords_any x w (by omega)
  rw [hws] at hW
  have HW := Lib.hid hW
  have H := Lib.hid h
  clear h hW
  obtain ⟨m, hm⟩ : ∃ m, m = ws.length := ⟨_, rfl⟩
  have hm2 : 2 ≤ m := by rw [hm]; exact hlen
  have HM := Lib.hid hm
  obtain ⟨x0, hx0⟩ : ∃ x0 : ByteArray, x0 = ⟨a0.toArray⟩ := ⟨_, rfl⟩
  have HQ : Hid (∀ j, j < 7 → ((⟨(keys.getD j []).toArray⟩ : ByteArray).toList == x0.toList) = false) := Lib.hid (fun j hj => by rw [hx0, key_beq]; exact decide_eq_false (HNK.out j hj))
  have HX0 := Lib.hid hx0
  clear hm
  have qu : (x0.toList == [117, 115, 101, 114]) = true := by rw [hx0, str_is]; exact decide_eq_true ha
  have qf : True := trivial
  clear hx0
  go_enter Tryd.func38, Tryd.ntmps38
  go_wp2_with fail
  with_reducible refine (HW.out).mono ?_
  rintro e w1 ⟨v1, rfl, hown, hb1⟩
  obtain ⟨g, cap, hv, hlt, hcells⟩ := words_own hown (by omega)
  subst hv
  have HWS := Lib.hid hcells
  rw [← HM.out]
  have HB1 := Lib.hid hb1
  have HS1 := Lib.hid (H.out.below hb1)
  clear hcells hown hb1 HW
  have hm0 : ¬ (m : Int) < 2 := by omega
  obtain ⟨wB, hwB⟩ : ∃ wB : World, wB = w1.alloc (.cells keyCells 103) := ⟨_, rfl⟩
  have tB : Below w1.heap.size w1 wB := by rw [hwB]; exact (Below.refl _ _).alloc (Nat.le_refl _) _
  have tK : wB.heap[w1.heap.size]? = some (.cells keyCells 103 (0, 0)) := by rw [hwB]; exact heap_alloc_new w1 _
  unfold keyCells at hwB
  go_wp2_with fail
  rw [← hwB]
  clear hwB
  have HWB : Hid (∀ j (hj : j < ws.length), wB.cell? ⟨g, j, none⟩ = some (.string ⟨ws[j].toArray⟩)) := Lib.hid (fun j hj => cell_later tB (HWS.out j hj))
  have HSB := Lib.hid (HS1.out.below tB)
  have HBB := Lib.hid ((HB1.out.mono H.out.size).trans (tB.mono HS1.out.size))
  have HBW := Lib.hid (HB1.out.trans (tB.mono HB1.out.size))
  have HK := Lib.hid tK
  generalize w1.heap.size = kb at *
  clear tB tK HWS HS1 HB1
  have c0 := HWB.out 0 (by omega)
  have ha0 : ws[0]'(by omega) = a0 := hz
  rw [ha0, ← HX0.out] at c0
  clear ha0
  go_loopg [7] 8 (fun n i wr => ∃ j : Nat, j ≤ 7 ∧ i = .int .i64 j ∧ 8 - j ≤ n ∧ ∃ q, wr = wB.drewN q)
  case atStart => exact ⟨0, Nat.zero_le _, rfl, by omega, 0, rfl⟩
  case round =>
    obtain ⟨j, hj, rfl, hn, q, rfl⟩ := hrel
    have h0j : (0 : Int) ≤ (j : Int) := by omega
    have hm0' : 0 < m := by omega
    by_cases hj7 : j < 7
    · have hj7' : (j : Int) < 7 := by omega
      have d0 : wB.cell? ⟨kb, j, none⟩ = some (.string ⟨(keys.getD j []).toArray⟩) := (L.blk_cell HK.out j).trans (keyCells_at hj7)
      have hq := HQ.out j hj7
      generalize (⟨(keys.getD j []).toArray⟩ : ByteArray) = xk at *
      go_wp2_with fail
      go_quiet (fail)
      go_wp2_with fail
      go_roundg (8 - (j + 1))
      case rel => exact ⟨j + 1, by omega, by go_num, Nat.le_refl _, _, rfl⟩
      case measure => omega
    · have hj8 : j = 7 := by omega
      subst hj8
      have hm3 : ¬ (m : Int) < 3 := by have := HM.out; omega
      have o0 : wB.cell? ⟨sb, 9, none⟩ = some (.bool true) := by rw [← h0]; exact L.blk_cell HSB.out.blk 9
      have o1 : wB.cell? ⟨sb, 10, none⟩ = some (.bool true) := by rw [← h1]; exact L.blk_cell HSB.out.blk 10
      have c1 := HWB.out 1 (by omega)
      have c2 := HWB.out 2 (by omega)
      have hN := refName_any ⟨(ws[1]'(by omega)).toArray⟩ (wB.drewN q) (by rw [list_size]; unfold maxLen; omega)
      rw [list_data, hnm] at hN
      obtain ⟨x1, hx1⟩ : ∃ x1 : ByteArray, x1 = ⟨(ws[1]'(by omega)).toArray⟩ := ⟨_, rfl⟩
      rw [← hx1] at hN c1
      have HX1 := Lib.hid hx1
      clear hx1
      obtain ⟨x2, hx2⟩ : ∃ x2 : ByteArray, x2 = ⟨(ws[2]'(by omega)).toArray⟩ := ⟨_, rfl⟩
      rw [← hx2] at HP c2
      clear hx2
      have HN := Lib.hid hN
      clear hN hnm
      have hm1 : (1 : Int) < m := by omega
      have hm2' : (2 : Int) < m := by omega
      have hm00 : (0 : Int) < m := by omega
      go_wp2_with fail
      with_reducible refine (HN.out).mono ?_
      rintro e w' ⟨rfl, rfl⟩
      go_wp2_with fail
      with_reducible refine (HP.out.call _).mono ?_
      rintro e w2 ⟨rfl, hb2'⟩
      have hb2 : Below wB.heap.size wB w2 := (below_drewN (Below.refl _ wB) q).trans hb2'
      have HS2 := Lib.hid (HSB.out.below hb2)
      have HB2 := Lib.hid (HBB.out.trans (hb2.mono HSB.out.size))
      have HW2 : Hid (∀ j (hj : j < ws.length), w2.cell? ⟨g, j, none⟩ = some (.string ⟨ws[j].toArray⟩)) := Lib.hid (fun j hj => cell_later hb2 (HWB.out j hj))
      clear hb2 hb2' HN HP HWB HSB HBB HBW c0 c1 c2 o0 o1 HK HQ
      go_wp2_with fail
      obtain ⟨W, hW⟩ : ∃ W : World, W = w2.alloc (.cells #[.int .i64 l, .int .u64 (k : Int)] 40) := ⟨_, rfl⟩
      rw [← hW]
      have hbW : Below w2.heap.size w2 W := by rw [hW]; exact (Below.refl _ _).alloc (Nat.le_refl _) _
      have HBX := Lib.hid (show W.heap[w2.heap.size]? = some (.cells #[.int .i64 l, .int .u64 (k : Int)] 40 (0, 0)) by rw [hW]; exact heap_alloc_new w2 _)
      have HSW := Lib.hid (HS2.out.below hbW)
      have HBWW := Lib.hid (HB2.out.trans (hbW.mono HS2.out.size))
      have HWW : Hid (∀ j (hj : j < ws.length), W.cell? ⟨g, j, none⟩ = some (.string ⟨ws[j].toArray⟩)) := Lib.hid (fun j hj => cell_later hbW (HW2.out j hj))
      clear hW hbW HS2 HB2 HW2
      generalize w2.heap.size = lb at *
      go_quiet (fail)
      go_wp2_with fail
      go_ret
      exact ⟨rfl, (below_drewN HBWW.out _).bx⟩

set_option maxRecDepth 100000 in
set_option maxHeartbeats 4000000 in
theorem rline_user_nofit (h : Sd w base sb s uv fv) (x : ByteArray) (hx : x.size ≤ 8192) (ws : List (List UInt8)) (a0 : List UInt8) (hws : P.words [] x.data.toList = ws) (hlen : 2 ≤ ws.length) (hz : ws[0]'(by omega) = a0) (HNK : Hid (∀ j, j < 7 → keys.getD j [] ≠ a0)) (ha : a0 = kUser) (h3 : 3 ≤ ws.length) (h0 : s.once.getD 0 false = true) (h1 : s.once.getD 1 false = true) (hl1 : (ws[1]'(by omega)).length ≤ 8192) (hnm : P.name (ws[1]'(by omega)) = true) (l : Int) (k : Nat) (hk : k < 18446744073709551616) (HP : Hid (RPs ⟨(ws[2]'(by omega)).toArray⟩ l k true)) (HFI : Hid (fitsB (s.p.ns.getD 0 0) (s.p.ns.getD 1 0) l k = false)) :
    Calls Tryd.prog 38 #[.pointer (some ⟨sb, 0, none⟩), .string x] w (RlEnd w base sb none) := by
  obtain ⟨uA, ucap, hu, -, -⟩ := own_form h.us
  obtain ⟨fA, fcap, hf, -, -⟩ := own_form h.fs
  obtain ⟨un, hun⟩ : ∃ un, un = s.p.us.length := ⟨_, rfl⟩
  obtain ⟨fn, hfn⟩ : ∃ fn, fn = s.p.fs.length := ⟨_, rfl⟩
  rw [← hun] at hu
  rw [← hfn] at hf
  subst hu hf
  have HUN := Lib.hid hun
  have HFN := Lib.hid hfn
  clear hun hfn
  have hW := refWords_any x w (by omega)
  rw [hws] at hW
  have HW := Lib.hid hW
  have H := Lib.hid h
  clear h hW
  obtain ⟨m, hm⟩ : ∃ m, m = ws.length := ⟨_, rfl⟩
  have hm2 : 2 ≤ m := by rw [hm]; exact hlen
  have HM := Lib.hid hm
  obtain ⟨x0, hx0⟩ : ∃ x0 : ByteArray, x0 = ⟨a0.toArray⟩ := ⟨_, rfl⟩
  have HQ : Hid (∀ j, j < 7 → ((⟨(keys.getD j []).toArray⟩ : ByteArray).toList == x0.toList) = false) := Lib.hid (fun j hj => by rw [hx0, key_beq]; exact decide_eq_false (HNK.out j hj))
  have HX0 := Lib.hid hx0
  clear hm
  have qu : (x0.toList == [117, 115, 101, 114]) = true := by rw [hx0, str_is]; exact decide_eq_true ha
  have qf : True := trivial
  clear hx0
  go_enter Tryd.func38, Tryd.ntmps38
  go_wp2_with fail
  with_reducible refine (HW.out).mono ?_
  rintro e w1 ⟨v1, rfl, hown, hb1⟩
  obtain ⟨g, cap, hv, hlt, hcells⟩ := words_own hown (by omega)
  subst hv
  have HWS := Lib.hid hcells
  rw [← HM.out]
  have HB1 := Lib.hid hb1
  have HS1 := Lib.hid (H.out.below hb1)
  clear hcells hown hb1 HW
  have hm0 : ¬ (m : Int) < 2 := by omega
  obtain ⟨wB, hwB⟩ : ∃ wB : World, wB = w1.alloc (.cells keyCells 103) := ⟨_, rfl⟩
  have tB : Below w1.heap.size w1 wB := by rw [hwB]; exact (Below.refl _ _).alloc (Nat.le_refl _) _
  have tK : wB.heap[w1.heap.size]? = some (.cells keyCells 103 (0, 0)) := by rw [hwB]; exact heap_alloc_new w1 _
  unfold keyCells at hwB
  go_wp2_with fail
  rw [← hwB]
  clear hwB
  have HWB : Hid (∀ j (hj : j < ws.length), wB.cell? ⟨g, j, none⟩ = some (.string ⟨ws[j].toArray⟩)) := Lib.hid (fun j hj => cell_later tB (HWS.out j hj))
  have HSB := Lib.hid (HS1.out.below tB)
  have HBB := Lib.hid ((HB1.out.mono H.out.size).trans (tB.mono HS1.out.size))
  have HBW := Lib.hid (HB1.out.trans (tB.mono HB1.out.size))
  have HK := Lib.hid tK
  generalize w1.heap.size = kb at *
  clear tB tK HWS HS1 HB1
  have c0 := HWB.out 0 (by omega)
  have ha0 : ws[0]'(by omega) = a0 := hz
  rw [ha0, ← HX0.out] at c0
  clear ha0
  go_loopg [7] 8 (fun n i wr => ∃ j : Nat, j ≤ 7 ∧ i = .int .i64 j ∧ 8 - j ≤ n ∧ ∃ q, wr = wB.drewN q)
  case atStart => exact ⟨0, Nat.zero_le _, rfl, by omega, 0, rfl⟩
  case round =>
    obtain ⟨j, hj, rfl, hn, q, rfl⟩ := hrel
    have h0j : (0 : Int) ≤ (j : Int) := by omega
    have hm0' : 0 < m := by omega
    by_cases hj7 : j < 7
    · have hj7' : (j : Int) < 7 := by omega
      have d0 : wB.cell? ⟨kb, j, none⟩ = some (.string ⟨(keys.getD j []).toArray⟩) := (L.blk_cell HK.out j).trans (keyCells_at hj7)
      have hq := HQ.out j hj7
      generalize (⟨(keys.getD j []).toArray⟩ : ByteArray) = xk at *
      go_wp2_with fail
      go_quiet (fail)
      go_wp2_with fail
      go_roundg (8 - (j + 1))
      case rel => exact ⟨j + 1, by omega, by go_num, Nat.le_refl _, _, rfl⟩
      case measure => omega
    · have hj8 : j = 7 := by omega
      subst hj8
      have hm3 : ¬ (m : Int) < 3 := by have := HM.out; omega
      have o0 : wB.cell? ⟨sb, 9, none⟩ = some (.bool true) := by rw [← h0]; exact L.blk_cell HSB.out.blk 9
      have o1 : wB.cell? ⟨sb, 10, none⟩ = some (.bool true) := by rw [← h1]; exact L.blk_cell HSB.out.blk 10
      have c1 := HWB.out 1 (by omega)
      have c2 := HWB.out 2 (by omega)
      have hN := refName_any ⟨(ws[1]'(by omega)).toArray⟩ (wB.drewN q) (by rw [list_size]; unfold maxLen; omega)
      rw [list_data, hnm] at hN
      obtain ⟨x1, hx1⟩ : ∃ x1 : ByteArray, x1 = ⟨(ws[1]'(by omega)).toArray⟩ := ⟨_, rfl⟩
      rw [← hx1] at hN c1
      have HX1 := Lib.hid hx1
      clear hx1
      obtain ⟨x2, hx2⟩ : ∃ x2 : ByteArray, x2 = ⟨(ws[2]'(by omega)).toArray⟩ := ⟨_, rfl⟩
      rw [← hx2] at HP c2
      clear hx2
      have HN := Lib.hid hN
      clear hN hnm
      have hm1 : (1 : Int) < m := by omega
      have hm2' : (2 : Int) < m := by omega
      have hm00 : (0 : Int) < m := by omega
      go_wp2_with fail
      with_reducible refine (HN.out).mono ?_
      rintro e w' ⟨rfl, rfl⟩
      go_wp2_with fail
      with_reducible refine (HP.out.call _).mono ?_
      rintro e w2 ⟨rfl, hb2'⟩
      have hb2 : Below wB.heap.size wB w2 := (below_drewN (Below.refl _ wB) q).trans hb2'
      have HS2 := Lib.hid (HSB.out.below hb2)
      have HB2 := Lib.hid (HBB.out.trans (hb2.mono HSB.out.size))
      have HW2 : Hid (∀ j (hj : j < ws.length), w2.cell? ⟨g, j, none⟩ = some (.string ⟨ws[j].toArray⟩)) := Lib.hid (fun j hj => cell_later hb2 (HWB.out j hj))
      clear hb2 hb2' HN HP HWB HSB HBB HBW c0 c1 c2 o0 o1 HK HQ
      go_wp2_with fail
      obtain ⟨W, hW⟩ : ∃ W : World, W = w2.alloc (.cells #[.int .i64 l, .int .u64 (k : Int)] 40) := ⟨_, rfl⟩
      rw [← hW]
      have hbW : Below w2.heap.size w2 W := by rw [hW]; exact (Below.refl _ _).alloc (Nat.le_refl _) _
      have HBX := Lib.hid (show W.heap[w2.heap.size]? = some (.cells #[.int .i64 l, .int .u64 (k : Int)] 40 (0, 0)) by rw [hW]; exact heap_alloc_new w2 _)
      have HSW := Lib.hid (HS2.out.below hbW)
      have HBWW := Lib.hid (HB2.out.trans (hbW.mono HS2.out.size))
      have HWW : Hid (∀ j (hj : j < ws.length), W.cell? ⟨g, j, none⟩ = some (.string ⟨ws[j].toArray⟩)) := Lib.hid (fun j hj => cell_later hbW (HW2.out j hj))
      clear hW hbW HS2 HB2 HW2
      generalize w2.heap.size = lb at *
      obtain ⟨⟨a0', a1', a2', a3', a4', a5'⟩, a6', a7', a8'⟩ := HSW.out.nine
      obtain ⟨b0, b1⟩ := lab_cells HBX.out
      have hkk : k < 18446744073709551616 := hk
      generalize s.p.ns.getD 0 0 = n0 at *
      generalize s.p.ns.getD 1 0 = n1 at *
      generalize s.p.ns.getD 2 0 = n2 at *
      generalize s.p.ns.getD 3 0 = n3 at *
      generalize s.p.ns.getD 4 0 = n4 at *
      generalize s.p.ns.getD 5 0 = n5 at *
      generalize (⟨s.p.hid.toArray⟩ : ByteArray) = hid at *
      go_still_tail 8, (by kernel_rfl)
      change wpList _ _ _ _ _ (World.drew _)
      clear a0' a1' a2' a3' a4' a5' a6' a7' a8'
      go_wp2_with fail
      with_reducible refine (refFits_any _ _ _ _ _ _ _ _ _ _ _ _ _ _ _ _ hkk).mono ?_
      rintro e w3 ⟨rfl, hb3'⟩
      have hb3 : Below W.heap.size W w3 := (drew_below W).trans hb3'
      have HS3 := Lib.hid (HSW.out.below hb3)
      have HB3 := Lib.hid (HBWW.out.trans (hb3.mono HSW.out.size))
      have HW3 : Hid (∀ j (hj : j < ws.length), w3.cell? ⟨g, j, none⟩ = some (.string ⟨ws[j].toArray⟩)) := Lib.hid (fun j hj => cell_later hb3 (HWW.out j hj))
      have HBX3 := Lib.hid ((hb3.block lb (L.blk_lt HBX.out)).trans HBX.out)
      clear hb3 hb3' b0 b1 HSW HBWW HWW HBX
      rw [HFI.out]
      go_wp2_with fail
      go_ret
      exact ⟨rfl, HB3.out.bx⟩

set_option maxRecDepth 100000 in
set_option maxHeartbeats 4000000 in
theorem rline_floor_nolab (h : Sd w base sb s uv fv) (x : ByteArray) (hx : x.size ≤ 8192) (ws : List (List UInt8)) (a0 : List UInt8) (hws : P.words [] x.data.toList = ws) (hlen : 2 ≤ ws.length) (hz : ws[0]'(by omega) = a0) (HNK : Hid (∀ j, j < 7 → keys.getD j [] ≠ a0)) (ha : a0 = kFloor) (h3 : 3 ≤ ws.length) (h0 : s.once.getD 0 false = true) (h1 : s.once.getD 1 false = true) (hl1 : (ws[1]'(by omega)).length ≤ 8192) (hnm : P.name (ws[1]'(by omega)) = true) (l : Int) (k : Nat) (HP : Hid (RPs ⟨(ws[2]'(by omega)).toArray⟩ l k false)) :
    Calls Tryd.prog 38 #[.pointer (some ⟨sb, 0, none⟩), .string x] w (RlEnd w base sb none) := by
  have hW := refWords_any x w (by omega)
  rw [hws] at hW
  have HW := Lib.hid hW
  have H := Lib.hid h
  clear h hW
  obtain ⟨m, hm⟩ : ∃ m, m = ws.length := ⟨_, rfl⟩
  have hm2 : 2 ≤ m := by rw [hm]; exact hlen
  have HM := Lib.hid hm
  obtain ⟨x0, hx0⟩ : ∃ x0 : ByteArray, x0 = ⟨a0.toArray⟩ := ⟨_, rfl⟩
  have HQ : Hid (∀ j, j < 7 → ((⟨(keys.getD j []).toArray⟩ : ByteArray).toList == x0.toList) = false) := Lib.hid (fun j hj => by rw [hx0, key_beq]; exact decide_eq_false (HNK.out j hj))
  have HX0 := Lib.hid hx0
  clear hm
  have qu : (x0.toList == [117, 115, 101, 114]) = false := by rw [hx0, str_is]; exact decide_eq_false (by rw [ha]; decide)
  have qf : (x0.toList == [102, 108, 111, 111, 114]) = true := by rw [hx0, str_is]; exact decide_eq_true ha
  clear hx0
  go_enter Tryd.func38, Tryd.ntmps38
  go_wp2_with fail
  with_reducible refine (HW.out).mono ?_
  rintro e w1 ⟨v1, rfl, hown, hb1⟩
  obtain ⟨g, cap, hv, hlt, hcells⟩ := words_own hown (by omega)
  subst hv
  have HWS := Lib.hid hcells
  rw [← HM.out]
  have HB1 := Lib.hid hb1
  have HS1 := Lib.hid (H.out.below hb1)
  clear hcells hown hb1 HW
  have hm0 : ¬ (m : Int) < 2 := by omega
  obtain ⟨wB, hwB⟩ : ∃ wB : World, wB = w1.alloc (.cells keyCells 103) := ⟨_, rfl⟩
  have tB : Below w1.heap.size w1 wB := by rw [hwB]; exact (Below.refl _ _).alloc (Nat.le_refl _) _
  have tK : wB.heap[w1.heap.size]? = some (.cells keyCells 103 (0, 0)) := by rw [hwB]; exact heap_alloc_new w1 _
  unfold keyCells at hwB
  go_wp2_with fail
  rw [← hwB]
  clear hwB
  have HWB : Hid (∀ j (hj : j < ws.length), wB.cell? ⟨g, j, none⟩ = some (.string ⟨ws[j].toArray⟩)) := Lib.hid (fun j hj => cell_later tB (HWS.out j hj))
  have HSB := Lib.hid (HS1.out.below tB)
  have HBB := Lib.hid ((HB1.out.mono H.out.size).trans (tB.mono HS1.out.size))
  have HBW := Lib.hid (HB1.out.trans (tB.mono HB1.out.size))
  have HK := Lib.hid tK
  generalize w1.heap.size = kb at *
  clear tB tK HWS HS1 HB1
  have c0 := HWB.out 0 (by omega)
  have ha0 : ws[0]'(by omega) = a0 := hz
  rw [ha0, ← HX0.out] at c0
  clear ha0
  go_loopg [7] 8 (fun n i wr => ∃ j : Nat, j ≤ 7 ∧ i = .int .i64 j ∧ 8 - j ≤ n ∧ ∃ q, wr = wB.drewN q)
  case atStart => exact ⟨0, Nat.zero_le _, rfl, by omega, 0, rfl⟩
  case round =>
    obtain ⟨j, hj, rfl, hn, q, rfl⟩ := hrel
    have h0j : (0 : Int) ≤ (j : Int) := by omega
    have hm0' : 0 < m := by omega
    by_cases hj7 : j < 7
    · have hj7' : (j : Int) < 7 := by omega
      have d0 : wB.cell? ⟨kb, j, none⟩ = some (.string ⟨(keys.getD j []).toArray⟩) := (L.blk_cell HK.out j).trans (keyCells_at hj7)
      have hq := HQ.out j hj7
      generalize (⟨(keys.getD j []).toArray⟩ : ByteArray) = xk at *
      go_wp2_with fail
      go_quiet (fail)
      go_wp2_with fail
      go_roundg (8 - (j + 1))
      case rel => exact ⟨j + 1, by omega, by go_num, Nat.le_refl _, _, rfl⟩
      case measure => omega
    · have hj8 : j = 7 := by omega
      subst hj8
      have hm3 : ¬ (m : Int) < 3 := by have := HM.out; omega
      have o0 : wB.cell? ⟨sb, 9, none⟩ = some (.bool true) := by rw [← h0]; exact L.blk_cell HSB.out.blk 9
      have o1 : wB.cell? ⟨sb, 10, none⟩ = some (.bool true) := by rw [← h1]; exact L.blk_cell HSB.out.blk 10
      have c1 := HWB.out 1 (by omega)
      have c2 := HWB.out 2 (by omega)
      have hN := refName_any ⟨(ws[1]'(by omega)).toArray⟩ (wB.drewN q) (by rw [list_size]; unfold maxLen; omega)
      rw [list_data, hnm] at hN
      obtain ⟨x1, hx1⟩ : ∃ x1 : ByteArray, x1 = ⟨(ws[1]'(by omega)).toArray⟩ := ⟨_, rfl⟩
      rw [← hx1] at hN c1
      have HX1 := Lib.hid hx1
      clear hx1
      obtain ⟨x2, hx2⟩ : ∃ x2 : ByteArray, x2 = ⟨(ws[2]'(by omega)).toArray⟩ := ⟨_, rfl⟩
      rw [← hx2] at HP c2
      clear hx2
      have HN := Lib.hid hN
      clear hN hnm
      have hm1 : (1 : Int) < m := by omega
      have hm2' : (2 : Int) < m := by omega
      have hm00 : (0 : Int) < m := by omega
      go_wp2_with fail
      with_reducible refine (HN.out).mono ?_
      rintro e w' ⟨rfl, rfl⟩
      go_wp2_with fail
      with_reducible refine (HP.out.call _).mono ?_
      rintro e w2 ⟨rfl, hb2'⟩
      have hb2 : Below wB.heap.size wB w2 := (below_drewN (Below.refl _ wB) q).trans hb2'
      have HS2 := Lib.hid (HSB.out.below hb2)
      have HB2 := Lib.hid (HBB.out.trans (hb2.mono HSB.out.size))
      have HW2 : Hid (∀ j (hj : j < ws.length), w2.cell? ⟨g, j, none⟩ = some (.string ⟨ws[j].toArray⟩)) := Lib.hid (fun j hj => cell_later hb2 (HWB.out j hj))
      clear hb2 hb2' HN HP HWB HSB HBB HBW c0 c1 c2 o0 o1 HK HQ
      go_wp2_with fail
      obtain ⟨W, hW⟩ : ∃ W : World, W = w2.alloc (.cells #[.int .i64 l, .int .u64 (k : Int)] 40) := ⟨_, rfl⟩
      rw [← hW]
      have hbW : Below w2.heap.size w2 W := by rw [hW]; exact (Below.refl _ _).alloc (Nat.le_refl _) _
      have HBX := Lib.hid (show W.heap[w2.heap.size]? = some (.cells #[.int .i64 l, .int .u64 (k : Int)] 40 (0, 0)) by rw [hW]; exact heap_alloc_new w2 _)
      have HSW := Lib.hid (HS2.out.below hbW)
      have HBWW := Lib.hid (HB2.out.trans (hbW.mono HS2.out.size))
      have HWW : Hid (∀ j (hj : j < ws.length), W.cell? ⟨g, j, none⟩ = some (.string ⟨ws[j].toArray⟩)) := Lib.hid (fun j hj => cell_later hbW (HW2.out j hj))
      clear hW hbW HS2 HB2 HW2
      generalize w2.heap.size = lb at *
      go_quiet (fail)
      go_wp2_with fail
      go_ret
      exact ⟨rfl, (below_drewN HBWW.out _).bx⟩

set_option maxRecDepth 100000 in
set_option maxHeartbeats 4000000 in
theorem rline_floor_nofit (h : Sd w base sb s uv fv) (x : ByteArray) (hx : x.size ≤ 8192) (ws : List (List UInt8)) (a0 : List UInt8) (hws : P.words [] x.data.toList = ws) (hlen : 2 ≤ ws.length) (hz : ws[0]'(by omega) = a0) (HNK : Hid (∀ j, j < 7 → keys.getD j [] ≠ a0)) (ha : a0 = kFloor) (h3 : 3 ≤ ws.length) (h0 : s.once.getD 0 false = true) (h1 : s.once.getD 1 false = true) (hl1 : (ws[1]'(by omega)).length ≤ 8192) (hnm : P.name (ws[1]'(by omega)) = true) (l : Int) (k : Nat) (hk : k < 18446744073709551616) (HP : Hid (RPs ⟨(ws[2]'(by omega)).toArray⟩ l k true)) (HFI : Hid (fitsB (s.p.ns.getD 0 0) (s.p.ns.getD 1 0) l k = false)) :
    Calls Tryd.prog 38 #[.pointer (some ⟨sb, 0, none⟩), .string x] w (RlEnd w base sb none) := by
  obtain ⟨uA, ucap, hu, -, -⟩ := own_form h.us
  obtain ⟨fA, fcap, hf, -, -⟩ := own_form h.fs
  obtain ⟨un, hun⟩ : ∃ un, un = s.p.us.length := ⟨_, rfl⟩
  obtain ⟨fn, hfn⟩ : ∃ fn, fn = s.p.fs.length := ⟨_, rfl⟩
  rw [← hun] at hu
  rw [← hfn] at hf
  subst hu hf
  have HUN := Lib.hid hun
  have HFN := Lib.hid hfn
  clear hun hfn
  have hW := refWords_any x w (by omega)
  rw [hws] at hW
  have HW := Lib.hid hW
  have H := Lib.hid h
  clear h hW
  obtain ⟨m, hm⟩ : ∃ m, m = ws.length := ⟨_, rfl⟩
  have hm2 : 2 ≤ m := by rw [hm]; exact hlen
  have HM := Lib.hid hm
  obtain ⟨x0, hx0⟩ : ∃ x0 : ByteArray, x0 = ⟨a0.toArray⟩ := ⟨_, rfl⟩
  have HQ : Hid (∀ j, j < 7 → ((⟨(keys.getD j []).toArray⟩ : ByteArray).toList == x0.toList) = false) := Lib.hid (fun j hj => by rw [hx0, key_beq]; exact decide_eq_false (HNK.out j hj))
  have HX0 := Lib.hid hx0
  clear hm
  have qu : (x0.toList == [117, 115, 101, 114]) = false := by rw [hx0, str_is]; exact decide_eq_false (by rw [ha]; decide)
  have qf : (x0.toList == [102, 108, 111, 111, 114]) = true := by rw [hx0, str_is]; exact decide_eq_true ha
  clear hx0
  go_enter Tryd.func38, Tryd.ntmps38
  go_wp2_with fail
  with_reducible refine (HW.out).mono ?_
  rintro e w1 ⟨v1, rfl, hown, hb1⟩
  obtain ⟨g, cap, hv, hlt, hcells⟩ := words_own hown (by omega)
  subst hv
  have HWS := Lib.hid hcells
  rw [← HM.out]
  have HB1 := Lib.hid hb1
  have HS1 := Lib.hid (H.out.below hb1)
  clear hcells hown hb1 HW
  have hm0 : ¬ (m : Int) < 2 := by omega
  obtain ⟨wB, hwB⟩ : ∃ wB : World, wB = w1.alloc (.cells keyCells 103) := ⟨_, rfl⟩
  have tB : Below w1.heap.size w1 wB := by rw [hwB]; exact (Below.refl _ _).alloc (Nat.le_refl _) _
  have tK : wB.heap[w1.heap.size]? = some (.cells keyCells 103 (0, 0)) := by rw [hwB]; exact heap_alloc_new w1 _
  unfold keyCells at hwB
  go_wp2_with fail
  rw [← hwB]
  clear hwB
  have HWB : Hid (∀ j (hj : j < ws.length), wB.cell? ⟨g, j, none⟩ = some (.string ⟨ws[j].toArray⟩)) := Lib.hid (fun j hj => cell_later tB (HWS.out j hj))
  have HSB := Lib.hid (HS1.out.below tB)
  have HBB := Lib.hid ((HB1.out.mono H.out.size).trans (tB.mono HS1.out.size))
  have HBW := Lib.hid (HB1.out.trans (tB.mono HB1.out.size))
  have HK := Lib.hid tK
  generalize w1.heap.size = kb at *
  clear tB tK HWS HS1 HB1
  have c0 := HWB.out 0 (by omega)
  have ha0 : ws[0]'(by omega) = a0 := hz
  rw [ha0, ← HX0.out] at c0
  clear ha0
  go_loopg [7] 8 (fun n i wr => ∃ j : Nat, j ≤ 7 ∧ i = .int .i64 j ∧ 8 - j ≤ n ∧ ∃ q, wr = wB.drewN q)
  case atStart => exact ⟨0, Nat.zero_le _, rfl, by omega, 0, rfl⟩
  case round =>
    obtain ⟨j, hj, rfl, hn, q, rfl⟩ := hrel
    have h0j : (0 : Int) ≤ (j : Int) := by omega
    have hm0' : 0 < m := by omega
    by_cases hj7 : j < 7
    · have hj7' : (j : Int) < 7 := by omega
      have d0 : wB.cell? ⟨kb, j, none⟩ = some (.string ⟨(keys.getD j []).toArray⟩) := (L.blk_cell HK.out j).trans (keyCells_at hj7)
      have hq := HQ.out j hj7
      generalize (⟨(keys.getD j []).toArray⟩ : ByteArray) = xk at *
      go_wp2_with fail
      go_quiet (fail)
      go_wp2_with fail
      go_roundg (8 - (j + 1))
      case rel => exact ⟨j + 1, by omega, by go_num, Nat.le_refl _, _, rfl⟩
      case measure => omega
    · have hj8 : j = 7 := by omega
      subst hj8
      have hm3 : ¬ (m : Int) < 3 := by have := HM.out; omega
      have o0 : wB.cell? ⟨sb, 9, none⟩ = some (.bool true) := by rw [← h0]; exact L.blk_cell HSB.out.blk 9
      have o1 : wB.cell? ⟨sb, 10, none⟩ = some (.bool true) := by rw [← h1]; exact L.blk_cell HSB.out.blk 10
      have c1 := HWB.out 1 (by omega)
      have c2 := HWB.out 2 (by omega)
      have hN := refName_any ⟨(ws[1]'(by omega)).toArray⟩ (wB.drewN q) (by rw [list_size]; unfold maxLen; omega)
      rw [list_data, hnm] at hN
      obtain ⟨x1, hx1⟩ : ∃ x1 : ByteArray, x1 = ⟨(ws[1]'(by omega)).toArray⟩ := ⟨_, rfl⟩
      rw [← hx1] at hN c1
      have HX1 := Lib.hid hx1
      clear hx1
      obtain ⟨x2, hx2⟩ : ∃ x2 : ByteArray, x2 = ⟨(ws[2]'(by omega)).toArray⟩ := ⟨_, rfl⟩
      rw [← hx2] at HP c2
      clear hx2
      have HN := Lib.hid hN
      clear hN hnm
      have hm1 : (1 : Int) < m := by omega
      have hm2' : (2 : Int) < m := by omega
      have hm00 : (0 : Int) < m := by omega
      go_wp2_with fail
      with_reducible refine (HN.out).mono ?_
      rintro e w' ⟨rfl, rfl⟩
      go_wp2_with fail
      with_reducible refine (HP.out.call _).mono ?_
      rintro e w2 ⟨rfl, hb2'⟩
      have hb2 : Below wB.heap.size wB w2 := (below_drewN (Below.refl _ wB) q).trans hb2'
      have HS2 := Lib.hid (HSB.out.below hb2)
      have HB2 := Lib.hid (HBB.out.trans (hb2.mono HSB.out.size))
      have HW2 : Hid (∀ j (hj : j < ws.length), w2.cell? ⟨g, j, none⟩ = some (.string ⟨ws[j].toArray⟩)) := Lib.hid (fun j hj => cell_later hb2 (HWB.out j hj))
      clear hb2 hb2' HN HP HWB HSB HBB HBW c0 c1 c2 o0 o1 HK HQ
      go_wp2_with fail
      obtain ⟨W, hW⟩ : ∃ W : World, W = w2.alloc (.cells #[.int .i64 l, .int .u64 (k : Int)] 40) := ⟨_, rfl⟩
      rw [← hW]
      have hbW : Below w2.heap.size w2 W := by rw [hW]; exact (Below.refl _ _).alloc (Nat.le_refl _) _
      have HBX := Lib.hid (show W.heap[w2.heap.size]? = some (.cells #[.int .i64 l, .int .u64 (k : Int)] 40 (0, 0)) by rw [hW]; exact heap_alloc_new w2 _)
      have HSW := Lib.hid (HS2.out.below hbW)
      have HBWW := Lib.hid (HB2.out.trans (hbW.mono HS2.out.size))
      have HWW : Hid (∀ j (hj : j < ws.length), W.cell? ⟨g, j, none⟩ = some (.string ⟨ws[j].toArray⟩)) := Lib.hid (fun j hj => cell_later hbW (HW2.out j hj))
      clear hW hbW HS2 HB2 HW2
      generalize w2.heap.size = lb at *
      obtain ⟨⟨a0', a1', a2', a3', a4', a5'⟩, a6', a7', a8'⟩ := HSW.out.nine
      obtain ⟨b0, b1⟩ := lab_cells HBX.out
      have hkk : k < 18446744073709551616 := hk
      generalize s.p.ns.getD 0 0 = n0 at *
      generalize s.p.ns.getD 1 0 = n1 at *
      generalize s.p.ns.getD 2 0 = n2 at *
      generalize s.p.ns.getD 3 0 = n3 at *
      generalize s.p.ns.getD 4 0 = n4 at *
      generalize s.p.ns.getD 5 0 = n5 at *
      generalize (⟨s.p.hid.toArray⟩ : ByteArray) = hid at *
      go_still_tail 8, (by kernel_rfl)
      change wpList _ _ _ _ _ (World.drew _)
      clear a0' a1' a2' a3' a4' a5' a6' a7' a8'
      go_wp2_with fail
      with_reducible refine (refFits_any _ _ _ _ _ _ _ _ _ _ _ _ _ _ _ _ hkk).mono ?_
      rintro e w3 ⟨rfl, hb3'⟩
      have hb3 : Below W.heap.size W w3 := (drew_below W).trans hb3'
      have HS3 := Lib.hid (HSW.out.below hb3)
      have HB3 := Lib.hid (HBWW.out.trans (hb3.mono HSW.out.size))
      have HW3 : Hid (∀ j (hj : j < ws.length), w3.cell? ⟨g, j, none⟩ = some (.string ⟨ws[j].toArray⟩)) := Lib.hid (fun j hj => cell_later hb3 (HWW.out j hj))
      have HBX3 := Lib.hid ((hb3.block lb (L.blk_lt HBX.out)).trans HBX.out)
      clear hb3 hb3' b0 b1 HSW HBWW HWW HBX
      rw [HFI.out]
      go_wp2_with fail
      go_ret
      exact ⟨rfl, HB3.out.bx⟩
end Go.Proofs.YtadhhamfikpimaaDoor.O
