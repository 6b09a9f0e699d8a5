/-
  What the reference has read of a policy, in memory; the contract of its plainLine.
  The reference's plainLine, all seven in one, by the plain functions.
-/
import Derived.Test.YtadhhamfikpimaaDoorGm
import Derived.Test.YtadhhamfikpimaaDoorGf
namespace Go.Proofs.YtadhhamfikpimaaDoor.O
set_option linter.unusedVariables false
set_option linter.unusedSimpArgs false
open Go.RowKit
open T
variable {w w' : World} {base sb : Nat} {s : St} {uv fv : Value}

def sdCells (p : Pol) (o : List Bool) (uv fv : Value) : Array Value :=
  #[.int .i64 (p.ns.getD 0 0), .int .i64 (p.ns.getD 1 0), .int .i64 (p.ns.getD 2 0), .int .i64 (p.ns.getD 3 0), .int .i64 (p.ns.getD 4 0), .int .i64 (p.ns.getD 5 0), .string ⟨p.hid.toArray⟩, uv, fv, .bool (o.getD 0 false), .bool (o.getD 1 false), .bool (o.getD 2 false), .bool (o.getD 3 false), .bool (o.getD 4 false), .bool (o.getD 5 false), .bool (o.getD 6 false)]
structure Bx (base sb : Nat) (w w' : World) : Prop where
  os : w'.os = w.os
  tape : w'.tape = w.tape
  output : w'.output = w.output
  size : w.heap.size ≤ w'.heap.size
  block : ∀ k, k < base → k ≠ sb → w'.heap[k]? = w.heap[k]?
section
variable {a b c : World} {base sb : Nat}
theorem _root_.Go.RowKit.Below.bx {sb : Nat} (h : Below base a b) : Bx base sb a b := ⟨h.os, h.tape, h.output, h.size, fun k hk _ => h.block k hk⟩
theorem Bx.trans (h : Bx base sb a b) (k : Bx base sb b c) : Bx base sb a c :=
  ⟨k.os.trans h.os, k.tape.trans h.tape, k.output.trans h.output, Nat.le_trans h.size k.size, fun i hi hn => (k.block i hi hn).trans (h.block i hi hn)⟩
theorem Bx.below (h : Bx base sb a b) (k : Below base b c) : Bx base sb a c := h.trans k.bx
theorem Bx.drewN (h : Bx base sb a b) (n : Nat) : Bx base sb a (b.drewN n) := ⟨h.os, h.tape, h.output, h.size, h.block⟩
theorem Bx.setCell (h : Bx base sb a b) {p : Addr} (hp : p.block = sb) (u : Value) : Bx base sb a (b.setCell p u) := by
  have g := (Below.refl p.block b).setCell (p := p) (Nat.le_refl _) u
  refine ⟨g.os.trans h.os, g.tape.trans h.tape, g.output.trans h.output, Nat.le_trans h.size g.size, fun k hk hn => ?_⟩
  exact (Below.heap_setCell b p u k (by rw [hp]; exact hn)).trans (h.block k hk hn)
end
structure Sd (w : World) (base sb : Nat) (s : St) (uv fv : Value) : Prop where
  hb : base ≤ w.heap.size
  blk : w.heap[sb]? = some (.cells (sdCells s.p s.once uv fv) 69 (0, 0))
  us : w.ownsRow base 72 4 uv s.p.us.length (usrCells s.p.us)
  fs : w.ownsRow base 76 3 fv s.p.fs.length (flrCells s.p.fs)
  ns : s.p.ns.length = 6
  on : s.once.length = 7
theorem Sd.below (h : Sd w base sb s uv fv) (hb : Below w.heap.size w w') : Sd w' base sb s uv fv :=
  ⟨Nat.le_trans h.hb hb.size, (hb.block sb (L.blk_lt h.blk)).trans h.blk, h.us.kept (grown_of hb none) (by cases uv.ownBlock <;> simp), h.fs.kept (grown_of hb none) (by cases fv.ownBlock <;> simp), h.ns, h.on⟩
theorem Sd.size (h : Sd w base sb s uv fv) : base ≤ w.heap.size := h.hb
theorem Sd.stored (h : Sd w base sb s uv fv) (i : Nat) (u : Value) {t : St} (hc : (sdCells s.p s.once uv fv).setIfInBounds i u = sdCells t.p t.once uv fv) (hu : t.p.us = s.p.us) (hf : t.p.fs = s.p.fs) (hn : t.p.ns.length = 6) (ho : t.once.length = 7) : Sd (w.setCell ⟨sb, i, none⟩ u) base sb t uv fv := by
  refine ⟨Nat.le_trans h.hb ((Below.refl sb w).setCell (p := ⟨sb, i, none⟩) (Nat.le_refl _) u).size, ?_, ?_, ?_, hn, ho⟩
  · rw [← hc]; exact L.blk_set h.blk i u
  · rw [hu]; exact h.us.kept (grown_set w ⟨sb, i, none⟩ u) (own_ne h.us (fun cs => ne_type (by decide) h.blk))
  · rw [hf]; exact h.fs.kept (grown_set w ⟨sb, i, none⟩ u) (own_ne h.fs (fun cs => ne_type (by decide) h.blk))
theorem sd_once (p : Pol) (o : List Bool) (uv fv : Value) (k : Nat) (ho : o.length = 7) (hk : k < 7) : (sdCells p o uv fv).setIfInBounds (9 + k) (.bool true) = sdCells p (o.set k true) uv fv := by
  match o, ho with
  | [a, b, c, d, e, g, i], _ =>
    match k, hk with
    | 0, _ => rfl
    | 1, _ => rfl
    | 2, _ => rfl
    | 3, _ => rfl
    | 4, _ => rfl
    | 5, _ => rfl
    | 6, _ => rfl
theorem sd_num (p : Pol) (o : List Bool) (uv fv : Value) (k : Nat) (v : Int) (hl : p.ns.length = 6) (hk : k < 6) : (sdCells p o uv fv).setIfInBounds k (.int .i64 v) = sdCells { p with ns := p.ns.set k v } o uv fv := by
  obtain ⟨ns, hid, us, fs⟩ := p
  match ns, hl with
  | [a, b, c, d, e, g], _ =>
    match k, hk with
    | 0, _ => rfl
    | 1, _ => rfl
    | 2, _ => rfl
    | 3, _ => rfl
    | 4, _ => rfl
    | 5, _ => rfl
def NumC (x : ByteArray) (lo hi v : Int) (b : Bool) : Prop := ∀ w : World, Calls Tryd.prog 96 #[.string x, .int .i64 lo, .int .i64 hi] w fun e w' => e = .returned (.tuple #[.int .i64 v, .bool b]) ∧ w = w'
theorem NumC.call {x : ByteArray} {lo hi v : Int} {b : Bool} (h : NumC x lo hi v b) (w : World) : Calls Tryd.prog 96 #[.string x, .int .i64 lo, .int .i64 hi] w fun e w' => e = .returned (.tuple #[.int .i64 v, .bool b]) ∧ w = w' := h w


set_option maxRecDepth 100000 in
set_option maxHeartbeats 2000000 in
theorem pl0_known (h : Sd w base sb s uv fv) (x : ByteArray) (ho : s.once.getD 0 false = true) :
    Calls Tryd.prog 68 #[.pointer (some ⟨sb, 0, none⟩), .int .i64 0, .string x] w fun e w' => e = .returned (.bool false) ∧ w = w' := by
  have c : w.cell? ⟨sb, 9, none⟩ = some (.bool true) := by rw [← ho]; exact L.blk_cell h.blk 9
  clear h ho
  go_enter Tryd.func68, Tryd.ntmps68
  go_wp2_with fail
  go_ret
  exact ⟨rfl, rfl⟩


set_option maxRecDepth 100000 in
set_option maxHeartbeats 2000000 in
theorem pl1_known (h : Sd w base sb s uv fv) (x : ByteArray) (ho : s.once.getD 1 false = true) :
    Calls Tryd.prog 68 #[.pointer (some ⟨sb, 0, none⟩), .int .i64 1, .string x] w fun e w' => e = .returned (.bool false) ∧ w = w' := by
  have c : w.cell? ⟨sb, 10, none⟩ = some (.bool true) := by rw [← ho]; exact L.blk_cell h.blk 10
  clear h ho
  go_enter Tryd.func68, Tryd.ntmps68
  go_wp2_with fail
  go_ret
  exact ⟨rfl, rfl⟩


set_option maxRecDepth 100000 in
set_option maxHeartbeats 2000000 in
theorem pl2_known (h : Sd w base sb s uv fv) (x : ByteArray) (ho : s.once.getD 2 false = true) :
    Calls Tryd.prog 68 #[.pointer (some ⟨sb, 0, none⟩), .int .i64 2, .string x] w fun e w' => e = .returned (.bool false) ∧ w = w' := by
  have c : w.cell? ⟨sb, 11, none⟩ = some (.bool true) := by rw [← ho]; exact L.blk_cell h.blk 11
  clear h ho
  go_enter Tryd.func68, Tryd.ntmps68
  go_wp2_with fail
  go_ret
  exact ⟨rfl, rfl⟩


set_option maxRecDepth 100000 in
set_option maxHeartbeats 2000000 in
theorem pl3_known (h : Sd w base sb s uv fv) (x : ByteArray) (ho : s.once.getD 3 false = true) :
    Calls Tryd.prog 68 #[.pointer (some ⟨sb, 0, none⟩), .int .i64 3, .string x] w fun e w' => e = .returned (.bool false) ∧ w = w' := by
  have c : w.cell? ⟨sb, 12, none⟩ = some (.bool true) := by rw [← ho]; exact L.blk_cell h.blk 12
  clear h ho
  go_enter Tryd.func68, Tryd.ntmps68
  go_wp2_with fail
  go_ret
  exact ⟨rfl, rfl⟩


set_option maxRecDepth 100000 in
set_option maxHeartbeats 2000000 in
theorem pl4_known (h : Sd w base sb s uv fv) (x : ByteArray) (ho : s.once.getD 4 false = true) :
    Calls Tryd.prog 68 #[.pointer (some ⟨sb, 0, none⟩), .int .i64 4, .string x] w fun e w' => e = .returned (.bool false) ∧ w = w' := by
  have c : w.cell? ⟨sb, 13, none⟩ = some (.bool true) := by rw [← ho]; exact L.blk_cell h.blk 13
  clear h ho
  go_enter Tryd.func68, Tryd.ntmps68
  go_wp2_with fail
  go_ret
  exact ⟨rfl, rfl⟩


set_option maxRecDepth 100000 in
set_option maxHeartbeats 2000000 in
theorem pl5_known (h : Sd w base sb s uv fv) (x : ByteArray) (ho : s.once.getD 5 false = true) :
    Calls Tryd.prog 68 #[.pointer (some ⟨sb, 0, none⟩), .int .i64 5, .string x] w fun e w' => e = .returned (.bool false) ∧ w = w' := by
  have c : w.cell? ⟨sb, 14, none⟩ = some (.bool true) := by rw [← ho]; exact L.blk_cell h.blk 14
  clear h ho
  go_enter Tryd.func68, Tryd.ntmps68
  go_wp2_with fail
  go_ret
  exact ⟨rfl, rfl⟩


set_option maxRecDepth 100000 in
set_option maxHeartbeats 2000000 in
theorem pl6_known (h : Sd w base sb s uv fv) (x : ByteArray) (ho : s.once.getD 6 false = true) :
    Calls Tryd.prog 68 #[.pointer (some ⟨sb, 0, none⟩), .int .i64 6, .string x] w fun e w' => e = .returned (.bool false) ∧ w = w' := by
  have c : w.cell? ⟨sb, 15, none⟩ = some (.bool true) := by rw [← ho]; exact L.blk_cell h.blk 15
  clear h ho
  go_enter Tryd.func68, Tryd.ntmps68
  go_wp2_with fail
  go_ret
  exact ⟨rfl, rfl⟩


set_option maxRecDepth 100000 in
set_option maxHeartbeats 2000000 in
theorem pl0_new (h : Sd w base sb s uv fv) (x : ByteArray) (ho : s.once.getD 0 false = false) (v : Int) (b : Bool) (HN : Hid (NumC x 1 16 v b)) :
    Calls Tryd.prog 68 #[.pointer (some ⟨sb, 0, none⟩), .int .i64 0, .string x] w fun e w' => e = .returned (.bool b) ∧ Sd w' base sb ⟨{ s.p with ns := s.p.ns.set 0 v }, s.once.set 0 true⟩ uv fv ∧ Bx base sb w w' := by
  have c : w.cell? ⟨sb, 9, none⟩ = some (.bool false) := by rw [← ho]; exact L.blk_cell h.blk 9
  have z := L.blk_free h.blk 9
  have h1 : Sd (w.setCell ⟨sb, 9, none⟩ (.bool true)) base sb ⟨s.p, s.once.set 0 true⟩ uv fv := h.stored 9 (.bool true) (t := ⟨s.p, s.once.set 0 true⟩) (sd_once s.p s.once uv fv 0 h.on (by omega)) rfl rfl h.ns (by simp [h.on])
  have b1 : Bx base sb w (w.setCell ⟨sb, 9, none⟩ (.bool true)) := (Below.refl base w).bx.setCell (p := ⟨sb, 9, none⟩) rfl _
  go_enter Tryd.func68, Tryd.ntmps68
  go_wp2_with fail
  have s1 : (w.setCell ⟨sb, 9, none⟩ (.bool true)).heap.size = w.heap.size := by simp [World.setCell]
  generalize w.setCell ⟨sb, 9, none⟩ (.bool true) = w1 at h1 b1 s1 ⊢
  clear c z
  obtain ⟨W, hW⟩ : ∃ W : World, W = (w1.alloc (.cells #[.int .i64 1, .int .i64 0, .int .i64 1, .int .i64 0, .int .i64 1, .int .i64 0] 123)).alloc (.cells #[.int .i64 16, .int .i64 64, .int .i64 400, .int .i64 64, .int .i64 200, .int .i64 20] 123) := ⟨_, rfl⟩
  rw [← hW]
  have hbW : Below w1.heap.size w1 W := by rw [hW]; exact two_new _ _ _
  have q0 := (Below.heap_alloc (w1.alloc (.cells #[.int .i64 1, .int .i64 0, .int .i64 1, .int .i64 0, .int .i64 1, .int .i64 0] 123)) (.cells #[.int .i64 16, .int .i64 64, .int .i64 400, .int .i64 64, .int .i64 200, .int .i64 20] 123) w1.heap.size (by simp)).trans (heap_alloc_new w1 _)
  have q1 : W.heap[w1.heap.size + 1]? = some (.cells #[.int .i64 16, .int .i64 64, .int .i64 400, .int .i64 64, .int .i64 200, .int .i64 20] 123 (0, 0)) := by
    rw [hW]
    have := heap_alloc_new (w1.alloc (.cells #[.int .i64 1, .int .i64 0, .int .i64 1, .int .i64 0, .int .i64 1, .int .i64 0] 123)) (.cells #[.int .i64 16, .int .i64 64, .int .i64 400, .int .i64 64, .int .i64 200, .int .i64 20] 123)
    simpa using this
  rw [← hW] at q0
  have g0 : W.cell? ⟨w1.heap.size, 0, none⟩ = some (.int .i64 1) := L.blk_cell q0 0
  have g1 : W.cell? ⟨w1.heap.size + 1, 0, none⟩ = some (.int .i64 16) := L.blk_cell q1 0
  have H1 := Lib.hid (h1.below hbW)
  have B1 := Lib.hid (b1.below (hbW.mono h1.size))
  rw [s1] at g0 g1
  clear hW hbW q0 q1 h1 b1 h ho s1
  go_quiet ((go_at_call 96; exact Calls.quiet_of_same ((HN.out.call _).mono (fun e w' h => ⟨h.1, h.2.symm⟩))))
  clear g0 g1
  have H2 := Lib.hid (H1.out.below (below_drewN (Below.refl W.heap.size W) nq))
  have B2 := Lib.hid (B1.out.drewN nq)
  have c : (W.drewN nq).cell? ⟨sb, 0, none⟩ = some (.int .i64 (s.p.ns.getD 0 0)) := L.blk_cell H2.out.blk 0
  have z : (W.drewN nq).frozen? ⟨sb, 0, none⟩ = false := L.blk_free H2.out.blk 0
  have H3 := Lib.hid (H2.out.stored 0 (.int .i64 v) (t := ⟨{ s.p with ns := s.p.ns.set 0 v }, s.once.set 0 true⟩) (sd_num s.p (s.once.set 0 true) uv fv 0 v H2.out.ns (by omega)) rfl rfl (by simp [H2.out.ns]) H2.out.on)
  have B3 := Lib.hid (B2.out.setCell (p := ⟨sb, 0, none⟩) rfl (.int .i64 v))
  obtain ⟨W2, hW2⟩ : ∃ W2, W2 = W.drewN nq := ⟨_, rfl⟩
  rw [← hW2] at c z H3 B3 ⊢
  clear hW2 H2 B2 H1 B1
  go_wp2_with fail
  go_ret
  exact ⟨rfl, H3.out, B3.out⟩


set_option maxRecDepth 100000 in
set_option maxHeartbeats 2000000 in
theorem pl1_new (h : Sd w base sb s uv fv) (x : ByteArray) (ho : s.once.getD 1 false = false) (v : Int) (b : Bool) (HN : Hid (NumC x 0 64 v b)) :
    Calls Tryd.prog 68 #[.pointer (some ⟨sb, 0, none⟩), .int .i64 1, .string x] w fun e w' => e = .returned (.bool b) ∧ Sd w' base sb ⟨{ s.p with ns := s.p.ns.set 1 v }, s.once.set 1 true⟩ uv fv ∧ Bx base sb w w' := by
  have c : w.cell? ⟨sb, 10, none⟩ = some (.bool false) := by rw [← ho]; exact L.blk_cell h.blk 10
  have z := L.blk_free h.blk 10
  have h1 : Sd (w.setCell ⟨sb, 10, none⟩ (.bool true)) base sb ⟨s.p, s.once.set 1 true⟩ uv fv := h.stored 10 (.bool true) (t := ⟨s.p, s.once.set 1 true⟩) (sd_once s.p s.once uv fv 1 h.on (by omega)) rfl rfl h.ns (by simp [h.on])
  have b1 : Bx base sb w (w.setCell ⟨sb, 10, none⟩ (.bool true)) := (Below.refl base w).bx.setCell (p := ⟨sb, 10, none⟩) rfl _
  go_enter Tryd.func68, Tryd.ntmps68
  go_wp2_with fail
  have s1 : (w.setCell ⟨sb, 10, none⟩ (.bool true)).heap.size = w.heap.size := by simp [World.setCell]
  generalize w.setCell ⟨sb, 10, none⟩ (.bool true) = w1 at h1 b1 s1 ⊢
  clear c z
  obtain ⟨W, hW⟩ : ∃ W : World, W = (w1.alloc (.cells #[.int .i64 1, .int .i64 0, .int .i64 1, .int .i64 0, .int .i64 1, .int .i64 0] 123)).alloc (.cells #[.int .i64 16, .int .i64 64, .int .i64 400, .int .i64 64, .int .i64 200, .int .i64 20] 123) := ⟨_, rfl⟩
  rw [← hW]
  have hbW : Below w1.heap.size w1 W := by rw [hW]; exact two_new _ _ _
  have q0 := (Below.heap_alloc (w1.alloc (.cells #[.int .i64 1, .int .i64 0, .int .i64 1, .int .i64 0, .int .i64 1, .int .i64 0] 123)) (.cells #[.int .i64 16, .int .i64 64, .int .i64 400, .int .i64 64, .int .i64 200, .int .i64 20] 123) w1.heap.size (by simp)).trans (heap_alloc_new w1 _)
  have q1 : W.heap[w1.heap.size + 1]? = some (.cells #[.int .i64 16, .int .i64 64, .int .i64 400, .int .i64 64, .int .i64 200, .int .i64 20] 123 (0, 0)) := by
    rw [hW]
    have := heap_alloc_new (w1.alloc (.cells #[.int .i64 1, .int .i64 0, .int .i64 1, .int .i64 0, .int .i64 1, .int .i64 0] 123)) (.cells #[.int .i64 16, .int .i64 64, .int .i64 400, .int .i64 64, .int .i64 200, .int .i64 20] 123)
    simpa using this
  rw [← hW] at q0
  have g0 : W.cell? ⟨w1.heap.size, 1, none⟩ = some (.int .i64 0) := L.blk_cell q0 1
  have g1 : W.cell? ⟨w1.heap.size + 1, 1, none⟩ = some (.int .i64 64) := L.blk_cell q1 1
  have H1 := Lib.hid (h1.below hbW)
  have B1 := Lib.hid (b1.below (hbW.mono h1.size))
  rw [s1] at g0 g1
  clear hW hbW q0 q1 h1 b1 h ho s1
  go_quiet ((go_at_call 96; exact Calls.quiet_of_same ((HN.out.call _).mono (fun e w' h => ⟨h.1, h.2.symm⟩))))
  clear g0 g1
  have H2 := Lib.hid (H1.out.below (below_drewN (Below.refl W.heap.size W) nq))
  have B2 := Lib.hid (B1.out.drewN nq)
  have c : (W.drewN nq).cell? ⟨sb, 1, none⟩ = some (.int .i64 (s.p.ns.getD 1 0)) := L.blk_cell H2.out.blk 1
  have z : (W.drewN nq).frozen? ⟨sb, 1, none⟩ = false := L.blk_free H2.out.blk 1
  have H3 := Lib.hid (H2.out.stored 1 (.int .i64 v) (t := ⟨{ s.p with ns := s.p.ns.set 1 v }, s.once.set 1 true⟩) (sd_num s.p (s.once.set 1 true) uv fv 1 v H2.out.ns (by omega)) rfl rfl (by simp [H2.out.ns]) H2.out.on)
  have B3 := Lib.hid (B2.out.setCell (p := ⟨sb, 1, none⟩) rfl (.int .i64 v))
  obtain ⟨W2, hW2⟩ : ∃ W2, W2 = W.drewN nq := ⟨_, rfl⟩
  rw [← hW2] at c z H3 B3 ⊢
  clear hW2 H2 B2 H1 B1
  go_wp2_with fail
  go_ret
  exact ⟨rfl, H3.out, B3.out⟩


set_option maxRecDepth 100000 in
set_option maxHeartbeats 2000000 in
theorem pl2_new (h : Sd w base sb s uv fv) (x : ByteArray) (ho : s.once.getD 2 false = false) (v : Int) (b : Bool) (HN : Hid (NumC x 1 400 v b)) :
    Calls Tryd.prog 68 #[.pointer (some ⟨sb, 0, none⟩), .int .i64 2, .string x] w fun e w' => e = .returned (.bool b) ∧ Sd w' base sb ⟨{ s.p with ns := s.p.ns.set 2 v }, s.once.set 2 true⟩ uv fv ∧ Bx base sb w w' := by
  have c : w.cell? ⟨sb, 11, none⟩ = some (.bool false) := by rw [← ho]; exact L.blk_cell h.blk 11
  have z := L.blk_free h.blk 11
  have h1 : Sd (w.setCell ⟨sb, 11, none⟩ (.bool true)) base sb ⟨s.p, s.once.set 2 true⟩ uv fv := h.stored 11 (.bool true) (t := ⟨s.p, s.once.set 2 true⟩) (sd_once s.p s.once uv fv 2 h.on (by omega)) rfl rfl h.ns (by simp [h.on])
  have b1 : Bx base sb w (w.setCell ⟨sb, 11, none⟩ (.bool true)) := (Below.refl base w).bx.setCell (p := ⟨sb, 11, none⟩) rfl _
  go_enter Tryd.func68, Tryd.ntmps68
  go_wp2_with fail
  have s1 : (w.setCell ⟨sb, 11, none⟩ (.bool true)).heap.size = w.heap.size := by simp [World.setCell]
  generalize w.setCell ⟨sb, 11, none⟩ (.bool true) = w1 at h1 b1 s1 ⊢
  clear c z
  obtain ⟨W, hW⟩ : ∃ W : World, W = (w1.alloc (.cells #[.int .i64 1, .int .i64 0, .int .i64 1, .int .i64 0, .int .i64 1, .int .i64 0] 123)).alloc (.cells #[.int .i64 16, .int .i64 64, .int .i64 400, .int .i64 64, .int .i64 200, .int .i64 20] 123) := ⟨_, rfl⟩
  rw [← hW]
  have hbW : Below w1.heap.size w1 W := by rw [hW]; exact two_new _ _ _
  have q0 := (Below.heap_alloc (w1.alloc (.cells #[.int .i64 1, .int .i64 0, .int .i64 1, .int .i64 0, .int .i64 1, .int .i64 0] 123)) (.cells #[.int .i64 16, .int .i64 64, .int .i64 400, .int .i64 64, .int .i64 200, .int .i64 20] 123) w1.heap.size (by simp)).trans (heap_alloc_new w1 _)
  have q1 : W.heap[w1.heap.size + 1]? = some (.cells #[.int .i64 16, .int .i64 64, .int .i64 400, .int .i64 64, .int .i64 200, .int .i64 20] 123 (0, 0)) := by
    rw [hW]
    have := heap_alloc_new (w1.alloc (.cells #[.int .i64 1, .int .i64 0, .int .i64 1, .int .i64 0, .int .i64 1, .int .i64 0] 123)) (.cells #[.int .i64 16, .int .i64 64, .int .i64 400, .int .i64 64, .int .i64 200, .int .i64 20] 123)
    simpa using this
  rw [← hW] at q0
  have g0 : W.cell? ⟨w1.heap.size, 2, none⟩ = some (.int .i64 1) := L.blk_cell q0 2
  have g1 : W.cell? ⟨w1.heap.size + 1, 2, none⟩ = some (.int .i64 400) := L.blk_cell q1 2
  have H1 := Lib.hid (h1.below hbW)
  have B1 := Lib.hid (b1.below (hbW.mono h1.size))
  rw [s1] at g0 g1
  clear hW hbW q0 q1 h1 b1 h ho s1
  go_quiet ((go_at_call 96; exact Calls.quiet_of_same ((HN.out.call _).mono (fun e w' h => ⟨h.1, h.2.symm⟩))))
  clear g0 g1
  have H2 := Lib.hid (H1.out.below (below_drewN (Below.refl W.heap.size W) nq))
  have B2 := Lib.hid (B1.out.drewN nq)
  have c : (W.drewN nq).cell? ⟨sb, 2, none⟩ = some (.int .i64 (s.p.ns.getD 2 0)) := L.blk_cell H2.out.blk 2
  have z : (W.drewN nq).frozen? ⟨sb, 2, none⟩ = false := L.blk_free H2.out.blk 2
  have H3 := Lib.hid (H2.out.stored 2 (.int .i64 v) (t := ⟨{ s.p with ns := s.p.ns.set 2 v }, s.once.set 2 true⟩) (sd_num s.p (s.once.set 2 true) uv fv 2 v H2.out.ns (by omega)) rfl rfl (by simp [H2.out.ns]) H2.out.on)
  have B3 := Lib.hid (B2.out.setCell (p := ⟨sb, 2, none⟩) rfl (.int .i64 v))
  obtain ⟨W2, hW2⟩ : ∃ W2, W2 = W.drewN nq := ⟨_, rfl⟩
  rw [← hW2] at c z H3 B3 ⊢
  clear hW2 H2 B2 H1 B1
  go_wp2_with fail
  go_ret
  exact ⟨rfl, H3.out, B3.out⟩


set_option maxRecDepth 100000 in
set_option maxHeartbeats 2000000 in
theorem pl3_new (h : Sd w base sb s uv fv) (x : ByteArray) (ho : s.once.getD 3 false = false) (v : Int) (b : Bool) (HN : Hid (NumC x 0 64 v b)) :
    Calls Tryd.prog 68 #[.pointer (some ⟨sb, 0, none⟩), .int .i64 3, .string x] w fun e w' => e = .returned (.bool b) ∧ Sd w' base sb ⟨{ s.p with ns := s.p.ns.set 3 v }, s.once.set 3 true⟩ uv fv ∧ Bx base sb w w' := by
  have c : w.cell? ⟨sb, 12, none⟩ = some (.bool false) := by rw [← ho]; exact L.blk_cell h.blk 12
  have z := L.blk_free h.blk 12
  have h1 : Sd (w.setCell ⟨sb, 12, none⟩ (.bool true)) base sb ⟨s.p, s.once.set 3 true⟩ uv fv := h.stored 12 (.bool true) (t := ⟨s.p, s.once.set 3 true⟩) (sd_once s.p s.once uv fv 3 h.on (by omega)) rfl rfl h.ns (by simp [h.on])
  have b1 : Bx base sb w (w.setCell ⟨sb, 12, none⟩ (.bool true)) := (Below.refl base w).bx.setCell (p := ⟨sb, 12, none⟩) rfl _
  go_enter Tryd.func68, Tryd.ntmps68
  go_wp2_with fail
  have s1 : (w.setCell ⟨sb, 12, none⟩ (.bool true)).heap.size = w.heap.size := by simp [World.setCell]
  generalize w.setCell ⟨sb, 12, none⟩ (.bool true) = w1 at h1 b1 s1 ⊢
  clear c z
  obtain ⟨W, hW⟩ : ∃ W : World, W = (w1.alloc (.cells #[.int .i64 1, .int .i64 0, .int .i64 1, .int .i64 0, .int .i64 1, .int .i64 0] 123)).alloc (.cells #[.int .i64 16, .int .i64 64, .int .i64 400, .int .i64 64, .int .i64 200, .int .i64 20] 123) := ⟨_, rfl⟩
  rw [← hW]
  have hbW : Below w1.heap.size w1 W := by rw [hW]; exact two_new _ _ _
  have q0 := (Below.heap_alloc (w1.alloc (.cells #[.int .i64 1, .int .i64 0, .int .i64 1, .int .i64 0, .int .i64 1, .int .i64 0] 123)) (.cells #[.int .i64 16, .int .i64 64, .int .i64 400, .int .i64 64, .int .i64 200, .int .i64 20] 123) w1.heap.size (by simp)).trans (heap_alloc_new w1 _)
  have q1 : W.heap[w1.heap.size + 1]? = some (.cells #[.int .i64 16, .int .i64 64, .int .i64 400, .int .i64 64, .int .i64 200, .int .i64 20] 123 (0, 0)) := by
    rw [hW]
    have := heap_alloc_new (w1.alloc (.cells #[.int .i64 1, .int .i64 0, .int .i64 1, .int .i64 0, .int .i64 1, .int .i64 0] 123)) (.cells #[.int .i64 16, .int .i64 64, .int .i64 400, .int .i64 64, .int .i64 200, .int .i64 20] 123)
    simpa using this
  rw [← hW] at q0
  have g0 : W.cell? ⟨w1.heap.size, 3, none⟩ = some (.int .i64 0) := L.blk_cell q0 3
  have g1 : W.cell? ⟨w1.heap.size + 1, 3, none⟩ = some (.int .i64 64) := L.blk_cell q1 3
  have H1 := Lib.hid (h1.below hbW)
  have B1 := Lib.hid (b1.below (hbW.mono h1.size))
  rw [s1] at g0 g1
  clear hW hbW q0 q1 h1 b1 h ho s1
  go_quiet ((go_at_call 96; exact Calls.quiet_of_same ((HN.out.call _).mono (fun e w' h => ⟨h.1, h.2.symm⟩))))
  clear g0 g1
  have H2 := Lib.hid (H1.out.below (below_drewN (Below.refl W.heap.size W) nq))
  have B2 := Lib.hid (B1.out.drewN nq)
  have c : (W.drewN nq).cell? ⟨sb, 3, none⟩ = some (.int .i64 (s.p.ns.getD 3 0)) := L.blk_cell H2.out.blk 3
  have z : (W.drewN nq).frozen? ⟨sb, 3, none⟩ = false := L.blk_free H2.out.blk 3
  have H3 := Lib.hid (H2.out.stored 3 (.int .i64 v) (t := ⟨{ s.p with ns := s.p.ns.set 3 v }, s.once.set 3 true⟩) (sd_num s.p (s.once.set 3 true) uv fv 3 v H2.out.ns (by omega)) rfl rfl (by simp [H2.out.ns]) H2.out.on)
  have B3 := Lib.hid (B2.out.setCell (p := ⟨sb, 3, none⟩) rfl (.int .i64 v))
  obtain ⟨W2, hW2⟩ : ∃ W2, W2 = W.drewN nq := ⟨_, rfl⟩
  rw [← hW2] at c z H3 B3 ⊢
  clear hW2 H2 B2 H1 B1
  go_wp2_with fail
  go_ret
  exact ⟨rfl, H3.out, B3.out⟩


set_option maxRecDepth 100000 in
set_option maxHeartbeats 2000000 in
theorem pl4_new (h : Sd w base sb s uv fv) (x : ByteArray) (ho : s.once.getD 4 false = false) (v : Int) (b : Bool) (HN : Hid (NumC x 1 200 v b)) :
    Calls Tryd.prog 68 #[.pointer (some ⟨sb, 0, none⟩), .int .i64 4, .string x] w fun e w' => e = .returned (.bool b) ∧ Sd w' base sb ⟨{ s.p with ns := s.p.ns.set 4 v }, s.once.set 4 true⟩ uv fv ∧ Bx base sb w w' := by
  have c : w.cell? ⟨sb, 13, none⟩ = some (.bool false) := by rw [← ho]; exact L.blk_cell h.blk 13
  have z := L.blk_free h.blk 13
  have h1 : Sd (w.setCell ⟨sb, 13, none⟩ (.bool true)) base sb ⟨s.p, s.once.set 4 true⟩ uv fv := h.stored 13 (.bool true) (t := ⟨s.p, s.once.set 4 true⟩) (sd_once s.p s.once uv fv 4 h.on (by omega)) rfl rfl h.ns (by simp [h.on])
  have b1 : Bx base sb w (w.setCell ⟨sb, 13, none⟩ (.bool true)) := (Below.refl base w).bx.setCell (p := ⟨sb, 13, none⟩) rfl _
  go_enter Tryd.func68, Tryd.ntmps68
  go_wp2_with fail
  have s1 : (w.setCell ⟨sb, 13, none⟩ (.bool true)).heap.size = w.heap.size := by simp [World.setCell]
  generalize w.setCell ⟨sb, 13, none⟩ (.bool true) = w1 at h1 b1 s1 ⊢
  clear c z
  obtain ⟨W, hW⟩ : ∃ W : World, W = (w1.alloc (.cells #[.int .i64 1, .int .i64 0, .int .i64 1, .int .i64 0, .int .i64 1, .int .i64 0] 123)).alloc (.cells #[.int .i64 16, .int .i64 64, .int .i64 400, .int .i64 64, .int .i64 200, .int .i64 20] 123) := ⟨_, rfl⟩
  rw [← hW]
  have hbW : Below w1.heap.size w1 W := by rw [hW]; exact two_new _ _ _
  have q0 := (Below.heap_alloc (w1.alloc (.cells #[.int .i64 1, .int .i64 0, .int .i64 1, .int .i64 0, .int .i64 1, .int .i64 0] 123)) (.cells #[.int .i64 16, .int .i64 64, .int .i64 400, .int .i64 64, .int .i64 200, .int .i64 20] 123) w1.heap.size (by simp)).trans (heap_alloc_new w1 _)
  have q1 : W.heap[w1.heap.size + 1]? = some (.cells #[.int .i64 16, .int .i64 64, .int .i64 400, .int .i64 64, .int .i64 200, .int .i64 20] 123 (0, 0)) := by
    rw [hW]
    have := heap_alloc_new (w1.alloc (.cells #[.int .i64 1, .int .i64 0, .int .i64 1, .int .i64 0, .int .i64 1, .int .i64 0] 123)) (.cells #[.int .i64 16, .int .i64 64, .int .i64 400, .int .i64 64, .int .i64 200, .int .i64 20] 123)
    simpa using this
  rw [← hW] at q0
  have g0 : W.cell? ⟨w1.heap.size, 4, none⟩ = some (.int .i64 1) := L.blk_cell q0 4
  have g1 : W.cell? ⟨w1.heap.size + 1, 4, none⟩ = some (.int .i64 200) := L.blk_cell q1 4
  have H1 := Lib.hid (h1.below hbW)
  have B1 := Lib.hid (b1.below (hbW.mono h1.size))
  rw [s1] at g0 g1
  clear hW hbW q0 q1 h1 b1 h ho s1
  go_quiet ((go_at_call 96; exact Calls.quiet_of_same ((HN.out.call _).mono (fun e w' h => ⟨h.1, h.2.symm⟩))))
  clear g0 g1
  have H2 := Lib.hid (H1.out.below (below_drewN (Below.refl W.heap.size W) nq))
  have B2 := Lib.hid (B1.out.drewN nq)
  have c : (W.drewN nq).cell? ⟨sb, 4, none⟩ = some (.int .i64 (s.p.ns.getD 4 0)) := L.blk_cell H2.out.blk 4
  have z : (W.drewN nq).frozen? ⟨sb, 4, none⟩ = false := L.blk_free H2.out.blk 4
  have H3 := Lib.hid (H2.out.stored 4 (.int .i64 v) (t := ⟨{ s.p with ns := s.p.ns.set 4 v }, s.once.set 4 true⟩) (sd_num s.p (s.once.set 4 true) uv fv 4 v H2.out.ns (by omega)) rfl rfl (by simp [H2.out.ns]) H2.out.on)
  have B3 := Lib.hid (B2.out.setCell (p := ⟨sb, 4, none⟩) rfl (.int .i64 v))
  obtain ⟨W2, hW2⟩ : ∃ W2, W2 = W.drewN nq := ⟨_, rfl⟩
  rw [← hW2] at c z H3 B3 ⊢
  clear hW2 H2 B2 H1 B1
  go_wp2_with fail
  go_ret
  exact ⟨rfl, H3.out, B3.out⟩


set_option maxRecDepth 100000 in
set_option maxHeartbeats 2000000 in
theorem pl5_new (h : Sd w base sb s uv fv) (x : ByteArray) (ho : s.once.getD 5 false = false) (v : Int) (b : Bool) (HN : Hid (NumC x 0 20 v b)) :
    Calls Tryd.prog 68 #[.pointer (some ⟨sb, 0, none⟩), .int .i64 5, .string x] w fun e w' => e = .returned (.bool b) ∧ Sd w' base sb ⟨{ s.p with ns := s.p.ns.set 5 v }, s.once.set 5 true⟩ uv fv ∧ Bx base sb w w' := by
  have c : w.cell? ⟨sb, 14, none⟩ = some (.bool false) := by rw [← ho]; exact L.blk_cell h.blk 14
  have z := L.blk_free h.blk 14
  have h1 : Sd (w.setCell ⟨sb, 14, none⟩ (.bool true)) base sb ⟨s.p, s.once.set 5 true⟩ uv fv := h.stored 14 (.bool true) (t := ⟨s.p, s.once.set 5 true⟩) (sd_once s.p s.once uv fv 5 h.on (by omega)) rfl rfl h.ns (by simp [h.on])
  have b1 : Bx base sb w (w.setCell ⟨sb, 14, none⟩ (.bool true)) := (Below.refl base w).bx.setCell (p := ⟨sb, 14, none⟩) rfl _
  go_enter Tryd.func68, Tryd.ntmps68
  go_wp2_with fail
  have s1 : (w.setCell ⟨sb, 14, none⟩ (.bool true)).heap.size = w.heap.size := by simp [World.setCell]
  generalize w.setCell ⟨sb, 14, none⟩ (.bool true) = w1 at h1 b1 s1 ⊢
  clear c z
  obtain ⟨W, hW⟩ : ∃ W : World, W = (w1.alloc (.cells #[.int .i64 1, .int .i64 0, .int .i64 1, .int .i64 0, .int .i64 1, .int .i64 0] 123)).alloc (.cells #[.int .i64 16, .int .i64 64, .int .i64 400, .int .i64 64, .int .i64 200, .int .i64 20] 123) := ⟨_, rfl⟩
  rw [← hW]
  have hbW : Below w1.heap.size w1 W := by rw [hW]; exact two_new _ _ _
  have q0 := (Below.heap_alloc (w1.alloc (.cells #[.int .i64 1, .int .i64 0, .int .i64 1, .int .i64 0, .int .i64 1, .int .i64 0] 123)) (.cells #[.int .i64 16, .int .i64 64, .int .i64 400, .int .i64 64, .int .i64 200, .int .i64 20] 123) w1.heap.size (by simp)).trans (heap_alloc_new w1 _)
  have q1 : W.heap[w1.heap.size + 1]? = some (.cells #[.int .i64 16, .int .i64 64, .int .i64 400, .int .i64 64, .int .i64 200, .int .i64 20] 123 (0, 0)) := by
    rw [hW]
    have := heap_alloc_new (w1.alloc (.cells #[.int .i64 1, .int .i64 0, .int .i64 1, .int .i64 0, .int .i64 1, .int .i64 0] 123)) (.cells #[.int .i64 16, .int .i64 64, .int .i64 400, .int .i64 64, .int .i64 200, .int .i64 20] 123)
    simpa using this
  rw [← hW] at q0
  have g0 : W.cell? ⟨w1.heap.size, 5, none⟩ = some (.int .i64 0) := L.blk_cell q0 5
  have g1 : W.cell? ⟨w1.heap.size + 1, 5, none⟩ = some (.int .i64 20) := L.blk_cell q1 5
  have H1 := Lib.hid (h1.below hbW)
  have B1 := Lib.hid (b1.below (hbW.mono h1.size))
  rw [s1] at g0 g1
  clear hW hbW q0 q1 h1 b1 h ho s1
  go_quiet ((go_at_call 96; exact Calls.quiet_of_same ((HN.out.call _).mono (fun e w' h => ⟨h.1, h.2.symm⟩))))
  clear g0 g1
  have H2 := Lib.hid (H1.out.below (below_drewN (Below.refl W.heap.size W) nq))
  have B2 := Lib.hid (B1.out.drewN nq)
  have c : (W.drewN nq).cell? ⟨sb, 5, none⟩ = some (.int .i64 (s.p.ns.getD 5 0)) := L.blk_cell H2.out.blk 5
  have z : (W.drewN nq).frozen? ⟨sb, 5, none⟩ = false := L.blk_free H2.out.blk 5
  have H3 := Lib.hid (H2.out.stored 5 (.int .i64 v) (t := ⟨{ s.p with ns := s.p.ns.set 5 v }, s.once.set 5 true⟩) (sd_num s.p (s.once.set 5 true) uv fv 5 v H2.out.ns (by omega)) rfl rfl (by simp [H2.out.ns]) H2.out.on)
  have B3 := Lib.hid (B2.out.setCell (p := ⟨sb, 5, none⟩) rfl (.int .i64 v))
  obtain ⟨W2, hW2⟩ : ∃ W2, W2 = W.drewN nq := ⟨_, rfl⟩
  rw [← hW2] at c z H3 B3 ⊢
  clear hW2 H2 B2 H1 B1
  go_wp2_with fail
  go_ret
  exact ⟨rfl, H3.out, B3.out⟩


set_option maxRecDepth 100000 in
set_option maxHeartbeats 2000000 in
theorem pl6_new (h : Sd w base sb s uv fv) (r : List UInt8) (hr : r.length ≤ 4194304) (ho : s.once.getD 6 false = false) :
    Calls Tryd.prog 68 #[.pointer (some ⟨sb, 0, none⟩), .int .i64 6, .string ⟨r.toArray⟩] w fun e w' => e = .returned (.bool (plainB r)) ∧ Sd w' base sb ⟨{ s.p with hid := r }, s.once.set 6 true⟩ uv fv ∧ Bx base sb w w' := by
  have hP := fun w => refPlain_any ⟨r.toArray⟩ w (by rw [list_size]; unfold maxLen; omega)
  simp only [list_data] at hP
  have HP := Lib.hid hP
  clear hP
  have c : w.cell? ⟨sb, 15, none⟩ = some (.bool false) := by rw [← ho]; exact L.blk_cell h.blk 15
  have z := L.blk_free h.blk 15
  have h1 : Sd (w.setCell ⟨sb, 15, none⟩ (.bool true)) base sb ⟨s.p, s.once.set 6 true⟩ uv fv := h.stored 15 (.bool true) (t := ⟨s.p, s.once.set 6 true⟩) (sd_once s.p s.once uv fv 6 h.on (by omega)) rfl rfl h.ns (by simp [h.on])
  have b1 : Bx base sb w (w.setCell ⟨sb, 15, none⟩ (.bool true)) := (Below.refl base w).bx.setCell (p := ⟨sb, 15, none⟩) rfl _
  have hbW : Below (w.setCell ⟨sb, 15, none⟩ (.bool true)).heap.size (w.setCell ⟨sb, 15, none⟩ (.bool true)) (((w.setCell ⟨sb, 15, none⟩ (.bool true)).alloc (.cells #[.int .i64 1, .int .i64 0, .int .i64 1, .int .i64 0, .int .i64 1, .int .i64 0] 123)).alloc (.cells #[.int .i64 16, .int .i64 64, .int .i64 400, .int .i64 64, .int .i64 200, .int .i64 20] 123)) := two_new _ _ _
  have h2 := h1.below hbW
  have b2 := b1.below (hbW.mono h1.size)
  have c6 : (((w.setCell ⟨sb, 15, none⟩ (.bool true)).alloc (.cells #[.int .i64 1, .int .i64 0, .int .i64 1, .int .i64 0, .int .i64 1, .int .i64 0] 123)).alloc (.cells #[.int .i64 16, .int .i64 64, .int .i64 400, .int .i64 64, .int .i64 200, .int .i64 20] 123)).cell? ⟨sb, 6, none⟩ = some (.string ⟨s.p.hid.toArray⟩) := L.blk_cell h2.blk 6
  have z6 := L.blk_free h2.blk 6
  have H3 := Lib.hid (h2.stored 6 (.string ⟨r.toArray⟩) (t := ⟨{ s.p with hid := r }, s.once.set 6 true⟩) rfl rfl rfl h2.ns h2.on)
  have B3 := Lib.hid (b2.setCell (p := ⟨sb, 6, none⟩) rfl (.string ⟨r.toArray⟩))
  generalize (⟨r.toArray⟩ : ByteArray) = xr at *
  generalize plainB r = pb at *
  clear h ho h1 h2 b1 b2 hbW
  go_enter Tryd.func68, Tryd.ntmps68
  go_wp2_with fail
  with_reducible refine (HP.out _).mono ?_
  rintro e w' ⟨rfl, rfl⟩
  go_wp2_with fail
  go_ret
  exact ⟨rfl, H3.out, B3.out⟩

end Go.Proofs.YtadhhamfikpimaaDoor.O

namespace Go.Proofs.YtadhhamfikpimaaDoor.O
set_option linter.unusedVariables false
set_option linter.unusedSimpArgs false
open Go.RowKit
open T
variable {w w' : World} {base sb : Nat} {s : St} {uv fv : Value}

/-- What one of the seven lines comes to, by what stands behind its word and the blank. -/
def plLine (s : St) (k : Nat) (r : List UInt8) : Option St :=
  if k = 6 then (if s.once.getD 6 false = false ∧ plainB r = true then some ⟨{ s.p with hid := r }, s.once.set 6 true⟩ else none) else numLine s k r
def PlEnd (w : World) (base sb : Nat) (uv fv : Value) (o : Option St) (e : Ending) (w' : World) : Prop :=
  match o with
  | some t => e = .returned (.bool true) ∧ Sd w' base sb t uv fv ∧ Bx base sb w w'
  | none => e = .returned (.bool false) ∧ Bx base sb w w'
theorem num_end {k : Nat} (hk : k < 6) (h : Sd w base sb s uv fv) (r : List UInt8)
    (hknown : s.once.getD k false = true → Calls Tryd.prog 68 #[.pointer (some ⟨sb, 0, none⟩), .int .i64 (k : Int), .string ⟨r.toArray⟩] w fun e w' => e = .returned (.bool false) ∧ w = w')
    (hnew : s.once.getD k false = false → ∀ (v : Int) (b : Bool), Hid (NumC ⟨r.toArray⟩ (lows.getD k 0) (highs.getD k 0) v b) → Calls Tryd.prog 68 #[.pointer (some ⟨sb, 0, none⟩), .int .i64 (k : Int), .string ⟨r.toArray⟩] w fun e w' => e = .returned (.bool b) ∧ Sd w' base sb ⟨{ s.p with ns := s.p.ns.set k v }, s.once.set k true⟩ uv fv ∧ Bx base sb w w') :
    Calls Tryd.prog 68 #[.pointer (some ⟨sb, 0, none⟩), .int .i64 (k : Int), .string ⟨r.toArray⟩] w (PlEnd w base sb uv fv (plLine s k r)) := by
  have e0 : plLine s k r = numLine s k r := by rw [plLine, if_neg (by omega)]
  rw [e0]
  unfold numLine
  by_cases ho : s.once.getD k false = true
  · rw [if_pos ho]
    exact (hknown ho).mono fun e w' ⟨he, hw⟩ => ⟨he, by rw [← hw]; exact (Below.refl _ _).bx⟩
  · rw [if_neg ho]
    have hC : NumC ⟨r.toArray⟩ (lows.getD k 0) (highs.getD k 0) (numIn (P.number r) (lows.getD k 0) (highs.getD k 0)).1 (numIn (P.number r) (lows.getD k 0) (highs.getD k 0)).2 := fun w => by
      have := refNum_any ⟨r.toArray⟩ (lows.getD k 0) (highs.getD k 0) w
      rw [list_data] at this
      exact this
    refine (hnew (Bool.eq_false_iff.2 ho) _ _ (Lib.hid hC)).mono fun e w' ⟨he, hs, hb⟩ => ?_
    cases hn : P.number r with
    | none =>
      rw [hn] at he
      exact ⟨he, hb⟩
    | some x =>
      rw [hn] at he hs
      rw [Option.bind_some]
      have hi : inB (lows.getD k 0) (highs.getD k 0) (x : Int) = true ↔ lows.getD k 0 ≤ (x : Int) ∧ (x : Int) ≤ highs.getD k 0 := by unfold inB; simp only [Bool.and_eq_true, decide_eq_true_eq]
      have he' : e = .returned (.bool (inB (lows.getD k 0) (highs.getD k 0) (x : Int))) := he
      by_cases hbd : lows.getD k 0 ≤ (x : Int) ∧ (x : Int) ≤ highs.getD k 0
      · rw [if_pos hbd]
        rw [hi.2 hbd] at he'
        exact ⟨he', hs, hb⟩
      · rw [if_neg hbd]
        rw [Bool.eq_false_iff.2 (fun e => hbd (hi.1 e))] at he'
        exact ⟨he', hb⟩
theorem pl_any (k : Nat) (hk : k < 7) (h : Sd w base sb s uv fv) (r : List UInt8) (hr : r.length ≤ 4194304) :
    Calls Tryd.prog 68 #[.pointer (some ⟨sb, 0, none⟩), .int .i64 (k : Int), .string ⟨r.toArray⟩] w (PlEnd w base sb uv fv (plLine s k r)) := by
  match k, hk with
  | 0, _ => exact num_end (by omega) h r (pl0_known h _) (pl0_new h _)
  | 1, _ => exact num_end (by omega) h r (pl1_known h _) (pl1_new h _)
  | 2, _ => exact num_end (by omega) h r (pl2_known h _) (pl2_new h _)
  | 3, _ => exact num_end (by omega) h r (pl3_known h _) (pl3_new h _)
  | 4, _ => exact num_end (by omega) h r (pl4_known h _) (pl4_new h _)
  | 5, _ => exact num_end (by omega) h r (pl5_known h _) (pl5_new h _)
  | 6, _ =>
    rw [plLine, if_pos rfl]
    by_cases ho : s.once.getD 6 false = true
    · rw [if_neg (fun h' => by rw [h'.1] at ho; cases ho)]
      exact (pl6_known h _ ho).mono fun e w' ⟨he, hw⟩ => ⟨he, by rw [← hw]; exact (Below.refl _ _).bx⟩
    · refine (pl6_new h r hr (Bool.eq_false_iff.2 ho)).mono fun e w' ⟨he, hs, hb⟩ => ?_
      by_cases hp : plainB r = true
      · rw [if_pos ⟨Bool.eq_false_iff.2 ho, hp⟩]
        rw [hp] at he
        exact ⟨he, hs, hb⟩
      · rw [if_neg (fun h' => hp h'.2)]
        rw [Bool.eq_false_iff.2 hp] at he
        exact ⟨he, hb⟩
end Go.Proofs.YtadhhamfikpimaaDoor.O
