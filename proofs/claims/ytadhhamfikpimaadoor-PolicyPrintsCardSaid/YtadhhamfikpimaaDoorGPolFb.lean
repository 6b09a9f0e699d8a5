/-
  The law PolicyFloors, walked: it returns true for every policy, two names and two labels, where the library's table of powers of ten holds what its text lays.
-/
import Derived.Test.YtadhhamfikpimaaDoorGPolFa
import Derived.Test.YtadhhamfikpimaaDoorGj
import Derived.Test.YtadhhamfikpimaaDoorGk
import Derived.Test.YtadhhamfikpimaaDoorGi
import Derived.Deep.RegionHeld3
namespace Go.Proofs.YtadhhamfikpimaaDoor.O
set_option linter.unusedVariables false
set_option linter.unusedSimpArgs false
open Go.RowKit
open T

/-- What a call of this law keeps besides its boxes: users and floors where they lie; what was there is as it was. -/
def FlCore (w : World) (uA fA : Option Addr) (us : List Usr) (fs : List Flr) (w' : World) : Prop :=
  w.heap.size + 3 ≤ w'.heap.size ∧ UsersIn w' uA us ∧ FloorsIn w' fA fs ∧ Below w.heap.size w w'
abbrev HeldP (w : World) (n0 n1 n2 n3 n4 n5 : Int) (hid : ByteArray) (uA fA : Option Addr) (ucap fcap : Nat) (us : List Usr) (fs : List Flr) (l m : Int) (c d : Nat) (w' : World) : Prop :=
  w'.cell? ⟨w.heap.size, 0, none⟩ = some (.int .i64 n0) ∧ w'.cell? ⟨w.heap.size, 1, none⟩ = some (.int .i64 n1) ∧ w'.cell? ⟨w.heap.size, 2, none⟩ = some (.int .i64 n2) ∧ w'.cell? ⟨w.heap.size, 3, none⟩ = some (.int .i64 n3) ∧ w'.cell? ⟨w.heap.size, 4, none⟩ = some (.int .i64 n4) ∧ w'.cell? ⟨w.heap.size, 5, none⟩ = some (.int .i64 n5) ∧ w'.cell? ⟨w.heap.size, 6, none⟩ = some (.string hid) ∧ w'.cell? ⟨w.heap.size, 7, none⟩ = some (.slice uA us.length ucap) ∧ w'.cell? ⟨w.heap.size, 8, none⟩ = some (.slice fA fs.length fcap) ∧ w'.cell? ⟨w.heap.size + 1, 0, none⟩ = some (.int .i64 l) ∧ w'.cell? ⟨w.heap.size + 1, 1, none⟩ = some (.int .u64 (c : Int)) ∧ w'.cell? ⟨w.heap.size + 1 + 1, 0, none⟩ = some (.int .i64 m) ∧ w'.cell? ⟨w.heap.size + 1 + 1, 1, none⟩ = some (.int .u64 (d : Int)) ∧ FlCore w uA fA us fs w'
section
variable {w W W' : World} {n0 n1 n2 n3 n4 n5 : Int} {hid : ByteArray} {uA fA : Option Addr} {ucap fcap : Nat} {us : List Usr} {fs : List Flr} {l m : Int} {c d : Nat}
theorem heldP_below (h : HeldP w n0 n1 n2 n3 n4 n5 hid uA fA ucap fcap us fs l m c d W) (hb : Below W.heap.size W W') : HeldP w n0 n1 n2 n3 n4 n5 hid uA fA ucap fcap us fs l m c d W' := by
  obtain ⟨h0, h1, h2, h3, h4, h5, h6, h7, h8, h9, h10, h11, h12, hz, hu, hf, hB⟩ := h
  have hs := hb.size
  exact ⟨(L.bcell hb _ _ (by omega)).trans h0, (L.bcell hb _ _ (by omega)).trans h1, (L.bcell hb _ _ (by omega)).trans h2, (L.bcell hb _ _ (by omega)).trans h3, (L.bcell hb _ _ (by omega)).trans h4, (L.bcell hb _ _ (by omega)).trans h5, (L.bcell hb _ _ (by omega)).trans h6, (L.bcell hb _ _ (by omega)).trans h7, (L.bcell hb _ _ (by omega)).trans h8, (L.bcell hb _ _ (by omega)).trans h9, (L.bcell hb _ _ (by omega)).trans h10, (L.bcell hb _ _ (by omega)).trans h11, (L.bcell hb _ _ (by omega)).trans h12,
    by omega, hu.below hb, hf.below hb, hB.trans (hb.mono hB.size)⟩
theorem heldP_core (h : HeldP w n0 n1 n2 n3 n4 n5 hid uA fA ucap fcap us fs l m c d W) : FlCore w uA fA us fs W := h.2.2.2.2.2.2.2.2.2.2.2.2.2
theorem heldP_end (h : HeldP w n0 n1 n2 n3 n4 n5 hid uA fA ucap fcap us fs l m c d W) : Below w.heap.size w W := (heldP_core h).2.2.2
theorem heldP_tab (ht : Tab w) (h : HeldP w n0 n1 n2 n3 n4 n5 hid uA fA ucap fcap us fs l m c d W) : Tab W := ht.later (heldP_end h)
theorem heldP_start (w : World) (n0 n1 n2 n3 n4 n5 : Int) (hid : ByteArray) (uA fA : Option Addr) (ucap fcap : Nat) (us : List Usr) (fs : List Flr) (l m : Int) (c d : Nat) (hu : UsersIn w uA us) (hf : FloorsIn w fA fs) :
    HeldP w n0 n1 n2 n3 n4 n5 hid uA fA ucap fcap us fs l m c d (((w.alloc (.cells #[.int .i64 n0, .int .i64 n1, .int .i64 n2, .int .i64 n3, .int .i64 n4, .int .i64 n5, .string hid, .slice uA us.length ucap, .slice fA fs.length fcap] 26)).alloc (.cells #[.int .i64 l, .int .u64 (c : Int)] 40)).alloc (.cells #[.int .i64 m, .int .u64 (d : Int)] 40)) := by
  obtain ⟨w1, hw1⟩ : ∃ w1 : World, w1 = w.alloc (.cells #[.int .i64 n0, .int .i64 n1, .int .i64 n2, .int .i64 n3, .int .i64 n4, .int .i64 n5, .string hid, .slice uA us.length ucap, .slice fA fs.length fcap] 26) := ⟨_, rfl⟩
  have b0 : w1.heap[w.heap.size]? = some (.cells #[.int .i64 n0, .int .i64 n1, .int .i64 n2, .int .i64 n3, .int .i64 n4, .int .i64 n5, .string hid, .slice uA us.length ucap, .slice fA fs.length fcap] 26 (0, 0)) := by rw [hw1]; exact heap_alloc_new w _
  have s1 : w1.heap.size = w.heap.size + 1 := by rw [hw1]; simp
  have hb1 : Below w.heap.size w w1 := by rw [hw1]; exact (Below.refl _ _).alloc (Nat.le_refl _) _
  rw [← hw1]
  clear hw1
  obtain ⟨w2, hw2⟩ : ∃ w2 : World, w2 = w1.alloc (.cells #[.int .i64 l, .int .u64 (c : Int)] 40) := ⟨_, rfl⟩
  have b1 : w2.heap[w.heap.size + 1]? = some (.cells #[.int .i64 l, .int .u64 (c : Int)] 40 (0, 0)) := by rw [hw2, ← s1]; exact heap_alloc_new w1 _
  have s2 : w2.heap.size = w.heap.size + 1 + 1 := by rw [hw2, ← s1]; simp
  have hb2 : Below w1.heap.size w1 w2 := by rw [hw2]; exact (Below.refl _ _).alloc (Nat.le_refl _) _
  rw [← hw2]
  clear hw2
  obtain ⟨w3, hw3⟩ : ∃ w3 : World, w3 = w2.alloc (.cells #[.int .i64 m, .int .u64 (d : Int)] 40) := ⟨_, rfl⟩
  have b2 : w3.heap[w.heap.size + 1 + 1]? = some (.cells #[.int .i64 m, .int .u64 (d : Int)] 40 (0, 0)) := by rw [hw3, ← s2]; exact heap_alloc_new w2 _
  have s3 : w3.heap.size = w.heap.size + 1 + 1 + 1 := by rw [hw3, ← s2]; simp
  have hb3 : Below w2.heap.size w2 w3 := by rw [hw3]; exact (Below.refl _ _).alloc (Nat.le_refl _) _
  rw [← hw3]
  clear hw3
  have hb02 : Below w.heap.size w w2 := hb1.trans (hb2.mono (by omega))
  have hb03 : Below w.heap.size w w3 := hb02.trans (hb3.mono (by omega))
  have b03 := (hb3.block w.heap.size (by omega)).trans ((hb2.block w.heap.size (by omega)).trans b0)
  have b13 := (hb3.block (w.heap.size + 1) (by omega)).trans b1
  exact ⟨L.blk_cell b03 0, L.blk_cell b03 1, L.blk_cell b03 2, L.blk_cell b03 3, L.blk_cell b03 4, L.blk_cell b03 5, L.blk_cell b03 6, L.blk_cell b03 7, L.blk_cell b03 8, L.blk_cell b13 0, L.blk_cell b13 1, L.blk_cell b2 0, L.blk_cell b2 1,
    by omega, hu.below hb03, hf.below hb03, hb03⟩
theorem heldP_drew (h : HeldP w n0 n1 n2 n3 n4 n5 hid uA fA ucap fcap us fs l m c d W) : HeldP w n0 n1 n2 n3 n4 n5 hid uA fA ucap fcap us fs l m c d W.drew := heldP_below h (drew_below W)
end
/-- The contracts of what the law calls, at its policy. -/
def FlC (n0 n1 n2 n3 n4 n5 : Int) (hid : ByteArray) (uA fA : Option Addr) (ucap fcap : Nat) (us : List Usr) (fs : List Flr) (x : ByteArray) (l : Int) (k : Nat) : Prop :=
  ∀ W : World, FloorsIn W fA fs → Calls Tryd.prog 21 #[polA n0 n1 n2 n3 n4 n5 hid (.slice uA us.length ucap) (.slice fA fs.length fcap), .string x] W fun e w' => e = .returned (L.lab l k) ∧ Below W.heap.size W w'
theorem FlC.call {w : World} {n0 n1 n2 n3 n4 n5 : Int} {hid : ByteArray} {uA fA : Option Addr} {ucap fcap : Nat} {us : List Usr} {fs : List Flr} {x : ByteArray} {l : Int} {k : Nat} (h : FlC n0 n1 n2 n3 n4 n5 hid uA fA ucap fcap us fs x l k) {W : World} (hc : FlCore w uA fA us fs W) :
    Calls Tryd.prog 21 #[polA n0 n1 n2 n3 n4 n5 hid (.slice uA us.length ucap) (.slice fA fs.length fcap), .string x] W fun e w' => e = .returned (L.lab l k) ∧ Below W.heap.size W w' := h W hc.2.2.1
def FtC (n0 n1 n2 n3 n4 n5 : Int) (hid : ByteArray) (uv fv : Value) (l : Int) (k : Nat) (b : Bool) : Prop :=
  ∀ W : World, Calls Tryd.prog 22 #[polA n0 n1 n2 n3 n4 n5 hid uv fv, L.lab l k] W fun e w' => e = .returned (.bool b) ∧ Below W.heap.size W w'
theorem FtC.call {n0 n1 n2 n3 n4 n5 : Int} {hid : ByteArray} {uv fv : Value} {l : Int} {k : Nat} {b : Bool} (h : FtC n0 n1 n2 n3 n4 n5 hid uv fv l k b) (W : World) :
    Calls Tryd.prog 22 #[polA n0 n1 n2 n3 n4 n5 hid uv fv, L.lab l k] W fun e w' => e = .returned (.bool b) ∧ Below W.heap.size W w' := h W
def CkC (n0 n1 n2 n3 n4 n5 : Int) (hid : ByteArray) (uA fA : Option Addr) (ucap fcap : Nat) (us : List Usr) (fs : List Flr) (v : Int) : Prop :=
  ∀ W : World, UsersIn W uA us → FloorsIn W fA fs → Calls Tryd.prog 18 #[polA n0 n1 n2 n3 n4 n5 hid (.slice uA us.length ucap) (.slice fA fs.length fcap)] W fun e w' => e = .returned (.int .i64 v) ∧ Below W.heap.size W w'
theorem CkC.call {w : World} {n0 n1 n2 n3 n4 n5 : Int} {hid : ByteArray} {uA fA : Option Addr} {ucap fcap : Nat} {us : List Usr} {fs : List Flr} {v : Int} (h : CkC n0 n1 n2 n3 n4 n5 hid uA fA ucap fcap us fs v) {W : World} (hc : FlCore w uA fA us fs W) :
    Calls Tryd.prog 18 #[polA n0 n1 n2 n3 n4 n5 hid (.slice uA us.length ucap) (.slice fA fs.length fcap)] W fun e w' => e = .returned (.int .i64 v) ∧ Below W.heap.size W w' := h W hc.2.1 hc.2.2.1
def BlC (l m : Int) (c d : Nat) (b : Bool) : Prop := ∀ w : World, Calls Tryd.prog 20 #[L.lab l c, L.lab m d] w fun e w' => e = .returned (.bool b) ∧ Below w.heap.size w w'
theorem BlC.call {l m : Int} {c d : Nat} {b : Bool} (h : BlC l m c d b) (w : World) : Calls Tryd.prog 20 #[L.lab l c, L.lab m d] w fun e w' => e = .returned (.bool b) ∧ Below w.heap.size w w' := h w
def JnC (l m : Int) (c d : Nat) (k : Int) (x : Nat) : Prop := ∀ w : World, Calls Tryd.prog 23 #[L.lab l c, L.lab m d] w fun e w' => e = .returned (L.lab k x) ∧ Below w.heap.size w w'
theorem JnC.call {l m : Int} {c d : Nat} {k : Int} {x : Nat} (h : JnC l m c d k x) (w : World) : Calls Tryd.prog 23 #[L.lab l c, L.lab m d] w fun e w' => e = .returned (L.lab k x) ∧ Below w.heap.size w w' := h w
def MtC (l m : Int) (c d : Nat) (k : Int) (x : Nat) : Prop := ∀ w : World, Calls Tryd.prog 24 #[L.lab l c, L.lab m d] w fun e w' => e = .returned (L.lab k x) ∧ Below w.heap.size w w'
theorem MtC.call {l m : Int} {c d : Nat} {k : Int} {x : Nat} (h : MtC l m c d k x) (w : World) : Calls Tryd.prog 24 #[L.lab l c, L.lab m d] w fun e w' => e = .returned (L.lab k x) ∧ Below w.heap.size w w' := h w
end Go.Proofs.YtadhhamfikpimaaDoor.O
