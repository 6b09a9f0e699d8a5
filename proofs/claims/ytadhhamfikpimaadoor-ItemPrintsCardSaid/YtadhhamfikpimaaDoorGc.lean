/-
  The contract of label's Parse: for every text of at most 2^22 bytes.
  Plain functions for policies: which may be, and what a line of a policy's text says. Nothing of the program stands in it; no condition.
  The contract of label's Parse, from the call of Of on: for every text of at most 2^22 bytes.
  The contract of label's Parse, whole, for every text of at most 2^22 bytes; and of layer 2's live: it returns true.
  The contracts of policy's need, Fits, numbers, number.right, rightHidden.
  What a row of a call's own is, by its address and its cells.
  A map from texts to numbers as a function; a policy's reader in memory; the contracts of its say and needSaid.
-/
import Derived.Test.YtadhhamfikpimaaDoorGb
import Derived.Test.YtadhhamfikpimaaDoorGa
import Derived.StillTailTactics
import Derived.Deep.QuietTactic
import Derived.BigQuiet
import Derived.Laws.Bits64
import Derived.StringKeys
import Derived.Maps.OwnOps
import Derived.Maps.Views
import Derived.Deep.RegionHeld
namespace Go.Proofs.YtadhhamfikpimaaDoor.L
open Go.RowKit
open T

/-- A text's label. -/
def parseRest (l : List UInt8) (n : Nat) (o : Option (List Nat)) : Option (Nat × Nat) :=
  o.bind fun xs => (ofAll n (xs.map fun x : Nat => (x : Int))).bind fun c => if print n c = l then some (n, c) else none
def parse (l : List UInt8) : Option (Nat × Nat) :=
  match split 58 l with
  | none => (P.number l).bind fun n => parseRest l n (some [])
  | some p => (P.number p.1).bind fun n => parseRest l n (nums p.2)
def parseVal (o : Option (Nat × Nat)) : Value := match o with
  | some p => .tuple #[lab (p.1 : Int) p.2, .bool true]
  | none => .tuple #[lab 0 0, .bool false]

def Of (l : Int) (A : Option Addr) (n cap : Nat) (v : Value) (w : World) : Prop := Calls Tryd.prog 132 #[.int .i64 l, .slice A n cap] w fun e w' => e = .returned v ∧ Below w.heap.size w w'
theorem Of.call {l : Int} {A : Option Addr} {n cap : Nat} {v : Value} {w : World} (h : Of l A n cap v w) : Calls Tryd.prog 132 #[.int .i64 l, .slice A n cap] w fun e w' => e = .returned v ∧ Below w.heap.size w w' := h
def Pr (l : Int) (c : Nat) (s : ByteArray) : Prop := ∀ w : World, Tab w → Calls Tryd.prog 74 #[lab l c] w fun e w' => e = .returned (.string s) ∧ Below w.heap.size w w'
theorem Pr.call {l : Int} {c : Nat} {s : ByteArray} (h : Pr l c s) (w : World) (ht : Tab w) : Calls Tryd.prog 74 #[lab l c] w fun e w' => e = .returned (.string s) ∧ Below w.heap.size w w' := h w ht

set_option maxHeartbeats 1000000 in
set_option maxRecDepth 100000 in
theorem parse_head (s h r : ByteArray) (m : Bool) (w : World) (HC : Hid (Ct s 58 (.tuple #[.string h, .string r, .bool m]))) (HN : Hid (Nm h 0 false)) :
    Calls Tryd.prog 122 #[.string s] w fun e w' => e = .returned (.tuple #[lab 0 0, .bool false]) ∧ Below w.heap.size w w' := by
  go_enter Tryd.func122, Tryd.ntmps122
  go_wp2_with fail
  with_reducible refine (HC.out.call _).mono ?_
  rintro e w1 ⟨rfl, hb1⟩
  have HK0 := Lib.hid ((hb1.block w.heap.size (by simp)).trans (heap_alloc_new w _))
  have hbel : Below w.heap.size w w1 := ((Below.refl _ _).alloc (Nat.le_refl _) _).trans (hb1.mono (by simp))
  have d0 := (res_cells HK0.out).1
  have d1 := (res_cells HK0.out).2
  have e0 := blk_free HK0.out 0
  have e1 := blk_free HK0.out 1
  clear hb1
  go_wp2_with fail
  with_reducible refine (HN.out.call _).mono ?_
  rintro e w2 ⟨rfl, rfl⟩
  go_wp2_with fail
  have hfin := blk_set (blk_set HK0.out 0 (.int .i64 0)) 1 (.int .u64 0)
  have hbf := (hbel.setCell (p := ⟨w.heap.size, 0, none⟩) (Nat.le_refl _) (.int .i64 0)).setCell (p := ⟨w.heap.size, 1, none⟩) (Nat.le_refl _) (.int .u64 0)
  clear d0 d1 e0 e1
  generalize (w1.setCell ⟨w.heap.size, 0, none⟩ (.int .i64 0)).setCell ⟨w.heap.size, 1, none⟩ (.int .u64 0) = wf at *
  have q0 : wf.cell? ⟨w.heap.size, 0, none⟩ = some (.int .i64 0) := blk_cell hfin 0
  have q1 : wf.cell? ⟨w.heap.size, 1, none⟩ = some (.int .u64 0) := blk_cell hfin 1
  exact bodyPost_ret (v := .tuple #[.agg #[.int .i64 0, .int .u64 0], .bool false]) (by simp [results, Tryd.results122, go_sem, q0, q1]) rfl ⟨rfl, hbf⟩

set_option maxHeartbeats 1000000 in
set_option maxRecDepth 100000 in
theorem parse_nums (s h r : ByteArray) (n : Int) (w : World) (hr : r.size ≤ 4194304) (HC : Hid (Ct s 58 (.tuple #[.string h, .string r, .bool true]))) (HN : Hid (Nm h n true)) (HM : Hid (nums r.data.toList = none)) :
    Calls Tryd.prog 122 #[.string s] w fun e w' => e = .returned (.tuple #[lab 0 0, .bool false]) ∧ Below w.heap.size w w' := by
  go_enter Tryd.func122, Tryd.ntmps122
  go_wp2_with fail
  with_reducible refine (HC.out.call _).mono ?_
  rintro e w1 ⟨rfl, hb1⟩
  have HK1 := Lib.hid ((hb1.block w.heap.size (by simp)).trans (heap_alloc_new w _))
  have hbe1 : Below w.heap.size w w1 := ((Below.refl _ _).alloc (Nat.le_refl _) _).trans (hb1.mono (by simp))
  clear hb1
  go_wp2_with fail
  with_reducible refine (HN.out.call _).mono ?_
  rintro e w2 ⟨rfl, rfl⟩
  go_wp2_with fail
  with_reducible refine (numbers_any r _ hr).mono ?_
  rintro e w2 (⟨xs, v, hx, _⟩ | ⟨_, rfl, hb2⟩)
  · rw [HM.out] at hx; cases hx
  have hbel : Below w.heap.size w w2 := hbe1.trans (hb2.mono hbe1.size)
  have HK0 := Lib.hid ((hb2.block w.heap.size (blk_lt HK1.out)).trans HK1.out)
  have d0 := (res_cells HK0.out).1
  have d1 := (res_cells HK0.out).2
  have e0 := blk_free HK0.out 0
  have e1 := blk_free HK0.out 1
  clear hb2 HK1 hbe1
  go_wp2_with fail
  have hfin := blk_set (blk_set HK0.out 0 (.int .i64 0)) 1 (.int .u64 0)
  have hbf := (hbel.setCell (p := ⟨w.heap.size, 0, none⟩) (Nat.le_refl _) (.int .i64 0)).setCell (p := ⟨w.heap.size, 1, none⟩) (Nat.le_refl _) (.int .u64 0)
  clear d0 d1 e0 e1
  generalize (w2.setCell ⟨w.heap.size, 0, none⟩ (.int .i64 0)).setCell ⟨w.heap.size, 1, none⟩ (.int .u64 0) = wf at *
  have q0 : wf.cell? ⟨w.heap.size, 0, none⟩ = some (.int .i64 0) := blk_cell hfin 0
  have q1 : wf.cell? ⟨w.heap.size, 1, none⟩ = some (.int .u64 0) := blk_cell hfin 1
  exact bodyPost_ret (v := .tuple #[.agg #[.int .i64 0, .int .u64 0], .bool false]) (by simp [results, Tryd.results122, go_sem, q0, q1]) rfl ⟨rfl, hbf⟩
end Go.Proofs.YtadhhamfikpimaaDoor.L

namespace Go.Proofs.YtadhhamfikpimaaDoor.O
set_option linter.unusedVariables false
set_option linter.unusedSimpArgs false

/-- A user, a floor, a policy: its six numbers in their order, what is hidden, users, floors. -/
structure Usr where
  name : List UInt8
  lv : Int
  ct : Nat
  ad : Bool
deriving DecidableEq
structure Flr where
  pre : List UInt8
  lv : Int
  ct : Nat
deriving DecidableEq
structure Pol where
  ns : List Int
  hid : List UInt8
  us : List Usr
  fs : List Flr
deriving DecidableEq
/-- A policy while its lines are read: which of the seven were said. -/
structure St where
  p : Pol
  once : List Bool
deriving DecidableEq
def Pol.none : Pol := ⟨[0, 0, 0, 0, 0, 0], [], [], []⟩
def St.start : St := ⟨Pol.none, [false, false, false, false, false, false, false]⟩

def keys : List (List UInt8) := [[108, 101, 118, 101, 108, 115], [99, 97, 116, 115], [108, 105, 110, 101, 115], [99, 111, 109, 109, 105, 116, 115], [108, 111, 103], [99, 111, 110, 116, 101, 120, 116], [104, 105, 100, 100, 101, 110]]
def kHidden : List UInt8 := [104, 105, 100, 100, 101, 110]
def kUser : List UInt8 := [117, 115, 101, 114]
def kFloor : List UInt8 := [102, 108, 111, 111, 114]
def kAdmin : List UInt8 := [97, 100, 109, 105, 110]
def lows : List Int := [1, 0, 1, 0, 1, 0]
def highs : List Int := [16, 64, 400, 64, 200, 20]

def plainB (l : List UInt8) : Bool := decide (1 ≤ l.length) && decide (l.length ≤ 200) && l.all fun c => decide (32 ≤ c.toNat) && decide (c.toNat ≤ 126)
def fitsB (L C : Int) (l : Int) (k : Nat) : Bool := decide (0 ≤ l) && decide (l < L) && decide (0 ≤ C) && decide (k < 2 ^ C.toNat)
def Pol.fits (p : Pol) (l : Int) (k : Nat) : Bool := fitsB (p.ns.getD 0 0) (p.ns.getD 1 0) l k

/-- A line of one of the six numbers. -/
def numLine (s : St) (k : Nat) (v : List UInt8) : Option St :=
  if s.once.getD k false then none else
  (P.number v).bind fun n => if lows.getD k 0 ≤ (n : Int) ∧ (n : Int) ≤ highs.getD k 0 then some ⟨{ s.p with ns := s.p.ns.set k n }, s.once.set k true⟩ else none
/-- Which of the six a word names. -/
def keyOf (w : List UInt8) : Option Nat := (keys.take 6).idxOf? w
def takeNumber (s : St) (ws : List (List UInt8)) : Option St := match ws with
  | [w, v] => (keyOf w).bind fun k => numLine s k v
  | _ => none
def takeHidden (s : St) (l : List UInt8) : Option St :=
  if (kHidden ++ [32]) <+: l ∧ plainB (l.drop 7) = true ∧ s.once.getD 6 false = false then some ⟨{ s.p with hid := l.drop 7 }, s.once.set 6 true⟩ else none
def labelFor (s : St) (w : List UInt8) : Option (Nat × Nat) :=
  if s.once.getD 0 false = true ∧ s.once.getD 1 false = true then (L.parse w).bind fun a => if s.p.fits a.1 a.2 then some a else none else none
def addUser (s : St) (nm lb : List UInt8) (ad : Bool) : Option St :=
  if s.p.us.length < 32 ∧ P.name nm = true ∧ nm ∉ s.p.us.map (·.name) then (labelFor s lb).map fun a => ⟨{ s.p with us := s.p.us ++ [⟨nm, a.1, a.2, ad⟩] }, s.once⟩ else none
def takeUser (s : St) (ws : List (List UInt8)) : Option St := match ws with
  | [_, nm, lb] => addUser s nm lb false
  | [_, nm, lb, ad] => if ad = kAdmin then addUser s nm lb true else none
  | _ => none
def takeFloor (s : St) (ws : List (List UInt8)) : Option St := match ws with
  | [_, nm, lb] => if s.p.fs.length < 32 ∧ P.name nm = true ∧ nm ∉ s.p.fs.map (·.pre) then (labelFor s lb).map fun a => ⟨{ s.p with fs := s.p.fs ++ [⟨nm, a.1, a.2⟩] }, s.once⟩ else none
  | _ => none
/-- What a line says. -/
def take (s : St) (l : List UInt8) : Option St :=
  if l = [] ∨ l.head? = some 35 then some s else
  if (P.words [] l).head? = some kHidden then takeHidden s l else
  if (P.words [] l).head? = some kUser then takeUser s (P.words [] l) else
  if (P.words [] l).head? = some kFloor then takeFloor s (P.words [] l) else takeNumber s (P.words [] l)
/-- The lines of a text, from the i-th on: what they come to, or the number of the first that can't be. -/
def takeAll : St → Nat → List (List UInt8 × Bool) → St ⊕ Nat
  | s, _, [] => .inl s
  | s, i, x :: r => match take s x.1 with
    | some t => takeAll t (i + 1) r
    | none => .inr (i + 1)
/-- A text's policy, or the number of its first bad line (0: something was not said). -/
def readAll (ls : List (List UInt8 × Bool)) : Pol ⊕ Nat := match takeAll St.start 0 ls with
  | .inl s => if s.once.all id then .inl s.p else .inr 0
  | .inr n => .inr n
end Go.Proofs.YtadhhamfikpimaaDoor.O

namespace Go.Proofs.YtadhhamfikpimaaDoor.L
open Go.RowKit
open T

theorem of_own {B : Nat} (l : Int) (A : Option Addr) (cap : Nat) (xs : List Nat) (w : World) (hlen : xs.length ≤ maxLen) (hA : 0 < xs.length → ∃ g, A = some ⟨g, 0, none⟩ ∧ B ≤ g ∧ g < w.heap.size ∧ ∀ j u, (intCells xs)[j]? = some u → w.cell? ⟨g, j, none⟩ = some u) :
    Of l A xs.length cap (ofVal l (ofAll l (xs.map fun x : Nat => (x : Int)))) w := by
  have h := of_any l A cap (xs.map fun x : Nat => (x : Int)) w (by simpa using hlen) (fun hp => by
    obtain ⟨g, rfl, _, hg, hc⟩ := hA (by simpa using hp)
    refine ⟨g, 0, rfl, hg, fun j hj => ?_⟩
    rw [Nat.zero_add]
    refine hc j _ ?_
    have hj' : j < xs.length := by simpa using hj
    simp [intCells, List.getElem?_eq_getElem hj'])
  rw [List.length_map] at h
  exact h

set_option maxHeartbeats 1000000 in
set_option maxRecDepth 100000 in
theorem parse_some_err (s h r : ByteArray) (n : Int) (xs : List Nat) (w : World) (hr : r.size ≤ 4194304) (HX : Hid (xs.length ≤ maxLen)) (HC : Hid (Ct s 58 (.tuple #[.string h, .string r, .bool true]))) (HN : Hid (Nm h n true)) (HM : Hid (nums r.data.toList = some xs)) (HV : Hid (ofAll n (xs.map fun x : Nat => (x : Int)) = none)) :
    Calls Tryd.prog 122 #[.string s] w fun e w' => e = .returned (.tuple #[lab 0 0, .bool false]) ∧ Below w.heap.size w w' := by
  go_enter Tryd.func122, Tryd.ntmps122
  go_wp2_with fail
  with_reducible refine (HC.out.call _).mono ?_
  rintro e w1 ⟨rfl, hb1⟩
  have HK1 := Lib.hid ((hb1.block w.heap.size (by simp)).trans (heap_alloc_new w _))
  have hbe1 : Below w.heap.size w w1 := ((Below.refl _ _).alloc (Nat.le_refl _) _).trans (hb1.mono (by simp))
  clear hb1
  go_wp2_with fail
  with_reducible refine (HN.out.call _).mono ?_
  rintro e w2 ⟨rfl, rfl⟩
  go_wp2_with fail
  with_reducible refine (numbers_any r _ hr).mono ?_
  rintro e w2 (⟨ys, v, hx, rfl, hown, hb2⟩ | ⟨hx, _⟩)
  rotate_left
  · rw [HM.out] at hx; cases hx
  rw [HM.out] at hx
  obtain rfl : xs = ys := by injection hx
  have hbe2 : Below w.heap.size w w2 := hbe1.trans (hb2.mono hbe1.size)
  have HK2 := Lib.hid ((hb2.block w.heap.size (blk_lt HK1.out)).trans HK1.out)
  obtain ⟨A, cap, hv, hcap, hA⟩ := own_form hown
  subst hv
  have HO := Lib.hid (of_own n A cap xs w2 HX.out hA)
  rw [HV.out] at HO
  clear hb2 HK1 hbe1 hA hown hx
  go_wp2_with fail
  with_reducible refine (HO.out.call).mono ?_
  rintro e w3 ⟨rfl, hb3⟩
  simp only [ofVal]
  have hbel : Below w.heap.size w w3 := hbe2.trans (hb3.mono hbe2.size)
  have HK0 := Lib.hid ((hb3.block w.heap.size (blk_lt HK2.out)).trans HK2.out)
  have hlt3 := blk_lt HK0.out
  have d0 := (res_cells HK0.out).1
  have d1 := (res_cells HK0.out).2
  have e0 := blk_free HK0.out 0
  have e1 := blk_free HK0.out 1
  clear hb3
  go_wp2_with fail
  have hfin := blk_set (blk_set HK0.out 0 (.int .i64 0)) 1 (.int .u64 0)
  have hbf := (hbel.setCell (p := ⟨w.heap.size, 0, none⟩) (Nat.le_refl _) (.int .i64 0)).setCell (p := ⟨w.heap.size, 1, none⟩) (Nat.le_refl _) (.int .u64 0)
  clear d0 d1 e0 e1
  generalize (w3.setCell ⟨w.heap.size, 0, none⟩ (.int .i64 0)).setCell ⟨w.heap.size, 1, none⟩ (.int .u64 0) = wg at *
  have hz : w.heap.size < wg.heap.size := blk_lt hfin
  have hfo := (Below.heap_alloc wg (.cells #[.int .i64 0, .int .u64 0] 40) _ hz).trans hfin
  have hbo := hbf.alloc (Nat.le_of_lt hz) (.cells #[.int .i64 0, .int .u64 0] 40)
  clear hfin hbf
  generalize wg.alloc (.cells #[.int .i64 0, .int .u64 0] 40) = wf at *
  have q0 : wf.cell? ⟨w.heap.size, 0, none⟩ = some (.int .i64 0) := blk_cell hfo 0
  have q1 : wf.cell? ⟨w.heap.size, 1, none⟩ = some (.int .u64 0) := blk_cell hfo 1
  exact bodyPost_ret (v := .tuple #[.agg #[.int .i64 0, .int .u64 0], .bool false]) (by simp [results, Tryd.results122, go_sem, q0, q1]) rfl ⟨rfl, hbo⟩

set_option maxHeartbeats 1000000 in
set_option maxRecDepth 100000 in
theorem parse_some_not (s h r : ByteArray) (n : Int) (xs : List Nat) (w : World) (hr : r.size ≤ 4194304) (HX : Hid (xs.length ≤ maxLen)) (HC : Hid (Ct s 58 (.tuple #[.string h, .string r, .bool true]))) (HN : Hid (Nm h n true)) (HM : Hid (nums r.data.toList = some xs)) (c : Nat) (d : ByteArray) (HV : Hid (ofAll n (xs.map fun x : Nat => (x : Int)) = some c)) (HP : Hid (Pr n c d)) (HT : Hid (Tab w)) (hne : (d.toList == s.toList) = false) :
    Calls Tryd.prog 122 #[.string s] w fun e w' => e = .returned (.tuple #[lab 0 0, .bool false]) ∧ Below w.heap.size w w' := by
  go_enter Tryd.func122, Tryd.ntmps122
  go_wp2_with fail
  with_reducible refine (HC.out.call _).mono ?_
  rintro e w1 ⟨rfl, hb1⟩
  have HK1 := Lib.hid ((hb1.block w.heap.size (by simp)).trans (heap_alloc_new w _))
  have hbe1 : Below w.heap.size w w1 := ((Below.refl _ _).alloc (Nat.le_refl _) _).trans (hb1.mono (by simp))
  clear hb1
  go_wp2_with fail
  with_reducible refine (HN.out.call _).mono ?_
  rintro e w2 ⟨rfl, rfl⟩
  go_wp2_with fail
  with_reducible refine (numbers_any r _ hr).mono ?_
  rintro e w2 (⟨ys, v, hx, rfl, hown, hb2⟩ | ⟨hx, _⟩)
  rotate_left
  · rw [HM.out] at hx; cases hx
  rw [HM.out] at hx
  obtain rfl : xs = ys := by injection hx
  have hbe2 : Below w.heap.size w w2 := hbe1.trans (hb2.mono hbe1.size)
  have HK2 := Lib.hid ((hb2.block w.heap.size (blk_lt HK1.out)).trans HK1.out)
  obtain ⟨A, cap, hv, hcap, hA⟩ := own_form hown
  subst hv
  have HO := Lib.hid (of_own n A cap xs w2 HX.out hA)
  rw [HV.out] at HO
  clear hb2 HK1 hbe1 hA hown hx
  go_wp2_with fail
  with_reducible refine (HO.out.call).mono ?_
  rintro e w3 ⟨rfl, hb3⟩
  simp only [ofVal]
  have hbel : Below w.heap.size w w3 := hbe2.trans (hb3.mono hbe2.size)
  have HK0 := Lib.hid ((hb3.block w.heap.size (blk_lt HK2.out)).trans HK2.out)
  have hlt3 := blk_lt HK0.out
  have HTb := Lib.hid (HT.out.later hbel)
  clear hb3
  go_wp2_with fail
  with_reducible refine (HP.out.call _ (HTb.out.alloc _)).mono ?_
  rintro e w4 ⟨rfl, hb4⟩
  have hbel4 : Below w.heap.size w w4 := (hbel.alloc hbel.size _).trans (hb4.mono (by have := hbel.size; simp; omega))
  have HK4 := Lib.hid ((hb4.block w.heap.size (by simp; omega)).trans ((Below.heap_alloc w3 _ _ hlt3).trans HK0.out))
  have HA4 := Lib.hid ((hb4.block w3.heap.size (by simp)).trans (heap_alloc_new w3 _))
  clear HK0 hbel hb4
  have HK0 := HK4
  have hbel := hbel4
  have a0 := (res_cells HA4.out).1
  have a1 := (res_cells HA4.out).2
  have d0 := (res_cells HK0.out).1
  have d1 := (res_cells HK0.out).2
  have e0 := blk_free HK0.out 0
  have e1 := blk_free HK0.out 1
  go_wp2_with fail
  clear a0 a1
  have hfin := blk_set (blk_set HK0.out 0 (.int .i64 0)) 1 (.int .u64 0)
  have hbf := (hbel.setCell (p := ⟨w.heap.size, 0, none⟩) (Nat.le_refl _) (.int .i64 0)).setCell (p := ⟨w.heap.size, 1, none⟩) (Nat.le_refl _) (.int .u64 0)
  clear d0 d1 e0 e1
  generalize (w4.setCell ⟨w.heap.size, 0, none⟩ (.int .i64 0)).setCell ⟨w.heap.size, 1, none⟩ (.int .u64 0) = wf at *
  have q0 : wf.cell? ⟨w.heap.size, 0, none⟩ = some (.int .i64 0) := blk_cell hfin 0
  have q1 : wf.cell? ⟨w.heap.size, 1, none⟩ = some (.int .u64 0) := blk_cell hfin 1
  exact bodyPost_ret (v := .tuple #[.agg #[.int .i64 0, .int .u64 0], .bool false]) (by simp [results, Tryd.results122, go_sem, q0, q1]) rfl ⟨rfl, hbf⟩

set_option maxHeartbeats 1000000 in
set_option maxRecDepth 100000 in
theorem parse_some_yes (s h r : ByteArray) (n : Int) (xs : List Nat) (w : World) (hr : r.size ≤ 4194304) (HX : Hid (xs.length ≤ maxLen)) (HC : Hid (Ct s 58 (.tuple #[.string h, .string r, .bool true]))) (HN : Hid (Nm h n true)) (HM : Hid (nums r.data.toList = some xs)) (c : Nat) (HV : Hid (ofAll n (xs.map fun x : Nat => (x : Int)) = some c)) (HP : Hid (Pr n c s)) (HT : Hid (Tab w)) :
    Calls Tryd.prog 122 #[.string s] w fun e w' => e = .returned (.tuple #[lab n c, .bool true]) ∧ Below w.heap.size w w' := by
  go_enter Tryd.func122, Tryd.ntmps122
  go_wp2_with fail
  with_reducible refine (HC.out.call _).mono ?_
  rintro e w1 ⟨rfl, hb1⟩
  have HK1 := Lib.hid ((hb1.block w.heap.size (by simp)).trans (heap_alloc_new w _))
  have hbe1 : Below w.heap.size w w1 := ((Below.refl _ _).alloc (Nat.le_refl _) _).trans (hb1.mono (by simp))
  clear hb1
  go_wp2_with fail
  with_reducible refine (HN.out.call _).mono ?_
  rintro e w2 ⟨rfl, rfl⟩
  go_wp2_with fail
  with_reducible refine (numbers_any r _ hr).mono ?_
  rintro e w2 (⟨ys, v, hx, rfl, hown, hb2⟩ | ⟨hx, _⟩)
  rotate_left
  · rw [HM.out] at hx; cases hx
  rw [HM.out] at hx
  obtain rfl : xs = ys := by injection hx
  have hbe2 : Below w.heap.size w w2 := hbe1.trans (hb2.mono hbe1.size)
  have HK2 := Lib.hid ((hb2.block w.heap.size (blk_lt HK1.out)).trans HK1.out)
  obtain ⟨A, cap, hv, hcap, hA⟩ := own_form hown
  subst hv
  have HO := Lib.hid (of_own n A cap xs w2 HX.out hA)
  rw [HV.out] at HO
  clear hb2 HK1 hbe1 hA hown hx
  go_wp2_with fail
  with_reducible refine (HO.out.call).mono ?_
  rintro e w3 ⟨rfl, hb3⟩
  simp only [ofVal]
  have hbel : Below w.heap.size w w3 := hbe2.trans (hb3.mono hbe2.size)
  have HK0 := Lib.hid ((hb3.block w.heap.size (blk_lt HK2.out)).trans HK2.out)
  have hlt3 := blk_lt HK0.out
  have HTb := Lib.hid (HT.out.later hbel)
  clear hb3
  go_wp2_with fail
  with_reducible refine (HP.out.call _ (HTb.out.alloc _)).mono ?_
  rintro e w4 ⟨rfl, hb4⟩
  have hbel4 : Below w.heap.size w w4 := (hbel.alloc hbel.size _).trans (hb4.mono (by have := hbel.size; simp; omega))
  have HK4 := Lib.hid ((hb4.block w.heap.size (by simp; omega)).trans ((Below.heap_alloc w3 _ _ hlt3).trans HK0.out))
  have HA4 := Lib.hid ((hb4.block w3.heap.size (by simp)).trans (heap_alloc_new w3 _))
  clear HK0 hbel hb4
  have HK0 := HK4
  have hbel := hbel4
  have a0 := (res_cells HA4.out).1
  have a1 := (res_cells HA4.out).2
  have d0 := (res_cells HK0.out).1
  have d1 := (res_cells HK0.out).2
  have e0 := blk_free HK0.out 0
  have e1 := blk_free HK0.out 1
  go_wp2_with fail
  clear a0 a1
  have hfin := blk_set (blk_set HK0.out 0 (.int .i64 n)) 1 (.int .u64 (c : Int))
  have hbf := (hbel.setCell (p := ⟨w.heap.size, 0, none⟩) (Nat.le_refl _) (.int .i64 n)).setCell (p := ⟨w.heap.size, 1, none⟩) (Nat.le_refl _) (.int .u64 (c : Int))
  clear d0 d1 e0 e1
  generalize (w4.setCell ⟨w.heap.size, 0, none⟩ (.int .i64 n)).setCell ⟨w.heap.size, 1, none⟩ (.int .u64 (c : Int)) = wf at *
  have q0 : wf.cell? ⟨w.heap.size, 0, none⟩ = some (.int .i64 n) := blk_cell hfin 0
  have q1 : wf.cell? ⟨w.heap.size, 1, none⟩ = some (.int .u64 (c : Int)) := blk_cell hfin 1
  exact bodyPost_ret (v := .tuple #[.agg #[.int .i64 n, .int .u64 (c : Int)], .bool true]) (by simp [results, Tryd.results122, go_sem, q0, q1]) rfl ⟨rfl, hbf⟩

set_option maxHeartbeats 1000000 in
set_option maxRecDepth 100000 in
theorem parse_none_err (s h r : ByteArray) (n : Int) (w : World) (HC : Hid (Ct s 58 (.tuple #[.string h, .string r, .bool false]))) (HN : Hid (Nm h n true)) (HV : Hid (ofAll n [] = none)) :
    Calls Tryd.prog 122 #[.string s] w fun e w' => e = .returned (.tuple #[lab 0 0, .bool false]) ∧ Below w.heap.size w w' := by
  go_enter Tryd.func122, Tryd.ntmps122
  go_wp2_with fail
  with_reducible refine (HC.out.call _).mono ?_
  rintro e w1 ⟨rfl, hb1⟩
  have HK1 := Lib.hid ((hb1.block w.heap.size (by simp)).trans (heap_alloc_new w _))
  have hbe1 : Below w.heap.size w w1 := ((Below.refl _ _).alloc (Nat.le_refl _) _).trans (hb1.mono (by simp))
  clear hb1
  go_wp2_with fail
  with_reducible refine (HN.out.call _).mono ?_
  rintro e w2 ⟨rfl, rfl⟩
  go_wp2_with fail
  have HK2 := HK1
  have hbe2 := hbe1
  have HO : Hid (Of n none 0 0 (ofVal n (ofAll n [])) w1) := Lib.hid (of_any n none 0 [] w1 (by simp [maxLen]) (fun h => absurd h (by simp)))
  rw [HV.out] at HO
  clear HK1 hbe1
  with_reducible refine (HO.out.call).mono ?_
  rintro e w3 ⟨rfl, hb3⟩
  simp only [ofVal]
  have hbel : Below w.heap.size w w3 := hbe2.trans (hb3.mono hbe2.size)
  have HK0 := Lib.hid ((hb3.block w.heap.size (blk_lt HK2.out)).trans HK2.out)
  have hlt3 := blk_lt HK0.out
  have d0 := (res_cells HK0.out).1
  have d1 := (res_cells HK0.out).2
  have e0 := blk_free HK0.out 0
  have e1 := blk_free HK0.out 1
  clear hb3
  go_wp2_with fail
  have hfin := blk_set (blk_set HK0.out 0 (.int .i64 0)) 1 (.int .u64 0)
  have hbf := (hbel.setCell (p := ⟨w.heap.size, 0, none⟩) (Nat.le_refl _) (.int .i64 0)).setCell (p := ⟨w.heap.size, 1, none⟩) (Nat.le_refl _) (.int .u64 0)
  clear d0 d1 e0 e1
  generalize (w3.setCell ⟨w.heap.size, 0, none⟩ (.int .i64 0)).setCell ⟨w.heap.size, 1, none⟩ (.int .u64 0) = wg at *
  have hz : w.heap.size < wg.heap.size := blk_lt hfin
  have hfo := (Below.heap_alloc wg (.cells #[.int .i64 0, .int .u64 0] 40) _ hz).trans hfin
  have hbo := hbf.alloc (Nat.le_of_lt hz) (.cells #[.int .i64 0, .int .u64 0] 40)
  clear hfin hbf
  generalize wg.alloc (.cells #[.int .i64 0, .int .u64 0] 40) = wf at *
  have q0 : wf.cell? ⟨w.heap.size, 0, none⟩ = some (.int .i64 0) := blk_cell hfo 0
  have q1 : wf.cell? ⟨w.heap.size, 1, none⟩ = some (.int .u64 0) := blk_cell hfo 1
  exact bodyPost_ret (v := .tuple #[.agg #[.int .i64 0, .int .u64 0], .bool false]) (by simp [results, Tryd.results122, go_sem, q0, q1]) rfl ⟨rfl, hbo⟩

set_option maxHeartbeats 1000000 in
set_option maxRecDepth 100000 in
theorem parse_none_not (s h r : ByteArray) (n : Int) (w : World) (HC : Hid (Ct s 58 (.tuple #[.string h, .string r, .bool false]))) (HN : Hid (Nm h n true)) (c : Nat) (d : ByteArray) (HV : Hid (ofAll n [] = some c)) (HP : Hid (Pr n c d)) (HT : Hid (Tab w)) (hne : (d.toList == s.toList) = false) :
    Calls Tryd.prog 122 #[.string s] w fun e w' => e = .returned (.tuple #[lab 0 0, .bool false]) ∧ Below w.heap.size w w' := by
  go_enter Tryd.func122, Tryd.ntmps122
  go_wp2_with fail
  with_reducible refine (HC.out.call _).mono ?_
  rintro e w1 ⟨rfl, hb1⟩
  have HK1 := Lib.hid ((hb1.block w.heap.size (by simp)).trans (heap_alloc_new w _))
  have hbe1 : Below w.heap.size w w1 := ((Below.refl _ _).alloc (Nat.le_refl _) _).trans (hb1.mono (by simp))
  clear hb1
  go_wp2_with fail
  with_reducible refine (HN.out.call _).mono ?_
  rintro e w2 ⟨rfl, rfl⟩
  go_wp2_with fail
  have HK2 := HK1
  have hbe2 := hbe1
  have HO : Hid (Of n none 0 0 (ofVal n (ofAll n [])) w1) := Lib.hid (of_any n none 0 [] w1 (by simp [maxLen]) (fun h => absurd h (by simp)))
  rw [HV.out] at HO
  clear HK1 hbe1
  with_reducible refine (HO.out.call).mono ?_
  rintro e w3 ⟨rfl, hb3⟩
  simp only [ofVal]
  have hbel : Below w.heap.size w w3 := hbe2.trans (hb3.mono hbe2.size)
  have HK0 := Lib.hid ((hb3.block w.heap.size (blk_lt HK2.out)).trans HK2.out)
  have hlt3 := blk_lt HK0.out
  have HTb := Lib.hid (HT.out.later hbel)
  clear hb3
  go_wp2_with fail
  with_reducible refine (HP.out.call _ (HTb.out.alloc _)).mono ?_
  rintro e w4 ⟨rfl, hb4⟩
  have hbel4 : Below w.heap.size w w4 := (hbel.alloc hbel.size _).trans (hb4.mono (by have := hbel.size; simp; omega))
  have HK4 := Lib.hid ((hb4.block w.heap.size (by simp; omega)).trans ((Below.heap_alloc w3 _ _ hlt3).trans HK0.out))
  have HA4 := Lib.hid ((hb4.block w3.heap.size (by simp)).trans (heap_alloc_new w3 _))
  clear HK0 hbel hb4
  have HK0 := HK4
  have hbel := hbel4
  have a0 := (res_cells HA4.out).1
  have a1 := (res_cells HA4.out).2
  have d0 := (res_cells HK0.out).1
  have d1 := (res_cells HK0.out).2
  have e0 := blk_free HK0.out 0
  have e1 := blk_free HK0.out 1
  go_wp2_with fail
  clear a0 a1
  have hfin := blk_set (blk_set HK0.out 0 (.int .i64 0)) 1 (.int .u64 0)
  have hbf := (hbel.setCell (p := ⟨w.heap.size, 0, none⟩) (Nat.le_refl _) (.int .i64 0)).setCell (p := ⟨w.heap.size, 1, none⟩) (Nat.le_refl _) (.int .u64 0)
  clear d0 d1 e0 e1
  generalize (w4.setCell ⟨w.heap.size, 0, none⟩ (.int .i64 0)).setCell ⟨w.heap.size, 1, none⟩ (.int .u64 0) = wf at *
  have q0 : wf.cell? ⟨w.heap.size, 0, none⟩ = some (.int .i64 0) := blk_cell hfin 0
  have q1 : wf.cell? ⟨w.heap.size, 1, none⟩ = some (.int .u64 0) := blk_cell hfin 1
  exact bodyPost_ret (v := .tuple #[.agg #[.int .i64 0, .int .u64 0], .bool false]) (by simp [results, Tryd.results122, go_sem, q0, q1]) rfl ⟨rfl, hbf⟩

set_option maxHeartbeats 1000000 in
set_option maxRecDepth 100000 in
theorem parse_none_yes (s h r : ByteArray) (n : Int) (w : World) (HC : Hid (Ct s 58 (.tuple #[.string h, .string r, .bool false]))) (HN : Hid (Nm h n true)) (c : Nat) (HV : Hid (ofAll n [] = some c)) (HP : Hid (Pr n c s)) (HT : Hid (Tab w)) :
    Calls Tryd.prog 122 #[.string s] w fun e w' => e = .returned (.tuple #[lab n c, .bool true]) ∧ Below w.heap.size w w' := by
  go_enter Tryd.func122, Tryd.ntmps122
  go_wp2_with fail
  with_reducible refine (HC.out.call _).mono ?_
  rintro e w1 ⟨rfl, hb1⟩
  have HK1 := Lib.hid ((hb1.block w.heap.size (by simp)).trans (heap_alloc_new w _))
  have hbe1 : Below w.heap.size w w1 := ((Below.refl _ _).alloc (Nat.le_refl _) _).trans (hb1.mono (by simp))
  clear hb1
  go_wp2_with fail
  with_reducible refine (HN.out.call _).mono ?_
  rintro e w2 ⟨rfl, rfl⟩
  go_wp2_with fail
  have HK2 := HK1
  have hbe2 := hbe1
  have HO : Hid (Of n none 0 0 (ofVal n (ofAll n [])) w1) := Lib.hid (of_any n none 0 [] w1 (by simp [maxLen]) (fun h => absurd h (by simp)))
  rw [HV.out] at HO
  clear HK1 hbe1
  with_reducible refine (HO.out.call).mono ?_
  rintro e w3 ⟨rfl, hb3⟩
  simp only [ofVal]
  have hbel : Below w.heap.size w w3 := hbe2.trans (hb3.mono hbe2.size)
  have HK0 := Lib.hid ((hb3.block w.heap.size (blk_lt HK2.out)).trans HK2.out)
  have hlt3 := blk_lt HK0.out
  have HTb := Lib.hid (HT.out.later hbel)
  clear hb3
  go_wp2_with fail
  with_reducible refine (HP.out.call _ (HTb.out.alloc _)).mono ?_
  rintro e w4 ⟨rfl, hb4⟩
  have hbel4 : Below w.heap.size w w4 := (hbel.alloc hbel.size _).trans (hb4.mono (by have := hbel.size; simp; omega))
  have HK4 := Lib.hid ((hb4.block w.heap.size (by simp; omega)).trans ((Below.heap_alloc w3 _ _ hlt3).trans HK0.out))
  have HA4 := Lib.hid ((hb4.block w3.heap.size (by simp)).trans (heap_alloc_new w3 _))
  clear HK0 hbel hb4
  have HK0 := HK4
  have hbel := hbel4
  have a0 := (res_cells HA4.out).1
  have a1 := (res_cells HA4.out).2
  have d0 := (res_cells HK0.out).1
  have d1 := (res_cells HK0.out).2
  have e0 := blk_free HK0.out 0
  have e1 := blk_free HK0.out 1
  go_wp2_with fail
  clear a0 a1
  have hfin := blk_set (blk_set HK0.out 0 (.int .i64 n)) 1 (.int .u64 (c : Int))
  have hbf := (hbel.setCell (p := ⟨w.heap.size, 0, none⟩) (Nat.le_refl _) (.int .i64 n)).setCell (p := ⟨w.heap.size, 1, none⟩) (Nat.le_refl _) (.int .u64 (c : Int))
  clear d0 d1 e0 e1
  generalize (w4.setCell ⟨w.heap.size, 0, none⟩ (.int .i64 n)).setCell ⟨w.heap.size, 1, none⟩ (.int .u64 (c : Int)) = wf at *
  have q0 : wf.cell? ⟨w.heap.size, 0, none⟩ = some (.int .i64 n) := blk_cell hfin 0
  have q1 : wf.cell? ⟨w.heap.size, 1, none⟩ = some (.int .u64 (c : Int)) := blk_cell hfin 1
  exact bodyPost_ret (v := .tuple #[.agg #[.int .i64 n, .int .u64 (c : Int)], .bool true]) (by simp [results, Tryd.results122, go_sem, q0, q1]) rfl ⟨rfl, hbf⟩

end Go.Proofs.YtadhhamfikpimaaDoor.L

namespace Go.Proofs.YtadhhamfikpimaaDoor.L
open Go.RowKit
open T

theorem ofGo_small : ∀ (xs : List Int) (c d : Nat), c < 18446744073709551616 → ofGo xs c = some d → d < 18446744073709551616
  | [], c, d, hc, h => by simp [ofGo] at h; omega
  | x :: r, c, d, hc, h => by
    rw [ofGo] at h
    split at h
    · cases h
    · next hx => exact ofGo_small r _ d (or_small hc (Nat.pow_lt_pow_right (a := 2) (n := 64) (by omega) (by omega))) h
theorem ofAll_small {l : Int} {xs : List Int} {c : Nat} (h : ofAll l xs = some c) : c < 18446744073709551616 := by
  unfold ofAll at h
  split at h
  · exact ofGo_small xs 0 c (by omega) h
  · cases h
theorem parts_len (c : UInt8) : ∀ l cur : List UInt8, (partsGo c cur l).length ≤ l.length + 1
  | [], cur => by simp [partsGo]
  | x :: r, cur => by
    rw [partsGo]
    split
    · have := parts_len c r []; simp; omega
    · have := parts_len c r (cur ++ [x]); simp; omega
theorem numsOf_len : ∀ (ps : List (List UInt8)) (xs : List Nat), numsOf ps = some xs → xs.length = ps.length
  | [], xs, h => by simp [numsOf] at h; simp [← h]
  | p :: r, xs, h => by
    rw [numsOf, Option.bind_eq_some_iff] at h
    obtain ⟨n, _, h⟩ := h
    rw [Option.map_eq_some_iff] at h
    obtain ⟨ys, hy, rfl⟩ := h
    simp [numsOf_len r ys hy]
theorem nums_len {l : List UInt8} {xs : List Nat} (h : nums l = some xs) : xs.length ≤ l.length + 1 := by
  rw [numsOf_len _ _ h]; exact parts_len 44 l []

theorem pr_is (n : Nat) (c : Nat) (hn : n ≤ 2147483647) (hc : c < 18446744073709551616) : Pr n c ⟨(print n c).toArray⟩ := fun w ht => print_any n c w (by omega) (by omega) hc ht
theorem eta (s : ByteArray) : (⟨s.data.toList.toArray⟩ : ByteArray) = s := by cases s; simp
theorem str_ne {l : List UInt8} {s : ByteArray} (h : ¬ l = s.data.toList) : ((⟨l.toArray⟩ : ByteArray).toList == s.toList) = false := by
  rw [Lib.toList_data, Lib.toList_data]; exact beq_eq_false_iff_ne.2 h

theorem parse_any (s : ByteArray) (w : World) (hs : s.size ≤ 4194304) (ht : Tab w) :
    Calls Tryd.prog 122 #[.string s] w fun e w' => e = .returned (parseVal (parse s.data.toList)) ∧ Below w.heap.size w w' := by
  have hmx : s.size ≤ maxLen := by simp only [maxLen]; omega
  unfold parse
  cases hsp : split 58 s.data.toList with
  | none =>
    have HC := Lib.hid (ct_none hmx hsp)
    cases hnum : P.number s.data.toList with
    | none => exact parse_head s s _ false w HC (Lib.hid (nm_none hmx hnum))
    | some n =>
      have hn := (P.dec_number _ _ hnum).2
      have HN := Lib.hid (nm_some hmx hnum)
      show Calls _ _ _ _ fun e w' => e = .returned (parseVal (parseRest s.data.toList n (some []))) ∧ _
      unfold parseRest
      cases hof : ofAll n [] with
      | none =>
        have := parse_none_err s s _ n w HC HN (Lib.hid hof)
        simpa [hof, parseVal] using this
      | some c =>
        have hP := pr_is n c hn (ofAll_small hof)
        by_cases hp : print n c = s.data.toList
        · rw [hp, eta] at hP
          have := parse_none_yes s s _ n w HC HN c (Lib.hid hof) (Lib.hid hP) (Lib.hid ht)
          simpa [hof, hp, parseVal] using this
        · have := parse_none_not s s _ n w HC HN c _ (Lib.hid hof) (Lib.hid hP) (Lib.hid ht) (str_ne hp)
          simpa [hof, hp, parseVal] using this
  | some q =>
    obtain ⟨a, b⟩ := q
    have HC := Lib.hid (ct_some hmx hsp)
    have hsl := split_len hsp
    rw [← Lib.size_eq] at hsl
    have hma : (⟨a.toArray⟩ : ByteArray).size ≤ maxLen := by rw [size_list]; simp only [maxLen]; omega
    have hmb : (⟨b.toArray⟩ : ByteArray).size ≤ 4194304 := by rw [size_list]; omega
    cases hnum : P.number a with
    | none =>
      have := parse_head s ⟨a.toArray⟩ _ true w HC (Lib.hid (nm_none hma hnum))
      simpa [hnum, parseVal] using this
    | some n =>
      have hn := (P.dec_number _ _ hnum).2
      have HN := Lib.hid (nm_some (s := ⟨a.toArray⟩) hma hnum)
      cases hns : nums b with
      | none =>
        have := parse_nums s ⟨a.toArray⟩ ⟨b.toArray⟩ n w hmb HC HN (Lib.hid hns)
        simpa [hnum, hns, parseRest, parseVal] using this
      | some xs =>
        have hxl := nums_len hns
        have HX : Hid (xs.length ≤ maxLen) := Lib.hid (by simp only [maxLen]; omega)
        cases hof : ofAll n (xs.map fun x : Nat => (x : Int)) with
        | none =>
          have := parse_some_err s ⟨a.toArray⟩ ⟨b.toArray⟩ n xs w hmb HX HC HN (Lib.hid hns) (Lib.hid hof)
          simpa [hnum, hns, hof, parseRest, parseVal] using this
        | some c =>
          have hP := pr_is n c hn (ofAll_small hof)
          by_cases hp : print n c = s.data.toList
          · rw [hp, eta] at hP
            have := parse_some_yes s ⟨a.toArray⟩ ⟨b.toArray⟩ n xs w hmb HX HC HN (Lib.hid hns) c (Lib.hid hof) (Lib.hid hP) (Lib.hid ht)
            simpa [hnum, hns, hof, parseRest, hp, parseVal] using this
          · have := parse_some_not s ⟨a.toArray⟩ ⟨b.toArray⟩ n xs w hmb HX HC HN (Lib.hid hns) c _ (Lib.hid hof) (Lib.hid hP) (Lib.hid ht) (str_ne hp)
            simpa [hnum, hns, hof, parseRest, hp, parseVal] using this

theorem dec_digit (n : Nat) (h : n < 10) : P.decimal (n : Int) = [UInt8.ofNat (48 + n)] := by
  rw [P.decimal_in _ (by omega) (by omega), Int.toNat_natCast, Lib.decDigits_one h]
theorem print_live : print 3 129 = [51, 58, 48, 44, 55] := by
  have hc : catsTo 129 64 = [0, 7] := by decide
  unfold print
  rw [hc, if_neg (by simp)]
  unfold catsText Lib.join
  rw [show ((3 : Int)) = ((3 : Nat) : Int) from rfl, dec_digit 3 (by omega)]
  simp only [List.map_cons, List.map_nil]
  rw [dec_digit 0 (by omega), dec_digit 7 (by omega)]
  decide
theorem of_live : ofAll 3 [0, 7] = some 129 := by decide
theorem of_live2 : ofAll 3 [7, 0] = some 129 := by decide
theorem parse_live : parse [51, 58, 48, 44, 55] = some (3, 129) := by
  have h1 : split 58 [51, 58, 48, 44, 55] = some ([51], [48, 44, 55]) := by decide
  have h2 : P.number [51] = some 3 := by decide
  have h3 : nums [48, 44, 55] = some [0, 7] := by decide
  have h4 : ofAll ((3 : Nat) : Int) ([0, 7].map fun x : Nat => (x : Int)) = some 129 := of_live
  have h5 : print ((3 : Nat) : Int) 129 = [51, 58, 48, 44, 55] := print_live
  unfold parse
  rw [h1]
  simp only [h2, Option.bind_some, parseRest, h3, h4, h5, if_true]
theorem parse_dead : parse [51, 58, 55, 44, 48] = none := by
  have h1 : split 58 [51, 58, 55, 44, 48] = some ([51], [55, 44, 48]) := by decide
  have h2 : P.number [51] = some 3 := by decide
  have h3 : nums [55, 44, 48] = some [7, 0] := by decide
  have h4 : ofAll ((3 : Nat) : Int) ([7, 0].map fun x : Nat => (x : Int)) = some 129 := of_live2
  have h5 : print ((3 : Nat) : Int) 129 = [51, 58, 48, 44, 55] := print_live
  unfold parse
  rw [h1]
  simp only [h2, Option.bind_some, parseRest, h3, h4, h5]
  decide
end Go.Proofs.YtadhhamfikpimaaDoor.L

namespace Go.Proofs.YtadhhamfikpimaaDoor.O
open Go.RowKit
open T

/-- The fault of a line. -/
def fault : List PanicEntry := [{ v := .iface 27 (.int .i64 3), recovered := false }]
theorem need_yes (w : World) : Calls Tryd.prog 106 #[.bool true] w fun e w' => e = .returned (.tuple #[]) ∧ w = w' := by
  go_enter Tryd.func106, Tryd.ntmps106
  go_wp2
  go_end0
  exact ⟨rfl, rfl⟩
theorem need_no (w : World) : Calls Tryd.prog 106 #[.bool false] w fun e w' => e = .panicked fault ∧ w = w' := by
  go_enter Tryd.func106, Tryd.ntmps106
  go_wp2
  exact ⟨rfl, rfl, rfl⟩

/-- A policy's value. -/
abbrev polA (n0 n1 n2 n3 n4 n5 : Int) (hid : ByteArray) (uv fv : Value) : Value :=
  .agg #[.int .i64 n0, .int .i64 n1, .int .i64 n2, .int .i64 n3, .int .i64 n4, .int .i64 n5, .string hid, uv, fv]

theorem two_new (w : World) (a b : Obj) : Below w.heap.size w ((w.alloc a).alloc b) := ((Below.refl _ _).alloc (Nat.le_refl _) _).alloc (by simp) _
theorem shr_is (k : Nat) (n : Int) (hk : k < 18446744073709551616) (_hn : 0 ≤ n) : ((k : Int) / 2 ^ min n.toNat 64 == 0) = decide (k < 2 ^ n.toNat) := by
  rw [show (2 : Int) ^ min n.toNat 64 = ((2 ^ min n.toNat 64 : Nat) : Int) by simp, ← Int.natCast_ediv]
  rw [Bool.eq_iff_iff, beq_iff_eq, decide_eq_true_iff]
  have hp : 0 < 2 ^ min n.toNat 64 := Nat.pow_pos (by omega)
  have e : k / 2 ^ min n.toNat 64 = 0 ↔ k < 2 ^ min n.toNat 64 := Nat.div_eq_zero_iff_lt hp
  rw [show (((k / 2 ^ min n.toNat 64 : Nat) : Int) = 0) = (k / 2 ^ min n.toNat 64 = 0) by simp only [eq_iff_iff]; omega, e]
  rcases Nat.lt_or_ge n.toNat 64 with h | h
  · rw [Nat.min_eq_left (by omega)]
  · rw [Nat.min_eq_right h]
    have := Nat.pow_le_pow_right (n := 2) (by omega) h
    omega

set_option maxHeartbeats 400000 in
theorem fits_any (n0 n1 n2 n3 n4 n5 : Int) (hid : ByteArray) (uv fv : Value) (l : Int) (k : Nat) (w : World) (hk : k < 18446744073709551616) :
    Calls Tryd.prog 22 #[polA n0 n1 n2 n3 n4 n5 hid uv fv, L.lab l k] w fun e w' => e = .returned (.bool (fitsB n0 n1 l k)) ∧ Below w.heap.size w w' := by
  by_cases h0 : l < 0
  · have Hf := Lib.hid (show fitsB n0 n1 l k = false by simp [fitsB]; omega)
    go_enter Tryd.func22, Tryd.ntmps22
    go_wp2_with fail
    go_ret
    exact ⟨ret_of (by rw [Hf.out]; rfl), two_new _ _ _⟩
  by_cases h1 : n0 ≤ l
  · have Hf := Lib.hid (show fitsB n0 n1 l k = false by simp [fitsB]; omega)
    go_enter Tryd.func22, Tryd.ntmps22
    go_wp2_with fail
    go_ret
    exact ⟨ret_of (by rw [Hf.out]; rfl), two_new _ _ _⟩
  by_cases h2 : n1 < 0
  · have Hf := Lib.hid (show fitsB n0 n1 l k = false by simp [fitsB]; omega)
    go_enter Tryd.func22, Tryd.ntmps22
    go_wp2_with fail
    go_ret
    exact ⟨ret_of (by rw [Hf.out]; rfl), two_new _ _ _⟩
  have Hf := Lib.hid (show fitsB n0 n1 l k = decide (k < 2 ^ n1.toNat) by simp [fitsB]; intro; omega)
  have Hs := Lib.hid (shr_is k n1 hk (by omega))
  go_enter Tryd.func22, Tryd.ntmps22
  go_wp2_with fail
  go_ret
  exact ⟨ret_of (by rw [Hf.out, ← Hs.out]; rfl), two_new _ _ _⟩

/-- What numbers lays: of each of the six its word, where it is kept, and its bounds. -/
def numCells (pb po : Nat) : Array Value := #[.string ⟨#[108, 101, 118, 101, 108, 115]⟩, .pointer (some ⟨pb, po, none⟩), .int .i64 1, .int .i64 16, .string ⟨#[99, 97, 116, 115]⟩, .pointer (some ⟨pb, po + 1, none⟩), .int .i64 0, .int .i64 64, .string ⟨#[108, 105, 110, 101, 115]⟩, .pointer (some ⟨pb, po + 2, none⟩), .int .i64 1, .int .i64 400, .string ⟨#[99, 111, 109, 109, 105, 116, 115]⟩, .pointer (some ⟨pb, po + 3, none⟩), .int .i64 0, .int .i64 64, .string ⟨#[108, 111, 103]⟩, .pointer (some ⟨pb, po + 4, none⟩), .int .i64 1, .int .i64 200, .string ⟨#[99, 111, 110, 116, 101, 120, 116]⟩, .pointer (some ⟨pb, po + 5, none⟩), .int .i64 0, .int .i64 20]
theorem below_drewN {B : Nat} {w w' : World} (h : Below B w w') (n : Nat) : Below B w (w'.drewN n) := ⟨h.1, h.2, h.3, h.4, h.5⟩
theorem drew_alloc (w : World) (o : Obj) : (w.alloc o).drew.heap[w.heap.size]? = some o ∧ Below w.heap.size w (w.alloc o).drew ∧ (w.alloc o).drew.heap.size = w.heap.size + 1 :=
  ⟨heap_alloc_new w o, ((Below.refl _ _).alloc (Nat.le_refl _) _).drew, by simp⟩
set_option maxRecDepth 100000 in
set_option maxHeartbeats 400000 in
theorem numbers_any (pb po : Nat) (w : World) :
    Calls Tryd.prog 71 #[.pointer (some ⟨pb, po, none⟩)] w fun e w' => e = .returned (.slice (some ⟨w.heap.size, 0, none⟩) 6 6) ∧ w'.heap[w.heap.size]? = some (.cells (numCells pb po) 112 (0, 0)) ∧ Below w.heap.size w w' ∧ w'.heap.size = w.heap.size + 1 := by
  have HF := Lib.hid (drew_alloc w (.cells (numCells pb po) 112))
  go_enter Tryd.func71, Tryd.ntmps71
  go_wp2_with fail
  go_still_tail 24, (by kernel_rfl)
  change wpList _ _ _ _ _ w.drew
  go_wp2_with fail
  go_ret
  exact ⟨rfl, HF.out⟩

/-- May a number be one of the six? -/
def inB (lo hi n : Int) : Bool := decide (lo ≤ n) && decide (n ≤ hi)
set_option maxRecDepth 100000 in
set_option maxHeartbeats 400000 in
theorem numRight_any (wd : ByteArray) (pb po : Nat) (lo hi n : Int) (w : World) (hlt : pb < w.heap.size) (hc : w.cell? ⟨pb, po, none⟩ = some (.int .i64 n)) :
    Calls Tryd.prog 76 #[.agg #[.string wd, .pointer (some ⟨pb, po, none⟩), .int .i64 lo, .int .i64 hi]] w fun e w' => e = .returned (.bool (inB lo hi n)) ∧ Below w.heap.size w w' := by
  have hne : ¬ pb = w.heap.size := by omega
  have HB := Lib.hid (((Below.refl w.heap.size w).alloc (Nat.le_refl _) (.cells #[.string wd, .pointer (some ⟨pb, po, none⟩), .int .i64 lo, .int .i64 hi] 112)))
  by_cases h1 : lo ≤ n
  · have hd : decide (lo ≤ n) = true := decide_eq_true h1
    have Hf := Lib.hid (show inB lo hi n = decide (n ≤ hi) by simp [inB, h1])
    go_enter Tryd.func76, Tryd.ntmps76
    go_wp2_with fail
    go_quiet (fail)
    go_wp2_with fail
    go_ret
    exact ⟨ret_of (by rw [Hf.out]; rfl), below_drewN HB.out _⟩
  · have hd : decide (lo ≤ n) = false := decide_eq_false h1
    have Hf := Lib.hid (show inB lo hi n = false by simp [inB]; omega)
    go_enter Tryd.func76, Tryd.ntmps76
    go_wp2_with fail
    go_quiet (fail)
    go_wp2_with fail
    go_ret
    exact ⟨ret_of (by rw [Hf.out]; rfl), below_drewN HB.out _⟩

theorem plain_short (s : ByteArray) (h : s.size < 1 ∨ 200 < s.size) : plainB s.data.toList = false := by
  unfold plainB; rw [← Lib.size_eq]
  rcases h with h | h
  · rw [decide_eq_false (by omega)]; rfl
  · rw [decide_eq_false (p := s.size ≤ 200) (by omega), Bool.and_false]; rfl
theorem plain_all (s : ByteArray) (h1 : 1 ≤ s.size) (h2 : s.size ≤ 200) : plainB s.data.toList = s.data.toList.all fun c => decide (32 ≤ c.toNat) && decide (c.toNat ≤ 126) := by
  unfold plainB; rw [← Lib.size_eq, decide_eq_true h1, decide_eq_true h2]; rfl
theorem plain_bad (s : ByteArray) (k : Nat) (hk : k < s.size) (h : (s[k].toNat : Int) < 32 ∨ 126 < (s[k].toNat : Int)) : (s.data.toList.all fun c => decide (32 ≤ c.toNat) && decide (c.toNat ≤ 126)) = false := by
  have hl : k < s.data.toList.length := by rw [← Lib.size_eq]; exact hk
  rw [List.all_eq_false]
  refine ⟨s.data.toList[k], List.getElem_mem hl, ?_⟩
  rw [byte s k hk hl]
  simp only [Bool.and_eq_true, decide_eq_true_eq, not_and]
  omega
theorem plain_good (s : ByteArray) (h : ∀ j (hj : j < s.data.toList.length), j < s.size → 32 ≤ s.data.toList[j].toNat ∧ s.data.toList[j].toNat ≤ 126) : (s.data.toList.all fun c => decide (32 ≤ c.toNat) && decide (c.toNat ≤ 126)) = true := by
  rw [List.all_eq_true]
  intro c hc
  obtain ⟨j, hj, rfl⟩ := List.getElem_of_mem hc
  have := h j hj (by rw [← Lib.size_eq] at hj; omega)
  rw [decide_eq_true this.1, decide_eq_true this.2]; rfl

set_option maxHeartbeats 400000 in
theorem hidden_any (s : ByteArray) (w : World) (hs : s.size ≤ maxLen) :
    Calls Tryd.prog 77 #[.string s] w fun e w' => e = .returned (.bool (plainB s.data.toList)) ∧ w = w' := by
  unfold maxLen at hs
  by_cases h1 : s.size < 1
  · have Hn := Lib.hid (plain_short s (.inl h1))
    go_enter Tryd.func77, Tryd.ntmps77
    go_wp2
    go_ret
    exact ⟨ret_of (by rw [Hn.out]; rfl), rfl⟩
  by_cases h2 : 200 < s.size
  · have Hn := Lib.hid (plain_short s (.inr h2))
    go_enter Tryd.func77, Tryd.ntmps77
    go_wp2
    go_ret
    exact ⟨ret_of (by rw [Hn.out]; rfl), rfl⟩
  have Hn := Lib.hid (plain_all s (by omega) (by omega))
  go_enter Tryd.func77, Tryd.ntmps77
  go_wp2
  go_loop [14] (fun i => ∃ k : Nat, k ≤ s.size ∧ i = .int .i64 k ∧ Hid (∀ j (hj : j < s.data.toList.length), j < k → 32 ≤ s.data.toList[j].toNat ∧ s.data.toList[j].toNat ≤ 126)) (fun i => s.size - (intOf i).toNat)
  case atStart => exact ⟨0, Nat.zero_le _, rfl, Lib.hid (fun j _ h => absurd h (by omega))⟩
  case round =>
    obtain ⟨k, hk, rfl, HR⟩ := hrel
    by_cases hlt : k < s.size
    · go_wp2
      · go_ret
        exact ⟨ret_of (by rw [Hn.out, plain_bad s k hlt (by omega)]; rfl), rfl⟩
      · have hlo : 32 ≤ (s[k].toNat : Int) := by omega
        have hhi : (s[k].toNat : Int) ≤ 126 := by omega
        go_round
        case rel =>
          refine ⟨k + 1, by omega, by go_num, Lib.hid (fun j hj hjk => ?_)⟩
          by_cases e : j = k
          · subst e; rw [byte s j hlt hj]; omega
          · exact HR.out j hj (by omega)
        case measure => simp [intOf]; omega
      · go_ret
        exact ⟨ret_of (by rw [Hn.out, plain_bad s k hlt (by omega)]; rfl), rfl⟩
    · obtain rfl : k = s.size := by omega
      have HG := Lib.hid (plain_good s HR.out)
      go_wp2
      go_ret
      exact ⟨ret_of (by rw [Hn.out, HG.out]; rfl), rfl⟩
end Go.Proofs.YtadhhamfikpimaaDoor.O

namespace Go.Proofs.YtadhhamfikpimaaDoor.T
open Go.RowKit

theorem own_form {w : World} {base : Nat} {e : TypeId} {size n : Nat} {v : Value} {xs : List Value} (h : w.ownsRow base e size v n xs) :
    ∃ A cap, v = .slice A n cap ∧ n ≤ cap ∧ (0 < n → ∃ g, A = some ⟨g, 0, none⟩ ∧ base ≤ g ∧ g < w.heap.size ∧ ∀ j u, xs[j]? = some u → w.cell? ⟨g, j, none⟩ = some u) := by
  rcases h.2 with ⟨rfl, rfl⟩ | ⟨g, cap, cur, rfl, hg, hh, hnc, _, _, hx⟩
  · exact ⟨none, 0, rfl, Nat.le_refl _, fun h => absurd h (by omega)⟩
  · refine ⟨_, cap, rfl, hnc, fun _ => ⟨g, rfl, hg, ?_, fun j u hu => ?_⟩⟩
    · rcases Nat.lt_or_ge g w.heap.size with hlt | hge
      · exact hlt
      · rw [Array.getElem?_eq_none hge] at hh; cases hh
    · rw [← hx] at hu
      have hu' : cur.toList[j]? = some u := by
        rw [List.getElem?_take] at hu
        split at hu
        · exact hu
        · cases hu
      simp [World.cell?, hh]
      simpa using hu'
end Go.Proofs.YtadhhamfikpimaaDoor.T

namespace Go.Proofs.YtadhhamfikpimaaDoor.O
open Go.RowKit Go.Maps
open T

theorem strLaw : Keyed Tryd.prog 9 := string_keyed Tryd.underlying9
theorem zeroInt (w : World) : (zeroValue 3).run Tryd.prog w = .ok (.int .i64 0) w := by kernel_rfl

/-- Block mb is a map from texts to numbers that reads as f, of at most n entries. -/
def MapIs (w : World) (mb n : Nat) (f : List UInt8 → Int) : Prop :=
  ∃ D : DataW Unit, w.ownsMap Tryd.prog 9 (plainElem Tryd.prog 3) mb n D ∧ IsMap D ∧ ∀ k : List UInt8, D.atKey (.string k) (.lit (.int .i64 0)) = .lit (.int .i64 (f k))
/-- f, but v at k. -/
def upd (f : List UInt8 → Int) (k : List UInt8) (v : Int) : List UInt8 → Int := fun x => if x = k then v else f x
theorem MapIs.start (w : World) : MapIs (w.alloc (.map #[] 0)) w.heap.size 0 (fun _ => 0) :=
  ⟨.map [], World.ownsMap_made _ _ _ _, ⟨_, rfl⟩, fun _ => rfl⟩
theorem MapIs.kept {w w' : World} {mb n : Nat} {f : List UInt8 → Int} {row : Option Nat} (h : MapIs w mb n f) (hg : w.grownBy w' row) (hne : some mb ≠ row) : MapIs w' mb n f := by
  obtain ⟨D, h1, h2, h3⟩ := h
  exact ⟨D, h1.kept hg hne, h2, h3⟩
theorem MapIs.lt {w : World} {mb n : Nat} {f : List UInt8 → Int} (h : MapIs w mb n f) : mb < w.heap.size := by
  obtain ⟨D, h1, h2, h3⟩ := h
  exact h1.lt
theorem MapIs.mono {w : World} {mb n n' : Nat} {f : List UInt8 → Int} (h : MapIs w mb n f) (hn : n ≤ n') : MapIs w mb n' f := by
  obtain ⟨D, h1, h2, h3⟩ := h
  exact ⟨D, h1.mono hn, h2, h3⟩
theorem MapIs.notCells {w : World} {mb n : Nat} {f : List UInt8 → Int} (h : MapIs w mb n f) {g : Nat} {cs : Array Value} {t : TypeId} {z : Nat × Nat} (hc : w.heap[g]? = some (.cells cs t z)) : g ≠ mb := by
  obtain ⟨D, ⟨es, _, hb, _⟩, _, _⟩ := h
  rintro rfl
  rw [hb] at hc
  cases hc
theorem MapIs.notCell {w : World} {mb n : Nat} {f : List UInt8 → Int} (h : MapIs w mb n f) {g o : Nat} {v : Value} (hc : w.cell? ⟨g, o, none⟩ = some v) : g ≠ mb := by
  obtain ⟨D, ⟨es, _, hb, _⟩, _, _⟩ := h
  rintro rfl
  simp [World.cell?, hb] at hc
theorem MapIs.look {w : World} {mb n : Nat} {f : List UInt8 → Int} (h : MapIs w mb n f) {t : TypeId} (ht : Tryd.prog.underlying t = some (.map 9 3)) (s : ByteArray) (hs : s.size ≤ maxLen) :
    (Instr.lookup t (.map (some mb)) (.string s) false).run Tryd.prog w = .ok (.int .i64 (f s.data.toList)) w := by
  obtain ⟨D, h1, h2, h3⟩ := h
  obtain ⟨c, hrun, hat, hwc⟩ := h1.lookup_int strLaw ht Tryd.underlying3 (zeroInt w) (Go.WideMaps.keyOf_string_mk Tryd.underlying9 hs)
  rw [h3] at hat
  have e : f s.data.toList = c := by simpa only [DataW.lit.injEq, Lit.int.injEq, true_and] using hat
  rw [e]
  exact hrun
theorem lit_ne {k k' : List UInt8} (h : k' ≠ k) : (Lit.string k') ≠ .string k := fun e => h (by injection e)
theorem MapIs.put {w : World} {mb n : Nat} {f : List UInt8 → Int} {D : DataW Unit} (h2 : IsMap D) (h3 : ∀ k : List UInt8, D.atKey (.string k) (.lit (.int .i64 0)) = .lit (.int .i64 (f k))) {k : List UInt8} {v : Int}
    (h1 : w.ownsMap Tryd.prog 9 (plainElem Tryd.prog 3) mb n (D.put (.string k) (.lit (.int .i64 v)))) : MapIs w mb n (upd f k v) := by
  refine ⟨_, h1, h1.isMap, fun x => ?_⟩
  by_cases e : x = k
  · subst e
    rw [atKey_put_same (k := .string x) h2 trivial, upd, if_pos rfl]
  · rw [atKey_put_other (lit_ne e), h3, upd, if_neg e]
/-- A store, at the operation. -/
theorem wpList_put (w : World) {ops : Array Oper} {rest : List Oper} {o : Oper} {a : Act} {Q : Exit → Act → World → Prop} (hg : o.guard = none) (m x v : Operand) (t : TypeId) (hop : o.op = Op.mapUpdate t m x v)
    (ht : Tryd.prog.underlying t = some (.map 9 3)) (mb n : Nat) (f : List UInt8 → Int) (hm : a.eval m = .map (some mb)) (h : MapIs w mb n f) (hn : n < maxLen) (s : ByteArray) (hs : s.size ≤ maxLen) (z : Int) (hx : a.eval x = .string s) (hv : a.eval v = .int .i64 z) (hz : (Lit.int .i64 z).wf = true)
    (hK : ∀ w', MapIs w' mb (n + 1) (upd f s.data.toList z) → w.grownBy w' (some mb) → wpList Tryd.prog ops Q rest (a.put o.dst undef) w') : wpList Tryd.prog ops Q (o :: rest) a w := by
  obtain ⟨D, h1, h2, h3⟩ := h
  exact wpList_mapUpdate_own w hg m x v t hop 9 3 strLaw ht _ mb n D hm h1 hn _ _ _ hx hv (Go.WideMaps.keyOf_string_mk Tryd.underlying9 hs) _ [] (plainElem_int Tryd.underlying3 hz) (fun w' o1 g1 => hK w' (MapIs.put h2 h3 o1) g1)

/-- The cells of users and floors. -/
def usrCells (us : List Usr) : List Value := us.flatMap fun u => [.string ⟨u.name.toArray⟩, .int .i64 u.lv, .int .u64 (u.ct : Int), .bool u.ad]
def flrCells (fs : List Flr) : List Value := fs.flatMap fun f => [.string ⟨f.pre.toArray⟩, .int .i64 f.lv, .int .u64 (f.ct : Int)]
/-- The cells of a reader. -/
def rdCells (p : Pol) (uv fv : Value) (mb : Nat) (line : Int) : Array Value :=
  #[.int .i64 (p.ns.getD 0 0), .int .i64 (p.ns.getD 1 0), .int .i64 (p.ns.getD 2 0), .int .i64 (p.ns.getD 3 0), .int .i64 (p.ns.getD 4 0), .int .i64 (p.ns.getD 5 0), .string ⟨p.hid.toArray⟩, uv, fv, .map (some mb), .int .i64 line]
/-- A reader in memory, in blocks from base on. -/
structure Rd (w : World) (base rb mb n : Nat) (p : Pol) (f : List UInt8 → Int) (line : Int) (uv fv : Value) : Prop where
  hb : base ≤ rb
  hm : base ≤ mb
  blk : w.heap[rb]? = some (.cells (rdCells p uv fv mb line) 99 (0, 0))
  map : MapIs w mb n f
  us : w.ownsRow base 72 4 uv p.us.length (usrCells p.us)
  fs : w.ownsRow base 76 3 fv p.fs.length (flrCells p.fs)

theorem own_ne {w : World} {base : Nat} {e : TypeId} {size n : Nat} {v : Value} {xs : List Value} (h : w.ownsRow base e size v n xs) {g : Nat} (hne : ∀ cs, w.heap[g]? ≠ some (.cells cs e (0, 0))) : v.ownBlock = none ∨ v.ownBlock ≠ some g := by
  rcases h.2 with ⟨rfl, _⟩ | ⟨g', cap, cur, rfl, hg, hh, _⟩
  · exact .inl rfl
  · refine .inr fun e' => ?_
    simp [Value.ownBlock] at e'
    subst e'
    exact hne _ hh
theorem grown_of {w w' : World} (hb : Below w.heap.size w w') (row : Option Nat) : w.grownBy w' row := ⟨hb.os, hb.tape, hb.output, hb.size, fun k hk _ => hb.block k hk⟩
theorem grown_set (w : World) (p : Addr) (u : Value) : w.grownBy (w.setCell p u) (some p.block) :=
  ⟨rfl, rfl, rfl, by simp [World.setCell], fun k _ hk => Below.heap_setCell _ _ _ _ (fun e => hk (by rw [e]))⟩
variable {w w' : World} {base rb mb n : Nat} {p : Pol} {f : List UInt8 → Int} {line : Int} {uv fv : Value}
theorem Rd.below (h : Rd w base rb mb n p f line uv fv) (hb : Below w.heap.size w w') : Rd w' base rb mb n p f line uv fv :=
  ⟨h.hb, h.hm, (hb.block rb (L.blk_lt h.blk)).trans h.blk, h.map.kept (grown_of hb none) (by simp), h.us.kept (grown_of hb none) (by cases uv.ownBlock <;> simp), h.fs.kept (grown_of hb none) (by cases fv.ownBlock <;> simp)⟩
theorem Rd.ne (h : Rd w base rb mb n p f line uv fv) : rb ≠ mb := h.map.notCells h.blk
/-- Behind a store into the map. -/
theorem Rd.said (h : Rd w base rb mb n p f line uv fv) {n' : Nat} {f' : List UInt8 → Int} (hg : w.grownBy w' (some mb)) (hm : MapIs w' mb n' f') : Rd w' base rb mb n' p f' line uv fv := by
  have hnc : ∀ (e : TypeId) cs, w.heap[mb]? ≠ some (.cells cs e (0, 0)) := fun e cs hc => (h.map.notCells hc) rfl
  exact ⟨h.hb, h.hm, (hg.block rb (L.blk_lt h.blk) (by have := h.ne; simp; exact this)).trans h.blk, hm, h.us.kept hg (own_ne h.us (hnc _)), h.fs.kept hg (own_ne h.fs (hnc _))⟩
theorem ne_type {a b : TypeId} {x y : Array Value} (hne : a ≠ b) {o : Option Obj} (h : o = some (.cells x a (0, 0))) : o ≠ some (.cells y b (0, 0)) := fun e => by
  rw [h] at e; injection e with e; injection e with _ e; exact hne e
/-- Behind a store into the reader itself. -/
theorem Rd.stored (h : Rd w base rb mb n p f line uv fv) (i : Nat) (u : Value) {p' : Pol} {line' : Int} (hc : (rdCells p uv fv mb line).setIfInBounds i u = rdCells p' uv fv mb line') (hu : p'.us = p.us) (hf : p'.fs = p.fs) : Rd (w.setCell ⟨rb, i, none⟩ u) base rb mb n p' f line' uv fv := by
  refine ⟨h.hb, h.hm, ?_, h.map.kept (grown_set w ⟨rb, i, none⟩ u) (by have := h.ne; simp; exact fun e => this e.symm), ?_, ?_⟩
  · rw [← hc]; exact L.blk_set h.blk i u
  · rw [hu]; exact h.us.kept (grown_set w ⟨rb, i, none⟩ u) (own_ne h.us (fun cs => ne_type (by decide) h.blk))
  · rw [hf]; exact h.fs.kept (grown_set w ⟨rb, i, none⟩ u) (own_ne h.fs (fun cs => ne_type (by decide) h.blk))

theorem MapIs.cellKept {w w' : World} {mb n : Nat} {f : List UInt8 → Int} (h : MapIs w mb n f) (hg : w.grownBy w' (some mb)) {g o : Nat} {v : Value} (hc : w.cell? ⟨g, o, none⟩ = some v) : w'.cell? ⟨g, o, none⟩ = some v :=
  hg.cell hc (fun e => h.notCell hc (by injection e))
/-- Behind what is said: the map alone is another one. -/
def SayPost (w : World) (base rb mb n : Nat) (p : Pol) (f : List UInt8 → Int) (line : Int) (uv fv : Value) (w' : World) : Prop := Rd w' base rb mb n p f line uv fv ∧ w.grownBy w' (some mb)
/-- A fault goes up: the line's number stands, and what is not the reader's is as it was. -/
def Fell (w : World) (base rb : Nat) (line : Int) (e : Ending) (w' : World) : Prop := e = .panicked fault ∧ w'.cell? ⟨rb, 10, none⟩ = some (.int .i64 line) ∧ Below base w w'
theorem Rd.fell (h : Rd w' base rb mb n p f line uv fv) (hb : Below base w w') : Fell w base rb line (.panicked fault) w' := ⟨rfl, L.blk_cell h.blk 10, hb⟩
theorem Rd.size (h : Rd w base rb mb n p f line uv fv) : base ≤ w.heap.size := Nat.le_trans h.hb (Nat.le_of_lt (L.blk_lt h.blk))
theorem Rd.saidBelow (h : Rd w base rb mb n p f line uv fv) (hg : w.grownBy w' (some mb)) : Below base w w' := (Below.refl base w).grown hg h.size (fun k hk => by cases hk; exact h.hm)
theorem Rd.cells (h : Rd w base rb mb n p f line uv fv) : (w.cell? ⟨rb, 0, none⟩ = some (.int .i64 (p.ns.getD 0 0)) ∧ w.cell? ⟨rb, 1, none⟩ = some (.int .i64 (p.ns.getD 1 0)) ∧ w.cell? ⟨rb, 2, none⟩ = some (.int .i64 (p.ns.getD 2 0)) ∧ w.cell? ⟨rb, 3, none⟩ = some (.int .i64 (p.ns.getD 3 0)) ∧ w.cell? ⟨rb, 4, none⟩ = some (.int .i64 (p.ns.getD 4 0)) ∧ w.cell? ⟨rb, 5, none⟩ = some (.int .i64 (p.ns.getD 5 0))) ∧ w.cell? ⟨rb, 6, none⟩ = some (.string ⟨p.hid.toArray⟩) ∧ w.cell? ⟨rb, 7, none⟩ = some uv ∧ w.cell? ⟨rb, 8, none⟩ = some fv :=
  ⟨⟨L.blk_cell h.blk 0, L.blk_cell h.blk 1, L.blk_cell h.blk 2, L.blk_cell h.blk 3, L.blk_cell h.blk 4, L.blk_cell h.blk 5⟩, L.blk_cell h.blk 6, L.blk_cell h.blk 7, L.blk_cell h.blk 8⟩

set_option maxRecDepth 100000 in
set_option maxHeartbeats 400000 in
theorem needSaid_yes (h : Rd w base rb mb n p f line uv fv) (s : ByteArray) (hs : s.size ≤ maxLen) (hf : f s.data.toList ≠ 0) :
    Calls Tryd.prog 95 #[.pointer (some ⟨rb, 0, none⟩), .string s] w fun e w' => e = .returned (.tuple #[]) ∧ w = w' := by
  have hlk := h.map.look Tryd.underlying97 s hs
  have hc : w.cell? ⟨rb, 9, none⟩ = some (.map (some mb)) := L.blk_cell h.blk 9
  have hn : ((f s.data.toList) != 0) = true := by simpa using hf
  generalize f s.data.toList = c at hlk hn
  clear hf h hs
  go_enter Tryd.func95, Tryd.ntmps95
  go_wp2_with fail
  with_reducible refine (need_yes _).mono ?_
  rintro e w' ⟨rfl, rfl⟩
  go_wp2_with fail
  go_end0
  exact ⟨rfl, rfl⟩
set_option maxRecDepth 100000 in
set_option maxHeartbeats 400000 in
theorem needSaid_no (h : Rd w base rb mb n p f line uv fv) (s : ByteArray) (hs : s.size ≤ maxLen) (hf : f s.data.toList = 0) :
    Calls Tryd.prog 95 #[.pointer (some ⟨rb, 0, none⟩), .string s] w fun e w' => e = .panicked fault ∧ w = w' := by
  have hlk := h.map.look Tryd.underlying97 s hs
  have hc : w.cell? ⟨rb, 9, none⟩ = some (.map (some mb)) := L.blk_cell h.blk 9
  rw [hf] at hlk
  clear hf h hs
  go_enter Tryd.func95, Tryd.ntmps95
  go_wp2_with fail
  with_reducible refine (need_no _).mono ?_
  rintro e w' ⟨rfl, rfl⟩
  go_wp2_with fail
  exact ⟨rfl, rfl, rfl⟩

set_option maxRecDepth 100000 in
set_option maxHeartbeats 400000 in
theorem say_no (h : Rd w base rb mb n p f line uv fv) (s : ByteArray) (hs : s.size ≤ maxLen) (hf : f s.data.toList ≠ 0) :
    Calls Tryd.prog 107 #[.pointer (some ⟨rb, 0, none⟩), .string s] w fun e w' => e = .panicked fault ∧ w = w' := by
  have hlk := h.map.look Tryd.underlying97 s hs
  have hc : w.cell? ⟨rb, 9, none⟩ = some (.map (some mb)) := L.blk_cell h.blk 9
  have hn : ((f s.data.toList) == 0) = false := by simpa using hf
  generalize f s.data.toList = c at hlk hn
  clear hf h hs
  go_enter Tryd.func107, Tryd.ntmps107
  go_wp2_with fail
  with_reducible refine (need_no _).mono ?_
  rintro e w' ⟨rfl, rfl⟩
  go_wp2_with fail
  exact ⟨rfl, rfl, rfl⟩
set_option maxRecDepth 100000 in
set_option maxHeartbeats 400000 in
theorem say_yes (h : Rd w base rb mb n p f line uv fv) (s : ByteArray) (hs : s.size ≤ maxLen) (hf : f s.data.toList = 0) (hn : n < maxLen) (hl : (Lit.int .i64 line).wf = true) :
    Calls Tryd.prog 107 #[.pointer (some ⟨rb, 0, none⟩), .string s] w fun e w' => e = .returned (.tuple #[]) ∧ SayPost w base rb mb (n + 1) p (upd f s.data.toList line) line uv fv w' := by
  have hlk := h.map.look Tryd.underlying97 s hs
  have hc : w.cell? ⟨rb, 9, none⟩ = some (.map (some mb)) := L.blk_cell h.blk 9
  have hc2 : w.cell? ⟨rb, 10, none⟩ = some (.int .i64 line) := L.blk_cell h.blk 10
  rw [hf] at hlk
  have H := Lib.hid h
  clear hf h
  go_enter Tryd.func107, Tryd.ntmps107
  go_wp2_with fail
  with_reducible refine (need_yes _).mono ?_
  rintro e w' ⟨rfl, rfl⟩
  clear hlk
  go_wp2_with fail
  go_still_tail 9, (by kernel_rfl)
  change wpList _ _ _ _ _ w.drew
  refine wpList_put w.drew rfl _ _ _ _ rfl Tryd.underlying97 mb n f rfl (show MapIs w.drew mb n f from H.out.map) hn s hs line rfl rfl hl ?_
  intro w' hm hg
  have hg' : w.grownBy w' (some mb) := ⟨hg.os, hg.tape, hg.output, hg.size, hg.block⟩
  have HR := Lib.hid (H.out.said hg' hm)
  have HG := Lib.hid hg'
  clear hm hg hg' hc hc2
  go_wp2_with fail
  go_end0
  exact ⟨rfl, HR.out, HG.out⟩
end Go.Proofs.YtadhhamfikpimaaDoor.O
