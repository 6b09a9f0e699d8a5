/-
  The contract of the reference's Of (layer 5).
  What the laws of layer 5 ask of the functions that they call, in one form each.
-/
import Derived.Test.YtllgeffjkjdadaaGvc
import Derived.Test.YtllgeffjkjdadaaGvb
namespace Go.Proofs.Ytllgeffjkjdadaa.V
set_option linter.unusedVariables false
set_option linter.unusedSimpArgs false
open Go.RowKit
open T
open I (It Lb ItemsIn ItemsAt ItemsOk itCells itCells_snoc itCells_at items_cells items_own own_at own_below infoItem alloc1)

def OfEnd (w : World) (o : Lb) (h : List UInt8) (l : List It) (e : Ending) (w' : World) : Prop :=
  (∃ vl va, e = .returned (.agg #[vl, va]) ∧ w'.ownsRow w.heap.size 35 2 vl (lns h (cut o l)).length (lineCells (lns h (cut o l))) ∧ w'.ownsRow w.heap.size 3 1 va (atI o l).length (numCells (atI o l))) ∧ Below w.heap.size w w'
end Go.Proofs.Ytllgeffjkjdadaa.V

namespace Go.Proofs.Ytllgeffjkjdadaa.V
set_option linter.unusedVariables false
set_option linter.unusedSimpArgs false
open Go.RowKit
open T
open I (It Lb ItemsIn ItemsAt ItemsOk itCells itCells_snoc itCells_at items_cells items_own own_at own_below infoItem alloc1)

def VoEnd (W : World) (ls : List (List UInt8 × Bool)) (ts : List Int) (e : Ending) (w' : World) : Prop :=
  ∃ LA lcap TA tcap, e = .returned (.agg #[.slice LA ls.length lcap, .slice TA ts.length tcap]) ∧ w'.ownsRow W.heap.size 35 2 (.slice LA ls.length lcap) ls.length (lineCells ls) ∧ w'.ownsRow W.heap.size 3 1 (.slice TA ts.length tcap) ts.length (numCells ts) ∧ Below W.heap.size W w'
theorem lines_own {w : World} {base : Nat} {A : Option Addr} {cap : Nat} {xs : List (List UInt8 × Bool)} (h : w.ownsRow base 35 2 (.slice A xs.length cap) xs.length (lineCells xs)) : LinesIn w A xs := by
  obtain ⟨A', cap', hv, _, hI⟩ := lines_of_own h
  injection hv with e1
  subst e1
  exact hI
/-- A row of a call's own stays when a cell of a block of another type is stored. -/
theorem own_stored {w : World} {base g i : Nat} {u : Value} {e e' : TypeId} {size n : Nat} {v : Value} {xs : List Value} {cs : Array Value} (h : w.ownsRow base e size v n xs) (hg : w.heap[g]? = some (.cells cs e' (0, 0))) (hne : e' ≠ e) : (w.setCell ⟨g, i, none⟩ u).ownsRow base e size v n xs :=
  h.kept (grown_set w ⟨g, i, none⟩ u) (own_ne h fun cs' he => by rw [hg] at he; injection he with he; injection he with _ he; exact hne he)
/-- Of: a view of these lines and places. -/
def VoC (fn : FuncId) (A : Option Addr) (n cap : Nat) (f0 : Int) (f1 : Nat) (hx : ByteArray) (l : List It) (ls : List (List UInt8 × Bool)) (ts : List Int) : Prop :=
  ∀ W : World, ItemsIn W A l → Calls Try.prog fn #[.slice A n cap, .agg #[.int .i64 f0, .int .u64 (f1 : Int)], .string hx] W (VoEnd W ls ts)
theorem VoC.at {fn : FuncId} {A : Option Addr} {n cap : Nat} {f0 : Int} {f1 : Nat} {hx : ByteArray} {l : List It} {ls : List (List UInt8 × Bool)} {ts : List Int} (h : VoC fn A n cap f0 f1 hx l ls ts) (W : World) (h1 : ItemsIn W A l) :
    Calls Try.prog fn #[.slice A n cap, .agg #[.int .i64 f0, .int .u64 (f1 : Int)], .string hx] W (VoEnd W ls ts) := h W h1
def LvC (fn : FuncId) : Prop := ∀ W : World, Calls Try.prog fn #[] W fun e w' => e = .returned (.bool true) ∧ Below W.heap.size W w'
theorem LvC.at {fn : FuncId} (h : LvC fn) (W : World) : Calls Try.prog fn #[] W fun e w' => e = .returned (.bool true) ∧ Below W.heap.size W w' := h W
/-- same, of two views of the same lines and places. -/
def SvC (fn : FuncId) (ls : List (List UInt8 × Bool)) (ts : List Int) : Prop := ∀ (W : World) (LA TA LB TB : Option Addr) (lc tc lc' tc' : Nat), LinesIn W LA ls → IntsIn W TA ts → LinesIn W LB ls → IntsIn W TB ts →
  Calls Try.prog fn #[.agg #[.slice LA ls.length lc, .slice TA ts.length tc], .agg #[.slice LB ls.length lc', .slice TB ts.length tc']] W fun e w' => e = .returned (.bool true) ∧ Below W.heap.size W w'
theorem SvC.at {fn : FuncId} {ls : List (List UInt8 × Bool)} {ts : List Int} (h : SvC fn ls ts) (W : World) {LA TA LB TB : Option Addr} {lc tc lc' tc' : Nat} (h1 : LinesIn W LA ls) (h2 : IntsIn W TA ts) (h3 : LinesIn W LB ls) (h4 : IntsIn W TB ts) :
  Calls Try.prog fn #[.agg #[.slice LA ls.length lc, .slice TA ts.length tc], .agg #[.slice LB ls.length lc', .slice TB ts.length tc']] W fun e w' => e = .returned (.bool true) ∧ Below W.heap.size W w' := h W LA TA LB TB lc tc lc' tc' h1 h2 h3 h4
def BsEnd (W : World) (b : List UInt8) (e : Ending) (w' : World) : Prop := ∃ A cap, e = .returned (.slice A b.length cap) ∧ BytesIn w' A b ∧ Below W.heap.size W w'
/-- Text, of a view. -/
def TxC (fn : FuncId) (ls : List (List UInt8 × Bool)) (b : List UInt8) : Prop := ∀ (W : World) (LA TA : Option Addr) (lc tn tc : Nat), LinesIn W LA ls → Calls Try.prog fn #[.agg #[.slice LA ls.length lc, .slice TA tn tc]] W (BsEnd W b)
theorem TxC.at {fn : FuncId} {ls : List (List UInt8 × Bool)} {b : List UInt8} (h : TxC fn ls b) (W : World) {LA TA : Option Addr} {lc tn tc : Nat} (h1 : LinesIn W LA ls) : Calls Try.prog fn #[.agg #[.slice LA ls.length lc, .slice TA tn tc]] W (BsEnd W b) := h W LA TA lc tn tc h1
/-- Join, of lines. -/
def JnC (fn : FuncId) (ls : List (List UInt8 × Bool)) (b : List UInt8) : Prop := ∀ (W : World) (LA : Option Addr) (lc : Nat), LinesIn W LA ls → Calls Try.prog fn #[.slice LA ls.length lc] W (BsEnd W b)
theorem JnC.at {fn : FuncId} {ls : List (List UInt8 × Bool)} {b : List UInt8} (h : JnC fn ls b) (W : World) {LA : Option Addr} {lc : Nat} (h1 : LinesIn W LA ls) : Calls Try.prog fn #[.slice LA ls.length lc] W (BsEnd W b) := h W LA lc h1
def NsEnd (W : World) (ds : List Int) (e : Ending) (w' : World) : Prop := ∃ A cap, e = .returned (.slice A ds.length cap) ∧ IntsIn w' A ds ∧ Below W.heap.size W w'
/-- IDs, of a view. -/
def IdC (fn : FuncId) (A : Option Addr) (n cap : Nat) (l : List It) (ts ds : List Int) : Prop := ∀ (W : World) (LA TA : Option Addr) (ln lc tc : Nat), ItemsIn W A l → IntsIn W TA ts → Calls Try.prog fn #[.slice A n cap, .agg #[.slice LA ln lc, .slice TA ts.length tc]] W (NsEnd W ds)
theorem IdC.at {fn : FuncId} {A : Option Addr} {n cap : Nat} {l : List It} {ts ds : List Int} (h : IdC fn A n cap l ts ds) (W : World) {LA TA : Option Addr} {ln lc tc : Nat} (h1 : ItemsIn W A l) (h2 : IntsIn W TA ts) :
    Calls Try.prog fn #[.slice A n cap, .agg #[.slice LA ln lc, .slice TA ts.length tc]] W (NsEnd W ds) := h W LA TA ln lc tc h1 h2
/-- Ints, of the same numbers. -/
def InC (fn : FuncId) (ds : List Int) : Prop := ∀ (W : World) (A B : Option Addr) (c c' : Nat), IntsIn W A ds → IntsIn W B ds → Calls Try.prog fn #[.slice A ds.length c, .slice B ds.length c'] W fun e w' => e = .returned (.bool true) ∧ Below W.heap.size W w'
theorem InC.at {fn : FuncId} {ds : List Int} (h : InC fn ds) (W : World) {A B : Option Addr} {c c' : Nat} (h1 : IntsIn W A ds) (h2 : IntsIn W B ds) : Calls Try.prog fn #[.slice A ds.length c, .slice B ds.length c'] W fun e w' => e = .returned (.bool true) ∧ Below W.heap.size W w' := h W A B c c' h1 h2
def IsEnd (W : World) (c : List It) (e : Ending) (w' : World) : Prop := ∃ A cap, e = .returned (.slice A c.length cap) ∧ ItemsIn w' A c ∧ Below W.heap.size W w'
/-- Cut. -/
def CuC (fn : FuncId) (A : Option Addr) (n cap : Nat) (f0 : Int) (f1 : Nat) (l c : List It) : Prop := ∀ W : World, ItemsIn W A l → Calls Try.prog fn #[.slice A n cap, .agg #[.int .i64 f0, .int .u64 (f1 : Int)]] W (IsEnd W c)
theorem CuC.at {fn : FuncId} {A : Option Addr} {n cap : Nat} {f0 : Int} {f1 : Nat} {l c : List It} (h : CuC fn A n cap f0 f1 l c) (W : World) (h1 : ItemsIn W A l) : Calls Try.prog fn #[.slice A n cap, .agg #[.int .i64 f0, .int .u64 (f1 : Int)]] W (IsEnd W c) := h W h1
/-- sameItems, of the same items. -/
def SiC (fn : FuncId) (ds : List It) : Prop := ∀ (W : World) (A B : Option Addr) (c c' : Nat), ItemsIn W A ds → ItemsIn W B ds → Calls Try.prog fn #[.slice A ds.length c, .slice B ds.length c'] W fun e w' => e = .returned (.bool true) ∧ Below W.heap.size W w'
theorem SiC.at {fn : FuncId} {ds : List It} (h : SiC fn ds) (W : World) {A B : Option Addr} {c c' : Nat} (h1 : ItemsIn W A ds) (h2 : ItemsIn W B ds) : Calls Try.prog fn #[.slice A ds.length c, .slice B ds.length c'] W fun e w' => e = .returned (.bool true) ∧ Below W.heap.size W w' := h W A B c c' h1 h2

theorem field_view0 (A : Option Addr) (n c : Nat) (B : Option Addr) (m d : Nat) (wz : World) : (Instr.field 29 (.agg #[.slice A n c, .slice B m d]) 0).run Try.prog wz = .ok (.slice A n c) wz := by kernel_rfl
/-- sameItems, of any items. -/
def SgC (fn : FuncId) (xs ys : List It) (b : Bool) : Prop := ∀ (W : World) (A B : Option Addr) (c c' : Nat), ItemsIn W A xs → ItemsIn W B ys → Calls Try.prog fn #[.slice A xs.length c, .slice B ys.length c'] W fun e w' => e = .returned (.bool b) ∧ Below W.heap.size W w'
theorem SgC.at {fn : FuncId} {xs ys : List It} {b : Bool} (h : SgC fn xs ys b) (W : World) {A B : Option Addr} {c c' : Nat} (h1 : ItemsIn W A xs) (h2 : ItemsIn W B ys) : Calls Try.prog fn #[.slice A xs.length c, .slice B ys.length c'] W fun e w' => e = .returned (.bool b) ∧ Below W.heap.size W w' := h W A B c c' h1 h2
/-- The first place that is n, counted from a number on. -/
def fnd (n : Int) : Nat → List Int → Option Nat
  | _, [] => none
  | k, x :: r => if x = n then some k else fnd n (k + 1) r
def fndK (o : Option Nat) : Int := match o with | some i => (i : Int) | none => 0
theorem fnd_drop {n : Int} {ts : List Int} {j : Nat} (hj : j < ts.length) : fnd n j (ts.drop j) = if ts[j] = n then some j else fnd n (j + 1) (ts.drop (j + 1)) := by
  rw [List.drop_eq_getElem_cons hj, fnd]
/-- Is i no place where an item can be put in? -/
def aftNo (ts : List Int) (n : Int) : Bool := decide (n < 0) || decide ((ts.length : Int) < n) || (decide (0 < n) && (decide (ts.getD (n - 1).toNat 0 < 0) || decide (1073741824 ≤ ts.getD (n - 1).toNat 0)))
/-- Where an item is put in ahead of line n, and an error. -/
def aftK (ts : List Int) (n : Int) : Int := if aftNo ts n = true then 0 else if 0 < n then ts.getD (n - 1).toNat 0 + 1 else 0
def aftE (ts : List Int) (n : Int) : Int := if aftNo ts n = true then 2 else 0
def FdC (fn : FuncId) (ts : List Int) (n k : Int) (b : Bool) : Prop := ∀ (W : World) (LA TA : Option Addr) (ln lc tc : Nat), IntsIn W TA ts → Calls Try.prog fn #[.agg #[.slice LA ln lc, .slice TA ts.length tc], .int .i64 n] W fun e w' => e = .returned (.tuple #[.int .i64 k, .bool b]) ∧ Below W.heap.size W w'
theorem FdC.at {fn : FuncId} {ts : List Int} {n k : Int} {b : Bool} (h : FdC fn ts n k b) (W : World) {LA TA : Option Addr} {ln lc tc : Nat} (h1 : IntsIn W TA ts) : Calls Try.prog fn #[.agg #[.slice LA ln lc, .slice TA ts.length tc], .int .i64 n] W fun e w' => e = .returned (.tuple #[.int .i64 k, .bool b]) ∧ Below W.heap.size W w' := h W LA TA ln lc tc h1
def AfC (fn : FuncId) (ts : List Int) (n k r : Int) : Prop := ∀ (W : World) (LA TA : Option Addr) (ln lc tc : Nat), IntsIn W TA ts → Calls Try.prog fn #[.agg #[.slice LA ln lc, .slice TA ts.length tc], .int .i64 n] W fun e w' => e = .returned (.tuple #[.int .i64 k, .int .i64 r]) ∧ Below W.heap.size W w'
theorem AfC.at {fn : FuncId} {ts : List Int} {n k r : Int} (h : AfC fn ts n k r) (W : World) {LA TA : Option Addr} {ln lc tc : Nat} (h1 : IntsIn W TA ts) : Calls Try.prog fn #[.agg #[.slice LA ln lc, .slice TA ts.length tc], .int .i64 n] W fun e w' => e = .returned (.tuple #[.int .i64 k, .int .i64 r]) ∧ Below W.heap.size W w' := h W LA TA ln lc tc h1
theorem rin_is (ds : List Int) (hd : ds.length ≤ maxLen) : InC 21 ds := fun W A B c c' h1 h2 =>
  (rints_any A B c c' ds ds W hd h1 h2).mono fun e w' h => ⟨by rw [h.1, decide_eq_true rfl], h.2⟩
end Go.Proofs.Ytllgeffjkjdadaa.V
