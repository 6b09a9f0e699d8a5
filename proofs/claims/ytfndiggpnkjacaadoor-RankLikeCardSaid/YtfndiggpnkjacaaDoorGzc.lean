/-
  The contract of text.Name: it returns, whatever text it is handed, what the plain function says, and leaves the world as it was.
  The contracts of the reference's Number, Name and Decimal: they come to the same plain functions as the program's own.
  The contract of the reference's Decimal, by induction over the number.
  The contract of the reference's Lines: for all bytes of at most 2^22.
  The contracts of the reference's Right and Join: for all lines of a bulk of at most 2^22.
  What the laws of layer 5 ask of the functions that they call, in one form each.
  A map from lines to numbers, kept as the list of the lines that it knows, in the order of their numbers; the contract of intern's number.
  The contract of intern's number: the numbers of lines, those that are known going on.
  The contract of intern's Numbers: rows of numbers in memory.
-/
import Derived.Test.YtfndiggpnkjacaaDoorGza
import Derived.Test.YtfndiggpnkjacaaDoorGzb
import Derived.Deep.RegionWith
import Derived.Maps.OwnSet
import Derived.Maps.Views
import Derived.DeepKeys4
import Derived.WideKeyPair
namespace Go.Proofs.YtfndiggpnkjacaaDoor.T
open Go.RowKit

/-- May a text be a name? -/
theorem name_long (s : ByteArray) (h : s.size < 1 ∨ 64 < s.size) : P.name s.data.toList = false := by
  unfold P.name; rw [← Lib.size_eq]
  rcases h with h | h
  · rw [decide_eq_false (by omega)]; rfl
  · rw [decide_eq_false (p := s.size ≤ 64) (by omega), Bool.and_false]; rfl
theorem name_all (s : ByteArray) (h1 : 1 ≤ s.size) (h2 : s.size ≤ 64) : P.name s.data.toList = s.data.toList.all fun c => decide (33 ≤ c.toNat) && decide (c.toNat ≤ 126) := by
  unfold P.name; rw [← Lib.size_eq, decide_eq_true h1, decide_eq_true h2]; rfl
theorem all_bad (s : ByteArray) (k : Nat) (hk : k < s.size) (h : (s[k].toNat : Int) < 33 ∨ 126 < (s[k].toNat : Int)) : (s.data.toList.all fun c => decide (33 ≤ c.toNat) && decide (c.toNat ≤ 126)) = false := by
  have hl : k < s.data.toList.length := by rw [← Lib.size_eq]; exact hk
  rw [List.all_eq_false]
  refine ⟨s.data.toList[k], List.getElem_mem hl, ?_⟩
  rw [byte s k hk hl]
  simp only [Bool.and_eq_true, decide_eq_true_eq, not_and]
  omega

end Go.Proofs.YtfndiggpnkjacaaDoor.T

namespace Go.Proofs.YtfndiggpnkjacaaDoor.T
open Go.RowKit

theorem val_bad (s : ByteArray) (k n : Nat) (hk : k < s.size) (h : (s[k].toNat : Int) < 48 ∨ 57 < (s[k].toNat : Int)) : P.valGo (s.data.toList.drop k) n = none := by
  have hl : k < s.data.toList.length := by rw [← Lib.size_eq]; exact hk
  rw [List.drop_eq_getElem_cons hl, P.valGo, if_pos (by rw [byte s k hk hl]; omega)]
theorem val_on (s : ByteArray) (k n : Nat) (hk : k < s.size) (h1 : 48 ≤ (s[k].toNat : Int)) (h2 : (s[k].toNat : Int) ≤ 57) :
    P.valGo (s.data.toList.drop k) n = P.valGo (s.data.toList.drop (k + 1)) (10 * n + (s[k].toNat - 48)) := by
  have hl : k < s.data.toList.length := by rw [← Lib.size_eq]; exact hk
  have e := byte s k hk hl
  rw [List.drop_eq_getElem_cons hl, P.valGo, if_neg (by rw [e]; omega), e]
theorem val_end (s : ByteArray) (n : Nat) : P.valGo (s.data.toList.drop s.size) n = some n := by
  rw [Lib.size_eq, List.drop_length, P.valGo]
theorem pow_bound {n d k : Nat} (h : n < 10 ^ k) (hd : d < 10) (hk : k < 10) : 10 * n + d < 10 ^ (k + 1) ∧ 10 * n + d ≤ 9999999999 := by
  have h1 : 10 * n + d < 10 ^ (k + 1) := by rw [Nat.pow_succ]; omega
  have h2 : 10 ^ (k + 1) ≤ 10 ^ 10 := Nat.pow_le_pow_right (by omega) (by omega)
  omega
theorem number_val (s : ByteArray) (h : 0 < s.size) (h0 : s.size ≤ 1 ∨ ¬ s[0].toNat = 48) : P.number s.data.toList = P.upTo (P.valGo s.data.toList 0) := by
  rw [number_go s h (by rcases h0 with h0 | h0; exact .inl (by omega); exact .inr h0), P.numGo_val _ _ (by omega)]
theorem upTo_none : P.upTo none = none := rfl
theorem upTo_big (n : Nat) (h : 2147483647 < n) : P.upTo (some n) = none := by simp [P.upTo, h]
theorem upTo_in (n : Nat) (h : n ≤ 2147483647) : P.upTo (some n) = some n := by simp [P.upTo]; omega

end Go.Proofs.YtfndiggpnkjacaaDoor.T

namespace Go.Proofs.YtfndiggpnkjacaaDoor.T
open Go.RowKit

theorem bcell {W w1 : World} (hb : Below W.heap.size W w1) (b o : Nat) (h : b < W.heap.size) : w1.cell? ⟨b, o, none⟩ = W.cell? ⟨b, o, none⟩ := hb.cell (p := ⟨b, o, none⟩) h
theorem conv_one (c : UInt8) (W : World) (a : Nat) (h : W.cell? ⟨a, 0, none⟩ = some (.int .u8 (c.toNat : Int))) : (convert 40 9 (.slice (some ⟨a, 0, none⟩) 1 1)).run Tryd.prog W = .ok (.string ⟨#[c]⟩) W :=
  conv_bytes W a 0 1 1 [c] rfl (fun j hj => by
    match j, hj with
    | 0, _ => simpa using h)
theorem dec_small (m : Nat) (h : m < 10) : Lib.decDigits m = [UInt8.ofNat (48 + m)] := Lib.decDigits_one h
theorem dec_big (m : Nat) (h : ¬ m < 10) : Lib.decDigits m = Lib.decDigits (m / 10) ++ [UInt8.ofNat (48 + m % 10)] := by
  conv => lhs; rw [Lib.decDigits, dif_neg h]
theorem str_append (l r : List UInt8) : (⟨l.toArray⟩ : ByteArray) ++ ⟨r.toArray⟩ = ⟨(l ++ r).toArray⟩ := by
  apply ByteArray.ext
  simp

set_option maxHeartbeats 1000000 in
set_option maxRecDepth 100000 in
theorem refDecimal_in : ∀ (m : Nat) (w : World), m ≤ 2147483647 →
    Calls Tryd.prog 38 #[.int .i64 m] w fun e w' => e = .returned (.string ⟨(Lib.decDigits m).toArray⟩) ∧ Below w.heap.size w w' := by
  intro m
  induction m using Nat.strongRecOn with
  | ind m ih =>
    intro w hm
    have IH := Lib.hid ih
    clear ih
    by_cases h : m < 10
    · have HD := Lib.hid (dec_small m h)
      have hd := P.digit m h
      generalize UInt8.ofNat (48 + m) = c at *
      have hcv := conv_one c
      have hd' : (c.toNat : Int) = 48 + (m : Int) := by omega
      clear hd
      rw [hd'] at hcv
      clear hd'
      go_enter Tryd.func38, Tryd.ntmps38
      go_wp2_with fail
      go_ret
      exact ⟨ret_of (by rw [HD.out]; rfl), (Below.refl _ _).alloc (Nat.le_refl _) _⟩
    · have HD := Lib.hid (dec_big m h)
      have hd := P.digit (m % 10) (by omega)
      have ihq := IH.out (m / 10) (by omega)
      clear IH
      generalize UInt8.ofNat (48 + m % 10) = c at *
      have hln : (Lib.decDigits (m / 10)).length ≤ 10 := by
        have := P.decimal_length ((m / 10 : Nat) : Int)
        rwa [P.decimal_in _ (by omega) (by omega), Int.toNat_natCast] at this
      generalize Lib.decDigits (m / 10) = l at *
      have hadd : (⟨l.toArray⟩ : ByteArray).size + (⟨#[c]⟩ : ByteArray).size ≤ 9223372036854775807 := by
        rw [list_size]; show l.length + 1 ≤ _; omega
      have hcv := conv_one c
      have hd' : (c.toNat : Int) = IntKind.u8.wrap (IntKind.i64.wrap (48 + (m : Int).tmod 10)) := by
        rw [Int.tmod_eq_emod_of_nonneg (by omega), IntWalk.i64_in _ (by omega), IntKind.wrap_u8]; omega
      clear hd
      rw [hd'] at hcv
      clear hd'
      have IQ : Hid (∀ w : World, Calls Tryd.prog 38 #[.int .i64 (IntKind.i64.wrap ((m : Int) / 10))] w fun e w' => e = .returned (.string ⟨l.toArray⟩) ∧ Below w.heap.size w w') := Lib.hid fun w => by
        have := ihq w (by omega)
        rwa [show ((m / 10 : Nat) : Int) = IntKind.i64.wrap ((m : Int) / 10) by rw [IntWalk.i64_in _ (by omega)]; omega] at this
      clear ihq
      go_enter Tryd.func38, Tryd.ntmps38
      go_wp2_with fail
      go_region_with (go_at_call 38; with_reducible refine (IQ.out _).mono ?_; rintro e w' ⟨rfl, hbq⟩; have hbc := bcell hbq; have hbz := hbq.size)
      all_goals
        go_wp2_with fail
        go_ret
        refine ⟨ret_of (by rw [HD.out, ← str_append]; rfl), ?_⟩
        first
          | exact (((Below.refl w.heap.size w).drew).trans (hbq.mono (Nat.le_refl _))).alloc hbz _
          | exact (((Below.refl w.heap.size w).drew.alloc (Nat.le_refl _) _)).trans (hbq.mono (by simp))
          | exact (((Below.refl w.heap.size w).alloc (Nat.le_refl _) _).drew).trans (hbq.mono (by simp))

theorem refDecimal_any (n : Int) (w : World) :
    Calls Tryd.prog 38 #[.int .i64 n] w fun e w' => e = .returned (.string ⟨(P.decimal n).toArray⟩) ∧ Below w.heap.size w w' := by
  by_cases h0 : n < 0
  · have HD := Lib.hid (P.decimal_out n (.inl h0))
    go_enter Tryd.func38, Tryd.ntmps38
    go_wp2_with fail
    go_ret
    exact ⟨ret_of (by rw [HD.out]; rfl), Below.refl _ _⟩
  by_cases h1 : 2147483647 < n
  · have HD := Lib.hid (P.decimal_out n (.inr h1))
    go_enter Tryd.func38, Tryd.ntmps38
    go_wp2_with fail
    go_ret
    exact ⟨ret_of (by rw [HD.out]; rfl), Below.refl _ _⟩
  · obtain ⟨m, rfl⟩ := Int.eq_ofNat_of_zero_le (show 0 ≤ n by omega)
    rw [P.decimal_in _ (by omega) (by omega), Int.toNat_natCast]
    exact refDecimal_in m w (by omega)
end Go.Proofs.YtfndiggpnkjacaaDoor.T

namespace Go.Proofs.YtfndiggpnkjacaaDoor.T
open Go.RowKit

theorem lines_nl {l cur : List UInt8} {k : Nat} (hk : k < l.length) (h : l[k].toNat = 10) : P.lines cur (l.drop k) = (cur, false) :: P.lines [] (l.drop (k + 1)) := by
  rw [List.drop_eq_getElem_cons hk, P.lines, if_pos (UInt8.toNat_inj.1 h)]
theorem lines_more {l cur : List UInt8} {k : Nat} (hk : k < l.length) (h : ¬ l[k].toNat = 10) : P.lines cur (l.drop k) = P.lines (cur ++ [l[k]]) (l.drop (k + 1)) := by
  rw [List.drop_eq_getElem_cons hk, P.lines, if_neg (fun e => h (by rw [e]; rfl))]

end Go.Proofs.YtfndiggpnkjacaaDoor.T

namespace Go.Proofs.YtfndiggpnkjacaaDoor.T
open Go.RowKit

end Go.Proofs.YtfndiggpnkjacaaDoor.T

namespace Go.Proofs.YtfndiggpnkjacaaDoor.V
set_option linter.unusedVariables false
set_option linter.unusedSimpArgs false
open Go.RowKit
open T
open I (It Lb ItemsIn ItemsAt ItemsOk itCells itCells_snoc itCells_at items_cells own_at own_below alloc1)

def VoEnd (W : World) (ls : List (List UInt8 × Bool)) (ts : List Int) (e : Ending) (w' : World) : Prop :=
  ∃ LA lcap TA tcap, e = .returned (.agg #[.slice LA ls.length lcap, .slice TA ts.length tcap]) ∧ w'.ownsRow W.heap.size 44 2 (.slice LA ls.length lcap) ls.length (lineCells ls) ∧ w'.ownsRow W.heap.size 3 1 (.slice TA ts.length tcap) ts.length (numCells ts) ∧ Below W.heap.size W w'
theorem lines_own {w : World} {base : Nat} {A : Option Addr} {cap : Nat} {xs : List (List UInt8 × Bool)} (h : w.ownsRow base 44 2 (.slice A xs.length cap) xs.length (lineCells xs)) : LinesIn w A xs := by
  obtain ⟨A', cap', hv, _, hI⟩ := lines_of_own h
  injection hv with e1
  subst e1
  exact hI
/-- A row of a call's own stays when a cell of a block of another type is stored. -/
theorem own_stored {w : World} {base g i : Nat} {u : Value} {e e' : TypeId} {size n : Nat} {v : Value} {xs : List Value} {cs : Array Value} (h : w.ownsRow base e size v n xs) (hg : w.heap[g]? = some (.cells cs e' (0, 0))) (hne : e' ≠ e) : (w.setCell ⟨g, i, none⟩ u).ownsRow base e size v n xs :=
  h.kept (grown_set w ⟨g, i, none⟩ u) (own_ne h fun cs' he => by rw [hg] at he; injection he with he; injection he with _ he; exact hne he)
/-- Of: a view of these lines and places. -/
def VoC (fn : FuncId) (A : Option Addr) (n cap : Nat) (f0 : Int) (f1 : Nat) (hx : ByteArray) (l : List It) (ls : List (List UInt8 × Bool)) (ts : List Int) : Prop :=
  ∀ W : World, ItemsIn W A l → Calls Tryd.prog fn #[.slice A n cap, .agg #[.int .i64 f0, .int .u64 (f1 : Int)], .string hx] W (VoEnd W ls ts)
theorem VoC.at {fn : FuncId} {A : Option Addr} {n cap : Nat} {f0 : Int} {f1 : Nat} {hx : ByteArray} {l : List It} {ls : List (List UInt8 × Bool)} {ts : List Int} (h : VoC fn A n cap f0 f1 hx l ls ts) (W : World) (h1 : ItemsIn W A l) :
    Calls Tryd.prog fn #[.slice A n cap, .agg #[.int .i64 f0, .int .u64 (f1 : Int)], .string hx] W (VoEnd W ls ts) := h W h1
def LvC (fn : FuncId) : Prop := ∀ W : World, Calls Tryd.prog fn #[] W fun e w' => e = .returned (.bool true) ∧ Below W.heap.size W w'
theorem LvC.at {fn : FuncId} (h : LvC fn) (W : World) : Calls Tryd.prog fn #[] W fun e w' => e = .returned (.bool true) ∧ Below W.heap.size W w' := h W
/-- same, of two views of the same lines and places. -/
def SvC (fn : FuncId) (ls : List (List UInt8 × Bool)) (ts : List Int) : Prop := ∀ (W : World) (LA TA LB TB : Option Addr) (lc tc lc' tc' : Nat), LinesIn W LA ls → IntsIn W TA ts → LinesIn W LB ls → IntsIn W TB ts →
  Calls Tryd.prog fn #[.agg #[.slice LA ls.length lc, .slice TA ts.length tc], .agg #[.slice LB ls.length lc', .slice TB ts.length tc']] W fun e w' => e = .returned (.bool true) ∧ Below W.heap.size W w'
theorem SvC.at {fn : FuncId} {ls : List (List UInt8 × Bool)} {ts : List Int} (h : SvC fn ls ts) (W : World) {LA TA LB TB : Option Addr} {lc tc lc' tc' : Nat} (h1 : LinesIn W LA ls) (h2 : IntsIn W TA ts) (h3 : LinesIn W LB ls) (h4 : IntsIn W TB ts) :
  Calls Tryd.prog fn #[.agg #[.slice LA ls.length lc, .slice TA ts.length tc], .agg #[.slice LB ls.length lc', .slice TB ts.length tc']] W fun e w' => e = .returned (.bool true) ∧ Below W.heap.size W w' := h W LA TA LB TB lc tc lc' tc' h1 h2 h3 h4
def BsEnd (W : World) (b : List UInt8) (e : Ending) (w' : World) : Prop := ∃ A cap, e = .returned (.slice A b.length cap) ∧ BytesIn w' A b ∧ Below W.heap.size W w'
/-- Text, of a view. -/
def TxC (fn : FuncId) (ls : List (List UInt8 × Bool)) (b : List UInt8) : Prop := ∀ (W : World) (LA TA : Option Addr) (lc tn tc : Nat), LinesIn W LA ls → Calls Tryd.prog fn #[.agg #[.slice LA ls.length lc, .slice TA tn tc]] W (BsEnd W b)
theorem TxC.at {fn : FuncId} {ls : List (List UInt8 × Bool)} {b : List UInt8} (h : TxC fn ls b) (W : World) {LA TA : Option Addr} {lc tn tc : Nat} (h1 : LinesIn W LA ls) : Calls Tryd.prog fn #[.agg #[.slice LA ls.length lc, .slice TA tn tc]] W (BsEnd W b) := h W LA TA lc tn tc h1
/-- Join, of lines. -/
def JnC (fn : FuncId) (ls : List (List UInt8 × Bool)) (b : List UInt8) : Prop := ∀ (W : World) (LA : Option Addr) (lc : Nat), LinesIn W LA ls → Calls Tryd.prog fn #[.slice LA ls.length lc] W (BsEnd W b)
theorem JnC.at {fn : FuncId} {ls : List (List UInt8 × Bool)} {b : List UInt8} (h : JnC fn ls b) (W : World) {LA : Option Addr} {lc : Nat} (h1 : LinesIn W LA ls) : Calls Tryd.prog fn #[.slice LA ls.length lc] W (BsEnd W b) := h W LA lc h1
def NsEnd (W : World) (ds : List Int) (e : Ending) (w' : World) : Prop := ∃ A cap, e = .returned (.slice A ds.length cap) ∧ IntsIn w' A ds ∧ Below W.heap.size W w'
/-- IDs, of a view. -/
def IdC (fn : FuncId) (A : Option Addr) (n cap : Nat) (l : List It) (ts ds : List Int) : Prop := ∀ (W : World) (LA TA : Option Addr) (ln lc tc : Nat), ItemsIn W A l → IntsIn W TA ts → Calls Tryd.prog fn #[.slice A n cap, .agg #[.slice LA ln lc, .slice TA ts.length tc]] W (NsEnd W ds)
theorem IdC.at {fn : FuncId} {A : Option Addr} {n cap : Nat} {l : List It} {ts ds : List Int} (h : IdC fn A n cap l ts ds) (W : World) {LA TA : Option Addr} {ln lc tc : Nat} (h1 : ItemsIn W A l) (h2 : IntsIn W TA ts) :
    Calls Tryd.prog fn #[.slice A n cap, .agg #[.slice LA ln lc, .slice TA ts.length tc]] W (NsEnd W ds) := h W LA TA ln lc tc h1 h2
/-- Ints, of the same numbers. -/
def InC (fn : FuncId) (ds : List Int) : Prop := ∀ (W : World) (A B : Option Addr) (c c' : Nat), IntsIn W A ds → IntsIn W B ds → Calls Tryd.prog fn #[.slice A ds.length c, .slice B ds.length c'] W fun e w' => e = .returned (.bool true) ∧ Below W.heap.size W w'
theorem InC.at {fn : FuncId} {ds : List Int} (h : InC fn ds) (W : World) {A B : Option Addr} {c c' : Nat} (h1 : IntsIn W A ds) (h2 : IntsIn W B ds) : Calls Tryd.prog fn #[.slice A ds.length c, .slice B ds.length c'] W fun e w' => e = .returned (.bool true) ∧ Below W.heap.size W w' := h W A B c c' h1 h2
def IsEnd (W : World) (c : List It) (e : Ending) (w' : World) : Prop := ∃ A cap, e = .returned (.slice A c.length cap) ∧ ItemsIn w' A c ∧ Below W.heap.size W w'
/-- Cut. -/
def CuC (fn : FuncId) (A : Option Addr) (n cap : Nat) (f0 : Int) (f1 : Nat) (l c : List It) : Prop := ∀ W : World, ItemsIn W A l → Calls Tryd.prog fn #[.slice A n cap, .agg #[.int .i64 f0, .int .u64 (f1 : Int)]] W (IsEnd W c)
theorem CuC.at {fn : FuncId} {A : Option Addr} {n cap : Nat} {f0 : Int} {f1 : Nat} {l c : List It} (h : CuC fn A n cap f0 f1 l c) (W : World) (h1 : ItemsIn W A l) : Calls Tryd.prog fn #[.slice A n cap, .agg #[.int .i64 f0, .int .u64 (f1 : Int)]] W (IsEnd W c) := h W h1
/-- sameItems, of the same items. -/
def SiC (fn : FuncId) (ds : List It) : Prop := ∀ (W : World) (A B : Option Addr) (c c' : Nat), ItemsIn W A ds → ItemsIn W B ds → Calls Tryd.prog fn #[.slice A ds.length c, .slice B ds.length c'] W fun e w' => e = .returned (.bool true) ∧ Below W.heap.size W w'
theorem SiC.at {fn : FuncId} {ds : List It} (h : SiC fn ds) (W : World) {A B : Option Addr} {c c' : Nat} (h1 : ItemsIn W A ds) (h2 : ItemsIn W B ds) : Calls Tryd.prog fn #[.slice A ds.length c, .slice B ds.length c'] W fun e w' => e = .returned (.bool true) ∧ Below W.heap.size W w' := h W A B c c' h1 h2

/-- sameItems, of any items. -/
def SgC (fn : FuncId) (xs ys : List It) (b : Bool) : Prop := ∀ (W : World) (A B : Option Addr) (c c' : Nat), ItemsIn W A xs → ItemsIn W B ys → Calls Tryd.prog fn #[.slice A xs.length c, .slice B ys.length c'] W fun e w' => e = .returned (.bool b) ∧ Below W.heap.size W w'
theorem SgC.at {fn : FuncId} {xs ys : List It} {b : Bool} (h : SgC fn xs ys b) (W : World) {A B : Option Addr} {c c' : Nat} (h1 : ItemsIn W A xs) (h2 : ItemsIn W B ys) : Calls Tryd.prog fn #[.slice A xs.length c, .slice B ys.length c'] W fun e w' => e = .returned (.bool b) ∧ Below W.heap.size W w' := h W A B c c' h1 h2
/-- The first place that is n, counted from a number on. -/
def fnd (n : Int) : Nat → List Int → Option Nat
  | _, [] => none
  | k, x :: r => if x = n then some k else fnd n (k + 1) r
def fndK (o : Option Nat) : Int := match o with | some i => (i : Int) | none => 0
theorem fnd_drop {n : Int} {ts : List Int} {j : Nat} (hj : j < ts.length) : fnd n j (ts.drop j) = if ts[j] = n then some j else fnd n (j + 1) (ts.drop (j + 1)) := by
  rw [List.drop_eq_getElem_cons hj, fnd]
/-- Is i no place where an item can be put in? -/
def aftNo (ts : List Int) (n : Int) : Bool := decide (n < 0) || decide ((ts.length : Int) < n) || (decide (0 < n) && (decide (ts.getD (n - 1).toNat 0 < 0) || decide (1073741824 ≤ ts.getD (n - 1).toNat 0)))
/-- Where an item is put in ahead of line n, and an error. -/
def aftK (ts : List Int) (n : Int) : Int := if aftNo ts n = true then 0 else if 0 < n then ts.getD (n - 1).toNat 0 + 1 else 0
def aftE (ts : List Int) (n : Int) : Int := if aftNo ts n = true then 2 else 0
def FdC (fn : FuncId) (ts : List Int) (n k : Int) (b : Bool) : Prop := ∀ (W : World) (LA TA : Option Addr) (ln lc tc : Nat), IntsIn W TA ts → Calls Tryd.prog fn #[.agg #[.slice LA ln lc, .slice TA ts.length tc], .int .i64 n] W fun e w' => e = .returned (.tuple #[.int .i64 k, .bool b]) ∧ Below W.heap.size W w'
theorem FdC.at {fn : FuncId} {ts : List Int} {n k : Int} {b : Bool} (h : FdC fn ts n k b) (W : World) {LA TA : Option Addr} {ln lc tc : Nat} (h1 : IntsIn W TA ts) : Calls Tryd.prog fn #[.agg #[.slice LA ln lc, .slice TA ts.length tc], .int .i64 n] W fun e w' => e = .returned (.tuple #[.int .i64 k, .bool b]) ∧ Below W.heap.size W w' := h W LA TA ln lc tc h1
def AfC (fn : FuncId) (ts : List Int) (n k r : Int) : Prop := ∀ (W : World) (LA TA : Option Addr) (ln lc tc : Nat), IntsIn W TA ts → Calls Tryd.prog fn #[.agg #[.slice LA ln lc, .slice TA ts.length tc], .int .i64 n] W fun e w' => e = .returned (.tuple #[.int .i64 k, .int .i64 r]) ∧ Below W.heap.size W w'
theorem AfC.at {fn : FuncId} {ts : List Int} {n k r : Int} (h : AfC fn ts n k r) (W : World) {LA TA : Option Addr} {ln lc tc : Nat} (h1 : IntsIn W TA ts) : Calls Tryd.prog fn #[.agg #[.slice LA ln lc, .slice TA ts.length tc], .int .i64 n] W fun e w' => e = .returned (.tuple #[.int .i64 k, .int .i64 r]) ∧ Below W.heap.size W w' := h W LA TA ln lc tc h1
def SlC (ls : List (List UInt8 × Bool)) : Prop := ∀ (W : World) (A B : Option Addr) (c c' : Nat), LinesIn W A ls → LinesIn W B ls → Calls Tryd.prog 23 #[.slice A ls.length c, .slice B ls.length c'] W fun e w' => e = .returned (.bool true) ∧ Below W.heap.size W w'
theorem SlC.at {ls : List (List UInt8 × Bool)} (h : SlC ls) (W : World) {A B : Option Addr} {c c' : Nat} (h1 : LinesIn W A ls) (h2 : LinesIn W B ls) : Calls Tryd.prog 23 #[.slice A ls.length c, .slice B ls.length c'] W fun e w' => e = .returned (.bool true) ∧ Below W.heap.size W w' := h W A B c c' h1 h2

end Go.Proofs.YtfndiggpnkjacaaDoor.V

namespace Go.Proofs.YtfndiggpnkjacaaDoor.N
set_option linter.unusedVariables false
set_option linter.unusedSimpArgs false
open Go.RowKit Go.Maps
open T
open V (grown_of IntsIn numCells numCells_snoc ints_own drawn_below)
open I (alloc1 own_at own_below)

theorem alloc_at {w : World} {n : Nat} (o : Obj) (h : w.heap.size = n) : (w.alloc o).heap[n]? = some o := by subst h; exact heap_alloc_new w o
abbrev Ln := List UInt8 × Bool
/-- What a line reads as, as a key. -/
def lk (x : Ln) : Lit := .string (keyBytes [.string x.1, .bool x.2])
theorem lnLaw : Keyed Tryd.prog 44 := Keyed.of_law (deep_law_laid (m := 3) (by kernel_rfl) (by omega) (of_decide_eq_true (by kernel_rfl)) (by kernel_rfl) (by kernel_rfl))
theorem typesSome : ∃ m, Tryd.prog.types.size = m + 1 + 1 := ⟨Tryd.prog.types.size - 2, of_decide_eq_true (by kernel_rfl)⟩
theorem lnKT : Tryd.prog.keyType 44 = true := by kernel_rfl
theorem cLn : Tryd.prog.cellsOf 44 = 2 := by kernel_rfl
theorem cSt : Tryd.prog.cellsOf 9 = 1 := by kernel_rfl
theorem cBo : Tryd.prog.cellsOf 4 = 1 := by kernel_rfl
theorem lnKey {s : ByteArray} (b : Bool) (hs : s.size ≤ maxLen) : keyOf Tryd.prog 44 (.agg #[.string s, .bool b]) = some (lk (s.data.toList, b)) := by
  obtain ⟨m, hm⟩ := typesSome
  unfold keyOf
  simp only [Tryd.underlying44]
  rw [if_pos (by simp [lnKT, Value.formed, Tryd.underlying44, cLn]), hm]
  unfold Program.keyLits
  simp only [Tryd.underlying44, Value.cells]
  rw [if_pos ⟨by rw [cLn]; rfl, by simp⟩]
  simp [cSt, cBo, Program.keyLits, Tryd.underlying9, Tryd.underlying4, hs, lk]
set_option maxRecDepth 100000 in
theorem lk_inj {x y : Ln} (hx : x.1.length ≤ maxLen) (hy : y.1.length ≤ maxLen) (h : lk x = lk y) : x = y := by
  obtain ⟨x1, x2⟩ := x
  obtain ⟨y1, y2⟩ := y
  have e1 : keyOf Tryd.prog 44 (.agg #[.string ⟨x1.toArray⟩, .bool x2]) = some (lk (x1, x2)) := by
    have := lnKey (s := ⟨x1.toArray⟩) x2 (by rw [list_size]; exact hx)
    rwa [list_data] at this
  have e2 : keyOf Tryd.prog 44 (.agg #[.string ⟨y1.toArray⟩, .bool y2]) = some (lk (y1, y2)) := by
    have := lnKey (s := ⟨y1.toArray⟩) y2 (by rw [list_size]; exact hy)
    rwa [list_data] at this
  rw [h] at e1
  have := lnLaw.inj e1 e2
  simp only [Value.agg.injEq, Array.mk.injEq, List.cons.injEq, Value.string.injEq, Value.bool.injEq, and_true, ByteArray.mk.injEq] at this
  exact Prod.ext this.1 this.2

/-- Block mb is a map from lines to numbers that knows these lines, in the order of their numbers. -/
structure KnI (w : World) (mb : Nat) (ks : List Ln) (D : DataW Unit) : Prop where
  own : w.ownsMap Tryd.prog 44 (plainElem Tryd.prog 3) mb ks.length D
  tidy : Tidy D
  has : ∀ x : Ln, x.1.length ≤ maxLen → Maps.has D (lk x) = decide (x ∈ ks)
  at_ : ∀ x : Ln, x.1.length ≤ maxLen → x ∈ ks → D.atKey (lk x) (.lit (.int .i64 0)) = .lit (.int .i64 (ks.idxOf x : Nat))
  size : Maps.size D = ks.length
def Kn (w : World) (mb : Nat) (ks : List Ln) : Prop := ∃ D, KnI w mb ks D
theorem Kn.start (w : World) : Kn (w.alloc (.map #[] 0)) w.heap.size [] :=
  ⟨.map [], ⟨World.ownsMap_made _ _ _ _, ⟨[], rfl, .nil⟩, fun _ _ => rfl, fun _ _ h => (by cases h), rfl⟩⟩
theorem Kn.kept {w w' : World} {mb : Nat} {ks : List Ln} {row : Option Nat} (h : Kn w mb ks) (hg : w.grownBy w' row) (hne : some mb ≠ row) : Kn w' mb ks := by
  obtain ⟨D, h1, h2, h3, h4, h5⟩ := h
  exact ⟨D, h1.kept hg hne, h2, h3, h4, h5⟩
theorem Kn.lt {w : World} {mb : Nat} {ks : List Ln} (h : Kn w mb ks) : mb < w.heap.size := by
  obtain ⟨D, h1, _⟩ := h
  exact h1.lt
theorem Kn.below {w w' : World} {mb : Nat} {ks : List Ln} (h : Kn w mb ks) (hb : Below w.heap.size w w') : Kn w' mb ks := h.kept (grown_of hb none) (by simp)
theorem Kn.notCells {w : World} {mb : Nat} {ks : List Ln} (h : Kn w mb ks) {g : Nat} {cs : Array Value} {t : TypeId} {z : Nat × Nat} (hc : w.heap[g]? = some (.cells cs t z)) : g ≠ mb := by
  obtain ⟨D, ⟨⟨es, _, hb, _⟩, _⟩⟩ := h
  rintro rfl
  rw [hb] at hc
  cases hc
theorem KnI.put {w w' : World} {mb : Nat} {ks : List Ln} {D : DataW Unit} (h : KnI w mb ks D) {x : Ln} (hx : x.1.length ≤ maxLen) (hn : x ∉ ks) (hall : ∀ y ∈ ks, y.1.length ≤ maxLen)
    (ho : w'.ownsMap Tryd.prog 44 (plainElem Tryd.prog 3) mb (ks.length + 1) (D.put (lk x) (.lit (.int .i64 (ks.length : Nat))))) : Kn w' mb (ks ++ [x]) := by
  have hk : WideAt.IsKeyLit (lk x) := trivial
  refine ⟨_, by rw [List.length_append]; exact ho, ho.tidy lnLaw, fun y hy => ?_, fun y hy hm => ?_, ?_⟩
  · by_cases e : y = x
    · subst e
      rw [has_put_same h.tidy.isMap hk, decide_eq_true (by simp)]
    · rw [has_put_other (fun q => e (lk_inj hy hx q)), h.has y hy]
      simp [e]
  · by_cases e : y = x
    · subst e
      rw [atKey_put_same h.tidy.isMap hk, List.idxOf_append, if_neg hn]
      simp
    · have hyk : y ∈ ks := by simpa [e] using hm
      rw [atKey_put_other (fun q => e (lk_inj hy hx q)), h.at_ y hy hyk, List.idxOf_append, if_pos hyk]
  · rw [size_put h.tidy, h.has x hx, decide_eq_false hn, h.size]
    simp
end Go.Proofs.YtfndiggpnkjacaaDoor.N

namespace Go.Proofs.YtfndiggpnkjacaaDoor.N
set_option linter.unusedVariables false
set_option linter.unusedSimpArgs false
open Go.RowKit Go.Maps
open T
open V (grown_of IntsIn numCells numCells_snoc ints_own drawn_below)
open I (alloc1 own_at own_below)

/-- The lines that are known, one more being seen. -/
def add (ks : List Ln) (x : Ln) : List Ln := if x ∈ ks then ks else ks ++ [x]
def known (ks : List Ln) (l : List Ln) : List Ln := l.foldl add ks
def row : List Ln → List Ln → List Int
  | _, [] => []
  | ks, x :: r => ((add ks x).idxOf x : Nat) :: row (add ks x) r
theorem known_snoc (ks : List Ln) (l : List Ln) (x : Ln) : known ks (l ++ [x]) = add (known ks l) x := by simp [known]
theorem row_snoc : ∀ (l ks : List Ln) (x : Ln), row ks (l ++ [x]) = row ks l ++ [(((add (known ks l) x).idxOf x : Nat) : Int)]
  | [], ks, x => by simp [row, known]
  | y :: r, ks, x => by
    rw [List.cons_append, row, row, row_snoc r (add ks y) x, List.cons_append]
    rfl
theorem row_length : ∀ (l ks : List Ln), (row ks l).length = l.length
  | [], _ => rfl
  | x :: r, ks => by rw [row, List.length_cons, row_length r, List.length_cons]
theorem add_length (ks : List Ln) (x : Ln) : (add ks x).length ≤ ks.length + 1 := by unfold add; split <;> simp
theorem known_length : ∀ (l ks : List Ln), (known ks l).length ≤ ks.length + l.length
  | [], ks => Nat.le_refl _
  | x :: r, ks => by
    have := known_length r (add ks x)
    have := add_length ks x
    show (known (add ks x) r).length ≤ _
    rw [List.length_cons]
    omega
theorem add_mem {ks : List Ln} {x : Ln} : x ∈ add ks x := by unfold add; split <;> simp [*]
theorem add_all {P : Ln → Prop} {ks : List Ln} {x : Ln} (h : ∀ y ∈ ks, P y) (hx : P x) : ∀ y ∈ add ks x, P y := fun y hy => by
  unfold add at hy
  split at hy
  · exact h y hy
  · rcases List.mem_append.1 hy with hy | hy
    · exact h y hy
    · simp at hy; subst hy; exact hx
theorem known_all {P : Ln → Prop} : ∀ (l : List Ln) {ks : List Ln}, (∀ y ∈ ks, P y) → (∀ y ∈ l, P y) → ∀ y ∈ known ks l, P y
  | [], _, h, _ => h
  | x :: r, _, h, h' => known_all r (add_all h (h' x (by simp))) (fun y hy => h' y (by simp [hy]))
theorem known_take {ks l : List Ln} {k : Nat} (hk : k < l.length) : known ks (l.take (k + 1)) = add (known ks (l.take k)) l[k] := by
  rw [List.take_succ_eq_append_getElem hk, known_snoc]
theorem row_take {ks l : List Ln} {k : Nat} (hk : k < l.length) : row ks (l.take (k + 1)) = row ks (l.take k) ++ [(((add (known ks (l.take k)) l[k]).idxOf l[k] : Nat) : Int)] := by
  rw [List.take_succ_eq_append_getElem hk, row_snoc]
theorem cell_grown {w w' : World} {row : Option Nat} (hg : w.grownBy w' row) {bk o : Nat} {v : Value} (hc : w.cell? ⟨bk, o, none⟩ = some v) (hne : some bk ≠ row) : w'.cell? ⟨bk, o, none⟩ = some v := by
  have hlt := World.block_lt_of_cell? w ⟨bk, o, none⟩ hc
  rw [← hc]
  simp only [World.cell?, hg.block bk hlt hne]
theorem Kn.noCell {w : World} {mb : Nat} {ks : List Ln} (h : Kn w mb ks) {g o : Nat} {v : Value} (hc : w.cell? ⟨g, o, none⟩ = some v) : g ≠ mb := by
  obtain ⟨D, ⟨⟨es, _, hb, _⟩, _⟩⟩ := h
  rintro rfl
  simp [World.cell?, hb] at hc
theorem zeroI (w : World) : (zeroValue 3).run Tryd.prog w = .ok (.int .i64 0) w := by kernel_rfl

theorem Kn.row {w : World} {mb : Nat} {ks : List Ln} (h : Kn w mb ks) {base : Nat} {e : TypeId} {size n : Nat} {v : Value} {xs : List Value} (ho : w.ownsRow base e size v n xs) : v.ownBlock ≠ some mb := by
  rcases ho.2 with ⟨rfl, _⟩ | ⟨g, cap, cur, rfl, _, hg, _⟩
  · simp [Value.ownBlock]
  · simp only [Value.ownBlock, ne_eq, Option.some.injEq]; exact h.notCells hg
set_option maxRecDepth 100000 in
set_option maxHeartbeats 4000000 in
theorem number_any (A : Option Addr) (cap : Nat) (l ks : List Ln) (mb : Nat) (w : World) (hA : LinesIn w A l) (hm : Kn w mb ks) (hks : ∀ y ∈ ks, y.1.length ≤ maxLen) (hls : ∀ y ∈ l, y.1.length ≤ maxLen) (hb : ks.length + l.length ≤ 1000000) :
    Calls Tryd.prog 51 #[.slice A l.length cap, .map (some mb)] w fun e w' => (∃ v, e = .returned v ∧ w'.ownsRow w.heap.size 3 1 v (row ks l).length (numCells (row ks l))) ∧ Kn w' mb (known ks l) ∧ w.grownBy w' (some mb) := by
  obtain ⟨i0, hi0, hz0, hz1, hz2⟩ := info_parts L.infoInt
  have HA := Lib.hid hA
  have HKS := Lib.hid hks
  have HLS := Lib.hid hls
  have hml := hm.lt
  clear hA hks hls
  go_enter Tryd.func51, Tryd.ntmps51
  go_wp2_with fail
  go_loopg [5, 12] l.length (fun m v i wr => ∃ (k : Nat) (ys : List Int), k ≤ l.length ∧ i = .int .i64 k ∧ l.length - k ≤ m ∧ wr.ownsRow w.heap.size 3 1 v ys.length (numCells ys) ∧ w.grownBy wr (some mb) ∧ ys.length = k ∧ Kn wr mb (known ks (l.take k)) ∧ Hid (ys = row ks (l.take k)))
  case atStart => exact ⟨0, [], Nat.zero_le _, rfl, by omega, World.ownsRow_nil _ _ _ _, ⟨rfl, rfl, rfl, Nat.le_refl _, fun _ _ _ => rfl⟩, rfl, by simpa [known] using hm, Lib.hid (by simp [row])⟩
  case round =>
    obtain ⟨k, ys, hk, rfl, hmm, hown, hgr, hyl, hkn, HY⟩ := hrel
    by_cases hlt : k < l.length
    · obtain ⟨bk, off, hAe, hbk, hI⟩ := HA.out (by omega)
      subst hAe
      obtain ⟨q0, q1⟩ := hI k hlt
      have c0 := cell_grown hgr q0 (by simp only [ne_eq, Option.some.injEq]; exact hm.noCell q0)
      have c1 := cell_grown hgr q1 (by simp only [ne_eq, Option.some.injEq]; exact hm.noCell q0)
      have HN := Lib.hid (row_take (ks := ks) hlt)
      have HK := Lib.hid (known_take (ks := ks) hlt)
      rw [← HY.out] at HN
      have hxl := HLS.out _ (List.getElem_mem hlt)
      have hkl : (known ks (l.take k)).length ≤ ks.length + k := by
        have := known_length (l.take k) ks
        rw [List.length_take] at this
        omega
      have hall : ∀ y ∈ known ks (l.take k), y.1.length ≤ maxLen := known_all _ HKS.out (fun y hy => HLS.out y (List.mem_of_mem_take hy))
      have h0k : (0 : Int) ≤ (k : Int) := by omega
      have hki : (k : Int) < (l.length : Int) := by omega
      obtain ⟨x, hx⟩ : ∃ x, x = l[k] := ⟨_, rfl⟩
      obtain ⟨kk, hkk⟩ : ∃ kk, kk = known ks (l.take k) := ⟨_, rfl⟩
      rw [← hx] at c0 c1 HN HK hxl
      rw [← hkk] at HN HK hkn hkl hall
      clear hx hkk hI q0 q1
      obtain ⟨tx, bb⟩ := x
      obtain ⟨s, hs⟩ : ∃ s : ByteArray, s = ⟨tx.toArray⟩ := ⟨_, rfl⟩
      simp only at c0 c1 hxl
      rw [← hs] at c0
      have hsl : s.size ≤ maxLen := by rw [hs, list_size]; exact hxl
      have hsd : s.data.toList = tx := by rw [hs, list_data]
      have HKEY := Lib.hid (lnKey bb hsl)
      rw [hsd] at HKEY
      have HXL := Lib.hid hxl
      have HALL := Lib.hid hall
      clear hs hsd hsl hxl hall
      have hmr := hkn.lt
      obtain ⟨D, hD⟩ := hkn
      obtain ⟨W1, hW1⟩ : ∃ W : World, W = wr.alloc (.cells #[.string s, .bool bb] 44) := ⟨_, rfl⟩
      have hb1 : Below wr.heap.size wr W1 := by rw [hW1]; exact alloc1 _ _
      have HX1 := Lib.hid (show W1.heap[wr.heap.size]? = some (.cells #[.string s, .bool bb] 44 (0, 0)) by rw [hW1]; exact heap_alloc_new wr _)
      have HD1 := Lib.hid (hD.own.kept (grown_of hb1 none) (by simp))
      have HOW := Lib.hid (own_below hown hb1)
      have hown0 := hown
      have HGR := Lib.hid (hgr.andThen (grown_of hb1 none) (fun j hj => by cases hj))
      clear hown
      by_cases hin : (tx, bb) ∈ kk
      · have HH := Lib.hid (show Maps.has D (lk (tx, bb)) = true by rw [hD.has _ HXL.out, decide_eq_true hin])
        have HAT := Lib.hid (hD.at_ _ HXL.out hin)
        have hadd : add kk (tx, bb) = kk := by unfold add; rw [if_pos hin]
        rw [hadd] at HN HK
        have HKN : Hid (Kn W1 mb kk) := Lib.hid ⟨D, HD1.out, hD.tidy, hD.has, hD.at_, hD.size⟩
        clear hadd hin
        obtain ⟨d, hd⟩ : ∃ d : Int, d = ((kk.idxOf (tx, bb) : Nat) : Int) := ⟨_, rfl⟩
        rw [← hd] at HN HAT
        clear hd
        have x0 := L.blk_cell HX1.out 0
        have x1 := L.blk_cell HX1.out 1
        simp only [List.getElem?_toArray, List.getElem?_cons_zero, List.getElem?_cons_succ] at x0 x1
        rw [hW1] at x0 x1 HD1
        rw [hW1] at HOW HKN HGR
        have HSZW := Lib.hid (show w.heap.size ≤ wr.heap.size from hgr.size)
        clear hW1
        go_wp2_with (first
          | (at_lookup; refine wpList_lookup_own_ok_int _ rfl _ _ 70 rfl 44 3 .i64 lnLaw Tryd.underlying70 Tryd.underlying3 (zeroI _) mb _ D rfl HD1.out _ _ rfl HKEY.out ?_; intro c hat hwc; rw [HH.out]; obtain rfl : d = c := (by simpa only [DataW.lit.injEq, Lit.int.injEq, true_and] using HAT.out.symm.trans hat); clear hat hwc)
          | (at_builtin; refine wpList_append_own _ rfl _ _ 46 rfl w.heap.size 3 i0 _ 1 8 Tryd.underlying46 hi0 hz0 hz1 hz2 rfl (by decide) _ ys.length (numCells ys) rfl (HOW.out.alloc _) ⟨_, 0, none⟩ 1 1 [.int .i64 d] rfl rfl (World.news_of_block (alloc_at _ (by simp))) (by intro u hu; simp at hu; rcases hu with rfl; rfl) (by simp only [maxLen]; omega) (by omega) (by have := HSZW.out; (simp; omega)) ?_; intro v' w4 hown4 hg4 _))
        have hgr4 : w.grownBy w4 (some mb) := (HGR.out.andThen (World.grownBy_alloc _ _ none) (fun j hj => by cases hj)).andThen hg4 (fun j ej => .inl (own_base HOW.out j ej))
        have hkn4 : Kn w4 mb kk := (HKN.out.kept (World.grownBy_alloc _ _ none) (by simp)).kept hg4 (fun e => Kn.row HKN.out HOW.out e.symm)
        rw [← numCells_snoc] at hown4
        have hl4 : (ys ++ [d]).length = k + 1 := by simp [hyl]
        rw [show ys.length + 1 = (ys ++ [d]).length by simp] at hown4
        clear hg4
        go_roundg (l.length - (k + 1))
        case rel => exact ⟨k + 1, ys ++ [d], by omega, by go_num, Nat.le_refl _, hown4, hgr4, hl4, by rw [HK.out]; exact hkn4, Lib.hid (by rw [HN.out])⟩
        case measure => omega
      · have HH := Lib.hid (show Maps.has D (lk (tx, bb)) = false by rw [hD.has _ HXL.out, decide_eq_false hin])
        have HSZ := Lib.hid hD.size
        have HMR := Lib.hid (Kn.row ⟨D, hD⟩ hown0)
        have hadd : add kk (tx, bb) = kk ++ [(tx, bb)] := by unfold add; rw [if_neg hin]
        rw [hadd] at HN HK
        obtain ⟨d, hd⟩ : ∃ d : Int, d = ((kk.length : Nat) : Int) := ⟨_, rfl⟩
        have hix : (((kk ++ [(tx, bb)]).idxOf (tx, bb) : Nat) : Int) = d := by rw [List.idxOf_append, if_neg hin, hd]; simp
        rw [hix] at HN
        have HDD := Lib.hid hd
        have HPUT := Lib.hid (fun (w2 : World) (ho : w2.ownsMap Tryd.prog 44 (plainElem Tryd.prog 3) mb (kk.length + 1) (D.put (lk (tx, bb)) (.lit (.int .i64 (kk.length : Nat))))) => hD.put HXL.out hin HALL.out ho)
        have hwf : (Lit.int .i64 d).wf = true := WalkArith.wf_i64 (by rw [hd]; omega)
        rw [← hd] at HPUT
        clear hadd hin hd hix hD
        have x0 := L.blk_cell HX1.out 0
        have x1 := L.blk_cell HX1.out 1
        simp only [List.getElem?_toArray, List.getElem?_cons_zero, List.getElem?_cons_succ] at x0 x1
        rw [hW1] at x0 x1 HD1
        rw [hW1] at HOW HGR
        have HSZW := Lib.hid (show w.heap.size ≤ wr.heap.size from hgr.size)
        clear hW1
        go_wp2_with (first
          | (at_lookup; refine wpList_lookup_own_ok_int _ rfl _ _ 70 rfl 44 3 .i64 lnLaw Tryd.underlying70 Tryd.underlying3 (zeroI _) mb _ D rfl HD1.out _ _ rfl HKEY.out ?_; intro c hat hwc; rw [HH.out]; clear hat hwc)
          | (at_len; refine wpList_len_own _ rfl _ 70 rfl 44 3 Tryd.underlying70 _ mb _ D rfl HD1.out ?_; rw [HSZ.out, ← HDD.out])
          | (at_mapUpdate; refine wpList_mapUpdate_own _ rfl _ _ _ 70 rfl 44 3 lnLaw Tryd.underlying70 _ mb _ D rfl HD1.out (by unfold maxLen; omega) _ _ _ rfl rfl HKEY.out _ [] (plainElem_int Tryd.underlying3 hwf) ?_; intro w2 ho2 hg2; have HKN := Lib.hid (HPUT.out w2 ho2); have HOW2 := Lib.hid (HOW.out.kept hg2 (.inr HMR.out)); have HGR2 := Lib.hid (HGR.out.andThen hg2 (fun j hj => .inr hj)); have HS2 := Lib.hid hg2.size)
          | (at_builtin; refine wpList_append_own _ rfl _ _ 46 rfl w.heap.size 3 i0 _ 1 8 Tryd.underlying46 hi0 hz0 hz1 hz2 rfl (by decide) _ ys.length (numCells ys) rfl (HOW2.out.alloc _) ⟨_, 0, none⟩ 1 1 [.int .i64 d] rfl rfl (World.news_of_block (alloc_at _ (by simp))) (by intro u hu; simp at hu; rcases hu with rfl; rfl) (by simp only [maxLen]; omega) (by omega) (by have := HSZW.out; have h2 := HS2.out; (first | omega | (simp at h2; omega) | (simp at h2 ⊢; omega))) ?_; intro v' w4 hown4 hg4 _))
        have hgr4 : w.grownBy w4 (some mb) := (HGR2.out.andThen (World.grownBy_alloc _ _ none) (fun j hj => by cases hj)).andThen hg4 (fun j ej => .inl (own_base HOW2.out j ej))
        have hkn4 : Kn w4 mb (kk ++ [(tx, bb)]) := (HKN.out.kept (World.grownBy_alloc _ _ none) (by simp)).kept hg4 (fun e => Kn.row HKN.out HOW2.out e.symm)
        rw [← numCells_snoc] at hown4
        have hl4 : (ys ++ [d]).length = k + 1 := by simp [hyl]
        rw [show ys.length + 1 = (ys ++ [d]).length by simp] at hown4
        clear hg4
        go_roundg (l.length - (k + 1))
        case rel => exact ⟨k + 1, ys ++ [d], by omega, by go_num, Nat.le_refl _, hown4, hgr4, hl4, by rw [HK.out]; exact hkn4, Lib.hid (by rw [HN.out])⟩
        case measure => omega
    · obtain rfl : k = l.length := by omega
      have hy := HY.out
      rw [List.take_length] at hy hkn
      subst hy
      go_wp2_with fail
      go_ret
      exact ⟨⟨_, rfl, hown⟩, hkn, hgr⟩
end Go.Proofs.YtfndiggpnkjacaaDoor.N

namespace Go.Proofs.YtfndiggpnkjacaaDoor.N
set_option linter.unusedVariables false
set_option linter.unusedSimpArgs false
open Go.RowKit Go.Maps
open T
open V (grown_of IntsIn numCells numCells_snoc ints_own drawn_below)
open I (alloc1 own_at own_below)

/-- Lists of lines in memory. -/
def ListsAt (w : World) (bk off : Nat) (ls : List (List Ln)) : Prop :=
  ∀ j (h : j < ls.length), ∃ A c, w.cell? ⟨bk, off + j, none⟩ = some (.slice A ls[j].length c) ∧ LinesIn w A ls[j] ∧ ls[j].length ≤ c
def ListsIn (w : World) (A : Option Addr) (ls : List (List Ln)) : Prop :=
  0 < ls.length → ∃ bk off, A = some ⟨bk, off, none⟩ ∧ bk < w.heap.size ∧ ListsAt w bk off ls
theorem ListsIn.below {w w' : World} {A : Option Addr} {ls : List (List Ln)} (h : ListsIn w A ls) (hb : Below w.heap.size w w') : ListsIn w' A ls := fun hp => by
  obtain ⟨bk, off, e, hlt, hl⟩ := h hp
  refine ⟨bk, off, e, Nat.lt_of_lt_of_le hlt hb.size, fun j hj => ?_⟩
  obtain ⟨B, c, h1, h2, h3⟩ := hl j hj
  exact ⟨B, c, (hb.cell (p := ⟨bk, off + j, none⟩) hlt).trans h1, h2.below hb, h3⟩
/-- Rows of numbers, each in memory of its own: their values. -/
def Rws (w : World) (base : Nat) (vs : List Value) (rs : List (List Int)) : Prop :=
  vs.length = rs.length ∧ ∀ j (h : j < rs.length) (h' : j < vs.length), w.ownsRow base 3 1 vs[j] rs[j].length (numCells rs[j])
theorem Rws.nil (w : World) (base : Nat) : Rws w base [] [] := ⟨rfl, fun j h => by simp at h⟩
theorem Rws.snoc {w : World} {base : Nat} {vs : List Value} {rs : List (List Int)} (h : Rws w base vs rs) {v : Value} {r : List Int} (hv : w.ownsRow base 3 1 v r.length (numCells r)) : Rws w base (vs ++ [v]) (rs ++ [r]) := by
  refine ⟨by simp [h.1], fun j hj hj' => ?_⟩
  by_cases e : j < rs.length
  · have e' : j < vs.length := by rw [h.1]; exact e
    rw [List.getElem_append_left e', List.getElem_append_left e]
    exact h.2 j e e'
  · obtain rfl : j = rs.length := by simp at hj; omega
    rw [List.getElem_append_right (by rw [h.1]; exact Nat.le_refl _), List.getElem_append_right (Nat.le_refl _)]
    simpa [h.1] using hv
theorem Rws.kept {w w' : World} {base : Nat} {vs : List Value} {rs : List (List Int)} {row : Option Nat} (h : Rws w base vs rs) (hg : w.grownBy w' row) (hne : ∀ j (h : j < rs.length) (h' : j < vs.length), vs[j].ownBlock = none ∨ vs[j].ownBlock ≠ row) : Rws w' base vs rs :=
  ⟨h.1, fun j hj hj' => (h.2 j hj hj').kept hg (hne j hj hj')⟩
theorem Rws.below {w w' : World} {base : Nat} {vs : List Value} {rs : List (List Int)} (h : Rws w base vs rs) (hb : Below w.heap.size w w') : Rws w' base vs rs := ⟨h.1, fun j hj hj' => own_below (h.2 j hj hj') hb⟩
theorem Rws.more {w : World} {base base' : Nat} {vs : List Value} {rs : List (List Int)} (h : Rws w base vs rs) (hb : base' ≤ base) : Rws w base' vs rs := ⟨h.1, fun j hj hj' => own_more (h.2 j hj hj') hb⟩
def numsAll : List Ln → List (List Ln) → List (List Int)
  | _, [] => []
  | ks, l :: r => row ks l :: numsAll (known ks l) r
def knownAll (ks : List Ln) (ls : List (List Ln)) : List Ln := ls.foldl known ks
theorem numsAll_snoc : ∀ (ls : List (List Ln)) (ks : List Ln) (l : List Ln), numsAll ks (ls ++ [l]) = numsAll ks ls ++ [row (knownAll ks ls) l]
  | [], ks, l => rfl
  | x :: r, ks, l => by rw [List.cons_append, numsAll, numsAll, numsAll_snoc r (known ks x) l]; rfl
theorem knownAll_snoc (ls : List (List Ln)) (ks : List Ln) (l : List Ln) : knownAll ks (ls ++ [l]) = known (knownAll ks ls) l := by simp [knownAll]
theorem numsAll_take {ls : List (List Ln)} {ks : List Ln} {k : Nat} (hk : k < ls.length) : numsAll ks (ls.take (k + 1)) = numsAll ks (ls.take k) ++ [row (knownAll ks (ls.take k)) ls[k]] := by
  rw [List.take_succ_eq_append_getElem hk, numsAll_snoc]
theorem knownAll_take {ls : List (List Ln)} {ks : List Ln} {k : Nat} (hk : k < ls.length) : knownAll ks (ls.take (k + 1)) = known (knownAll ks (ls.take k)) ls[k] := by
  rw [List.take_succ_eq_append_getElem hk, knownAll_snoc]
theorem numsAll_length : ∀ (ls : List (List Ln)) (ks : List Ln), (numsAll ks ls).length = ls.length
  | [], _ => rfl
  | l :: r, ks => by rw [numsAll, List.length_cons, numsAll_length r, List.length_cons]
theorem knownAll_length : ∀ (ls : List (List Ln)) (ks : List Ln), (∀ l ∈ ls, l.length ≤ 60) → (knownAll ks ls).length ≤ ks.length + 60 * ls.length
  | [], ks, _ => Nat.le_refl _
  | l :: r, ks, h => by
    have := knownAll_length r (known ks l) (fun y hy => h y (by simp [hy]))
    have := known_length l ks
    have := h l (by simp)
    show (knownAll (known ks l) r).length ≤ _
    rw [List.length_cons]
    omega
theorem knownAll_all {P : Ln → Prop} : ∀ (ls : List (List Ln)) {ks : List Ln}, (∀ y ∈ ks, P y) → (∀ l ∈ ls, ∀ y ∈ l, P y) → ∀ y ∈ knownAll ks ls, P y
  | [], _, h, _ => h
  | l :: r, _, h, h' => knownAll_all r (known_all l h (h' l (by simp))) (fun m hm => h' m (by simp [hm]))
theorem infoRow : (Tryd.prog.info? 46).map (fun i => (i.zero, i.size, i.bytes)) = some (some (.slice none 0 0), 1, 24) := by kernel_rfl
theorem lines_grown {w w' : World} {mb : Nat} {A : Option Addr} {l : List Ln} (h : LinesIn w A l) (hg : w.grownBy w' (some mb)) {ks : List Ln} (hk : Kn w mb ks) : LinesIn w' A l := fun hp => by
  obtain ⟨bk, off, e, hlt, hl⟩ := h hp
  exact ⟨bk, off, e, Nat.lt_of_lt_of_le hlt hg.size, fun j hj => ⟨cell_grown hg (hl j hj).1 (by simp only [ne_eq, Option.some.injEq]; exact hk.noCell (hl j hj).1), cell_grown hg (hl j hj).2 (by simp only [ne_eq, Option.some.injEq]; exact hk.noCell (hl j hj).1)⟩⟩
/-- Numbers: a row of rows. -/
def NmEnd (W : World) (rs : List (List Int)) (e : Ending) (w' : World) : Prop := ∃ A cap vs, e = .returned (.slice A vs.length cap) ∧ w'.ownsRow W.heap.size 46 1 (.slice A vs.length cap) vs.length vs ∧ Rws w' W.heap.size vs rs ∧ Below W.heap.size W w'

set_option maxRecDepth 100000 in
set_option maxHeartbeats 4000000 in
theorem numbers_any (A : Option Addr) (cap : Nat) (ls : List (List Ln)) (w : World) (hA : ListsIn w A ls) (h5 : ls.length ≤ 5) (h60 : ∀ l ∈ ls, l.length ≤ 60) (hln : ∀ l ∈ ls, ∀ y ∈ l, y.1.length ≤ maxLen) :
    Calls Tryd.prog 40 #[.slice A ls.length cap] w (NmEnd w (numsAll [] ls)) := by
  obtain ⟨i0, hi0, hz0, hz1, hz2⟩ := info_parts infoRow
  have HA := Lib.hid hA
  have H60 := Lib.hid h60
  have HLN := Lib.hid hln
  clear hA h60 hln
  have hmm0 := @run_makeMap Tryd.prog
  obtain ⟨W0, hW0⟩ : ∃ W : World, W = w.alloc (.map #[] 0) := ⟨_, rfl⟩
  have HB0 := Lib.hid (show Below w.heap.size w W0 by rw [hW0]; exact alloc1 _ _)
  have HK0 := Lib.hid (show Kn W0 w.heap.size [] by rw [hW0]; exact Kn.start w)
  have HS0 := Lib.hid (show W0.heap.size = w.heap.size + 1 by rw [hW0]; simp)
  go_enter Tryd.func40, Tryd.ntmps40
  go_wp2_with fail
  rw [← hW0]
  clear hW0 hmm0
  obtain ⟨mb, hmb⟩ : ∃ mb, mb = w.heap.size := ⟨_, rfl⟩
  rw [← hmb] at HK0 HS0 ⊢
  have HMB := Lib.hid hmb
  clear hmb
  go_loopg [4, 10] ls.length (fun m v i wr => ∃ (k : Nat) (vs : List Value), k ≤ ls.length ∧ i = .int .i64 k ∧ ls.length - k ≤ m ∧ wr.ownsRow (mb + 1) 46 1 v vs.length vs ∧ Rws wr (mb + 1) vs (numsAll [] (ls.take k)) ∧ Kn wr mb (knownAll [] (ls.take k)) ∧ W0.grownBy wr (some mb) ∧ vs.length = k)
  case atStart => exact ⟨0, [], Nat.zero_le _, rfl, by omega, World.ownsRow_nil _ _ _ _, by simpa [numsAll] using Rws.nil W0 (mb + 1), by simpa [knownAll] using HK0.out, ⟨rfl, rfl, rfl, Nat.le_refl _, fun _ _ _ => rfl⟩, rfl⟩
  case round =>
    obtain ⟨k, vs, hk, rfl, hmm, hown, hrw, hkn, hgr, hvl⟩ := hrel
    by_cases hlt : k < ls.length
    · obtain ⟨bk, off, hAe, hbk, hI⟩ := HA.out (by omega)
      subst hAe
      obtain ⟨B, cB, q0, q1, q2⟩ := hI k hlt
      have q0' := (HB0.out.cell (p := ⟨bk, off + k, none⟩) hbk).trans q0
      have c0 := cell_grown hgr q0' (by simp only [ne_eq, Option.some.injEq]; exact HK0.out.noCell q0')
      have HLI := Lib.hid (lines_grown (q1.below HB0.out) hgr HK0.out)
      have HN := Lib.hid (numsAll_take (ks := []) hlt)
      have HKA := Lib.hid (knownAll_take (ks := []) hlt)
      have h0k : (0 : Int) ≤ (k : Int) := by omega
      have hki : (k : Int) < (ls.length : Int) := by omega
      have hkl := knownAll_length (ls.take k) [] (fun y hy => H60.out y (List.mem_of_mem_take hy))
      have hll := H60.out _ (List.getElem_mem hlt)
      have HCALL := Lib.hid (number_any B cB ls[k] (knownAll [] (ls.take k)) mb wr HLI.out hkn (knownAll_all _ (by simp) (fun y hy => HLN.out y (List.mem_of_mem_take hy))) (HLN.out _ (List.getElem_mem hlt)) (by rw [List.length_take] at hkl; simp at hkl; omega))
      clear hI q0 q0' q1 hkl
      obtain ⟨l, hl⟩ : ∃ l, l = ls[k] := ⟨_, rfl⟩
      rw [← hl] at c0 HN HKA HCALL hll
      clear hl
      have HOW := Lib.hid hown
      have HRW := Lib.hid hrw
      have HGR := Lib.hid hgr
      have HKN := Lib.hid hkn
      have hw0 : mb + 1 ≤ W0.heap.size := by rw [HS0.out]; exact Nat.le_refl _
      have hws := hgr.size
      clear hown hrw hgr hkn HLI
      go_wp2_with fail
      with_reducible refine (HCALL.out).mono ?_
      rintro e w1 ⟨⟨rv, rfl, hro⟩, hk1, hg1⟩
      obtain ⟨RA, rcap, rfl, -, -⟩ := own_form hro
      have HOW1 := Lib.hid (HOW.out.kept hg1 (.inr (Kn.row HKN.out HOW.out)))
      have HRW1 := Lib.hid (HRW.out.kept hg1 (fun j h h' => .inr (Kn.row HKN.out (HRW.out.2 j h h'))))
      have HGR1 := Lib.hid (HGR.out.andThen hg1 (fun j hj => .inr hj))
      have HK1 := Lib.hid hk1
      have HRO := Lib.hid (own_more hro (show mb + 1 ≤ wr.heap.size by omega))
      have hs1 := hg1.size
      clear hro hk1 hg1
      go_wp2_with (at_builtin; refine wpList_append_own _ rfl _ _ 48 rfl (mb + 1) 46 i0 _ 1 24 Tryd.underlying48 hi0 hz0 hz1 hz2 rfl (by decide) _ vs.length vs rfl (HOW1.out.alloc _) ⟨_, 0, none⟩ 1 1 [.slice RA (row (knownAll [] (ls.take k)) l).length rcap] rfl rfl (World.news_of_block (alloc_at _ rfl)) (by intro u hu; simp at hu; rcases hu with rfl; rfl) (by simp only [maxLen]; omega) (by omega) (by simp; omega) ?_; intro v' w4 hown4 hg4 _)
      have hb4 := World.grownBy_alloc w1 (.cells #[.slice RA (row (knownAll [] (ls.take k)) l).length rcap] 46) none
      have hrw4 : Rws w4 (mb + 1) (vs ++ [.slice RA (row (knownAll [] (ls.take k)) l).length rcap]) (numsAll [] (ls.take k) ++ [row (knownAll [] (ls.take k)) l]) :=
        (((HRW1.out.kept hb4 (fun j h h' => by cases (vs[j]).ownBlock <;> simp)).snoc (HRO.out.alloc _))).kept hg4 (fun j h h' => V.own_apart (e := 3) (e' := 46) (by decide) ((((HRW1.out.kept hb4 (fun j h h' => by cases (vs[j]).ownBlock <;> simp)).snoc (HRO.out.alloc _))).2 j h h') (HOW1.out.alloc (.cells #[.slice RA (row (knownAll [] (ls.take k)) l).length rcap] 46)))
      have hk4 : Kn w4 mb (known (knownAll [] (ls.take k)) l) := (HK1.out.kept hb4 (by simp)).kept hg4 (fun e => Kn.row HK1.out HOW1.out e.symm)
      have hg5 : W0.grownBy w4 (some mb) := (HGR1.out.andThen hb4 (fun j hj => by cases hj)).andThen hg4 (fun j ej => .inl (by have := own_base HOW1.out j ej; have := HS0.out; omega))
      clear hg4 hb4
      go_wp2_with fail
      go_roundg (ls.length - (k + 1))
      case rel => exact ⟨k + 1, vs ++ [.slice RA (row (knownAll [] (ls.take k)) l).length rcap], by omega, by go_num, Nat.le_refl _, by simpa using hown4, by rw [HN.out]; exact hrw4, by rw [HKA.out]; exact hk4, hg5, by simp [hvl]⟩
      case measure => omega
    · obtain rfl : k = ls.length := by omega
      rw [List.take_length] at hrw hkn
      obtain ⟨RA, rcap, rfl, -, -⟩ := own_form hown
      go_wp2_with fail
      go_ret
      refine ⟨RA, rcap, vs, rfl, own_more hown (by have := HMB.out; omega), hrw.more (by have := HMB.out; omega), ?_⟩
      exact HB0.out.grown hgr (by have := HS0.out; have := HMB.out; omega) (fun j hj => by cases hj; have := HMB.out; omega)
end Go.Proofs.YtfndiggpnkjacaaDoor.N
