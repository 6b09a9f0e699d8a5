/-
  What layer 4's live asks: plain facts, and the contracts of its calls.
  Layer 4's live: it returns true.
  What the laws of layer 4 ask of Parse, Print and Check, in one form each.
-/
import Derived.Test.YtadhhamfikpimaaDoorGii
import Derived.Test.YtadhhamfikpimaaDoorGie
import Derived.Test.YtadhhamfikpimaaDoorGd
import Derived.Lib.SlBytesConst
import Derived.Laws.OwnMore
import Derived.Laws.Closers25b
namespace Go.Proofs.YtadhhamfikpimaaDoor.I
set_option linter.unusedVariables false
set_option linter.unusedSimpArgs false
open Go.RowKit
open T

def lvText : List UInt8 := [64, 64, 32, 98, 101, 103, 105, 110, 32, 49, 10, 120, 10, 64, 64, 32, 101, 110, 100, 10, 64, 64, 64, 64, 32, 97, 10]
def lvItems : List It := [⟨1, 1, 0, false, [120], false⟩, ⟨2, 0, 0, false, [64, 64, 64, 32, 97], false⟩]
def lvQ : PV := ⟨16, 64, 9, 0, 9, 0, ⟨#[46, 46, 46]⟩, .slice none 0 0, .slice none 0 0⟩
theorem lv_one : L.parse [49] = some (1, 0) := by rw [← L.refP_parse]; decide
theorem lv_lines : P.lines [] lvText = [([64, 64, 32, 98, 101, 103, 105, 110, 32, 49], false), ([120], false), ([64, 64, 32, 101, 110, 100], false), ([64, 64, 64, 64, 32, 97], false)] := by decide
theorem lv_begin : take 16 64 1 (Ps.start (0, 0)) ([64, 64, 32, 98, 101, 103, 105, 110, 32, 49], false) = .inl ⟨[(1, 0), (0, 0)], [], 0⟩ := by
  have h : take 16 64 1 (Ps.start (0, 0)) (kBegin ++ [49], false) = begins 16 64 (Ps.start (0, 0)) [49] := take_begin _ _ _ _ _
  have e : ([64, 64, 32, 98, 101, 103, 105, 110, 32, 49] : List UInt8) = kBegin ++ [49] := rfl
  rw [e, h, begins, lv_one]; decide
theorem lv_parse : parse 16 64 (0, 0) lvText = .inl lvItems := by
  unfold parse
  rw [if_neg (by decide), lv_lines, readAll, takeAll, lv_begin]
  decide
theorem lv_print1 : L.print 1 0 = [49] := by
  have hc : L.catsTo 0 64 = [] := by decide
  unfold L.print
  rw [hc, if_pos rfl]
  exact L.dec_digit 1 (by omega)
theorem lv_print : print (0, 0) lvItems = .inl lvText := by
  have hc : check (0, 0) lvItems = 0 := by decide
  have hb : printBytes (0, 0) lvItems = lvText := by
    have e1 : opens [(0, 0)] (1, 0) = [kBegin ++ [49]] := by
      unfold opens
      rw [if_neg (by decide), lv_print1]
    unfold printBytes printLines lvItems
    rw [outOf, outOf, outOf]
    show P.join (plain (ends [(0, 0)] (1, 0) ++ (opens [(0, 0)] (1, 0) ++ _))) = _
    rw [e1]; decide
  unfold print
  rw [hc, hb, if_neg (by decide), if_neg (by decide), if_neg (by decide)]

def lvCells : Array Value := #[.int .u8 64, .int .u8 64, .int .u8 32, .int .u8 98, .int .u8 101, .int .u8 103, .int .u8 105, .int .u8 110, .int .u8 32, .int .u8 49, .int .u8 10, .int .u8 120, .int .u8 10, .int .u8 64, .int .u8 64, .int .u8 32, .int .u8 101, .int .u8 110, .int .u8 100, .int .u8 10, .int .u8 64, .int .u8 64, .int .u8 64, .int .u8 64, .int .u8 32, .int .u8 97, .int .u8 10]
theorem lv_cells : lvCells = (T.byteCells lvText).toArray := by rfl
set_option maxRecDepth 100000 in
set_option maxHeartbeats 1000000 in
theorem plain_call (w : World) : Calls Tryd.prog 34 #[] w fun e w' => e = .returned (.agg #[.int .i64 16, .int .i64 64, .int .i64 9, .int .i64 0, .int .i64 9, .int .i64 0, .string ⟨#[46, 46, 46]⟩, .slice none 0 0, .slice none 0 0]) ∧ Below w.heap.size w w' := by
  go_enter Tryd.func34, Tryd.ntmps34
  go_wp2_with fail
  refine bodyPost_ret (v := .agg #[.int .i64 16, .int .i64 64, .int .i64 9, .int .i64 0, .int .i64 9, .int .i64 0, .string ⟨#[46, 46, 46]⟩, .slice none 0 0, .slice none 0 0]) (by simp [results, Tryd.results34, go_sem]) rfl ⟨rfl, alloc1 _ _⟩
/-- Parse of a text whose items are known, by a policy without users. -/
theorem parse_known (A : Option Addr) (cap : Nat) (l : List UInt8) (its : List It) (fl : Lb) (hfl : fl.2 < 18446744073709551616) (w : World) (hA : BytesIn w A l) (hc : l.length ≤ cap) (hn : l.length ≤ maxLen) (hT : Tab w) (hp : parse 16 64 fl l = .inl its) :
    Calls Tryd.prog 31 #[.slice A l.length cap, .agg #[.int .i64 16, .int .i64 64, .int .i64 9, .int .i64 0, .int .i64 9, .int .i64 0, .string ⟨#[46, 46, 46]⟩, .slice none 0 0, .slice none 0 0], .agg #[.int .i64 fl.1, .int .u64 (fl.2 : Int)]] w fun e w' => ∃ A' cap', e = .returned (.tuple #[.slice A' its.length cap', .int .i64 0, .int .i64 0]) ∧ ItemsIn w' A' its ∧ Below w.heap.size w w' := by
  have h := parse_any A cap l lvQ ⟨none, none, 0, 0, 0, 0, rfl, rfl⟩ fl hfl w hA hc hn hT
  refine h.mono fun e w' he => ?_
  have hp' : parse lvQ.n0 lvQ.n1 fl l = .inl its := hp
  rw [hp'] at he
  obtain ⟨⟨iv, he, hown⟩, hb⟩ := he
  obtain ⟨A', cap', hiv, hI⟩ := items_of_own hown
  subst hiv
  exact ⟨A', cap', he, hI, hb⟩
theorem print_known (A : Option Addr) (cap : Nat) (l : List It) (b : List UInt8) (fl : Lb) (hfl : fl.2 < 18446744073709551616) (w : World) (hA : ItemsIn w A l) (hok : ItemsOk l) (hT : Tab w) (hp : print fl l = .inl b) :
    Calls Tryd.prog 25 #[.slice A l.length cap, .agg #[.int .i64 fl.1, .int .u64 (fl.2 : Int)]] w fun e w' => ∃ A' cap', e = .returned (.tuple #[.slice A' b.length cap', .int .i64 0]) ∧ BytesIn w' A' b ∧ b.length ≤ cap' ∧ Below w.heap.size w w' := by
  have h := print_any A cap l fl hfl w hA hok hT
  refine h.mono fun e w' he => ?_
  rw [hp] at he
  obtain ⟨hb, A', cap', he, hown⟩ := he
  obtain ⟨A2, cap2, hv, hc, hB⟩ := bytes_of_own hown
  injection hv with e1 e2 e3
  subst e1 e3
  exact ⟨A', cap', he, hB, hc, hb⟩
end Go.Proofs.YtadhhamfikpimaaDoor.I

namespace Go.Proofs.YtadhhamfikpimaaDoor.I
set_option linter.unusedVariables false
set_option linter.unusedSimpArgs false
open Go.RowKit
open T

theorem lv_bytes {w W : World} {fr : Nat × Nat} (h : W.heap[w.heap.size]? = some (.cells lvCells 5 fr)) : BytesIn W (some ⟨w.heap.size, 0, none⟩) lvText := fun _ => ⟨w.heap.size, 0, rfl, L.blk_lt h, fun j hj => by
    rw [Nat.zero_add, cell_of_row _ _ _ _ _ _ h, lv_cells]
    simp [T.byteCells, hj]⟩
theorem lv_ok : ItemsOk lvItems := ⟨by unfold maxLen; decide, by unfold maxLen; decide, by decide⟩
theorem lv_parseC (b : Nat) (w : World) (hA : BytesIn w (some ⟨b, 0, none⟩) lvText) (hT : Tab w) :
    Calls Tryd.prog 31 #[.slice (some ⟨b, 0, none⟩) 27 27, .agg #[.int .i64 16, .int .i64 64, .int .i64 9, .int .i64 0, .int .i64 9, .int .i64 0, .string ⟨#[46, 46, 46]⟩, .slice none 0 0, .slice none 0 0], .agg #[.int .i64 0, .int .u64 0]] w fun e w' => ∃ A' cap', e = .returned (.tuple #[.slice A' 2 cap', .int .i64 0, .int .i64 0]) ∧ ItemsIn w' A' lvItems ∧ Below w.heap.size w w' :=
  parse_known (some ⟨b, 0, none⟩) 27 lvText lvItems (0, 0) (by decide) w hA (by decide) (by unfold maxLen; decide) hT lv_parse
theorem lv_printC (A : Option Addr) (cap : Nat) (w : World) (hA : ItemsIn w A lvItems) (hT : Tab w) :
    Calls Tryd.prog 25 #[.slice A 2 cap, .agg #[.int .i64 0, .int .u64 0]] w fun e w' => ∃ A' cap', e = .returned (.tuple #[.slice A' 27 cap', .int .i64 0]) ∧ BytesIn w' A' lvText ∧ 27 ≤ cap' ∧ Below w.heap.size w w' :=
  print_known A cap lvItems lvText (0, 0) (by decide) w hA lv_ok hT lv_print
theorem lv_str : (⟨lvText.toArray⟩ : ByteArray) = ⟨#[64, 64, 32, 98, 101, 103, 105, 110, 32, 49, 10, 120, 10, 64, 64, 32, 101, 110, 100, 10, 64, 64, 64, 64, 32, 97, 10]⟩ := rfl
theorem lv_len : lvText.length = 27 := rfl
theorem lv_conv {w : World} {A : Option Addr} (cap : Nat) (h : BytesIn w A lvText) : (convert 22 9 (.slice A 27 cap)).run Tryd.prog w = .ok (.string ⟨#[64, 64, 32, 98, 101, 103, 105, 110, 32, 49, 10, 120, 10, 64, 64, 32, 101, 110, 100, 10, 64, 64, 64, 64, 32, 97, 10]⟩) w := by
  have := conv_in cap h
  rw [lv_str, lv_len] at this
  exact this
set_option maxRecDepth 100000 in
set_option maxHeartbeats 4000000 in
theorem live4 (w : World) (ht : Tab w) :
    Calls Tryd.prog 27 #[] w fun e w' => e = .returned (.bool true) ∧ Below w.heap.size w w' := by
  have kc := fun (w : World) (C : Array Value) (n c : Nat) => Lib.run_convert_bytes_const (P := Tryd.prog) w 22 5 C n c Tryd.underlying22 Tryd.underlying5
  obtain ⟨W0, hW0⟩ : ∃ W : World, W = w.alloc (.cells lvCells 5 (27, 28)) := ⟨_, rfl⟩
  have hb0 : Below w.heap.size w W0 := by rw [hW0]; exact alloc1 _ _
  have hx0 : W0.heap[w.heap.size]? = some (.cells lvCells 5 (27, 28)) := by rw [hW0]; exact heap_alloc_new w _
  have HB0 := Lib.hid hb0
  have HX0 := Lib.hid hx0
  have HT := Lib.hid ht
  clear hb0 hx0 ht
  unfold lvCells at hW0
  go_enter Tryd.func27, Tryd.ntmps27
  go_wp2_with fail
  rw [← hW0]
  clear hW0 kc
  with_reducible refine (plain_call _).mono ?_
  rintro e w1 ⟨rfl, hb1⟩
  have HB1 := Lib.hid (HB0.out.trans (hb1.mono HB0.out.size))
  have HPA := Lib.hid (lv_parseC _ w1 ((lv_bytes HX0.out).below hb1) (HT.out.later HB1.out))
  clear hb1 HB0 HX0
  go_wp2_with fail
  with_reducible refine (HPA.out).mono ?_
  rintro e w2 ⟨A2, cap2, rfl, hI2, hb2⟩
  have HB2 := Lib.hid (HB1.out.trans (hb2.mono HB1.out.size))
  have HI2 := Lib.hid hI2
  have HPR := Lib.hid (lv_printC A2 cap2 w2 hI2 (HT.out.later HB2.out))
  clear hI2 hb2 HPA HB1
  go_wp2_with fail
  with_reducible refine (HPR.out).mono ?_
  rintro e w3 ⟨A3, cap3, rfl, hB3, hc3, hb3⟩
  have HB3 := Lib.hid (HB2.out.trans (hb3.mono HB2.out.size))
  obtain ⟨bk, off, hAe, hbk, hI⟩ := (HI2.out.below hb3) (by decide)
  subst hAe
  have c1 : w3.cell? ⟨bk, off + 1, none⟩ = some (.int .i64 1) := (hI 0 (by decide)).2.1
  have c4 : w3.cell? ⟨bk, off + 4, none⟩ = some (.string ⟨#[120]⟩) := (hI 0 (by decide)).2.2.2.2.1
  have c10 : w3.cell? ⟨bk, off + 6 + 4, none⟩ = some (.string ⟨#[64, 64, 64, 32, 97]⟩) := (hI 1 (by decide)).2.2.2.2.1
  have hcv := lv_conv cap3 hB3
  clear hI hb3 hB3 HPR HB2 HI2
  go_wp2_with fail
  go_ret
  exact ⟨rfl, HB3.out⟩
end Go.Proofs.YtadhhamfikpimaaDoor.I

namespace Go.Proofs.YtadhhamfikpimaaDoor.I
set_option linter.unusedVariables false
set_option linter.unusedSimpArgs false
open Go.RowKit
open T
open O (own_ne grown_of grown_set ne_type)

/-- What Parse tells: the items (none at a fault), a line, an error. -/
def psIts (o : List It ⊕ (Nat × Nat)) : List It := match o with | .inl l => l | .inr _ => []
def psLine (o : List It ⊕ (Nat × Nat)) : Nat := match o with | .inl _ => 0 | .inr x => x.1
def psErr (o : List It ⊕ (Nat × Nat)) : Nat := match o with | .inl _ => 0 | .inr x => x.2
def PaC (A : Option Addr) (n cap : Nat) (q : PV) (fl : Lb) (o : List It ⊕ (Nat × Nat)) (w : World) : Prop :=
  Calls Tryd.prog 31 #[.slice A n cap, .agg #[.int .i64 q.n0, .int .i64 q.n1, .int .i64 q.n2, .int .i64 q.n3, .int .i64 q.n4, .int .i64 q.n5, .string q.hid, q.uv, q.fv], .agg #[.int .i64 fl.1, .int .u64 (fl.2 : Int)]] w fun e w' =>
    ∃ A' cap', e = .returned (.tuple #[.slice A' (psIts o).length cap', .int .i64 (psLine o : Int), .int .i64 (psErr o : Int)]) ∧ w'.ownsRow w.heap.size 53 6 (.slice A' (psIts o).length cap') (psIts o).length (itCells (psIts o)) ∧ Below w.heap.size w w'
theorem PaC.call {A : Option Addr} {n cap : Nat} {q : PV} {fl : Lb} {o : List It ⊕ (Nat × Nat)} {w : World} (h : PaC A n cap q fl o w) :
    Calls Tryd.prog 31 #[.slice A n cap, .agg #[.int .i64 q.n0, .int .i64 q.n1, .int .i64 q.n2, .int .i64 q.n3, .int .i64 q.n4, .int .i64 q.n5, .string q.hid, q.uv, q.fv], .agg #[.int .i64 fl.1, .int .u64 (fl.2 : Int)]] w fun e w' =>
    ∃ A' cap', e = .returned (.tuple #[.slice A' (psIts o).length cap', .int .i64 (psLine o : Int), .int .i64 (psErr o : Int)]) ∧ w'.ownsRow w.heap.size 53 6 (.slice A' (psIts o).length cap') (psIts o).length (itCells (psIts o)) ∧ Below w.heap.size w w' := h
def PolOk (q : PV) : Prop := ∃ (uA fA : Option Addr) (un uc fn fc : Nat), q.uv = .slice uA un uc ∧ q.fv = .slice fA fn fc
theorem pa_is (A : Option Addr) (cap : Nat) (l : List UInt8) (q : PV) (hq : PolOk q) (fl : Lb) (hfl : fl.2 < 18446744073709551616) (w : World) (hA : BytesIn w A l) (hc : l.length ≤ cap) (hn : l.length ≤ maxLen) (hT : Tab w) : PaC A l.length cap q fl (parse q.n0 q.n1 fl l) w :=
  (parse_any A cap l q hq fl hfl w hA hc hn hT).mono fun e w' he => by
    cases ho : parse q.n0 q.n1 fl l with
    | inl its =>
      rw [ho] at he
      obtain ⟨⟨iv, he, hown⟩, hb⟩ := he
      obtain ⟨A', cap', hv, _, _⟩ := own_form hown
      subst hv
      exact ⟨A', cap', he, hown, hb⟩
    | inr x =>
      rw [ho] at he
      exact ⟨none, 0, he.1, ⟨by simp [psIts, itCells], .inl ⟨rfl, rfl⟩⟩, he.2⟩
theorem parse_len {n0 n1 : Int} {fl : Lb} {l : List UInt8} : (psIts (parse n0 n1 fl l)).length ≤ 400 ∧ ItemsOk (psIts (parse n0 n1 fl l)) ∨ ¬ fl.2 < 18446744073709551616 := by
  by_cases hf : fl.2 < 18446744073709551616
  · left
    cases ho : parse n0 n1 fl l with
    | inr x => exact ⟨Nat.zero_le _, ⟨Nat.zero_le _, fun x hx => (by cases hx), fun x hx => (by cases hx)⟩⟩
    | inl its =>
      obtain ⟨s, i, g, rfl⟩ := parse_good ho
      refine ⟨g.len, by have := g.len; show s.its.length ≤ maxLen; unfold maxLen; omega, fun x hx => by have := (g.its x hx).2.2.1; unfold maxLen; omega, fun x hx => ?_⟩
      rcases (g.its x hx).2.1 with h | ⟨_, _, h⟩
      · rw [show x.ct = fl.2 from congrArg Prod.snd h]; exact hf
      · exact h
  · exact .inr hf

/-- What Print tells: the bytes (none at a fault), an error. -/
def prBytes (o : List UInt8 ⊕ Nat) : List UInt8 := match o with | .inl b => b | .inr _ => []
def prErr (o : List UInt8 ⊕ Nat) : Nat := match o with | .inl _ => 0 | .inr k => k
def PnC (A : Option Addr) (n cap : Nat) (fl : Lb) (o : List UInt8 ⊕ Nat) (w : World) : Prop :=
  Calls Tryd.prog 25 #[.slice A n cap, .agg #[.int .i64 fl.1, .int .u64 (fl.2 : Int)]] w fun e w' =>
    ∃ A' cap', e = .returned (.tuple #[.slice A' (prBytes o).length cap', .int .i64 (prErr o : Int)]) ∧ w'.ownsRow w.heap.size 5 1 (.slice A' (prBytes o).length cap') (prBytes o).length (T.byteCells (prBytes o)) ∧ Below w.heap.size w w'
theorem PnC.call {A : Option Addr} {n cap : Nat} {fl : Lb} {o : List UInt8 ⊕ Nat} {w : World} (h : PnC A n cap fl o w) :
    Calls Tryd.prog 25 #[.slice A n cap, .agg #[.int .i64 fl.1, .int .u64 (fl.2 : Int)]] w fun e w' =>
    ∃ A' cap', e = .returned (.tuple #[.slice A' (prBytes o).length cap', .int .i64 (prErr o : Int)]) ∧ w'.ownsRow w.heap.size 5 1 (.slice A' (prBytes o).length cap') (prBytes o).length (T.byteCells (prBytes o)) ∧ Below w.heap.size w w' := h
theorem pn_is (A : Option Addr) (cap : Nat) (l : List It) (fl : Lb) (hfl : fl.2 < 18446744073709551616) (w : World) (hA : ItemsIn w A l) (hok : ItemsOk l) (hT : Tab w) : PnC A l.length cap fl (print fl l) w :=
  (print_any A cap l fl hfl w hA hok hT).mono fun e w' he => by
    cases ho : print fl l with
    | inl b =>
      rw [ho] at he
      obtain ⟨hb, A', cap', he, hown⟩ := he
      exact ⟨A', cap', he, hown, hb⟩
    | inr k =>
      rw [ho] at he
      exact ⟨none, 0, he.2, ⟨by simp [prBytes, T.byteCells], .inl ⟨rfl, rfl⟩⟩, he.1⟩
theorem pr_len {fl : Lb} {l : List It} : (prBytes (print fl l)).length ≤ 32768 := by
  cases ho : print fl l with
  | inr x => exact Nat.zero_le _
  | inl b =>
    obtain ⟨_, _, h, rfl⟩ := print_inl ho
    exact h
def SmC (A A' : Option Addr) (n cap cap' : Nat) (w : World) : Prop := Calls Tryd.prog 32 #[.slice A n cap, .slice A' n cap'] w fun e w' => e = .returned (.bool true) ∧ Below w.heap.size w w'
theorem SmC.call {A A' : Option Addr} {n cap cap' : Nat} {w : World} (h : SmC A A' n cap cap' w) : Calls Tryd.prog 32 #[.slice A n cap, .slice A' n cap'] w fun e w' => e = .returned (.bool true) ∧ Below w.heap.size w w' := h
theorem items_own {w : World} {base : Nat} {A : Option Addr} {cap : Nat} {xs : List It} (h : w.ownsRow base 53 6 (.slice A xs.length cap) xs.length (itCells xs)) : ItemsIn w A xs := by
  obtain ⟨A', cap', hv, hI⟩ := items_of_own h
  injection hv with e1
  subst e1
  exact hI
theorem bytes_own {w : World} {base : Nat} {A : Option Addr} {cap : Nat} {xs : List UInt8} (h : w.ownsRow base 5 1 (.slice A xs.length cap) xs.length (T.byteCells xs)) : BytesIn w A xs ∧ xs.length ≤ cap := by
  obtain ⟨A', cap', hv, hc, hI⟩ := bytes_of_own h
  injection hv with e1 e2 e3
  subst e1 e3
  exact ⟨hI, hc⟩

theorem own_at {w : World} {base : Nat} {e : TypeId} {size n cap : Nat} {A : Option Addr} {xs : List Value} (h : w.ownsRow base e size (.slice A n cap) n xs) (hn : 0 < n) :
    ∃ g, A = some ⟨g, 0, none⟩ ∧ base ≤ g ∧ g < w.heap.size ∧ ∀ j u, xs[j]? = some u → w.cell? ⟨g, j, none⟩ = some u := by
  obtain ⟨A', cap', hv, _, hA⟩ := own_form h
  obtain ⟨g, hg, r⟩ := hA hn
  exact ⟨g, by rw [← hg]; exact (Value.slice.inj hv).1, r⟩
theorem own_below {w w' : World} {base : Nat} {e : TypeId} {size n : Nat} {v : Value} {xs : List Value} (h : w.ownsRow base e size v n xs) (hb : Below w.heap.size w w') : w'.ownsRow base e size v n xs := by
  refine h.kept (row := none) ⟨hb.os, hb.tape, hb.output, hb.size, fun k hk _ => hb.block k hk⟩ ?_
  cases v.ownBlock with
  | none => exact .inl rfl
  | some k => exact .inr (by simp)
/-- A row that lies behind a block stays when a cell ahead of it is stored. -/
theorem own_behind {w : World} {base g i : Nat} {u : Value} {e : TypeId} {size n : Nat} {v : Value} {xs : List Value} (h : w.ownsRow base e size v n xs) (hg : g < base) : (w.setCell ⟨g, i, none⟩ u).ownsRow base e size v n xs := by
  refine h.kept (grown_set w ⟨g, i, none⟩ u) ?_
  cases hv : v.ownBlock with
  | none => exact .inl rfl
  | some k => right; intro e'; have := own_base h k hv; injection e' with e'; simp only at e'; omega
theorem byteCells_set (l : List UInt8) (k : Nat) (c : UInt8) : T.byteCells (l.set k c) = (T.byteCells l).set k (.int .u8 (c.toNat : Int)) := by simp [T.byteCells, List.map_set]
theorem bits_byte (op : BinOp) (a b : Int) : ∃ c : UInt8, bits op .u8 a b = (c.toNat : Int) := by
  have h0 := bits_lo_u8 op a b
  have h1 := bits_hi_u8 op a b
  refine ⟨UInt8.ofNat (bits op .u8 a b).toNat, ?_⟩
  rw [UInt8.toNat_ofNat_of_lt' (by show (bits op .u8 a b).toNat < 256; omega)]
  omega
end Go.Proofs.YtadhhamfikpimaaDoor.I
