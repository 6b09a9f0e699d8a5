/-
  Two texts, and the hunks from the one to the other.
  A label read out of an argument; small facts for arguments of structs.
  An argument that is items, opened: its value, and what its cells hold.
  An argument that is a slice of integers, opened: its value, and what its cells hold.
  What the second form's bound on the bulk of the arguments gives: bounds on lengths.
  Arguments that are bytes or lines, opened: their values, what their cells hold, and a bound on them by their bulk.
  How long an argument's slices can be, by the reach of the form.
  Arguments that are edits, or lines with what room they have, opened.
-/
import Derived.Test.YtigghcmbdnidnaaGps
import Derived.Test.YtigghcmbdnidnaaGpt
import Derived.Test.YtigghcmbdnidnaaGpq
import Derived.Test.YtigghcmbdnidnaaGpd
import Derived.Test.YtigghcmbdnidnaaGpa
import Derived.Deep.Slices
import Derived.Deep.Strs
import Derived.Lib.SmallJoins
import Derived.Test.YtigghcmbdnidnaaRows
import Derived.Lib.Strings
import Derived.Deep.SlicePairs
import Derived.SizedLaws
import Derived.Test.YtigghcmbdnidnaaGpg
namespace Go.Proofs.Ytigghcmbdnidnaa.Pa
open Go.RowKit
open T S H
open V (grown_of drawn_below)
open I (alloc1 own_at own_below)
open N (Ln)
open M (Lv)

theorem tl_sides {es : List Ed} (h : Good3 es) : tl es ≤ (sd 3 es).length + (sd 2 es).length := by
  induction es with
  | nil => exact Nat.zero_le _
  | cons e r ih =>
    have ih := ih (fun x hx => h x (List.mem_cons_of_mem _ hx))
    rw [show e :: r = [e] ++ r from rfl, sd_app, sd_app, tl_app]
    obtain ⟨s, l⟩ := e
    rw [sd_one, sd_one, List.length_append, List.length_append]
    have e1 : tl [(s, l)] = l.length := by simp [tl]
    rw [e1]
    rcases h (s, l) (List.mem_cons_self ..) with q | q | q
    all_goals
      simp only at q
      subst q
      simp
      omega
theorem HksOk.of_ck {hs : List Hk} (h : hck hs = 0) : HksOk hs := by
  obtain ⟨h1, h2⟩ := hck_ok h
  exact ⟨by unfold maxLen; omega, fun x hx => EdsOk.of_ck (rgt_ck (chain_mem h2 x hx))⟩
/-- What is known of the hunks from one text to another. -/
structure PF (x y : List Ln) (es : List Ed) (hs : List Hk) : Prop where
  ok : EdsOk es
  ck : ck es = 0
  hk : hck hs = 0
  hok : HksOk hs
  rok : HksOk (rvs hs)
  rv : rev hs = (rvs hs, 0) ∧ rev (rvs hs) = (hs, 0)
  jl : tl (join hs) ≤ 2000000
  rjl : tl (join (rvs hs)) ≤ 2000000
  w2 : wgt 2 (join (rvs hs)) = wgt 3 (join hs)
  w3 : wgt 3 (join (rvs hs)) = wgt 2 (join hs)
  sum : y.length + wgt 2 (join hs) = x.length + wgt 3 (join hs)
  b2 : wgt 2 (join hs) ≤ 80
  b3 : wgt 3 (join hs) ≤ 80
  wh : whl hs x = (es, 0)
  tl : tl es ≤ 80
  len : es.length ≤ 80
  s2 : sd 2 es = y
theorem pf_of {x y : List Ln} {c : Nat} (hx : x.length ≤ 40) (hy : y.length ≤ 40) : PF x y (norm (mkE x y)) (bld c (norm (mkE x y))) := by
  have hk0 := mkE_ck (a := x) (b := y) (by omega) (by omega)
  obtain ⟨k1, k2, k3, k4⟩ := norm_ok hk0
  have nn := norm_norm hk0
  have nf := nf_norm (ck_ok hk0).2.2
  have s3 : sd 3 (norm (mkE x y)) = x := by rw [(norm_sides hk0).1, (mkE_sides x y).1]
  have s2 : sd 2 (norm (mkE x y)) = y := by rw [(norm_sides hk0).2, (mkE_sides x y).2]
  have ht : tl (norm (mkE x y)) ≤ 80 := by have := tl_sides k3; rw [s3, s2] at this; omega
  have hl : (norm (mkE x y)).length ≤ 80 := by have := full_len nf; omega
  generalize norm (mkE x y) = es at *
  have fw := fw_of (c := c) k1 (by omega) (by omega)
  rw [nn] at fw
  have hck := bld_ck (c := c) nf (by omega)
  have hch := (hck_ok hck).2
  have hrg := fun h hm => chain_mem hch h hm
  have hw := wgt_rvs hrg
  have htl := tl_rvs hrg
  have hjt := bld_tl (c := c) es
  have hsum := wgt_sides k3
  have b2 := wgt_le 2 es
  have b3 := wgt_le 3 es
  have e2 := bld_wgt (c := c) (d := 2) (by decide) es
  have e3 := bld_wgt (c := c) (d := 3) (by decide) es
  have hwh := whl_bld c k1 (by omega) (by omega)
  rw [nn, s3] at hwh
  rw [s2, s3] at hsum
  exact ⟨EdsOk.of_ck k1, k1, hck, fw.ok, HksOk.of_ck (rvs_ck hck), rev_rev hck, by omega, by rw [htl]; omega, hw.1, hw.2, by rw [e2, e3]; exact hsum, by omega, by omega, hwh, ht, hl, s2⟩
theorem c_rbld {es : List Ed} {c : Nat} (hok : EdsOk es) (hk : ck es = 0) (hn : norm es = es) (hc : c ≤ 20) : BdC 17 es (c : Int) (bld c es) 0 := fun w A cap hE => by
  have h := rbuild_good A cap es c w hE hok hk hc
  have nf := nf_norm (ck_ok hk).2.2
  rw [hn] at nf
  rw [hn, rbld_eq nf (ck_ok hk).2.1] at h
  exact h
/-- The reference's Right. -/
def RgC (l : List Ln) (v : Bool) : Prop := ∀ (w : World) (A : Option Addr) (c : Nat), LinesIn w A l → Calls Try.prog 18 #[.slice A l.length c] w fun e w' => e = .returned (.bool v) ∧ Below w.heap.size w w'
theorem RgC.at {l : List Ln} {v : Bool} (h : RgC l v) {w : World} {A : Option Addr} (c : Nat) (hL : LinesIn w A l) : Calls Try.prog 18 #[.slice A l.length c] w fun e w' => e = .returned (.bool v) ∧ Below w.heap.size w w' := h w A c hL
theorem c_rgt {l : List Ln} (hl : l.length ≤ 4194304) (ht : ∀ y ∈ l, y.1.length ≤ maxLen) : RgC l (P.right l) := fun w A c hL => (refRight_anyT A c l w hl ht hL).mono fun _ _ h => ⟨h.1, by rw [← h.2]; exact Below.refl _ _⟩
/-- Hunks that go back make the first text again. -/
theorem back_of {x y : List Ln} {c : Nat} {es : List Ed} {hs : List Hk} (p : PF x y es hs) (hx : x.length ≤ 40) (hy : y.length ≤ 40) (he : hs = bld c es) (ht : tl es ≤ 80) (hl : es.length ≤ 80) : (whl (rvs hs) y).2 = 0 ∧ sd 2 (whl (rvs hs) y).1 = x := by
  have hw0 : (whl hs x).2 = 0 := by rw [p.wh]
  have hb : y = sd 2 (whl hs x).1 := by rw [p.wh]; exact p.s2.symm
  have hch := (hck_ok p.hk).2
  have hrg := fun h hm => chain_mem hch h hm
  obtain ⟨h1, h2, h3, h4, h5⟩ := whl_ok hw0
  have hg := whl_good hw0
  obtain ⟨j1, j2⟩ := wl_back (a := x) (b := y) hs 0 0 hch h3 (by rw [List.drop_zero, hb, hg]) (Nat.zero_le _)
  have hrc := rvs_ck p.hk
  have hrch := (hck_ok hrc).2
  have hrr := fun h hm => chain_mem hrch h hm
  have hgd : Good3 (wl y 0 (rvs hs)) := wl_good _ _ (fun h hm => (ck_ok (rgt_ck (hrr h hm))).2.2)
  have s3 := wl_old (a := y) (rvs hs) 0 0 hrch j1
  have htw := tl_sides hgd
  rw [s3, j2, List.drop_zero, List.drop_zero] at htw
  have hm := bld_many (c := c) es
  have hjl := join_len_tl (rvs hs) (fun h hm => by
    obtain ⟨z, hz, rfl⟩ := List.mem_map.1 hm
    exact (ck_inv (rgt_ck (hrg z hz))).2.2.2.1)
  have htl := tl_rvs hrg
  have hjt := bld_tl (c := c) es
  rw [← he] at hm hjt
  have hct := wl_count y (rvs hs) 0
  rw [rvs_len] at hct
  exact whl_back hw0 hb (by omega) (ck_of (by omega) (by omega) hgd)
theorem mde_of {hs : List Hk} {a b : List Ln} (h : (whl hs a).2 = 0) (h2 : sd 2 (whl hs a).1 = b) (hl : b.length ≤ 400) : mde hs a = if P.right b = true then (b, 0) else ([], 3) := by
  unfold mde
  rw [if_pos h, h2, if_neg (by omega)]
/-- The reference's Make, of two texts. -/
def MkC (x y : List Ln) (es : List Ed) : Prop := ∀ (w : World) (A B : Option Addr) (c c' : Nat), LinesIn w A x → LinesIn w B y → x.length ≤ c → y.length ≤ c' → Calls Try.prog 16 #[.slice A x.length c, .slice B y.length c'] w (RnEnd w es 0)
theorem MkC.at {x y : List Ln} {es : List Ed} (h : MkC x y es) {w : World} {A B : Option Addr} {c c' : Nat} (hx : LinesIn w A x) (hy : LinesIn w B y) (d1 : x.length ≤ c) (d2 : y.length ≤ c') : Calls Try.prog 16 #[.slice A x.length c, .slice B y.length c'] w (RnEnd w es 0) := h w A B c c' hx hy d1 d2
theorem c_rmake {x y : List Ln} (hx : x.length ≤ 40) (hy : y.length ≤ 40) : MkC x y (norm (mkE x y)) := fun w A B c c' h1 h2 d1 d2 => rmake_any A B x y c c' w h1 h2 (by omega) (by omega) d1 d2
/-- The reference's Same, of one row of hunks in two places. -/
def HsC (hs : List Hk) : Prop := ∀ (w : World) (A B : Option Addr) (c c' : Nat), HksIn 0 w A hs → HksIn 0 w B hs → Calls Try.prog 24 #[.slice A hs.length c, .slice B hs.length c'] w fun e w' => e = .returned (.bool true) ∧ Below w.heap.size w w'
theorem HsC.at {hs : List Hk} (h : HsC hs) {w : World} {A B : Option Addr} (c c' : Nat) (h1 : HksIn 0 w A hs) (h2 : HksIn 0 w B hs) : Calls Try.prog 24 #[.slice A hs.length c, .slice B hs.length c'] w fun e w' => e = .returned (.bool true) ∧ Below w.heap.size w w' := h w A B c c' h1 h2
theorem c_hsame {hs : List Hk} (hok : HksOk hs) : HsC hs := fun w A B c c' h1 h2 => hsame_any A B c c' hs w hok h1 h2
end Go.Proofs.Ytigghcmbdnidnaa.Pa

namespace Go.Proofs.Ytigghcmbdnidnaa.RP
open Go.ChangeShapes Go.WideShapes Go.ChangeAt Go.RowKit Go.Deep Go.Joins

theorem cInt : Try.prog.cellsOf 3 = 1 := by kernel_rfl
theorem cStr : Try.prog.cellsOf 9 = 1 := by kernel_rfl
theorem cBool : Try.prog.cellsOf 4 = 1 := by kernel_rfl
section
variable {H : Type} {enc : TypeId × Value → H} {w : World} {base : Nat} {spare : Nat → Bool} {held : Bool} {fuel : Nat} {cs : List Value} {x : DataW H × List MemPlace}
theorem list2 {α : Type} {l : List α} (h : l.length = 2) : ∃ a b, l = [a, b] := by
  match l, h with
  | [a, b], _ => exact ⟨a, b, rfl⟩
theorem list3 {α : Type} {l : List α} (h : l.length = 3) : ∃ a b c, l = [a, b, c] := by
  match l, h with
  | [a, b, c], _ => exact ⟨a, b, c, rfl⟩
theorem list4 {α : Type} {l : List α} (h : l.length = 4) : ∃ a b c d, l = [a, b, c, d] := by
  match l, h with
  | [a, b, c, d], _ => exact ⟨a, b, c, d, rfl⟩
theorem list9 {α : Type} {l : List α} (h : l.length = 9) : ∃ a b c d e f g i j, l = [a, b, c, d, e, f, g, i, j] := by
  match l, h with
  | [a, b, c, d, e, f, g, i, j], _ => exact ⟨a, b, c, d, e, f, g, i, j, rfl⟩
end
end Go.Proofs.Ytigghcmbdnidnaa.RP

namespace Go.Proofs.Ytigghcmbdnidnaa.RI
open Go.ChangeShapes Go.WideShapes Go.ChangeAt Go.RowKit Go.Deep Go.Joins

theorem cLine : Try.prog.cellsOf 59 = 2 := by kernel_rfl
section
variable {H : Type} {enc : TypeId × Value → H} {w : World} {base : Nat} {spare : Nat → Bool} {held : Bool} {fuel : Nat} {cs : List Value} {x : DataW H × List MemPlace}
theorem list6 {α : Type} {l : List α} (h : l.length = 6) : ∃ a b c d e f, l = [a, b, c, d, e, f] := by
  match l, h with
  | [a, b, c, d, e, f], _ => exact ⟨a, b, c, d, e, f, rfl⟩
theorem line_read (h : DataW.trod enc Try.prog w base spare held fuel 59 cs = some x) : ∃ (s : ByteArray) (t : Bool), cs = [.string s, .bool t] ∧ s.size ≤ maxLen := by
  obtain ⟨y0, y1, n, -, hl, h0, h1⟩ := trod_struct2 Try.underlying59 h
  dsimp only at h0 h1
  rw [cLine] at hl
  rw [RP.cStr] at h0
  rw [RP.cBool] at h1
  obtain ⟨a, b, rfl⟩ := RP.list2 hl
  obtain ⟨s, e0, -, z0⟩ := DataW.trod_string Try.underlying9 h0
  obtain ⟨t, e1, -⟩ := DataW.trod_bool Try.underlying4 h1
  have e0' : a = .string s := by injection e0
  have e1' : b = .bool t := by injection e1
  exact ⟨s, t, by rw [e0', e1'], z0⟩
instance : Inhabited I.It := ⟨⟨0, 0, 0, false, [], false⟩⟩
end
end Go.Proofs.Ytigghcmbdnidnaa.RI

namespace Go.Proofs.Ytigghcmbdnidnaa.R
open Go.ChangeShapes Go.WideShapes Go.ChangeAt Go.RowKit

set_option maxRecDepth 100000 in
theorem cellsInt : Try.prog.cellsOf 3 = 1 := by kernel_rfl
set_option maxRecDepth 100000 in
theorem ints_arg {H : Type} {enc : TypeId × Value → H} {W : World} {r : Reach} {b0 base : Nat} {sp : Nat → Bool} {held : Bool} {v : Value} {d : DataW H} {p : List MemPlace}
    (hv : Value.okWide Try.prog W r b0 28 v) (h : DataW.Trod enc Try.prog W base sp held 28 v d p) :
    ∃ (A : Option Addr) (cap : Nat) (xs : List Int), v = .slice A xs.length cap ∧ xs.length ≤ maxLen ∧ (0 < xs.length → ∃ bk off, A = some ⟨bk, off, none⟩ ∧ bk < W.heap.size ∧ L.IntsAt W bk off xs) := by
  obtain ⟨a0, len, cap, rfl⟩ := okWide_slice Try.underlying28 hv
  obtain ⟨fuel, hf⟩ := h
  rcases open_ints Try.underlying28 Try.underlying3 cellsInt hf with ⟨hcs, hx⟩ | ⟨a, len', cap', zs, hcs, _, hl, hm, hz, hx, hcell, hwz⟩
  · simp only [Value.cells, List.cons.injEq, Value.slice.injEq, and_true] at hcs
    obtain ⟨rfl, rfl, rfl⟩ := hcs
    exact ⟨none, 0, [], rfl, Nat.zero_le _, fun h => absurd h (by simp)⟩
  · simp only [Value.cells, List.cons.injEq, Value.slice.injEq, and_true] at hcs
    obtain ⟨rfl, rfl, rfl⟩ := hcs
    have hle : len ≤ zs.length := by rw [hz]; split <;> omega
    have htl : (zs.take len).length = len := by rw [List.length_take]; omega
    refine ⟨some a, cap, zs.take len, by rw [htl], by rw [htl]; omega, fun hp => ?_⟩
    rw [htl] at hp
    obtain ⟨bk, off, rfl, hc⟩ := ints_at hcell (by omega)
    have h0 := hc 0 (by omega)
    refine ⟨bk, off, rfl, World.block_lt_of_cell? W ⟨bk, off + 0, none⟩ h0, fun j hj => ?_⟩
    rw [htl] at hj
    rw [hc j (by omega), List.getElem_take, List.getD_eq_getElem?_getD, List.getElem?_eq_getElem (by omega)]
    rfl
end Go.Proofs.Ytigghcmbdnidnaa.R

namespace Go.Proofs.Ytigghcmbdnidnaa.Bulk

theorem bound {H : Type} {l : List (DataW H)} (hk : Rows.uptoSmall H l = true) : Rows.uptoBulkAll l ≤ 1048576 := of_decide_eq_true hk
theorem string_bulk {H : Type} (b : List UInt8) : Rows.uptoBulk (DataW.lit (H := H) (.string b)) = b.length + 1 := by simp [Rows.uptoBulk]
/-- One text: so many bytes at the most. -/
theorem string_size {H : Type} {s : ByteArray} {r : List (DataW H)} (hk : Rows.uptoSmall H ([.lit (.string s.data.toList)] ++ r) = true) : s.size ≤ 1048576 := by
  have h := bound hk
  simp only [List.cons_append, List.nil_append, Rows.uptoBulkAll, string_bulk] at h
  have := Lib.size_eq s
  omega
/-- A text behind one or two other arguments. -/
theorem string_size2 {H : Type} {a : DataW H} {s : ByteArray} {r : List (DataW H)} (hk : Rows.uptoSmall H ([a, .lit (.string s.data.toList)] ++ r) = true) : s.size ≤ 1048576 := by
  have h := bound hk
  simp only [List.cons_append, List.nil_append, Rows.uptoBulkAll, string_bulk] at h
  have := Lib.size_eq s
  omega
theorem string_size3 {H : Type} {a b : DataW H} {s : ByteArray} {r : List (DataW H)} (hk : Rows.uptoSmall H ([a, b, .lit (.string s.data.toList)] ++ r) = true) : s.size ≤ 1048576 := by
  have h := bound hk
  simp only [List.cons_append, List.nil_append, Rows.uptoBulkAll, string_bulk] at h
  have := Lib.size_eq s
  omega
/-- One or two arguments, whatever they are. -/
theorem one {H : Type} {a : DataW H} {r : List (DataW H)} (hk : Rows.uptoSmall H ([a] ++ r) = true) : Rows.uptoBulk a ≤ 1048576 := by
  have h := bound hk
  simp only [List.cons_append, List.nil_append, Rows.uptoBulkAll] at h
  omega
theorem two {H : Type} {a b : DataW H} {r : List (DataW H)} (hk : Rows.uptoSmall H ([a, b] ++ r) = true) : Rows.uptoBulk a ≤ 1048576 ∧ Rows.uptoBulk b ≤ 1048576 := by
  have h := bound hk
  simp only [List.cons_append, List.nil_append, Rows.uptoBulkAll] at h
  omega
end Go.Proofs.Ytigghcmbdnidnaa.Bulk

namespace Go.Proofs.Ytigghcmbdnidnaa.R
open Go.ChangeShapes Go.WideShapes Go.ChangeAt Go.RowKit

theorem cellsByte : Try.prog.cellsOf 5 = 1 := by kernel_rfl
theorem cellsStr : Try.prog.cellsOf 9 = 1 := by kernel_rfl
theorem cellsBool : Try.prog.cellsOf 4 = 1 := by kernel_rfl
theorem cellsLine : Try.prog.cellsOf 59 = 2 := by kernel_rfl

theorem bulk_lits {H : Type} (k : IntKind) : ∀ zs : List Int, Rows.uptoBulkAll (lits (H := H) k zs) = zs.length
  | [] => rfl
  | z :: r => by
    have := bulk_lits (H := H) k r
    simp only [lits, List.map_cons, Rows.uptoBulkAll, Rows.uptoBulk, List.length_cons] at this ⊢
    omega
def textOf : Value → List UInt8
  | .string s => s.data.toList
  | _ => []
def bareOf : Value → Bool
  | .bool b => b
  | _ => false
theorem bulk_pairs {H : Type} (D0 D1 : Nat → DataW H) (f : Nat → List UInt8 × Bool) : ∀ is : List Nat, (∀ i ∈ is, D0 i = .lit (.string (f i).1)) → P.bulk (is.map f) ≤ Rows.uptoBulkAll (is.map fun i => .agg [D0 i, D1 i])
  | [], _ => Nat.le_refl _
  | i :: r, h => by
    have ih := bulk_pairs D0 D1 f r (fun j hj => h j (by simp [hj]))
    rw [List.map_cons, List.map_cons, show f i = ((f i).1, (f i).2) from rfl, P.bulk]
    simp only [Rows.uptoBulkAll, Rows.uptoBulk, h i (by simp)]
    omega
set_option maxRecDepth 100000 in
theorem lines_arg {H : Type} {enc : TypeId × Value → H} {W : World} {r : Reach} {b0 base : Nat} {sp : Nat → Bool} {held : Bool} {v : Value} {d : DataW H} {p : List MemPlace}
    (hv : Value.okWide Try.prog W r b0 23 v) (h : DataW.Trod enc Try.prog W base sp held 23 v d p) :
    ∃ (A : Option Addr) (cap : Nat) (xs : List (List UInt8 × Bool)), v = .slice A xs.length cap ∧ P.bulk xs ≤ Rows.uptoBulk d ∧ T.LinesIn W A xs := by
  obtain ⟨a0, len, cap, rfl⟩ := okWide_slice Try.underlying23 hv
  obtain ⟨fuel, hf⟩ := h
  rcases Deep.open_slice_pairs Try.underlying23 Try.underlying59 cellsLine rfl rfl cellsStr cellsBool hf with ⟨hcs, hx⟩ | ⟨a, len', cap', m, n, V0, V1, D0, D1, P0, P1, hcs, _, hl, hm, hmm, hx, hcell⟩
  · simp only [Value.cells, List.cons.injEq, Value.slice.injEq, and_true] at hcs
    obtain ⟨rfl, rfl, rfl⟩ := hcs
    exact ⟨none, 0, [], rfl, Nat.zero_le _, fun h => absurd h (by simp)⟩
  · simp only [Value.cells, List.cons.injEq, Value.slice.injEq, and_true] at hcs
    obtain ⟨rfl, rfl, rfl⟩ := hcs
    have hle : len ≤ m := by rw [hmm]; split <;> omega
    have each : ∀ i, i < len → W.cell? (a.add (i * 2)) = some (.string ⟨(textOf (V0 i)).toArray⟩) ∧ W.cell? (a.add (i * 2 + 1)) = some (.bool (bareOf (V1 i))) ∧ D0 i = .lit (.string (textOf (V0 i))) := by
      intro i hi
      obtain ⟨c0, c1, t0, t1⟩ := hcell i (by omega)
      obtain ⟨s, hs, hd, _⟩ := DataW.trod_string Try.underlying9 t0
      obtain ⟨b, hb, _⟩ := DataW.trod_bool Try.underlying4 t1
      simp only [List.cons.injEq, and_true] at hs hb
      rw [hs] at c0
      rw [hb] at c1
      refine ⟨by rw [c0, hs]; simp [textOf], by rw [c1, hb]; rfl, by rw [(Prod.mk.inj hd).1, hs]; rfl⟩
    have htl : ((List.range len).map fun i => (textOf (V0 i), bareOf (V1 i))).length = len := by simp
    refine ⟨some a, cap, (List.range len).map fun i => (textOf (V0 i), bareOf (V1 i)), by rw [htl], ?_, fun hp => ?_⟩
    · have := bulk_pairs D0 D1 (fun i => (textOf (V0 i), bareOf (V1 i))) (List.range len) (fun i hi => (each i (List.mem_range.1 hi)).2.2)
      rw [(Prod.mk.inj hx).1, Rows.uptoBulk]; omega
    rw [htl] at hp
    obtain ⟨bk, off, spot⟩ := a
    have hspot : spot = none := by simpa [Addr.add] using World.cell?_spot (each 0 hp).1
    subst hspot
    have h0 := (each 0 hp).1
    refine ⟨bk, off, rfl, World.block_lt_of_cell? W _ h0, fun j hj => ?_⟩
    rw [htl] at hj
    have := each j hj
    rw [add_plain, add_plain, ← Nat.add_assoc] at this
    simp only [List.getElem_map, List.getElem_range]
    exact ⟨this.1, this.2.1⟩
end Go.Proofs.Ytigghcmbdnidnaa.R

namespace Go.Proofs.Ytigghcmbdnidnaa.RZ
set_option linter.unusedVariables false
set_option linter.unusedSimpArgs false
open Go.ChangeShapes Go.WideShapes Go.ChangeAt Go.RowKit Go.Joins
section
variable {H : Type} {enc : TypeId × Value → H} {w : World} {base : Nat} {spare : Nat → Bool} {held : Bool}
theorem slice_shape {t e : TypeId} {A : Option Addr} {n cap : Nat} {d : DataW H} {p : List MemPlace} (hu : Try.prog.underlying t = some (.slice e)) (h : DataW.Trod enc Try.prog w base spare held t (.slice A n cap) d p) :
    (n = 0 ∧ d = .nil) ∨ ∃ es sp, d = .slice es sp ∧ es.length = n := by
  obtain ⟨fuel, hf⟩ := h
  rcases Deep.open_slice hu hf with ⟨hcs, hx⟩ | ⟨a, len, cap', m, k, D, Pl, hcs, _, _, _, _, hx, _⟩
  · simp only [Value.cells, List.cons.injEq, Value.slice.injEq, and_true] at hcs
    obtain ⟨rfl, rfl, rfl⟩ := hcs
    injection hx with h1 h2
    exact .inl ⟨rfl, h1⟩
  · simp only [Value.cells, List.cons.injEq, Value.slice.injEq, and_true] at hcs
    obtain ⟨rfl, rfl, rfl⟩ := hcs
    injection hx with h1 h2
    exact .inr ⟨_, _, h1, by simp⟩
theorem slice_size {ts : List TypeId} {ds : List (DataW H)} (hs : (DataW.weightsEach Try.prog ts ds).all (· ≤ reachBytes) = true) {j : Nat} {t e : TypeId} {A : Option Addr} {n cap : Nat} {d : DataW H} {p : List MemPlace} (ht : ts[j]? = some t) (hd : ds[j]? = some d) (hu : Try.prog.underlying t = some (.slice e)) (h : DataW.Trod enc Try.prog w base spare held t (.slice A n cap) d p) :
    n * Try.prog.bytesOf e ≤ reachBytes := by
  rcases slice_shape hu h with ⟨rfl, -⟩ | ⟨es, sp, rfl, rfl⟩
  · simp
  · exact Nat.le_trans (Nat.mul_le_mul_right _ (Nat.le_add_right _ _)) (sized_slice hs ht hd hu)
theorem bytesInt : Try.prog.bytesOf 3 = 8 := by kernel_rfl
theorem ints_size {ts : List TypeId} {ds : List (DataW H)} (hs : (DataW.weightsEach Try.prog ts ds).all (· ≤ reachBytes) = true) {j : Nat} {A : Option Addr} {n cap : Nat} {d : DataW H} {p : List MemPlace} (ht : ts[j]? = some 28) (hd : ds[j]? = some d) (h : DataW.Trod enc Try.prog w base spare held 28 (.slice A n cap) d p) : n * 8 ≤ 140737488351232 := by
  have := slice_size hs ht hd Try.underlying28 h
  rw [bytesInt] at this
  exact this
end
end Go.Proofs.Ytigghcmbdnidnaa.RZ

namespace Go.Proofs.Ytigghcmbdnidnaa.RZ
open Go.ChangeShapes Go.WideShapes Go.ChangeAt Go.RowKit Go.Deep Go.Joins
section
variable {H : Type} {enc : TypeId × Value → H} {w : World} {base : Nat} {spare : Nat → Bool} {held : Bool}
theorem cellsEd : Try.prog.cellsOf 54 = 2 := by kernel_rfl
theorem cellsStp : Try.prog.cellsOf 52 = 1 := by kernel_rfl
theorem cellsLns : Try.prog.cellsOf 23 = 1 := by kernel_rfl
theorem bytesEd : Try.prog.bytesOf 54 = 32 := by kernel_rfl
set_option maxRecDepth 100000 in
theorem lines_readD {fuel : Nat} {cs : List Value} {x : DataW H × List MemPlace} (hf : DataW.trod enc Try.prog w base spare held fuel 23 cs = some x) :
    ∃ (A : Option Addr) (cap : Nat) (xs : List N.Ln), cs = [.slice A xs.length cap] ∧ xs.length ≤ cap ∧ cap ≤ maxLen ∧ T.LinesIn w A xs ∧ (∀ y ∈ xs, y.1.length ≤ maxLen) ∧ (A = none → cap = 0) := by
  rcases Deep.open_slice_pairs Try.underlying23 Try.underlying59 R.cellsLine rfl rfl R.cellsStr R.cellsBool hf with ⟨hcs, hx⟩ | ⟨a, len', cap', m, n, V0, V1, D0, D1, P0, P1, hcs, _, hl, hm, hmm, hx, hcell⟩
  · exact ⟨none, 0, [], hcs, Nat.le_refl _, Nat.zero_le _, fun h => absurd h (by simp), fun y hy => by simp at hy, fun _ => rfl⟩
  · have hle : len' ≤ m := by rw [hmm]; split <;> omega
    have each : ∀ i, i < len' → w.cell? (a.add (i * 2)) = some (.string ⟨(R.textOf (V0 i)).toArray⟩) ∧ w.cell? (a.add (i * 2 + 1)) = some (.bool (R.bareOf (V1 i))) ∧ (R.textOf (V0 i)).length ≤ maxLen := by
      intro i hi
      obtain ⟨c0, c1, t0, t1⟩ := hcell i (by omega)
      obtain ⟨s, hs, hd, hz⟩ := DataW.trod_string Try.underlying9 t0
      obtain ⟨b, hb, _⟩ := DataW.trod_bool Try.underlying4 t1
      simp only [List.cons.injEq, and_true] at hs hb
      rw [hs] at c0
      rw [hb] at c1
      refine ⟨by rw [c0, hs]; simp [R.textOf], by rw [c1, hb]; rfl, ?_⟩
      rw [hs]
      show s.data.toList.length ≤ maxLen
      rw [← Lib.size_eq]
      exact hz
    have htl : ((List.range len').map fun i => (R.textOf (V0 i), R.bareOf (V1 i))).length = len' := by simp
    refine ⟨some a, cap', (List.range len').map fun i => (R.textOf (V0 i), R.bareOf (V1 i)), by rw [htl, hcs], by rw [htl]; exact hl, hm, fun hp => ?_, fun y hy => ?_, fun e => by cases e⟩
    · rw [htl] at hp
      obtain ⟨bk, off, spot⟩ := a
      have hspot : spot = none := by simpa [Addr.add] using World.cell?_spot (each 0 hp).1
      subst hspot
      have h0 := (each 0 hp).1
      refine ⟨bk, off, rfl, World.block_lt_of_cell? w _ h0, fun j hj => ?_⟩
      rw [htl] at hj
      have := each j hj
      rw [add_plain, add_plain, ← Nat.add_assoc] at this
      simp only [List.getElem_map, List.getElem_range]
      exact ⟨this.1, this.2.1⟩
    · obtain ⟨i, hi, rfl⟩ := List.mem_map.1 hy
      exact (each i (List.mem_range.1 hi)).2.2
theorem lines_argD {r : Reach} {b0 : Nat} {v : Value} {d : DataW H} {p : List MemPlace} (hv : Value.okWide Try.prog w r b0 23 v) (h : DataW.Trod enc Try.prog w base spare held 23 v d p) :
    ∃ (A : Option Addr) (cap : Nat) (xs : List N.Ln), v = .slice A xs.length cap ∧ xs.length ≤ maxLen ∧ xs.length ≤ cap ∧ T.LinesIn w A xs ∧ ∀ y ∈ xs, y.1.length ≤ maxLen := by
  obtain ⟨a0, len, cap, rfl⟩ := okWide_slice Try.underlying23 hv
  obtain ⟨fuel, hf⟩ := h
  obtain ⟨A, cap', xs, hcs, h1, h2, h3, h4, -⟩ := lines_readD hf
  simp only [Value.cells, List.cons.injEq, Value.slice.injEq, and_true] at hcs
  obtain ⟨rfl, rfl, rfl⟩ := hcs
  exact ⟨a0, cap, xs, rfl, Nat.le_trans h1 h2, h1, h3, h4⟩
set_option maxRecDepth 100000 in
theorem eds_arg {r : Reach} {b0 : Nat} {v : Value} {d : DataW H} {p : List MemPlace} (hv : Value.okWide Try.prog w r b0 40 v) (h : DataW.Trod enc Try.prog w base spare held 40 v d p) :
    ∃ (A : Option Addr) (cap : Nat) (es : List S.Ed), v = .slice A es.length cap ∧ S.EdsIn 0 w A es ∧ S.EdsOk es ∧ ∀ e ∈ es, ∀ y ∈ e.2, y.1.length ≤ maxLen := by
  obtain ⟨a0, len, cap, rfl⟩ := okWide_slice Try.underlying40 hv
  obtain ⟨fuel, hf⟩ := h
  rcases Deep.open_slice_pairs Try.underlying40 Try.underlying54 cellsEd rfl rfl cellsStp cellsLns hf with ⟨hcs, hx⟩ | ⟨a, len', cap', m, n, V0, V1, D0, D1, P0, P1, hcs, _, hl, hm, hmm, hx, hcell⟩
  · simp only [Value.cells, List.cons.injEq, Value.slice.injEq, and_true] at hcs
    obtain ⟨rfl, rfl, rfl⟩ := hcs
    exact ⟨none, 0, [], rfl, fun h => absurd h (by simp), ⟨Nat.zero_le _, fun e he => by simp at he⟩, fun e he => by simp at he⟩
  · simp only [Value.cells, List.cons.injEq, Value.slice.injEq, and_true] at hcs
    obtain ⟨rfl, rfl, rfl⟩ := hcs
    have hle : len ≤ m := by rw [hmm]; split <;> omega
    obtain ⟨es, hes, hp⟩ := S.choose_lt (n := len) (p := fun i (e : S.Ed) => w.cell? (a.add (i * 2)) = some (.int .i64 e.1) ∧ (∃ A c, w.cell? (a.add (i * 2 + 1)) = some (.slice A e.2.length c) ∧ T.LinesIn w A e.2 ∧ e.2.length ≤ c ∧ (A = none → c = 0)) ∧ e.2.length ≤ maxLen ∧ ∀ y ∈ e.2, y.1.length ≤ maxLen) (fun i hi => by
      obtain ⟨c0, c1, t0, t1⟩ := hcell i (by omega)
      obtain ⟨d, hd, _⟩ := DataW.trod_int Try.underlying52 t0
      obtain ⟨A, c, xs, hvv, h1, h2, h3, h4, h5⟩ := lines_readD t1
      simp only [List.cons.injEq, and_true] at hd hvv
      rw [hd] at c0
      rw [hvv] at c1
      exact ⟨(d, xs), c0, ⟨A, c, c1, h3, h1, h5⟩, Nat.le_trans h1 h2, h4⟩)
    refine ⟨some a, cap, es, by rw [hes], fun h0 => ?_, ⟨by rw [hes]; omega, fun e he => ?_⟩, fun e he => ?_⟩
    · obtain ⟨bk, off, spot⟩ := a
      have hspot : spot = none := by simpa [Addr.add] using World.cell?_spot (hp 0 h0).1
      subst hspot
      refine ⟨bk, off, rfl, Nat.zero_le _, World.block_lt_of_cell? w _ (hp 0 h0).1, fun j hj => ?_⟩
      obtain ⟨c0, ⟨A, c, c1, h1, h2, h3⟩, -⟩ := hp j hj
      rw [add_plain] at c0 c1
      rw [← Nat.add_assoc] at c1
      exact ⟨A, c, c0, c1, h1, h2, h3, fun p _ => Nat.zero_le _⟩
    · obtain ⟨j, hj, rfl⟩ := List.mem_iff_getElem.1 he
      exact (hp j hj).2.2.1
    · obtain ⟨j, hj, rfl⟩ := List.mem_iff_getElem.1 he
      exact (hp j hj).2.2.2
theorem eds_size {ts : List TypeId} {ds : List (DataW H)} (hs : (DataW.weightsEach Try.prog ts ds).all (· ≤ reachBytes) = true) {j : Nat} {A : Option Addr} {n cap : Nat} {d : DataW H} {p : List MemPlace} (ht : ts[j]? = some 40) (hd : ds[j]? = some d) (h : DataW.Trod enc Try.prog w base spare held 40 (.slice A n cap) d p) : n * 32 ≤ 140737488351232 := by
  have := slice_size hs ht hd Try.underlying40 h
  rw [bytesEd] at this
  exact this
end
end Go.Proofs.Ytigghcmbdnidnaa.RZ
