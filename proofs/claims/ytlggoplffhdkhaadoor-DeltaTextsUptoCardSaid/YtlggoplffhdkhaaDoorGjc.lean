/-
  The contract of text.Decimal, where the library's table of powers of ten holds what its text lays.
  What the proofs of this program's rows share: the listed table read off a row's condition, the arguments read again behind a call that left what was there as it was, and a start for the witness.
  The contracts of label's bit, Right, Join, Meet and Below.
  An item, in plain words.
  Rows of a call's own: small facts.
  What a row of a call's own is, by its address and its cells.
  Items in memory, wherever they lie.
  How an older list of items comes from a newer one, in plain words: the walk through both, the parts, the list that they make, how many items of their own.
  Items compared, items as keys of a map, a map from items to numbers as a function.
  Plain facts on the order of labels.
  What one sees of items, in plain words; what the reference's loops come to.
  The contract of label's Top.
-/
import Derived.Test.YtlggoplffhdkhaaDoorGja
import Derived.Test.YtlggoplffhdkhaaDoorGjb
import Derived.Test.YtlggoplffhdkhaaDoorRows
import Derived.WalkKit
import Derived.ProofKit
import Derived.OpenShut
import Derived.Deep.DeepHandedRow
import Derived.Lib.LaidTab
import Derived.Stop.LaidErr
import Derived.Carry
import Derived.Laws.BitsAllLaws
import Derived.Laws.BitsLemmas
import Derived.Deep.RegionWith
import Derived.Laws.StructEq
import Derived.Maps.OwnSet
import Derived.Maps.OwnOps
import Derived.Maps.Views
import Derived.DeepKeys4
import Derived.WideKeyPair
import Derived.BigQuiet
import Derived.Deep.LoopGhost
import Derived.Deep.QuietTactic
import Derived.Laws.Rows
namespace Go.Proofs.YtlggoplffhdkhaaDoor.T
open Go.RowKit

/-- The library's table of powers of ten, as it was laid. -/
def Tab (w : World) : Prop := Lib.TabIs Tryd.prog w "internal/strconv.uint64pow10" .u64 Lib.pow10Tab
theorem gPow : Tryd.prog.globalNamed "internal/strconv.uint64pow10" = some 1 := by kernel_rfl
theorem Tab.below {B : Nat} {w w' : World} (h : Tab w) (hb : Below B w w') (hB : 1 < B) : Tab w' := var?_below hb gPow hB h
theorem Tab.size {w : World} (h : Tab w) : 1 < w.heap.size := by
  have hc := Lib.TabIs.cell h gPow 0 (by decide)
  rcases Nat.lt_or_ge 1 w.heap.size with hlt | hge
  · exact hlt
  · simp [World.cell?, Array.getElem?_eq_none hge] at hc
theorem Tab.later {w w' : World} (h : Tab w) (hb : Below w.heap.size w w') : Tab w' := Tab.below h hb (Tab.size h)
theorem Tab.alloc {w : World} (h : Tab w) (o : Obj) : Tab (w.alloc o) := Tab.later h ((Below.refl _ _).alloc (Nat.le_refl _) o)

theorem below_grow (w : World) (k : Nat) (os : Array Obj) : Below w.heap.size w (Sort.grow (w.drewN k) os) :=
  ⟨rfl, rfl, rfl, by simp [Sort.grow], fun i hi => by simp only [Sort.grow]; rw [Array.getElem?_append_left (by simpa using hi)]; rfl⟩

theorem decimal_any (n : Int) (w : World) (h0 : -9223372036854775808 ≤ n) (h1 : n ≤ 9223372036854775807) (ht : Tab w) :
    Calls Tryd.prog 49 #[.int .i64 n] w fun e w' => e = .returned (.string ⟨(P.decimal n).toArray⟩) ∧ Below w.heap.size w w' := by
  by_cases hn : n < 0
  · have Hd := Lib.hid (show P.decimal n = [63] by rw [P.decimal, if_pos (.inl hn)])
    go_enter Tryd.func49, Tryd.ntmps49
    go_wp2_with fail
    go_ret
    exact ⟨ret_of (by rw [Hd.out]; rfl), Below.refl _ _⟩
  by_cases hm : 2147483647 < n
  · have Hd := Lib.hid (show P.decimal n = [63] by rw [P.decimal, if_pos (.inr hm)])
    go_enter Tryd.func49, Tryd.ntmps49
    go_wp2_with fail
    go_ret
    exact ⟨ret_of (by rw [Hd.out]; rfl), Below.refl _ _⟩
  have Hd := Lib.hid (show P.decimal n = Lib.itoa n by rw [P.decimal, if_neg (by omega), Lib.itoa, if_neg hn])
  have Ht := Lib.hid ht
  go_enter Tryd.func49, Tryd.ntmps49
  go_wp2_with fail
  refine (Tryd.strconv_Itoa n h0 h1 _ Ht.out).mono ?_
  rintro e w' ⟨rfl, k, os, rfl⟩
  go_wp2_with fail
  go_ret
  exact ⟨ret_of (by rw [Hd.out]; rfl), below_grow _ _ _⟩

end Go.Proofs.YtlggoplffhdkhaaDoor.T

namespace Go.Proofs.YtlggoplffhdkhaaDoor.R
open Go.ChangeShapes Go.WideShapes Go.ChangeAt Go.RowKit

theorem own : ownKnob Tryd.prog.godebug = none := by kernel_rfl
theorem laidOut : laidOutB Tryd.prog = true := by kernel_rfl

abbrev listed : List (String × DataW Unit) := Rows.deltaSizesRow.laid

theorem typePow : (Tryd.prog.globals[1]?).map (·.type) = some 126 := by kernel_rfl
theorem cellsPow : Tryd.prog.cellsOf 126 = 20 := by kernel_rfl
theorem cellsU64 : Tryd.prog.cellsOf 35 = 1 := by kernel_rfl
theorem tab_of {W : World} (h : laidMetH Tryd.prog listed W) : T.Tab W := by
  have h1 : laidMet Tryd.prog listed W := h
  exact Lib.tabIs_of_head (rest := []) T.gPow typePow Tryd.underlying126 Tryd.underlying35 cellsU64 cellsPow h1.tail.tail

/-- Arguments of types that can be read, read again behind a call that left all that was there as it was. -/
theorem again {H : Type} {enc : TypeId × Value → H} {W W' : World} (hb : Below W.heap.size W W') :
    ∀ {ts : List TypeId} {vs : List Value} {ds : List (DataW H)} {p : List MemPlace}, (∀ t ∈ ts, Tryd.prog.readableRec t = true ∧ t < Tryd.prog.types.size) →
      DataW.TrodAll enc Tryd.prog W 0 (fun _ => true) true ts vs ds p → (∀ x ∈ p, x.block < W.heap.size) →
      DataW.TrodAll enc Tryd.prog W' 0 (fun b => decide (b < W.heap.size)) true ts vs ds p
  | [], vs, ds, p, _, h, _ => by
    obtain ⟨rfl, rfl, rfl⟩ := trodAll_nil h
    exact trodAll_mk0
  | t :: ts, vs, ds, p, hr, h, hlt => by
    obtain ⟨v0, vs0, d0, ds0, p0, q0, rfl, rfl, rfl, h0, r0⟩ := trodAll_cons h
    exact trodAll_cons_mk (Below.trod laidOut (hr t (by simp)).1 (hr t (by simp)).2 h0 hb (fun x hx => hlt x (by simp [hx])))
      (again hb (fun u hu => hr u (by simp [hu])) r0 (fun x hx => hlt x (by simp [hx])))

/-- A block's cells put in place. -/
def fill (cs : List Value) : Obj → Obj
  | .cells _ t frozen => .cells cs.toArray t frozen
  | o => o
def nums32 : List Int := [0, 1, 28, 2, 29, 14, 24, 3, 30, 22, 20, 15, 25, 17, 4, 8, 31, 27, 13, 23, 21, 19, 16, 7, 26, 12, 18, 6, 11, 5, 10, 9]
def nums64 : List Int := [0, 1, 56, 2, 57, 49, 28, 3, 61, 58, 42, 50, 38, 29, 17, 4, 62, 47, 59, 36, 45, 43, 51, 22, 53, 39, 33, 30, 24, 18, 12, 5, 63, 55, 48, 27, 60, 41, 37, 16, 46, 35, 44, 21, 52, 32, 23, 11, 54, 26, 40, 15, 34, 20, 31, 10, 25, 14, 19, 9, 13, 8, 7, 6]
/-- A world for the witness: the settled one, the listed tables holding what their initialisers lay. -/
noncomputable def laidWorld (os : Os) : World :=
  { World.holding Tryd.prog os ⟨#[], #[], []⟩ with heap := (((World.holding Tryd.prog os ⟨#[], #[], []⟩).heap.modify 1 (fill (Lib.pow10Tab.map (Value.int .u64)))).modify 2 (fill (nums32.map (Value.int .u8)))).modify 3 (fill (nums64.map (Value.int .u8))) }
end Go.Proofs.YtlggoplffhdkhaaDoor.R

namespace Go.Proofs.YtlggoplffhdkhaaDoor.L
open Go.RowKit
open T

/-- A label's value: its level and its categories. -/
abbrev lab (l : Int) (c : Nat) : Value := .agg #[.int .i64 l, .int .u64 (c : Int)]

theorem bit_any (c : Nat) (w : World) (hc : c < 64) :
    Calls Tryd.prog 78 #[.int .i64 c] w fun e w' => e = .returned (.int .u64 ((2 ^ c : Nat) : Int)) ∧ w = w' := by
  have hp : 2 ^ c < 18446744073709551616 := Nat.pow_lt_pow_right (a := 2) (n := 64) (by omega) hc
  have HW := Lib.hid (show IntKind.u64.wrap (2 ^ c) = ((2 ^ c : Nat) : Int) by
    rw [show (2 : Int) ^ c = ((2 ^ c : Nat) : Int) by simp]
    generalize 2 ^ c = x at hp
    exact IntWalk.u64_in _ (by omega))
  clear hp
  go_enter Tryd.func78, Tryd.ntmps78
  go_wp2_with fail
  go_ret
  exact ⟨ret_of (by rw [← HW.out]; rfl), rfl⟩

/-- May a label be? -/
def rightB (l : Int) : Bool := decide (0 ≤ l) && decide (l ≤ 15)
theorem right_any (l : Int) (c : Nat) (w : World) :
    Calls Tryd.prog 61 #[lab l c] w fun e w' => e = .returned (.bool (rightB l)) ∧ Below w.heap.size w w' := by
  by_cases h0 : 0 ≤ l
  · have HR := Lib.hid (show rightB l = decide (l ≤ 15) by unfold rightB; rw [decide_eq_true h0]; rfl)
    go_enter Tryd.func61, Tryd.ntmps61
    go_wp2_with fail
    go_ret
    exact ⟨ret_of (by rw [HR.out]; rfl), (Below.refl _ _).alloc (Nat.le_refl _) _⟩
  · have HR := Lib.hid (show rightB l = false by unfold rightB; rw [decide_eq_false h0]; rfl)
    go_enter Tryd.func61, Tryd.ntmps61
    go_wp2_with fail
    go_ret
    exact ⟨ret_of (by rw [HR.out]; rfl), (Below.refl _ _).alloc (Nat.le_refl _) _⟩

theorem three (w : World) (a b c : Obj) : Below w.heap.size w (((w.alloc a).alloc b).alloc c) :=
  (((Below.refl _ _).alloc (Nat.le_refl _) _).alloc (by simp) _).alloc (by simp; omega) _
/-- Does one label lie below the other? -/
def belowB (l : Int) (c : Nat) (m : Int) (d : Nat) : Bool := decide (l ≤ m) && (c ||| d == d)
theorem bcell {W w1 : World} (hb : Below W.heap.size W w1) (b o : Nat) (h : b < W.heap.size) : w1.cell? ⟨b, o, none⟩ = W.cell? ⟨b, o, none⟩ := hb.cell (p := ⟨b, o, none⟩) h
theorem two_drew (w w' : World) (a b : Obj) (hb : Below ((w.alloc a).alloc b).drew.heap.size ((w.alloc a).alloc b).drew w') : Below w.heap.size w w' :=
  ((((Below.refl _ _).alloc (Nat.le_refl _) _).alloc (by simp) _).drew).trans (hb.mono (by simp; omega))
end Go.Proofs.YtlggoplffhdkhaaDoor.L

namespace Go.Proofs.YtlggoplffhdkhaaDoor.I
set_option linter.unusedVariables false
set_option linter.unusedSimpArgs false
/-- A label; an item. -/
abbrev Lb := Int × Nat
structure It where
  id : Int
  lv : Int
  ct : Nat
  an : Bool
  tx : List UInt8
  ba : Bool
deriving DecidableEq
def It.lb (x : It) : Lb := (x.lv, x.ct)
end Go.Proofs.YtlggoplffhdkhaaDoor.I

namespace Go.Proofs.YtlggoplffhdkhaaDoor.T
open Go.RowKit

theorem own_base {w : World} {base : Nat} {e : TypeId} {size n : Nat} {v : Value} {xs : List Value} (h : w.ownsRow base e size v n xs) : ∀ k, v.ownBlock = some k → base ≤ k := by
  intro k hk
  rcases h.2 with ⟨rfl, _⟩ | ⟨g, cap, cur, rfl, hg, _⟩
  · simp [Value.ownBlock] at hk
  · simp [Value.ownBlock] at hk; omega

theorem own_more {w : World} {base base' : Nat} {e : TypeId} {size n : Nat} {v : Value} {xs : List Value} (h : w.ownsRow base e size v n xs) (hb : base' ≤ base) : w.ownsRow base' e size v n xs := by
  refine ⟨h.1, ?_⟩
  rcases h.2 with hv | ⟨g, cap, cur, hv, hg, hr⟩
  · exact .inl hv
  · exact .inr ⟨g, cap, cur, hv, Nat.le_trans hb hg, hr⟩

theorem infoStr : (Tryd.prog.info? 9).map (fun i => (i.zero, i.size, i.bytes)) = some (some (.string ⟨#[]⟩), 1, 16) := by kernel_rfl
end Go.Proofs.YtlggoplffhdkhaaDoor.T

namespace Go.Proofs.YtlggoplffhdkhaaDoor.T
open Go.RowKit

theorem own_form {w : World} {base : Nat} {e : TypeId} {size n : Nat} {v : Value} {xs : List Value} (h : w.ownsRow base e size v n xs) :
    ∃ A cap, v = .slice A n cap ∧ n ≤ cap ∧ (0 < n → ∃ g, A = some ⟨g, 0, none⟩ ∧ base ≤ g ∧ g < w.heap.size ∧ ∀ j u, xs[j]? = some u → w.cell? ⟨g, j, none⟩ = some u) := by
  rcases h.2 with ⟨rfl, rfl⟩ | ⟨g, cap, cur, rfl, hg, hh, hnc, _, _, hx⟩
  · exact ⟨none, 0, rfl, Nat.le_refl _, fun h => absurd h (by omega)⟩
  · refine ⟨_, cap, rfl, hnc, fun _ => ⟨g, rfl, hg, ?_, fun j u hu => ?_⟩⟩
    · rcases Nat.lt_or_ge g w.heap.size with hlt | hge
      · exact hlt
      · rw [Array.getElem?_eq_none hge] at hh; cases hh
    · rw [← hx] at hu
      have hu' : cur.toList[j]? = some u := by
        rw [List.getElem?_take] at hu
        split at hu
        · exact hu
        · cases hu
      simp [World.cell?, hh]
      simpa using hu'
end Go.Proofs.YtlggoplffhdkhaaDoor.T

namespace Go.Proofs.YtlggoplffhdkhaaDoor.I
set_option linter.unusedVariables false
set_option linter.unusedSimpArgs false
open Go.RowKit
open T

theorem infoItem : (Tryd.prog.info? 41).map (fun i => (i.zero, i.size, i.bytes)) = some (some (.agg #[.int .i64 0, .int .i64 0, .int .u64 0, .bool false, .string ⟨#[]⟩, .bool false]), 6, 56) := by kernel_rfl
/-- The cells of items. -/
def itCells (xs : List It) : List Value := xs.flatMap fun x => [.int .i64 x.id, .int .i64 x.lv, .int .u64 (x.ct : Int), .bool x.an, .string ⟨x.tx.toArray⟩, .bool x.ba]
theorem itCells_snoc (xs : List It) (x : It) : itCells (xs ++ [x]) = itCells xs ++ [.int .i64 x.id, .int .i64 x.lv, .int .u64 (x.ct : Int), .bool x.an, .string ⟨x.tx.toArray⟩, .bool x.ba] := by simp [itCells]
theorem alloc1 (W : World) (o : Obj) : Below W.heap.size W (W.alloc o) := (Below.refl _ _).alloc (Nat.le_refl _) o
/-- A row of items in memory: six cells each, from an address on. -/
def ItemsAt (w : World) (bk off : Nat) (xs : List It) : Prop :=
  ∀ j (h : j < xs.length), w.cell? ⟨bk, off + j * 6, none⟩ = some (.int .i64 xs[j].id) ∧ w.cell? ⟨bk, off + j * 6 + 1, none⟩ = some (.int .i64 xs[j].lv) ∧ w.cell? ⟨bk, off + j * 6 + 2, none⟩ = some (.int .u64 (xs[j].ct : Int)) ∧ w.cell? ⟨bk, off + j * 6 + 3, none⟩ = some (.bool xs[j].an) ∧ w.cell? ⟨bk, off + j * 6 + 4, none⟩ = some (.string ⟨xs[j].tx.toArray⟩) ∧ w.cell? ⟨bk, off + j * 6 + 5, none⟩ = some (.bool xs[j].ba)
/-- A slice's items, wherever it lies. -/
def ItemsIn (w : World) (A : Option Addr) (xs : List It) : Prop :=
  0 < xs.length → ∃ bk off, A = some ⟨bk, off, none⟩ ∧ bk < w.heap.size ∧ ItemsAt w bk off xs
theorem ItemsAt.below {w w' : World} {bk off B : Nat} {xs : List It} (h : ItemsAt w bk off xs) (hb : Below B w w') (hB : bk < B) : ItemsAt w' bk off xs := fun j hj => by
  obtain ⟨h0, h1, h2, h3, h4, h5⟩ := h j hj
  exact ⟨(hb.cell (p := ⟨bk, _, none⟩) hB).trans h0, (hb.cell (p := ⟨bk, _, none⟩) hB).trans h1, (hb.cell (p := ⟨bk, _, none⟩) hB).trans h2, (hb.cell (p := ⟨bk, _, none⟩) hB).trans h3, (hb.cell (p := ⟨bk, _, none⟩) hB).trans h4, (hb.cell (p := ⟨bk, _, none⟩) hB).trans h5⟩
theorem ItemsIn.below {w w' : World} {A : Option Addr} {xs : List It} (h : ItemsIn w A xs) (hb : Below w.heap.size w w') : ItemsIn w' A xs := fun hp => by
  obtain ⟨bk, off, e, hlt, hl⟩ := h hp
  exact ⟨bk, off, e, Nat.lt_of_lt_of_le hlt hb.size, hl.below hb hlt⟩
theorem itCells_at : ∀ (xs : List It) (j : Nat) (h : j < xs.length), (itCells xs)[j * 6]? = some (.int .i64 xs[j].id) ∧ (itCells xs)[j * 6 + 1]? = some (.int .i64 xs[j].lv) ∧ (itCells xs)[j * 6 + 2]? = some (.int .u64 (xs[j].ct : Int)) ∧ (itCells xs)[j * 6 + 3]? = some (.bool xs[j].an) ∧ (itCells xs)[j * 6 + 4]? = some (.string ⟨xs[j].tx.toArray⟩) ∧ (itCells xs)[j * 6 + 5]? = some (.bool xs[j].ba)
  | x :: r, 0, _ => by simp [itCells]
  | x :: r, j + 1, h => by
    have ih := itCells_at r j (by simpa using h)
    have e : itCells (x :: r) = .int .i64 x.id :: .int .i64 x.lv :: .int .u64 (x.ct : Int) :: .bool x.an :: .string ⟨x.tx.toArray⟩ :: .bool x.ba :: itCells r := by simp [itCells]
    rw [e, show (j + 1) * 6 = j * 6 + 1 + 1 + 1 + 1 + 1 + 1 by omega]
    simpa using ih
theorem items_of_own {w : World} {base : Nat} {v : Value} {xs : List It} (h : w.ownsRow base 41 6 v xs.length (itCells xs)) :
    ∃ A cap, v = .slice A xs.length cap ∧ ItemsIn w A xs := by
  obtain ⟨A, cap, hv, hc, hA⟩ := own_form h
  refine ⟨A, cap, hv, fun hp => ?_⟩
  obtain ⟨g, rfl, _, hlt, hcells⟩ := hA hp
  refine ⟨g, 0, rfl, hlt, fun j hj => ?_⟩
  obtain ⟨h0, h1, h2, h3, h4, h5⟩ := itCells_at xs j hj
  rw [Nat.zero_add]
  exact ⟨hcells _ _ h0, hcells _ _ h1, hcells _ _ h2, hcells _ _ h3, hcells _ _ h4, hcells _ _ h5⟩
theorem items_cells {w wr : World} {bk off B k : Nat} {xs : List It} (h : ItemsAt w bk off xs) (hb : Below B w wr) (hB : bk < B) (hk : k < xs.length) :
    wr.cell? ⟨bk, off + k * 6, none⟩ = some (.int .i64 xs[k].id) ∧ wr.cell? ⟨bk, off + k * 6 + 1, none⟩ = some (.int .i64 xs[k].lv) ∧ wr.cell? ⟨bk, off + k * 6 + 2, none⟩ = some (.int .u64 (xs[k].ct : Int)) ∧ wr.cell? ⟨bk, off + k * 6 + 3, none⟩ = some (.bool xs[k].an) ∧ wr.cell? ⟨bk, off + k * 6 + 4, none⟩ = some (.string ⟨xs[k].tx.toArray⟩) ∧ wr.cell? ⟨bk, off + k * 6 + 5, none⟩ = some (.bool xs[k].ba) := h.below hb hB k hk
/-- What of items a call may rely on. -/
structure ItemsOk (l : List It) : Prop where
  len : l.length ≤ maxLen
  tx : ∀ x ∈ l, x.tx.length ≤ maxLen
  ct : ∀ x ∈ l, x.ct < 18446744073709551616
theorem items_own {w : World} {base : Nat} {A : Option Addr} {cap : Nat} {xs : List It} (h : w.ownsRow base 41 6 (.slice A xs.length cap) xs.length (itCells xs)) : ItemsIn w A xs := by
  obtain ⟨A', cap', hv, hI⟩ := items_of_own h
  injection hv with e1
  subst e1
  exact hI
theorem own_at {w : World} {base : Nat} {e : TypeId} {size n cap : Nat} {A : Option Addr} {xs : List Value} (h : w.ownsRow base e size (.slice A n cap) n xs) (hn : 0 < n) :
    ∃ g, A = some ⟨g, 0, none⟩ ∧ base ≤ g ∧ g < w.heap.size ∧ ∀ j u, xs[j]? = some u → w.cell? ⟨g, j, none⟩ = some u := by
  obtain ⟨A', cap', hv, _, hA⟩ := own_form h
  obtain ⟨g, hg, r⟩ := hA hn
  exact ⟨g, by rw [← hg]; exact (Value.slice.inj hv).1, r⟩
theorem own_below {w w' : World} {base : Nat} {e : TypeId} {size n : Nat} {v : Value} {xs : List Value} (h : w.ownsRow base e size v n xs) (hb : Below w.heap.size w w') : w'.ownsRow base e size v n xs := by
  refine h.kept (row := none) ⟨hb.os, hb.tape, hb.output, hb.size, fun k hk _ => hb.block k hk⟩ ?_
  cases v.ownBlock with
  | none => exact .inl rfl
  | some k => exact .inr (by simp)
end Go.Proofs.YtlggoplffhdkhaaDoor.I

namespace Go.Proofs.YtlggoplffhdkhaaDoor.Dl
set_option linter.unusedVariables false
set_option linter.unusedSimpArgs false
open I (It)

/-- A part: where it begins in the newer list, how many items of that, its own items. -/
structure Pt where
  at_ : Int
  n : Int
  its : List It
deriving DecidableEq
/-- The last one is altered. -/
def mdl (f : Pt → Pt) (o : List Pt) : List Pt := o.dropLast ++ (o.getLast?.map f).toList
theorem mdl_snoc (f : Pt → Pt) (o : List Pt) (p : Pt) : mdl f (o ++ [p]) = o ++ [f p] := by simp [mdl]
theorem mdl_len (f : Pt → Pt) {o : List Pt} (h : o ≠ []) : (mdl f o).length = o.length := by
  rw [← List.dropLast_concat_getLast h, mdl_snoc]; simp
def stay (s : List Pt × Nat) (i : Nat) : List Pt × Nat := (if s.2 = 1 then mdl (fun p => ⟨p.at_, p.n + 1, []⟩) s.1 else s.1 ++ [⟨(i : Int), 1, []⟩], 1)
def put (s : List Pt × Nat) (x : It) : List Pt × Nat := (if s.2 = 2 then mdl (fun p => ⟨0, 0, p.its ++ [x]⟩) s.1 else s.1 ++ [⟨0, 0, [x]⟩], 2)
/-- The walk, from the newer one's item i on. -/
def mk : List It → List It → Nat → List Pt × Nat → List Pt
  | [], [], _, s => s.1
  | [], y :: r, i, s => mk [] r i (put s y)
  | _ :: n, [], i, s => mk n [] (i + 1) (s.1, 0)
  | x :: n, y :: r, i, s => if x = y then mk n r (i + 1) (stay s i) else if y ∈ n then mk n (y :: r) (i + 1) (s.1, 0) else mk (x :: n) r i (put s y)
termination_by a b => a.length + b.length
def make (a b : List It) : List Pt := mk a b 0 ([], 0)

theorem mk_nil : ∀ (n : List It) (i : Nat) (s : List Pt × Nat), mk n [] i s = s.1
  | [], i, s => by rw [mk]
  | x :: n, i, s => by rw [mk, mk_nil n]
theorem mk_eq (x : It) (n r : List It) (i : Nat) (s : List Pt × Nat) : mk (x :: n) (x :: r) i s = mk n r (i + 1) (stay s i) := by rw [mk, if_pos rfl]
theorem mk_put {y : It} {n : List It} (h : y ∉ n) (r : List It) (i : Nat) (s : List Pt × Nat) : mk n (y :: r) i s = mk n r i (put s y) := by
  cases n with
  | nil => rw [mk]
  | cons x n => rw [mk, if_neg (by rintro rfl; exact h List.mem_cons_self), if_neg (fun e => h (List.mem_cons_of_mem _ e))]
theorem mk_skip {x y : It} {n : List It} (hne : x ≠ y) (h : y ∈ n) (r : List It) (i : Nat) (s : List Pt × Nat) : mk (x :: n) (y :: r) i s = mk n (y :: r) (i + 1) (s.1, 0) := by rw [mk, if_neg hne, if_pos h]
/-! Whole stretches at once. -/
theorem mk_puts {n : List It} (i : Nat) : ∀ {xs : List It} (r : List It) (o : List Pt) (z : List It), (∀ x ∈ xs, x ∉ n) → mk n (xs ++ r) i (o ++ [⟨0, 0, z⟩], 2) = mk n r i (o ++ [⟨0, 0, z ++ xs⟩], 2)
  | [], r, o, z, _ => by simp
  | x :: xs, r, o, z, h => by
    rw [List.cons_append, mk_put (h x List.mem_cons_self)]
    have e : put (o ++ [⟨0, 0, z⟩], 2) x = (o ++ [⟨0, 0, z ++ [x]⟩], 2) := by rw [put, if_pos rfl, mdl_snoc]
    rw [e, mk_puts i r o (z ++ [x]) fun y hy => h y (List.mem_cons_of_mem _ hy)]
    simp
theorem mk_own {n xs : List It} (i : Nat) (r : List It) {s : List Pt × Nat} (h : ∀ x ∈ xs, x ∉ n) (hx : xs ≠ []) (hs : s.2 ≠ 2) : mk n (xs ++ r) i s = mk n r i (s.1 ++ [⟨0, 0, xs⟩], 2) := by
  cases xs with
  | nil => exact absurd rfl hx
  | cons x xs =>
    rw [List.cons_append, mk_put (h x List.mem_cons_self)]
    have e : put s x = (s.1 ++ [⟨0, 0, [x]⟩], 2) := by rw [put, if_neg hs]
    rw [e, mk_puts i r s.1 [x] fun y hy => h y (List.mem_cons_of_mem _ hy)]
    rfl
theorem mk_stays : ∀ {c : List It} (n r : List It) (i : Nat) (o : List Pt) (a m : Int), mk (c ++ n) (c ++ r) i (o ++ [⟨a, m, []⟩], 1) = mk n r (i + c.length) (o ++ [⟨a, m + c.length, []⟩], 1)
  | [], n, r, i, o, a, m => by simp
  | x :: c, n, r, i, o, a, m => by
    rw [List.cons_append, List.cons_append, mk_eq]
    have e : stay (o ++ [⟨a, m, []⟩], 1) i = (o ++ [⟨a, m + 1, []⟩], 1) := by rw [stay, if_pos rfl, mdl_snoc]
    rw [e, mk_stays n r (i + 1) o a (m + 1), List.length_cons]
    rw [show i + 1 + c.length = i + (c.length + 1) by omega, show m + 1 + (c.length : Int) = m + ((c.length + 1 : Nat) : Int) by omega]
theorem mk_copy {c : List It} (n r : List It) (i : Nat) {s : List Pt × Nat} (hc : c ≠ []) (hs : s.2 ≠ 1) : mk (c ++ n) (c ++ r) i s = mk n r (i + c.length) (s.1 ++ [⟨(i : Int), (c.length : Int), []⟩], 1) := by
  cases c with
  | nil => exact absurd rfl hc
  | cons x c =>
    rw [List.cons_append, List.cons_append, mk_eq]
    have e : stay s i = (s.1 ++ [⟨(i : Int), 1, []⟩], 1) := by rw [stay, if_neg hs]
    rw [e, mk_stays n r (i + 1) s.1 i 1, List.length_cons]
    rw [show i + 1 + c.length = i + (c.length + 1) by omega, show (1 : Int) + (c.length : Int) = ((c.length + 1 : Nat) : Int) by omega]
theorem mk_skips {y : It} : ∀ {z : List It} (n r : List It) (i : Nat) (s : List Pt × Nat), y ∉ z → y ∈ n → mk (z ++ n) (y :: r) i s = mk n (y :: r) (i + z.length) (s.1, if z = [] then s.2 else 0)
  | [], n, r, i, s, _, _ => by simp
  | x :: z, n, r, i, s, h, hn => by
    rw [List.cons_append, mk_skip (by rintro rfl; exact h List.mem_cons_self) (List.mem_append_right _ hn), mk_skips n r (i + 1) _ (fun e => h (List.mem_cons_of_mem _ e)) hn]
    rw [List.length_cons, if_neg (List.cons_ne_nil _ _), show i + 1 + z.length = i + (z.length + 1) by omega]
    simp
/-! What the parts make. -/
def ol (a : List It) (d : List Pt) : List It := d.flatMap fun p => p.its ++ (a.drop p.at_.toNat).take p.n.toNat
def siz (d : List Pt) : Nat := (d.map fun p => p.its.length).sum
theorem ol_snoc (a : List It) (d : List Pt) (p : Pt) : ol a (d ++ [p]) = ol a d ++ (p.its ++ (a.drop p.at_.toNat).take p.n.toNat) := by simp [ol]
theorem siz_snoc (d : List Pt) (p : Pt) : siz (d ++ [p]) = siz d + p.its.length := by simp [siz]
/-- What holds of the parts on the way, before the newer one's item i. -/
structure Wy (a : List It) (i : Nat) (s : List Pt × Nat) : Prop where
  ok : ∀ p ∈ s.1, (p.its = [] ∧ 0 ≤ p.at_ ∧ 0 < p.n ∧ p.at_ + p.n ≤ i) ∨ (p.its ≠ [] ∧ p.at_ = 0 ∧ p.n = 0)
  l1 : s.2 = 1 → ∃ (o : List Pt) (m : Int), s.1 = o ++ [⟨(i : Int) - m, m, []⟩] ∧ 0 < m ∧ m ≤ i
  l2 : s.2 = 2 → ∃ o z, s.1 = o ++ [⟨0, 0, z⟩] ∧ z ≠ []
  hi : i ≤ a.length
theorem Wy.start (a : List It) : Wy a 0 ([], 0) := ⟨(fun p hp => by cases hp), (fun h => by cases h), (fun h => by cases h), Nat.zero_le _⟩
theorem Wy.skip {a : List It} {i : Nat} {s : List Pt × Nat} (h : Wy a i s) (hi : i < a.length) : Wy a (i + 1) (s.1, 0) :=
  ⟨fun p hp => (h.ok p hp).imp (fun g => ⟨g.1, g.2.1, g.2.2.1, by omega⟩) id, (fun e => by cases e), (fun e => by cases e), hi⟩
theorem take_more {α : Type} (l : List α) {k : Nat} (h : k < l.length) : l.take (k + 1) = l.take k ++ [l[k]] := List.take_succ_eq_append_getElem h
theorem Wy.stay {a : List It} {i : Nat} {s : List Pt × Nat} (h : Wy a i s) (hi : i < a.length) : Wy a (i + 1) (stay s i) ∧ ol a (Dl.stay s i).1 = ol a s.1 ++ [a[i]] ∧ siz (Dl.stay s i).1 = siz s.1 := by
  unfold Dl.stay
  by_cases e : s.2 = 1
  · obtain ⟨o, m, hs, h0, hm⟩ := h.l1 e
    have hok := h.ok
    rw [if_pos e, hs, mdl_snoc]
    rw [hs] at hok
    refine ⟨⟨fun p hp => ?_, fun _ => ⟨o, m + 1, ?_, by omega, by omega⟩, (fun e => by cases e), hi⟩, ?_, ?_⟩
    · rcases List.mem_append.1 hp with hp | hp
      · exact (hok p (List.mem_append_left _ hp)).imp (fun g => ⟨g.1, g.2.1, g.2.2.1, by omega⟩) id
      · simp only [List.mem_singleton] at hp
        subst hp
        exact .inl ⟨rfl, by simp only; omega, by simp only; omega, by simp only; omega⟩
    · show o ++ [Pt.mk _ _ _] = _
      rw [show ((i + 1 : Nat) : Int) - (m + 1) = (i : Int) - m by omega]
    · rw [ol_snoc, ol_snoc]
      simp only [List.nil_append, List.append_assoc]
      congr 1
      obtain ⟨k, rfl⟩ : ∃ k : Nat, m = k := ⟨m.toNat, by omega⟩
      rw [show ((k : Int) + 1).toNat = k + 1 by omega, show ((k : Int)).toNat = k by omega, take_more _ (by rw [List.length_drop]; omega), List.getElem_drop]
      congr 2
      congr 1
      omega
    · rw [siz_snoc, siz_snoc]
  · rw [if_neg e]
    refine ⟨⟨fun p hp => ?_, fun _ => ⟨s.1, 1, ?_, by omega, by omega⟩, (fun e => by cases e), hi⟩, ?_, ?_⟩
    · rcases List.mem_append.1 hp with hp | hp
      · exact (h.ok p hp).imp (fun g => ⟨g.1, g.2.1, g.2.2.1, by omega⟩) id
      · simp only [List.mem_singleton] at hp
        subst hp
        exact .inl ⟨rfl, by simp only; omega, by simp only; omega, by simp only; omega⟩
    · show s.1 ++ [Pt.mk _ _ _] = _
      rw [show ((i + 1 : Nat) : Int) - 1 = (i : Int) by omega]
    · rw [ol_snoc]
      simp only [List.nil_append]
      congr 1
      rw [show (1 : Int).toNat = 0 + 1 by rfl, show ((i : Int)).toNat = i by omega, take_more _ (by rw [List.length_drop]; omega), List.getElem_drop]
      simp
    · rw [siz_snoc]; rfl
theorem Wy.put {a : List It} {i : Nat} {s : List Pt × Nat} (h : Wy a i s) (x : It) : Wy a i (put s x) ∧ ol a (Dl.put s x).1 = ol a s.1 ++ [x] ∧ siz (Dl.put s x).1 = siz s.1 + 1 := by
  unfold Dl.put
  by_cases e : s.2 = 2
  · obtain ⟨o, z, hs, hz⟩ := h.l2 e
    have hok := h.ok
    rw [if_pos e, hs, mdl_snoc]
    rw [hs] at hok
    refine ⟨⟨fun p hp => ?_, (fun e => by cases e), fun _ => ⟨o, z ++ [x], rfl, by simp⟩, h.hi⟩, ?_, ?_⟩
    · rcases List.mem_append.1 hp with hp | hp
      · exact hok p (List.mem_append_left _ hp)
      · simp only [List.mem_singleton] at hp
        subst hp
        exact .inr ⟨by simp, rfl, rfl⟩
    · rw [ol_snoc, ol_snoc]
      simp
    · rw [siz_snoc, siz_snoc]
      simp only [List.length_append, List.length_cons, List.length_nil]
      omega
  · rw [if_neg e]
    refine ⟨⟨fun p hp => ?_, (fun e => by cases e), fun _ => ⟨s.1, [x], rfl, by simp⟩, h.hi⟩, ?_, ?_⟩
    · rcases List.mem_append.1 hp with hp | hp
      · exact h.ok p hp
      · simp only [List.mem_singleton] at hp
        subst hp
        exact .inr ⟨by simp, rfl, rfl⟩
    · rw [ol_snoc]; simp
    · rw [siz_snoc]; rfl
theorem mk_all (a : List It) : ∀ (n r : List It) (i : Nat) (s : List Pt × Nat), a.drop i = n → Wy a i s → (∃ e, Wy a a.length (mk n r i s, e)) ∧ ol a (mk n r i s) = ol a s.1 ++ r ∧ siz (mk n r i s) ≤ siz s.1 + r.length := by
  intro n r i s
  induction n, r, i, s using mk.induct with
  | case1 i s => 
    intro hd h
    rw [mk]
    have : i = a.length := by have := h.hi; have := List.drop_eq_nil_iff.1 hd; omega
    subst this
    exact ⟨⟨s.2, h⟩, by simp, by simp⟩
  | case2 y r i s ih =>
    intro hd h
    rw [mk]
    obtain ⟨h1, h2, h3⟩ := h.put y
    obtain ⟨g1, g2, g3⟩ := ih hd h1
    exact ⟨g1, by rw [g2, h2]; simp, by rw [h3] at g3; simp only [List.length_cons]; omega⟩
  | case3 x n i s ih =>
    intro hd h
    rw [mk]
    have hi : i < a.length := by have := congrArg List.length hd; rw [List.length_drop, List.length_cons] at this; omega
    obtain ⟨g1, g2, g3⟩ := ih (by rw [← List.drop_drop, hd]; rfl) (h.skip hi)
    exact ⟨g1, g2, g3⟩
  | case4 n x r i s ih =>
    intro hd h
    rw [mk, if_pos rfl]
    have hi : i < a.length := by have := congrArg List.length hd; rw [List.length_drop, List.length_cons] at this; omega
    have hx : a[i] = x := by
      have := List.drop_eq_getElem_cons hi
      rw [hd] at this
      exact (List.cons.inj this).1.symm
    obtain ⟨h1, h2, h3⟩ := h.stay hi
    obtain ⟨g1, g2, g3⟩ := ih (by rw [← List.drop_drop, hd]; rfl) h1
    exact ⟨g1, by rw [g2, h2, hx]; simp, by rw [h3] at g3; simp only [List.length_cons]; omega⟩
  | case5 x n y r i s hne hy ih =>
    intro hd h
    rw [mk, if_neg hne, if_pos hy]
    have hi : i < a.length := by have := congrArg List.length hd; rw [List.length_drop, List.length_cons] at this; omega
    exact ih (by rw [← List.drop_drop, hd]; rfl) (h.skip hi)
  | case6 x n y r i s hne hy ih =>
    intro hd h
    rw [mk, if_neg hne, if_neg hy]
    obtain ⟨h1, h2, h3⟩ := h.put y
    obtain ⟨g1, g2, g3⟩ := ih hd h1
    exact ⟨g1, by rw [g2, h2]; simp, by rw [h3] at g3; simp only [List.length_cons]; omega⟩
theorem make_ol (a b : List It) : ol a (make a b) = b := by
  have := (mk_all a a b 0 ([], 0) rfl (Wy.start a)).2.1
  simpa [make, ol] using this
theorem make_siz (a b : List It) : siz (make a b) ≤ b.length := by
  have := (mk_all a a b 0 ([], 0) rfl (Wy.start a)).2.2
  simpa [make, siz] using this
theorem make_wy (a b : List It) : ∀ p ∈ make a b, (p.its = [] ∧ 0 ≤ p.at_ ∧ 0 < p.n ∧ p.at_ + p.n ≤ a.length) ∨ (p.its ≠ [] ∧ p.at_ = 0 ∧ p.n = 0) := by
  obtain ⟨e, h⟩ := (mk_all a a b 0 ([], 0) rfl (Wy.start a)).1
  exact h.ok
theorem make_self (a b : List It) : siz (make (a ++ b) a) = 0 := by
  unfold make
  by_cases h : a = []
  · subst h; rw [mk_nil]; rfl
  · have := mk_copy (c := a) b [] 0 (s := ([], 0)) h (by decide)
    rw [List.append_nil] at this
    rw [this, mk_nil]
    rfl
theorem make_none (b : List It) : siz (make [] b) = b.length := by
  unfold make
  by_cases h : b = []
  · subst h; rw [mk_nil]; rfl
  · have := mk_own (n := []) (xs := b) 0 [] (s := ([], 0)) (fun _ _ => by simp) h (by decide)
    rw [List.append_nil] at this
    rw [this, mk_nil]
    simp [siz]
theorem mk_len (n r : List It) (i : Nat) (s : List Pt × Nat) (a : List It) (hd : a.drop i = n) (h : Wy a i s) : (mk n r i s).length ≤ s.1.length + n.length + r.length := by
  induction n, r, i, s using mk.induct with
  | case1 i s => rw [mk]; simp
  | case2 y r i s ih =>
    rw [mk]
    have := ih hd (h.put y).1
    have hl : (put s y).1.length ≤ s.1.length + 1 := by
      unfold put; simp only; split
      · rename_i e; obtain ⟨o, z, hs, -⟩ := h.l2 e; rw [hs, mdl_snoc]; simp
      · simp
    simp only [List.length_cons]; omega
  | case3 x n i s ih =>
    rw [mk]
    have hi : i < a.length := by have := congrArg List.length hd; rw [List.length_drop, List.length_cons] at this; omega
    have := ih (by rw [← List.drop_drop, hd]; rfl) (h.skip hi)
    simp only [List.length_cons]; simp only at this; omega
  | case4 n x r i s ih =>
    rw [mk, if_pos rfl]
    have hi : i < a.length := by have := congrArg List.length hd; rw [List.length_drop, List.length_cons] at this; omega
    have := ih (by rw [← List.drop_drop, hd]; rfl) (h.stay hi).1
    have hl : (stay s i).1.length ≤ s.1.length + 1 := by
      unfold stay; simp only; split
      · rename_i e; obtain ⟨o, m, hs, -⟩ := h.l1 e; rw [hs, mdl_snoc]; simp
      · simp
    simp only [List.length_cons]; omega
  | case5 x n y r i s hne hy ih =>
    rw [mk, if_neg hne, if_pos hy]
    have hi : i < a.length := by have := congrArg List.length hd; rw [List.length_drop, List.length_cons] at this; omega
    have := ih (by rw [← List.drop_drop, hd]; rfl) (h.skip hi)
    simp only [List.length_cons]; simp only [List.length_cons] at this; omega
  | case6 x n y r i s hne hy ih =>
    rw [mk, if_neg hne, if_neg hy]
    have := ih hd (h.put y).1
    have hl : (put s y).1.length ≤ s.1.length + 1 := by
      unfold put; simp only; split
      · rename_i e; obtain ⟨o, z, hs, -⟩ := h.l2 e; rw [hs, mdl_snoc]; simp
      · simp
    simp only [List.length_cons] at *; omega
theorem make_len (a b : List It) : (make a b).length ≤ a.length + b.length := by
  have := mk_len a b 0 ([], 0) a rfl (Wy.start a)
  simpa [make] using this
end Go.Proofs.YtlggoplffhdkhaaDoor.Dl

namespace Go.Proofs.YtlggoplffhdkhaaDoor.Dl
set_option linter.unusedVariables false
set_option linter.unusedSimpArgs false
open Go.RowKit Go.Maps
open T
open I (It ItemsIn ItemsAt itCells itCells_snoc alloc1)

abbrev itV (x : It) : Value := .agg #[.int .i64 x.id, .int .i64 x.lv, .int .u64 (x.ct : Int), .bool x.an, .string ⟨x.tx.toArray⟩, .bool x.ba]
set_option maxRecDepth 100000 in
theorem it_eql (w : World) (x y : It) : (binOp .eql 41 (itV x) (itV y)).run Tryd.prog w = .ok (.bool (decide (x = y))) w := by
  have u1 := Tryd.underlying3
  have u2 := Tryd.underlying35
  have u3 := Tryd.underlying9
  have u4 := Tryd.underlying4
  have hS : Tryd.prog.underlying 41 = some (.struct (Tryd.prog.fieldsOf 41)) := by kernel_rfl
  have hp : Tryd.prog.stoodInHeld 41 = false := by kernel_rfl
  have HS1 : Hid (Tryd.prog.underlying 37 = some (.struct (Tryd.prog.fieldsOf 37))) := Lib.hid (by kernel_rfl)
  have hp1 : Tryd.prog.stoodInHeld 37 = false := by kernel_rfl
  have HS2 : Hid (Tryd.prog.underlying 39 = some (.struct (Tryd.prog.fieldsOf 39))) := Lib.hid (by kernel_rfl)
  have hp2 : Tryd.prog.stoodInHeld 39 = false := by kernel_rfl
  have z1 : Tryd.prog.cellsOf 3 = 1 := by kernel_rfl
  have z2 : Tryd.prog.cellsOf 35 = 1 := by kernel_rfl
  have z3 : Tryd.prog.cellsOf 9 = 1 := by kernel_rfl
  have z4 : Tryd.prog.cellsOf 4 = 1 := by kernel_rfl
  have z5 : Tryd.prog.cellsOf 37 = 2 := by kernel_rfl
  have z6 : Tryd.prog.cellsOf 39 = 2 := by kernel_rfl
  simp only [itV]
  rw [run_eql_struct, show (10000 : Nat) = 9997 + 1 + 1 + 1 from rfl]
  generalize (9997 : Nat) = d
  rw [run_equalIn_agg w (d + 1 + 1) 41 _ _ hS hp]
  simp only [Program.fieldsOf, Tryd.underlying41]
  clear hS
  go_simp
  obtain ⟨a1, a2, a3, a4, a5, a6⟩ := x
  obtain ⟨b1, b2, b3, b4, b5, b6⟩ := y
  by_cases h1 : a1 = b1 <;> by_cases h2 : a2 = b2 <;> by_cases h3 : a3 = b3 <;> by_cases h4 : a4 = b4 <;> by_cases h5 : a5 = b5 <;> by_cases h6 : a6 = b6 <;> simp_all <;> omega
theorem it_neq (w : World) (x y : It) : (binOp .neq 41 (itV x) (itV y)).run Tryd.prog w = .ok (.bool (!decide (x = y))) w := by
  have h := it_eql w x y
  simp only [binOp, Sem.run_bind] at h ⊢
  cases hr : (Op.equal 41 (itV x) (itV y)).run Tryd.prog w with
  | ok v w' =>
    rw [hr] at h
    simp only [Result.andThen_ok, Sem.run_pure, Result.ok.injEq, Value.bool.injEq] at h
    obtain ⟨rfl, rfl⟩ := h
    simp only [Result.andThen_ok, Sem.run_pure]
  | _ => rw [hr] at h; simp at h
/-! Items as keys. -/
/-- An item whose numbers are those of a machine. -/
structure Wi (x : It) : Prop where
  id : (Lit.int .i64 x.id).wf = true
  lv : (Lit.int .i64 x.lv).wf = true
  ct : (Lit.int .u64 (x.ct : Int)).wf = true
  tx : x.tx.length ≤ maxLen
def ik (x : It) : Lit := .string (keyBytes [.int .i64 x.id, .int .i64 x.lv, .int .u64 (x.ct : Int), .bool x.an, .string x.tx, .bool x.ba])
theorem itLaw : Keyed Tryd.prog 41 := Keyed.of_law (deep_law_laid (m := 3) (by kernel_rfl) (by omega) (of_decide_eq_true (by kernel_rfl)) (by kernel_rfl) (by kernel_rfl))
theorem typesSome3 : ∃ m, Tryd.prog.types.size = m + 1 + 1 + 1 := ⟨Tryd.prog.types.size - 3, of_decide_eq_true (by kernel_rfl)⟩
theorem itKT : Tryd.prog.keyType 41 = true := by kernel_rfl
theorem kInt : Tryd.prog.cellsOf 3 = 1 := by kernel_rfl
theorem kU64 : Tryd.prog.cellsOf 35 = 1 := by kernel_rfl
theorem kStr : Tryd.prog.cellsOf 9 = 1 := by kernel_rfl
theorem kBool : Tryd.prog.cellsOf 4 = 1 := by kernel_rfl
theorem kLab : Tryd.prog.cellsOf 37 = 2 := by kernel_rfl
theorem kLn : Tryd.prog.cellsOf 39 = 2 := by kernel_rfl
theorem kIt : Tryd.prog.cellsOf 41 = 6 := by kernel_rfl
theorem kl_int (d : Nat) {n : Int} (h : (Lit.int .i64 n).wf = true) : Tryd.prog.keyLits (d + 1) 3 [.int .i64 n] = some [.int .i64 n] := by
  simp [Program.keyLits, Tryd.underlying3, h]
theorem kl_u64 (d : Nat) {n : Int} (h : (Lit.int .u64 n).wf = true) : Tryd.prog.keyLits (d + 1) 35 [.int .u64 n] = some [.int .u64 n] := by
  simp [Program.keyLits, Tryd.underlying35, h]
theorem kl_bool (d : Nat) (b : Bool) : Tryd.prog.keyLits (d + 1) 4 [.bool b] = some [.bool b] := by
  simp [Program.keyLits, Tryd.underlying4]
theorem kl_str (d : Nat) {s : List UInt8} (h : s.length ≤ maxLen) : Tryd.prog.keyLits (d + 1) 9 [.string ⟨s.toArray⟩] = some [.string s] := by
  have hz : (⟨s.toArray⟩ : ByteArray).size ≤ maxLen := h
  simp [Program.keyLits, Tryd.underlying9, hz]
theorem kl_lab (d : Nat) {l : Int} {c : Int} (h : (Lit.int .i64 l).wf = true) (h2 : (Lit.int .u64 c).wf = true) : Tryd.prog.keyLits (d + 1 + 1) 37 [.int .i64 l, .int .u64 c] = some [.int .i64 l, .int .u64 c] := by
  unfold Program.keyLits
  simp only [Tryd.underlying37]
  rw [if_pos ⟨by rw [kLab]; rfl, by kernel_rfl⟩]
  simp [kInt, kU64, kl_int _ h, kl_u64 _ h2]
theorem kl_ln (d : Nat) {s : List UInt8} (b : Bool) (h : s.length ≤ maxLen) : Tryd.prog.keyLits (d + 1 + 1) 39 [.string ⟨s.toArray⟩, .bool b] = some [.string s, .bool b] := by
  unfold Program.keyLits
  simp only [Tryd.underlying39]
  rw [if_pos ⟨by rw [kLn]; rfl, by kernel_rfl⟩]
  simp [kStr, kBool, kl_str _ h, kl_bool]
theorem itKey {x : It} (h : Wi x) : keyOf Tryd.prog 41 (itV x) = some (ik x) := by
  obtain ⟨m, hm⟩ := typesSome3
  unfold keyOf itV
  simp only [Tryd.underlying41]
  rw [if_pos (by simp [itKT, Value.formed, Tryd.underlying41, kIt]), hm]
  unfold Program.keyLits
  simp only [Tryd.underlying41, Value.cells]
  rw [if_pos ⟨by rw [kIt]; rfl, by kernel_rfl⟩]
  simp [kInt, kU64, kStr, kBool, kLab, kLn, kl_int _ h.id, kl_lab _ h.lv h.ct, kl_bool, kl_ln _ _ h.tx, ik]
set_option maxRecDepth 100000 in
theorem ik_inj {x y : It} (hx : Wi x) (hy : Wi y) (h : ik x = ik y) : x = y := by
  have e1 := itKey hx
  have e2 := itKey hy
  rw [h] at e1
  have := itLaw.inj e1 e2
  obtain ⟨a1, a2, a3, a4, a5, a6⟩ := x
  obtain ⟨b1, b2, b3, b4, b5, b6⟩ := y
  simp only [itV, Value.agg.injEq, Array.mk.injEq, List.cons.injEq, Value.int.injEq, Value.string.injEq, Value.bool.injEq, and_true, true_and, ByteArray.mk.injEq] at this
  obtain ⟨q1, q2, q3, q4, q5, q6⟩ := this
  subst q1 q2 q4 q5 q6
  have : a3 = b3 := by omega
  subst this
  rfl
theorem zeroIn (w : World) : (zeroValue 3).run Tryd.prog w = .ok (.int .i64 0) w := by kernel_rfl
/-- Block mb is a map from items to numbers that reads as f, of at most n entries. -/
def MapIs (w : World) (mb n : Nat) (f : It → Int) : Prop :=
  ∃ D : DataW Unit, w.ownsMap Tryd.prog 41 (plainElem Tryd.prog 3) mb n D ∧ IsMap D ∧ ∀ k : It, Wi k → D.atKey (ik k) (.lit (.int .i64 0)) = .lit (.int .i64 (f k))
def upd (f : It → Int) (k : It) (v : Int) : It → Int := fun x => if x = k then v else f x
theorem MapIs.start (w : World) : MapIs (w.alloc (.map #[] 0)) w.heap.size 0 (fun _ => 0) :=
  ⟨.map [], World.ownsMap_made _ _ _ _, ⟨_, rfl⟩, fun _ _ => rfl⟩
theorem MapIs.kept {w w' : World} {mb n : Nat} {f : It → Int} {row : Option Nat} (h : MapIs w mb n f) (hg : w.grownBy w' row) (hne : some mb ≠ row) : MapIs w' mb n f := by
  obtain ⟨D, h1, h2, h3⟩ := h
  exact ⟨D, h1.kept hg hne, h2, h3⟩
theorem MapIs.lt {w : World} {mb n : Nat} {f : It → Int} (h : MapIs w mb n f) : mb < w.heap.size := by
  obtain ⟨D, h1, h2, h3⟩ := h
  exact h1.lt
theorem MapIs.notCells {w : World} {mb n : Nat} {f : It → Int} (h : MapIs w mb n f) {g : Nat} {cs : Array Value} {t : TypeId} {z : Nat × Nat} (hc : w.heap[g]? = some (.cells cs t z)) : g ≠ mb := by
  obtain ⟨D, ⟨es, _, hb, _⟩, _, _⟩ := h
  rintro rfl
  rw [hb] at hc
  cases hc
theorem MapIs.look {w : World} {mb n : Nat} {f : It → Int} (h : MapIs w mb n f) {t : TypeId} (ht : Tryd.prog.underlying t = some (.map 41 3)) {x : It} (hx : Wi x) :
    (Instr.lookup t (.map (some mb)) (itV x) false).run Tryd.prog w = .ok (.int .i64 (f x)) w := by
  obtain ⟨D, h1, h2, h3⟩ := h
  obtain ⟨c, hrun, hat, hwc⟩ := h1.lookup_int itLaw ht Tryd.underlying3 (zeroIn w) (itKey hx)
  rw [h3 x hx] at hat
  have e : f x = c := by simpa only [DataW.lit.injEq, Lit.int.injEq, true_and] using hat
  rw [e]
  exact hrun
theorem MapIs.put {w : World} {mb n : Nat} {f : It → Int} {D : DataW Unit} (h2 : IsMap D) (h3 : ∀ k : It, Wi k → D.atKey (ik k) (.lit (.int .i64 0)) = .lit (.int .i64 (f k))) {k : It} (hk : Wi k) {v : Int}
    (h1 : w.ownsMap Tryd.prog 41 (plainElem Tryd.prog 3) mb n (D.put (ik k) (.lit (.int .i64 v)))) : MapIs w mb n (upd f k v) := by
  refine ⟨_, h1, h1.isMap, fun x hx => ?_⟩
  by_cases e : x = k
  · subst e
    rw [atKey_put_same (k := ik x) h2 trivial, upd, if_pos rfl]
  · rw [atKey_put_other (fun q => e (ik_inj hx hk q)), h3 x hx, upd, if_neg e]
/-- A store, at the operation. -/
theorem wpList_put (w : World) {ops : Array Oper} {rest : List Oper} {o : Oper} {a : Act} {Q : Exit → Act → World → Prop} (hg : o.guard = none) (m x v : Operand) (t : TypeId) (hop : o.op = Op.mapUpdate t m x v)
    (ht : Tryd.prog.underlying t = some (.map 41 3)) (mb n : Nat) (f : It → Int) (hm : a.eval m = .map (some mb)) (h : MapIs w mb n f) (hn : n < maxLen) (k : It) (hk : Wi k) (z : Int) (hx : a.eval x = itV k) (hv : a.eval v = .int .i64 z) (hz : (Lit.int .i64 z).wf = true)
    (hK : ∀ w', MapIs w' mb (n + 1) (upd f k z) → w.grownBy w' (some mb) → wpList Tryd.prog ops Q rest (a.put o.dst undef) w') : wpList Tryd.prog ops Q (o :: rest) a w := by
  obtain ⟨D, h1, h2, h3⟩ := h
  exact wpList_mapUpdate_own w hg m x v t hop 41 3 itLaw ht _ mb n D hm h1 hn _ _ _ hx hv (itKey hk) _ [] (plainElem_int Tryd.underlying3 hz) (fun w' o1 g1 => hK w' (MapIs.put h2 h3 hk o1) g1)
end Go.Proofs.YtlggoplffhdkhaaDoor.Dl

namespace Go.Proofs.YtlggoplffhdkhaaDoor.L

theorem sub_iff (c d : Nat) : c ||| d = d ↔ ∀ i, c.testBit i = true → d.testBit i = true := by
  constructor
  · intro h i hi
    rw [← h, Nat.testBit_or, hi]; rfl
  · intro h
    apply Nat.eq_of_testBit_eq
    intro i
    rw [Nat.testBit_or]
    cases hb : c.testBit i with
    | false => simp
    | true => rw [h i hb]; rfl
theorem below_iff (l m : Int) (c d : Nat) : belowB l c m d = true ↔ l ≤ m ∧ ∀ i, c.testBit i = true → d.testBit i = true := by
  unfold belowB
  rw [Bool.and_eq_true, decide_eq_true_iff, beq_iff_eq, sub_iff]
theorem below_meet (n l m : Int) (e c d : Nat) (h : belowB n e l c = true) : belowB n e m d = belowB n e (min l m) (c &&& d) := by
  rw [below_iff] at h
  rw [Bool.eq_iff_iff, below_iff, below_iff]
  constructor
  · rintro ⟨h1, h2⟩
    exact ⟨by omega, fun i hi => by rw [Nat.testBit_and, h.2 i hi, h2 i hi]; rfl⟩
  · rintro ⟨h1, h2⟩
    refine ⟨by omega, fun i hi => ?_⟩
    have := h2 i hi
    rw [Nat.testBit_and, Bool.and_eq_true] at this
    exact this.2
theorem below_join (l m n : Int) (c d e : Nat) : belowB (max l m) (c ||| d) n e = (belowB l c n e && belowB m d n e) := by
  rw [Bool.eq_iff_iff, Bool.and_eq_true, below_iff, below_iff, below_iff]
  constructor
  · rintro ⟨h1, h2⟩
    exact ⟨⟨by omega, fun i hi => h2 i (by rw [Nat.testBit_or, hi]; rfl)⟩, by omega, fun i hi => h2 i (by rw [Nat.testBit_or, hi, Bool.or_true])⟩
  · rintro ⟨⟨h1, h2⟩, h3, h4⟩
    refine ⟨by omega, fun i hi => ?_⟩
    rw [Nat.testBit_or, Bool.or_eq_true] at hi
    rcases hi with hi | hi
    · exact h2 i hi
    · exact h4 i hi
theorem and_of_or (c d : Nat) : c ||| d = d ↔ c &&& d = c := by
  rw [sub_iff]
  constructor
  · intro h
    apply Nat.eq_of_testBit_eq
    intro i
    rw [Nat.testBit_and]
    cases hb : c.testBit i with
    | false => rfl
    | true => rw [h i hb]; rfl
  · intro h i hi
    rw [← h, Nat.testBit_and, Bool.and_eq_true] at hi
    exact hi.2
theorem below_refl (l : Int) (c : Nat) : belowB l c l c = true := (below_iff _ _ _ _).2 ⟨Int.le_refl _, fun _ h => h⟩
theorem below_trans {l m n : Int} {c d e : Nat} (h : belowB l c m d = true) (h' : belowB m d n e = true) : belowB l c n e = true := by
  rw [below_iff] at h h' ⊢
  exact ⟨Int.le_trans h.1 h'.1, fun i hi => h'.2 i (h.2 i hi)⟩
theorem below_anti {l m : Int} {c d : Nat} (h : belowB l c m d = true) (h' : belowB m d l c = true) : l = m ∧ c = d := by
  rw [below_iff] at h h'
  refine ⟨Int.le_antisymm h.1 h'.1, Nat.eq_of_testBit_eq fun i => ?_⟩
  cases hb : c.testBit i with
  | true => rw [h.2 i hb]
  | false =>
    cases hd : d.testBit i with
    | true => rw [h'.2 i hd] at hb; cases hb
    | false => rfl
theorem below_j1 (l m : Int) (c d : Nat) : belowB l c (max l m) (c ||| d) = true := (below_iff _ _ _ _).2 ⟨by omega, fun i hi => by rw [Nat.testBit_or, hi]; rfl⟩
theorem below_j2 (l m : Int) (c d : Nat) : belowB m d (max l m) (c ||| d) = true := (below_iff _ _ _ _).2 ⟨by omega, fun i hi => by rw [Nat.testBit_or, hi, Bool.or_true]⟩
theorem below_m1 (l m : Int) (c d : Nat) : belowB (min l m) (c &&& d) l c = true := (below_iff _ _ _ _).2 ⟨by omega, fun i hi => by rw [Nat.testBit_and, Bool.and_eq_true] at hi; exact hi.1⟩
theorem below_m2 (l m : Int) (c d : Nat) : belowB (min l m) (c &&& d) m d = true := (below_iff _ _ _ _).2 ⟨by omega, fun i hi => by rw [Nat.testBit_and, Bool.and_eq_true] at hi; exact hi.2⟩
theorem below_bot {l : Int} (c : Nat) (h : 0 ≤ l) : belowB 0 0 l c = true := (below_iff _ _ _ _).2 ⟨h, fun i hi => by simp at hi⟩
theorem below_top {l : Int} {c : Nat} (h : l ≤ 15) (hc : c < 18446744073709551616) : belowB l c 15 18446744073709551615 = true := by
  refine (below_iff _ _ _ _).2 ⟨h, fun i hi => ?_⟩
  have hi64 : i < 64 := by
    rcases Nat.lt_or_ge i 64 with h | h
    · exact h
    · rw [Nat.testBit_lt_two_pow (Nat.lt_of_lt_of_le hc (Nat.pow_le_pow_right (n := 2) (by omega) h))] at hi
      cases hi
  rw [show 18446744073709551615 = 2 ^ 64 - 1 by rfl, Nat.testBit_two_pow_sub_one]
  simpa using hi64
end Go.Proofs.YtlggoplffhdkhaaDoor.L

namespace Go.Proofs.YtlggoplffhdkhaaDoor.V
set_option linter.unusedVariables false
set_option linter.unusedSimpArgs false
open I (It Lb)

/-- Does a label's reader see an item? -/
def sees (o : Lb) (x : It) : Bool := L.belowB x.lv x.ct o.1 o.2
def cut (o : Lb) (l : List It) : List It := l.filter (sees o)
/-- The places of the items that are seen, counted from a number on. -/
def ats (o : Lb) : Nat → List It → List Nat
  | _, [] => []
  | k, x :: r => if sees o x = true then k :: ats o (k + 1) r else ats o (k + 1) r
def txt (h : List UInt8) (x : It) : List UInt8 := if x.an = true then h else x.tx
/-- Lines of items: none is Bare but the last one. -/
def lns (h : List UInt8) : List It → List (List UInt8 × Bool)
  | [] => []
  | [x] => [(txt h x, x.ba)]
  | x :: y :: r => (txt h x, false) :: lns h (y :: r)
/-- The place of the last item that is seen. -/
def lst (o : Lb) : Nat → Int → List It → Int
  | _, z, [] => z
  | k, z, x :: r => lst o (k + 1) (if sees o x = true then (k : Int) else z) r
/-- The lines as the reference makes them, the last one's place being known. -/
def rln (o : Lb) (h : List UInt8) (last : Int) : Nat → List It → List (List UInt8 × Bool)
  | _, [] => []
  | k, x :: r => if sees o x = true then (txt h x, decide ((k : Int) = last) && x.ba) :: rln o h last (k + 1) r else rln o h last (k + 1) r
theorem cut_snoc (o : Lb) (l : List It) (x : It) : cut o (l ++ [x]) = cut o l ++ (if sees o x = true then [x] else []) := by
  unfold cut
  rw [List.filter_append]
  congr 1
  by_cases h : sees o x = true <;> simp [h]
theorem ats_snoc (o : Lb) (x : It) : ∀ (l : List It) (k : Nat), ats o k (l ++ [x]) = ats o k l ++ (if sees o x = true then [k + l.length] else [])
  | [], k => by simp [ats]
  | y :: r, k => by
    rw [List.cons_append, ats, ats, ats_snoc o x r (k + 1), List.length_cons, show k + 1 + r.length = k + (r.length + 1) by omega]
    split <;> rfl
theorem lst_snoc (o : Lb) (x : It) : ∀ (l : List It) (k : Nat) (z : Int), lst o k z (l ++ [x]) = if sees o x = true then ((k + l.length : Nat) : Int) else lst o k z l
  | [], k, z => by simp [lst]
  | y :: r, k, z => by
    rw [List.cons_append, lst, lst, lst_snoc o x r (k + 1), List.length_cons, show k + 1 + r.length = k + (r.length + 1) by omega]
theorem rln_snoc (o : Lb) (h : List UInt8) (last : Int) (x : It) : ∀ (l : List It) (k : Nat), rln o h last k (l ++ [x]) = rln o h last k l ++ (if sees o x = true then [(txt h x, decide (((k + l.length : Nat) : Int) = last) && x.ba)] else [])
  | [], k => by simp [rln]
  | y :: r, k => by
    rw [List.cons_append, rln, rln, rln_snoc o h last x r (k + 1), List.length_cons, show k + 1 + r.length = k + (r.length + 1) by omega]
    split <;> rfl
theorem lst_none (o : Lb) : ∀ (l : List It) (k : Nat) (z : Int), cut o l = [] → lst o k z l = z
  | [], _, _, _ => rfl
  | x :: r, k, z, h => by
    by_cases hx : sees o x = true
    · simp [cut, hx] at h
    · rw [lst, if_neg hx]
      exact lst_none o r (k + 1) z (by simpa [cut, hx] using h)
theorem lst_some (o : Lb) : ∀ (l : List It) (k : Nat) (z : Int), cut o l ≠ [] → (k : Int) ≤ lst o k z l
  | [], _, _, h => absurd rfl h
  | x :: r, k, z, h => by
    rw [lst]
    by_cases hr : cut o r = []
    · rw [lst_none o r _ _ hr]
      by_cases hx : sees o x = true
      · rw [if_pos hx]; exact Int.le_refl _
      · exact absurd (by simpa [cut, hx] using hr) h
    · have := lst_some o r (k + 1) (if sees o x = true then (k : Int) else z) hr
      omega
theorem rln_is (o : Lb) (h : List UInt8) : ∀ (l : List It) (k : Nat) (z : Int), z < (k : Int) → rln o h (lst o k z l) k l = lns h (cut o l)
  | [], _, _, _ => rfl
  | x :: r, k, z, hz => by
    rw [rln, lst]
    by_cases hx : sees o x = true
    · rw [if_pos hx, if_pos hx, rln_is o h r (k + 1) k (by omega)]
      have hc : cut o (x :: r) = x :: cut o r := by simp [cut, hx]
      rw [hc]
      by_cases hr : cut o r = []
      · rw [lst_none o r _ _ hr, hr, decide_eq_true rfl, Bool.true_and]; rfl
      · have := lst_some o r (k + 1) (k : Int) hr
        rw [decide_eq_false (by omega), Bool.false_and]
        cases hq : cut o r with
        | nil => exact absurd hq hr
        | cons y q => rfl
    · rw [if_neg hx, if_neg hx, rln_is o h r (k + 1) z (by omega)]
      have hc : cut o (x :: r) = cut o r := by simp [cut, hx]
      rw [hc]
theorem ats_length (o : Lb) : ∀ (l : List It) (k : Nat), (ats o k l).length = (cut o l).length
  | [], _ => rfl
  | x :: r, k => by
    rw [ats]
    by_cases hx : sees o x = true
    · rw [if_pos hx, List.length_cons, ats_length o r (k + 1)]; simp [cut, hx]
    · rw [if_neg hx, ats_length o r (k + 1)]; simp [cut, hx]
theorem lns_length (h : List UInt8) : ∀ l : List It, (lns h l).length = l.length
  | [] => rfl
  | [_] => rfl
  | _ :: y :: r => by rw [lns, List.length_cons, lns_length h (y :: r)]; rfl
theorem lns_text (h : List UInt8) : ∀ l : List It, (lns h l).map (·.1) = l.map (txt h)
  | [] => rfl
  | [_] => rfl
  | _ :: y :: r => by rw [lns, List.map_cons, lns_text h (y :: r)]; rfl
theorem lns_bare (h : List UInt8) : ∀ (l : List It) (j : Nat) (hj : j < (lns h l).length) (hj' : j < l.length), (lns h l)[j].2 = (decide (j + 1 = l.length) && l[j].ba)
  | [x], 0, _, _ => by simp [lns]
  | x :: y :: r, 0, _, _ => by simp [lns]
  | x :: y :: r, j + 1, hj, hj' => by
    have := lns_bare h (y :: r) j (by simpa [lns] using hj) (by simpa using hj')
    simp only [lns, List.getElem_cons_succ, List.length_cons] at this ⊢
    rw [this]
    congr 1
    simp
/-- The lines while items are gone through, none being Bare yet. -/
def bln (h : List UInt8) (l : List It) : List (List UInt8 × Bool) := l.map fun x => (txt h x, false)
theorem lns_snoc (h : List UInt8) (x : It) : ∀ l : List It, lns h (l ++ [x]) = bln h l ++ [(txt h x, x.ba)]
  | [] => rfl
  | [_] => rfl
  | y :: z :: r => by
    have := lns_snoc h x (z :: r)
    simp only [List.cons_append] at this ⊢
    rw [lns, this]
    rfl
theorem cut_cut (o : Lb) (l : List It) : cut o (cut o l) = cut o l := by simp [cut, List.filter_filter]
theorem sees_join (o m : Lb) (x : It) (h : sees o x = true) : sees (max o.1 m.1, o.2 ||| m.2) x = true := L.below_trans h (L.below_j1 _ _ _ _)
/-- What a place tells. -/
theorem ats_get (o : Lb) : ∀ (l : List It) (k j : Nat) (hj : j < (ats o k l).length), ∃ hi : (ats o k l)[j] - k < l.length, k ≤ (ats o k l)[j] ∧ sees o l[(ats o k l)[j] - k] = true ∧ (cut o l)[j]? = some l[(ats o k l)[j] - k]
  | [], _, _, hj => by simp [ats] at hj
  | x :: r, k, j, hj => by
    by_cases hx : sees o x = true
    · have e : ats o k (x :: r) = k :: ats o (k + 1) r := by rw [ats, if_pos hx]
      have hc : cut o (x :: r) = x :: cut o r := by simp [cut, hx]
      cases j with
      | zero => simp only [e, hc, List.getElem_cons_zero, Nat.sub_self]; exact ⟨by simp, Nat.le_refl _, hx, rfl⟩
      | succ j =>
        simp only [e, hc, List.getElem_cons_succ]
        obtain ⟨hi, h1, h2, h3⟩ := ats_get o r (k + 1) j (by rw [e] at hj; simpa using hj)
        have e2 : (ats o (k + 1) r)[j]'(by rw [e] at hj; simpa using hj) - k = ((ats o (k + 1) r)[j]'(by rw [e] at hj; simpa using hj) - (k + 1)) + 1 := by omega
        refine ⟨by rw [e2]; simpa using hi, by omega, ?_, ?_⟩
        · simp only [e2, List.getElem_cons_succ]; exact h2
        · simp only [e2, List.getElem_cons_succ, List.getElem?_cons_succ]; exact h3
    · have e : ats o k (x :: r) = ats o (k + 1) r := by rw [ats, if_neg hx]
      have hc : cut o (x :: r) = cut o r := by simp [cut, hx]
      simp only [e, hc]
      obtain ⟨hi, h1, h2, h3⟩ := ats_get o r (k + 1) j (by rw [e] at hj; exact hj)
      have e2 : (ats o (k + 1) r)[j]'(by rw [e] at hj; exact hj) - k = ((ats o (k + 1) r)[j]'(by rw [e] at hj; exact hj) - (k + 1)) + 1 := by omega
      refine ⟨by rw [e2]; simpa using hi, by omega, ?_, ?_⟩
      · simp only [e2, List.getElem_cons_succ]; exact h2
      · simp only [e2, List.getElem_cons_succ]; exact h3
theorem ats_ge (o : Lb) : ∀ (l : List It) (k : Nat), ∀ a ∈ ats o k l, k ≤ a
  | [], _, _, h => by simp [ats] at h
  | x :: r, k, a, h => by
    rw [ats] at h
    split at h
    · rcases List.mem_cons.1 h with rfl | h
      · exact Nat.le_refl _
      · have := ats_ge o r (k + 1) a h; omega
    · have := ats_ge o r (k + 1) a h; omega
/-- The places rise. -/
theorem ats_rise (o : Lb) : ∀ (l : List It) (k : Nat), (ats o k l).Pairwise (· < ·)
  | [], _ => .nil
  | x :: r, k => by
    rw [ats]
    split
    · exact List.pairwise_cons.2 ⟨fun a h => by have := ats_ge o r (k + 1) a h; omega, ats_rise o r (k + 1)⟩
    · exact ats_rise o r (k + 1)
theorem ats_lt (o : Lb) {l : List It} {k i j : Nat} (hj : j < (ats o k l).length) (hij : i < j) : (ats o k l)[i]'(by omega) < (ats o k l)[j] :=
  List.pairwise_iff_getElem.1 (ats_rise o l k) i j (by omega) hj hij
/-- Who reads more sees each place, too. -/
theorem ats_more (o m : Lb) : ∀ (l : List It) (k : Nat), ∀ a ∈ ats o k l, a ∈ ats (max o.1 m.1, o.2 ||| m.2) k l
  | [], _, _, h => h
  | x :: r, k, a, h => by
    rw [ats] at h ⊢
    by_cases hx : sees o x = true
    · rw [if_pos hx] at h
      rw [if_pos (sees_join o m x hx)]
      rcases List.mem_cons.1 h with rfl | h
      · exact List.mem_cons_self
      · exact List.mem_cons_of_mem _ (ats_more o m r (k + 1) a h)
    · rw [if_neg hx] at h
      have := ats_more o m r (k + 1) a h
      split
      · exact List.mem_cons_of_mem _ this
      · exact this
/-- What lies ahead of where an item is put in, to stand ahead of line k, is seen as k lines. -/
theorem cut_ahead (o : Lb) : ∀ (l : List It) (s k : Nat) (hk : k < (ats o s l).length), cut o (l.take ((ats o s l)[k] - s + 1)) = (cut o l).take (k + 1)
  | [], _, _, hk => by simp [ats] at hk
  | x :: r, s, k, hk => by
    by_cases hx : sees o x = true
    · have e : ats o s (x :: r) = s :: ats o (s + 1) r := by rw [ats, if_pos hx]
      have hc : ∀ q, cut o (x :: q) = x :: cut o q := fun q => by simp [cut, hx]
      cases k with
      | zero => simp only [e, List.getElem_cons_zero, Nat.sub_self, Nat.zero_add, List.take_succ_cons, List.take_zero, hc]; rfl
      | succ k =>
        have hk' : k < (ats o (s + 1) r).length := by rw [e] at hk; simpa using hk
        have hg := (ats_get o r (s + 1) k hk').2.1
        have ih := cut_ahead o r (s + 1) k hk'
        simp only [e, List.getElem_cons_succ]
        rw [show (ats o (s + 1) r)[k] - s + 1 = ((ats o (s + 1) r)[k] - (s + 1) + 1) + 1 by omega, List.take_succ_cons, hc, hc, ih, List.take_succ_cons]
    · have e : ats o s (x :: r) = ats o (s + 1) r := by rw [ats, if_neg hx]
      have hc : ∀ q, cut o (x :: q) = cut o q := fun q => by simp [cut, hx]
      have hk' : k < (ats o (s + 1) r).length := by rw [e] at hk; exact hk
      have hg := (ats_get o r (s + 1) k hk').2.1
      have ih := cut_ahead o r (s + 1) k hk'
      simp only [e]
      rw [show (ats o (s + 1) r)[k] - s + 1 = ((ats o (s + 1) r)[k] - (s + 1) + 1) + 1 by omega, List.take_succ_cons, hc, hc, ih]
end Go.Proofs.YtlggoplffhdkhaaDoor.V

namespace Go.Proofs.YtlggoplffhdkhaaDoor.L
open Go.RowKit
open T

theorem blk_cell {w : World} {g : Nat} {t : TypeId} {cs : Array Value} (h : w.heap[g]? = some (.cells cs t (0, 0))) (i : Nat) : w.cell? ⟨g, i, none⟩ = cs[i]? := cell_of_row w g i cs t (0, 0) h
theorem blk_free {w : World} {g : Nat} {t : TypeId} {cs : Array Value} (h : w.heap[g]? = some (.cells cs t (0, 0))) (i : Nat) : w.frozen? ⟨g, i, none⟩ = false := by simp [World.frozen?, h]
theorem blk_set {w : World} {g : Nat} {t : TypeId} {cs : Array Value} (h : w.heap[g]? = some (.cells cs t (0, 0))) (i : Nat) (u : Value) : (w.setCell ⟨g, i, none⟩ u).heap[g]? = some (.cells (cs.setIfInBounds i u) t (0, 0)) := by
  simp [World.setCell, Array.getElem?_modify, h]
theorem blk_far {w : World} {g g' i : Nat} (hne : g ≠ g') (u : Value) : (w.setCell ⟨g', i, none⟩ u).heap[g]? = w.heap[g]? := Below.heap_setCell w ⟨g', i, none⟩ u g hne
theorem blk_lt {w : World} {g : Nat} {o : Obj} (h : w.heap[g]? = some o) : g < w.heap.size := by
  rcases Nat.lt_or_ge g w.heap.size with hlt | hge
  · exact hlt
  · rw [Array.getElem?_eq_none hge] at h; cases h

/-- All categories below k. -/
theorem ones_or (k : Nat) : (2 ^ k - 1) ||| 2 ^ k = 2 ^ (k + 1) - 1 := by
  have h := nat_join k (2 ^ k) (2 ^ k - 1) (Nat.mod_self _) (by have := Nat.pow_pos (n := k) (show 0 < 2 by omega); omega)
  rw [Nat.or_comm, h, Nat.pow_succ]
  have := Nat.pow_pos (n := k) (show 0 < 2 by omega)
  omega

end Go.Proofs.YtlggoplffhdkhaaDoor.L
