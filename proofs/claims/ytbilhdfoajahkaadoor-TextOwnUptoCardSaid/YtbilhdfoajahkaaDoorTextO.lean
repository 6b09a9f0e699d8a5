/-
  What TextOwn asks besides: bytes appended to a row of the call's own, wherever they lie; rows by their block; lines that lie in another block than one that is stored into.
-/
import Derived.Test.YtbilhdfoajahkaaDoorTextI
import Derived.Laws.AppendOwnNone
import Derived.Laws.OwnMore
import Derived.Laws.Closers25b
namespace Go.Proofs.YtbilhdfoajahkaaDoor.T
open Go.RowKit

theorem own_at {w : World} {base : Nat} {e : TypeId} {size n cap : Nat} {A : Option Addr} {xs : List Value} (h : w.ownsRow base e size (.slice A n cap) n xs) (hn : 0 < n) :
    ∃ g, A = some ⟨g, 0, none⟩ ∧ base ≤ g ∧ g < w.heap.size ∧ ∀ j u, xs[j]? = some u → w.cell? ⟨g, j, none⟩ = some u := by
  obtain ⟨A', cap', hv, _, hA⟩ := own_form h
  obtain ⟨g, hg, r⟩ := hA hn
  exact ⟨g, by rw [← hg]; exact (Value.slice.inj hv).1, r⟩
theorem byteCells_length (l : List UInt8) : (byteCells l).length = l.length := by simp [byteCells]
theorem byteCells_set (l : List UInt8) (k : Nat) (c : UInt8) : byteCells (l.set k c) = (byteCells l).set k (.int .u8 (c.toNat : Int)) := by simp [byteCells, List.map_set]

theorem bits_byte (op : BinOp) (a b : Int) : ∃ c : UInt8, bits op .u8 a b = (c.toNat : Int) := by
  have h0 := bits_lo_u8 op a b
  have h1 := bits_hi_u8 op a b
  refine ⟨UInt8.ofNat (bits op .u8 a b).toNat, ?_⟩
  rw [UInt8.toNat_ofNat_of_lt' (by show (bits op .u8 a b).toNat < 256; omega)]
  omega
/-- Bytes, wherever they lie, appended to a row of the call's own. -/
theorem append_bytes {P : Program} {w : World} {ops : Array Oper} {rest : List Oper} {o : Oper} {a : Act} {Q : Exit → Act → World → Prop} (hgd : o.guard = none) (s x : Operand) (t : TypeId)
    (ho : o.op = .call { callee := .builtin .append, args := #[s, x], argTypes := #[t, t] })
    (base : Nat) (e : TypeId) (i : TypeInfo) (z : Value) (ht : P.underlying t = some (.slice e)) (hi : P.info? e = some i) (hz : i.zero = some z)
    (hsize : i.size = 1) (hby : i.bytes = 1) (hzs : z.cells.size = 1)
    (v : Value) (n : Nat) (xs : List Value) (hs : a.eval s = v) (hown : w.ownsRow base e 1 v n xs)
    (A : Option Addr) (cap : Nat) (l : List UInt8) (hx : a.eval x = .slice A l.length cap) (hA : BytesIn w A l) (hn : A = none → cap = 0)
    (h63 : n + l.length ≤ maxLen) (hbytes : (n + l.length) * 1 ≤ 140737488355328) (hbase : base ≤ w.heap.size)
    (h : ∀ v' w', w'.ownsRow base e 1 v' (n + l.length) (xs ++ byteCells l) → w.grownBy w' v.ownBlock → wpList P ops Q rest (a.put o.dst v') w') : wpList P ops Q (o :: rest) a w := by
  cases A with
  | none =>
    have hl : l = [] := by
      rcases Nat.eq_zero_or_pos l.length with h0 | hp
      · exact List.length_eq_zero_iff.1 h0
      · obtain ⟨_, _, h0, _⟩ := hA hp; cases h0
    subst hl
    obtain rfl := hn rfl
    refine wpList_append_own_none hgd s x t ho base e i 1 ht hi v n xs hs hown hx (h v w (by simpa [byteCells] using hown) ⟨rfl, rfl, rfl, Nat.le_refl _, fun _ _ _ => rfl⟩)
  | some ad =>
    refine wpList_append_own w hgd s x t ho base e i z 1 1 ht hi hz hsize hby hzs (by decide) v n xs hs hown ad l.length cap (byteCells l) hx (by simp [byteCells]) (fun j u hu => ?_) (fun u hu => ?_) h63 hbytes hbase (fun v' w' h1 h2 _ => h v' w' h1 h2)
    · have hj : j < l.length := by have := (List.getElem?_eq_some_iff.1 hu).1; rwa [byteCells_length] at this
      obtain ⟨bk, off, he, _, hB⟩ := hA (by omega)
      obtain rfl := Option.some.inj he
      rw [show (⟨bk, off, none⟩ : Addr).add j = ⟨bk, off + j, none⟩ by simp [Addr.add], hB j hj, ← hu]
      simp [byteCells, List.getElem?_eq_getElem hj]
    · obtain ⟨c, _, rfl⟩ := List.mem_map.1 hu; rfl

theorem own_below {w w' : World} {base : Nat} {e : TypeId} {size n : Nat} {v : Value} {xs : List Value} (h : w.ownsRow base e size v n xs) (hb : Below w.heap.size w w') : w'.ownsRow base e size v n xs := by
  refine h.kept (row := none) ⟨hb.os, hb.tape, hb.output, hb.size, fun k hk _ => hb.block k hk⟩ ?_
  cases v.ownBlock with
  | none => exact .inl rfl
  | some k => exact .inr (by simp)
/-- Lines in another block than g. -/
def LinesOff (w : World) (A : Option Addr) (xs : List (List UInt8 × Bool)) (g : Option Nat) : Prop :=
  0 < xs.length → ∃ bk off, A = some ⟨bk, off, none⟩ ∧ some bk ≠ g ∧ bk < w.heap.size ∧ LinesAt w bk off xs
theorem LinesOff.set {w : World} {A : Option Addr} {xs : List (List UInt8 × Bool)} {g j : Nat} {u : Value} (h : LinesOff w A xs (some g)) : LinesOff (w.setCell ⟨g, j, none⟩ u) A xs (some g) := fun hp => by
  obtain ⟨bk, off, e, hne, hlt, hl⟩ := h hp
  have hne' : g ≠ bk := fun e => hne (by rw [e])
  refine ⟨bk, off, e, hne, by simpa using hlt, fun i hi => ⟨?_, ?_⟩⟩
  · rw [World.cell?_setCell_far _ _ _ _ (by exact hne')]; exact (hl i hi).1
  · rw [World.cell?_setCell_far _ _ _ _ (by exact hne')]; exact (hl i hi).2
theorem LinesOff.lines {w : World} {A : Option Addr} {xs : List (List UInt8 × Bool)} {g : Option Nat} (h : LinesOff w A xs g) : LinesIn w A xs := fun hp => by
  obtain ⟨bk, off, e, _, hlt, hl⟩ := h hp
  exact ⟨bk, off, e, hlt, hl⟩

/-- text.Lines and text.Join with rows of their own. -/
def LinesOwn (l : List UInt8) (xs : List (List UInt8 × Bool)) : Prop := ∀ (A : Option Addr) (cap : Nat) (w : World), BytesIn w A l → l.length ≤ cap →
  Calls Tryd.prog 17 #[.slice A l.length cap] w fun e w' => ∃ A' cap', e = .returned (.slice A' xs.length cap') ∧ (∀ G : Option Nat, (∀ g, G = some g → g < w.heap.size) → LinesOff w' A' xs G) ∧ Below w.heap.size w w'
theorem LinesOwn.call {l : List UInt8} {xs : List (List UInt8 × Bool)} (h : LinesOwn l xs) (A : Option Addr) (cap : Nat) (w : World) (hA : BytesIn w A l) (hc : l.length ≤ cap) :
    Calls Tryd.prog 17 #[.slice A l.length cap] w fun e w' => ∃ A' cap', e = .returned (.slice A' xs.length cap') ∧ (∀ G : Option Nat, (∀ g, G = some g → g < w.heap.size) → LinesOff w' A' xs G) ∧ Below w.heap.size w w' := h A cap w hA hc
theorem linesOwn (l : List UInt8) (hl : l.length ≤ 4194304) : LinesOwn l (P.lines [] l) := fun A cap w hA hc => by
  by_cases hp : 0 < l.length
  · obtain ⟨bk, off, rfl, hbk, hb⟩ := hA hp
    refine (lines_any bk off cap l w hb hbk hc hl).mono ?_
    rintro e w' ⟨v, rfl, hown, hbel⟩
    obtain ⟨A', cap', hv, _, hA'⟩ := own_form hown
    subst hv
    refine ⟨A', cap', rfl, fun G hg hq => ?_, hbel⟩
    obtain ⟨g', rfl, hge, hlt, hcells⟩ := hA' hq
    exact ⟨g', 0, rfl, fun e => by have := hg _ e.symm; omega, hlt, fun j hj => ⟨by rw [Nat.zero_add]; exact hcells _ _ (lineCells_at _ j hj).1, by rw [Nat.zero_add]; exact hcells _ _ (lineCells_at _ j hj).2⟩⟩
  · obtain rfl : l = [] := List.length_eq_zero_iff.1 (by omega)
    refine (lines_none A cap w).mono ?_
    rintro e w' ⟨rfl, rfl⟩
    exact ⟨none, 0, rfl, fun _ _ h => absurd h (by simp [P.lines]), Below.refl _ _⟩
def JoinOwn (xs : List (List UInt8 × Bool)) (l : List UInt8) : Prop := ∀ (A : Option Addr) (cap : Nat) (w : World), LinesIn w A xs →
  Calls Tryd.prog 19 #[.slice A xs.length cap] w fun e w' => ∃ A' cap', e = .returned (.slice A' l.length cap') ∧ w'.ownsRow w.heap.size 5 1 (.slice A' l.length cap') l.length (byteCells l) ∧ Below w.heap.size w w'
theorem JoinOwn.call {l : List UInt8} {xs : List (List UInt8 × Bool)} (h : JoinOwn xs l) (A : Option Addr) (cap : Nat) (w : World) (hA : LinesIn w A xs) :
    Calls Tryd.prog 19 #[.slice A xs.length cap] w fun e w' => ∃ A' cap', e = .returned (.slice A' l.length cap') ∧ w'.ownsRow w.heap.size 5 1 (.slice A' l.length cap') l.length (byteCells l) ∧ Below w.heap.size w w' := h A cap w hA
theorem joinOwn (xs : List (List UInt8 × Bool)) (hb : P.bulk xs ≤ 4194304) : JoinOwn xs (P.join xs) := fun A cap w hA => by
  refine (join_any A cap xs w hb hA).mono ?_
  rintro e w' ⟨v, rfl, hown, hbel⟩
  obtain ⟨A', cap', rfl, _⟩ := own_form hown
  exact ⟨A', cap', rfl, hown, hbel⟩
end Go.Proofs.YtbilhdfoajahkaaDoor.T
