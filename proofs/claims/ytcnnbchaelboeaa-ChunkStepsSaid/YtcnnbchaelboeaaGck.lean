/-
  Which chunks are those of three texts: the contracts of chunk's Right and of the reference's; and of the reference's Same.
  Which chunks are those of three texts, in plain words: where one stands on the way through them.
-/
import Derived.Test.YtcnnbchaelboeaaGcj
import Derived.Laws.StructEq
import Derived.BigQuiet
namespace Go.Proofs.Ytcnnbchaelboeaa.Ck
set_option linter.unusedVariables false
set_option linter.unusedSimpArgs false
open Go.RowKit Go.Shelf
open T
open Mt (Pr fnd Rt right)
open N (PrIn PrIn.below)
open V (drawn_below grown_of)
open I (alloc1)

/-- Do chunks lie one behind the other, from t on, up to e? -/
def good (t e : Tr) (c : Ck) : Prop := (c.o = t.1 ∧ c.a = t.2.1 ∧ c.b = t.2.2) ∧ (0 ≤ c.on ∧ 0 ≤ c.an ∧ 0 ≤ c.bn) ∧ ¬ (c.on = 0 ∧ c.an = 0 ∧ c.bn = 0) ∧ (c.st = true → c.on = c.an ∧ c.an = c.bn) ∧ (c.on ≤ e.1 - t.1 ∧ c.an ≤ e.2.1 - t.2.1 ∧ c.bn ≤ e.2.2 - t.2.2)
instance (t e : Tr) (c : Ck) : Decidable (good t e c) := by unfold good; exact inferInstance
def next (t : Tr) (c : Ck) : Tr := (t.1 + c.on, t.2.1 + c.an, t.2.2 + c.bn)
def ckr : Tr → Tr → List Ck → Bool
  | t, e, [] => decide (t = e)
  | t, e, c :: r => decide (good t e c) && ckr (next t c) e r
def cright (l : List Ck) (o a b : Int) : Bool := ckr (0, 0, 0) (o, a, b) l
/-- Chunks in memory, to be read. -/
def CkIn (w : World) (A : Option Addr) (l : List Ck) : Prop := 0 < l.length → ∃ bk off, A = some ⟨bk, off, none⟩ ∧ bk < w.heap.size ∧ ∀ j (hj : j < l.length), w.cell? ⟨bk, off + j * 7, none⟩ = some (.bool l[j].st) ∧ w.cell? ⟨bk, off + j * 7 + 1, none⟩ = some (.int .i64 l[j].o) ∧ w.cell? ⟨bk, off + j * 7 + 2, none⟩ = some (.int .i64 l[j].on) ∧ w.cell? ⟨bk, off + j * 7 + 3, none⟩ = some (.int .i64 l[j].a) ∧ w.cell? ⟨bk, off + j * 7 + 4, none⟩ = some (.int .i64 l[j].an) ∧ w.cell? ⟨bk, off + j * 7 + 5, none⟩ = some (.int .i64 l[j].b) ∧ w.cell? ⟨bk, off + j * 7 + 6, none⟩ = some (.int .i64 l[j].bn)
theorem CkIn.below {w w' : World} {A : Option Addr} {l : List Ck} (h : CkIn w A l) (hb : Below w.heap.size w w') : CkIn w' A l := fun hp => by
  obtain ⟨bk, off, e, hlt, hl⟩ := h hp
  refine ⟨bk, off, e, Nat.lt_of_lt_of_le hlt hb.size, fun j hj => ?_⟩
  obtain ⟨h0, h1, h2, h3, h4, h5, h6⟩ := hl j hj
  exact ⟨(hb.cell (p := ⟨bk, off + j * 7, none⟩) hlt).trans h0, (hb.cell (p := ⟨bk, off + j * 7 + 1, none⟩) hlt).trans h1, (hb.cell (p := ⟨bk, off + j * 7 + 2, none⟩) hlt).trans h2, (hb.cell (p := ⟨bk, off + j * 7 + 3, none⟩) hlt).trans h3, (hb.cell (p := ⟨bk, off + j * 7 + 4, none⟩) hlt).trans h4, (hb.cell (p := ⟨bk, off + j * 7 + 5, none⟩) hlt).trans h5, (hb.cell (p := ⟨bk, off + j * 7 + 6, none⟩) hlt).trans h6⟩
theorem ckCells_at : ∀ (l : List Ck) (j : Nat) (h : j < l.length), (ckCells l)[j * 7]? = some (.bool l[j].st) ∧ (ckCells l)[j * 7 + 1]? = some (.int .i64 l[j].o) ∧ (ckCells l)[j * 7 + 2]? = some (.int .i64 l[j].on) ∧ (ckCells l)[j * 7 + 3]? = some (.int .i64 l[j].a) ∧ (ckCells l)[j * 7 + 4]? = some (.int .i64 l[j].an) ∧ (ckCells l)[j * 7 + 5]? = some (.int .i64 l[j].b) ∧ (ckCells l)[j * 7 + 6]? = some (.int .i64 l[j].bn)
  | [], j, h => by simp at h
  | c :: r, 0, _ => ⟨rfl, rfl, rfl, rfl, rfl, rfl, rfl⟩
  | c :: r, j + 1, h => by
    have := ckCells_at r j (by simpa using h)
    rw [show (j + 1) * 7 = j * 7 + 7 by omega, show j * 7 + 7 + 1 = j * 7 + 1 + 7 by omega, show j * 7 + 7 + 2 = j * 7 + 2 + 7 by omega, show j * 7 + 7 + 3 = j * 7 + 3 + 7 by omega, show j * 7 + 7 + 4 = j * 7 + 4 + 7 by omega, show j * 7 + 7 + 5 = j * 7 + 5 + 7 by omega, show j * 7 + 7 + 6 = j * 7 + 6 + 7 by omega]
    exact this
theorem ck_own {w : World} {base : Nat} {A : Option Addr} {cap : Nat} {l : List Ck} (h : w.ownsRow base 35 7 (.slice A l.length cap) l.length (ckCells l)) : CkIn w A l := fun hp => by
  obtain ⟨g, hA, _, hlt, hc⟩ := I.own_at h hp
  refine ⟨g, 0, hA, hlt, fun j hj => ?_⟩
  obtain ⟨h0, h1, h2, h3, h4, h5, h6⟩ := ckCells_at l j hj
  rw [Nat.zero_add]
  exact ⟨hc _ _ h0, hc _ _ h1, hc _ _ h2, hc _ _ h3, hc _ _ h4, hc _ _ h5, hc _ _ h6⟩

theorem ck_eql (w : World) (x : Ck) : (binOp .eql 35 (ckV x) (ckV x)).run Try.prog w = .ok (.bool true) w := by
  have u3 := Try.underlying3
  have u4 := Try.underlying4
  have hS : Try.prog.underlying 35 = some (.struct (Try.prog.fieldsOf 35)) := by kernel_rfl
  have hp : Try.prog.stoodInHeld 35 = false := by kernel_rfl
  have z3 : Try.prog.cellsOf 3 = 1 := by kernel_rfl
  have z4 : Try.prog.cellsOf 4 = 1 := by kernel_rfl
  simp only [ckV]
  rw [run_eql_struct, show (10000 : Nat) = 9999 + 1 from rfl, run_equalIn_agg w 9999 35 _ _ hS hp]
  simp only [Program.fieldsOf, Try.underlying35]
  go_simp
end Go.Proofs.Ytcnnbchaelboeaa.Ck

namespace Go.Proofs.Ytcnnbchaelboeaa.Ck
set_option linter.unusedVariables false
set_option linter.unusedSimpArgs false
open Go.RowKit
/-- Numbers that a machine's word holds. -/
def W64 (x : Int) : Prop := -9223372036854775808 ≤ x ∧ x ≤ 9223372036854775807
def WfC (c : Ck) : Prop := W64 c.o ∧ W64 c.on ∧ W64 c.a ∧ W64 c.an ∧ W64 c.b ∧ W64 c.bn
/-- Where Right stands: at the beginning, or not behind the end. -/
def Inv (t e : Tr) : Prop := (0 ≤ t.1 ∧ (t.1 = 0 ∨ t.1 ≤ e.1)) ∧ (0 ≤ t.2.1 ∧ (t.2.1 = 0 ∨ t.2.1 ≤ e.2.1)) ∧ (0 ≤ t.2.2 ∧ (t.2.2 = 0 ∨ t.2.2 ≤ e.2.2))
theorem Inv.next {t e : Tr} {c : Ck} (h : Inv t e) (hg : good t e c) : Inv (next t c) e := by
  obtain ⟨⟨h1, h2⟩, ⟨h3, h4⟩, ⟨h5, h6⟩⟩ := h
  obtain ⟨-, ⟨g1, g2, g3⟩, -, -, g4, g5, g6⟩ := hg
  unfold Inv Ck.next
  simp only
  omega
theorem ckr_at {l : List Ck} {k : Nat} (hk : k < l.length) (t e : Tr) : ckr t e (l.drop k) = (decide (good t e l[k]) && ckr (next t l[k]) e (l.drop (k + 1))) := by rw [List.drop_eq_getElem_cons hk, ckr]
end Go.Proofs.Ytcnnbchaelboeaa.Ck
