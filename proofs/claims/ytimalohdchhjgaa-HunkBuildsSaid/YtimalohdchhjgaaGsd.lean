/-
  What Make comes to.
-/
import Derived.Test.YtimalohdchhjgaaGsc
import Derived.Test.YtimalohdchhjgaaGmf
import Derived.Test.YtimalohdchhjgaaGmi
import Derived.Test.YtimalohdchhjgaaGmt
import Derived.Deep.RegionWith
namespace Go.Proofs.Ytimalohdchhjgaa.S
open Go.RowKit
open T
open V (grown_of IntsIn numCells numCells_snoc ints_own drawn_below)
open I (alloc1 own_at own_below)
open N (Ln)

def lnAt (l : List Ln) (i : Nat) : Ln := l.getD i ([], false)
/-- The edits of the steps, of a line each. -/
def mk (a b : List Ln) : Nat → Nat → List Int → List Ed
  | _, _, [] => []
  | i, j, t :: r => (t, [if t = 3 then lnAt b j else lnAt a i]) :: mk a b (if t = 3 then i else i + 1) (if t = 2 then j else j + 1) r
def mkE (a b : List Ln) : List Ed := mk a b 0 0 (M.way (N.row [] a) (N.row (N.known [] a) b))
theorem mk_len (a b : List Ln) : ∀ (s : List Int) (i j : Nat), (mk a b i j s).length = s.length ∧ tl (mk a b i j s) = s.length
  | [], _, _ => ⟨rfl, rfl⟩
  | t :: r, i, j => by
    obtain ⟨h1, h2⟩ := mk_len a b r (if t = 3 then i else i + 1) (if t = 2 then j else j + 1)
    constructor
    · rw [mk, List.length_cons, h1, List.length_cons]
    · rw [mk]
      simp only [tl, List.map_cons, List.sum_cons, List.length_cons, List.length_nil] at h2 ⊢
      rw [h2]; omega
theorem mk_do (a b : List Ln) : ∀ (s : List Int) (i j : Nat), (∀ t ∈ s, t = 1 ∨ t = 2 ∨ t = 3) → ∀ e ∈ mk a b i j s, okDo e.1 = true
  | [], _, _, _, e, he => by simp [mk] at he
  | t :: r, i, j, h, e, he => by
    rw [mk] at he
    rcases List.mem_cons.1 he with rfl | he
    · rcases h t (by simp) with rfl | rfl | rfl <;> rfl
    · exact mk_do a b r _ _ (fun u hu => h u (by simp [hu])) e he
theorem mk_ck {a b : List Ln} {s : List Int} {i j : Nat} (hs : s.length ≤ 800) (h : ∀ t ∈ s, t = 1 ∨ t = 2 ∨ t = 3) : ck (mk a b i j s) = 0 := by
  obtain ⟨h1, h2⟩ := mk_len a b s i j
  unfold ck
  rw [if_neg (by omega), if_pos]
  rw [List.all_eq_true]
  exact mk_do a b s i j h
theorem RawsOk.snoc {b : Nat} {w : World} {rs : List Raw} {es : List Ed} (h : RawsOk b w rs es) {r : Raw} {e : Ed} (hr : RawOk b w r e) : RawsOk b w (rs ++ [r]) (es ++ [e]) := by
  refine ⟨by simp [h.1], fun j h1 h2 => ?_⟩
  have hl := h.1
  by_cases hj : j < rs.length
  · rw [List.getElem_append_left hj, List.getElem_append_left (by omega)]
    exact h.2 j hj (by omega)
  · have hjr : j = rs.length := by rw [List.length_append] at h1; simp at h1; omega
    have e1 : (rs ++ [r])[j] = r := by subst hjr; simp
    have e2 : (es ++ [e])[j] = e := by
      have : j = es.length := by omega
      subst this; simp
    rw [e1, e2]
    exact hr
theorem RawsOk.nil (b : Nat) (w : World) : RawsOk b w [] [] := ⟨rfl, fun j h => by simp at h⟩
/-- A line of a row, cut out. -/
theorem raw_cut {w : World} {A : Option Addr} {l : List Ln} {c i : Nat} (d : Int) (h : LinesIn w A l) (hi : i < l.length) (hc : l.length ≤ c) : ∃ bk off, A = some ⟨bk, off, none⟩ ∧ RawOk 0 w ⟨d, some ⟨bk, off + i * 2, none⟩, 1, c - i⟩ (d, [lnAt l i]) := by
  obtain ⟨bk, off, hA, hbk, hI⟩ := h (by omega)
  have he : lnAt l i = l[i] := by unfold lnAt; rw [List.getD_eq_getElem?_getD, List.getElem?_eq_getElem hi]; rfl
  refine ⟨bk, off, hA, ⟨rfl, rfl, fun _ => ⟨bk, off + i * 2, rfl, hbk, fun j hj => ?_⟩, by simp; omega, fun e => by simp at e, fun p _ => Nat.zero_le _⟩⟩
  simp only [List.length_cons, List.length_nil, Nat.zero_add] at hj
  obtain rfl : j = 0 := by omega
  simp only [List.getElem_cons_zero, Nat.zero_mul, Nat.add_zero, he]
  exact hI i hi

theorem steps_cells {w : World} {base : Nat} {A : Option Addr} {cap : Nat} {s : List Int} (h : w.ownsRow base 45 1 (.slice A s.length cap) s.length (numCells s)) (hp : 0 < s.length) :
    ∃ g, A = some ⟨g, 0, none⟩ ∧ base ≤ g ∧ g < w.heap.size ∧ ∀ j (hj : j < s.length), w.cell? ⟨g, j, none⟩ = some (.int .i64 s[j]) := by
  obtain ⟨g, hA, hg, hlt, hc⟩ := own_at h hp
  exact ⟨g, hA, hg, hlt, fun j hj => hc j _ (by simp [numCells, List.getElem?_eq_getElem hj])⟩


end Go.Proofs.Ytimalohdchhjgaa.S
