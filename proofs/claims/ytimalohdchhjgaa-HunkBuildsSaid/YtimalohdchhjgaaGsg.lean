/-
  What the reference's Make comes to.
-/
import Derived.Test.YtimalohdchhjgaaGsf
import Derived.Test.YtimalohdchhjgaaGmj
import Derived.Test.YtimalohdchhjgaaGmt
namespace Go.Proofs.Ytimalohdchhjgaa.S
open Go.RowKit
open T
open V (grown_of IntsIn numCells numCells_snoc ints_own drawn_below)
open I (alloc1 own_at own_below)
open N (Ln)

theorem line_at {w : World} {A : Option Addr} {l : List Ln} {i : Nat} (h : LinesIn w A l) (hi : i < l.length) : ∃ bk off, A = some ⟨bk, off, none⟩ ∧ bk < w.heap.size ∧ w.cell? ⟨bk, off + i * 2, none⟩ = some (.string ⟨(lnAt l i).1.toArray⟩) ∧ w.cell? ⟨bk, off + i * 2 + 1, none⟩ = some (.bool (lnAt l i).2) := by
  obtain ⟨bk, off, hA, hbk, hI⟩ := h (by omega)
  have he : lnAt l i = l[i] := by unfold lnAt; rw [List.getD_eq_getElem?_getD, List.getElem?_eq_getElem hi]; rfl
  rw [he]
  exact ⟨bk, off, hA, hbk, hI i hi⟩
theorem Rq.begin (w0 w1 : World) (hb : Below w0.heap.size w0 w1) : Rq w0 (w1.alloc (.cells #[] 47)) w1.heap.size (.slice (some ⟨w1.heap.size, 0, none⟩) 0 0) (.slice none 0 0) (.slice none 0 0) (.slice none 0 0) [] [] [] [] [] :=
  ⟨World.ownsRow_made (size := 2) (e := 47) w1 #[] 0 (Nat.le_refl _) (by unfold maxLen; omega) rfl, World.ownsRow_nil _ _ _ _, World.ownsRow_nil _ _ _ _, World.ownsRow_nil _ _ _ _, Apart.nil _, Apart.nil _, Apart.nil _, RawsOk.nil _ _, fun r hr => by simp at hr, hb.alloc hb.size _, hb.size, by simp⟩
/-- A line in memory of its own, and an edit of it behind others. -/
theorem Rq.line {w0 w w4 : World} {base : Nat} {vo v' : Value} {rs : List Raw} {es : List Ed} (h : Rq w0 w base vo (.slice none 0 0) (.slice none 0 0) (.slice none 0 0) rs es [] [] []) (t : Int) (x : Ln) (s : ByteArray) (hs : s = ⟨x.1.toArray⟩) {w1 : World} (hw1 : w1 = (w.alloc (.cells #[.string s, .bool x.2] 51)).alloc (.cells #[.int .i64 t, .slice (some ⟨w.heap.size, 0, none⟩) 1 1] 47)) {w2 : World} (hw2 : Below w1.heap.size w1 w2)
    (ho : w4.ownsRow base 47 2 v' (rs.length + 1) (rawCells rs ++ [.int .i64 t, .slice (some ⟨w.heap.size, 0, none⟩) 1 1])) (hg : w2.grownBy w4 vo.ownBlock) (hn : v'.ownBlock = vo.ownBlock ∨ v'.ownBlock = some w2.heap.size) :
    Rq w0 w4 base v' (.slice none 0 0) (.slice none 0 0) (.slice none 0 0) (rs ++ [Raw.mk t (some ⟨w.heap.size, 0, none⟩) 1 1]) (es ++ [(t, [x])]) [] [] [] := by
  have hb1 : Below w.heap.size w w1 := by rw [hw1]; exact (alloc1 w _).trans ((alloc1 _ _).mono (by simp))
  have hb2 : Below w.heap.size w w2 := hb1.trans (hw2.mono hb1.size)
  have hx : w2.heap[w.heap.size]? = some (.cells #[.string s, .bool x.2] 51 (0, 0)) := by
    have h0 := heap_alloc_new w (.cells #[.string s, .bool x.2] 51)
    have h1 : w1.heap[w.heap.size]? = some (.cells #[.string s, .bool x.2] 51 (0, 0)) := by
      rw [hw1, (alloc1 _ _).block _ (by simp)]
      exact h0
    exact (hw2.block _ (L.blk_lt h1)).trans h1
  have hro : RawOk 0 w2 (Raw.mk t (some ⟨w.heap.size, 0, none⟩) 1 1) (t, [x]) := ⟨rfl, rfl, fun _ => ⟨w.heap.size, 0, rfl, L.blk_lt hx, fun j hj => by
    simp only [List.length_cons, List.length_nil, Nat.zero_add] at hj
    obtain rfl : j = 0 := by omega
    simp only [List.getElem_cons_zero, Nat.zero_mul, Nat.add_zero]
    rw [← hs]
    exact ⟨L.blk_cell hx 0, L.blk_cell hx 1⟩⟩, by simp, (fun e => by simp at e), fun p _ => Nat.zero_le _⟩
  exact h.addO hb2 hg (by rw [List.length_append, rawCells_app]; exact ho) hn hro (fun p hp => by
    obtain rfl := Option.some.inj hp
    exact ⟨Nat.le_refl _, L.blk_lt hx⟩)

end Go.Proofs.Ytimalohdchhjgaa.S
