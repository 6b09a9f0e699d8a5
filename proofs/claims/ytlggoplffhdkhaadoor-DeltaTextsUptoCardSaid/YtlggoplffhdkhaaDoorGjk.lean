/-
  The contract of the reference's Make (layer 15).
-/
import Derived.Test.YtlggoplffhdkhaaDoorGjj
import Derived.Deep.AppendLies
import Derived.StillTailTactics
namespace Go.Proofs.YtlggoplffhdkhaaDoor.Dl
set_option linter.unusedVariables false
set_option linter.unusedSimpArgs false
open Go.RowKit
open T
open V (drawn_below grown_of)
open I (It ItemsIn ItemsAt itCells itCells_snoc itCells_at alloc1 own_at own_below items_of_own items_own infoItem ItemsIn.below)

theorem itCells_len : ∀ l : List It, (itCells l).length = l.length * 6
  | [] => rfl
  | x :: r => by
    have := itCells_len r
    simp only [itCells, List.flatMap_cons, List.length_append, List.length_cons, List.length_nil] at this ⊢
    omega
/-- A row of at least one element, its block. -/
theorem own_cells {W : World} {base : Nat} {e : TypeId} {size n : Nat} {v : Value} {xs : List Value} (h : W.ownsRow base e size v n xs) (hn : 0 < n) : ∃ g cap cur, v = .slice (some ⟨g, 0, none⟩) n cap ∧ base ≤ g ∧ W.heap[g]? = some (.cells cur e (0, 0)) ∧ n ≤ cap ∧ cap ≤ maxLen ∧ cur.size = cap * size ∧ cur.toList.take (n * size) = xs := by
  rcases h.2 with ⟨_, h0⟩ | h
  · omega
  · exact h
/-- A cell of a row of one's own is stored. -/
theorem own_put {W : World} {base g j : Nat} {e : TypeId} {size n cap : Nat} {xs : List Value} {u : Value} (h : W.ownsRow base e size (.slice (some ⟨g, 0, none⟩) n cap) n xs) (hj : j < n * size) : (W.setCell ⟨g, j, none⟩ u).ownsRow base e size (.slice (some ⟨g, 0, none⟩) n cap) n (xs.set j u) := by
  refine ⟨by rw [List.length_set]; exact h.1, .inr ?_⟩
  rcases h.2 with ⟨h0, _⟩ | ⟨g', cap', cur, hv, hb, hg, h1, h2, h3, h4⟩
  · cases h0
  · cases hv
    exact ⟨g, cap, cur.setIfInBounds j u, rfl, hb, L.blk_set hg j u, h1, h2, by simpa using h3, by rw [Array.toList_setIfInBounds, List.take_set, h4]⟩
theorem blk_grown {W W' : World} {row : Option Nat} {i : Nat} {o : Obj} (h : W.heap[i]? = some o) (hg : W.grownBy W' row) (hr : row ≠ some i) : W'.heap[i]? = some o := (hg.block i (L.blk_lt h) (fun e => hr e.symm)).trans h
theorem own_stored {w : World} {base g i : Nat} {u : Value} {e e' : TypeId} {size n : Nat} {v : Value} {xs : List Value} {cs : Array Value} (h : w.ownsRow base e size v n xs) (hg : w.heap[g]? = some (.cells cs e' (0, 0))) (hne : e' ≠ e) : (w.setCell ⟨g, i, none⟩ u).ownsRow base e size v n xs :=
  h.kept (V.grown_set w ⟨g, i, none⟩ u) (V.own_ne h fun cs' he => by rw [hg] at he; injection he with he; injection he with _ he; exact hne he)
/-- Both walks at once: where the reference is. -/
structure Mst (a b : List It) (i j lst : Nat) (qs : List Pq) : Prop where
  eq : make a b = Dl.mk (a.drop i) (b.drop j) i (qs.map (·.p), lst)
  nb : ∀ q ∈ qs, 0 ≤ q.p.n ∧ q.p.n ≤ (i : Int)
  ib : ∀ q ∈ qs, q.p.its.length ≤ j
  ps : ∀ q, lst = 2 → qs.getLast? = some q → 0 < q.p.its.length
  ln : qs.length ≤ i + j
  ne : lst ≠ 0 → qs ≠ []
  hi : i ≤ a.length
  hj : j ≤ b.length
section
variable {a b : List It} {i j lst : Nat} {qs rs : List Pq} {q : Pq}
theorem Mst.begin (a b : List It) : Mst a b 0 0 0 [] := ⟨rfl, fun q hq => (by cases hq), fun q hq => (by cases hq), fun q _ h => (by cases h), Nat.le_refl _, fun h => absurd rfl h, Nat.zero_le _, Nat.zero_le _⟩
theorem Mst.last (h : Mst a b i j lst qs) (h0 : lst ≠ 0) : ∃ rs q, qs = rs ++ [q] := by
  have hn := h.ne h0
  exact ⟨qs.dropLast, qs.getLast hn, (List.dropLast_concat_getLast hn).symm⟩
theorem Mst.stay_last (h : Mst a b i j 1 (rs ++ [q])) (hi : i < a.length) (hj : j < b.length) (he : a[i] = b[j]) : Mst a b (i + 1) (j + 1) 1 (rs ++ [⟨⟨q.p.at_, q.p.n + 1, []⟩, none, 0⟩]) := by
  refine ⟨?_, fun x hx => ?_, fun x hx => ?_, (fun x e => by cases e), ?_, fun _ e => by simp at e, by omega, by omega⟩
  · rw [h.eq, List.drop_eq_getElem_cons hi, List.drop_eq_getElem_cons hj, he, mk_eq, stay, if_pos rfl, List.map_append, List.map_cons, List.map_nil, mdl_snoc, List.map_append, List.map_cons, List.map_nil]
  · rcases List.mem_append.1 hx with hx | hx
    · have := h.nb x (List.mem_append_left _ hx); omega
    · have := h.nb q (by simp)
      rw [List.mem_singleton.1 hx]; simp only; omega
  · rcases List.mem_append.1 hx with hx | hx
    · have := h.ib x (List.mem_append_left _ hx); omega
    · rw [List.mem_singleton.1 hx]; simp
  · have := h.ln; simp only [List.length_append, List.length_cons, List.length_nil] at this ⊢; omega
theorem Mst.stay_new (h : Mst a b i j lst qs) (h1 : lst ≠ 1) (hi : i < a.length) (hj : j < b.length) (he : a[i] = b[j]) : Mst a b (i + 1) (j + 1) 1 (qs ++ [⟨⟨(i : Int), 1, []⟩, none, 0⟩]) := by
  refine ⟨?_, fun x hx => ?_, fun x hx => ?_, (fun x e => by cases e), ?_, fun _ e => by simp at e, by omega, by omega⟩
  · rw [h.eq, List.drop_eq_getElem_cons hi, List.drop_eq_getElem_cons hj, he, mk_eq, stay, if_neg h1, List.map_append, List.map_cons, List.map_nil]
  · rcases List.mem_append.1 hx with hx | hx
    · have := h.nb x hx; omega
    · rw [List.mem_singleton.1 hx]; simp only; omega
  · rcases List.mem_append.1 hx with hx | hx
    · have := h.ib x hx; omega
    · rw [List.mem_singleton.1 hx]; simp
  · have := h.ln; simp only [List.length_append, List.length_cons, List.length_nil] at this ⊢; omega
theorem Mst.put_last (h : Mst a b i j 2 (rs ++ [q])) (hj : j < b.length) (he : b[j] ∉ a.drop i) (C : Option Addr) (cc : Nat) : Mst a b i (j + 1) 2 (rs ++ [⟨⟨0, 0, q.p.its ++ [b[j]]⟩, C, cc⟩]) := by
  refine ⟨?_, fun x hx => ?_, fun x hx => ?_, fun x _ e => ?_, ?_, fun _ e => by simp at e, h.hi, by omega⟩
  · rw [h.eq, List.drop_eq_getElem_cons hj, mk_put he, Dl.put, if_pos rfl, List.map_append, List.map_cons, List.map_nil, mdl_snoc, List.map_append, List.map_cons, List.map_nil]
  · rcases List.mem_append.1 hx with hx | hx
    · exact h.nb x (List.mem_append_left _ hx)
    · rw [List.mem_singleton.1 hx]; simp only; omega
  · rcases List.mem_append.1 hx with hx | hx
    · have := h.ib x (List.mem_append_left _ hx); omega
    · have := h.ib q (by simp)
      rw [List.mem_singleton.1 hx]; simp only [List.length_append, List.length_cons, List.length_nil]; omega
  · simp at e; rw [← e]; simp
  · have := h.ln; simp only [List.length_append, List.length_cons, List.length_nil] at this ⊢; omega
theorem Mst.put_new (h : Mst a b i j lst qs) (h2 : lst ≠ 2) (hj : j < b.length) (he : b[j] ∉ a.drop i) (C : Option Addr) (cc : Nat) : Mst a b i (j + 1) 2 (qs ++ [⟨⟨0, 0, [b[j]]⟩, C, cc⟩]) := by
  refine ⟨?_, fun x hx => ?_, fun x hx => ?_, fun x _ e => ?_, ?_, fun _ e => by simp at e, h.hi, by omega⟩
  · rw [h.eq, List.drop_eq_getElem_cons hj, mk_put he, Dl.put, if_neg h2, List.map_append, List.map_cons, List.map_nil]
  · rcases List.mem_append.1 hx with hx | hx
    · exact h.nb x hx
    · rw [List.mem_singleton.1 hx]; simp only; omega
  · rcases List.mem_append.1 hx with hx | hx
    · have := h.ib x hx; omega
    · rw [List.mem_singleton.1 hx]; simp only [List.length_cons, List.length_nil]; omega
  · simp at e; rw [← e]; simp
  · have := h.ln; simp only [List.length_append, List.length_cons, List.length_nil] at this ⊢; omega
theorem Mst.skip (h : Mst a b i j lst qs) (hi : i < a.length) (he : ∀ hj : j < b.length, a[i] ≠ b[j] ∧ b[j] ∈ a.drop i) : Mst a b (i + 1) j 0 qs := by
  refine ⟨?_, fun x hx => by have := h.nb x hx; omega, h.ib, (fun x e => by cases e), by have := h.ln; omega, fun e => absurd rfl e, by omega, h.hj⟩
  rw [h.eq]
  by_cases hj : j < b.length
  · obtain ⟨h1, h2⟩ := he hj
    rw [List.drop_eq_getElem_cons hi] at h2 ⊢
    rw [List.drop_eq_getElem_cons hj]
    exact mk_skip h1 ((List.mem_cons.1 h2).resolve_left (fun e => h1 e.symm)) _ _ _
  · rw [List.drop_eq_nil_of_le (by omega : b.length ≤ j), mk_nil, mk_nil]
theorem Mst.done (h : Mst a b i j lst qs) (hi : ¬ i < a.length) (hj : ¬ j < b.length) : make a b = qs.map (·.p) := by
  rw [h.eq, List.drop_eq_nil_of_le (by omega : b.length ≤ j), mk_nil]
end
/-- A row of parts, with its last one's cells. -/
structure Pl (W : World) (base g cap : Nat) (rs : List Pq) (q : Pq) : Prop where
  pw : Pw W base (.slice (some ⟨g, 0, none⟩) (rs.length + 1) cap) (rs ++ [q])
section
variable {W W' : World} {base g cap n : Nat} {rs : List Pq} {q q' : Pq}
theorem Pl.kept (h : Pl W base g cap rs q) (hb : Below W.heap.size W W') : Pl W' base g cap rs q := ⟨h.pw.below hb⟩
theorem Pl.block (h : Pl W base g cap rs q) : base ≤ g ∧ g < W.heap.size := World.ownsRow.lt h.pw.own g rfl
theorem Pl.last_cells (h : Pl W base g cap rs q) : W.cell? ⟨g, rs.length * 3, none⟩ = some (.int .i64 q.p.at_) ∧ W.cell? ⟨g, rs.length * 3 + 1, none⟩ = some (.int .i64 q.p.n) ∧ W.cell? ⟨g, rs.length * 3 + 2, none⟩ = some (.slice q.C q.p.its.length q.cc) ∧ ∀ i, W.frozen? ⟨g, i, none⟩ = false := by
  have e : (rs ++ [q]).length = rs.length + 1 := by simp
  have ho := h.pw.own
  have ho2 : W.ownsRow base 27 3 (.slice (some ⟨g, 0, none⟩) (rs ++ [q]).length cap) (rs ++ [q]).length (pqCells (rs ++ [q])) := by rw [e] at ho ⊢; exact ho
  obtain ⟨g', hA, _, hlt, hc⟩ := own_at ho2 (by omega)
  obtain rfl : g = g' := by injection hA with e; injection e
  obtain ⟨h0, h1, h2⟩ := pqCells_at (rs ++ [q]) rs.length (by omega)
  simp only [List.getElem_concat_length] at h0 h1 h2
  obtain ⟨g'', cap'', cur, hv, _, hg, _⟩ := own_cells ho2 (by omega)
  injection hv with e1 e2 e3
  injection e1 with e1
  injection e1 with e1
  subst e1
  exact ⟨hc _ _ h0, hc _ _ h1, hc _ _ h2, fun i => L.blk_free hg i⟩
theorem pq_set (rs : List Pq) (q q' : Pq) : ((((pqCells (rs ++ [q])).set (rs.length * 3) (.int .i64 q'.p.at_)).set (rs.length * 3 + 1) (.int .i64 q'.p.n)).set (rs.length * 3 + 2) (.slice q'.C q'.p.its.length q'.cc)) = pqCells (rs ++ [q']) := by
  have hl := pqCells_length rs
  rw [pqCells_snoc, pqCells_snoc, ← hl]
  simp [List.set_append]
theorem Pl.put (h : Pl W base g cap rs q) (hq : W.ownsRow base 41 6 (.slice q'.C q'.p.its.length q'.cc) q'.p.its.length (itCells q'.p.its))
    (hw : W' = ((W.setCell ⟨g, rs.length * 3, none⟩ (.int .i64 q'.p.at_)).setCell ⟨g, rs.length * 3 + 1, none⟩ (.int .i64 q'.p.n)).setCell ⟨g, rs.length * 3 + 2, none⟩ (.slice q'.C q'.p.its.length q'.cc)) :
    Pw W' base (.slice (some ⟨g, 0, none⟩) (rs.length + 1) cap) (rs ++ [q']) ∧ Below base W W' := by
  subst hw
  have e : (rs ++ [q]).length = rs.length + 1 := by simp
  have e' : (rs ++ [q']).length = rs.length + 1 := by simp
  have ho := h.pw.own
  have hg0 := h.block.1
  obtain ⟨g'', cap'', cur, hv, _, hg, _⟩ := own_cells ho (by omega)
  injection hv with e1 e2 e3
  injection e1 with e1
  injection e1 with e1
  subst e1
  have s1 := L.blk_set hg (rs.length * 3) (.int .i64 q'.p.at_)
  have s2 := L.blk_set s1 (rs.length * 3 + 1) (.int .i64 q'.p.n)
  have keep : ∀ {v : Value} {m : Nat} {xs : List Value}, W.ownsRow base 41 6 v m xs → (((W.setCell ⟨g, rs.length * 3, none⟩ (.int .i64 q'.p.at_)).setCell ⟨g, rs.length * 3 + 1, none⟩ (.int .i64 q'.p.n)).setCell ⟨g, rs.length * 3 + 2, none⟩ (.slice q'.C q'.p.its.length q'.cc)).ownsRow base 41 6 v m xs := fun hr =>
    own_stored (own_stored (own_stored hr hg (by decide)) s1 (by decide)) s2 (by decide)
  refine ⟨⟨?_, fun x hx => ?_⟩, ?_⟩
  · rw [e']
    rw [e] at ho
    have p1 := own_put (u := .int .i64 q'.p.at_) ho (show rs.length * 3 < (rs.length + 1) * 3 by omega)
    have p2 := own_put (u := .int .i64 q'.p.n) p1 (show rs.length * 3 + 1 < (rs.length + 1) * 3 by omega)
    have p3 := own_put (u := .slice q'.C q'.p.its.length q'.cc) p2 (show rs.length * 3 + 2 < (rs.length + 1) * 3 by omega)
    rw [pq_set] at p3
    exact p3
  · rcases List.mem_append.1 hx with hx | hx
    · exact keep (h.pw.its x (List.mem_append_left _ hx))
    · rw [List.mem_singleton.1 hx]; exact keep hq
  · exact (((Below.refl base W).setCell (p := ⟨g, rs.length * 3, none⟩) hg0 _).setCell (p := ⟨g, rs.length * 3 + 1, none⟩) hg0 _).setCell (p := ⟨g, rs.length * 3 + 2, none⟩) hg0 _
theorem Pl.of {VA : Option Addr} {vc : Nat} (h : Pw W base (.slice VA (rs ++ [q]).length vc) (rs ++ [q])) : ∃ g, VA = some ⟨g, 0, none⟩ ∧ Pl W base g vc rs q := by
  obtain ⟨g, hA, -⟩ := own_at h.own (by simp)
  subst hA
  have e : (rs ++ [q]).length = rs.length + 1 := by simp
  exact ⟨g, rfl, ⟨by rw [e] at h; exact h⟩⟩
end
section
variable {W W' : World} {bx bk o : Nat} {u0 u1 u2 u3 u4 u5 u6 : Value}
theorem si_keep {W W' : World} {n : Nat} (h : W.cell? ⟨bx, 2, none⟩ = some u0 ∧ W.cell? ⟨bk, o, none⟩ = some u1 ∧ W.cell? ⟨bk, o + 1, none⟩ = some u2 ∧ W.cell? ⟨bk, o + 2, none⟩ = some u3 ∧ W.cell? ⟨bk, o + 3, none⟩ = some u4 ∧ W.cell? ⟨bk, o + 4, none⟩ = some u5 ∧ W.cell? ⟨bk, o + 5, none⟩ = some u6) (hb : Below n W W') (hx : bx < n) (hk : bk < n) :
    W'.cell? ⟨bx, 2, none⟩ = some u0 ∧ W'.cell? ⟨bk, o, none⟩ = some u1 ∧ W'.cell? ⟨bk, o + 1, none⟩ = some u2 ∧ W'.cell? ⟨bk, o + 2, none⟩ = some u3 ∧ W'.cell? ⟨bk, o + 3, none⟩ = some u4 ∧ W'.cell? ⟨bk, o + 4, none⟩ = some u5 ∧ W'.cell? ⟨bk, o + 5, none⟩ = some u6 :=
  ⟨(hb.cell (p := ⟨bx, 2, none⟩) hx).trans h.1, (hb.cell (p := ⟨bk, o, none⟩) hk).trans h.2.1, (hb.cell (p := ⟨bk, o + 1, none⟩) hk).trans h.2.2.1, (hb.cell (p := ⟨bk, o + 2, none⟩) hk).trans h.2.2.2.1, (hb.cell (p := ⟨bk, o + 3, none⟩) hk).trans h.2.2.2.2.1, (hb.cell (p := ⟨bk, o + 4, none⟩) hk).trans h.2.2.2.2.2.1, (hb.cell (p := ⟨bk, o + 5, none⟩) hk).trans h.2.2.2.2.2.2⟩
theorem far_cell {W : World} {g i bx k : Nat} {u v : Value} (hne : bx ≠ g) (h : W.cell? ⟨bx, k, none⟩ = some v) : (W.setCell ⟨g, i, none⟩ u).cell? ⟨bx, k, none⟩ = some v := (World.cell?_of_block (a := ⟨bx, k, none⟩) (L.blk_far hne u)).trans h
theorem si_put {g i0 i1 i2 : Nat} {x0 x1 x2 : Value} (h : W.cell? ⟨bx, 2, none⟩ = some u0 ∧ W.cell? ⟨bk, o, none⟩ = some u1 ∧ W.cell? ⟨bk, o + 1, none⟩ = some u2 ∧ W.cell? ⟨bk, o + 2, none⟩ = some u3 ∧ W.cell? ⟨bk, o + 3, none⟩ = some u4 ∧ W.cell? ⟨bk, o + 4, none⟩ = some u5 ∧ W.cell? ⟨bk, o + 5, none⟩ = some u6) (hx : bx ≠ g) (hk : bk ≠ g)
    (hw : W' = ((W.setCell ⟨g, i0, none⟩ x0).setCell ⟨g, i1, none⟩ x1).setCell ⟨g, i2, none⟩ x2) :
    W'.cell? ⟨bx, 2, none⟩ = some u0 ∧ W'.cell? ⟨bk, o, none⟩ = some u1 ∧ W'.cell? ⟨bk, o + 1, none⟩ = some u2 ∧ W'.cell? ⟨bk, o + 2, none⟩ = some u3 ∧ W'.cell? ⟨bk, o + 3, none⟩ = some u4 ∧ W'.cell? ⟨bk, o + 4, none⟩ = some u5 ∧ W'.cell? ⟨bk, o + 5, none⟩ = some u6 := by
  subst hw
  exact ⟨far_cell hx (far_cell hx (far_cell hx h.1)), far_cell hk (far_cell hk (far_cell hk h.2.1)), far_cell hk (far_cell hk (far_cell hk h.2.2.1)), far_cell hk (far_cell hk (far_cell hk h.2.2.2.1)), far_cell hk (far_cell hk (far_cell hk h.2.2.2.2.1)), far_cell hk (far_cell hk (far_cell hk h.2.2.2.2.2.1)), far_cell hk (far_cell hk (far_cell hk h.2.2.2.2.2.2))⟩
end
set_option maxRecDepth 100000 in
set_option maxHeartbeats 16000000 in
theorem rmake_any {A B : Option Addr} {ca cb : Nat} {a b : List It} (w : World) (hA : Ix w A ca a) (hB : Ix w B cb b) (ha : a.length ≤ 1000) (hb : b.length ≤ 1000) :
    Calls Tryd.prog 14 #[.slice A a.length ca, .slice B b.length cb] w (PtEnd w (make a b)) := by
  obtain ⟨i0, hi0, hz0, hz1, hz2⟩ := info_parts infoPart
  obtain ⟨j0, hj0, hy0, hy1, hy2⟩ := info_parts infoItem
  obtain ⟨w1, hw1⟩ : ∃ W : World, W = w.alloc (.cells #[] 27) := ⟨_, rfl⟩
  have HB1 := Lib.hid (show Below w.heap.size w w1 by rw [hw1]; exact alloc1 _ _)
  have HP1 : Hid (Pw w1 w.heap.size (.slice (some ⟨w.heap.size, 0, none⟩) 0 0) []) := Lib.hid ⟨by rw [hw1]; exact World.ownsRow_made w #[] 0 (Nat.le_refl _) (Nat.zero_le _) rfl, fun q hq => by cases hq⟩
  have HA := Lib.hid hA
  have HB := Lib.hid hB
  have HST := Lib.hid (Mst.begin a b)
  obtain ⟨mk0, hmk0⟩ : ∃ q, q = make a b := ⟨_, rfl⟩
  have HMK := Lib.hid hmk0
  rw [← hmk0]
  have hra := hA.r
  have HZA := Lib.hid hA.z
  clear hA hB hmk0
  go_enter Tryd.func14, Tryd.ntmps14
  go_wp2_with fail
  rw [← hw1]
  clear hw1
  go_loopg [5, 6, 7, 8] (a.length + b.length) (fun m v vi vj vl wr => ∃ (i j lst : Nat) (qs : List Pq) (VA : Option Addr) (vc : Nat), v = .slice VA qs.length vc ∧ vi = .int .i64 (i : Int) ∧ vj = .int .i64 (j : Int) ∧ vl = .int .i64 (lst : Int) ∧ (a.length - i) + (b.length - j) ≤ m ∧ Hid (Pw wr w.heap.size (.slice VA qs.length vc) qs) ∧ Hid (Below w.heap.size w wr) ∧ Hid (Mst a b i j lst qs))
  case atStart => exact ⟨0, 0, 0, [], _, 0, rfl, rfl, rfl, rfl, by omega, HP1, HB1, HST⟩
  case round =>
    clear HST HP1 HB1
    obtain ⟨i, j, lst, qs, VA, vc, rfl, rfl, rfl, rfl, hm, HP, HBR, HS⟩ := hrel
    have hi := HS.out.hi
    have hj := HS.out.hj
    have hln := HS.out.ln
    have h0i : (0 : Int) ≤ (i : Int) := by omega
    have h0j : (0 : Int) ≤ (j : Int) := by omega
    have hwi : IntKind.i64.wrap ((i : Int) + 1) = ((i + 1 : Nat) : Int) := by rw [IntKind.wrap_i64]; omega
    have hwj : IntKind.i64.wrap ((j : Int) + 1) = ((j + 1 : Nat) : Int) := by rw [IntKind.wrap_i64]; omega
    have HAr := Lib.hid (HA.out.below HBR.out)
    have HBr := Lib.hid (HB.out.below HBR.out)
    have hbs : w.heap.size ≤ wr.heap.size := HBR.out.size
    by_cases hil : i < a.length
    · have hii : (i : Int) < (a.length : Int) := by omega
      by_cases hjl : j < b.length
      · have hji : (j : Int) < (b.length : Int) := by omega
        obtain ⟨bk1, o1, hAe, hbk1, g0, g1, g2, g3, g4, g5⟩ := it_at HAr.out.i hil
        obtain ⟨bk, off, hBe, hbk, k0, k1, k2, k3, k4, k5⟩ := it_at HBr.out.i hjl
        subst hAe hBe
        by_cases he : a[i] = b[j]
        · skip
          rw [← he] at k0 k1 k2 k3 k4 k5
          have HE := Lib.hid he
          obtain ⟨y, hy⟩ : ∃ y, y = a[i] := ⟨_, rfl⟩
          rw [← hy] at g0 g1 g2 g3 g4 g5 k0 k1 k2 k3 k4 k5
          clear hy he
          have qE := fun w => it_eql w y y
          rw [decide_eq_true rfl] at qE
          simp only [itV] at qE
          go_wp2_with fail
          go_quiet (fail)
          generalize hwq : wr.drewN nq = w2 at *
          have HB2 := Lib.hid (show Below wr.heap.size wr w2 by rw [← hwq]; exact drawn_below _ _)
          have HP2 := Lib.hid (HP.out.below HB2.out)
          have HBR2 := Lib.hid (HBR.out.trans (HB2.out.mono hbs))
          have hs2 := HBR2.out.size
          clear hwq HB2 g0 g1 g2 g3 g4 g5 k0 k1 k2 k3 k4 k5 qE hbk hbk1 HP HBR
          by_cases h1 : lst = 1
          · subst h1
            obtain ⟨rs, q, rfl⟩ := HS.out.last (by decide)
            have HM := Lib.hid (HS.out.stay_last hil hjl HE.out)
            have hnb := HS.out.nb q (by simp)
            have hib := HS.out.ib q (by simp)
            obtain ⟨g, hVA, hpl⟩ := Pl.of HP2.out
            subst hVA
            have HPL := Lib.hid hpl
            obtain ⟨z0, z1, z2, -⟩ := hpl.last_cells
            obtain ⟨nn, hnn⟩ : ∃ n, n = (rs ++ [q]).length := ⟨_, rfl⟩
            have hnr : nn = rs.length + 1 := by rw [hnn]; simp
            rw [← hnn]
            rw [← hnn] at hln
            have HNN := Lib.hid hnn
            have hwl : IntKind.i64.wrap ((nn : Int) - 1) = (rs.length : Int) := by rw [IntKind.wrap_i64]; omega
            have h0r : (0 : Int) ≤ (rs.length : Int) := by omega
            have hrn : (rs.length : Int) < (nn : Int) := by omega
            have HNR := Lib.hid hnr
            clear hnn hnr
            have hwn : IntKind.i64.wrap (q.p.n + 1) = q.p.n + 1 := by rw [IntKind.wrap_i64]; omega
            obtain ⟨w3, hw3⟩ : ∃ W : World, W = w2.alloc (.cells #[.int .i64 q.p.at_, .int .i64 q.p.n, .slice q.C q.p.its.length q.cc] 27) := ⟨_, rfl⟩
            have HB3 := Lib.hid (show Below w2.heap.size w2 w3 by rw [hw3]; exact alloc1 _ _)
            have HP3 := Lib.hid (HPL.out.kept HB3.out)
            obtain ⟨y0, y1, y2, zf⟩ := HP3.out.last_cells
            have f0 := zf (rs.length * 3)
            have f1 := zf (rs.length * 3 + 1)
            have f2 := zf (rs.length * 3 + 2)
            rw [hw3] at f0 f1 f2 y0 y1 y2
            obtain ⟨w4, hw4⟩ : ∃ W : World, W = ((w3.setCell ⟨g, rs.length * 3, none⟩ (.int .i64 q.p.at_)).setCell ⟨g, rs.length * 3 + 1, none⟩ (.int .i64 (q.p.n + 1))).setCell ⟨g, rs.length * 3 + 2, none⟩ (.slice none 0 0) := ⟨_, rfl⟩
            have HFI := Lib.hid (HP3.out.put (q' := ⟨⟨q.p.at_, q.p.n + 1, []⟩, none, 0⟩) (World.ownsRow_nil _ _ _ _) hw4)
            have HBF := Lib.hid (show Below w.heap.size w w4 from HBR2.out.trans ((HB3.out.mono hs2).trans HFI.out.2))
            rw [hw3] at hw4
            clear hpl zf hnb hib
            go_wp2_with fail
            rw [← hw4]
            clear hw4 hw3 f0 f1 f2 z0 z1 z2 y0 y1 y2
            go_roundg ((a.length - (i + 1)) + (b.length - (j + 1)))
            case rel => exact ⟨i + 1, j + 1, 1, rs ++ [⟨⟨q.p.at_, q.p.n + 1, []⟩, none, 0⟩], some ⟨g, 0, none⟩, vc, by rw [HNN.out]; simp, by go_num, by go_num, rfl, Nat.le_refl _, Lib.hid (by rw [List.length_append]; exact HFI.out.1), HBF, HM⟩
            case measure => omega
          · have HM := Lib.hid (HS.out.stay_new h1 hil hjl HE.out)
            have h1' : ((lst : Int) == 1) = false := beq_eq_false_iff_ne.2 (by omega)
            have HP3 := Lib.hid (HP2.out.below (alloc1 w2 (.cells #[.int .i64 (i : Int), .int .i64 1, .slice none 0 0] 27)))
            have HB3 := Lib.hid (HBR2.out.trans ((alloc1 w2 (.cells #[.int .i64 (i : Int), .int .i64 1, .slice none 0 0] 27)).mono hs2))
            clear HP2 HBR2
            go_wp2_with (at_builtin; refine wpList_append_own _ rfl (.tmp 62) (.tmp 65) 24 rfl w.heap.size 27 i0 _ 3 40 Tryd.underlying24 hi0 hz0 hz1 hz2 rfl (by decide) _ qs.length (pqCells qs) rfl HP3.out.own ⟨w2.heap.size, 0, none⟩ 1 1 [.int .i64 (i : Int), .int .i64 1, .slice none 0 0] rfl rfl (World.news_of_block (heap_alloc_new w2 _)) ?c2 ?c3 ?c4 ?c5 ?_)
            case c2 => intro u hu; simp at hu; rcases hu with rfl | rfl | rfl <;> rfl
            case c3 => simp only [maxLen]; omega
            case c4 => omega
            case c5 => first | omega | (simp; omega)
            intro v1 w4 ho4 hg4 _
            have HP4 := Lib.hid (HP3.out.add (q := ⟨⟨(i : Int), 1, []⟩, none, 0⟩) (World.ownsRow_nil _ _ _ _) hg4 ho4)
            have HB4 := Lib.hid (HB3.out.grown hg4 (by simp; omega) (fun k e => (World.ownsRow.lt HP3.out.own k e).1))
            obtain ⟨RA, rcap, rfl, -, -⟩ := own_form HP4.out.own
            clear ho4 hg4 HP3 HB3
            go_wp2_with fail
            go_roundg ((a.length - (i + 1)) + (b.length - (j + 1)))
            case rel => exact ⟨i + 1, j + 1, 1, qs ++ [⟨⟨(i : Int), 1, []⟩, none, 0⟩], RA, rcap, rfl, by go_num, by go_num, rfl, Nat.le_refl _, HP4, HB4, HM⟩
            case measure => omega
        · skip
          have hbk0 : bk < w.heap.size := by
            obtain ⟨_, _, e, h, -⟩ := it_at HB.out.i hjl
            injection e with e
            injection e with e1 e2
            rw [e1]; exact h
          obtain ⟨y, hy⟩ : ∃ y, y = b[j] := ⟨_, rfl⟩
          have HY := Lib.hid hy
          obtain ⟨yt, hyt⟩ : ∃ s : ByteArray, s = ⟨y.tx.toArray⟩ := ⟨_, rfl⟩
          have HYT := Lib.hid hyt
          rw [← hy] at k0 k1 k2 k3 k4 k5
          rw [← hyt] at k4
          clear hyt
          have hne : ¬ a[i] = y := by rw [hy]; exact he
          have HE := Lib.hid hne
          obtain ⟨x, hx⟩ : ∃ x, x = a[i] := ⟨_, rfl⟩
          rw [← hx] at g0 g1 g2 g3 g4 g5 hne
          clear hx
          have qE := fun w => it_eql w x y
          rw [decide_eq_false hne] at qE
          simp only [itV] at qE
          rw [← HYT.out] at qE
          clear hne he hy
          go_wp2_with fail
          go_quiet (fail)
          clear qE g0 g1 g2 g3 g4 g5
          generalize hwq : wr.drewN nq = w2 at *
          have HB2 := Lib.hid (show Below wr.heap.size wr w2 by rw [← hwq]; exact drawn_below _ _)
          have HP2 := Lib.hid (HP.out.below HB2.out)
          have HBR2 := Lib.hid (HBR.out.trans (HB2.out.mono hbs))
          have hs2 := HBR2.out.size
          have HA2 := Lib.hid (HAr.out.below HB2.out)
          have hbk2 := Nat.lt_of_lt_of_le hbk HB2.out.size
          have HKC : Hid (∀ W, Below w2.heap.size w2 W → W.cell? ⟨bk, off + j * 6, none⟩ = some (.int .i64 y.id) ∧ W.cell? ⟨bk, off + j * 6 + 1, none⟩ = some (.int .i64 y.lv) ∧ W.cell? ⟨bk, off + j * 6 + 2, none⟩ = some (.int .u64 (y.ct : Int)) ∧ W.cell? ⟨bk, off + j * 6 + 3, none⟩ = some (.bool y.an) ∧ W.cell? ⟨bk, off + j * 6 + 4, none⟩ = some (.string yt) ∧ W.cell? ⟨bk, off + j * 6 + 5, none⟩ = some (.bool y.ba)) := Lib.hid (fun W h => by
            have hz := fun k => (HB2.out.trans (h.mono HB2.out.size)).cell (p := ⟨bk, k, none⟩) hbk
            exact ⟨(hz _).trans k0, (hz _).trans k1, (hz _).trans k2, (hz _).trans k3, (hz _).trans k4, (hz _).trans k5⟩)
          clear hwq hbk1 HB2 k0 k1 k2 k3 k4 k5 hbk HP HBR
          have hsl := fun W => drop_is (B := some ⟨bk1, o1, none⟩) (n := a.length) (c := ca) (k := i) hi hra HZA.out W
          have hii2 : (i : Int) ≤ (a.length : Int) := by omega
          have HAM := Lib.hid (fun (W : World) (h : Below w2.heap.size w2 W) => among_any (dropP (some ⟨bk1, o1, none⟩) ca i) (ca - i) (a.drop i) y W ((drop_ix HA2.out hi).below h).i (by rw [List.length_drop]; omega))
          simp only [List.length_drop, itV] at HAM
          rw [← HYT.out] at HAM
          obtain ⟨k0, k1, k2, k3, k4, k5⟩ := HKC.out w2 (Below.refl _ _)
          go_wp2_with fail
          go_still_tail 12, (by kernel_rfl)
          change wpList _ _ _ _ _ (World.drew _)
          clear k0 k1 k2 k3 k4 k5 hsl
          go_wp2_with fail
          with_reducible refine (HAM.out _ ((Below.refl _ w2).drew)).mono ?_
          rintro e w3 ⟨rfl, hb3'⟩
          have hb3 : Below w2.heap.size w2 w3 := (Below.refl _ _).drew.trans hb3'
          have HP3 := Lib.hid (HP2.out.below hb3)
          have HB3 := Lib.hid (HBR2.out.trans (hb3.mono hs2))
          have HKD := Lib.hid (fun (W : World) (h : Below w3.heap.size w3 W) => HKC.out W (hb3.trans (h.mono hb3.size)))
          have hbk3 := Nat.lt_of_lt_of_le hbk2 hb3.size
          have hs3 : w.heap.size ≤ w3.heap.size := HB3.out.size
          clear hb3 hb3' HAM HP2 HBR2 HKC HA2
          by_cases hnm : y ∈ a.drop i
          · rw [decide_eq_true hnm]
            have HM := Lib.hid (HS.out.skip hil (fun _ => ⟨by rw [← HY.out]; exact HE.out, by rw [← HY.out]; exact hnm⟩))
            go_wp2_with fail
            go_roundg ((a.length - (i + 1)) + (b.length - j))
            case rel => exact ⟨i + 1, j, 0, qs, VA, vc, rfl, by go_num, rfl, rfl, Nat.le_refl _, HP3, HB3, HM⟩
            case measure => omega
          · skip
            rw [decide_eq_false hnm]
            by_cases h2 : lst = 2
            · subst h2
              obtain ⟨rs, q, rfl⟩ := HS.out.last (by decide)
              have HMS : Hid (∀ C cc, Mst a b i (j + 1) 2 (rs ++ [⟨⟨0, 0, q.p.its ++ [y]⟩, C, cc⟩])) := Lib.hid (fun C cc => by have h := HS.out.put_last hjl (by rw [← HY.out]; exact hnm) C cc; rw [← HY.out] at h; exact h)
              have hpos := HS.out.ps q rfl (by simp)
              have hnb := HS.out.nb q (by simp)
              have hib := HS.out.ib q (by simp)
              obtain ⟨g, hVA, hpl⟩ := Pl.of HP3.out
              subst hVA
              have HPL := Lib.hid hpl
              obtain ⟨z0, z1, z2, -⟩ := hpl.last_cells
              obtain ⟨nn, hnn⟩ : ∃ n, n = (rs ++ [q]).length := ⟨_, rfl⟩
              have hnr : nn = rs.length + 1 := by rw [hnn]; simp
              rw [← hnn]
              rw [← hnn] at hln
              have HNN := Lib.hid hnn
              have hwl : IntKind.i64.wrap ((nn : Int) - 1) = (rs.length : Int) := by rw [IntKind.wrap_i64]; omega
              have h0r : (0 : Int) ≤ (rs.length : Int) := by omega
              have hrn : (rs.length : Int) < (nn : Int) := by omega
              have HNR := Lib.hid hnr
              clear hnn hnr
              obtain ⟨w4, hw4⟩ : ∃ W : World, W = w3.alloc (.cells #[.int .i64 q.p.at_, .int .i64 q.p.n, .slice q.C q.p.its.length q.cc] 27) := ⟨_, rfl⟩
              have HB4 := Lib.hid (show Below w3.heap.size w3 w4 by rw [hw4]; exact alloc1 _ _)
              have HX4 := Lib.hid (show w4.heap[w3.heap.size]? = some (.cells #[.int .i64 q.p.at_, .int .i64 q.p.n, .slice q.C q.p.its.length q.cc] 27 (0, 0)) by rw [hw4]; exact heap_alloc_new w3 _)
              go_upto_region 17 with fail
              rw [← hw4]
              have HPLA := Lib.hid (HPL.out.kept HB4.out)
              have HBA := Lib.hid (HB3.out.trans (HB4.out.mono hs3))
              have hsA : w.heap.size ≤ w4.heap.size := HBA.out.size
              have hgb := HPL.out.block
              obtain ⟨bx, hbxe⟩ : ∃ n, n = w3.heap.size := ⟨_, rfl⟩
              rw [← hbxe] at HX4 hgb ⊢
              have hbx : bx < w4.heap.size := L.blk_lt HX4.out
              have hbg : bx ≠ g := by omega
              have hbk4 : bk < w4.heap.size := Nat.lt_of_lt_of_le hbk3 HB4.out.size
              have hkg : bk ≠ g := by omega
              have hc2 := L.blk_cell HX4.out 2
              simp only [List.getElem?_toArray, List.getElem?_cons_zero, List.getElem?_cons_succ] at hc2
              have HSI := Lib.hid (And.intro hc2 (HKD.out w4 HB4.out))
              clear hc2
              have HQI := Lib.hid (items_own (HPLA.out.pw.its q (by simp)))
              clear hw4 HB4 HX4 hgb hbxe HPL HP3 HB3 HKD z0 z1 z2 hpl hbk3 hs3 hnb
              generalize w4 = w3 at *
              have HP3 := HPLA
              have HB3 := HBA
              have hbs3 := hsA
              have hbk := hbk4
              clear HPLA HBA hsA hbk4
              refine wp_region_held_drew (S := (fun W => W.cell? ⟨bx, 2, none⟩ = some (.slice q.C q.p.its.length q.cc) ∧ W.cell? ⟨bk, off + j * 6, none⟩ = some (.int .i64 y.id) ∧ W.cell? ⟨bk, off + j * 6 + 1, none⟩ = some (.int .i64 y.lv) ∧ W.cell? ⟨bk, off + j * 6 + 2, none⟩ = some (.int .u64 (y.ct : Int)) ∧ W.cell? ⟨bk, off + j * 6 + 3, none⟩ = some (.bool y.an) ∧ W.cell? ⟨bk, off + j * 6 + 4, none⟩ = some (.string yt) ∧ W.cell? ⟨bk, off + j * 6 + 5, none⟩ = some (.bool y.ba))) (by kernel_rfl) (si_keep HSI.out (drawn_below w3 1) hbx hbk) (fun hK0 => ?_)
              refine wpAnyH_take (i := 0) (oi := { dst := some 94, op := Go.Op.move (Go.Operand.tmp 5), type := 24, pos := "ref.go:40", after := #[], guard := none }) (v := ?_) rfl (by kernel_rfl) (by kernel_rfl) (by kernel_rfl) (fun _ _ _ h => h) (Or.inl ⟨by rfl, ?_⟩) hK0 ?_
              rotate_left
              · (intro wz hSz; (try dsimp only at hSz); go_simp; try with_reducible rfl)
              simp only [Act.put, List.setIfInBounds_toArray, List.set_cons_zero, List.set_cons_succ]
              refine wpAnyH_take (i := 1) (oi := { dst := some 95, op := Go.Op.move (Go.Operand.tmp 5), type := 24, pos := "ref.go:40", after := #[], guard := none }) (v := ?_) rfl (by kernel_rfl) (by kernel_rfl) (by kernel_rfl) (fun _ _ _ h => h) (Or.inl ⟨by rfl, ?_⟩) hK0 ?_
              rotate_left
              · (intro wz hSz; (try dsimp only at hSz); go_simp; try with_reducible rfl)
              simp only [Act.put, List.setIfInBounds_toArray, List.set_cons_zero, List.set_cons_succ]
              refine wpAnyH_take (i := 2) (oi := { dst := some 96, op := Go.Op.call { callee := Go.Callee.builtin Go.Builtin.len, args := #[Go.Operand.tmp 95], argTypes := #[24] }, type := 3, pos := "ref.go:40", after := #[{ on := 1, ground := Go.Ground.data }], guard := none }) (v := ?_) rfl (by kernel_rfl) (by kernel_rfl) (by kernel_rfl) (fun _ _ _ h => h) (Or.inl ⟨by rfl, ?_⟩) hK0 ?_
              rotate_left
              · (intro wz hSz; (try dsimp only at hSz); go_simp; try with_reducible rfl)
              simp only [Act.put, List.setIfInBounds_toArray, List.set_cons_zero, List.set_cons_succ]
              refine wpAnyH_take (i := 3) (oi := { dst := some 97, op := Go.Op.binOp Go.BinOp.sub 3 (Go.Operand.tmp 96) (Go.Operand.const (Go.Value.int Go.IntKind.i64 1)) 3, type := 3, pos := "ref.go:40", after := #[{ on := 2, ground := Go.Ground.data }], guard := none }) (v := ?_) rfl (by kernel_rfl) (by kernel_rfl) (by kernel_rfl) (fun _ _ _ h => h) (Or.inl ⟨by rfl, ?_⟩) hK0 ?_
              rotate_left
              · (intro wz hSz; (try dsimp only at hSz); go_simp; try with_reducible rfl)
              simp only [Act.put, List.setIfInBounds_toArray, List.set_cons_zero, List.set_cons_succ]
              refine wpAnyH_take (i := 5) (oi := { dst := some 99, op := Go.Op.fieldAddr 27 (Go.Operand.tmp 10) 2, type := 0, pos := "ref.go:40", after := #[], guard := none }) (v := ?_) rfl (by kernel_rfl) (by kernel_rfl) (by kernel_rfl) (fun _ _ _ h => h) (Or.inl ⟨by rfl, ?_⟩) hK0 ?_
              rotate_left
              · (intro wz hSz; (try dsimp only at hSz); go_simp; try with_reducible rfl)
              simp only [Act.put, List.setIfInBounds_toArray, List.set_cons_zero, List.set_cons_succ]
              refine wpAnyH_take (i := 6) (oi := { dst := some 100, op := Go.Op.load 22 (Go.Operand.tmp 99), type := 22, pos := "ref.go:40", after := #[{ on := 5, ground := Go.Ground.data }], guard := none }) (v := ?_) rfl (by kernel_rfl) (by kernel_rfl) (by kernel_rfl) (fun _ _ _ h => h) (Or.inl ⟨by rfl, ?_⟩) hK0 ?_
              rotate_left
              · (intro wz hSz; (try dsimp only at hSz); go_simp; try with_reducible rfl)
              simp only [Act.put, List.setIfInBounds_toArray, List.set_cons_zero, List.set_cons_succ]
              refine wpAnyH_take (i := 8) (oi := { dst := some 102, op := Go.Op.move (Go.Operand.tmp 1), type := 22, pos := "ref.go:40", after := #[], guard := none }) (v := ?_) rfl (by kernel_rfl) (by kernel_rfl) (by kernel_rfl) (fun _ _ _ h => h) (Or.inl ⟨by rfl, ?_⟩) hK0 ?_
              rotate_left
              · (intro wz hSz; (try dsimp only at hSz); go_simp; try with_reducible rfl)
              simp only [Act.put, List.setIfInBounds_toArray, List.set_cons_zero, List.set_cons_succ]
              refine wpAnyH_take (i := 9) (oi := { dst := some 103, op := Go.Op.move (Go.Operand.tmp 7), type := 3, pos := "ref.go:40", after := #[], guard := none }) (v := ?_) rfl (by kernel_rfl) (by kernel_rfl) (by kernel_rfl) (fun _ _ _ h => h) (Or.inl ⟨by rfl, ?_⟩) hK0 ?_
              rotate_left
              · (intro wz hSz; (try dsimp only at hSz); go_simp; try with_reducible rfl)
              simp only [Act.put, List.setIfInBounds_toArray, List.set_cons_zero, List.set_cons_succ]
              refine wpAnyH_take (i := 10) (oi := { dst := some 104, op := Go.Op.indexAddr 22 (Go.Operand.tmp 102) (Go.Operand.tmp 103), type := 0, pos := "ref.go:40", after := #[{ on := 8, ground := Go.Ground.data }, { on := 9, ground := Go.Ground.data }], guard := none }) (v := ?_) rfl (by kernel_rfl) (by kernel_rfl) (by kernel_rfl) (fun _ _ _ h => h) (Or.inl ⟨by rfl, ?_⟩) hK0 ?_
              rotate_left
              · (intro wz hSz; (try dsimp only at hSz); go_simp; try with_reducible rfl)
              simp only [Act.put, List.setIfInBounds_toArray, List.set_cons_zero, List.set_cons_succ]
              refine wpAnyH_take (i := 11) (oi := { dst := some 105, op := Go.Op.load 41 (Go.Operand.tmp 104), type := 41, pos := "ref.go:40", after := #[{ on := 10, ground := Go.Ground.data }], guard := none }) (v := ?_) rfl (by kernel_rfl) (by kernel_rfl) (by kernel_rfl) (fun _ _ _ h => h) (Or.inl ⟨by rfl, ?_⟩) hK0 ?_
              rotate_left
              · (intro wz hSz; (try dsimp only at hSz); go_simp; try with_reducible rfl)
              simp only [Act.put, List.setIfInBounds_toArray, List.set_cons_zero, List.set_cons_succ]
              refine wpAnyH_ready (rs := [4, 12]) (by kernel_rfl) (by simp) ?_
              refine AllReadyH.cons (o := { dst := some 98, op := Go.Op.buildSlice 22 0 #[], type := 22, pos := "ref.go:40", after := #[], guard := none }) rfl (fun K hK => ?_) (AllReadyH.cons (o := { dst := some 106, op := Go.Op.buildSlice 22 1 #[(0, Go.Operand.tmp 105)], type := 22, pos := "ref.go:40", after := #[{ on := 11, ground := Go.Ground.data }], guard := none }) rfl (fun K hK => ?_) AllReadyH.nil)
              · skip
                go_simp
                obtain ⟨wq1, hwq⟩ : ∃ W : World, W = (w3.alloc (.cells #[] 41)).drew := ⟨_, rfl⟩
                rw [← hwq]
                have hbq : Below w3.heap.size w3 wq1 := by rw [hwq]; exact (alloc1 _ _).drew
                have hkp : Below w3.heap.size w3 wq1 := hbq
                have hS := si_keep HSI.out hkp hbx hbk
                have hz : wq1.heap.size = w3.heap.size + 1 := by rw [hwq]; simp
                obtain ⟨ga, hgn⟩ : ∃ g, g = w3.heap.size := ⟨_, rfl⟩
                have hlo : w3.heap.size ≤ ga := by rw [hgn]; exact Nat.le_refl _
                have hg : wq1.ownsRow w3.heap.size 41 6 (.slice (some ⟨ga, 0, none⟩) 0 0) 0 [] := by rw [hwq, hgn]; exact (World.ownsRow_made w3 #[] 0 (Nat.le_refl _) (Nat.zero_le _) rfl).drew
                rw [← hgn]
                have HLTA : Hid (ga < wq1.heap.size) := Lib.hid (by omega)
                have HOWN := Lib.hid hg
                have HKP := Lib.hid hkp
                clear hbq hg hgn hwq hz hlo hkp
                refine hK.out _ _ hS (fun hK1 => ?_)
                clear hK K hS hK0
                try simp only [Act.put, List.setIfInBounds_toArray, List.set_cons_zero, List.set_cons_succ]
                refine wpAnyH_ready (rs := [7, 12]) (by kernel_rfl) (by simp) ?_
                refine AllReadyH.cons (o := { dst := some 101, op := Go.Op.call { callee := Go.Callee.builtin Go.Builtin.append, args := #[Go.Operand.tmp 98, Go.Operand.tmp 100], argTypes := #[22, 22] }, type := 22, pos := "ref.go:40", after := #[{ on := 4, ground := Go.Ground.data }, { on := 6, ground := Go.Ground.data }], guard := none }) rfl (fun K hK => ?_) (AllReadyH.cons (o := { dst := some 106, op := Go.Op.buildSlice 22 1 #[(0, Go.Operand.tmp 105)], type := 22, pos := "ref.go:40", after := #[{ on := 11, ground := Go.Ground.data }], guard := none }) rfl (fun K hK => ?_) AllReadyH.nil)
                · skip
                  obtain ⟨bz, oz, hCe, hbz, hIz⟩ := (HQI.out.below HKP.out) hpos
                  have HNW := Lib.hid (items_news hIz)
                  have hsz : w3.heap.size ≤ wq1.heap.size := HKP.out.size
                  refine step_append_lies _ (by rfl) (.tmp 98) (.tmp 100) 22 (by rfl) w3.heap.size 41 j0 _ 6 56 Tryd.underlying22 hj0 hy0 hy1 hy2 rfl (by decide) (.slice (some ⟨ga, 0, none⟩) 0 0) 0 [] (by rfl) HOWN.out ⟨bz, oz, none⟩ q.p.its.length q.cc (itCells q.p.its) (by rw [← hCe]; rfl) (itCells_length q.p.its) HNW.out (itCells_one q.p.its) hpos (by unfold maxLen; omega) (by omega) hsz _ rfl ?_
                  intro gb cap2 wq2 hown2 hg2 hat2 hlt2
                  have hbq : Below w3.heap.size wq1 wq2 := (Below.refl _ _).grown hg2 hsz (own_base HOWN.out)
                  have hkp : Below w3.heap.size w3 wq2 := HKP.out.trans hbq
                  have hS := si_keep HSI.out hkp hbx hbk
                  rw [Nat.zero_add, List.nil_append] at hown2
                  replace HOWN := Lib.hid hown2
                  replace HKP := Lib.hid hkp
                  clear hbq hown2 hg2 hat2 HNW hsz hkp hIz hCe hbz
                  refine hK.out _ _ hS (fun hK2 => ?_)
                  clear hK K hS hK1
                  try simp only [Act.put, List.setIfInBounds_toArray, List.set_cons_zero, List.set_cons_succ]
                  refine wpAnyH_ready (rs := [12]) (by kernel_rfl) (by simp) ?_
                  refine AllReadyH.cons (o := { dst := some 106, op := Go.Op.buildSlice 22 1 #[(0, Go.Operand.tmp 105)], type := 22, pos := "ref.go:40", after := #[{ on := 11, ground := Go.Ground.data }], guard := none }) rfl (fun K hK => ?_) AllReadyH.nil
                  go_simp
                  obtain ⟨wq3, hwq⟩ : ∃ W : World, W = (wq2.alloc (.cells #[.int .i64 y.id, .int .i64 y.lv, .int .u64 (y.ct : Int), .bool y.an, .string yt, .bool y.ba] 41)) := ⟨_, rfl⟩
                  rw [← hwq]
                  have hbq : Below wq2.heap.size wq2 wq3 := by rw [hwq]; exact (alloc1 _ _)
                  have hkp : Below w3.heap.size w3 wq3 := HKP.out.trans (hbq.mono HKP.out.size)
                  have hS := si_keep HSI.out hkp hbx hbk
                  have hz : wq3.heap.size = wq2.heap.size + 1 := by rw [hwq]; simp
                  obtain ⟨gc, hgn⟩ : ∃ g, g = wq2.heap.size := ⟨_, rfl⟩
                  have hlo : w3.heap.size ≤ gc := by rw [hgn]; exact HKP.out.size
                  have hg : wq3.heap[gc]? = some (.cells #[.int .i64 y.id, .int .i64 y.lv, .int .u64 (y.ct : Int), .bool y.an, .string yt, .bool y.ba] 41 (0, 0)) := by rw [hwq, hgn]; exact heap_alloc_new wq2 _
                  rw [← hgn]
                  replace HOWN := Lib.hid (own_below HOWN.out hbq)
                  have HLTC : Hid (gc < wq3.heap.size) := Lib.hid (by omega)
                  have HGC := Lib.hid hg
                  replace HKP := Lib.hid hkp
                  clear hbq hg hgn hwq hz hlo hkp
                  refine hK.out _ _ hS (fun hK3 => ?_)
                  clear hK K hS hK2
                  try simp only [Act.put, List.setIfInBounds_toArray, List.set_cons_zero, List.set_cons_succ]
                  refine wpAnyH_ready (rs := [13]) (by kernel_rfl) (by simp) ?_
                  refine AllReadyH.cons (o := { dst := some 107, op := Go.Op.call { callee := Go.Callee.builtin Go.Builtin.append, args := #[Go.Operand.tmp 101, Go.Operand.tmp 106], argTypes := #[22, 22] }, type := 22, pos := "ref.go:40", after := #[{ on := 7, ground := Go.Ground.data }, { on := 12, ground := Go.Ground.data }, { on := 7, ground := Go.Ground.chain }], guard := none }) rfl (fun K hK => ?_) AllReadyH.nil
                  have HNW := Lib.hid (World.news_of_block HGC.out)
                  have H1C : Hid (∀ u ∈ ([.int .i64 y.id, .int .i64 y.lv, .int .u64 (y.ct : Int), .bool y.an, .string yt, .bool y.ba] : List Value), u.oneCell' = true) := Lib.hid (by intro u hu; simp at hu; rcases hu with rfl | rfl | rfl | rfl | rfl | rfl <;> rfl)
                  have hsz : w3.heap.size ≤ wq3.heap.size := HKP.out.size
                  refine step_append_lies _ (by rfl) (.tmp 101) (.tmp 106) 22 (by rfl) w3.heap.size 41 j0 _ 6 56 Tryd.underlying22 hj0 hy0 hy1 hy2 rfl (by decide) (.slice (some ⟨gb, 0, none⟩) q.p.its.length cap2) q.p.its.length (itCells q.p.its) (by first | rfl | (simp only [Nat.zero_add]; rfl)) HOWN.out ⟨gc, 0, none⟩ 1 1 [.int .i64 y.id, .int .i64 y.lv, .int .u64 (y.ct : Int), .bool y.an, .string yt, .bool y.ba] (by rfl) rfl HNW.out H1C.out (by omega) (by unfold maxLen; omega) (by omega) hsz _ rfl ?_
                  intro gd cap4 wq4 hown4 hg4 hat4 hlt4
                  have hbq : Below w3.heap.size wq3 wq4 := (Below.refl _ _).grown hg4 hsz (own_base HOWN.out)
                  have hkp : Below w3.heap.size w3 wq4 := HKP.out.trans hbq
                  have hS := si_keep HSI.out hkp hbx hbk
                  replace HOWN := Lib.hid hown4
                  replace HKP := Lib.hid hkp
                  clear hbq hown4 hg4 hat4 HNW H1C hsz hkp HGC
                  refine hK.out _ _ hS (fun hK4 => ?_)
                  clear hK K hS hK3
                  try simp only [Act.put, List.setIfInBounds_toArray, List.set_cons_zero, List.set_cons_succ]
                  refine wpAnyH_take (i := 14) (oi := { dst := some 108, op := Go.Op.build 27 #[(2, Go.Operand.tmp 107)], type := 27, pos := "ref.go:40", after := #[{ on := 13, ground := Go.Ground.data }], guard := none }) (v := ?_) rfl (by kernel_rfl) (by kernel_rfl) (by kernel_rfl) (fun _ _ _ h => h) (Or.inl ⟨by rfl, ?_⟩) hK4 ?_
                  rotate_left
                  · (intro wz hSz; (try dsimp only at hSz); go_simp; try with_reducible rfl)
                  simp only [Act.put, List.setIfInBounds_toArray, List.set_cons_zero, List.set_cons_succ]
                  refine wpAnyH_take (i := 15) (oi := { dst := some 109, op := Go.Op.indexAddr 24 (Go.Operand.tmp 94) (Go.Operand.tmp 97), type := 0, pos := "ref.go:40", after := #[{ on := 0, ground := Go.Ground.data }, { on := 3, ground := Go.Ground.data }, { on := 0, ground := Go.Ground.phase }, { on := 1, ground := Go.Ground.phase }, { on := 2, ground := Go.Ground.phase }, { on := 3, ground := Go.Ground.phase }, { on := 4, ground := Go.Ground.phase }, { on := 5, ground := Go.Ground.phase }, { on := 6, ground := Go.Ground.phase }, { on := 7, ground := Go.Ground.phase }, { on := 8, ground := Go.Ground.phase }, { on := 9, ground := Go.Ground.phase }, { on := 10, ground := Go.Ground.phase }, { on := 11, ground := Go.Ground.phase }, { on := 12, ground := Go.Ground.phase }, { on := 13, ground := Go.Ground.phase }, { on := 14, ground := Go.Ground.phase }], guard := none }) (v := ?_) rfl (by kernel_rfl) (by kernel_rfl) (by kernel_rfl) (fun _ _ _ h => h) (Or.inl ⟨by rfl, ?_⟩) hK4 ?_
                  rotate_left
                  · (intro wz hSz; (try dsimp only at hSz); go_simp; try with_reducible rfl)
                  simp only [Act.put, List.setIfInBounds_toArray, List.set_cons_zero, List.set_cons_succ]
                  refine wpAnyH_ready (rs := [16]) (by kernel_rfl) (by simp) ?_
                  refine AllReadyH.cons (o := { dst := none, op := Go.Op.store 27 (Go.Operand.tmp 109) (Go.Operand.tmp 108), type := 0, pos := "ref.go:40", after := #[{ on := 15, ground := Go.Ground.data }, { on := 14, ground := Go.Ground.data }, { on := 13, ground := Go.Ground.chain }, { on := 0, ground := Go.Ground.phase }, { on := 1, ground := Go.Ground.phase }, { on := 2, ground := Go.Ground.phase }, { on := 3, ground := Go.Ground.phase }, { on := 4, ground := Go.Ground.phase }, { on := 5, ground := Go.Ground.phase }, { on := 6, ground := Go.Ground.phase }, { on := 7, ground := Go.Ground.phase }, { on := 8, ground := Go.Ground.phase }, { on := 9, ground := Go.Ground.phase }, { on := 10, ground := Go.Ground.phase }, { on := 11, ground := Go.Ground.phase }, { on := 12, ground := Go.Ground.phase }, { on := 13, ground := Go.Ground.phase }, { on := 14, ground := Go.Ground.phase }], guard := none }) rfl (fun K hK => ?_) AllReadyH.nil
                  have HPZ := Lib.hid (HP3.out.kept HKP.out)
                  obtain ⟨z0, z1, z2, zf⟩ := HPZ.out.last_cells
                  have f0 := zf (rs.length * 3)
                  have f1 := zf (rs.length * 3 + 1)
                  have f2 := zf (rs.length * 3 + 2)
                  go_simp
                  obtain ⟨wq5, hwq⟩ : ∃ W : World, W = ((wq4.setCell ⟨g, rs.length * 3, none⟩ (.int .i64 0)).setCell ⟨g, rs.length * 3 + 1, none⟩ (.int .i64 0)).setCell ⟨g, rs.length * 3 + 2, none⟩ (.slice (some ⟨gd, 0, none⟩) (q.p.its.length + 1) cap4) := ⟨_, rfl⟩
                  rw [← hwq]
                  have HFI := Lib.hid (HPZ.out.put (W' := wq5) (q' := ⟨⟨0, 0, q.p.its ++ [y]⟩, some ⟨gd, 0, none⟩, cap4⟩) (by have h := HOWN.out; rw [HYT.out, ← itCells_snoc] at h; simpa using V.own_base_le h hbs3) (by rw [hwq, List.length_append]; rfl))
                  have hS := si_put (si_keep HSI.out HKP.out hbx hbk) hbg hkg hwq
                  have HBF := Lib.hid (show Below w.heap.size w wq5 from HB3.out.trans ((HKP.out.mono hbs3).trans HFI.out.2))
                  clear z0 z1 z2 zf f0 f1 f2 hwq HOWN
                  refine hK.out _ _ hS (fun hK5 => ?_)
                  clear hK K hS hK4
                  try simp only [Act.put, List.setIfInBounds_toArray, List.set_cons_zero, List.set_cons_succ]
                  refine wpAnyH_done (by kernel_rfl) ?_ _
                  go_wp2_with fail
                  go_roundg ((a.length - i) + (b.length - (j + 1)))
                  case rel => exact ⟨i, j + 1, 2, rs ++ [⟨⟨0, 0, q.p.its ++ [y]⟩, some ⟨gd, 0, none⟩, _⟩], some ⟨g, 0, none⟩, vc, by rw [HNN.out]; simp, rfl, by go_num, rfl, by omega, Lib.hid (by rw [List.length_append]; exact HFI.out.1), HBF, Lib.hid (HMS.out _ _)⟩
                  case measure => omega
                · skip
                  go_simp
                  obtain ⟨wq2, hwq⟩ : ∃ W : World, W = (wq1.alloc (.cells #[.int .i64 y.id, .int .i64 y.lv, .int .u64 (y.ct : Int), .bool y.an, .string yt, .bool y.ba] 41)) := ⟨_, rfl⟩
                  rw [← hwq]
                  have hbq : Below wq1.heap.size wq1 wq2 := by rw [hwq]; exact (alloc1 _ _)
                  have hkp : Below w3.heap.size w3 wq2 := HKP.out.trans (hbq.mono HKP.out.size)
                  have hS := si_keep HSI.out hkp hbx hbk
                  have hz : wq2.heap.size = wq1.heap.size + 1 := by rw [hwq]; simp
                  obtain ⟨gc, hgn⟩ : ∃ g, g = wq1.heap.size := ⟨_, rfl⟩
                  have hlo : w3.heap.size ≤ gc := by rw [hgn]; exact HKP.out.size
                  have hg : wq2.heap[gc]? = some (.cells #[.int .i64 y.id, .int .i64 y.lv, .int .u64 (y.ct : Int), .bool y.an, .string yt, .bool y.ba] 41 (0, 0)) := by rw [hwq, hgn]; exact heap_alloc_new wq1 _
                  rw [← hgn]
                  have HNE : Hid (ga ≠ gc) := Lib.hid (by have := HLTA.out; omega)
                  replace HLTA := Lib.hid (Nat.lt_of_lt_of_le HLTA.out (Below.size hbq))
                  replace HOWN := Lib.hid (own_below HOWN.out hbq)
                  have HLTC : Hid (gc < wq2.heap.size) := Lib.hid (by omega)
                  have HGC := Lib.hid hg
                  replace HKP := Lib.hid hkp
                  clear hbq hg hgn hwq hz hlo hkp
                  refine hK.out _ _ hS (fun hK2 => ?_)
                  clear hK K hS hK1
                  try simp only [Act.put, List.setIfInBounds_toArray, List.set_cons_zero, List.set_cons_succ]
                  refine wpAnyH_ready (rs := [7]) (by kernel_rfl) (by simp) ?_
                  refine AllReadyH.cons (o := { dst := some 101, op := Go.Op.call { callee := Go.Callee.builtin Go.Builtin.append, args := #[Go.Operand.tmp 98, Go.Operand.tmp 100], argTypes := #[22, 22] }, type := 22, pos := "ref.go:40", after := #[{ on := 4, ground := Go.Ground.data }, { on := 6, ground := Go.Ground.data }], guard := none }) rfl (fun K hK => ?_) AllReadyH.nil
                  obtain ⟨bz, oz, hCe, hbz, hIz⟩ := (HQI.out.below HKP.out) hpos
                  have HNW := Lib.hid (items_news hIz)
                  have hsz : w3.heap.size ≤ wq2.heap.size := HKP.out.size
                  refine step_append_lies _ (by rfl) (.tmp 98) (.tmp 100) 22 (by rfl) w3.heap.size 41 j0 _ 6 56 Tryd.underlying22 hj0 hy0 hy1 hy2 rfl (by decide) (.slice (some ⟨ga, 0, none⟩) 0 0) 0 [] (by rfl) HOWN.out ⟨bz, oz, none⟩ q.p.its.length q.cc (itCells q.p.its) (by rw [← hCe]; rfl) (itCells_length q.p.its) HNW.out (itCells_one q.p.its) hpos (by unfold maxLen; omega) (by omega) hsz _ rfl ?_
                  intro gb cap3 wq3 hown3 hg3 hat3 hlt3
                  have hbq : Below w3.heap.size wq2 wq3 := (Below.refl _ _).grown hg3 hsz (own_base HOWN.out)
                  have hkp : Below w3.heap.size w3 wq3 := HKP.out.trans hbq
                  have hS := si_keep HSI.out hkp hbx hbk
                  replace HGC := Lib.hid (blk_grown HGC.out hg3 (fun e => HNE.out (by injection e)))
                  clear HNE
                  rw [Nat.zero_add, List.nil_append] at hown3
                  replace HOWN := Lib.hid hown3
                  replace HKP := Lib.hid hkp
                  clear hbq hown3 hg3 hat3 HNW hsz hkp hIz hCe hbz
                  refine hK.out _ _ hS (fun hK3 => ?_)
                  clear hK K hS hK2
                  try simp only [Act.put, List.setIfInBounds_toArray, List.set_cons_zero, List.set_cons_succ]
                  refine wpAnyH_ready (rs := [13]) (by kernel_rfl) (by simp) ?_
                  refine AllReadyH.cons (o := { dst := some 107, op := Go.Op.call { callee := Go.Callee.builtin Go.Builtin.append, args := #[Go.Operand.tmp 101, Go.Operand.tmp 106], argTypes := #[22, 22] }, type := 22, pos := "ref.go:40", after := #[{ on := 7, ground := Go.Ground.data }, { on := 12, ground := Go.Ground.data }, { on := 7, ground := Go.Ground.chain }], guard := none }) rfl (fun K hK => ?_) AllReadyH.nil
                  have HNW := Lib.hid (World.news_of_block HGC.out)
                  have H1C : Hid (∀ u ∈ ([.int .i64 y.id, .int .i64 y.lv, .int .u64 (y.ct : Int), .bool y.an, .string yt, .bool y.ba] : List Value), u.oneCell' = true) := Lib.hid (by intro u hu; simp at hu; rcases hu with rfl | rfl | rfl | rfl | rfl | rfl <;> rfl)
                  have hsz : w3.heap.size ≤ wq3.heap.size := HKP.out.size
                  refine step_append_lies _ (by rfl) (.tmp 101) (.tmp 106) 22 (by rfl) w3.heap.size 41 j0 _ 6 56 Tryd.underlying22 hj0 hy0 hy1 hy2 rfl (by decide) (.slice (some ⟨gb, 0, none⟩) q.p.its.length cap3) q.p.its.length (itCells q.p.its) (by first | rfl | (simp only [Nat.zero_add]; rfl)) HOWN.out ⟨gc, 0, none⟩ 1 1 [.int .i64 y.id, .int .i64 y.lv, .int .u64 (y.ct : Int), .bool y.an, .string yt, .bool y.ba] (by rfl) rfl HNW.out H1C.out (by omega) (by unfold maxLen; omega) (by omega) hsz _ rfl ?_
                  intro gd cap4 wq4 hown4 hg4 hat4 hlt4
                  have hbq : Below w3.heap.size wq3 wq4 := (Below.refl _ _).grown hg4 hsz (own_base HOWN.out)
                  have hkp : Below w3.heap.size w3 wq4 := HKP.out.trans hbq
                  have hS := si_keep HSI.out hkp hbx hbk
                  replace HOWN := Lib.hid hown4
                  replace HKP := Lib.hid hkp
                  clear hbq hown4 hg4 hat4 HNW H1C hsz hkp HGC
                  refine hK.out _ _ hS (fun hK4 => ?_)
                  clear hK K hS hK3
                  try simp only [Act.put, List.setIfInBounds_toArray, List.set_cons_zero, List.set_cons_succ]
                  refine wpAnyH_take (i := 14) (oi := { dst := some 108, op := Go.Op.build 27 #[(2, Go.Operand.tmp 107)], type := 27, pos := "ref.go:40", after := #[{ on := 13, ground := Go.Ground.data }], guard := none }) (v := ?_) rfl (by kernel_rfl) (by kernel_rfl) (by kernel_rfl) (fun _ _ _ h => h) (Or.inl ⟨by rfl, ?_⟩) hK4 ?_
                  rotate_left
                  · (intro wz hSz; (try dsimp only at hSz); go_simp; try with_reducible rfl)
                  simp only [Act.put, List.setIfInBounds_toArray, List.set_cons_zero, List.set_cons_succ]
                  refine wpAnyH_take (i := 15) (oi := { dst := some 109, op := Go.Op.indexAddr 24 (Go.Operand.tmp 94) (Go.Operand.tmp 97), type := 0, pos := "ref.go:40", after := #[{ on := 0, ground := Go.Ground.data }, { on := 3, ground := Go.Ground.data }, { on := 0, ground := Go.Ground.phase }, { on := 1, ground := Go.Ground.phase }, { on := 2, ground := Go.Ground.phase }, { on := 3, ground := Go.Ground.phase }, { on := 4, ground := Go.Ground.phase }, { on := 5, ground := Go.Ground.phase }, { on := 6, ground := Go.Ground.phase }, { on := 7, ground := Go.Ground.phase }, { on := 8, ground := Go.Ground.phase }, { on := 9, ground := Go.Ground.phase }, { on := 10, ground := Go.Ground.phase }, { on := 11, ground := Go.Ground.phase }, { on := 12, ground := Go.Ground.phase }, { on := 13, ground := Go.Ground.phase }, { on := 14, ground := Go.Ground.phase }], guard := none }) (v := ?_) rfl (by kernel_rfl) (by kernel_rfl) (by kernel_rfl) (fun _ _ _ h => h) (Or.inl ⟨by rfl, ?_⟩) hK4 ?_
                  rotate_left
                  · (intro wz hSz; (try dsimp only at hSz); go_simp; try with_reducible rfl)
                  simp only [Act.put, List.setIfInBounds_toArray, List.set_cons_zero, List.set_cons_succ]
                  refine wpAnyH_ready (rs := [16]) (by kernel_rfl) (by simp) ?_
                  refine AllReadyH.cons (o := { dst := none, op := Go.Op.store 27 (Go.Operand.tmp 109) (Go.Operand.tmp 108), type := 0, pos := "ref.go:40", after := #[{ on := 15, ground := Go.Ground.data }, { on := 14, ground := Go.Ground.data }, { on := 13, ground := Go.Ground.chain }, { on := 0, ground := Go.Ground.phase }, { on := 1, ground := Go.Ground.phase }, { on := 2, ground := Go.Ground.phase }, { on := 3, ground := Go.Ground.phase }, { on := 4, ground := Go.Ground.phase }, { on := 5, ground := Go.Ground.phase }, { on := 6, ground := Go.Ground.phase }, { on := 7, ground := Go.Ground.phase }, { on := 8, ground := Go.Ground.phase }, { on := 9, ground := Go.Ground.phase }, { on := 10, ground := Go.Ground.phase }, { on := 11, ground := Go.Ground.phase }, { on := 12, ground := Go.Ground.phase }, { on := 13, ground := Go.Ground.phase }, { on := 14, ground := Go.Ground.phase }], guard := none }) rfl (fun K hK => ?_) AllReadyH.nil
                  have HPZ := Lib.hid (HP3.out.kept HKP.out)
                  obtain ⟨z0, z1, z2, zf⟩ := HPZ.out.last_cells
                  have f0 := zf (rs.length * 3)
                  have f1 := zf (rs.length * 3 + 1)
                  have f2 := zf (rs.length * 3 + 2)
                  go_simp
                  obtain ⟨wq5, hwq⟩ : ∃ W : World, W = ((wq4.setCell ⟨g, rs.length * 3, none⟩ (.int .i64 0)).setCell ⟨g, rs.length * 3 + 1, none⟩ (.int .i64 0)).setCell ⟨g, rs.length * 3 + 2, none⟩ (.slice (some ⟨gd, 0, none⟩) (q.p.its.length + 1) cap4) := ⟨_, rfl⟩
                  rw [← hwq]
                  have HFI := Lib.hid (HPZ.out.put (W' := wq5) (q' := ⟨⟨0, 0, q.p.its ++ [y]⟩, some ⟨gd, 0, none⟩, cap4⟩) (by have h := HOWN.out; rw [HYT.out, ← itCells_snoc] at h; simpa using V.own_base_le h hbs3) (by rw [hwq, List.length_append]; rfl))
                  have hS := si_put (si_keep HSI.out HKP.out hbx hbk) hbg hkg hwq
                  have HBF := Lib.hid (show Below w.heap.size w wq5 from HB3.out.trans ((HKP.out.mono hbs3).trans HFI.out.2))
                  clear z0 z1 z2 zf f0 f1 f2 hwq HOWN
                  refine hK.out _ _ hS (fun hK5 => ?_)
                  clear hK K hS hK4
                  try simp only [Act.put, List.setIfInBounds_toArray, List.set_cons_zero, List.set_cons_succ]
                  refine wpAnyH_done (by kernel_rfl) ?_ _
                  go_wp2_with fail
                  go_roundg ((a.length - i) + (b.length - (j + 1)))
                  case rel => exact ⟨i, j + 1, 2, rs ++ [⟨⟨0, 0, q.p.its ++ [y]⟩, some ⟨gd, 0, none⟩, _⟩], some ⟨g, 0, none⟩, vc, by rw [HNN.out]; simp, rfl, by go_num, rfl, by omega, Lib.hid (by rw [List.length_append]; exact HFI.out.1), HBF, Lib.hid (HMS.out _ _)⟩
                  case measure => omega
              · skip
                go_simp
                obtain ⟨wq1, hwq⟩ : ∃ W : World, W = (w3.alloc (.cells #[.int .i64 y.id, .int .i64 y.lv, .int .u64 (y.ct : Int), .bool y.an, .string yt, .bool y.ba] 41)).drew := ⟨_, rfl⟩
                rw [← hwq]
                have hbq : Below w3.heap.size w3 wq1 := by rw [hwq]; exact (alloc1 _ _).drew
                have hkp : Below w3.heap.size w3 wq1 := hbq
                have hS := si_keep HSI.out hkp hbx hbk
                have hz : wq1.heap.size = w3.heap.size + 1 := by rw [hwq]; simp
                obtain ⟨gc, hgn⟩ : ∃ g, g = w3.heap.size := ⟨_, rfl⟩
                have hlo : w3.heap.size ≤ gc := by rw [hgn]; exact Nat.le_refl _
                have hg : wq1.heap[gc]? = some (.cells #[.int .i64 y.id, .int .i64 y.lv, .int .u64 (y.ct : Int), .bool y.an, .string yt, .bool y.ba] 41 (0, 0)) := by rw [hwq, hgn]; exact heap_alloc_new w3 _
                rw [← hgn]
                have HLTC : Hid (gc < wq1.heap.size) := Lib.hid (by omega)
                have HGC := Lib.hid hg
                have HKP := Lib.hid hkp
                clear hbq hg hgn hwq hz hlo hkp
                refine hK.out _ _ hS (fun hK1 => ?_)
                clear hK K hS hK0
                try simp only [Act.put, List.setIfInBounds_toArray, List.set_cons_zero, List.set_cons_succ]
                refine wpAnyH_ready (rs := [4]) (by kernel_rfl) (by simp) ?_
                refine AllReadyH.cons (o := { dst := some 98, op := Go.Op.buildSlice 22 0 #[], type := 22, pos := "ref.go:40", after := #[], guard := none }) rfl (fun K hK => ?_) AllReadyH.nil
                go_simp
                obtain ⟨wq2, hwq⟩ : ∃ W : World, W = (wq1.alloc (.cells #[] 41)) := ⟨_, rfl⟩
                rw [← hwq]
                have hbq : Below wq1.heap.size wq1 wq2 := by rw [hwq]; exact (alloc1 _ _)
                have hkp : Below w3.heap.size w3 wq2 := HKP.out.trans (hbq.mono HKP.out.size)
                have hS := si_keep HSI.out hkp hbx hbk
                have hz : wq2.heap.size = wq1.heap.size + 1 := by rw [hwq]; simp
                obtain ⟨ga, hgn⟩ : ∃ g, g = wq1.heap.size := ⟨_, rfl⟩
                have hlo : w3.heap.size ≤ ga := by rw [hgn]; exact HKP.out.size
                have hg : wq2.ownsRow w3.heap.size 41 6 (.slice (some ⟨ga, 0, none⟩) 0 0) 0 [] := by rw [hwq, hgn]; exact World.ownsRow_made wq1 #[] 0 HKP.out.size (Nat.zero_le _) rfl
                rw [← hgn]
                have HNE : Hid (ga ≠ gc) := Lib.hid (by have := HLTC.out; omega)
                replace HLTC := Lib.hid (Nat.lt_of_lt_of_le HLTC.out (Below.size hbq))
                replace HGC := Lib.hid ((Below.block hbq _ (L.blk_lt HGC.out)).trans HGC.out)
                have HLTA : Hid (ga < wq2.heap.size) := Lib.hid (by omega)
                have HOWN := Lib.hid hg
                replace HKP := Lib.hid hkp
                clear hbq hg hgn hwq hz hlo hkp
                refine hK.out _ _ hS (fun hK2 => ?_)
                clear hK K hS hK1
                try simp only [Act.put, List.setIfInBounds_toArray, List.set_cons_zero, List.set_cons_succ]
                refine wpAnyH_ready (rs := [7]) (by kernel_rfl) (by simp) ?_
                refine AllReadyH.cons (o := { dst := some 101, op := Go.Op.call { callee := Go.Callee.builtin Go.Builtin.append, args := #[Go.Operand.tmp 98, Go.Operand.tmp 100], argTypes := #[22, 22] }, type := 22, pos := "ref.go:40", after := #[{ on := 4, ground := Go.Ground.data }, { on := 6, ground := Go.Ground.data }], guard := none }) rfl (fun K hK => ?_) AllReadyH.nil
                obtain ⟨bz, oz, hCe, hbz, hIz⟩ := (HQI.out.below HKP.out) hpos
                have HNW := Lib.hid (items_news hIz)
                have hsz : w3.heap.size ≤ wq2.heap.size := HKP.out.size
                refine step_append_lies _ (by rfl) (.tmp 98) (.tmp 100) 22 (by rfl) w3.heap.size 41 j0 _ 6 56 Tryd.underlying22 hj0 hy0 hy1 hy2 rfl (by decide) (.slice (some ⟨ga, 0, none⟩) 0 0) 0 [] (by rfl) HOWN.out ⟨bz, oz, none⟩ q.p.its.length q.cc (itCells q.p.its) (by rw [← hCe]; rfl) (itCells_length q.p.its) HNW.out (itCells_one q.p.its) hpos (by unfold maxLen; omega) (by omega) hsz _ rfl ?_
                intro gb cap3 wq3 hown3 hg3 hat3 hlt3
                have hbq : Below w3.heap.size wq2 wq3 := (Below.refl _ _).grown hg3 hsz (own_base HOWN.out)
                have hkp : Below w3.heap.size w3 wq3 := HKP.out.trans hbq
                have hS := si_keep HSI.out hkp hbx hbk
                replace HGC := Lib.hid (blk_grown HGC.out hg3 (fun e => HNE.out (by injection e)))
                clear HNE
                rw [Nat.zero_add, List.nil_append] at hown3
                replace HOWN := Lib.hid hown3
                replace HKP := Lib.hid hkp
                clear hbq hown3 hg3 hat3 HNW hsz hkp hIz hCe hbz
                refine hK.out _ _ hS (fun hK3 => ?_)
                clear hK K hS hK2
                try simp only [Act.put, List.setIfInBounds_toArray, List.set_cons_zero, List.set_cons_succ]
                refine wpAnyH_ready (rs := [13]) (by kernel_rfl) (by simp) ?_
                refine AllReadyH.cons (o := { dst := some 107, op := Go.Op.call { callee := Go.Callee.builtin Go.Builtin.append, args := #[Go.Operand.tmp 101, Go.Operand.tmp 106], argTypes := #[22, 22] }, type := 22, pos := "ref.go:40", after := #[{ on := 7, ground := Go.Ground.data }, { on := 12, ground := Go.Ground.data }, { on := 7, ground := Go.Ground.chain }], guard := none }) rfl (fun K hK => ?_) AllReadyH.nil
                have HNW := Lib.hid (World.news_of_block HGC.out)
                have H1C : Hid (∀ u ∈ ([.int .i64 y.id, .int .i64 y.lv, .int .u64 (y.ct : Int), .bool y.an, .string yt, .bool y.ba] : List Value), u.oneCell' = true) := Lib.hid (by intro u hu; simp at hu; rcases hu with rfl | rfl | rfl | rfl | rfl | rfl <;> rfl)
                have hsz : w3.heap.size ≤ wq3.heap.size := HKP.out.size
                refine step_append_lies _ (by rfl) (.tmp 101) (.tmp 106) 22 (by rfl) w3.heap.size 41 j0 _ 6 56 Tryd.underlying22 hj0 hy0 hy1 hy2 rfl (by decide) (.slice (some ⟨gb, 0, none⟩) q.p.its.length cap3) q.p.its.length (itCells q.p.its) (by first | rfl | (simp only [Nat.zero_add]; rfl)) HOWN.out ⟨gc, 0, none⟩ 1 1 [.int .i64 y.id, .int .i64 y.lv, .int .u64 (y.ct : Int), .bool y.an, .string yt, .bool y.ba] (by rfl) rfl HNW.out H1C.out (by omega) (by unfold maxLen; omega) (by omega) hsz _ rfl ?_
                intro gd cap4 wq4 hown4 hg4 hat4 hlt4
                have hbq : Below w3.heap.size wq3 wq4 := (Below.refl _ _).grown hg4 hsz (own_base HOWN.out)
                have hkp : Below w3.heap.size w3 wq4 := HKP.out.trans hbq
                have hS := si_keep HSI.out hkp hbx hbk
                replace HOWN := Lib.hid hown4
                replace HKP := Lib.hid hkp
                clear hbq hown4 hg4 hat4 HNW H1C hsz hkp HGC
                refine hK.out _ _ hS (fun hK4 => ?_)
                clear hK K hS hK3
                try simp only [Act.put, List.setIfInBounds_toArray, List.set_cons_zero, List.set_cons_succ]
                refine wpAnyH_take (i := 14) (oi := { dst := some 108, op := Go.Op.build 27 #[(2, Go.Operand.tmp 107)], type := 27, pos := "ref.go:40", after := #[{ on := 13, ground := Go.Ground.data }], guard := none }) (v := ?_) rfl (by kernel_rfl) (by kernel_rfl) (by kernel_rfl) (fun _ _ _ h => h) (Or.inl ⟨by rfl, ?_⟩) hK4 ?_
                rotate_left
                · (intro wz hSz; (try dsimp only at hSz); go_simp; try with_reducible rfl)
                simp only [Act.put, List.setIfInBounds_toArray, List.set_cons_zero, List.set_cons_succ]
                refine wpAnyH_take (i := 15) (oi := { dst := some 109, op := Go.Op.indexAddr 24 (Go.Operand.tmp 94) (Go.Operand.tmp 97), type := 0, pos := "ref.go:40", after := #[{ on := 0, ground := Go.Ground.data }, { on := 3, ground := Go.Ground.data }, { on := 0, ground := Go.Ground.phase }, { on := 1, ground := Go.Ground.phase }, { on := 2, ground := Go.Ground.phase }, { on := 3, ground := Go.Ground.phase }, { on := 4, ground := Go.Ground.phase }, { on := 5, ground := Go.Ground.phase }, { on := 6, ground := Go.Ground.phase }, { on := 7, ground := Go.Ground.phase }, { on := 8, ground := Go.Ground.phase }, { on := 9, ground := Go.Ground.phase }, { on := 10, ground := Go.Ground.phase }, { on := 11, ground := Go.Ground.phase }, { on := 12, ground := Go.Ground.phase }, { on := 13, ground := Go.Ground.phase }, { on := 14, ground := Go.Ground.phase }], guard := none }) (v := ?_) rfl (by kernel_rfl) (by kernel_rfl) (by kernel_rfl) (fun _ _ _ h => h) (Or.inl ⟨by rfl, ?_⟩) hK4 ?_
                rotate_left
                · (intro wz hSz; (try dsimp only at hSz); go_simp; try with_reducible rfl)
                simp only [Act.put, List.setIfInBounds_toArray, List.set_cons_zero, List.set_cons_succ]
                refine wpAnyH_ready (rs := [16]) (by kernel_rfl) (by simp) ?_
                refine AllReadyH.cons (o := { dst := none, op := Go.Op.store 27 (Go.Operand.tmp 109) (Go.Operand.tmp 108), type := 0, pos := "ref.go:40", after := #[{ on := 15, ground := Go.Ground.data }, { on := 14, ground := Go.Ground.data }, { on := 13, ground := Go.Ground.chain }, { on := 0, ground := Go.Ground.phase }, { on := 1, ground := Go.Ground.phase }, { on := 2, ground := Go.Ground.phase }, { on := 3, ground := Go.Ground.phase }, { on := 4, ground := Go.Ground.phase }, { on := 5, ground := Go.Ground.phase }, { on := 6, ground := Go.Ground.phase }, { on := 7, ground := Go.Ground.phase }, { on := 8, ground := Go.Ground.phase }, { on := 9, ground := Go.Ground.phase }, { on := 10, ground := Go.Ground.phase }, { on := 11, ground := Go.Ground.phase }, { on := 12, ground := Go.Ground.phase }, { on := 13, ground := Go.Ground.phase }, { on := 14, ground := Go.Ground.phase }], guard := none }) rfl (fun K hK => ?_) AllReadyH.nil
                have HPZ := Lib.hid (HP3.out.kept HKP.out)
                obtain ⟨z0, z1, z2, zf⟩ := HPZ.out.last_cells
                have f0 := zf (rs.length * 3)
                have f1 := zf (rs.length * 3 + 1)
                have f2 := zf (rs.length * 3 + 2)
                go_simp
                obtain ⟨wq5, hwq⟩ : ∃ W : World, W = ((wq4.setCell ⟨g, rs.length * 3, none⟩ (.int .i64 0)).setCell ⟨g, rs.length * 3 + 1, none⟩ (.int .i64 0)).setCell ⟨g, rs.length * 3 + 2, none⟩ (.slice (some ⟨gd, 0, none⟩) (q.p.its.length + 1) cap4) := ⟨_, rfl⟩
                rw [← hwq]
                have HFI := Lib.hid (HPZ.out.put (W' := wq5) (q' := ⟨⟨0, 0, q.p.its ++ [y]⟩, some ⟨gd, 0, none⟩, cap4⟩) (by have h := HOWN.out; rw [HYT.out, ← itCells_snoc] at h; simpa using V.own_base_le h hbs3) (by rw [hwq, List.length_append]; rfl))
                have hS := si_put (si_keep HSI.out HKP.out hbx hbk) hbg hkg hwq
                have HBF := Lib.hid (show Below w.heap.size w wq5 from HB3.out.trans ((HKP.out.mono hbs3).trans HFI.out.2))
                clear z0 z1 z2 zf f0 f1 f2 hwq HOWN
                refine hK.out _ _ hS (fun hK5 => ?_)
                clear hK K hS hK4
                try simp only [Act.put, List.setIfInBounds_toArray, List.set_cons_zero, List.set_cons_succ]
                refine wpAnyH_done (by kernel_rfl) ?_ _
                go_wp2_with fail
                go_roundg ((a.length - i) + (b.length - (j + 1)))
                case rel => exact ⟨i, j + 1, 2, rs ++ [⟨⟨0, 0, q.p.its ++ [y]⟩, some ⟨gd, 0, none⟩, _⟩], some ⟨g, 0, none⟩, vc, by rw [HNN.out]; simp, rfl, by go_num, rfl, by omega, Lib.hid (by rw [List.length_append]; exact HFI.out.1), HBF, Lib.hid (HMS.out _ _)⟩
                case measure => omega
            · have HMS : Hid (∀ C cc, Mst a b i (j + 1) 2 (qs ++ [⟨⟨0, 0, [y]⟩, C, cc⟩])) := Lib.hid (fun C cc => by have h := HS.out.put_new h2 hjl (by rw [← HY.out]; exact hnm) C cc; rw [← HY.out] at h; exact h)
              have h2' : ((lst : Int) == 2) = false := beq_eq_false_iff_ne.2 (by omega)
              obtain ⟨k0, k1, k2, k3, k4, k5⟩ := HKD.out w3 (Below.refl _ _)
              obtain ⟨w4, hw4⟩ : ∃ W : World, W = w3.alloc (.cells #[.int .i64 y.id, .int .i64 y.lv, .int .u64 (y.ct : Int), .bool y.an, .string yt, .bool y.ba] 41) := ⟨_, rfl⟩
              have HI4 : Hid (w4.ownsRow w.heap.size 41 6 (.slice (some ⟨w3.heap.size, 0, none⟩) 1 1) 1 (itCells [y])) := Lib.hid (by rw [hw4]; exact ⟨rfl, .inr ⟨w3.heap.size, 1, #[.int .i64 y.id, .int .i64 y.lv, .int .u64 (y.ct : Int), .bool y.an, .string yt, .bool y.ba], rfl, hs3, heap_alloc_new w3 _, Nat.le_refl _, (by unfold maxLen; decide), rfl, by rw [itCells, List.flatMap_cons, List.flatMap_nil, HYT.out]; rfl⟩⟩)
              have HB4 := Lib.hid (show Below w3.heap.size w3 w4 by rw [hw4]; exact alloc1 _ _)
              have HP4 := Lib.hid (HP3.out.below HB4.out)
              have hz4 : w4.heap.size = w3.heap.size + 1 := by rw [hw4]; simp
              have HI5 := Lib.hid (own_below HI4.out (alloc1 w4 (.cells #[.int .i64 0, .int .i64 0, .slice (some ⟨w3.heap.size, 0, none⟩) 1 1] 27)))
              have HP5 := Lib.hid (HP4.out.below (alloc1 w4 (.cells #[.int .i64 0, .int .i64 0, .slice (some ⟨w3.heap.size, 0, none⟩) 1 1] 27)))
              have HB5 := Lib.hid (HB3.out.trans ((HB4.out.trans ((alloc1 w4 (.cells #[.int .i64 0, .int .i64 0, .slice (some ⟨w3.heap.size, 0, none⟩) 1 1] 27)).mono HB4.out.size)).mono hs3))
              clear HP3 HP4 HB3 HI4
              go_wp2_with (at_builtin; refine wpList_append_own _ rfl (.tmp 110) (.tmp 117) 24 rfl w.heap.size 27 i0 _ 3 40 Tryd.underlying24 hi0 hz0 hz1 hz2 rfl (by decide) _ qs.length (pqCells qs) rfl (by first | exact HP5.out.own | (rw [← hw4]; exact HP5.out.own)) ⟨w3.heap.size + 1, 0, none⟩ 1 1 [.int .i64 0, .int .i64 0, .slice (some ⟨w3.heap.size, 0, none⟩) 1 1] rfl rfl ?c1 ?c2 ?c3 ?c4 ?c5 ?_)
              case c1 => rw [← hw4, ← hz4]; exact World.news_of_block (heap_alloc_new w4 _)
              case c2 => intro u hu; simp at hu; rcases hu with rfl | rfl | rfl <;> rfl
              case c3 => simp only [maxLen]; omega
              case c4 => omega
              case c5 => first | omega | (simp; omega)
              rw [← hw4]
              intro v1 w6 ho6 hg6 _
              have HP6 := Lib.hid (HP5.out.add (q := ⟨⟨0, 0, [y]⟩, some ⟨w3.heap.size, 0, none⟩, 1⟩) HI5.out hg6 ho6)
              have HB6 := Lib.hid (HB5.out.grown hg6 (by simp; omega) (fun k e => (World.ownsRow.lt HP5.out.own k e).1))
              obtain ⟨RA, rcap, rfl, -, -⟩ := own_form HP6.out.own
              clear ho6 hg6 HP5 HB5 HI5 hw4 hz4 k0 k1 k2 k3 k4 k5
              go_wp2_with fail
              go_roundg ((a.length - i) + (b.length - (j + 1)))
              case rel => exact ⟨i, j + 1, 2, qs ++ [⟨⟨0, 0, [y]⟩, some ⟨w3.heap.size, 0, none⟩, 1⟩], RA, rcap, rfl, rfl, by go_num, rfl, Nat.le_refl _, HP6, HB6, Lib.hid (HMS.out _ _)⟩
              case measure => omega
      · skip
        have HM := Lib.hid (HS.out.skip hil (fun h => absurd h hjl))
        have hjd : decide ((j : Int) < (b.length : Int)) = false := decide_eq_false (by omega)
        have hjd2 : decide (j < b.length) = false := decide_eq_false hjl
        go_wp2_with fail
        go_quiet (fail)
        generalize hwq : wr.drewN nq = w2 at *
        have HB2 := Lib.hid (show Below wr.heap.size wr w2 by rw [← hwq]; exact drawn_below _ _)
        have HP2 := Lib.hid (HP.out.below HB2.out)
        have HBR2 := Lib.hid (HBR.out.trans (HB2.out.mono hbs))
        have hs2 := HBR2.out.size
        clear hwq HB2 HP HBR
        go_wp2_with fail
        go_quiet (fail)
        generalize hwq : w2.drewN nq = w3 at *
        have HB3 := Lib.hid (show Below w2.heap.size w2 w3 by rw [← hwq]; exact drawn_below _ _)
        have HP3 := Lib.hid (HP2.out.below HB3.out)
        have HBR3 := Lib.hid (HBR2.out.trans (HB3.out.mono hs2))
        clear hwq HB3 HP2 HBR2
        go_wp2_with fail
        go_roundg ((a.length - (i + 1)) + (b.length - j))
        case rel => exact ⟨i + 1, j, 0, qs, VA, vc, rfl, by go_num, rfl, rfl, Nat.le_refl _, HP3, HBR3, HM⟩
        case measure => omega
    · by_cases hjl : j < b.length
      · skip
        have hji : (j : Int) < (b.length : Int) := by omega
        have hnm : b[j] ∉ a.drop i := by rw [List.drop_eq_nil_of_le (by omega)]; exact List.not_mem_nil
        obtain ⟨bk, off, hBe, hbk, k0, k1, k2, k3, k4, k5⟩ := it_at HBr.out.i hjl
        subst hBe
        have hid : decide ((i : Int) < (a.length : Int)) = false := decide_eq_false (by omega)
        have hid2 : decide (i < a.length) = false := decide_eq_false hil
        have hbk0 : bk < w.heap.size := by
          obtain ⟨_, _, e, h, -⟩ := it_at HB.out.i hjl
          injection e with e
          injection e with e1 e2
          rw [e1]; exact h
        obtain ⟨y, hy⟩ : ∃ y, y = b[j] := ⟨_, rfl⟩
        have HY := Lib.hid hy
        obtain ⟨yt, hyt⟩ : ∃ s : ByteArray, s = ⟨y.tx.toArray⟩ := ⟨_, rfl⟩
        have HYT := Lib.hid hyt
        rw [← hy] at k0 k1 k2 k3 k4 k5
        rw [← hyt] at k4
        clear hyt
        rw [← hy] at hnm
        clear hy
        go_wp2_with fail
        go_quiet (fail)
        generalize hwq : wr.drewN nq = w2 at *
        have HB2 := Lib.hid (show Below wr.heap.size wr w2 by rw [← hwq]; exact drawn_below _ _)
        have HP2 := Lib.hid (HP.out.below HB2.out)
        have HBR2 := Lib.hid (HBR.out.trans (HB2.out.mono hbs))
        have hs2 := HBR2.out.size
        have HA2 := Lib.hid (HAr.out.below HB2.out)
        have hbk2 := Nat.lt_of_lt_of_le hbk HB2.out.size
        have HKC : Hid (∀ W, Below w2.heap.size w2 W → W.cell? ⟨bk, off + j * 6, none⟩ = some (.int .i64 y.id) ∧ W.cell? ⟨bk, off + j * 6 + 1, none⟩ = some (.int .i64 y.lv) ∧ W.cell? ⟨bk, off + j * 6 + 2, none⟩ = some (.int .u64 (y.ct : Int)) ∧ W.cell? ⟨bk, off + j * 6 + 3, none⟩ = some (.bool y.an) ∧ W.cell? ⟨bk, off + j * 6 + 4, none⟩ = some (.string yt) ∧ W.cell? ⟨bk, off + j * 6 + 5, none⟩ = some (.bool y.ba)) := Lib.hid (fun W h => by
          have hz := fun k => (HB2.out.trans (h.mono HB2.out.size)).cell (p := ⟨bk, k, none⟩) hbk
          exact ⟨(hz _).trans k0, (hz _).trans k1, (hz _).trans k2, (hz _).trans k3, (hz _).trans k4, (hz _).trans k5⟩)
        clear hwq HB2 k0 k1 k2 k3 k4 k5 hbk HP HBR
        have hsl := fun W => drop_is (B := A) (n := a.length) (c := ca) (k := i) hi hra HZA.out W
        have hii2 : (i : Int) ≤ (a.length : Int) := by omega
        have HAM := Lib.hid (fun (W : World) (h : Below w2.heap.size w2 W) => among_any (dropP A ca i) (ca - i) (a.drop i) y W ((drop_ix HA2.out hi).below h).i (by rw [List.length_drop]; omega))
        simp only [List.length_drop, itV] at HAM
        rw [← HYT.out] at HAM
        obtain ⟨k0, k1, k2, k3, k4, k5⟩ := HKC.out w2 (Below.refl _ _)
        go_wp2_with fail
        go_still_tail 12, (by kernel_rfl)
        change wpList _ _ _ _ _ (World.drew _)
        clear k0 k1 k2 k3 k4 k5 hsl
        go_wp2_with fail
        with_reducible refine (HAM.out _ ((Below.refl _ w2).drew)).mono ?_
        rintro e w3 ⟨rfl, hb3'⟩
        have hb3 : Below w2.heap.size w2 w3 := (Below.refl _ _).drew.trans hb3'
        have HP3 := Lib.hid (HP2.out.below hb3)
        have HB3 := Lib.hid (HBR2.out.trans (hb3.mono hs2))
        have HKD := Lib.hid (fun (W : World) (h : Below w3.heap.size w3 W) => HKC.out W (hb3.trans (h.mono hb3.size)))
        have hbk3 := Nat.lt_of_lt_of_le hbk2 hb3.size
        have hs3 : w.heap.size ≤ w3.heap.size := HB3.out.size
        clear hb3 hb3' HAM HP2 HBR2 HKC HA2
        skip
        rw [decide_eq_false hnm]
        by_cases h2 : lst = 2
        · subst h2
          obtain ⟨rs, q, rfl⟩ := HS.out.last (by decide)
          have HMS : Hid (∀ C cc, Mst a b i (j + 1) 2 (rs ++ [⟨⟨0, 0, q.p.its ++ [y]⟩, C, cc⟩])) := Lib.hid (fun C cc => by have h := HS.out.put_last hjl (by rw [← HY.out]; exact hnm) C cc; rw [← HY.out] at h; exact h)
          have hpos := HS.out.ps q rfl (by simp)
          have hnb := HS.out.nb q (by simp)
          have hib := HS.out.ib q (by simp)
          obtain ⟨g, hVA, hpl⟩ := Pl.of HP3.out
          subst hVA
          have HPL := Lib.hid hpl
          obtain ⟨z0, z1, z2, -⟩ := hpl.last_cells
          obtain ⟨nn, hnn⟩ : ∃ n, n = (rs ++ [q]).length := ⟨_, rfl⟩
          have hnr : nn = rs.length + 1 := by rw [hnn]; simp
          rw [← hnn]
          rw [← hnn] at hln
          have HNN := Lib.hid hnn
          have hwl : IntKind.i64.wrap ((nn : Int) - 1) = (rs.length : Int) := by rw [IntKind.wrap_i64]; omega
          have h0r : (0 : Int) ≤ (rs.length : Int) := by omega
          have hrn : (rs.length : Int) < (nn : Int) := by omega
          have HNR := Lib.hid hnr
          clear hnn hnr
          obtain ⟨w4, hw4⟩ : ∃ W : World, W = w3.alloc (.cells #[.int .i64 q.p.at_, .int .i64 q.p.n, .slice q.C q.p.its.length q.cc] 27) := ⟨_, rfl⟩
          have HB4 := Lib.hid (show Below w3.heap.size w3 w4 by rw [hw4]; exact alloc1 _ _)
          have HX4 := Lib.hid (show w4.heap[w3.heap.size]? = some (.cells #[.int .i64 q.p.at_, .int .i64 q.p.n, .slice q.C q.p.its.length q.cc] 27 (0, 0)) by rw [hw4]; exact heap_alloc_new w3 _)
          go_upto_region 17 with fail
          rw [← hw4]
          have HPLA := Lib.hid (HPL.out.kept HB4.out)
          have HBA := Lib.hid (HB3.out.trans (HB4.out.mono hs3))
          have hsA : w.heap.size ≤ w4.heap.size := HBA.out.size
          have hgb := HPL.out.block
          obtain ⟨bx, hbxe⟩ : ∃ n, n = w3.heap.size := ⟨_, rfl⟩
          rw [← hbxe] at HX4 hgb ⊢
          have hbx : bx < w4.heap.size := L.blk_lt HX4.out
          have hbg : bx ≠ g := by omega
          have hbk4 : bk < w4.heap.size := Nat.lt_of_lt_of_le hbk3 HB4.out.size
          have hkg : bk ≠ g := by omega
          have hc2 := L.blk_cell HX4.out 2
          simp only [List.getElem?_toArray, List.getElem?_cons_zero, List.getElem?_cons_succ] at hc2
          have HSI := Lib.hid (And.intro hc2 (HKD.out w4 HB4.out))
          clear hc2
          have HQI := Lib.hid (items_own (HPLA.out.pw.its q (by simp)))
          clear hw4 HB4 HX4 hgb hbxe HPL HP3 HB3 HKD z0 z1 z2 hpl hbk3 hs3 hnb
          generalize w4 = w3 at *
          have HP3 := HPLA
          have HB3 := HBA
          have hbs3 := hsA
          have hbk := hbk4
          clear HPLA HBA hsA hbk4
          refine wp_region_held_drew (S := (fun W => W.cell? ⟨bx, 2, none⟩ = some (.slice q.C q.p.its.length q.cc) ∧ W.cell? ⟨bk, off + j * 6, none⟩ = some (.int .i64 y.id) ∧ W.cell? ⟨bk, off + j * 6 + 1, none⟩ = some (.int .i64 y.lv) ∧ W.cell? ⟨bk, off + j * 6 + 2, none⟩ = some (.int .u64 (y.ct : Int)) ∧ W.cell? ⟨bk, off + j * 6 + 3, none⟩ = some (.bool y.an) ∧ W.cell? ⟨bk, off + j * 6 + 4, none⟩ = some (.string yt) ∧ W.cell? ⟨bk, off + j * 6 + 5, none⟩ = some (.bool y.ba))) (by kernel_rfl) (si_keep HSI.out (drawn_below w3 1) hbx hbk) (fun hK0 => ?_)
          refine wpAnyH_take (i := 0) (oi := { dst := some 94, op := Go.Op.move (Go.Operand.tmp 5), type := 24, pos := "ref.go:40", after := #[], guard := none }) (v := ?_) rfl (by kernel_rfl) (by kernel_rfl) (by kernel_rfl) (fun _ _ _ h => h) (Or.inl ⟨by rfl, ?_⟩) hK0 ?_
          rotate_left
          · (intro wz hSz; (try dsimp only at hSz); go_simp; try with_reducible rfl)
          simp only [Act.put, List.setIfInBounds_toArray, List.set_cons_zero, List.set_cons_succ]
          refine wpAnyH_take (i := 1) (oi := { dst := some 95, op := Go.Op.move (Go.Operand.tmp 5), type := 24, pos := "ref.go:40", after := #[], guard := none }) (v := ?_) rfl (by kernel_rfl) (by kernel_rfl) (by kernel_rfl) (fun _ _ _ h => h) (Or.inl ⟨by rfl, ?_⟩) hK0 ?_
          rotate_left
          · (intro wz hSz; (try dsimp only at hSz); go_simp; try with_reducible rfl)
          simp only [Act.put, List.setIfInBounds_toArray, List.set_cons_zero, List.set_cons_succ]
          refine wpAnyH_take (i := 2) (oi := { dst := some 96, op := Go.Op.call { callee := Go.Callee.builtin Go.Builtin.len, args := #[Go.Operand.tmp 95], argTypes := #[24] }, type := 3, pos := "ref.go:40", after := #[{ on := 1, ground := Go.Ground.data }], guard := none }) (v := ?_) rfl (by kernel_rfl) (by kernel_rfl) (by kernel_rfl) (fun _ _ _ h => h) (Or.inl ⟨by rfl, ?_⟩) hK0 ?_
          rotate_left
          · (intro wz hSz; (try dsimp only at hSz); go_simp; try with_reducible rfl)
          simp only [Act.put, List.setIfInBounds_toArray, List.set_cons_zero, List.set_cons_succ]
          refine wpAnyH_take (i := 3) (oi := { dst := some 97, op := Go.Op.binOp Go.BinOp.sub 3 (Go.Operand.tmp 96) (Go.Operand.const (Go.Value.int Go.IntKind.i64 1)) 3, type := 3, pos := "ref.go:40", after := #[{ on := 2, ground := Go.Ground.data }], guard := none }) (v := ?_) rfl (by kernel_rfl) (by kernel_rfl) (by kernel_rfl) (fun _ _ _ h => h) (Or.inl ⟨by rfl, ?_⟩) hK0 ?_
          rotate_left
          · (intro wz hSz; (try dsimp only at hSz); go_simp; try with_reducible rfl)
          simp only [Act.put, List.setIfInBounds_toArray, List.set_cons_zero, List.set_cons_succ]
          refine wpAnyH_take (i := 5) (oi := { dst := some 99, op := Go.Op.fieldAddr 27 (Go.Operand.tmp 10) 2, type := 0, pos := "ref.go:40", after := #[], guard := none }) (v := ?_) rfl (by kernel_rfl) (by kernel_rfl) (by kernel_rfl) (fun _ _ _ h => h) (Or.inl ⟨by rfl, ?_⟩) hK0 ?_
          rotate_left
          · (intro wz hSz; (try dsimp only at hSz); go_simp; try with_reducible rfl)
          simp only [Act.put, List.setIfInBounds_toArray, List.set_cons_zero, List.set_cons_succ]
          refine wpAnyH_take (i := 6) (oi := { dst := some 100, op := Go.Op.load 22 (Go.Operand.tmp 99), type := 22, pos := "ref.go:40", after := #[{ on := 5, ground := Go.Ground.data }], guard := none }) (v := ?_) rfl (by kernel_rfl) (by kernel_rfl) (by kernel_rfl) (fun _ _ _ h => h) (Or.inl ⟨by rfl, ?_⟩) hK0 ?_
          rotate_left
          · (intro wz hSz; (try dsimp only at hSz); go_simp; try with_reducible rfl)
          simp only [Act.put, List.setIfInBounds_toArray, List.set_cons_zero, List.set_cons_succ]
          refine wpAnyH_take (i := 8) (oi := { dst := some 102, op := Go.Op.move (Go.Operand.tmp 1), type := 22, pos := "ref.go:40", after := #[], guard := none }) (v := ?_) rfl (by kernel_rfl) (by kernel_rfl) (by kernel_rfl) (fun _ _ _ h => h) (Or.inl ⟨by rfl, ?_⟩) hK0 ?_
          rotate_left
          · (intro wz hSz; (try dsimp only at hSz); go_simp; try with_reducible rfl)
          simp only [Act.put, List.setIfInBounds_toArray, List.set_cons_zero, List.set_cons_succ]
          refine wpAnyH_take (i := 9) (oi := { dst := some 103, op := Go.Op.move (Go.Operand.tmp 7), type := 3, pos := "ref.go:40", after := #[], guard := none }) (v := ?_) rfl (by kernel_rfl) (by kernel_rfl) (by kernel_rfl) (fun _ _ _ h => h) (Or.inl ⟨by rfl, ?_⟩) hK0 ?_
          rotate_left
          · (intro wz hSz; (try dsimp only at hSz); go_simp; try with_reducible rfl)
          simp only [Act.put, List.setIfInBounds_toArray, List.set_cons_zero, List.set_cons_succ]
          refine wpAnyH_take (i := 10) (oi := { dst := some 104, op := Go.Op.indexAddr 22 (Go.Operand.tmp 102) (Go.Operand.tmp 103), type := 0, pos := "ref.go:40", after := #[{ on := 8, ground := Go.Ground.data }, { on := 9, ground := Go.Ground.data }], guard := none }) (v := ?_) rfl (by kernel_rfl) (by kernel_rfl) (by kernel_rfl) (fun _ _ _ h => h) (Or.inl ⟨by rfl, ?_⟩) hK0 ?_
          rotate_left
          · (intro wz hSz; (try dsimp only at hSz); go_simp; try with_reducible rfl)
          simp only [Act.put, List.setIfInBounds_toArray, List.set_cons_zero, List.set_cons_succ]
          refine wpAnyH_take (i := 11) (oi := { dst := some 105, op := Go.Op.load 41 (Go.Operand.tmp 104), type := 41, pos := "ref.go:40", after := #[{ on := 10, ground := Go.Ground.data }], guard := none }) (v := ?_) rfl (by kernel_rfl) (by kernel_rfl) (by kernel_rfl) (fun _ _ _ h => h) (Or.inl ⟨by rfl, ?_⟩) hK0 ?_
          rotate_left
          · (intro wz hSz; (try dsimp only at hSz); go_simp; try with_reducible rfl)
          simp only [Act.put, List.setIfInBounds_toArray, List.set_cons_zero, List.set_cons_succ]
          refine wpAnyH_ready (rs := [4, 12]) (by kernel_rfl) (by simp) ?_
          refine AllReadyH.cons (o := { dst := some 98, op := Go.Op.buildSlice 22 0 #[], type := 22, pos := "ref.go:40", after := #[], guard := none }) rfl (fun K hK => ?_) (AllReadyH.cons (o := { dst := some 106, op := Go.Op.buildSlice 22 1 #[(0, Go.Operand.tmp 105)], type := 22, pos := "ref.go:40", after := #[{ on := 11, ground := Go.Ground.data }], guard := none }) rfl (fun K hK => ?_) AllReadyH.nil)
          · skip
            go_simp
            obtain ⟨wq1, hwq⟩ : ∃ W : World, W = (w3.alloc (.cells #[] 41)).drew := ⟨_, rfl⟩
            rw [← hwq]
            have hbq : Below w3.heap.size w3 wq1 := by rw [hwq]; exact (alloc1 _ _).drew
            have hkp : Below w3.heap.size w3 wq1 := hbq
            have hS := si_keep HSI.out hkp hbx hbk
            have hz : wq1.heap.size = w3.heap.size + 1 := by rw [hwq]; simp
            obtain ⟨ga, hgn⟩ : ∃ g, g = w3.heap.size := ⟨_, rfl⟩
            have hlo : w3.heap.size ≤ ga := by rw [hgn]; exact Nat.le_refl _
            have hg : wq1.ownsRow w3.heap.size 41 6 (.slice (some ⟨ga, 0, none⟩) 0 0) 0 [] := by rw [hwq, hgn]; exact (World.ownsRow_made w3 #[] 0 (Nat.le_refl _) (Nat.zero_le _) rfl).drew
            rw [← hgn]
            have HLTA : Hid (ga < wq1.heap.size) := Lib.hid (by omega)
            have HOWN := Lib.hid hg
            have HKP := Lib.hid hkp
            clear hbq hg hgn hwq hz hlo hkp
            refine hK.out _ _ hS (fun hK1 => ?_)
            clear hK K hS hK0
            try simp only [Act.put, List.setIfInBounds_toArray, List.set_cons_zero, List.set_cons_succ]
            refine wpAnyH_ready (rs := [7, 12]) (by kernel_rfl) (by simp) ?_
            refine AllReadyH.cons (o := { dst := some 101, op := Go.Op.call { callee := Go.Callee.builtin Go.Builtin.append, args := #[Go.Operand.tmp 98, Go.Operand.tmp 100], argTypes := #[22, 22] }, type := 22, pos := "ref.go:40", after := #[{ on := 4, ground := Go.Ground.data }, { on := 6, ground := Go.Ground.data }], guard := none }) rfl (fun K hK => ?_) (AllReadyH.cons (o := { dst := some 106, op := Go.Op.buildSlice 22 1 #[(0, Go.Operand.tmp 105)], type := 22, pos := "ref.go:40", after := #[{ on := 11, ground := Go.Ground.data }], guard := none }) rfl (fun K hK => ?_) AllReadyH.nil)
            · skip
              obtain ⟨bz, oz, hCe, hbz, hIz⟩ := (HQI.out.below HKP.out) hpos
              have HNW := Lib.hid (items_news hIz)
              have hsz : w3.heap.size ≤ wq1.heap.size := HKP.out.size
              refine step_append_lies _ (by rfl) (.tmp 98) (.tmp 100) 22 (by rfl) w3.heap.size 41 j0 _ 6 56 Tryd.underlying22 hj0 hy0 hy1 hy2 rfl (by decide) (.slice (some ⟨ga, 0, none⟩) 0 0) 0 [] (by rfl) HOWN.out ⟨bz, oz, none⟩ q.p.its.length q.cc (itCells q.p.its) (by rw [← hCe]; rfl) (itCells_length q.p.its) HNW.out (itCells_one q.p.its) hpos (by unfold maxLen; omega) (by omega) hsz _ rfl ?_
              intro gb cap2 wq2 hown2 hg2 hat2 hlt2
              have hbq : Below w3.heap.size wq1 wq2 := (Below.refl _ _).grown hg2 hsz (own_base HOWN.out)
              have hkp : Below w3.heap.size w3 wq2 := HKP.out.trans hbq
              have hS := si_keep HSI.out hkp hbx hbk
              rw [Nat.zero_add, List.nil_append] at hown2
              replace HOWN := Lib.hid hown2
              replace HKP := Lib.hid hkp
              clear hbq hown2 hg2 hat2 HNW hsz hkp hIz hCe hbz
              refine hK.out _ _ hS (fun hK2 => ?_)
              clear hK K hS hK1
              try simp only [Act.put, List.setIfInBounds_toArray, List.set_cons_zero, List.set_cons_succ]
              refine wpAnyH_ready (rs := [12]) (by kernel_rfl) (by simp) ?_
              refine AllReadyH.cons (o := { dst := some 106, op := Go.Op.buildSlice 22 1 #[(0, Go.Operand.tmp 105)], type := 22, pos := "ref.go:40", after := #[{ on := 11, ground := Go.Ground.data }], guard := none }) rfl (fun K hK => ?_) AllReadyH.nil
              go_simp
              obtain ⟨wq3, hwq⟩ : ∃ W : World, W = (wq2.alloc (.cells #[.int .i64 y.id, .int .i64 y.lv, .int .u64 (y.ct : Int), .bool y.an, .string yt, .bool y.ba] 41)) := ⟨_, rfl⟩
              rw [← hwq]
              have hbq : Below wq2.heap.size wq2 wq3 := by rw [hwq]; exact (alloc1 _ _)
              have hkp : Below w3.heap.size w3 wq3 := HKP.out.trans (hbq.mono HKP.out.size)
              have hS := si_keep HSI.out hkp hbx hbk
              have hz : wq3.heap.size = wq2.heap.size + 1 := by rw [hwq]; simp
              obtain ⟨gc, hgn⟩ : ∃ g, g = wq2.heap.size := ⟨_, rfl⟩
              have hlo : w3.heap.size ≤ gc := by rw [hgn]; exact HKP.out.size
              have hg : wq3.heap[gc]? = some (.cells #[.int .i64 y.id, .int .i64 y.lv, .int .u64 (y.ct : Int), .bool y.an, .string yt, .bool y.ba] 41 (0, 0)) := by rw [hwq, hgn]; exact heap_alloc_new wq2 _
              rw [← hgn]
              replace HOWN := Lib.hid (own_below HOWN.out hbq)
              have HLTC : Hid (gc < wq3.heap.size) := Lib.hid (by omega)
              have HGC := Lib.hid hg
              replace HKP := Lib.hid hkp
              clear hbq hg hgn hwq hz hlo hkp
              refine hK.out _ _ hS (fun hK3 => ?_)
              clear hK K hS hK2
              try simp only [Act.put, List.setIfInBounds_toArray, List.set_cons_zero, List.set_cons_succ]
              refine wpAnyH_ready (rs := [13]) (by kernel_rfl) (by simp) ?_
              refine AllReadyH.cons (o := { dst := some 107, op := Go.Op.call { callee := Go.Callee.builtin Go.Builtin.append, args := #[Go.Operand.tmp 101, Go.Operand.tmp 106], argTypes := #[22, 22] }, type := 22, pos := "ref.go:40", after := #[{ on := 7, ground := Go.Ground.data }, { on := 12, ground := Go.Ground.data }, { on := 7, ground := Go.Ground.chain }], guard := none }) rfl (fun K hK => ?_) AllReadyH.nil
              have HNW := Lib.hid (World.news_of_block HGC.out)
              have H1C : Hid (∀ u ∈ ([.int .i64 y.id, .int .i64 y.lv, .int .u64 (y.ct : Int), .bool y.an, .string yt, .bool y.ba] : List Value), u.oneCell' = true) := Lib.hid (by intro u hu; simp at hu; rcases hu with rfl | rfl | rfl | rfl | rfl | rfl <;> rfl)
              have hsz : w3.heap.size ≤ wq3.heap.size := HKP.out.size
              refine step_append_lies _ (by rfl) (.tmp 101) (.tmp 106) 22 (by rfl) w3.heap.size 41 j0 _ 6 56 Tryd.underlying22 hj0 hy0 hy1 hy2 rfl (by decide) (.slice (some ⟨gb, 0, none⟩) q.p.its.length cap2) q.p.its.length (itCells q.p.its) (by first | rfl | (simp only [Nat.zero_add]; rfl)) HOWN.out ⟨gc, 0, none⟩ 1 1 [.int .i64 y.id, .int .i64 y.lv, .int .u64 (y.ct : Int), .bool y.an, .string yt, .bool y.ba] (by rfl) rfl HNW.out H1C.out (by omega) (by unfold maxLen; omega) (by omega) hsz _ rfl ?_
              intro gd cap4 wq4 hown4 hg4 hat4 hlt4
              have hbq : Below w3.heap.size wq3 wq4 := (Below.refl _ _).grown hg4 hsz (own_base HOWN.out)
              have hkp : Below w3.heap.size w3 wq4 := HKP.out.trans hbq
              have hS := si_keep HSI.out hkp hbx hbk
              replace HOWN := Lib.hid hown4
              replace HKP := Lib.hid hkp
              clear hbq hown4 hg4 hat4 HNW H1C hsz hkp HGC
              refine hK.out _ _ hS (fun hK4 => ?_)
              clear hK K hS hK3
              try simp only [Act.put, List.setIfInBounds_toArray, List.set_cons_zero, List.set_cons_succ]
              refine wpAnyH_take (i := 14) (oi := { dst := some 108, op := Go.Op.build 27 #[(2, Go.Operand.tmp 107)], type := 27, pos := "ref.go:40", after := #[{ on := 13, ground := Go.Ground.data }], guard := none }) (v := ?_) rfl (by kernel_rfl) (by kernel_rfl) (by kernel_rfl) (fun _ _ _ h => h) (Or.inl ⟨by rfl, ?_⟩) hK4 ?_
              rotate_left
              · (intro wz hSz; (try dsimp only at hSz); go_simp; try with_reducible rfl)
              simp only [Act.put, List.setIfInBounds_toArray, List.set_cons_zero, List.set_cons_succ]
              refine wpAnyH_take (i := 15) (oi := { dst := some 109, op := Go.Op.indexAddr 24 (Go.Operand.tmp 94) (Go.Operand.tmp 97), type := 0, pos := "ref.go:40", after := #[{ on := 0, ground := Go.Ground.data }, { on := 3, ground := Go.Ground.data }, { on := 0, ground := Go.Ground.phase }, { on := 1, ground := Go.Ground.phase }, { on := 2, ground := Go.Ground.phase }, { on := 3, ground := Go.Ground.phase }, { on := 4, ground := Go.Ground.phase }, { on := 5, ground := Go.Ground.phase }, { on := 6, ground := Go.Ground.phase }, { on := 7, ground := Go.Ground.phase }, { on := 8, ground := Go.Ground.phase }, { on := 9, ground := Go.Ground.phase }, { on := 10, ground := Go.Ground.phase }, { on := 11, ground := Go.Ground.phase }, { on := 12, ground := Go.Ground.phase }, { on := 13, ground := Go.Ground.phase }, { on := 14, ground := Go.Ground.phase }], guard := none }) (v := ?_) rfl (by kernel_rfl) (by kernel_rfl) (by kernel_rfl) (fun _ _ _ h => h) (Or.inl ⟨by rfl, ?_⟩) hK4 ?_
              rotate_left
              · (intro wz hSz; (try dsimp only at hSz); go_simp; try with_reducible rfl)
              simp only [Act.put, List.setIfInBounds_toArray, List.set_cons_zero, List.set_cons_succ]
              refine wpAnyH_ready (rs := [16]) (by kernel_rfl) (by simp) ?_
              refine AllReadyH.cons (o := { dst := none, op := Go.Op.store 27 (Go.Operand.tmp 109) (Go.Operand.tmp 108), type := 0, pos := "ref.go:40", after := #[{ on := 15, ground := Go.Ground.data }, { on := 14, ground := Go.Ground.data }, { on := 13, ground := Go.Ground.chain }, { on := 0, ground := Go.Ground.phase }, { on := 1, ground := Go.Ground.phase }, { on := 2, ground := Go.Ground.phase }, { on := 3, ground := Go.Ground.phase }, { on := 4, ground := Go.Ground.phase }, { on := 5, ground := Go.Ground.phase }, { on := 6, ground := Go.Ground.phase }, { on := 7, ground := Go.Ground.phase }, { on := 8, ground := Go.Ground.phase }, { on := 9, ground := Go.Ground.phase }, { on := 10, ground := Go.Ground.phase }, { on := 11, ground := Go.Ground.phase }, { on := 12, ground := Go.Ground.phase }, { on := 13, ground := Go.Ground.phase }, { on := 14, ground := Go.Ground.phase }], guard := none }) rfl (fun K hK => ?_) AllReadyH.nil
              have HPZ := Lib.hid (HP3.out.kept HKP.out)
              obtain ⟨z0, z1, z2, zf⟩ := HPZ.out.last_cells
              have f0 := zf (rs.length * 3)
              have f1 := zf (rs.length * 3 + 1)
              have f2 := zf (rs.length * 3 + 2)
              go_simp
              obtain ⟨wq5, hwq⟩ : ∃ W : World, W = ((wq4.setCell ⟨g, rs.length * 3, none⟩ (.int .i64 0)).setCell ⟨g, rs.length * 3 + 1, none⟩ (.int .i64 0)).setCell ⟨g, rs.length * 3 + 2, none⟩ (.slice (some ⟨gd, 0, none⟩) (q.p.its.length + 1) cap4) := ⟨_, rfl⟩
              rw [← hwq]
              have HFI := Lib.hid (HPZ.out.put (W' := wq5) (q' := ⟨⟨0, 0, q.p.its ++ [y]⟩, some ⟨gd, 0, none⟩, cap4⟩) (by have h := HOWN.out; rw [HYT.out, ← itCells_snoc] at h; simpa using V.own_base_le h hbs3) (by rw [hwq, List.length_append]; rfl))
              have hS := si_put (si_keep HSI.out HKP.out hbx hbk) hbg hkg hwq
              have HBF := Lib.hid (show Below w.heap.size w wq5 from HB3.out.trans ((HKP.out.mono hbs3).trans HFI.out.2))
              clear z0 z1 z2 zf f0 f1 f2 hwq HOWN
              refine hK.out _ _ hS (fun hK5 => ?_)
              clear hK K hS hK4
              try simp only [Act.put, List.setIfInBounds_toArray, List.set_cons_zero, List.set_cons_succ]
              refine wpAnyH_done (by kernel_rfl) ?_ _
              go_wp2_with fail
              go_roundg ((a.length - i) + (b.length - (j + 1)))
              case rel => exact ⟨i, j + 1, 2, rs ++ [⟨⟨0, 0, q.p.its ++ [y]⟩, some ⟨gd, 0, none⟩, _⟩], some ⟨g, 0, none⟩, vc, by rw [HNN.out]; simp, rfl, by go_num, rfl, by omega, Lib.hid (by rw [List.length_append]; exact HFI.out.1), HBF, Lib.hid (HMS.out _ _)⟩
              case measure => omega
            · skip
              go_simp
              obtain ⟨wq2, hwq⟩ : ∃ W : World, W = (wq1.alloc (.cells #[.int .i64 y.id, .int .i64 y.lv, .int .u64 (y.ct : Int), .bool y.an, .string yt, .bool y.ba] 41)) := ⟨_, rfl⟩
              rw [← hwq]
              have hbq : Below wq1.heap.size wq1 wq2 := by rw [hwq]; exact (alloc1 _ _)
              have hkp : Below w3.heap.size w3 wq2 := HKP.out.trans (hbq.mono HKP.out.size)
              have hS := si_keep HSI.out hkp hbx hbk
              have hz : wq2.heap.size = wq1.heap.size + 1 := by rw [hwq]; simp
              obtain ⟨gc, hgn⟩ : ∃ g, g = wq1.heap.size := ⟨_, rfl⟩
              have hlo : w3.heap.size ≤ gc := by rw [hgn]; exact HKP.out.size
              have hg : wq2.heap[gc]? = some (.cells #[.int .i64 y.id, .int .i64 y.lv, .int .u64 (y.ct : Int), .bool y.an, .string yt, .bool y.ba] 41 (0, 0)) := by rw [hwq, hgn]; exact heap_alloc_new wq1 _
              rw [← hgn]
              have HNE : Hid (ga ≠ gc) := Lib.hid (by have := HLTA.out; omega)
              replace HLTA := Lib.hid (Nat.lt_of_lt_of_le HLTA.out (Below.size hbq))
              replace HOWN := Lib.hid (own_below HOWN.out hbq)
              have HLTC : Hid (gc < wq2.heap.size) := Lib.hid (by omega)
              have HGC := Lib.hid hg
              replace HKP := Lib.hid hkp
              clear hbq hg hgn hwq hz hlo hkp
              refine hK.out _ _ hS (fun hK2 => ?_)
              clear hK K hS hK1
              try simp only [Act.put, List.setIfInBounds_toArray, List.set_cons_zero, List.set_cons_succ]
              refine wpAnyH_ready (rs := [7]) (by kernel_rfl) (by simp) ?_
              refine AllReadyH.cons (o := { dst := some 101, op := Go.Op.call { callee := Go.Callee.builtin Go.Builtin.append, args := #[Go.Operand.tmp 98, Go.Operand.tmp 100], argTypes := #[22, 22] }, type := 22, pos := "ref.go:40", after := #[{ on := 4, ground := Go.Ground.data }, { on := 6, ground := Go.Ground.data }], guard := none }) rfl (fun K hK => ?_) AllReadyH.nil
              obtain ⟨bz, oz, hCe, hbz, hIz⟩ := (HQI.out.below HKP.out) hpos
              have HNW := Lib.hid (items_news hIz)
              have hsz : w3.heap.size ≤ wq2.heap.size := HKP.out.size
              refine step_append_lies _ (by rfl) (.tmp 98) (.tmp 100) 22 (by rfl) w3.heap.size 41 j0 _ 6 56 Tryd.underlying22 hj0 hy0 hy1 hy2 rfl (by decide) (.slice (some ⟨ga, 0, none⟩) 0 0) 0 [] (by rfl) HOWN.out ⟨bz, oz, none⟩ q.p.its.length q.cc (itCells q.p.its) (by rw [← hCe]; rfl) (itCells_length q.p.its) HNW.out (itCells_one q.p.its) hpos (by unfold maxLen; omega) (by omega) hsz _ rfl ?_
              intro gb cap3 wq3 hown3 hg3 hat3 hlt3
              have hbq : Below w3.heap.size wq2 wq3 := (Below.refl _ _).grown hg3 hsz (own_base HOWN.out)
              have hkp : Below w3.heap.size w3 wq3 := HKP.out.trans hbq
              have hS := si_keep HSI.out hkp hbx hbk
              replace HGC := Lib.hid (blk_grown HGC.out hg3 (fun e => HNE.out (by injection e)))
              clear HNE
              rw [Nat.zero_add, List.nil_append] at hown3
              replace HOWN := Lib.hid hown3
              replace HKP := Lib.hid hkp
              clear hbq hown3 hg3 hat3 HNW hsz hkp hIz hCe hbz
              refine hK.out _ _ hS (fun hK3 => ?_)
              clear hK K hS hK2
              try simp only [Act.put, List.setIfInBounds_toArray, List.set_cons_zero, List.set_cons_succ]
              refine wpAnyH_ready (rs := [13]) (by kernel_rfl) (by simp) ?_
              refine AllReadyH.cons (o := { dst := some 107, op := Go.Op.call { callee := Go.Callee.builtin Go.Builtin.append, args := #[Go.Operand.tmp 101, Go.Operand.tmp 106], argTypes := #[22, 22] }, type := 22, pos := "ref.go:40", after := #[{ on := 7, ground := Go.Ground.data }, { on := 12, ground := Go.Ground.data }, { on := 7, ground := Go.Ground.chain }], guard := none }) rfl (fun K hK => ?_) AllReadyH.nil
              have HNW := Lib.hid (World.news_of_block HGC.out)
              have H1C : Hid (∀ u ∈ ([.int .i64 y.id, .int .i64 y.lv, .int .u64 (y.ct : Int), .bool y.an, .string yt, .bool y.ba] : List Value), u.oneCell' = true) := Lib.hid (by intro u hu; simp at hu; rcases hu with rfl | rfl | rfl | rfl | rfl | rfl <;> rfl)
              have hsz : w3.heap.size ≤ wq3.heap.size := HKP.out.size
              refine step_append_lies _ (by rfl) (.tmp 101) (.tmp 106) 22 (by rfl) w3.heap.size 41 j0 _ 6 56 Tryd.underlying22 hj0 hy0 hy1 hy2 rfl (by decide) (.slice (some ⟨gb, 0, none⟩) q.p.its.length cap3) q.p.its.length (itCells q.p.its) (by first | rfl | (simp only [Nat.zero_add]; rfl)) HOWN.out ⟨gc, 0, none⟩ 1 1 [.int .i64 y.id, .int .i64 y.lv, .int .u64 (y.ct : Int), .bool y.an, .string yt, .bool y.ba] (by rfl) rfl HNW.out H1C.out (by omega) (by unfold maxLen; omega) (by omega) hsz _ rfl ?_
              intro gd cap4 wq4 hown4 hg4 hat4 hlt4
              have hbq : Below w3.heap.size wq3 wq4 := (Below.refl _ _).grown hg4 hsz (own_base HOWN.out)
              have hkp : Below w3.heap.size w3 wq4 := HKP.out.trans hbq
              have hS := si_keep HSI.out hkp hbx hbk
              replace HOWN := Lib.hid hown4
              replace HKP := Lib.hid hkp
              clear hbq hown4 hg4 hat4 HNW H1C hsz hkp HGC
              refine hK.out _ _ hS (fun hK4 => ?_)
              clear hK K hS hK3
              try simp only [Act.put, List.setIfInBounds_toArray, List.set_cons_zero, List.set_cons_succ]
              refine wpAnyH_take (i := 14) (oi := { dst := some 108, op := Go.Op.build 27 #[(2, Go.Operand.tmp 107)], type := 27, pos := "ref.go:40", after := #[{ on := 13, ground := Go.Ground.data }], guard := none }) (v := ?_) rfl (by kernel_rfl) (by kernel_rfl) (by kernel_rfl) (fun _ _ _ h => h) (Or.inl ⟨by rfl, ?_⟩) hK4 ?_
              rotate_left
              · (intro wz hSz; (try dsimp only at hSz); go_simp; try with_reducible rfl)
              simp only [Act.put, List.setIfInBounds_toArray, List.set_cons_zero, List.set_cons_succ]
              refine wpAnyH_take (i := 15) (oi := { dst := some 109, op := Go.Op.indexAddr 24 (Go.Operand.tmp 94) (Go.Operand.tmp 97), type := 0, pos := "ref.go:40", after := #[{ on := 0, ground := Go.Ground.data }, { on := 3, ground := Go.Ground.data }, { on := 0, ground := Go.Ground.phase }, { on := 1, ground := Go.Ground.phase }, { on := 2, ground := Go.Ground.phase }, { on := 3, ground := Go.Ground.phase }, { on := 4, ground := Go.Ground.phase }, { on := 5, ground := Go.Ground.phase }, { on := 6, ground := Go.Ground.phase }, { on := 7, ground := Go.Ground.phase }, { on := 8, ground := Go.Ground.phase }, { on := 9, ground := Go.Ground.phase }, { on := 10, ground := Go.Ground.phase }, { on := 11, ground := Go.Ground.phase }, { on := 12, ground := Go.Ground.phase }, { on := 13, ground := Go.Ground.phase }, { on := 14, ground := Go.Ground.phase }], guard := none }) (v := ?_) rfl (by kernel_rfl) (by kernel_rfl) (by kernel_rfl) (fun _ _ _ h => h) (Or.inl ⟨by rfl, ?_⟩) hK4 ?_
              rotate_left
              · (intro wz hSz; (try dsimp only at hSz); go_simp; try with_reducible rfl)
              simp only [Act.put, List.setIfInBounds_toArray, List.set_cons_zero, List.set_cons_succ]
              refine wpAnyH_ready (rs := [16]) (by kernel_rfl) (by simp) ?_
              refine AllReadyH.cons (o := { dst := none, op := Go.Op.store 27 (Go.Operand.tmp 109) (Go.Operand.tmp 108), type := 0, pos := "ref.go:40", after := #[{ on := 15, ground := Go.Ground.data }, { on := 14, ground := Go.Ground.data }, { on := 13, ground := Go.Ground.chain }, { on := 0, ground := Go.Ground.phase }, { on := 1, ground := Go.Ground.phase }, { on := 2, ground := Go.Ground.phase }, { on := 3, ground := Go.Ground.phase }, { on := 4, ground := Go.Ground.phase }, { on := 5, ground := Go.Ground.phase }, { on := 6, ground := Go.Ground.phase }, { on := 7, ground := Go.Ground.phase }, { on := 8, ground := Go.Ground.phase }, { on := 9, ground := Go.Ground.phase }, { on := 10, ground := Go.Ground.phase }, { on := 11, ground := Go.Ground.phase }, { on := 12, ground := Go.Ground.phase }, { on := 13, ground := Go.Ground.phase }, { on := 14, ground := Go.Ground.phase }], guard := none }) rfl (fun K hK => ?_) AllReadyH.nil
              have HPZ := Lib.hid (HP3.out.kept HKP.out)
              obtain ⟨z0, z1, z2, zf⟩ := HPZ.out.last_cells
              have f0 := zf (rs.length * 3)
              have f1 := zf (rs.length * 3 + 1)
              have f2 := zf (rs.length * 3 + 2)
              go_simp
              obtain ⟨wq5, hwq⟩ : ∃ W : World, W = ((wq4.setCell ⟨g, rs.length * 3, none⟩ (.int .i64 0)).setCell ⟨g, rs.length * 3 + 1, none⟩ (.int .i64 0)).setCell ⟨g, rs.length * 3 + 2, none⟩ (.slice (some ⟨gd, 0, none⟩) (q.p.its.length + 1) cap4) := ⟨_, rfl⟩
              rw [← hwq]
              have HFI := Lib.hid (HPZ.out.put (W' := wq5) (q' := ⟨⟨0, 0, q.p.its ++ [y]⟩, some ⟨gd, 0, none⟩, cap4⟩) (by have h := HOWN.out; rw [HYT.out, ← itCells_snoc] at h; simpa using V.own_base_le h hbs3) (by rw [hwq, List.length_append]; rfl))
              have hS := si_put (si_keep HSI.out HKP.out hbx hbk) hbg hkg hwq
              have HBF := Lib.hid (show Below w.heap.size w wq5 from HB3.out.trans ((HKP.out.mono hbs3).trans HFI.out.2))
              clear z0 z1 z2 zf f0 f1 f2 hwq HOWN
              refine hK.out _ _ hS (fun hK5 => ?_)
              clear hK K hS hK4
              try simp only [Act.put, List.setIfInBounds_toArray, List.set_cons_zero, List.set_cons_succ]
              refine wpAnyH_done (by kernel_rfl) ?_ _
              go_wp2_with fail
              go_roundg ((a.length - i) + (b.length - (j + 1)))
              case rel => exact ⟨i, j + 1, 2, rs ++ [⟨⟨0, 0, q.p.its ++ [y]⟩, some ⟨gd, 0, none⟩, _⟩], some ⟨g, 0, none⟩, vc, by rw [HNN.out]; simp, rfl, by go_num, rfl, by omega, Lib.hid (by rw [List.length_append]; exact HFI.out.1), HBF, Lib.hid (HMS.out _ _)⟩
              case measure => omega
          · skip
            go_simp
            obtain ⟨wq1, hwq⟩ : ∃ W : World, W = (w3.alloc (.cells #[.int .i64 y.id, .int .i64 y.lv, .int .u64 (y.ct : Int), .bool y.an, .string yt, .bool y.ba] 41)).drew := ⟨_, rfl⟩
            rw [← hwq]
            have hbq : Below w3.heap.size w3 wq1 := by rw [hwq]; exact (alloc1 _ _).drew
            have hkp : Below w3.heap.size w3 wq1 := hbq
            have hS := si_keep HSI.out hkp hbx hbk
            have hz : wq1.heap.size = w3.heap.size + 1 := by rw [hwq]; simp
            obtain ⟨gc, hgn⟩ : ∃ g, g = w3.heap.size := ⟨_, rfl⟩
            have hlo : w3.heap.size ≤ gc := by rw [hgn]; exact Nat.le_refl _
            have hg : wq1.heap[gc]? = some (.cells #[.int .i64 y.id, .int .i64 y.lv, .int .u64 (y.ct : Int), .bool y.an, .string yt, .bool y.ba] 41 (0, 0)) := by rw [hwq, hgn]; exact heap_alloc_new w3 _
            rw [← hgn]
            have HLTC : Hid (gc < wq1.heap.size) := Lib.hid (by omega)
            have HGC := Lib.hid hg
            have HKP := Lib.hid hkp
            clear hbq hg hgn hwq hz hlo hkp
            refine hK.out _ _ hS (fun hK1 => ?_)
            clear hK K hS hK0
            try simp only [Act.put, List.setIfInBounds_toArray, List.set_cons_zero, List.set_cons_succ]
            refine wpAnyH_ready (rs := [4]) (by kernel_rfl) (by simp) ?_
            refine AllReadyH.cons (o := { dst := some 98, op := Go.Op.buildSlice 22 0 #[], type := 22, pos := "ref.go:40", after := #[], guard := none }) rfl (fun K hK => ?_) AllReadyH.nil
            go_simp
            obtain ⟨wq2, hwq⟩ : ∃ W : World, W = (wq1.alloc (.cells #[] 41)) := ⟨_, rfl⟩
            rw [← hwq]
            have hbq : Below wq1.heap.size wq1 wq2 := by rw [hwq]; exact (alloc1 _ _)
            have hkp : Below w3.heap.size w3 wq2 := HKP.out.trans (hbq.mono HKP.out.size)
            have hS := si_keep HSI.out hkp hbx hbk
            have hz : wq2.heap.size = wq1.heap.size + 1 := by rw [hwq]; simp
            obtain ⟨ga, hgn⟩ : ∃ g, g = wq1.heap.size := ⟨_, rfl⟩
            have hlo : w3.heap.size ≤ ga := by rw [hgn]; exact HKP.out.size
            have hg : wq2.ownsRow w3.heap.size 41 6 (.slice (some ⟨ga, 0, none⟩) 0 0) 0 [] := by rw [hwq, hgn]; exact World.ownsRow_made wq1 #[] 0 HKP.out.size (Nat.zero_le _) rfl
            rw [← hgn]
            have HNE : Hid (ga ≠ gc) := Lib.hid (by have := HLTC.out; omega)
            replace HLTC := Lib.hid (Nat.lt_of_lt_of_le HLTC.out (Below.size hbq))
            replace HGC := Lib.hid ((Below.block hbq _ (L.blk_lt HGC.out)).trans HGC.out)
            have HLTA : Hid (ga < wq2.heap.size) := Lib.hid (by omega)
            have HOWN := Lib.hid hg
            replace HKP := Lib.hid hkp
            clear hbq hg hgn hwq hz hlo hkp
            refine hK.out _ _ hS (fun hK2 => ?_)
            clear hK K hS hK1
            try simp only [Act.put, List.setIfInBounds_toArray, List.set_cons_zero, List.set_cons_succ]
            refine wpAnyH_ready (rs := [7]) (by kernel_rfl) (by simp) ?_
            refine AllReadyH.cons (o := { dst := some 101, op := Go.Op.call { callee := Go.Callee.builtin Go.Builtin.append, args := #[Go.Operand.tmp 98, Go.Operand.tmp 100], argTypes := #[22, 22] }, type := 22, pos := "ref.go:40", after := #[{ on := 4, ground := Go.Ground.data }, { on := 6, ground := Go.Ground.data }], guard := none }) rfl (fun K hK => ?_) AllReadyH.nil
            obtain ⟨bz, oz, hCe, hbz, hIz⟩ := (HQI.out.below HKP.out) hpos
            have HNW := Lib.hid (items_news hIz)
            have hsz : w3.heap.size ≤ wq2.heap.size := HKP.out.size
            refine step_append_lies _ (by rfl) (.tmp 98) (.tmp 100) 22 (by rfl) w3.heap.size 41 j0 _ 6 56 Tryd.underlying22 hj0 hy0 hy1 hy2 rfl (by decide) (.slice (some ⟨ga, 0, none⟩) 0 0) 0 [] (by rfl) HOWN.out ⟨bz, oz, none⟩ q.p.its.length q.cc (itCells q.p.its) (by rw [← hCe]; rfl) (itCells_length q.p.its) HNW.out (itCells_one q.p.its) hpos (by unfold maxLen; omega) (by omega) hsz _ rfl ?_
            intro gb cap3 wq3 hown3 hg3 hat3 hlt3
            have hbq : Below w3.heap.size wq2 wq3 := (Below.refl _ _).grown hg3 hsz (own_base HOWN.out)
            have hkp : Below w3.heap.size w3 wq3 := HKP.out.trans hbq
            have hS := si_keep HSI.out hkp hbx hbk
            replace HGC := Lib.hid (blk_grown HGC.out hg3 (fun e => HNE.out (by injection e)))
            clear HNE
            rw [Nat.zero_add, List.nil_append] at hown3
            replace HOWN := Lib.hid hown3
            replace HKP := Lib.hid hkp
            clear hbq hown3 hg3 hat3 HNW hsz hkp hIz hCe hbz
            refine hK.out _ _ hS (fun hK3 => ?_)
            clear hK K hS hK2
            try simp only [Act.put, List.setIfInBounds_toArray, List.set_cons_zero, List.set_cons_succ]
            refine wpAnyH_ready (rs := [13]) (by kernel_rfl) (by simp) ?_
            refine AllReadyH.cons (o := { dst := some 107, op := Go.Op.call { callee := Go.Callee.builtin Go.Builtin.append, args := #[Go.Operand.tmp 101, Go.Operand.tmp 106], argTypes := #[22, 22] }, type := 22, pos := "ref.go:40", after := #[{ on := 7, ground := Go.Ground.data }, { on := 12, ground := Go.Ground.data }, { on := 7, ground := Go.Ground.chain }], guard := none }) rfl (fun K hK => ?_) AllReadyH.nil
            have HNW := Lib.hid (World.news_of_block HGC.out)
            have H1C : Hid (∀ u ∈ ([.int .i64 y.id, .int .i64 y.lv, .int .u64 (y.ct : Int), .bool y.an, .string yt, .bool y.ba] : List Value), u.oneCell' = true) := Lib.hid (by intro u hu; simp at hu; rcases hu with rfl | rfl | rfl | rfl | rfl | rfl <;> rfl)
            have hsz : w3.heap.size ≤ wq3.heap.size := HKP.out.size
            refine step_append_lies _ (by rfl) (.tmp 101) (.tmp 106) 22 (by rfl) w3.heap.size 41 j0 _ 6 56 Tryd.underlying22 hj0 hy0 hy1 hy2 rfl (by decide) (.slice (some ⟨gb, 0, none⟩) q.p.its.length cap3) q.p.its.length (itCells q.p.its) (by first | rfl | (simp only [Nat.zero_add]; rfl)) HOWN.out ⟨gc, 0, none⟩ 1 1 [.int .i64 y.id, .int .i64 y.lv, .int .u64 (y.ct : Int), .bool y.an, .string yt, .bool y.ba] (by rfl) rfl HNW.out H1C.out (by omega) (by unfold maxLen; omega) (by omega) hsz _ rfl ?_
            intro gd cap4 wq4 hown4 hg4 hat4 hlt4
            have hbq : Below w3.heap.size wq3 wq4 := (Below.refl _ _).grown hg4 hsz (own_base HOWN.out)
            have hkp : Below w3.heap.size w3 wq4 := HKP.out.trans hbq
            have hS := si_keep HSI.out hkp hbx hbk
            replace HOWN := Lib.hid hown4
            replace HKP := Lib.hid hkp
            clear hbq hown4 hg4 hat4 HNW H1C hsz hkp HGC
            refine hK.out _ _ hS (fun hK4 => ?_)
            clear hK K hS hK3
            try simp only [Act.put, List.setIfInBounds_toArray, List.set_cons_zero, List.set_cons_succ]
            refine wpAnyH_take (i := 14) (oi := { dst := some 108, op := Go.Op.build 27 #[(2, Go.Operand.tmp 107)], type := 27, pos := "ref.go:40", after := #[{ on := 13, ground := Go.Ground.data }], guard := none }) (v := ?_) rfl (by kernel_rfl) (by kernel_rfl) (by kernel_rfl) (fun _ _ _ h => h) (Or.inl ⟨by rfl, ?_⟩) hK4 ?_
            rotate_left
            · (intro wz hSz; (try dsimp only at hSz); go_simp; try with_reducible rfl)
            simp only [Act.put, List.setIfInBounds_toArray, List.set_cons_zero, List.set_cons_succ]
            refine wpAnyH_take (i := 15) (oi := { dst := some 109, op := Go.Op.indexAddr 24 (Go.Operand.tmp 94) (Go.Operand.tmp 97), type := 0, pos := "ref.go:40", after := #[{ on := 0, ground := Go.Ground.data }, { on := 3, ground := Go.Ground.data }, { on := 0, ground := Go.Ground.phase }, { on := 1, ground := Go.Ground.phase }, { on := 2, ground := Go.Ground.phase }, { on := 3, ground := Go.Ground.phase }, { on := 4, ground := Go.Ground.phase }, { on := 5, ground := Go.Ground.phase }, { on := 6, ground := Go.Ground.phase }, { on := 7, ground := Go.Ground.phase }, { on := 8, ground := Go.Ground.phase }, { on := 9, ground := Go.Ground.phase }, { on := 10, ground := Go.Ground.phase }, { on := 11, ground := Go.Ground.phase }, { on := 12, ground := Go.Ground.phase }, { on := 13, ground := Go.Ground.phase }, { on := 14, ground := Go.Ground.phase }], guard := none }) (v := ?_) rfl (by kernel_rfl) (by kernel_rfl) (by kernel_rfl) (fun _ _ _ h => h) (Or.inl ⟨by rfl, ?_⟩) hK4 ?_
            rotate_left
            · (intro wz hSz; (try dsimp only at hSz); go_simp; try with_reducible rfl)
            simp only [Act.put, List.setIfInBounds_toArray, List.set_cons_zero, List.set_cons_succ]
            refine wpAnyH_ready (rs := [16]) (by kernel_rfl) (by simp) ?_
            refine AllReadyH.cons (o := { dst := none, op := Go.Op.store 27 (Go.Operand.tmp 109) (Go.Operand.tmp 108), type := 0, pos := "ref.go:40", after := #[{ on := 15, ground := Go.Ground.data }, { on := 14, ground := Go.Ground.data }, { on := 13, ground := Go.Ground.chain }, { on := 0, ground := Go.Ground.phase }, { on := 1, ground := Go.Ground.phase }, { on := 2, ground := Go.Ground.phase }, { on := 3, ground := Go.Ground.phase }, { on := 4, ground := Go.Ground.phase }, { on := 5, ground := Go.Ground.phase }, { on := 6, ground := Go.Ground.phase }, { on := 7, ground := Go.Ground.phase }, { on := 8, ground := Go.Ground.phase }, { on := 9, ground := Go.Ground.phase }, { on := 10, ground := Go.Ground.phase }, { on := 11, ground := Go.Ground.phase }, { on := 12, ground := Go.Ground.phase }, { on := 13, ground := Go.Ground.phase }, { on := 14, ground := Go.Ground.phase }], guard := none }) rfl (fun K hK => ?_) AllReadyH.nil
            have HPZ := Lib.hid (HP3.out.kept HKP.out)
            obtain ⟨z0, z1, z2, zf⟩ := HPZ.out.last_cells
            have f0 := zf (rs.length * 3)
            have f1 := zf (rs.length * 3 + 1)
            have f2 := zf (rs.length * 3 + 2)
            go_simp
            obtain ⟨wq5, hwq⟩ : ∃ W : World, W = ((wq4.setCell ⟨g, rs.length * 3, none⟩ (.int .i64 0)).setCell ⟨g, rs.length * 3 + 1, none⟩ (.int .i64 0)).setCell ⟨g, rs.length * 3 + 2, none⟩ (.slice (some ⟨gd, 0, none⟩) (q.p.its.length + 1) cap4) := ⟨_, rfl⟩
            rw [← hwq]
            have HFI := Lib.hid (HPZ.out.put (W' := wq5) (q' := ⟨⟨0, 0, q.p.its ++ [y]⟩, some ⟨gd, 0, none⟩, cap4⟩) (by have h := HOWN.out; rw [HYT.out, ← itCells_snoc] at h; simpa using V.own_base_le h hbs3) (by rw [hwq, List.length_append]; rfl))
            have hS := si_put (si_keep HSI.out HKP.out hbx hbk) hbg hkg hwq
            have HBF := Lib.hid (show Below w.heap.size w wq5 from HB3.out.trans ((HKP.out.mono hbs3).trans HFI.out.2))
            clear z0 z1 z2 zf f0 f1 f2 hwq HOWN
            refine hK.out _ _ hS (fun hK5 => ?_)
            clear hK K hS hK4
            try simp only [Act.put, List.setIfInBounds_toArray, List.set_cons_zero, List.set_cons_succ]
            refine wpAnyH_done (by kernel_rfl) ?_ _
            go_wp2_with fail
            go_roundg ((a.length - i) + (b.length - (j + 1)))
            case rel => exact ⟨i, j + 1, 2, rs ++ [⟨⟨0, 0, q.p.its ++ [y]⟩, some ⟨gd, 0, none⟩, _⟩], some ⟨g, 0, none⟩, vc, by rw [HNN.out]; simp, rfl, by go_num, rfl, by omega, Lib.hid (by rw [List.length_append]; exact HFI.out.1), HBF, Lib.hid (HMS.out _ _)⟩
            case measure => omega
        · have HMS : Hid (∀ C cc, Mst a b i (j + 1) 2 (qs ++ [⟨⟨0, 0, [y]⟩, C, cc⟩])) := Lib.hid (fun C cc => by have h := HS.out.put_new h2 hjl (by rw [← HY.out]; exact hnm) C cc; rw [← HY.out] at h; exact h)
          have h2' : ((lst : Int) == 2) = false := beq_eq_false_iff_ne.2 (by omega)
          obtain ⟨k0, k1, k2, k3, k4, k5⟩ := HKD.out w3 (Below.refl _ _)
          obtain ⟨w4, hw4⟩ : ∃ W : World, W = w3.alloc (.cells #[.int .i64 y.id, .int .i64 y.lv, .int .u64 (y.ct : Int), .bool y.an, .string yt, .bool y.ba] 41) := ⟨_, rfl⟩
          have HI4 : Hid (w4.ownsRow w.heap.size 41 6 (.slice (some ⟨w3.heap.size, 0, none⟩) 1 1) 1 (itCells [y])) := Lib.hid (by rw [hw4]; exact ⟨rfl, .inr ⟨w3.heap.size, 1, #[.int .i64 y.id, .int .i64 y.lv, .int .u64 (y.ct : Int), .bool y.an, .string yt, .bool y.ba], rfl, hs3, heap_alloc_new w3 _, Nat.le_refl _, (by unfold maxLen; decide), rfl, by rw [itCells, List.flatMap_cons, List.flatMap_nil, HYT.out]; rfl⟩⟩)
          have HB4 := Lib.hid (show Below w3.heap.size w3 w4 by rw [hw4]; exact alloc1 _ _)
          have HP4 := Lib.hid (HP3.out.below HB4.out)
          have hz4 : w4.heap.size = w3.heap.size + 1 := by rw [hw4]; simp
          have HI5 := Lib.hid (own_below HI4.out (alloc1 w4 (.cells #[.int .i64 0, .int .i64 0, .slice (some ⟨w3.heap.size, 0, none⟩) 1 1] 27)))
          have HP5 := Lib.hid (HP4.out.below (alloc1 w4 (.cells #[.int .i64 0, .int .i64 0, .slice (some ⟨w3.heap.size, 0, none⟩) 1 1] 27)))
          have HB5 := Lib.hid (HB3.out.trans ((HB4.out.trans ((alloc1 w4 (.cells #[.int .i64 0, .int .i64 0, .slice (some ⟨w3.heap.size, 0, none⟩) 1 1] 27)).mono HB4.out.size)).mono hs3))
          clear HP3 HP4 HB3 HI4
          go_wp2_with (at_builtin; refine wpList_append_own _ rfl (.tmp 110) (.tmp 117) 24 rfl w.heap.size 27 i0 _ 3 40 Tryd.underlying24 hi0 hz0 hz1 hz2 rfl (by decide) _ qs.length (pqCells qs) rfl (by first | exact HP5.out.own | (rw [← hw4]; exact HP5.out.own)) ⟨w3.heap.size + 1, 0, none⟩ 1 1 [.int .i64 0, .int .i64 0, .slice (some ⟨w3.heap.size, 0, none⟩) 1 1] rfl rfl ?c1 ?c2 ?c3 ?c4 ?c5 ?_)
          case c1 => rw [← hw4, ← hz4]; exact World.news_of_block (heap_alloc_new w4 _)
          case c2 => intro u hu; simp at hu; rcases hu with rfl | rfl | rfl <;> rfl
          case c3 => simp only [maxLen]; omega
          case c4 => omega
          case c5 => first | omega | (simp; omega)
          rw [← hw4]
          intro v1 w6 ho6 hg6 _
          have HP6 := Lib.hid (HP5.out.add (q := ⟨⟨0, 0, [y]⟩, some ⟨w3.heap.size, 0, none⟩, 1⟩) HI5.out hg6 ho6)
          have HB6 := Lib.hid (HB5.out.grown hg6 (by simp; omega) (fun k e => (World.ownsRow.lt HP5.out.own k e).1))
          obtain ⟨RA, rcap, rfl, -, -⟩ := own_form HP6.out.own
          clear ho6 hg6 HP5 HB5 HI5 hw4 hz4 k0 k1 k2 k3 k4 k5
          go_wp2_with fail
          go_roundg ((a.length - i) + (b.length - (j + 1)))
          case rel => exact ⟨i, j + 1, 2, qs ++ [⟨⟨0, 0, [y]⟩, some ⟨w3.heap.size, 0, none⟩, 1⟩], RA, rcap, rfl, rfl, by go_num, rfl, Nat.le_refl _, HP6, HB6, Lib.hid (HMS.out _ _)⟩
          case measure => omega
      · have HD := Lib.hid (HS.out.done hil hjl)
        obtain rfl : i = a.length := by omega
        obtain rfl : j = b.length := by omega
        have HR := Lib.hid (HP.out.read)
        have HMQ : Hid (mk0.length = qs.length ∧ PtsIn wr VA mk0) := Lib.hid (by rw [HMK.out, HD.out, List.length_map]; exact ⟨rfl, HR.out⟩)
        clear hwi hwj
        go_wp2_with fail
        go_ret
        exact ⟨VA, vc, by rw [HMQ.out.1]; rfl, HMQ.out.2, HBR.out⟩
end Go.Proofs.YtlggoplffhdkhaaDoor.Dl
