/-
  Hunks in memory: read, and while they are made.
  put: an edit more in a hunk that is made.
-/
import Derived.Test.YtimalohdchhjgaaGha
import Derived.BigQuiet
namespace Go.Proofs.Ytimalohdchhjgaa.H
set_option linter.unusedVariables false
set_option linter.unusedSimpArgs false
open Go.RowKit
open T S
open V (grown_of)
open I (alloc1 own_at own_below)
open N (Ln)

/-- A hunk in memory. -/
def HkAt (b : Nat) (w : World) (bk o : Nat) (h : Hk) : Prop :=
  ∃ EA ec, w.cell? ⟨bk, o, none⟩ = some (.int .i64 h.oa) ∧ w.cell? ⟨bk, o + 1, none⟩ = some (.int .i64 h.o) ∧ w.cell? ⟨bk, o + 2, none⟩ = some (.int .i64 h.na) ∧ w.cell? ⟨bk, o + 3, none⟩ = some (.int .i64 h.n) ∧ w.cell? ⟨bk, o + 4, none⟩ = some (.slice EA h.es.length ec) ∧ EdsIn b w EA h.es ∧ h.es.length ≤ ec ∧ (EA = none → ec = 0)
/-- A slice's hunks. -/
def HksIn (b : Nat) (w : World) (A : Option Addr) (hs : List Hk) : Prop :=
  0 < hs.length → ∃ bk off, A = some ⟨bk, off, none⟩ ∧ b ≤ bk ∧ bk < w.heap.size ∧ ∀ j (h : j < hs.length), HkAt b w bk (off + j * 5) hs[j]
theorem HkAt.below {b : Nat} {w w' : World} {bk o : Nat} {h : Hk} (hh : HkAt b w bk o h) (hb : Below w.heap.size w w') (hk : bk < w.heap.size) : HkAt b w' bk o h := by
  obtain ⟨EA, ec, h0, h1, h2, h3, h4, h5, h6, h7⟩ := hh
  exact ⟨EA, ec, (hb.cell (p := ⟨bk, o, none⟩) hk).trans h0, (hb.cell (p := ⟨bk, o + 1, none⟩) hk).trans h1, (hb.cell (p := ⟨bk, o + 2, none⟩) hk).trans h2, (hb.cell (p := ⟨bk, o + 3, none⟩) hk).trans h3, (hb.cell (p := ⟨bk, o + 4, none⟩) hk).trans h4, h5.below hb, h6, h7⟩
theorem HksIn.below {b : Nat} {w w' : World} {A : Option Addr} {hs : List Hk} (h : HksIn b w A hs) (hb : Below w.heap.size w w') : HksIn b w' A hs := fun hp => by
  obtain ⟨bk, off, rfl, h1, h2, h3⟩ := h hp
  exact ⟨bk, off, rfl, h1, Nat.lt_of_lt_of_le h2 hb.size, fun j hj => (h3 j hj).below hb h2⟩
theorem HksIn.low {b b' : Nat} {w : World} {A : Option Addr} {hs : List Hk} (h : HksIn b w A hs) (hb : b' ≤ b) : HksIn b' w A hs := fun hp => by
  obtain ⟨bk, off, e, h1, h2, h3⟩ := h hp
  refine ⟨bk, off, e, by omega, h2, fun j hj => ?_⟩
  obtain ⟨EA, ec, g0, g1, g2, g3, g4, g5, g6, g7⟩ := h3 j hj
  exact ⟨EA, ec, g0, g1, g2, g3, g4, g5.low hb, g6, g7⟩
theorem HksIn.take {b : Nat} {w : World} {A : Option Addr} {hs : List Hk} (h : HksIn b w A hs) (k : Nat) : HksIn b w A (hs.take k) := fun hp => by
  rw [List.length_take] at hp
  obtain ⟨bk, off, e, h1, h2, h3⟩ := h (by omega)
  refine ⟨bk, off, e, h1, h2, fun j hj => ?_⟩
  rw [List.length_take] at hj
  rw [List.getElem_take]
  exact h3 j (by omega)
/-- What of hunks a call may rely on. -/
structure HksOk (hs : List Hk) : Prop where
  len : hs.length ≤ maxLen
  es : ∀ h ∈ hs, EdsOk h.es
/-- A hunk's cells, and those of its edits. -/
structure Hr where
  h : Hk
  A : Option Addr
  c : Nat
  rs : List Raw
def Hr.v (x : Hr) : Value := .slice x.A x.rs.length x.c
def hrCell (x : Hr) : List Value := [.int .i64 x.h.oa, .int .i64 x.h.o, .int .i64 x.h.na, .int .i64 x.h.n, x.v]
def hrCells (xs : List Hr) : List Value := xs.flatMap hrCell
theorem hrCells_app (a b : List Hr) : hrCells (a ++ b) = hrCells a ++ hrCells b := by simp [hrCells]
theorem hrCells_one (x : Hr) : hrCells [x] = hrCell x := by simp [hrCells]
theorem hrCells_len : ∀ xs : List Hr, (hrCells xs).length = xs.length * 5
  | [] => rfl
  | x :: xs => by
    have := hrCells_len xs
    simp only [hrCells, List.flatMap_cons, List.length_append, List.length_cons] at this ⊢
    rw [this]; simp [hrCell]; omega
theorem hrCells_at (xs : List Hr) (j : Nat) (h : j < xs.length) (i : Nat) (hi : i < 5) : (hrCells xs)[j * 5 + i]? = (hrCell xs[j])[i]? := by
  induction xs generalizing j with
  | nil => simp at h
  | cons x r ih =>
    have e : hrCells (x :: r) = hrCell x ++ hrCells r := by simp [hrCells]
    have l5 : (hrCell x).length = 5 := rfl
    cases j with
    | zero => rw [e, Nat.zero_mul, Nat.zero_add, List.getElem?_append_left (by omega)]; rfl
    | succ j =>
      rw [e, List.getElem?_append_right (by omega), l5, show (j + 1) * 5 + i - 5 = j * 5 + i by omega]
      exact ih j (by simpa using h)
theorem hrCells_set (ys : List Hr) (x : Hr) (i : Nat) (u : Value) : (hrCells (ys ++ [x])).set (ys.length * 5 + i) u = hrCells ys ++ (hrCell x).set i u := by
  rw [hrCells_app, hrCells_one, List.set_append_right _ _ (by rw [hrCells_len]; omega), hrCells_len, show ys.length * 5 + i - ys.length * 5 = i by omega]
structure HrOk (w0 w : World) (base : Nat) (x : Hr) : Prop where
  r : w.ownsRow base 47 2 x.v x.rs.length (rawCells x.rs)
  e : RawsOk 0 w0 x.rs x.h.es
/-- A row of hunks that the call owns. -/
structure Hs (w0 w : World) (base : Nat) (vh : Value) (xs : List Hr) : Prop where
  own : w.ownsRow base 44 5 vh xs.length (hrCells xs)
  ok : ∀ x ∈ xs, HrOk w0 w base x
  ap : xs.Pairwise fun x y => Apart x.v y.v
  b : Below w0.heap.size w0 w
  hb : w0.heap.size ≤ base
  hs : base ≤ w.heap.size
theorem HrOk.below {w0 w w' : World} {base : Nat} {x : Hr} (h : HrOk w0 w base x) (hb : Below w.heap.size w w') : HrOk w0 w' base x := ⟨own_below h.r hb, h.e⟩
theorem Hs.below {w0 w w' : World} {base : Nat} {vh : Value} {xs : List Hr} (h : Hs w0 w base vh xs) (hb : Below w.heap.size w w') : Hs w0 w' base vh xs :=
  ⟨own_below h.own hb, fun x hx => (h.ok x hx).below hb, h.ap, h.b.trans (hb.mono h.b.size), h.hb, Nat.le_trans h.hs hb.size⟩
theorem Hs.drew {w0 w : World} {base : Nat} {vh : Value} {xs : List Hr} (h : Hs w0 w base vh xs) : Hs w0 w.drew base vh xs := h.below ((Below.refl _ _).drew)
/-- A value of a last hunk is laid. -/
theorem Hs.setH {w0 w : World} {base g n cap : Nat} {ys : List Hr} {x x' : Hr} (h : Hs w0 w base (.slice (some ⟨g, 0, none⟩) n cap) (ys ++ [x])) (i : Nat) (u : Value) (hx : (hrCell x).set i u = hrCell x') (hv : x'.v = x.v) (hr : x'.rs = x.rs) (he : x'.h.es = x.h.es) :
    Hs w0 (w.setCell ⟨g, ys.length * 5 + i, none⟩ u) base (.slice (some ⟨g, 0, none⟩) n cap) (ys ++ [x']) := by
  have hn : n = (ys ++ [x]).length := by
    rcases h.own.2 with ⟨h', _⟩ | ⟨g', cap', cur, h', _⟩
    · cases h'
    · injection h'
  subst hn
  obtain ⟨h1, h2⟩ := World.ownsRow.stored h.own (ys.length * 5 + i) u
  rw [hrCells_set, hx, ← hrCells_one, ← hrCells_app] at h1
  obtain ⟨cs, hh⟩ := own_heap h.own rfl
  have keep : ∀ y, HrOk w0 w base y → HrOk w0 (w.setCell ⟨g, ys.length * 5 + i, none⟩ u) base y := fun y hy => ⟨V.own_stored hy.r hh (by decide), hy.e⟩
  refine ⟨by simpa using h1, fun y hy => ?_, ?_, h.b.grown h2 h.b.size (fun k e => by obtain rfl := Option.some.inj e; exact Nat.le_trans h.hb (own_base h.own _ rfl)), h.hb, Nat.le_trans h.hs h2.size⟩
  · rcases List.mem_append.1 hy with hy | hy
    · exact keep y (h.ok y (List.mem_append_left _ hy))
    · obtain rfl := List.mem_singleton.1 hy
      have := keep x (h.ok x (by simp))
      exact ⟨by rw [hv, hr]; exact this.r, by rw [hr, he]; exact this.e⟩
  · have := h.ap
    rw [List.pairwise_append] at this ⊢
    exact ⟨this.1, List.pairwise_singleton _ _, fun a ha b hb => by obtain rfl := List.mem_singleton.1 hb; rw [hv]; exact this.2.2 a ha x (List.mem_singleton_self _)⟩
/-- The last hunk's edits grow, and are laid. -/
theorem Hs.putE {w0 w w1 : World} {base g n cap H : Nat} {ys : List Hr} {x x' : Hr} {r : Raw} {e : Ed} (h : Hs w0 w base (.slice (some ⟨g, 0, none⟩) n cap) (ys ++ [x])) (hg : w.grownBy w1 x.v.ownBlock) (ho : w1.ownsRow base 47 2 x'.v x'.rs.length (rawCells x'.rs)) (hH : w.heap.size ≤ H)
    (hn : x'.v.ownBlock = x.v.ownBlock ∨ x'.v.ownBlock = some H) (hr : x'.rs = x.rs ++ [r]) (he : x'.h = ⟨x.h.oa, x.h.o, x.h.na, x.h.n, x.h.es ++ [e]⟩) (hre : RawOk 0 w0 r e) :
    Hs w0 (w1.setCell ⟨g, ys.length * 5 + 4, none⟩ x'.v) base (.slice (some ⟨g, 0, none⟩) n cap) (ys ++ [x']) := by
  have hnn : n = (ys ++ [x]).length := by
    rcases h.own.2 with ⟨h', _⟩ | ⟨g', cap', cur, h', _⟩
    · cases h'
    · injection h'
  subst hnn
  have hx := h.ok x (by simp)
  have hown1 := own_grown h.own hx.r (by decide) hg
  obtain ⟨h1, h2⟩ := World.ownsRow.stored hown1 (ys.length * 5 + 4) x'.v
  have hx4 : (hrCell x).set 4 x'.v = hrCell x' := by unfold hrCell; rw [he]; rfl
  rw [hrCells_set, hx4, ← hrCells_one, ← hrCells_app] at h1
  obtain ⟨cs, hh⟩ := own_heap hown1 rfl
  have hn' : x'.v.ownBlock = x.v.ownBlock ∨ ∃ g, x'.v.ownBlock = some g ∧ w.heap.size ≤ g := by
    rcases hn with e | e
    · exact .inl e
    · exact .inr ⟨_, e, hH⟩
  have hap := h.ap
  rw [List.pairwise_append] at hap
  have apx : ∀ y ∈ ys, Apart y.v x.v := fun y hy => hap.2.2 y hy x (List.mem_singleton_self _)
  have hb1 : Below w0.heap.size w0 w1 := h.b.grown hg h.b.size (fun k e => Nat.le_trans h.hb (own_base hx.r _ e))
  refine ⟨by simpa using h1, fun y hy => ?_, ?_, hb1.grown h2 hb1.size (fun k e => by obtain rfl := Option.some.inj e; exact Nat.le_trans h.hb (own_base h.own _ rfl)), h.hb, Nat.le_trans (Nat.le_trans h.hs hg.size) h2.size⟩
  · rcases List.mem_append.1 hy with hy | hy
    · have := h.ok y (List.mem_append_left _ hy)
      exact ⟨V.own_stored (own_keep this.r hg (apx y hy).symm) hh (by decide), this.e⟩
    · obtain rfl := List.mem_singleton.1 hy
      refine ⟨V.own_stored ho hh (by decide), ?_⟩
      rw [hr, he]
      exact hx.e.snoc hre
  · rw [List.pairwise_append]
    refine ⟨hap.1, List.pairwise_singleton _ _, fun a ha b hb => ?_⟩
    obtain rfl := List.mem_singleton.1 hb
    exact (Apart.new (apx a ha).symm hn' (S.own_lt (h.ok a (List.mem_append_left _ ha)).r)).symm
/-- A hunk more. -/
theorem Hs.add {w0 w w' : World} {base : Nat} {vh vh' : Value} {xs : List Hr} (h : Hs w0 w base vh xs) (hg : w.grownBy w' vh.ownBlock) (hk : Hk) (he : hk.es = []) (ho : w'.ownsRow base 44 5 vh' (xs ++ [Hr.mk hk none 0 []]).length (hrCells (xs ++ [Hr.mk hk none 0 []]))) :
    Hs w0 w' base vh' (xs ++ [Hr.mk hk none 0 []]) := by
  refine ⟨ho, fun y hy => ?_, ?_, h.b.grown hg h.b.size (fun k e => Nat.le_trans h.hb (own_base h.own _ e)), h.hb, Nat.le_trans h.hs hg.size⟩
  · rcases List.mem_append.1 hy with hy | hy
    · have := h.ok y hy
      exact ⟨own_grown this.r h.own (by decide) hg, this.e⟩
    · obtain rfl := List.mem_singleton.1 hy
      exact ⟨World.ownsRow_nil _ _ _ _, by rw [he]; exact ⟨rfl, fun j h => by simp at h⟩⟩
  · rw [List.pairwise_append]
    exact ⟨h.ap, List.pairwise_singleton _ _, fun a _ b hb => by obtain rfl := List.mem_singleton.1 hb; exact Apart.nil _⟩
/-- Hunks that the call owns may be read. -/
theorem Hs.read {w0 w : World} {base n cap : Nat} {A : Option Addr} {xs : List Hr} (h : Hs w0 w base (.slice A n cap) xs) : n = xs.length ∧ xs.length ≤ cap ∧ HksIn 0 w A (xs.map (·.h)) := by
  have hn : n = xs.length := by
    rcases h.own.2 with ⟨h', h2⟩ | ⟨g', cap', cur, h', _⟩
    · injection h' with _ h' _; have := h.own.1; omega
    · injection h'
  subst hn
  refine ⟨rfl, ?_, fun hp => ?_⟩
  · obtain ⟨A', cap', hv, hc, _⟩ := own_form h.own
    injection hv with _ _ hv
    omega
  rw [List.length_map] at hp
  obtain ⟨g, rfl, h1, h2, h3⟩ := own_at h.own hp
  refine ⟨g, 0, rfl, Nat.zero_le _, h2, fun j hj => ?_⟩
  rw [List.length_map] at hj
  rw [List.getElem_map, Nat.zero_add]
  have hx := h.ok xs[j] (List.getElem_mem hj)
  have at5 := fun i hi => hrCells_at xs j hj i hi
  have hl : xs[j].rs.length = xs[j].h.es.length := hx.e.1
  have hr := hx.r
  unfold Hr.v at hr
  obtain ⟨A', cap', hv, hc, _⟩ := own_form hr
  injection hv with _ _ hv
  rw [hl] at hr hc
  refine ⟨xs[j].A, xs[j].c, h3 _ _ (at5 0 (by omega)), h3 _ _ (at5 1 (by omega)), h3 _ _ (at5 2 (by omega)), h3 _ _ (at5 3 (by omega)), ?_, raws_eds hr (hx.e.below h.b) (Nat.zero_le _), by omega, fun e => ?_⟩
  · have := h3 _ _ (at5 4 (by omega))
    rw [this]
    show some (Value.slice xs[j].A xs[j].rs.length xs[j].c) = _
    rw [hl]
  · rw [e] at hr
    exact own_none hr
/-- A builder in memory. -/
structure Bd (w0 w : World) (base bb : Nat) (vh : Value) (c : Nat) (op : Bool) (a b : Nat) (xs : List Hr) : Prop where
  hbb : base ≤ bb
  blk : w.heap[bb]? = some (.cells #[.int .i64 c, vh, .bool op, .int .i64 a, .int .i64 b] 53 (0, 0))
  s : Hs w0 w base vh xs
theorem Bd.below {w0 w w' : World} {base bb : Nat} {vh : Value} {c a b : Nat} {op : Bool} {xs : List Hr} (h : Bd w0 w base bb vh c op a b xs) (hb : Below w.heap.size w w') : Bd w0 w' base bb vh c op a b xs :=
  ⟨h.hbb, (hb.block _ (L.blk_lt h.blk)).trans h.blk, h.s.below hb⟩
/-- What is laid into the builder, but for its hunks. -/
theorem Bd.setB {w0 w : World} {base bb : Nat} {vh : Value} {c a b a' b' : Nat} {op op' : Bool} {xs : List Hr} (h : Bd w0 w base bb vh c op a b xs) (i : Nat) (u : Value) (hi : (#[.int .i64 c, vh, .bool op, .int .i64 a, .int .i64 b] : Array Value).setIfInBounds i u = #[.int .i64 c, vh, .bool op', .int .i64 a', .int .i64 b']) : Bd w0 (w.setCell ⟨bb, i, none⟩ u) base bb vh c op' a' b' xs := by
  have hk : ∀ y, HrOk w0 w base y → HrOk w0 (w.setCell ⟨bb, i, none⟩ u) base y := fun y hy => ⟨V.own_stored hy.r h.blk (by decide), hy.e⟩
  refine ⟨h.hbb, by rw [← hi]; exact L.blk_set h.blk i u, ⟨V.own_stored h.s.own h.blk (by decide), fun x hx => hk x (h.s.ok x hx), h.s.ap, h.s.b.setCell (p := ⟨bb, i, none⟩) (Nat.le_trans h.s.hb h.hbb) _, h.s.hb, by simpa [World.setCell] using h.s.hs⟩⟩
/-- What is laid into a last hunk. -/
theorem Bd.setH {w0 w : World} {base bb g n cap : Nat} {c a b : Nat} {op : Bool} {ys : List Hr} {x x' : Hr} (h : Bd w0 w base bb (.slice (some ⟨g, 0, none⟩) n cap) c op a b (ys ++ [x])) (i : Nat) (u : Value) (hx : (hrCell x).set i u = hrCell x') (hv : x'.v = x.v) (hr : x'.rs = x.rs) (he : x'.h.es = x.h.es) :
    Bd w0 (w.setCell ⟨g, ys.length * 5 + i, none⟩ u) base bb (.slice (some ⟨g, 0, none⟩) n cap) c op a b (ys ++ [x']) := by
  have hne : bb ≠ g := fun e => by
    subst e
    exact own_type h.s.own h.blk (by decide) rfl
  exact ⟨h.hbb, (L.blk_far hne _).trans h.blk, h.s.setH i u hx hv hr he⟩
theorem Bd.putE {w0 w w1 : World} {base bb g n cap H : Nat} {c a b : Nat} {op : Bool} {ys : List Hr} {x x' : Hr} {r : Raw} {e : Ed} (h : Bd w0 w base bb (.slice (some ⟨g, 0, none⟩) n cap) c op a b (ys ++ [x])) (hg : w.grownBy w1 x.v.ownBlock) (ho : w1.ownsRow base 47 2 x'.v x'.rs.length (rawCells x'.rs)) (hH : w.heap.size ≤ H)
    (hn : x'.v.ownBlock = x.v.ownBlock ∨ x'.v.ownBlock = some H) (hr : x'.rs = x.rs ++ [r]) (he : x'.h = ⟨x.h.oa, x.h.o, x.h.na, x.h.n, x.h.es ++ [e]⟩) (hre : RawOk 0 w0 r e) :
    Bd w0 (w1.setCell ⟨g, ys.length * 5 + 4, none⟩ x'.v) base bb (.slice (some ⟨g, 0, none⟩) n cap) c op a b (ys ++ [x']) := by
  have hne : bb ≠ g := fun e => by
    subst e
    exact own_type h.s.own h.blk (by decide) rfl
  have hnx : x.v.ownBlock ≠ some bb := own_type (h.s.ok x (by simp)).r h.blk (by decide)
  exact ⟨h.hbb, (L.blk_far hne _).trans ((hg.block bb (L.blk_lt h.blk) (fun e => hnx e.symm)).trans h.blk), h.s.putE hg ho hH hn hr he hre⟩
theorem Bd.add {w0 w w1 : World} {base bb : Nat} {vh vh' : Value} {c a b : Nat} {op : Bool} {xs : List Hr} (h : Bd w0 w base bb vh c op a b xs) (hg : w.grownBy w1 vh.ownBlock) (hk : Hk) (he : hk.es = []) (ho : w1.ownsRow base 44 5 vh' (xs ++ [Hr.mk hk none 0 []]).length (hrCells (xs ++ [Hr.mk hk none 0 []]))) :
    Bd w0 (w1.setCell ⟨bb, 1, none⟩ vh') base bb vh' c op a b (xs ++ [Hr.mk hk none 0 []]) := by
  have hnv : vh.ownBlock ≠ some bb := own_type h.s.own h.blk (by decide)
  have hblk : w1.heap[bb]? = some (.cells #[.int .i64 c, vh, .bool op, .int .i64 a, .int .i64 b] 53 (0, 0)) := (hg.block bb (L.blk_lt h.blk) (fun e => hnv e.symm)).trans h.blk
  have hs := h.s.add hg hk he ho
  have hkp : ∀ y, HrOk w0 w1 base y → HrOk w0 (w1.setCell ⟨bb, 1, none⟩ vh') base y := fun y hy => ⟨V.own_stored hy.r hblk (by decide), hy.e⟩
  exact ⟨h.hbb, by simpa using L.blk_set hblk 1 vh', ⟨V.own_stored hs.own hblk (by decide), fun x hx => hkp x (hs.ok x hx), hs.ap, hs.b.setCell (p := ⟨bb, 1, none⟩) (Nat.le_trans hs.hb h.hbb) _, hs.hb, by simpa [World.setCell] using hs.hs⟩⟩
theorem infoHunk : (Try.prog.info? 44).map (fun i => (i.zero, i.size, i.bytes)) = some (some (.agg #[.int .i64 0, .int .i64 0, .int .i64 0, .int .i64 0, .slice none 0 0]), 5, 56) := by kernel_rfl
end Go.Proofs.Ytimalohdchhjgaa.H

namespace Go.Proofs.Ytimalohdchhjgaa.H
set_option linter.unusedVariables false
set_option linter.unusedSimpArgs false
open Go.RowKit
open T S
open V (grown_of)
open I (alloc1 own_at own_below)
open N (Ln)

/-- The cells of a last hunk. -/
theorem Bd.hc {w0 w : World} {base bb g n cap : Nat} {c a b : Nat} {op : Bool} {ys : List Hr} {x : Hr} (h : Bd w0 w base bb (.slice (some ⟨g, 0, none⟩) n cap) c op a b (ys ++ [x])) :
    (∀ i, i < 5 → w.cell? ⟨g, ys.length * 5 + i, none⟩ = (hrCell x)[i]?) ∧ (∀ i, w.frozen? ⟨g, i, none⟩ = false) ∧ g < w.heap.size ∧ n = ys.length + 1 ∧ n ≤ cap := by
  obtain ⟨hn, hc, -⟩ := h.s.read
  have hn' : n = (ys ++ [x]).length := hn
  subst hn
  obtain ⟨g', hg, h1, h2, h3⟩ := own_at h.s.own (by simp)
  obtain rfl : g = g' := by injection hg with hg; injection hg
  refine ⟨fun i hi => ?_, fun i => World.ownsRow.frozenAt h.s.own i, h2, by simp, hc⟩
  have h4 := hrCells_at (ys ++ [x]) ys.length (by simp) i hi
  rw [List.getElem_append_right (Nat.le_refl _)] at h4
  simp only [Nat.sub_self, List.getElem_cons_zero] at h4
  rw [← h4]
  have h5 : ys.length * 5 + i < (hrCells (ys ++ [x])).length := by rw [hrCells_len]; simp; omega
  rw [List.getElem?_eq_getElem h5]
  exact h3 _ _ (List.getElem?_eq_getElem h5)
/-- Where a last hunk stands. -/
theorem Bd.at {w0 w : World} {base bb : Nat} {vh : Value} {c a b : Nat} {op : Bool} {ys : List Hr} {x : Hr} (h : Bd w0 w base bb vh c op a b (ys ++ [x])) : ∃ g n cap, vh = .slice (some ⟨g, 0, none⟩) n cap := by
  obtain ⟨A, cap, rfl, -, hA⟩ := own_form h.s.own
  obtain ⟨g, rfl, -⟩ := hA (by simp)
  exact ⟨g, _, cap, rfl⟩
def PtEnd (w0 w : World) (base bb : Nat) (vh : Value) (c : Nat) (op : Bool) (a b : Nat) (ys : List Hr) (h : Hk) (d : Int) (l : List Ln) (e : Ending) (w' : World) : Prop :=
  e = .returned (.tuple #[]) ∧ (∃ x' : Hr, x'.h = putH d l h ∧ Bd w0 w' base bb vh c op (a + lenO d l) (b + lenN d l) (ys ++ [x'])) ∧ (l = [] → w' = w)

set_option maxRecDepth 100000 in
set_option maxHeartbeats 4000000 in
theorem put_any (w0 w : World) (base bb c a b : Nat) (vh : Value) (op : Bool) (ys : List Hr) (x : Hr) (d : Int) (LA : Option Addr) (lc : Nat) (l : List Ln) (hD : Bd w0 w base bb vh c op a b (ys ++ [x]))
    (hL : LinesIn w0 LA l) (hlc : l.length ≤ lc) (hz : LA = none → lc = 0) (h1 : ys.length ≤ 100000) (h2 : x.rs.length ≤ 100000) (h3 : a ≤ 100000) (h4 : b ≤ 100000) (h5 : l.length ≤ 100000) (h6 : 0 ≤ x.h.o ∧ x.h.o ≤ 100000) (h7 : 0 ≤ x.h.n ∧ x.h.n ≤ 100000) :
    Calls Try.prog 40 #[.pointer (some ⟨bb, 0, none⟩), .int .i64 d, .slice LA l.length lc] w (PtEnd w0 w base bb vh c op a b ys x.h d l) := by
  obtain ⟨i0, hi0, hz0, hz1, hz2⟩ := info_parts infoEdit
  have HD := Lib.hid hD
  have HL := Lib.hid (And.intro hL (And.intro hlc hz))
  clear hD hL hz
  by_cases hl : l = []
  · have HR : Hid (PtEnd w0 w base bb vh c op a b ys x.h d l (.returned (.tuple #[])) w) := Lib.hid (by
      subst hl
      refine ⟨rfl, ⟨x, (putH_nil _ _).symm, ?_⟩, fun _ => rfl⟩
      have e1 : lenO d [] = 0 := by unfold lenO; split <;> rfl
      have e2 : lenN d [] = 0 := by unfold lenN; split <;> rfl
      rw [e1, e2]; exact HD.out)
    obtain ⟨n, hn⟩ : ∃ n, n = l.length := ⟨_, rfl⟩
    rw [← hn]
    have hb0 : ((n : Int) == 0) = true := by rw [hn, hl]; rfl
    clear hn
    go_enter Try.func40, Try.ntmps40
    go_wp2_with fail
    go_end0
    exact HR.out
  · have hp : 0 < l.length := List.length_pos_iff.2 hl
    have hb0 : ((l.length : Int) == 0) = false := by simpa using hl
    obtain ⟨g, n, cap, rfl⟩ := HD.out.at
    obtain ⟨hc, hf, hgs, hn, hncap⟩ := HD.out.hc
    have HX := HD.out.s.ok x (by simp)
    obtain ⟨⟨oa, o, na, nn, es⟩, EA, ecap, rs⟩ := x
    simp only at h2 h6 h7
    unfold PtEnd
    simp only
    have k4 : w.cell? ⟨g, ys.length * 5 + 4, none⟩ = some (.slice EA rs.length ecap) := hc 4 (by omega)
    have kb : w.cell? ⟨bb, 1, none⟩ = some (.slice (some ⟨g, 0, none⟩) n cap) := L.blk_cell HD.out.blk 1
    have hwn : IntKind.i64.wrap ((n : Int) - 1) = (ys.length : Int) := by rw [IntKind.wrap_i64]; omega
    have z4 := hf (ys.length * 5 + 4)
    have HR0 : Hid (rs.length = es.length) := Lib.hid HX.e.1
    have HOE : Hid (w.ownsRow base 47 2 (.slice EA rs.length ecap) rs.length (rawCells rs)) := Lib.hid HX.r
    obtain ⟨m, hm⟩ : ∃ m, m = ys.length := ⟨_, rfl⟩
    obtain ⟨q, hq⟩ : ∃ q, q = rs.length := ⟨_, rfl⟩
    have HM := Lib.hid hm
    have HQ := Lib.hid hq
    rw [← hm] at k4 z4 hwn hn h1
    rw [← hq] at k4 HOE h2
    have h0m : (0 : Int) ≤ (m : Int) := by omega
    have hmn : (m : Int) < (n : Int) := by omega
    have hbs : base ≤ w.heap.size := HD.out.s.hs
    have HGT : Hid (some g ≠ (Value.slice EA q ecap).ownBlock) := Lib.hid (fun e => own_apart HD.out.s.own HOE.out (by decide) rfl e.symm)
    clear hc hf HX hq hm k4 z4 hbs HOE
    go_enter Try.func40, Try.ntmps40
    go_wp2_with fail
    go_quiet (fail)
    obtain ⟨w1, hw1⟩ : ∃ W : World, W = w.drewN nq := ⟨_, rfl⟩
    rw [← hw1]
    have HD1 : Hid (Bd w0 w1 base bb (.slice (some ⟨g, 0, none⟩) n cap) c op a b (ys ++ [⟨⟨oa, o, na, nn, es⟩, EA, ecap, rs⟩])) := Lib.hid (by rw [hw1]; exact HD.out.below (V.drawn_below w nq))
    clear hw1 HD kb
    obtain ⟨hc, hf, hgs, -, -⟩ := HD1.out.hc
    rw [← HM.out] at hc
    have k4 : w1.cell? ⟨g, m * 5 + 4, none⟩ = some (.slice EA q ecap) := by rw [HQ.out]; exact hc 4 (by omega)
    have z4 := hf (m * 5 + 4)
    have HOE : Hid (w1.ownsRow base 47 2 (.slice EA q ecap) q (rawCells rs)) := Lib.hid (by rw [HQ.out]; exact (HD1.out.s.ok ⟨⟨oa, o, na, nn, es⟩, EA, ecap, rs⟩ (by simp)).r)
    have hbs : base ≤ w1.heap.size := HD1.out.s.hs
    have k4a : ∀ ob, (w1.alloc ob).cell? ⟨g, m * 5 + 4, none⟩ = some (.slice EA q ecap) := fun ob => ((alloc1 w1 ob).cell (p := ⟨g, m * 5 + 4, none⟩) hgs).trans k4
    have z4a : ∀ ob, (w1.alloc ob).frozen? ⟨g, m * 5 + 4, none⟩ = false := fun ob => (World.frozen?_alloc_past _ g _ hgs).trans z4
    have hbs2 : base ≤ (w1.alloc (.cells #[.int .i64 d, .slice LA l.length lc] 47)).heap.size := Nat.le_trans hbs (alloc1 w1 _).size
    have hgs2 : g < (w1.alloc (.cells #[.int .i64 d, .slice LA l.length lc] 47)).heap.size := Nat.lt_of_lt_of_le hgs (alloc1 w1 _).size
    clear hc hf
    go_upto_region 3 with ((at_builtin; refine wpList_append_lies _ rfl (.tmp 25) (.tmp 29) 22 rfl base 47 i0 _ 2 32 Try.underlying22 hi0 hz0 hz1 hz2 rfl (by decide) _ q (rawCells rs) rfl (HOE.out.alloc _) ⟨w1.heap.size, 0, none⟩ 1 1 [.int .i64 d, .slice LA l.length lc] rfl rfl (World.news_of_block (heap_alloc_new w1 _)) (by intro u hu; simp at hu; rcases hu with rfl | rfl <;> rfl) (by omega) (by unfold maxLen; omega) (by omega) hbs2 _ rfl ?_; intro g5 cap5 w2 hown5 hgrow5 hat5 hlt5; have hc5 : w2.cell? ⟨g, m * 5 + 4, none⟩ = some (.slice EA q ecap) := (hgrow5.cell_far ⟨g, m * 5 + 4, none⟩ hgs2 HGT.out).trans (k4a _); have hz5 : w2.frozen? ⟨g, m * 5 + 4, none⟩ = false := (hgrow5.frozen_far ⟨g, m * 5 + 4, none⟩ hgs2 HGT.out).trans (z4a _); have HO5 := Lib.hid hown5; have HG5 := Lib.hid hgrow5; have HT5 := Lib.hid hat5; clear hown5 hgrow5 hat5))
    have hg6 : w1.grownBy w2 (Value.slice EA q ecap).ownBlock := (grown_of (alloc1 w1 _) _).trans HG5.out
    --MARK
    obtain ⟨RS, hRS⟩ : ∃ RS : List Raw, RS = rs ++ [⟨d, LA, l.length, lc⟩] := ⟨_, rfl⟩
    obtain ⟨E2, hE2⟩ : ∃ E2 : List Ed, E2 = es ++ [(d, l)] := ⟨_, rfl⟩
    have hv : (Hr.mk ⟨oa, o, na, nn, E2⟩ (some ⟨g5, 0, none⟩) cap5 RS).v = .slice (some ⟨g5, 0, none⟩) (q + 1) cap5 := by rw [hRS, HQ.out]; simp [Hr.v]
    have ho6 : w2.ownsRow base 47 2 (.slice (some ⟨g5, 0, none⟩) (q + 1) cap5) RS.length (rawCells RS) := by
      rw [hRS]
      simp only [List.length_append, List.length_singleton, ← HQ.out, rawCells_app]
      exact HO5.out
    obtain ⟨w3, hw3⟩ : ∃ W : World, W = w2.setCell ⟨g, m * 5 + 4, none⟩ (.slice (some ⟨g5, 0, none⟩) (q + 1) cap5) := ⟨_, rfl⟩
    have HD3 : Hid (Bd w0 w3 base bb (.slice (some ⟨g, 0, none⟩) n cap) c op a b (ys ++ [⟨⟨oa, o, na, nn, E2⟩, some ⟨g5, 0, none⟩, cap5, RS⟩])) := Lib.hid (by
      have hpe := HD1.out.putE (x' := ⟨⟨oa, o, na, nn, E2⟩, some ⟨g5, 0, none⟩, cap5, RS⟩) (r := ⟨d, LA, l.length, lc⟩) (e := (d, l)) (H := (w1.alloc (.cells #[.int .i64 d, .slice LA l.length lc] 47)).heap.size) (w1 := w2) (by rw [HQ.out] at hg6; exact hg6) (by rw [hv]; exact ho6) (alloc1 w1 _).size (by
        have hq : (Value.slice EA q ecap).ownBlock = (Value.slice EA rs.length ecap).ownBlock := by rw [HQ.out]
        rw [hv]
        show _ = (Value.slice EA rs.length ecap).ownBlock ∨ _
        rw [← hq]
        rcases HT5.out with h | h
        · exact .inl h.symm
        · exact .inr (by rw [h]; rfl)) (by rw [hRS]) (by rw [hE2]) ⟨rfl, rfl, HL.out.1, HL.out.2.1, HL.out.2.2, fun _ _ => Nat.zero_le _⟩
      rw [hv, ← HM.out, ← hw3] at hpe
      exact hpe)
    have HE2 := Lib.hid hE2
    clear hg6 hv ho6 hRS hE2 HO5 HG5 HT5 hbs2 hgs2 k4 z4 k4a z4a HOE HD1 HGT hgs hbs HQ HR0 hc5 hz5 hlt5
    rw [← hw3]
    clear hw3
    have hwo : IntKind.i64.wrap (o + (l.length : Int)) = o + (l.length : Int) := by rw [IntKind.wrap_i64]; omega
    have hwa : IntKind.i64.wrap ((a : Int) + (l.length : Int)) = (a : Int) + (l.length : Int) := by rw [IntKind.wrap_i64]; omega
    have hwi : IntKind.i64.wrap (nn + (l.length : Int)) = nn + (l.length : Int) := by rw [IntKind.wrap_i64]; omega
    have hwb : IntKind.i64.wrap ((b : Int) + (l.length : Int)) = (b : Int) + (l.length : Int) := by rw [IntKind.wrap_i64]; omega
    by_cases d3 : d = 3
    · have hlo : lenO d l = 0 := if_pos d3
      have hln : lenN d l = l.length := if_neg (by omega)
      have q3 : (d != 3) = false := by simp [d3]
      have q2 : (d != 2) = true := by rw [d3]; rfl
      go_upto_region 6 with fail
      go_upto_region 7 with fail
      obtain ⟨hc3, hf3, -, -, -⟩ := HD3.out.hc
      rw [← HM.out] at hc3
      have ch3 : w3.cell? ⟨g, m * 5 + 3, none⟩ = some (.int .i64 nn) := hc3 3 (by omega)
      have zh3 := hf3 (m * 5 + 3)
      obtain ⟨w4, hw4⟩ : ∃ W : World, W = w3.setCell ⟨g, m * 5 + 3, none⟩ (.int .i64 (nn + (l.length : Int))) := ⟨_, rfl⟩
      have HD4 : Hid (Bd w0 w4 base bb (.slice (some ⟨g, 0, none⟩) n cap) c op a b (ys ++ [⟨⟨oa, (o), na, (nn + (l.length : Int)), E2⟩, some ⟨g5, 0, none⟩, cap5, RS⟩])) := Lib.hid (by rw [hw4, HM.out]; exact HD3.out.setH 3 _ rfl rfl rfl rfl)
      clear hc3 hf3 HD3
      go_upto_region 8 with fail
      rw [← hw4]
      clear hw4 ch3 zh3
      have cb4 : w4.cell? ⟨bb, 4, none⟩ = some (.int .i64 (b : Int)) := L.blk_cell HD4.out.blk 4
      have zb4 : w4.frozen? ⟨bb, 4, none⟩ = false := L.blk_free HD4.out.blk 4
      obtain ⟨w5, hw5⟩ : ∃ W : World, W = w4.setCell ⟨bb, 4, none⟩ (.int .i64 ((b : Int) + (l.length : Int))) := ⟨_, rfl⟩
      have HD5 : Hid (Bd w0 w5 base bb (.slice (some ⟨g, 0, none⟩) n cap) c op a (b + l.length) (ys ++ [⟨⟨oa, (o), na, (nn + (l.length : Int)), E2⟩, some ⟨g5, 0, none⟩, cap5, RS⟩])) := Lib.hid (by rw [hw5]; exact HD4.out.setB 4 _ (by push_cast; rfl))
      clear HD4
      go_wp2_with fail
      rw [← hw5]
      clear hw5 cb4 zb4
      go_end0
      have hP : ∃ x' : Hr, x'.h = putH d l ⟨oa, o, na, nn, es⟩ ∧ Bd w0 w5 base bb (.slice (some ⟨g, 0, none⟩) n cap) c op (a + lenO d l) (b + lenN d l) (ys ++ [x']) := by
        rw [hlo, hln]
        refine ⟨_, ?_, HD5.out⟩
        unfold putH
        rw [if_neg hl, hlo, hln, HE2.out]
        all_goals first | rfl | simp
      exact ⟨rfl, hP, fun e => absurd e hl⟩
    · have q3 : (d != 3) = true := by simp [d3]
      have hlo : lenO d l = l.length := if_neg d3
      by_cases d2 : d = 2
      · have hln : lenN d l = 0 := if_pos d2
        have q2 : (d != 2) = false := by simp [d2]
        go_upto_region 4 with fail
        obtain ⟨hc3, hf3, -, -, -⟩ := HD3.out.hc
        rw [← HM.out] at hc3
        have ch3 : w3.cell? ⟨g, m * 5 + 1, none⟩ = some (.int .i64 o) := hc3 1 (by omega)
        have zh3 := hf3 (m * 5 + 1)
        obtain ⟨w4, hw4⟩ : ∃ W : World, W = w3.setCell ⟨g, m * 5 + 1, none⟩ (.int .i64 (o + (l.length : Int))) := ⟨_, rfl⟩
        have HD4 : Hid (Bd w0 w4 base bb (.slice (some ⟨g, 0, none⟩) n cap) c op a b (ys ++ [⟨⟨oa, (o + (l.length : Int)), na, (nn), E2⟩, some ⟨g5, 0, none⟩, cap5, RS⟩])) := Lib.hid (by rw [hw4, HM.out]; exact HD3.out.setH 1 _ rfl rfl rfl rfl)
        clear hc3 hf3 HD3
        go_upto_region 5 with fail
        rw [← hw4]
        clear hw4 ch3 zh3
        have cb4 : w4.cell? ⟨bb, 3, none⟩ = some (.int .i64 (a : Int)) := L.blk_cell HD4.out.blk 3
        have zb4 : w4.frozen? ⟨bb, 3, none⟩ = false := L.blk_free HD4.out.blk 3
        obtain ⟨w5, hw5⟩ : ∃ W : World, W = w4.setCell ⟨bb, 3, none⟩ (.int .i64 ((a : Int) + (l.length : Int))) := ⟨_, rfl⟩
        have HD5 : Hid (Bd w0 w5 base bb (.slice (some ⟨g, 0, none⟩) n cap) c op (a + l.length) b (ys ++ [⟨⟨oa, (o + (l.length : Int)), na, (nn), E2⟩, some ⟨g5, 0, none⟩, cap5, RS⟩])) := Lib.hid (by rw [hw5]; exact HD4.out.setB 3 _ (by push_cast; rfl))
        clear HD4
        go_upto_region 6 with fail
        rw [← hw5]
        clear hw5 cb4 zb4
        go_wp2_with fail
        go_end0
        have hP : ∃ x' : Hr, x'.h = putH d l ⟨oa, o, na, nn, es⟩ ∧ Bd w0 w5 base bb (.slice (some ⟨g, 0, none⟩) n cap) c op (a + lenO d l) (b + lenN d l) (ys ++ [x']) := by
          rw [hlo, hln]
          refine ⟨_, ?_, HD5.out⟩
          unfold putH
          rw [if_neg hl, hlo, hln, HE2.out]
          all_goals first | rfl | simp
        exact ⟨rfl, hP, fun e => absurd e hl⟩
      · have hln : lenN d l = l.length := if_neg d2
        have q2 : (d != 2) = true := by simp [d2]
        go_upto_region 4 with fail
        obtain ⟨hc3, hf3, -, -, -⟩ := HD3.out.hc
        rw [← HM.out] at hc3
        have ch3 : w3.cell? ⟨g, m * 5 + 1, none⟩ = some (.int .i64 o) := hc3 1 (by omega)
        have zh3 := hf3 (m * 5 + 1)
        obtain ⟨w4, hw4⟩ : ∃ W : World, W = w3.setCell ⟨g, m * 5 + 1, none⟩ (.int .i64 (o + (l.length : Int))) := ⟨_, rfl⟩
        have HD4 : Hid (Bd w0 w4 base bb (.slice (some ⟨g, 0, none⟩) n cap) c op a b (ys ++ [⟨⟨oa, (o + (l.length : Int)), na, (nn), E2⟩, some ⟨g5, 0, none⟩, cap5, RS⟩])) := Lib.hid (by rw [hw4, HM.out]; exact HD3.out.setH 1 _ rfl rfl rfl rfl)
        clear hc3 hf3 HD3
        go_upto_region 5 with fail
        rw [← hw4]
        clear hw4 ch3 zh3
        have cb4 : w4.cell? ⟨bb, 3, none⟩ = some (.int .i64 (a : Int)) := L.blk_cell HD4.out.blk 3
        have zb4 : w4.frozen? ⟨bb, 3, none⟩ = false := L.blk_free HD4.out.blk 3
        obtain ⟨w5, hw5⟩ : ∃ W : World, W = w4.setCell ⟨bb, 3, none⟩ (.int .i64 ((a : Int) + (l.length : Int))) := ⟨_, rfl⟩
        have HD5 : Hid (Bd w0 w5 base bb (.slice (some ⟨g, 0, none⟩) n cap) c op (a + l.length) b (ys ++ [⟨⟨oa, (o + (l.length : Int)), na, (nn), E2⟩, some ⟨g5, 0, none⟩, cap5, RS⟩])) := Lib.hid (by rw [hw5]; exact HD4.out.setB 3 _ (by push_cast; rfl))
        clear HD4
        go_upto_region 6 with fail
        rw [← hw5]
        clear hw5 cb4 zb4
        go_upto_region 7 with fail
        obtain ⟨hc5, hf5, -, -, -⟩ := HD5.out.hc
        rw [← HM.out] at hc5
        have ch5 : w5.cell? ⟨g, m * 5 + 3, none⟩ = some (.int .i64 nn) := hc5 3 (by omega)
        have zh5 := hf5 (m * 5 + 3)
        obtain ⟨w6, hw6⟩ : ∃ W : World, W = w5.setCell ⟨g, m * 5 + 3, none⟩ (.int .i64 (nn + (l.length : Int))) := ⟨_, rfl⟩
        have HD6 : Hid (Bd w0 w6 base bb (.slice (some ⟨g, 0, none⟩) n cap) c op (a + l.length) b (ys ++ [⟨⟨oa, (o + (l.length : Int)), na, (nn + (l.length : Int)), E2⟩, some ⟨g5, 0, none⟩, cap5, RS⟩])) := Lib.hid (by rw [hw6, HM.out]; exact HD5.out.setH 3 _ rfl rfl rfl rfl)
        clear hc5 hf5 HD5
        go_upto_region 8 with fail
        rw [← hw6]
        clear hw6 ch5 zh5
        have cb6 : w6.cell? ⟨bb, 4, none⟩ = some (.int .i64 (b : Int)) := L.blk_cell HD6.out.blk 4
        have zb6 : w6.frozen? ⟨bb, 4, none⟩ = false := L.blk_free HD6.out.blk 4
        obtain ⟨w7, hw7⟩ : ∃ W : World, W = w6.setCell ⟨bb, 4, none⟩ (.int .i64 ((b : Int) + (l.length : Int))) := ⟨_, rfl⟩
        have HD7 : Hid (Bd w0 w7 base bb (.slice (some ⟨g, 0, none⟩) n cap) c op (a + l.length) (b + l.length) (ys ++ [⟨⟨oa, (o + (l.length : Int)), na, (nn + (l.length : Int)), E2⟩, some ⟨g5, 0, none⟩, cap5, RS⟩])) := Lib.hid (by rw [hw7]; exact HD6.out.setB 4 _ (by push_cast; rfl))
        clear HD6
        go_wp2_with fail
        rw [← hw7]
        clear hw7 cb6 zb6
        go_end0
        have hP : ∃ x' : Hr, x'.h = putH d l ⟨oa, o, na, nn, es⟩ ∧ Bd w0 w7 base bb (.slice (some ⟨g, 0, none⟩) n cap) c op (a + lenO d l) (b + lenN d l) (ys ++ [x']) := by
          rw [hlo, hln]
          refine ⟨_, ?_, HD7.out⟩
          unfold putH
          rw [if_neg hl, hlo, hln, HE2.out]
          all_goals first | rfl | simp
        exact ⟨rfl, hP, fun e => absurd e hl⟩
end Go.Proofs.Ytimalohdchhjgaa.H
