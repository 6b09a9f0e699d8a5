/-
  A stack of labels in memory, of which some may be cut off; a label more on it; the contracts of item's need, top, depth, closed.
  An item's reader in memory; the contracts of its add and takeContent.
  The contracts of the reader's add, in one, and takeContent.
-/
import Derived.Test.YtadhhamfikpimaaDoorGia
import Derived.Test.YtadhhamfikpimaaDoorGc
import Derived.Deep.AppendSrc
import Derived.Deep.AppendLies
import Derived.Laws.Rows
import Derived.Test.YtadhhamfikpimaaDoorGf
import Derived.Deep.RegionHeldLaw
import Derived.Deep.DrawnRows
namespace Go.Proofs.YtadhhamfikpimaaDoor.I
set_option linter.unusedVariables false
set_option linter.unusedSimpArgs false
open Go.RowKit
open T

/-- The cells of labels. -/
def labCells (ls : List Lb) : List Value := ls.flatMap fun a => [.int .i64 a.1, .int .u64 (a.2 : Int)]
theorem labCells_snoc (ls : List Lb) (a : Lb) : labCells (ls ++ [a]) = labCells ls ++ [.int .i64 a.1, .int .u64 (a.2 : Int)] := by simp [labCells]
theorem labCells_length (ls : List Lb) : (labCells ls).length = ls.length * 2 := by
  induction ls with
  | nil => rfl
  | cons a r ih => simp only [labCells, List.flatMap_cons, List.length_append, List.length_cons, List.length_nil] at ih ⊢; omega
theorem labCells_at : ∀ (ls : List Lb) (j : Nat) (h : j < ls.length), (labCells ls)[j * 2]? = some (.int .i64 ls[j].1) ∧ (labCells ls)[j * 2 + 1]? = some (.int .u64 (ls[j].2 : Int))
  | a :: r, 0, _ => by simp [labCells]
  | a :: r, j + 1, h => by
    have ih := labCells_at r j (by simpa using h)
    have e : labCells (a :: r) = .int .i64 a.1 :: .int .u64 (a.2 : Int) :: labCells r := by simp [labCells]
    rw [e, show (j + 1) * 2 = j * 2 + 1 + 1 by omega]
    simpa using ih

/-- A row of the call's own, told by its cells: block g, capacity cap, its first n elements hold xs; all its cells are there and may be written. -/
structure Row (w : World) (base : Nat) (size g n cap : Nat) (xs : List Value) : Prop where
  base : base ≤ g
  lt : g < w.heap.size
  le : n ≤ cap
  max : cap ≤ maxLen
  len : xs.length = n * size
  holds : ∀ (j : Nat) u, xs[j]? = some u → w.cell? ⟨g, j, none⟩ = some u
  there : ∀ j, j < cap * size → (w.cell? ⟨g, j, none⟩).isSome = true ∧ w.frozen? ⟨g, j, none⟩ = false
theorem Row.kept {w w' : World} {base size g n cap : Nat} {xs : List Value} (h : Row w base size g n cap xs) (hs : w.heap.size ≤ w'.heap.size) (hb : w'.heap[g]? = w.heap[g]?) : Row w' base size g n cap xs :=
  ⟨h.base, Nat.lt_of_lt_of_le h.lt hs, h.le, h.max, h.len, fun j u hu => (World.cell?_of_block (a := ⟨g, j, none⟩) hb).trans (h.holds j u hu), fun j hj => by
    rw [World.cell?_of_block (a := ⟨g, j, none⟩) hb, World.frozen?_of_block (a := ⟨g, j, none⟩) hb]; exact h.there j hj⟩
theorem Row.below {w w' : World} {base size g n cap : Nat} {xs : List Value} (h : Row w base size g n cap xs) (hb : Below w.heap.size w w') : Row w' base size g n cap xs :=
  h.kept hb.size (hb.block g h.lt)
theorem Row.grown {w w' : World} {base size g n cap : Nat} {xs : List Value} {row : Option Nat} (h : Row w base size g n cap xs) (hg : w.grownBy w' row) (hne : some g ≠ row) : Row w' base size g n cap xs :=
  h.kept hg.size (hg.block g h.lt hne)
theorem Row.more {w : World} {base base' size g n cap : Nat} {xs : List Value} (h : Row w base size g n cap xs) (hb : base' ≤ base) : Row w base' size g n cap xs :=
  ⟨Nat.le_trans hb h.base, h.lt, h.le, h.max, h.len, h.holds, h.there⟩
/-- The first of its elements, with no room behind them. -/
theorem Row.cut {w : World} {base size g n cap m : Nat} {xs : List Value} (h : Row w base size g n cap xs) (hm : m ≤ n) : Row w base size g m m (xs.take (m * size)) := by
  have h1 : m * size ≤ n * size := Nat.mul_le_mul_right _ hm
  have h2 : n * size ≤ cap * size := Nat.mul_le_mul_right _ h.le
  refine ⟨h.base, h.lt, Nat.le_refl _, by have := h.max; have := h.le; omega, by rw [List.length_take, h.len]; omega, fun j u hu => ?_, fun j hj => h.there j (by omega)⟩
  rw [List.getElem?_take] at hu
  split at hu
  · exact h.holds j u hu
  · cases hu
theorem row_of_block {w : World} {base size g : Nat} {t : TypeId} {cs : Array Value} {n : Nat} (hg : w.heap[g]? = some (.cells cs t (0, 0))) (hb : base ≤ g) (hs : cs.size = n * size) (hn : n ≤ maxLen) : Row w base size g n n cs.toList := by
  refine ⟨hb, L.blk_lt hg, Nat.le_refl _, hn, by rw [Array.length_toList, hs], fun j u hu => ?_, fun j hj => ⟨?_, L.blk_free hg j⟩⟩
  · rw [L.blk_cell hg]; simpa using hu
  · rw [L.blk_cell hg, Array.getElem?_eq_getElem (by omega)]; rfl

theorem setCells_size (b : Nat) : ∀ (vs : List Value) (o : Nat) (w : World), (w.setCells b o vs).heap.size = w.heap.size
  | [], _, _ => rfl
  | v :: r, o, w => by rw [World.setCells, setCells_size b r (o + 1)]; simp
theorem setCells_tape (b : Nat) : ∀ (vs : List Value) (o : Nat) (w : World), (w.setCells b o vs).tape = w.tape
  | [], _, _ => rfl
  | v :: r, o, w => by rw [World.setCells, setCells_tape b r (o + 1)]; rfl
/-- One append onto such a row. -/
theorem run_append_row {P : Program} {w : World} (t ty e : TypeId) (i : TypeInfo) (z : Value) (size bytes : Nat) (ht : P.underlying t = some (.slice e)) (hi : P.info? e = some i) (hz : i.zero = some z)
    (hsize : i.size = size) (hby : i.bytes = bytes) (hzs : z.cells.size = size) (hsz : 0 < size) {base g n cap : Nat} {xs : List Value} (h : Row w base size g n cap xs)
    (ad : Addr) (c : Nat) (news : List Value) (hl : news.length = size) (hnews : ∀ j u, news[j]? = some u → w.cell? (ad.add j) = some u) (h1 : ∀ u ∈ news, u.oneCell' = true)
    (h63 : n + 1 ≤ maxLen) (hbytes : (n + 1) * bytes ≤ 140737488355328) (hbase : base ≤ w.heap.size) :
    ∃ g' cap' w', (Builtin.append_ #[t, t] ty #[.slice (some ⟨g, 0, none⟩) n cap, .slice (some ad) 1 c]).run P w = .ok (.slice (some ⟨g', 0, none⟩) (n + 1) cap') w' ∧
      Row w' base size g' (n + 1) cap' (xs ++ news) ∧ w.grownBy w' (some g) ∧ (g' = g ∨ g' = w.heap.size) := by
  subst hsize
  subst hby
  have hs : Src P i.size t (.slice (some ad) 1 c) 1 news w := Src.ofSlice w ht ad 1 c news (by omega) hnews h1
  have hxl := h.len
  have hL : (xs ++ news).length = (n + 1) * i.size := by rw [List.length_append, hxl, hl, Nat.add_mul]; omega
  by_cases hfit : n + 1 ≤ cap
  · have hrc : (n + 1) * i.size ≤ cap * i.size := Nat.mul_le_mul_right _ hfit
    rw [Nat.add_mul] at hrc
    have hsome : ∀ j, j < news.length → (w.cell? ⟨g, 0 + n * i.size + j, none⟩).isSome = true := fun j hj => by rw [Nat.zero_add]; exact (h.there _ (by omega)).1
    have hrun := run_append_room_src (P := P) w t t ty e i ht hi g 0 n cap (.slice (some ad) 1 c) 1 news hs hfit hsome (fun j hj => by rw [Nat.zero_add]; exact (h.there _ (by omega)).2)
    have hsz' : (w.setCells g (0 + n * i.size) news).heap.size = w.heap.size := setCells_size _ _ _ _
    refine ⟨g, cap, _, hrun, ⟨h.base, by rw [hsz']; exact h.lt, hfit, h.max, hL, fun j u hu => ?_, fun j hj => ⟨?_, (World.frozen?_setCells g _ _ _ _).trans (h.there j hj).2⟩⟩, ⟨?_, ?_, ?_, by rw [hsz']; exact Nat.le_refl _, fun k hk hne => ?_⟩, .inl rfl⟩
    · by_cases hj : j < xs.length
      · rw [World.cell?_setCells_out g _ _ _ _ (fun _ _ => Or.inl (by show j < 0 + n * i.size; omega))]
        rw [List.getElem?_append_left hj] at hu
        exact h.holds j u hu
      · have hjl : j < (xs ++ news).length := (List.getElem?_eq_some_iff.1 hu).1
        rw [List.length_append] at hjl
        have := World.cell?_setCells_in g news (0 + n * i.size) w hsome (j - xs.length) (by omega)
        rw [show 0 + n * i.size + (j - xs.length) = j by omega] at this
        rw [this]
        rw [List.getElem?_append_right (by omega)] at hu
        rw [List.getElem?_eq_getElem (by omega)] at hu
        exact hu
    · by_cases hin : n * i.size ≤ j ∧ j < n * i.size + news.length
      · have := World.cell?_setCells_in g news (0 + n * i.size) w hsome (j - n * i.size) (by omega)
        rw [show 0 + n * i.size + (j - n * i.size) = j by omega] at this
        rw [this]; rfl
      · rw [World.cell?_setCells_out g _ _ _ _ (fun _ _ => by show j < 0 + n * i.size ∨ 0 + n * i.size + news.length ≤ j; omega)]
        exact (h.there j hj).1
    · exact (World.keptBut_setCells g (may := fun _ => True) news _ w (fun _ _ => trivial)).1
    · exact setCells_tape _ _ _ _
    · exact (World.keptBut_setCells g (may := fun _ => True) news _ w (fun _ _ => trivial)).2.1
    · exact (World.keptBut_setCells g (may := fun p => p.block = g) news _ w (fun _ _ => rfl)).block hk (fun _ hp e => hne (by rw [← e, hp]))
  · have hold : (Builtin.firstCells i.size n (.slice (some ⟨g, 0, none⟩) n cap)).run P w.drew = .ok xs.toArray w.drew :=
      run_firstCells_some w.drew i.size n ⟨g, 0, none⟩ n cap xs hxl (fun j u hu => by
        rw [Addr.add_lit, Nat.zero_add]
        exact h.holds j u hu)
    have hrun := run_append_grow_src (P := P) w t t ty e i z ht hi hz (some ⟨g, 0, none⟩) n cap xs hold (.slice (some ad) 1 c) 1 news hs (by omega) (by simp only [maxLen] at h63; omega) (growslice_fits (by omega) hbytes)
    have hge := grownCap_ge w (n + 1) cap e
    have hcm := grownCap_le_maxLen w (n + 1) cap e h63
    generalize hgc : grownCap w (n + 1) cap e = gc at *
    have hblk : ∀ k, k < w.heap.size → (w.drew.alloc (.cells ((xs ++ news).toArray ++ Builtin.zeroCells z.cells (gc - (n + 1))) e)).heap[k]? = w.heap[k]? := fun k hk => Below.heap_alloc w.drew _ k hk
    have hnew : (w.drew.alloc (.cells ((xs ++ news).toArray ++ Builtin.zeroCells z.cells (gc - (n + 1))) e)).heap[w.heap.size]? = some (.cells ((xs ++ news).toArray ++ Builtin.zeroCells z.cells (gc - (n + 1))) e (0, 0)) := heap_alloc_new w.drew _
    have hsz2 : ((xs ++ news).toArray ++ Builtin.zeroCells z.cells (gc - (n + 1))).size = gc * i.size := by
      rw [Array.size_append, List.size_toArray, hL, size_zeroCells, hzs, ← Nat.add_mul]
      congr 1
      omega
    refine ⟨w.heap.size, gc, _, hrun, ⟨hbase, L.blk_lt hnew, by omega, hcm, hL, fun j u hu => ?_, fun j hj => ⟨?_, L.blk_free hnew j⟩⟩, ⟨rfl, rfl, rfl, by simp, fun k hk _ => hblk k hk⟩, .inr rfl⟩
    · rw [L.blk_cell hnew, Array.getElem?_append_left (by rw [List.size_toArray]; exact (List.getElem?_eq_some_iff.1 hu).1), List.getElem?_toArray]
      exact hu
    · rw [L.blk_cell hnew, Array.getElem?_eq_getElem (by rw [hsz2]; exact hj)]; rfl

theorem wp_append_row {P : Program} (w : World) {o : Oper} {a : Act} {K : Act → World → Prop} {Q : Exit → Act → World → Prop} (s x : Operand) (t : TypeId)
    (ho : o.op = .call { callee := .builtin .append, args := #[s, x], argTypes := #[t, t] })
    (base : Nat) (e : TypeId) (i : TypeInfo) (z : Value) (size bytes : Nat) (ht : P.underlying t = some (.slice e)) (hi : P.info? e = some i) (hz : i.zero = some z)
    (hsize : i.size = size) (hby : i.bytes = bytes) (hzs : z.cells.size = size) (hsz : 0 < size)
    (g n cap : Nat) (xs : List Value) (hs : a.eval s = .slice (some ⟨g, 0, none⟩) n cap) (hrow : Row w base size g n cap xs)
    (ad : Addr) (c : Nat) (news : List Value) (hx : a.eval x = .slice (some ad) 1 c) (hl : news.length = size) (hnews : ∀ j u, news[j]? = some u → w.cell? (ad.add j) = some u) (h1 : ∀ u ∈ news, u.oneCell' = true)
    (h63 : n + 1 ≤ maxLen) (hbytes : (n + 1) * bytes ≤ 140737488355328) (hbase : base ≤ w.heap.size)
    (h : ∀ g' cap' w', Row w' base size g' (n + 1) cap' (xs ++ news) → w.grownBy w' (some g) → (g' = g ∨ g' = w.heap.size) → K (a.put o.dst (.slice (some ⟨g', 0, none⟩) (n + 1) cap')) w') : o.wp P a w K Q := by
  obtain ⟨g', cap', w', hr, h2, h3, h4⟩ := run_append_row (P := P) t o.type e i z size bytes ht hi hz hsize hby hzs hsz hrow ad c news hl hnews h1 h63 hbytes hbase
  unfold Oper.wp execOp
  simp only [ho, resolve, invoke, builtin, Sem.run_bind, Sem.run_pure, Result.andThen_ok, List.map_toArray, List.map_cons, List.map_nil, hs, hx, hr]
  exact h g' cap' w' h2 h3 h4
/-- At a step of a region that draws its order. -/
theorem step_append_row {P : Program} (w : World) {ops : Array Oper} {o : Oper} {a : Act} {K : Act → World → Prop} {Q : Exit → Act → World → Prop} {E : Prop} (hgd : o.guard = none) (s x : Operand) (t : TypeId)
    (ho : o.op = .call { callee := .builtin .append, args := #[s, x], argTypes := #[t, t] })
    (base : Nat) (e : TypeId) (i : TypeInfo) (z : Value) (size bytes : Nat) (ht : P.underlying t = some (.slice e)) (hi : P.info? e = some i) (hz : i.zero = some z)
    (hsize : i.size = size) (hby : i.bytes = bytes) (hzs : z.cells.size = size) (hsz : 0 < size)
    (g n cap : Nat) (xs : List Value) (hs : a.eval s = .slice (some ⟨g, 0, none⟩) n cap) (hrow : Row w base size g n cap xs)
    (ad : Addr) (c : Nat) (news : List Value) (hx : a.eval x = .slice (some ad) 1 c) (hl : news.length = size) (hnews : ∀ j u, news[j]? = some u → w.cell? (ad.add j) = some u) (h1 : ∀ u ∈ news, u.oneCell' = true)
    (h63 : n + 1 ≤ maxLen) (hbytes : (n + 1) * bytes ≤ 140737488355328) (hbase : base ≤ w.heap.size)
    (h : ∀ g' cap' w', Row w' base size g' (n + 1) cap' (xs ++ news) → w.grownBy w' (some g) → (g' = g ∨ g' = w.heap.size) → K (a.put o.dst (.slice (some ⟨g', 0, none⟩) (n + 1) cap')) w') :
    if Region.wanted o (yielded ops a.tmps) = true then Oper.wp P o a w K Q else E := by
  have hw : Region.wanted o (yielded ops a.tmps) = true := by simp [Region.wanted, hgd]
  rw [if_pos hw]
  exact wp_append_row w s x t ho base e i z size bytes ht hi hz hsize hby hzs hsz g n cap xs hs hrow ad c news hx hl hnews h1 h63 hbytes hbase h

theorem infoLab : (Tryd.prog.info? 40).map (fun i => (i.zero, i.size, i.bytes)) = some (some (.agg #[.int .i64 0, .int .u64 0]), 2, 16) := by kernel_rfl
theorem infoItem : (Tryd.prog.info? 53).map (fun i => (i.zero, i.size, i.bytes)) = some (some (.agg #[.int .i64 0, .int .i64 0, .int .u64 0, .bool false, .string ⟨#[]⟩, .bool false]), 6, 56) := by kernel_rfl

/-- The fault of a line. -/
def fault (k : Nat) : List PanicEntry := [{ v := .iface 27 (.int .i64 (k : Int)), recovered := false }]
theorem need_yes (k : Int) (w : World) : Calls Tryd.prog 89 #[.bool true, .int .i64 k] w fun e w' => e = .returned (.tuple #[]) ∧ w = w' := by
  go_enter Tryd.func89, Tryd.ntmps89
  go_wp2
  go_end0
  exact ⟨rfl, rfl⟩
theorem need_no (k : Nat) (w : World) : Calls Tryd.prog 89 #[.bool false, .int .i64 (k : Int)] w fun e w' => e = .panicked (fault k) ∧ w = w' := by
  go_enter Tryd.func89, Tryd.ntmps89
  go_wp2
  exact ⟨rfl, rfl, rfl⟩
theorem need_no3 (w : World) : Calls Tryd.prog 89 #[.bool false, .int .i64 3] w fun e w' => e = .panicked (fault 3) ∧ w = w' := need_no 3 w
theorem need_no4 (w : World) : Calls Tryd.prog 89 #[.bool false, .int .i64 4] w fun e w' => e = .panicked (fault 4) ∧ w = w' := need_no 4 w
theorem need_no5 (w : World) : Calls Tryd.prog 89 #[.bool false, .int .i64 5] w fun e w' => e = .panicked (fault 5) ∧ w = w' := need_no 5 w

/-- The labels of open regions in memory: the innermost last. -/
def StkIn (w : World) (base g n cap : Nat) (op : List Lb) : Prop := n = op.length ∧ Row w base 2 g n cap (labCells op.reverse)
theorem StkIn.row {w : World} {base g n cap : Nat} {op : List Lb} (h : StkIn w base g n cap op) : Row w base 2 g n cap (labCells op.reverse) := h.2
theorem StkIn.below {w w' : World} {base g n cap : Nat} {op : List Lb} (h : StkIn w base g n cap op) (hb : Below w.heap.size w w') : StkIn w' base g n cap op := ⟨h.1, h.2.below hb⟩
theorem StkIn.pop {w : World} {base g n cap : Nat} {op : List Lb} (h : StkIn w base g n cap op) : StkIn w base g (n - 1) (n - 1) op.tail := by
  obtain ⟨rfl, hr⟩ := h
  refine ⟨by simp, ?_⟩
  have := hr.cut (m := op.length - 1) (by omega)
  cases op with
  | nil => simpa [labCells] using this
  | cons a r =>
    have e : (labCells (a :: r).reverse).take (((a :: r).length - 1) * 2) = labCells r.reverse := by
      rw [List.reverse_cons, labCells_snoc]
      exact List.take_left' (by rw [labCells_length]; simp)
    rw [e] at this
    exact this
theorem StkIn.top {w : World} {base g n cap : Nat} {a : Lb} {r : List Lb} (h : StkIn w base g n cap (a :: r)) : w.cell? ⟨g, (n - 1) * 2, none⟩ = some (.int .i64 a.1) ∧ w.cell? ⟨g, (n - 1) * 2 + 1, none⟩ = some (.int .u64 (a.2 : Int)) := by
  obtain ⟨rfl, hr⟩ := h
  have hc := labCells_at (a :: r).reverse r.length (by simp)
  have e : (a :: r).reverse[r.length]'(by simp) = a := by simp
  rw [e] at hc
  exact ⟨hr.holds _ _ (by simpa using hc.1), hr.holds _ _ (by simpa using hc.2)⟩

set_option maxHeartbeats 400000 in
theorem top_any {base g n cap : Nat} {a : Lb} {r : List Lb} (w : World) (h : StkIn w base g n cap (a :: r)) :
    Calls Tryd.prog 82 #[.slice (some ⟨g, 0, none⟩) n cap] w fun e w' => e = .returned (L.lab a.1 a.2) ∧ Below w.heap.size w w' := by
  obtain ⟨c0, c1⟩ := h.top
  have hn : 0 < n := by rw [h.1]; simp
  have hlt := h.row.lt
  have hmx := h.row.max
  have hle := h.row.le
  obtain ⟨m, rfl⟩ : ∃ m, n = m + 1 := ⟨n - 1, by omega⟩
  have e1 : (((m + 1 : Nat) : Int) - 1) = (m : Int) := by omega
  unfold maxLen at hmx
  have hgne : ¬ g = w.heap.size := by omega
  rw [Nat.add_sub_cancel] at c0 c1
  clear h
  go_enter Tryd.func82, Tryd.ntmps82
  go_wp2_with fail
  refine bodyPost_ret (v := L.lab a.1 a.2) (by simp [results, Tryd.results82, go_sem]) rfl ⟨rfl, ?_⟩
  exact (Below.refl _ _).alloc (Nat.le_refl _) _
theorem depth_any (A : Option Addr) (n cap : Nat) (w : World) (hn : n ≤ 4194304) :
    Calls Tryd.prog 52 #[.slice A n cap] w fun e w' => e = .returned (.int .i64 ((n : Int) - 1)) ∧ w = w' := by
  go_enter Tryd.func52, Tryd.ntmps52
  go_wp2_with fail
  go_ret
  exact ⟨rfl, rfl⟩
theorem closed_any (g n cap : Nat) (w : World) (hn : n < 4194304) (hc : n + 1 ≤ cap) :
    Calls Tryd.prog 84 #[.slice (some ⟨g, 0, none⟩) (n + 1) cap] w fun e w' => e = .returned (.slice (some ⟨g, 0, none⟩) n n) ∧ w = w' := by
  go_enter Tryd.func84, Tryd.ntmps84
  go_wp2_with fail
  go_ret
  exact ⟨rfl, rfl⟩
end Go.Proofs.YtadhhamfikpimaaDoor.I

namespace Go.Proofs.YtadhhamfikpimaaDoor.I
set_option linter.unusedVariables false
set_option linter.unusedSimpArgs false
open Go.RowKit
open T
open O (own_ne grown_of grown_set ne_type)
attribute [local go_sem ↓] Go.wp_at_zero Go.wp_at_succ

/-- A policy's value. -/
structure PV where
  n0 : Int
  n1 : Int
  n2 : Int
  n3 : Int
  n4 : Int
  n5 : Int
  hid : ByteArray
  uv : Value
  fv : Value
/-- The cells of items. -/
def itCells (xs : List It) : List Value := xs.flatMap fun x => [.int .i64 x.id, .int .i64 x.lv, .int .u64 (x.ct : Int), .bool x.an, .string ⟨x.tx.toArray⟩, .bool x.ba]
theorem itCells_snoc (xs : List It) (x : It) : itCells (xs ++ [x]) = itCells xs ++ [.int .i64 x.id, .int .i64 x.lv, .int .u64 (x.ct : Int), .bool x.an, .string ⟨x.tx.toArray⟩, .bool x.ba] := by simp [itCells]
/-- The cells of a reader. -/
def rdCells (q : PV) (ov iv : Value) (line con : Nat) : Array Value :=
  #[.int .i64 q.n0, .int .i64 q.n1, .int .i64 q.n2, .int .i64 q.n3, .int .i64 q.n4, .int .i64 q.n5, .string q.hid, q.uv, q.fv, ov, iv, .int .i64 (line : Int), .int .i64 (con : Int)]
/-- What a reader's calls may not turn: the blocks below lo, and those from a on, below b. -/
structure Zone where
  lo : Nat
  a : Nat
  b : Nat
def Kp (z : Zone) (w w' : World) : Prop := Below z.lo w w' ∧ ∀ k, z.a ≤ k → k < z.b → w'.heap[k]? = w.heap[k]?
def Out (z : Zone) (k : Nat) : Prop := z.lo ≤ k ∧ ¬ (z.a ≤ k ∧ k < z.b)
theorem Kp.refl (z : Zone) (w : World) : Kp z w w := ⟨Below.refl _ _, fun _ _ _ => rfl⟩
theorem Kp.trans {z : Zone} {a b c : World} (h : Kp z a b) (h' : Kp z b c) : Kp z a c := ⟨h.1.trans h'.1, fun k h1 h2 => (h'.2 k h1 h2).trans (h.2 k h1 h2)⟩
theorem Kp.of {z : Zone} {w w' : World} (h : Below w.heap.size w w') (h1 : z.lo ≤ w.heap.size) (h2 : z.b ≤ w.heap.size) : Kp z w w' := ⟨h.mono h1, fun k _ hk => h.block k (by omega)⟩
theorem Kp.drew {z : Zone} {w w' : World} (h : Kp z w w') : Kp z w w'.drew := ⟨h.1.drew, h.2⟩
theorem Kp.setCell {z : Zone} {w w' : World} (h : Kp z w w') {p : Addr} (hp : Out z p.block) (v : Value) : Kp z w (w'.setCell p v) :=
  ⟨h.1.setCell hp.1 v, fun k h1 h2 => (Below.heap_setCell _ _ _ _ (fun e => hp.2 (by rw [← e]; exact ⟨h1, h2⟩))).trans (h.2 k h1 h2)⟩
theorem Kp.grown {z : Zone} {w w' w2 : World} {row : Option Nat} (h : Kp z w w') (hg : w'.grownBy w2 row) (h1 : z.lo ≤ w'.heap.size) (h2 : z.b ≤ w'.heap.size) (hr : ∀ k, row = some k → Out z k) : Kp z w w2 :=
  ⟨h.1.grown hg h1 (fun k hk => (hr k hk).1), fun k a1 a2 => (hg.block k (by omega) (fun e => (hr k e.symm).2 ⟨a1, a2⟩)).trans (h.2 k a1 a2)⟩
/-- A reader in memory, in blocks out of a zone. -/
structure Rd (w : World) (base : Zone) (rb : Nat) (q : PV) (s : Ps) (line g cap : Nat) (iv : Value) : Prop where
  hb : Out base rb
  hz : base.b ≤ w.heap.size
  blk : w.heap[rb]? = some (.cells (rdCells q (.slice (some ⟨g, 0, none⟩) s.op.length cap) iv line s.con) 95 (0, 0))
  stk : StkIn w base.lo g s.op.length cap s.op
  gz : Out base g
  gne : g ≠ rb
  gni : iv.ownBlock ≠ some g
  iz : ∀ k, iv.ownBlock = some k → Out base k
  its : w.ownsRow base.lo 53 6 iv s.its.length (itCells s.its)
variable {w w' : World} {base : Zone} {rb : Nat} {q : PV} {s : Ps} {line g cap : Nat} {iv : Value}
theorem Rd.lt (h : Rd w base rb q s line g cap iv) : rb < w.heap.size := L.blk_lt h.blk
theorem Rd.size (h : Rd w base rb q s line g cap iv) : base.lo ≤ w.heap.size := Nat.le_trans h.hb.1 (Nat.le_of_lt h.lt)
theorem Rd.kp (h : Rd w base rb q s line g cap iv) (hb : Below w.heap.size w w') : Kp base w w' := Kp.of hb h.size h.hz
theorem Rd.below (h : Rd w base rb q s line g cap iv) (hb : Below w.heap.size w w') : Rd w' base rb q s line g cap iv :=
  ⟨h.hb, Nat.le_trans h.hz hb.size, (hb.block rb h.lt).trans h.blk, h.stk.below hb, h.gz, h.gne, h.gni, h.iz, h.its.kept (grown_of hb none) (by cases iv.ownBlock <;> simp)⟩
theorem Rd.irb (h : Rd w base rb q s line g cap iv) : iv.ownBlock = none ∨ iv.ownBlock ≠ some rb := own_ne h.its (fun cs => ne_type (by decide) h.blk)
/-- Behind a store into the reader itself. -/
theorem Rd.stored (h : Rd w base rb q s line g cap iv) (i : Nat) (u : Value) {line' con' : Nat} (hc : (rdCells q (.slice (some ⟨g, 0, none⟩) s.op.length cap) iv line s.con).setIfInBounds i u = rdCells q (.slice (some ⟨g, 0, none⟩) s.op.length cap) iv line' con') : Rd (w.setCell ⟨rb, i, none⟩ u) base rb q ⟨s.op, s.its, con'⟩ line' g cap iv := by
  refine ⟨h.hb, by simpa using h.hz, ?_, ⟨h.stk.1, h.stk.2.grown (grown_set w ⟨rb, i, none⟩ u) (by simpa using h.gne)⟩, h.gz, h.gne, h.gni, h.iz, h.its.kept (grown_set w ⟨rb, i, none⟩ u) h.irb⟩
  have := L.blk_set h.blk i u
  rw [hc] at this
  exact this
theorem Rd.cells (h : Rd w base rb q s line g cap iv) : w.cell? ⟨rb, 9, none⟩ = some (.slice (some ⟨g, 0, none⟩) s.op.length cap) ∧ w.cell? ⟨rb, 10, none⟩ = some iv ∧ w.cell? ⟨rb, 11, none⟩ = some (.int .i64 (line : Int)) ∧ w.cell? ⟨rb, 12, none⟩ = some (.int .i64 (s.con : Int)) :=
  ⟨L.blk_cell h.blk 9, L.blk_cell h.blk 10, L.blk_cell h.blk 11, L.blk_cell h.blk 12⟩

/-- A fault goes up: the line's number stands, and what is not the reader's is as it was. -/
def Fell (w : World) (base : Zone) (rb line k : Nat) (e : Ending) (w' : World) : Prop := e = .panicked (fault k) ∧ w'.cell? ⟨rb, 11, none⟩ = some (.int .i64 (line : Int)) ∧ Kp base w w'
theorem Rd.fell (h : Rd w' base rb q s line g cap iv) (hb : Kp base w w') (k : Nat) : Fell w base rb line k (.panicked (fault k)) w' := ⟨rfl, h.cells.2.2.1, hb⟩
/-- A line was taken: the reader behind it. -/
def Took (w : World) (base : Zone) (rb : Nat) (q : PV) (s : Ps) (line : Nat) (e : Ending) (w' : World) : Prop := e = .returned (.tuple #[]) ∧ (∃ g cap iv, Rd w' base rb q s line g cap iv) ∧ Kp base w w'
def TakeEnd (w : World) (base : Zone) (rb : Nat) (q : PV) (line : Nat) (o : Ps ⊕ Nat) (e : Ending) (w' : World) : Prop :=
  match o with
  | .inl s => Took w base rb q s line e w'
  | .inr k => Fell w base rb line k e w'
theorem TakeEnd.from {w1 : World} {o : Ps ⊕ Nat} {e : Ending} (h : TakeEnd w1 base rb q line o e w') (hb : Kp base w w1) : TakeEnd w base rb q line o e w' := by
  cases o with
  | inl t => exact ⟨h.1, h.2.1, hb.trans h.2.2⟩
  | inr k => exact ⟨h.1, h.2.1, hb.trans h.2.2⟩

theorem pushItem {W w3 : World} {o : Obj} {n g3 cap3 vcap : Nat} {vA : Option Addr} {x : It} (HR : Rd W base rb q s line g cap (.slice vA n vcap)) (HB : Kp base w W) (hn : n = s.its.length)
    (hg : (W.alloc o).drew.grownBy w3 (Value.slice vA n vcap).ownBlock) (hown3 : w3.ownsRow base.lo 53 6 (.slice (some ⟨g3, 0, none⟩) (n + 1) cap3) (n + 1) (itCells s.its ++ [.int .i64 x.id, .int .i64 x.lv, .int .u64 (x.ct : Int), .bool x.an, .string ⟨x.tx.toArray⟩, .bool x.ba])) (hat : (Value.slice vA n vcap).ownBlock = some g3 ∨ g3 = W.heap.size + 1) :
    Took w base rb q ⟨s.op, s.its ++ [x], s.con⟩ line (.returned (.tuple #[])) (w3.setCell ⟨rb, 10, none⟩ (.slice (some ⟨g3, 0, none⟩) (n + 1) cap3)) := by
  subst hn
  have hrow := HR.its
  have hgW : W.grownBy w3 (Value.slice vA s.its.length vcap).ownBlock := ⟨hg.os, hg.tape, hg.output, Nat.le_trans (by simp) hg.size, fun k hk hne => (hg.block k (by simp; omega) hne).trans (Below.heap_alloc W o k hk)⟩
  have hrb : some rb ≠ (Value.slice vA s.its.length vcap).ownBlock := fun e => by
    rcases HR.irb with h0 | h0
    · rw [h0] at e; cases e
    · exact h0 e.symm
  have hgb : some g ≠ (Value.slice vA s.its.length vcap).ownBlock := fun e => HR.gni e.symm
  have blk3 := (hgW.block rb HR.lt hrb).trans HR.blk
  have stk3 := HR.stk.row.grown hgW hgb
  have hset := grown_set w3 ⟨rb, 10, none⟩ (.slice (some ⟨g3, 0, none⟩) (s.its.length + 1) cap3)
  refine ⟨rfl, ⟨g, cap, .slice (some ⟨g3, 0, none⟩) (s.its.length + 1) cap3, HR.hb, by have := HR.hz; have := hgW.size; simp; omega, ?_, ⟨HR.stk.1, stk3.grown hset (by simpa using HR.gne)⟩, HR.gz, HR.gne, ?_, ?_, ?_⟩, ?_⟩
  · have := L.blk_set blk3 10 (.slice (some ⟨g3, 0, none⟩) (s.its.length + 1) cap3)
    exact this
  · rintro e
    have e' : g3 = g := by simpa [Value.ownBlock] using e
    rcases hat with h0 | h0
    · exact hgb (by rw [h0, e'])
    · have := HR.stk.row.lt; omega
  · intro k hk
    have e' : g3 = k := by simpa [Value.ownBlock] using hk
    rcases hat with h0 | h0
    · exact HR.iz k (by rw [h0, e'])
    · have := HR.hz; have := HR.size; exact ⟨by omega, by omega⟩
  · have e : (s.its ++ [x]).length = s.its.length + 1 := by simp
    show World.ownsRow _ _ _ _ _ (s.its ++ [x]).length (itCells (s.its ++ [x]))
    rw [e, itCells_snoc]
    exact hown3.kept hset (own_ne hown3 (fun cs => ne_type (by decide) blk3))
  · exact ((HB.grown hgW HR.size HR.hz HR.iz).setCell (p := ⟨rb, 10, none⟩) HR.hb _)

abbrev itV (id lv : Int) (ct : Nat) (an : Bool) (tx : ByteArray) (ba : Bool) : Value := .agg #[.int .i64 id, .int .i64 lv, .int .u64 (ct : Int), .bool an, .string tx, .bool ba]

set_option maxRecDepth 100000 in
set_option maxHeartbeats 2000000 in
theorem add_full (h : Rd w base rb q s line g cap iv) (id lv : Int) (ct : Nat) (an : Bool) (tx : ByteArray) (ba : Bool) (hq : ¬ s.its.length < 400) :
    Calls Tryd.prog 118 #[.pointer (some ⟨rb, 0, none⟩), itV id lv ct an tx ba] w (Fell w base rb line 4) := by
  have hA : Below w.heap.size w (w.alloc (.cells #[.int .i64 id, .int .i64 lv, .int .u64 (ct : Int), .bool an, .string tx, .bool ba] 53)) := (Below.refl _ _).alloc (Nat.le_refl _) _
  have hR := h.below hA
  have HF := Lib.hid (hR.fell (w := w) (h.kp hA) 4)
  obtain ⟨vA, vcap, rfl, hvc, -⟩ := own_form h.its
  have hcf := hR.cells.2.1
  generalize s.its.length = n at *
  have hq' : ¬ (n : Int) < 400 := by omega
  have hqd : decide ((n : Int) < 400) = false := decide_eq_false hq'
  clear h hR hA
  go_enter Tryd.func118, Tryd.ntmps118
  go_wp2_with fail
  with_reducible refine (need_no4 _).mono ?_
  rintro e w' ⟨rfl, rfl⟩
  go_wp2_with fail
  exact ⟨rfl, HF.out⟩

def TopC (w : World) (g m cap : Nat) (a : Lb) : Prop := ∀ W : World, Below w.heap.size w W → Calls Tryd.prog 82 #[.slice (some ⟨g, 0, none⟩) m cap] W fun e w' => e = .returned (L.lab a.1 a.2) ∧ Below W.heap.size W w'
theorem TopC.call {w : World} {m : Nat} {a : Lb} (h : TopC w g m cap a) {W : World} (hb : Below w.heap.size w W) : Calls Tryd.prog 82 #[.slice (some ⟨g, 0, none⟩) m cap] W fun e w' => e = .returned (L.lab a.1 a.2) ∧ Below W.heap.size W w' := h W hb
theorem Rd.topC (h : Rd w base rb q s line g cap iv) (hop : s.op ≠ []) : TopC w g s.op.length cap s.top := fun W hb => by
  have hs := (h.below hb).stk
  have e : ∃ r, s.op = s.top :: r := by
    unfold Ps.top
    cases ho : s.op with
    | nil => exact absurd ho hop
    | cons t r => exact ⟨r, rfl⟩
  obtain ⟨r, hr⟩ := e
  have hs' : StkIn W base.lo g s.op.length cap (s.top :: r) := by rw [← hr]; exact hs
  exact top_any W hs'
theorem alloc1 (W : World) (o : Obj) : Below W.heap.size W (W.alloc o) := (Below.refl _ _).alloc (Nat.le_refl _) o
abbrev itA (id lv : Int) (ct : Nat) (an : Bool) (tx : ByteArray) (ba : Bool) : Array Value := #[.int .i64 id, .int .i64 lv, .int .u64 (ct : Int), .bool an, .string tx, .bool ba]

set_option maxRecDepth 100000 in
set_option maxHeartbeats 4000000 in
theorem add_yes (h : Rd w base rb q s line g cap iv) (hop : s.op ≠ []) (id lv : Int) (ct : Nat) (an : Bool) (tx : ByteArray) (ba : Bool) (hq : s.its.length < 400) (a : Lb) (ha : s.top = a) :
    Calls Tryd.prog 118 #[.pointer (some ⟨rb, 0, none⟩), itV id lv ct an tx ba] w (Took w base rb q ⟨s.op, s.its ++ [⟨(s.its.length : Int) + 1, a.1, a.2, an, tx.data.toList, ba⟩], s.con⟩ line) := by
  obtain ⟨i0, hi0, hz0, hz1, hz2⟩ := info_parts infoItem
  have HTOP := Lib.hid (h.topC hop)
  rw [ha] at HTOP
  obtain ⟨W1, hW1⟩ : ∃ W1 : World, W1 = w.alloc (.cells (itA id lv ct an tx ba) 53) := ⟨_, rfl⟩
  have hA : Below w.heap.size w W1 := by rw [hW1]; exact alloc1 _ _
  have hX : W1.heap[w.heap.size]? = some (.cells (itA id lv ct an tx ba) 53 (0, 0)) := by rw [hW1]; exact heap_alloc_new w _
  obtain ⟨vA, vcap, rfl, hvc, -⟩ := own_form h.its
  obtain ⟨n, hnn⟩ : ∃ n, n = s.its.length := ⟨_, rfl⟩
  obtain ⟨m, hmm⟩ : ∃ m, m = s.op.length := ⟨_, rfl⟩
  rw [← hnn] at hq h
  rw [← hmm] at HTOP
  have H0 := Lib.hid h
  have H1 := h.below hA
  have c10 : W1.cell? ⟨rb, 10, none⟩ = some (.slice vA n vcap) := H1.cells.2.1
  have c9 : W1.cell? ⟨rb, 9, none⟩ = some (.slice (some ⟨g, 0, none⟩) m cap) := by rw [hmm]; exact H1.cells.1
  have hq' : (n : Int) < 400 := by omega
  have hqd : decide ((n : Int) < 400) = true := decide_eq_true hq'
  obtain ⟨xb, hxb⟩ : ∃ xb, xb = w.heap.size := ⟨_, rfl⟩
  rw [← hxb] at hX
  have z0 := L.blk_free hX 0
  have x0 : W1.cell? ⟨xb, 0, none⟩ = some (.int .i64 id) := L.blk_cell hX 0
  have hrx : ¬ rb = xb := by have := h.lt; omega
  have hrx' : ¬ xb = rb := fun e => hrx e.symm
  have HX := Lib.hid hX
  have HA := Lib.hid hA
  have HNN := Lib.hid hnn
  have HXB := Lib.hid hxb
  have C9 := Lib.hid c9
  have C10 := Lib.hid c10
  rw [hW1] at c10
  clear h hA hX hvc hnn hop H1 ha c9 hmm
  go_enter Tryd.func118, Tryd.ntmps118
  go_wp2_with fail
  with_reducible refine (need_yes 4 _).mono ?_
  rintro e w' ⟨rfl, rfl⟩
  unfold itA at hW1
  rw [← hW1, ← hxb]
  clear c10 hW1
  have c10 := C10.out
  have c9 := C9.out
  clear C9 C10 hxb
  go_wp2_with fail
  have HB2 := Lib.hid (HA.out.setCell (p := ⟨xb, 0, none⟩) (Nat.le_of_eq HXB.out.symm) (.int .i64 ((n : Int) + 1)))
  have hX2 := L.blk_set HX.out 0 (.int .i64 ((n : Int) + 1))
  obtain ⟨W2, hW2⟩ : ∃ W2 : World, W2 = W1.setCell ⟨xb, 0, none⟩ (.int .i64 ((n : Int) + 1)) := ⟨_, rfl⟩
  rw [← hW2] at HB2 hX2 ⊢
  have HX2 := Lib.hid hX2
  clear hW2 hX2 c9 c10 z0 x0 HA HX
  with_reducible refine (HTOP.out.call HB2.out).mono ?_
  rintro e w3 ⟨rfl, hb3⟩
  have HB3 := Lib.hid (HB2.out.trans (hb3.mono HB2.out.size))
  have HX3 := Lib.hid ((hb3.block xb (L.blk_lt HX2.out)).trans HX2.out)
  have z1 := L.blk_free HX3.out 1
  have z2 := L.blk_free HX3.out 2
  have x1 : w3.cell? ⟨xb, 1, none⟩ = some (.int .i64 lv) := L.blk_cell HX3.out 1
  have x2 : w3.cell? ⟨xb, 2, none⟩ = some (.int .u64 (ct : Int)) := L.blk_cell HX3.out 2
  clear hb3 HB2 HX2 HTOP
  go_wp2_with fail
  clear x1 x2 z1 z2
  obtain ⟨W, hW⟩ : ∃ W : World, W = (w3.setCell ⟨xb, 1, none⟩ (.int .i64 a.1)).setCell ⟨xb, 2, none⟩ (.int .u64 (a.2 : Int)) := ⟨_, rfl⟩
  rw [← hW]
  have HXW := Lib.hid (show W.heap[xb]? = some (.cells (itA ((n : Int) + 1) a.1 a.2 an tx ba) 53 (0, 0)) by rw [hW]; exact L.blk_set (L.blk_set HX3.out 1 (.int .i64 a.1)) 2 (.int .u64 (a.2 : Int)))
  have HBW := Lib.hid (show Below w.heap.size w W by rw [hW]; exact (HB3.out.setCell (p := ⟨xb, 1, none⟩) (Nat.le_of_eq HXB.out.symm) _).setCell (p := ⟨xb, 2, none⟩) (Nat.le_of_eq HXB.out.symm) _)
  have HR := Lib.hid (H0.out.below HBW.out)
  have HB := Lib.hid (H0.out.kp HBW.out)
  clear hW HX3 HB3
  have hcf : W.cell? ⟨rb, 10, none⟩ = some (.slice vA n vcap) := HR.out.cells.2.1
  have hzf : W.frozen? ⟨rb, 10, none⟩ = false := L.blk_free HR.out.blk 10
  obtain ⟨i1, hi1⟩ : ∃ z : Int, z = (n : Int) + 1 := ⟨_, rfl⟩
  have HI1 := Lib.hid hi1
  rw [← hi1] at HXW
  have hownA : (W.alloc (.cells (itA i1 a.1 a.2 an tx ba) 53)).drew.ownsRow base.lo 53 6 (.slice vA n vcap) n (itCells s.its) := by
    have h0 := HR.out.its
    rw [← HNN.out] at h0
    exact World.ownsRow.alloc h0 _
  have HNW := Lib.hid (World.news_of_block (w := (W.alloc (.cells (itA i1 a.1 a.2 an tx ba) 53)).drew) (heap_alloc_new W _))
  have H1C : Hid (∀ u ∈ ([.int .i64 i1, .int .i64 a.1, .int .u64 (a.2 : Int), .bool an, .string tx, .bool ba] : List Value), u.oneCell' = true) := Lib.hid (by intro u hu; simp at hu; rcases hu with rfl | rfl | rfl | rfl | rfl | rfl <;> rfl)
  have HRT : Hid (some rb ≠ (Value.slice vA n vcap).ownBlock) := Lib.hid fun e => by
    rcases HR.out.irb with h0 | h0
    · rw [h0] at e; cases e
    · exact h0 e.symm
  have hrl : rb < W.heap.size := HR.out.lt
  have hbs : base.lo ≤ W.heap.size := HR.out.size
  have HOA := Lib.hid hownA
  obtain ⟨x0, x1, x2, x3, x4, x5⟩ : W.cell? ⟨xb, 0, none⟩ = some (.int .i64 i1) ∧ W.cell? ⟨xb, 1, none⟩ = some (.int .i64 a.1) ∧ W.cell? ⟨xb, 2, none⟩ = some (.int .u64 (a.2 : Int)) ∧ W.cell? ⟨xb, 3, none⟩ = some (.bool an) ∧ W.cell? ⟨xb, 4, none⟩ = some (.string tx) ∧ W.cell? ⟨xb, 5, none⟩ = some (.bool ba) := ⟨L.blk_cell HXW.out 0, L.blk_cell HXW.out 1, L.blk_cell HXW.out 2, L.blk_cell HXW.out 3, L.blk_cell HXW.out 4, L.blk_cell HXW.out 5⟩
  clear hownA hi1
  go_region_law ((refine step_append_lies _ (by rfl) (.tmp 28) (.tmp 30) 46 (by rfl) base.lo 53 i0 _ 6 56 Tryd.underlying46 hi0 hz0 hz1 hz2 rfl (by decide) (.slice vA n vcap) n (itCells s.its) (by rfl) HOA.out ⟨W.heap.size, 0, none⟩ 1 1 [.int .i64 i1, .int .i64 a.1, .int .u64 (a.2 : Int), .bool an, .string tx, .bool ba] (by rfl) rfl HNW.out H1C.out (by omega) (by unfold maxLen; omega) (by omega) (by simp; omega) _ rfl ?_; intro g3 cap3 w4 hown3 hgrow3 hat3 hlt3; have hc3 := hgrow3.cell_far ⟨rb, 10, none⟩ (by simp; omega) HRT.out; have hz3 := hgrow3.frozen_far ⟨rb, 10, none⟩ (by simp; omega) HRT.out))
  all_goals
    go_wp2_with fail
    go_end0
    exact pushItem (x := ⟨(s.its.length : Int) + 1, a.1, a.2, an, tx.data.toList, ba⟩) HR.out HB.out HNN.out hgrow3 (by rw [← HNN.out, ← HI1.out, str_eta]; exact hown3) (by simpa using hat3)
end Go.Proofs.YtadhhamfikpimaaDoor.I

namespace Go.Proofs.YtadhhamfikpimaaDoor.I
set_option linter.unusedVariables false
set_option linter.unusedSimpArgs false
open Go.RowKit
open T
open O (own_ne grown_of grown_set ne_type)
variable {w w' : World} {base : Zone} {rb : Nat} {q : PV} {s : Ps} {line g cap : Nat} {iv : Value}

theorem add_any (h : Rd w base rb q s line g cap iv) (hop : s.op ≠ []) (id lv : Int) (ct : Nat) (an : Bool) (t : List UInt8) (ba : Bool) :
    Calls Tryd.prog 118 #[.pointer (some ⟨rb, 0, none⟩), itV id lv ct an ⟨t.toArray⟩ ba] w (TakeEnd w base rb q line (add s an t ba)) := by
  unfold add
  by_cases hq : s.its.length < 400
  · rw [if_pos hq]
    have := add_yes h hop id lv ct an ⟨t.toArray⟩ ba hq s.top rfl
    rw [list_data] at this
    exact this
  · rw [if_neg hq]
    exact add_full h id lv ct an ⟨t.toArray⟩ ba hq
def AddC (base : Zone) (rb : Nat) (q : PV) (line : Nat) (w : World) (an : Bool) (x : ByteArray) (ba : Bool) (o : Ps ⊕ Nat) : Prop := Calls Tryd.prog 118 #[.pointer (some ⟨rb, 0, none⟩), itV 0 0 0 an x ba] w (TakeEnd w base rb q line o)
theorem AddC.call {an : Bool} {x : ByteArray} {ba : Bool} {o : Ps ⊕ Nat} (h : AddC base rb q line w an x ba o) : Calls Tryd.prog 118 #[.pointer (some ⟨rb, 0, none⟩), .agg #[.int .i64 0, .int .i64 0, .int .u64 0, .bool an, .string x, .bool ba]] w (TakeEnd w base rb q line o) := h

def conTo (k : Nat) : Ps ⊕ Nat → Ps ⊕ Nat
  | .inl u => .inl ⟨u.op, u.its, k⟩
  | .inr e => .inr e
theorem content_is (s : Ps) (k : Nat) (t : List UInt8) (b : Bool) : content s k t b = if t.length ≤ 200 then conTo k (add s false t b) else .inr 4 := by
  unfold content
  cases add s false t b <;> rfl
set_option maxRecDepth 100000 in
set_option maxHeartbeats 2000000 in
theorem content_long (h : Rd w base rb q s line g cap iv) (x : ByteArray) (b : Bool) (hx : ¬ x.size ≤ 200) (hm : x.size ≤ maxLen) :
    Calls Tryd.prog 103 #[.pointer (some ⟨rb, 0, none⟩), .agg #[.string x, .bool b]] w (Fell w base rb line 4) := by
  have hA := alloc1 w (.cells #[.string x, .bool b] 51)
  have hR := h.below hA
  have HF := Lib.hid (hR.fell (w := w) (h.kp hA) 4)
  have hd : decide ((x.size : Int) ≤ 200) = false := decide_eq_false (by omega)
  unfold maxLen at hm
  clear h hR hA
  go_enter Tryd.func103, Tryd.ntmps103
  go_wp2_with fail
  with_reducible refine (need_no4 _).mono ?_
  rintro e w' ⟨rfl, rfl⟩
  go_wp2_with fail
  exact ⟨rfl, HF.out⟩

set_option maxRecDepth 100000 in
set_option maxHeartbeats 2000000 in
theorem content_short (h : Rd w base rb q s line g cap iv) (x : ByteArray) (b : Bool) (hx : x.size ≤ 200) (o : Ps ⊕ Nat) (HA : Hid (∀ W : World, Below w.heap.size w W → AddC base rb q line W false x b o)) :
    Calls Tryd.prog 103 #[.pointer (some ⟨rb, 0, none⟩), .agg #[.string x, .bool b]] w (TakeEnd w base rb q line (conTo line o)) := by
  have hA := alloc1 w (.cells #[.string x, .bool b] 51)
  have HC := Lib.hid (HA.out _ hA)
  have HB := Lib.hid (h.kp hA)
  have H := Lib.hid h
  have hd : decide ((x.size : Int) ≤ 200) = true := decide_eq_true (by omega)
  clear h hA HA
  go_enter Tryd.func103, Tryd.ntmps103
  go_wp2_with fail
  with_reducible refine (need_yes 4 _).mono ?_
  rintro e w' ⟨rfl, rfl⟩
  go_wp2_with fail
  with_reducible refine (HC.out.call).mono ?_
  rintro e w2 he
  rcases o with u | k
  · obtain ⟨rfl, ⟨g2, cap2, iv2, hR⟩, hb2⟩ := he
    have c11 : w2.cell? ⟨rb, 11, none⟩ = some (.int .i64 (line : Int)) := hR.cells.2.2.1
    have c12 : w2.cell? ⟨rb, 12, none⟩ = some (.int .i64 (u.con : Int)) := hR.cells.2.2.2
    have z12 := L.blk_free hR.blk 12
    have HS := Lib.hid (hR.stored 12 (.int .i64 (line : Int)) (line' := line) (con' := line) rfl)
    have HB2 := Lib.hid ((HB.out.trans hb2).setCell (p := ⟨rb, 12, none⟩) H.out.hb (.int .i64 (line : Int)))
    clear hR hb2 HC HB H
    go_wp2_with fail
    go_end0
    exact ⟨rfl, ⟨g2, cap2, iv2, HS.out⟩, HB2.out⟩
  · obtain ⟨rfl, h1, h2⟩ := he
    have HF := Lib.hid (show Fell w base rb line k _ w2 from ⟨rfl, h1, HB.out.trans h2⟩)
    clear h1 h2 HC HB H
    go_wp2_with fail
    exact ⟨rfl, HF.out⟩
theorem content_any (h : Rd w base rb q s line g cap iv) (hop : s.op ≠ []) (t : List UInt8) (b : Bool) (hm : t.length ≤ maxLen) :
    Calls Tryd.prog 103 #[.pointer (some ⟨rb, 0, none⟩), .agg #[.string ⟨t.toArray⟩, .bool b]] w (TakeEnd w base rb q line (content s line t b)) := by
  rw [content_is]
  by_cases hx : t.length ≤ 200
  · rw [if_pos hx]
    exact content_short h ⟨t.toArray⟩ b (by rw [list_size]; exact hx) (add s false t b) (Lib.hid fun W hb => add_any (h.below hb) hop 0 0 0 false t b)
  · rw [if_neg hx]
    exact content_long h ⟨t.toArray⟩ b (by rw [list_size]; exact hx) (by rw [list_size]; exact hm)
end Go.Proofs.YtadhhamfikpimaaDoor.I
