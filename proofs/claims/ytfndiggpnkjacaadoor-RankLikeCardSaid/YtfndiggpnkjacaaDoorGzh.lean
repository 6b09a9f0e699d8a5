/-
  The contract of myers' reach: a row for each number of changes, from none to the distance.
  The contracts of myers' Distance and walk: what is told, step by step, to whoever keeps it.
  No contract is wanted here.
  How often each number is there: plain; a copy and the order of a row of numbers in memory.
  The contracts of myers' Steps and Pairs, and of what they hand to the walk.
-/
import Derived.Test.YtfndiggpnkjacaaDoorGzg
import Derived.Deep.AppendLies
import Derived.Outline
import Derived.Test.YtfndiggpnkjacaaDoorProg
import Derived.Test.YtfndiggpnkjacaaDoorGzb
import Derived.Sort.OwnSortedInts
import Derived.Test.YtfndiggpnkjacaaDoorGzd
import Derived.Shelf.Abstract
import Derived.OneCell
namespace Go.Proofs.YtfndiggpnkjacaaDoor.M
set_option linter.unusedVariables false
set_option linter.unusedSimpArgs false
open Go.RowKit
open T
open V (IntsIn numCells numCells_snoc ints_own drawn_below)
open I (alloc1 own_at own_below)

/-- A row, as far as it is worked out. -/
def Mid (a b xs ys : List Int) (m : Nat) (k : Int) : Prop := ys.length = xs.length ∧ ∀ j : Nat, j < xs.length → ys.getD j 0 = if on a b (m + 1) j ∧ (j + m + 1 + a.length + 1) % 2 = 0 ∧ (j : Int) < k then bk a b xs j else xs.getD j 0
theorem Mid.start (a b xs : List Int) {m : Nat} {k : Int} (hk : k = a.length + 1 - (m + 1)) : Mid a b xs xs m k :=
  ⟨rfl, fun j hj => by rw [if_neg]; rintro ⟨⟨h1, h2, h3, h4⟩, h5, h6⟩; omega⟩
theorem Mid.skip {a b xs ys : List Int} {m : Nat} {k : Int} (h : Mid a b xs ys m k) (hl : xs.length = a.length + b.length + 3) {t : Nat} (ht : k = a.length + 1 - (m + 1) + 2 * t) (hs : k ≤ 0 ∨ (xs.length : Int) - 1 ≤ k) : Mid a b xs ys m (k + 2) := by
  refine ⟨h.1, fun j hj => ?_⟩
  rw [h.2 j hj]
  by_cases c : on a b (m + 1) j ∧ (j + m + 1 + a.length + 1) % 2 = 0 ∧ (j : Int) < k
  · rw [if_pos c, if_pos ⟨c.1, c.2.1, by omega⟩]
  · rw [if_neg c, if_neg]
    rintro ⟨h1, h2, h3⟩
    exact c ⟨h1, h2, by obtain ⟨o1, o2, o3, o4⟩ := h1; omega⟩
theorem Mid.put {a b xs ys : List Int} {m kn : Nat} {k : Int} (h : Mid a b xs ys m k) (hl : xs.length = a.length + b.length + 3) {t : Nat} (ht : k = a.length + 1 - (m + 1) + 2 * t) (hk : (kn : Int) = k) (h1 : 1 ≤ kn) (h2 : kn + 1 < xs.length) (h3 : k ≤ a.length + 1 + (m + 1)) : Mid a b xs (ys.set kn (bk a b xs kn)) m (k + 2) := by
  refine ⟨by rw [List.length_set]; exact h.1, fun j hj => ?_⟩
  rw [getD_set (by rw [h.1]; omega)]
  by_cases e : j = kn
  · subst e
    rw [if_pos rfl, if_pos]
    exact ⟨⟨h1, by omega, by omega, by omega⟩, by omega, by omega⟩
  · rw [if_neg e, h.2 j hj]
    by_cases c : on a b (m + 1) j ∧ (j + m + 1 + a.length + 1) % 2 = 0 ∧ (j : Int) < k
    · rw [if_pos c, if_pos ⟨c.1, c.2.1, by omega⟩]
    · rw [if_neg c, if_neg]
      rintro ⟨q1, q2, q3⟩
      exact c ⟨q1, q2, by omega⟩
theorem Mid.near {a b xs ys : List Int} {m kn : Nat} {k : Int} (h : Mid a b xs ys m k) {t : Nat} (ht : k = a.length + 1 - (m + 1) + 2 * t) (hk : (kn : Int) = k) (h1 : 1 ≤ kn) (h2 : kn + 1 < xs.length) : ys.getD (kn + 1) 0 = xs.getD (kn + 1) 0 ∧ ys.getD (kn - 1) 0 = xs.getD (kn - 1) 0 := by
  constructor
  · rw [h.2 _ h2, if_neg]; rintro ⟨_, q, _⟩; omega
  · rw [h.2 _ (by omega), if_neg]; rintro ⟨_, q, _⟩; omega
theorem Mid.bk {a b xs ys : List Int} {m kn : Nat} {k : Int} (h : Mid a b xs ys m k) {t : Nat} (ht : k = a.length + 1 - (m + 1) + 2 * t) (hk : (kn : Int) = k) (h1 : 1 ≤ kn) (h2 : kn + 1 < xs.length) : bi ys kn = bi xs kn ∧ M.bk a b ys kn = M.bk a b xs kn := by
  obtain ⟨e1, e2⟩ := h.near ht hk h1 h2
  have : bi ys kn = bi xs kn := by unfold bi; rw [e1, e2]
  exact ⟨this, by unfold M.bk; rw [this]⟩
theorem Mid.done {a b xs ys : List Int} {m : Nat} {k : Int} (h : Mid a b xs ys m k) (hk : a.length + 1 + (m + 1) < k) (hr : Ro a b m xs) : Ro a b (m + 1) ys :=
  hr.next h.1 fun j hj => by
    rw [h.2 j hj]
    by_cases c : on a b (m + 1) j ∧ (j + m + 1 + a.length + 1) % 2 = 0
    · rw [if_pos c, if_pos ⟨c.1, c.2, by obtain ⟨o1, o2, o3, o4⟩ := c.1; omega⟩]
    · rw [if_neg c, if_neg]
      exact fun q => c ⟨q.1, q.2.1⟩

/-- A slice that is a whole block. -/
def rowV (L g : Nat) : Value := .slice (some ⟨g, 0, none⟩) L L
/-- The rows so far. -/
def Held (w : World) (a b : List Int) (base : Nat) (gs : List Nat) : Prop := ∀ j (h : j < gs.length), base ≤ gs[j] ∧ ∃ xs, Row w gs[j] xs ∧ Ro a b j xs
theorem Held.kept {w w' : World} {a b : List Int} {base : Nat} {gs : List Nat} (h : Held w a b base gs) (hb : Below w.heap.size w w') : Held w' a b base gs := fun j hj => by
  obtain ⟨h1, xs, h2, h3⟩ := h j hj
  exact ⟨h1, xs, h2.kept hb, h3⟩
theorem Held.grown {w w' : World} {a b : List Int} {base : Nat} {gs : List Nat} (h : Held w a b base gs) {base' n size : Nat} {v : Value} {zs : List Value} (hown : w.ownsRow base' 46 size v n zs) (hg : w.grownBy w' v.ownBlock) : Held w' a b base gs := fun j hj => by
  obtain ⟨h1, xs, h2, h3⟩ := h j hj
  refine ⟨h1, xs, ?_, h3⟩
  refine (hg.block _ h2.lt fun e => ?_).trans h2
  rcases hown.2 with ⟨rfl, _⟩ | ⟨g, cap, cur, rfl, _, hh, _⟩
  · simp [Value.ownBlock] at e
  · simp only [Value.ownBlock, Option.some.injEq] at e
    rw [← e, show w.heap[gs[j]]? = _ from h2] at hh
    injection hh with hh
    injection hh with _ hh
    exact absurd hh (by decide)
theorem Row.grown {w w' : World} {g : Nat} {xs : List Int} (h : Row w g xs) {base' n size : Nat} {v : Value} {zs : List Value} (hown : w.ownsRow base' 46 size v n zs) (hg : w.grownBy w' v.ownBlock) : Row w' g xs := by
  refine (hg.block _ h.lt fun e => ?_).trans h
  rcases hown.2 with ⟨rfl, _⟩ | ⟨g', cap, cur, rfl, _, hh, _⟩
  · simp [Value.ownBlock] at e
  · simp only [Value.ownBlock, Option.some.injEq] at e
    rw [← e, show w.heap[g]? = _ from h] at hh
    injection hh with hh
    injection hh with _ hh
    exact absurd hh (by decide)
theorem Held.snoc {w : World} {a b : List Int} {base : Nat} {gs : List Nat} (h : Held w a b base gs) {g : Nat} {xs : List Int} (h1 : base ≤ g) (h2 : Row w g xs) (h3 : Ro a b gs.length xs) : Held w a b base (gs ++ [g]) := fun j hj => by
  by_cases e : j < gs.length
  · rw [List.getElem_append_left e]; exact h j e
  · obtain rfl : j = gs.length := by simp at hj; omega
    rw [List.getElem_append_right (Nat.le_refl _)]
    simp only [Nat.sub_self, List.getElem_cons_zero]
    exact ⟨h1, xs, h2, h3⟩
/-- The rows, as they are told. -/
def RowsAt (w : World) (a b : List Int) (G N : Nat) : Prop := (∃ cs, w.heap[G]? = some (.cells cs 46 (0, 0))) ∧ ∀ m, m < N → ∃ g xs, w.cell? ⟨G, m, none⟩ = some (rowV (a.length + b.length + 3) g) ∧ Row w g xs ∧ Ro a b m xs
theorem RowsAt.of {w : World} {a b : List Int} {base base' N cap : Nat} {A : Option Addr} {gs : List Nat} (h : Held w a b base gs) (hown : w.ownsRow base' 46 1 (.slice A gs.length cap) gs.length (gs.map (rowV (a.length + b.length + 3)))) (hN : N = gs.length) (hp : 0 < N) :
    ∃ G, A = some ⟨G, 0, none⟩ ∧ base' ≤ G ∧ RowsAt w a b G N := by
  subst hN
  rcases hown.2 with ⟨_, e⟩ | ⟨g, cap', cur, e, hb, hh, hc, hm, hs, ht⟩
  · omega
  · injection e with e1 e2 e3
    refine ⟨g, e1, hb, ⟨cur, hh⟩, fun m hm => ?_⟩
    obtain ⟨-, xs, h2, h3⟩ := h m hm
    refine ⟨gs[m], xs, ?_, h2, h3⟩
    rw [cell_of_row w g m cur _ _ hh]
    have : (cur.toList.take (gs.length * 1))[m]? = (gs.map (rowV (a.length + b.length + 3)))[m]? := by rw [ht]
    rw [Nat.mul_one, List.getElem?_take, if_pos hm, List.getElem?_map, List.getElem?_eq_getElem hm] at this
    simpa using this
theorem RowsAt.kept {w w' : World} {a b : List Int} {G N : Nat} (h : RowsAt w a b G N) (hb : Below w.heap.size w w') : RowsAt w' a b G N := by
  obtain ⟨⟨cs, hc⟩, h⟩ := h
  have hlt := (Array.getElem?_eq_some_iff.1 hc).1
  refine ⟨⟨cs, (hb.block G hlt).trans hc⟩, fun m hm => ?_⟩
  obtain ⟨g, xs, h1, h2, h3⟩ := h m hm
  exact ⟨g, xs, (hb.cell (p := ⟨G, m, none⟩) hlt).trans h1, h2.kept hb, h3⟩
def ReEnd (W : World) (a b : List Int) (e : Ending) (w' : World) : Prop := ∃ G cap, e = .returned (.slice (some ⟨G, 0, none⟩) (D a b 0 0 + 1) cap) ∧ W.heap.size ≤ G ∧ RowsAt w' a b G (D a b 0 0 + 1) ∧ Below W.heap.size W w'
theorem infoRowI : (Tryd.prog.info? 46).map (fun i => (i.zero, i.size, i.bytes)) = some (some (.slice none 0 0), 1, 24) := by kernel_rfl
theorem rowV_map (L : Nat) (gs : List Nat) (g : Nat) : (gs ++ [g]).map (rowV L) = gs.map (rowV L) ++ [.slice (some ⟨g, 0, none⟩) L L] := by simp [rowV]
theorem splice_all (xs ys : List Value) (h : ys.length = xs.length) : splice xs 0 ys = ys := by simp [splice, h]

theorem alloc_at {w : World} {n : Nat} (o : Obj) (h : w.heap.size = n) : (w.alloc o).heap[n]? = some o := by subst h; exact heap_alloc_new w o
/-- A copy of a row, into a new one. -/
theorem copied (w : World) {g L : Nat} {xs : List Int} (h : Row w g xs) (hl : xs.length = L) :
    ∃ W, (Builtin.copy_ #[46, 46] 3 #[.slice (some ⟨w.heap.size, 0, none⟩) L L, .slice (some ⟨g, 0, none⟩) L L]).run Tryd.prog (w.alloc (.cells (madeCells #[.int .i64 0] L) 3)) = .ok (.int .i64 (L : Int)) W ∧ Row W w.heap.size xs ∧ Below w.heap.size w W := by
  have hg : (w.alloc (.cells (madeCells #[.int .i64 0] L) 3)).heap[w.heap.size]? = some (.cells (numCells (List.replicate L 0)).toArray 3 (0, 0)) := by rw [made_row]; exact heap_alloc_new w _
  have hcl : (numCells xs).length = L := by simp [numCells, hl]
  have hrun := run_copy_row (P := Tryd.prog) (w.alloc (.cells (madeCells #[.int .i64 0] L) 3)) 46 46 3 3 w.heap.size 0 L L ⟨g, 0, none⟩ L L _ 3 (numCells xs) Tryd.underlying46 (by kernel_rfl) hg (by rw [hcl]; exact (Nat.min_self L).symm)
    (fun j v hj => by
      have hjl : j < xs.length := by
        have := (List.getElem?_eq_some_iff.1 hj).1
        simpa [numCells] using this
      have e : v = .int .i64 xs[j] := by
        simp [numCells, List.getElem?_eq_getElem hjl] at hj
        exact hj.symm
      subst e
      rw [show (⟨g, 0, none⟩ : Addr).add j = ⟨g, j, none⟩ by cases j <;> simp [Addr.add]]
      exact (h.kept (alloc1 _ _)).cell hjl)
    (by simp [numCells, hl]) (fun v hv => by
      simp only [numCells, List.mem_map] at hv
      obtain ⟨z, _, rfl⟩ := hv
      rfl)
  rw [hcl] at hrun
  refine ⟨_, hrun, ?_, below_setRow (alloc1 _ _) (Nat.le_refl _) _⟩
  refine (setRow_heap _ _ _ _ _ _ hg).trans ?_
  simp [numCells]

set_option maxRecDepth 100000 in
set_option maxHeartbeats 4000000 in
theorem reach_any (A B : Option Addr) (a b : List Int) (c c' : Nat) (w : World) (hA : IntsIn w A a) (hB : IntsIn w B b) (ha : a.length ≤ 400) (hb : b.length ≤ 400) :
    Calls Tryd.prog 61 #[.slice A a.length c, .slice B b.length c'] w (ReEnd w a b) := by
  obtain ⟨i0, hi0, hz0, hz1, hz2⟩ := info_parts infoRowI
  have HA := Lib.hid hA
  have HB := Lib.hid hB
  clear hA hB
  obtain ⟨la, hla⟩ : ∃ n, n = a.length := ⟨_, rfl⟩
  obtain ⟨lb, hlb⟩ : ∃ n, n = b.length := ⟨_, rfl⟩
  rw [← hla] at ha ⊢
  rw [← hlb] at hb ⊢
  obtain ⟨L, hL⟩ : ∃ n : Nat, n = la + lb + 3 := ⟨_, rfl⟩
  have hL1 : L ≤ 803 := by omega
  have hL2 : la + lb + 3 ≤ L := by omega
  have HL := Lib.hid (And.intro hla (And.intro hlb hL))
  clear hla hlb hL
  go_enter Tryd.func61, Tryd.ntmps61
  go_wp2_with fail
  with_reducible refine (spot_any B lb c' (la : Int) (lb : Int) ((la + 1 : Nat) : Int) w (by omega) (by omega) (by omega) (by omega) (by omega) (by omega)).mono ?_
  rintro e w' ⟨rfl, rfl⟩
  go_wp2_with fail
  with_reducible refine (unreached_any A B la lb c c' w ha hb).mono ?_
  rintro e w1 ⟨rfl, xs0, hxl0, hall0, hrow0, hb1⟩
  have hrow0' := hrow0
  obtain ⟨g0, hg0⟩ : ∃ g, g = w.heap.size := ⟨_, rfl⟩
  rw [← hg0] at hrow0 hrow0' ⊢
  rw [← HL.out.2.2] at hxl0 ⊢
  have HXL0 := Lib.hid hxl0
  have HALL0 := Lib.hid hall0
  have HB1 := Lib.hid hb1
  have HG0 := Lib.hid hg0
  clear hxl0 hall0 hb1 hg0
  have c0 := hrow0.cellD (j := la + 1) (by rw [HXL0.out]; omega)
  have f0 := hrow0.free (la + 1)
  have HR0 := Lib.hid hrow0
  clear hrow0 hrow0'
  have k0 : (0 : Int) ≤ ((la + 1 : Nat) : Int) := by omega
  have k1 : ((la + 1 : Nat) : Int) < (L : Int) := by omega
  go_wp2_with fail
  with_reducible refine (slide_at A B a b la lb c c' (la : Int) (lb : Int) _ HL.out.1 HL.out.2.1 (HA.out.below HB1.out) (HB.out.below HB1.out) (by omega) (by omega) (by omega) (by omega)).mono ?_
  rintro e w2 ⟨rfl, q2, rfl⟩
  go_wp2_with fail
  have HD0 := Lib.hid (D_low a b (i := 0) (j := 0) (Nat.zero_le _) (Nat.zero_le _))
  obtain ⟨d0, hd0⟩ : ∃ d, d = D a b 0 0 := ⟨_, rfl⟩
  have HDD := Lib.hid hd0
  have hd8 : d0 ≤ 800 := by have := HD0.out; have := HL.out; omega
  have HRO0 : Hid (Ro a b 0 (xs0.set (la + 1) (sl a b la lb))) := Lib.hid (Ro.zero (by rw [List.length_set, HXL0.out]; have := HL.out; omega) (by rw [← HL.out.1, getD_set (by rw [HXL0.out]; omega), if_pos rfl, HL.out.2.1]) (fun k hk hne => by
    rw [List.length_set] at hk
    rw [getD_set (by rw [HXL0.out]; omega), if_neg (by rw [HL.out.1]; exact hne), HALL0.out k hk, HL.out.1, HL.out.2.1]))
  have hs1 := HB1.out.size
  have hgw : g0 < w1.heap.size := HR0.out.lt
  obtain ⟨W2, hW2⟩ : ∃ W : World, W = ((w1.drewN q2).setCell { block := g0, off := la + 1 } (Value.int IntKind.i64 (sl a b ↑la ↑lb))).alloc (Obj.cells #[Value.slice (some { block := g0, off := 0 }) L L] 46) := ⟨_, rfl⟩
  rw [← hW2]
  have HRW : Hid (Row W2 g0 (xs0.set (la + 1) (sl a b la lb))) := Lib.hid (by
    rw [hW2]
    exact ((show Row (w1.drewN q2) g0 xs0 from HR0.out).set (la + 1) _).kept (alloc1 _ _))
  have HBW : Hid (Below w.heap.size w W2) := Lib.hid (by
    rw [hW2]
    exact (set_grown (w1.drewN q2) g0 (la + 1) _ (HB1.out.trans ((drawn_below w1 q2).mono hs1)) (by rw [← HG0.out]; exact Nat.le_refl _)).alloc (by simp; omega) _)
  have HOWN : Hid (W2.ownsRow w.heap.size 46 1 (.slice (some ⟨w1.heap.size, 0, none⟩) 1 1) 1 ([g0].map (rowV L))) := Lib.hid (by
    rw [hW2]
    have h := World.ownsRow_lit (base := w.heap.size) (e := 46) (size := 1) ((w1.drewN q2).setCell { block := g0, off := la + 1 } (Value.int IntKind.i64 (sl a b ↑la ↑lb))) #[Value.slice (some { block := g0, off := 0 }) L L] 1 (by simp; omega) (by decide) (by simp)
    simpa [rowV] using h)
  have HHE : Hid (Held W2 a b w.heap.size [g0]) := Lib.hid (fun j hj => by
    obtain rfl : j = 0 := by simp at hj; omega
    exact ⟨by rw [HG0.out]; exact Nat.le_refl _, _, HRW.out, HRO0.out⟩)
  clear hW2 c0 f0 k0 k1 hd0
  go_loopg [6, 7, 8] (d0 + 1) (fun mm r v i wr => ∃ (m g : Nat) (gs : List Nat), i = .int .i64 ((m + 1 : Nat) : Int) ∧ m ≤ d0 ∧ d0 + 1 - m ≤ mm ∧ r = .slice (some ⟨g, 0, none⟩) L L ∧ Hid (gs.length = m + 1) ∧ wr.ownsRow w.heap.size 46 1 v gs.length (gs.map (rowV L)) ∧ Held wr a b w.heap.size gs ∧ (∃ xs, Row wr g xs ∧ Ro a b m xs) ∧ Below w.heap.size w wr)
  case atStart => exact ⟨0, g0, [g0], rfl, Nat.zero_le _, by omega, rfl, Lib.hid rfl, HOWN.out, HHE.out, ⟨_, HRW.out, HRO0.out⟩, HBW.out⟩
  case round =>
    obtain ⟨m, g, gs, rfl, hm, hmm, rfl, HGL, hown, hheld, ⟨xs, hrow, hro⟩, hbl⟩ := hrel
    clear HRW HBW HOWN HHE HRO0 HR0
    have HXL : Hid (xs.length = L) := Lib.hid (by rw [hro.len]; have := HL.out; omega)
    have c0 := hrow.cellD (j := lb + 1) (by rw [HXL.out]; omega)
    have HIS := Lib.hid (hro.is 0 0 (lb + 1) (Nat.zero_le _) (Nat.zero_le _) (by have := HL.out; omega))
    obtain ⟨x, hx⟩ : ∃ x, x = xs.getD (lb + 1) 0 := ⟨_, rfl⟩
    rw [← hx] at c0 HIS
    clear hx
    have k0 : (0 : Int) ≤ ((lb + 1 : Nat) : Int) := by omega
    have k1 : ((lb + 1 : Nat) : Int) < (L : Int) := by omega
    obtain ⟨wo, rfl⟩ : ∃ wo : World, wo = wr := ⟨_, rfl⟩
    have HOW := Lib.hid hown
    have HHELD := Lib.hid hheld
    have HBL := Lib.hid hbl
    have HROW := Lib.hid hrow
    have HRO := Lib.hid hro
    clear hown hheld hbl hrow hro
    by_cases hD : d0 ≤ m
    · have hx0 : x ≤ 0 := by have h := HIS.out.1 (by rw [← HDD.out]; exact hD); exact_mod_cast h
      obtain ⟨VA, vcap, rfl, -, -⟩ := own_form HOW.out
      go_wp2_with fail
      with_reducible refine (spot_any B lb c' 0 0 ((lb + 1 : Nat) : Int) _ (by omega) (by omega) (by omega) (by omega) (by omega) (by omega)).mono ?_
      rintro e w' ⟨rfl, rfl⟩
      go_wp2_with fail
      go_ret
      obtain ⟨G, rfl, hG, hRA⟩ := RowsAt.of (N := D a b 0 0 + 1) HHELD.out (by rw [← HL.out.1, ← HL.out.2.1, ← HL.out.2.2]; exact HOW.out) (by have := HDD.out; have := HGL.out; omega) (by omega)
      exact ⟨G, vcap, ret_of (by rw [show gs.length = D a b 0 0 + 1 by have := HDD.out; have := HGL.out; omega]; rfl), hG, hRA, HBL.out⟩
    · have hx0 : 0 < x := by
        have h : ¬ x ≤ ((0 : Nat) : Int) := fun q => hD (by rw [HDD.out]; exact HIS.out.2 q)
        omega
      have hmk := run_make_row' (P := Tryd.prog) 46 3 (.int .i64 0) 8 Tryd.underlying46 infoI rfl .i64 .i64 L (by omega) (by omega)
      obtain ⟨W3, hcp, HR3', HB3'⟩ := copied wo HROW.out HXL.out
      go_wp2_with fail
      with_reducible refine (spot_any B lb c' 0 0 ((lb + 1 : Nat) : Int) _ (by omega) (by omega) (by omega) (by omega) (by omega) (by omega)).mono ?_
      rintro e w' ⟨rfl, rfl⟩
      have HR3 := Lib.hid HR3'
      have HB3 := Lib.hid HB3'
      clear HR3' HB3'
      go_wp2_with fail
      clear hmk hcp
      have hzo : wo.heap.size = wo.heap.size := rfl
      go_loopg [10] (la + 1 + (m + 1) + 3 + 900) (fun nn kk wr => ∃ (t : Nat) (k : Int) (ys : List Int), kk = .int .i64 k ∧ Hid (k = (a.length : Int) + 1 - (m + 1) + 2 * t) ∧ -900 ≤ k ∧ k ≤ la + 1 + (m + 1) + 2 ∧ (la + 1 + (m + 1) + 3 - k).toNat ≤ nn ∧ Hid (Mid a b xs ys m k) ∧ Hid (Row wr wo.heap.size ys) ∧ Hid (Below wo.heap.size wo wr))
      case atStart => exact ⟨0, _, xs, rfl, Lib.hid (by have := HL.out; omega), by omega, by omega, by omega, Lib.hid (Mid.start a b xs (by have := HL.out; omega)), HR3, HB3⟩
      case round =>
        obtain ⟨t, k, ys, rfl, HK, hk1, hk2, hnn, HM, HRW, HBW⟩ := hrel
        by_cases hle : k ≤ (la : Int) + 1 + ((m : Int) + 1)
        · have HXN : Hid (xs.length = a.length + b.length + 3) := Lib.hid HRO.out.len
          by_cases hp : 0 < k
          · by_cases hq : k < (L : Int) - 1
            · obtain ⟨kn, rfl⟩ : ∃ n : Nat, k = (n : Int) := ⟨k.toNat, by omega⟩
              have hkn1 : 1 ≤ kn := by omega
              have hkn2 : kn + 1 < L := by omega
              have hkx : kn + 1 < xs.length := by rw [HXL.out]; exact hkn2
              have HYL : Hid (ys.length = L) := Lib.hid (HM.out.1.trans HXL.out)
              have HNE := Lib.hid (HM.out.near HK.out rfl hkn1 hkx)
              have HBK := Lib.hid (HM.out.bk HK.out rfl hkn1 hkx)
              have HBD := Lib.hid (HRO.out.bd kn ⟨by omega, by have := HXN.out; omega, by have := HL.out; omega, by have := HK.out; omega⟩ (by have := HK.out; omega))
              have HV1 := Lib.hid (HRO.out.val (k := kn + 1) hkx)
              have HV2 := Lib.hid (HRO.out.val (k := kn - 1) (by omega))
              have HCB : Hid (Calls Tryd.prog 69 #[.slice A la c, .slice B lb c', .slice (some ⟨wo.heap.size, 0, none⟩) L L, .int .i64 (kn : Int)] wr fun e w' => e = .returned (.int .i64 (bk a b xs kn)) ∧ ∃ q, w' = wr.drewN q) := Lib.hid
                (back_at A B a b ys wo.heap.size la lb L c c' L kn _ wr HL.out.1 HL.out.2.1 HYL.out.symm HBK.out.2 (HA.out.below (HBL.out.trans (HBW.out.mono HBL.out.size))) (HB.out.below (HBL.out.trans (HBW.out.mono HBL.out.size))) HRW.out (by omega) (by omega) hkn1 hkn2 (by omega)
                  (by rw [HNE.out.1]; have := HV1.out; have := HL.out; omega) (by rw [HNE.out.2]; have := HV2.out; have := HL.out; omega) (by rw [HBK.out.1]; have := HBD.out; have := HL.out; omega) (by rw [HBK.out.1]; have := HBD.out; omega))
              have c1 := HRW.out.cellD (j := kn) (by rw [HYL.out]; omega)
              have f1 := HRW.out.free kn
              have k0 : (0 : Int) ≤ (kn : Int) := by omega
              have k1 : (kn : Int) < (L : Int) := by omega
              obtain ⟨z, hz⟩ : ∃ z, z = bk a b xs kn := ⟨_, rfl⟩
              rw [← hz] at HCB
              have HZ := Lib.hid hz
              clear hz
              go_wp2_with fail
              with_reducible refine (HCB.out).mono ?_
              rintro e w' ⟨rfl, q, rfl⟩
              go_wp2_with fail
              have hkz : wr.heap.size = wr.heap.size := rfl
              go_roundg (la + 1 + (m + 1) + 3 - ((kn : Int) + 2)).toNat
              case measure => omega
              case rel =>
                refine ⟨t + 1, (kn : Int) + 2, ys.set kn z, rfl, Lib.hid (by have := HK.out; omega), by omega, by omega, Nat.le_refl _, Lib.hid (by rw [HZ.out]; exact HM.out.put HXN.out HK.out rfl hkn1 hkx (by have := HL.out; omega)), Lib.hid ?_, Lib.hid ?_⟩
                · exact (show Row (wr.drewN q) wo.heap.size ys from HRW.out).set kn z
                · exact set_grown _ _ _ _ (HBW.out.trans ((drawn_below wr q).mono HBW.out.size)) (Nat.le_refl _)
            · have hq1 : (L : Int) - 1 ≤ k := by omega
              go_wp2_with fail
              go_roundg (la + 1 + (m + 1) + 3 - (k + 2)).toNat
              case measure => omega
              case rel => exact ⟨t + 1, k + 2, ys, rfl, Lib.hid (by have := HK.out; omega), by omega, by omega, Nat.le_refl _, Lib.hid (HM.out.skip HXN.out HK.out (.inr (by rw [HXL.out]; exact hq1))), HRW, HBW⟩
          · have hp1 : k ≤ 0 := by omega
            go_wp2_with fail
            go_roundg (la + 1 + (m + 1) + 3 - (k + 2)).toNat
            case measure => omega
            case rel => exact ⟨t + 1, k + 2, ys, rfl, Lib.hid (by have := HK.out; omega), by omega, by omega, Nat.le_refl _, Lib.hid (HM.out.skip HXN.out HK.out (.inl hp1)), HRW, HBW⟩
        · have hgt : (la : Int) + 1 + ((m : Int) + 1) < k := by omega
          have HRN : Hid (Ro a b (m + 1) ys) := Lib.hid (HM.out.done (by have := HL.out; omega) HRO.out)
          have HOW3 := Lib.hid (own_below HOW.out HBW.out)
          have HHE3 : Hid (Held wr a b w.heap.size gs) := Lib.hid (HHELD.out.kept HBW.out)
          have hs3 := HBW.out.size
          have hso := HBL.out.size
          have hgl : gs.length ≤ 803 := by have := HGL.out; omega
          obtain ⟨h, hh⟩ : ∃ h, h = wo.heap.size := ⟨_, rfl⟩
          have HHH := Lib.hid hh
          rw [← hh] at HRW ⊢
          clear hh
          go_wp2_with (at_builtin; refine wpList_append_own _ rfl _ _ 48 rfl w.heap.size 46 i0 _ 1 24 Tryd.underlying48 hi0 hz0 hz1 hz2 rfl (by decide) _ gs.length (gs.map (rowV L)) rfl (HOW3.out.alloc _) ⟨_, 0, none⟩ 1 1 [.slice (some ⟨h, 0, none⟩) L L] rfl rfl (World.news_of_block (alloc_at _ rfl)) (by intro u hu; simp at hu; rcases hu with rfl; rfl) (by simp only [maxLen]; omega) (by omega) (by simp; omega) ?_; intro v' w4 hown4 hg4 _)
          have hwa := World.grownBy_alloc wr (.cells #[.slice (some ⟨h, 0, none⟩) L L] 46) none
          have HHE4 : Hid (Held w4 a b w.heap.size gs) := Lib.hid ((HHE3.out.kept (alloc1 _ _)).grown (HOW3.out.alloc (.cells #[.slice (some ⟨h, 0, none⟩) L L] 46)) hg4)
          have HRW4 : Hid (Row w4 h ys) := Lib.hid (by
            have h1 : Row (wr.alloc (.cells #[.slice (some ⟨h, 0, none⟩) L L] 46)) h ys := HRW.out.kept (alloc1 _ _)
            exact h1.grown (HOW3.out.alloc (.cells #[.slice (some ⟨h, 0, none⟩) L L] 46)) hg4)
          have HBL4 : Hid (Below w.heap.size w w4) := Lib.hid (((HBL.out.trans (HBW.out.mono hso)).alloc (by omega) _).grown hg4 (by simp; omega) (fun j ej => own_base HOW3.out j ej))
          rw [← rowV_map] at hown4
          rw [show gs.length + 1 = (gs ++ [h]).length by simp] at hown4
          clear hg4 hwa
          go_wp2_with fail
          go_roundg (d0 + 1 - (m + 1))
          case measure => omega
          case rel => exact ⟨m + 1, h, gs ++ [h], by go_num, by omega, Nat.le_refl _, rfl, Lib.hid (by have := HGL.out; simp; omega), hown4, HHE4.out.snoc (by have := HHH.out; omega) HRW4.out (by rw [HGL.out]; exact HRN.out), ⟨ys, HRW4.out, HRN.out⟩, HBL4.out⟩
end Go.Proofs.YtfndiggpnkjacaaDoor.M

namespace Go.Proofs.YtfndiggpnkjacaaDoor.M
set_option linter.unusedVariables false
set_option linter.unusedSimpArgs false
open Go.RowKit
open T
open V (IntsIn numCells numCells_snoc ints_own drawn_below)
open I (alloc1 own_at own_below)

theorem D_all (a b : List Int) : D a b 0 0 = ed a b := rfl
theorem quiet_add_left {P : Program} {f : FuncId} {args : Array Value} {w : World} {a n : Nat} {v : Value}
    (h : Calls P f args (w.drewN (a + n)) fun e w' => e = .returned v ∧ w.drewN (a + n) = w') :
    Calls P f args (w.drewN (a + n)) fun e w'' => e = .returned v ∧ ∃ m, w'' = w.drewN (a + m) :=
  h.mono fun _ _ ⟨he, hm⟩ => ⟨he, n, hm.symm⟩
theorem quiet_left {P : Program} {f : FuncId} {args : Array Value} {w : World} {n : Nat} {v : Value}
    (h : Calls P f args (w.drewN n) fun e w' => e = .returned v ∧ w.drewN n = w') : Calls P f args (w.drewN n) fun e w'' => e = .returned v ∧ ∃ m, w'' = w.drewN m :=
  h.mono fun _ _ ⟨he, hm⟩ => ⟨he, n, hm.symm⟩
/-- What lies below n0 stays, and every row of numbers and of rows of numbers. -/
def KpT (n0 : Nat) (W W' : World) : Prop := Below n0 W W' ∧ ∀ (k : Nat) (cs : Array Value) (t : TypeId), W.heap[k]? = some (.cells cs t (0, 0)) → (t = 3 ∨ t = 46) → W'.heap[k]? = W.heap[k]?
theorem KpT.of {n0 : Nat} {W W' : World} (h : Below W.heap.size W W') (hn : n0 ≤ W.heap.size) : KpT n0 W W' := ⟨h.mono hn, fun k cs t hk _ => h.block k (Array.getElem?_eq_some_iff.1 hk).1⟩
theorem RowsAt.keptT {w w' : World} {n0 : Nat} {a b : List Int} {G N : Nat} (h : RowsAt w a b G N) (hb : KpT n0 w w') : RowsAt w' a b G N := by
  obtain ⟨⟨cs, hc⟩, h⟩ := h
  have e := hb.2 G cs _ hc (.inr rfl)
  refine ⟨⟨cs, e.trans hc⟩, fun m hm => ?_⟩
  obtain ⟨g, xs, h1, h2, h3⟩ := h m hm
  exact ⟨g, xs, (World.cell?_of_block (a := ⟨G, m, none⟩) e).trans h1, (hb.2 g _ _ h2 (.inl rfl)).trans h2, h3⟩
/-- Numbers that lie below n0. -/
def IntsLow (w : World) (n0 : Nat) (A : Option Addr) (xs : List Int) : Prop := 0 < xs.length → ∃ bk off, A = some ⟨bk, off, none⟩ ∧ bk < n0 ∧ L.IntsAt w bk off xs
theorem IntsLow.kept {w w' : World} {n0 : Nat} {A : Option Addr} {xs : List Int} (h : IntsLow w n0 A xs) (hb : Below n0 w w') : IntsLow w' n0 A xs := fun hp => by
  obtain ⟨bk, off, e, hlt, hl⟩ := h hp
  exact ⟨bk, off, e, hlt, fun j hj => (hb.cell (p := ⟨bk, off + j, none⟩) hlt).trans (hl j hj)⟩
theorem IntsLow.ints {w : World} {n0 : Nat} {A : Option Addr} {xs : List Int} (h : IntsLow w n0 A xs) (hn : n0 ≤ w.heap.size) : IntsIn w A xs := fun hp => by
  obtain ⟨bk, off, e, hlt, hl⟩ := h hp
  exact ⟨bk, off, e, by omega, hl⟩
theorem told_cons (i j : Nat) (s : Int) (r : List Int) : told i j (s :: r) = (s, i, j) :: told (if s = 3 then i else i + 1) (if s = 2 then j else j + 1) r := rfl
/-- Whoever is told. -/
structure Told (fn : FuncId) (p : Value) (n0 : Nat) (J : List (Int × Nat × Nat) → World → Prop) : Prop where
  enters : ∀ (args : Array Value) (w : World), (callFunc fn args).run Tryd.prog w = .ok (.enter fn args) w
  keeps : ∀ l W W', J l W → Below W.heap.size W W' → J l W'
  tells : ∀ l (s : Int) (i j : Nat) W, J l W → n0 ≤ W.heap.size → l.length ≤ 800 → Calls Tryd.prog fn #[.int .i64 s, .int .i64 (i : Int), .int .i64 (j : Int), p] W fun e W' => e = .returned (.tuple #[]) ∧ J (l ++ [(s, i, j)]) W' ∧ KpT n0 W W'

theorem to_keep {a b : List Int} {i j : Nat} {l X : List (Int × Nat × Nat)} (h : X = l ++ told i j (Wy a b i j)) (hk : kept a b i j = true) : X = (l ++ [(1, i, j)]) ++ told (i + 1) (j + 1) (Wy a b (i + 1) (j + 1)) := by
  rw [h, (Wy_kept hk).1, told_cons, if_neg (by decide), if_neg (by decide)]; simp
theorem to_out {a b : List Int} {i j : Nat} {l X : List (Int × Nat × Nat)} (h : X = l ++ told i j (Wy a b i j)) (hk : kept a b i j = false) (ho : outs a b i j = true) : X = (l ++ [(2, i, j)]) ++ told (i + 1) j (Wy a b (i + 1) j) := by
  rw [h, (Wy_out hk ho).1, told_cons, if_neg (by decide), if_pos rfl]; simp
theorem to_in {a b : List Int} {i j : Nat} {l X : List (Int × Nat × Nat)} (h : X = l ++ told i j (Wy a b i j)) (hk : kept a b i j = false) (ho : outs a b i j = false) (hj : j < b.length) : X = (l ++ [(3, i, j)]) ++ told i (j + 1) (Wy a b i (j + 1)) := by
  rw [h, (Wy_in hk ho hj).1, told_cons, if_pos rfl, if_neg (by decide)]; simp

set_option maxRecDepth 100000 in
set_option maxHeartbeats 4000000 in
theorem walk_any (fn : FuncId) (p : Value) (n0 : Nat) (J : List (Int × Nat × Nat) → World → Prop) (HT : Told fn p n0 J) (A B : Option Addr) (a b : List Int) (c c' : Nat) (w : World) (hA : IntsLow w n0 A a) (hB : IntsLow w n0 B b) (ha : a.length ≤ 400) (hb : b.length ≤ 400) (hn0 : n0 ≤ w.heap.size) (h0 : J [] w) :
    Calls Tryd.prog 52 #[.slice A a.length c, .slice B b.length c', .func (.func fn) #[] #[p]] w fun e w' => e = .returned (.tuple #[]) ∧ J (told 0 0 (way a b)) w' ∧ Below n0 w w' := by
  have HA := Lib.hid hA
  have HB := Lib.hid hB
  have HJ0 := Lib.hid h0
  clear hA hB h0
  obtain ⟨la, hla⟩ : ∃ n, n = a.length := ⟨_, rfl⟩
  obtain ⟨lb, hlb⟩ : ∃ n, n = b.length := ⟨_, rfl⟩
  have HRE : Hid (Calls Tryd.prog 61 #[.slice A la c, .slice B lb c'] w (ReEnd w a b)) := Lib.hid (by rw [hla, hlb]; exact reach_any A B a b c c' w (HA.out.ints hn0) (HB.out.ints hn0) ha hb)
  rw [← hla] at ha ⊢
  rw [← hlb] at hb ⊢
  have HL := Lib.hid (And.intro hla hlb)
  clear hla hlb
  obtain ⟨N, hN⟩ : ∃ N, N = D a b 0 0 + 1 := ⟨_, rfl⟩
  have HN := Lib.hid hN
  have hN8 : N ≤ 801 := by have := ed_le a b; have := D_all a b; have := HL.out; omega
  clear hN
  have hent := HT.enters
  go_enter Tryd.func52, Tryd.ntmps52
  go_wp2_with fail
  with_reducible refine (long_no A B la lb c c' w ha hb).mono ?_
  rintro e w' ⟨rfl, rfl⟩
  go_wp2_with fail
  with_reducible refine (HRE.out).mono ?_
  rintro e w1 ⟨G, cap, rfl, hG, hra, hb1⟩
  rw [← HN.out] at hra ⊢
  have HR1 := Lib.hid hra
  have HB1 := Lib.hid hb1
  have HJ1 := Lib.hid (HT.keeps _ _ _ HJ0.out hb1)
  have hs1 := hb1.size
  clear hra hb1
  go_wp2_with fail
  go_loopg [7, 8, 9] (la + lb) (fun mm x7 x8 x9 wr => ∃ (d : Int) (i j : Nat) (l : List (Int × Nat × Nat)), x7 = .int .i64 d ∧ x8 = .int .i64 (i : Int) ∧ x9 = .int .i64 (j : Int) ∧ i ≤ la ∧ j ≤ lb ∧ (la - i) + (lb - j) ≤ mm ∧ 0 ≤ d ∧ d < N ∧ Hid (d = (D a b i j : Nat)) ∧ Hid (J l wr) ∧ Hid (l.length ≤ i + j) ∧ Hid (told 0 0 (way a b) = l ++ told i j (Wy a b i j)) ∧ Hid (RowsAt wr a b G N) ∧ Hid (Below n0 w wr) ∧ Hid (n0 ≤ wr.heap.size))
  case atStart =>
    exact ⟨_, 0, 0, [], rfl, rfl, rfl, Nat.zero_le _, Nat.zero_le _, by omega, by have := HN.out; omega, by omega, Lib.hid (by have := HN.out; omega), HJ1, Lib.hid (Nat.le_refl _), Lib.hid rfl, HR1, Lib.hid (HB1.out.mono hn0), Lib.hid (by omega)⟩
  case round =>
    obtain ⟨d, i, j, l, rfl, rfl, rfl, hi, hj, hmm, hd0, hdN, HD, HJ, HLL, HTO, HR, HB2, HS⟩ := hrel
    have HSQ : Hid (∀ q, n0 ≤ (wr.drewN q).heap.size) := Lib.hid (fun q => by simpa using HS.out)
    by_cases hg : i < la ∨ j < lb
    · have HG := Lib.hid hg
      clear hg
      by_cases hk : kept a b i j = true
      · obtain ⟨hia', hjb', hx⟩ := kept_yes hk
        have HK := Lib.hid hk
        clear hk
        have hia : i < la := by have := HL.out; omega
        have hjb : j < lb := by have := HL.out; omega
        obtain ⟨bk, off, hAe, hbk, hI⟩ := (HA.out.kept HB2.out) (by omega)
        obtain ⟨bk', off', hBe, hbk', hI'⟩ := (HB.out.kept HB2.out) (by omega)
        subst hAe hBe
        have c0 := hI i hia'
        have d0 := hI' j hjb'
        rw [hx] at c0
        generalize b[j] = y at c0 d0
        clear hx hI hI' hia' hjb'
        have k0 : (0 : Int) ≤ (i : Int) := by omega
        have k1 : (i : Int) < (la : Int) := by omega
        have k2 : (0 : Int) ≤ (j : Int) := by omega
        have k3 : (j : Int) < (lb : Int) := by omega
        go_wp2_with fail
        go_quiet (fail)
        go_wp2_with fail
        with_reducible refine (HT.tells l 1 i j _ (HT.keeps _ _ _ HJ.out (drawn_below _ _)) (HSQ.out _) (by have := HLL.out; omega)).mono ?_
        rintro e w2 ⟨rfl, hJ2, hk2⟩
        have HJ2 := Lib.hid hJ2
        have HK2 := Lib.hid hk2
        clear hJ2 hk2
        go_wp2_with fail
        go_roundg ((la - (i + 1)) + (lb - (j + 1)))
        case measure => omega
        case rel => exact ⟨d, i + 1, j + 1, l ++ [(1, i, j)], rfl, by go_num, by go_num, by omega, by omega, Nat.le_refl _, hd0, hdN, Lib.hid (by rw [HD.out, (Wy_kept HK.out).2]), HJ2, Lib.hid (by have := HLL.out; simp; omega), Lib.hid (to_keep HTO.out HK.out), Lib.hid ((HR.out.kept (drawn_below _ _)).keptT HK2.out), Lib.hid (HB2.out.trans (((drawn_below wr _).mono HS.out).trans HK2.out.1)), Lib.hid (Nat.le_trans (HSQ.out _) HK2.out.1.size)⟩
      · have hk : kept a b i j = false := by simpa using hk
        have HK := Lib.hid hk
        have HDP := Lib.hid (left_pos hk (by have := HG.out; have := HL.out; omega))
        obtain ⟨m, hm⟩ : ∃ m : Nat, (m : Int) = d - 1 := ⟨(d - 1).toNat, by have := HD.out; have := HDP.out; omega⟩
        have HM := Lib.hid hm
        have hd1 : 1 ≤ d := by omega
        have hm0 : (0 : Int) ≤ (m : Int) := by omega
        have hm1 : (m : Int) < (N : Int) := by omega
        have HDM : Hid (D a b i j = m + 1) := Lib.hid (by have := HD.out; omega)
        clear hm
        by_cases hia : i < la
        · have HHO : Hid (∃ (g : Nat) (xs : List Int), wr.cell? ⟨G, m, none⟩ = some (rowV (a.length + b.length + 3) g) ∧ Row wr g xs ∧ Ro a b m xs) := Lib.hid (HR.out.2 m (by omega))
          obtain ⟨g, xs, r0, r1, r2⟩ := HHO.out
          obtain ⟨sp, hsp⟩ : ∃ s : Nat, s = i + 1 + b.length + 1 - j := ⟨_, rfl⟩
          have HSP := Lib.hid hsp
          have hspl : sp < xs.length := by rw [r2.len]; have := HL.out; omega
          have r3 := r1.cellD hspl
          have HO := Lib.hid (outs_is (i := i) (j := j) (by have := HL.out; omega) (by have := HL.out; omega) HDM.out r2)
          rw [← hsp] at HO
          obtain ⟨z, hz⟩ : ∃ z, z = xs.getD sp 0 := ⟨_, rfl⟩
          rw [← hz] at HO r3
          obtain ⟨L, hL⟩ : ∃ L, L = a.length + b.length + 3 := ⟨_, rfl⟩
          rw [← hL] at r0
          have hsl : (sp : Int) < (L : Int) := by have := r2.len; omega
          simp only [rowV] at r0
          have HLL2 := Lib.hid hL
          clear hsp hspl hz hL r1 r2 hk HHO
          have s0 : (0 : Int) ≤ (sp : Int) := by omega
          have w1 : IntKind.i64.wrap (d - 1) = (m : Int) := by rw [IntKind.wrap_i64]; have := HM.out; omega
          have w2 : IntKind.i64.wrap ((i : Int) + 1) = (i : Int) + 1 := by rw [IntKind.wrap_i64]; omega
          have HSPOT : Hid (∀ w : World, Calls Tryd.prog 62 #[.slice B lb c', .int .i64 ((i : Int) + 1), .int .i64 (j : Int)] w fun e w' => e = .returned (.int .i64 (sp : Int)) ∧ w = w') := Lib.hid (fun w => spot_any B lb c' _ _ _ w (by have := HSP.out; have := HL.out; omega) (by omega) (by omega) (by omega) (by omega) (by omega))
          have k0 : (0 : Int) ≤ (i : Int) := by omega
          have k1 : (i : Int) < (la : Int) := by omega
          have k2 : (0 : Int) ≤ (j : Int) := by omega
          by_cases hjb : j < lb
          · -- both go on
            have hia' : i < a.length := by have := HL.out; omega
            have hjb' : j < b.length := by have := HL.out; omega
            have hne0 := kept_no HK.out hia' hjb'
            obtain ⟨bk, off, hAe, hbk, hI⟩ := (HA.out.kept HB2.out) (by omega)
            obtain ⟨bk', off', hBe, hbk', hI'⟩ := (HB.out.kept HB2.out) (by omega)
            subst hAe hBe
            have c0 := hI i hia'
            have d0 := hI' j hjb'
            have hne : (a[i] == b[j]) = false := beq_eq_false_iff_ne.2 hne0
            clear hne0
            generalize a[i] = x at c0 hne
            generalize b[j] = y at d0 hne
            clear hI hI' hia' hjb'
            have k3 : (j : Int) < (lb : Int) := by omega
            by_cases ho : outs a b i j = true
            · have hzz : z ≤ (i : Int) + 1 := by have h := HO.out; rw [ho] at h; exact of_decide_eq_true h.symm
              have HOO := Lib.hid ho
              clear ho
              go_wp2_with fail
              go_quiet (fail)
              go_wp2_with fail
              go_quiet ((go_at_call 62; first | exact quiet_add_left (HSPOT.out _) | exact quiet_left (HSPOT.out _)))
              try clear w1 w2
              go_wp2_with fail
              with_reducible refine (HT.tells l 2 i j _ (HT.keeps _ _ _ HJ.out (by first | exact drawn_below _ _ | exact below_drewN (drawn_below _ _) _)) (by first | exact HSQ.out _ | (simpa using HS.out)) (by have := HLL.out; omega)).mono ?_
              rintro e w2 ⟨rfl, hJ2, hk2⟩
              have HJ2 := Lib.hid hJ2
              have HK2 := Lib.hid hk2
              clear hJ2 hk2
              go_wp2_with fail
              go_roundg ((la - (i + 1)) + (lb - j))
              case measure => omega
              case rel => exact ⟨d - 1, i + 1, j, l ++ [(2, i, j)], rfl, by go_num, rfl, by omega, by omega, Nat.le_refl _, by omega, by omega, Lib.hid (by have := HD.out; have := (Wy_out HK.out HOO.out).2; omega), HJ2, Lib.hid (by have := HLL.out; simp; omega), Lib.hid (to_out HTO.out HK.out HOO.out), Lib.hid ((HR.out.kept (by first | exact drawn_below _ _ | exact below_drewN (drawn_below _ _) _)).keptT HK2.out), Lib.hid (HB2.out.trans (((show Below wr.heap.size wr _ by first | exact drawn_below _ _ | exact below_drewN (drawn_below _ _) _).mono HS.out).trans HK2.out.1)), Lib.hid (Nat.le_trans (by first | exact HSQ.out _ | (simpa using HS.out)) HK2.out.1.size)⟩
            · have ho : outs a b i j = false := by simpa using ho
              have hzz : decide (z ≤ (i : Int) + 1) = false := by have h := HO.out; rw [ho] at h; exact h.symm
              have HOO := Lib.hid ho
              clear ho
              go_wp2_with fail
              go_quiet (fail)
              go_wp2_with fail
              go_quiet ((go_at_call 62; first | exact quiet_add_left (HSPOT.out _) | exact quiet_left (HSPOT.out _)))
              try clear w1 w2
              go_wp2_with fail
              with_reducible refine (HT.tells l 3 i j _ (HT.keeps _ _ _ HJ.out (by first | exact drawn_below _ _ | exact below_drewN (drawn_below _ _) _)) (by first | exact HSQ.out _ | (simpa using HS.out)) (by have := HLL.out; omega)).mono ?_
              rintro e w2 ⟨rfl, hJ2, hk2⟩
              have HJ2 := Lib.hid hJ2
              have HK2 := Lib.hid hk2
              clear hJ2 hk2
              go_wp2_with fail
              go_roundg ((la - i) + (lb - (j + 1)))
              case measure => omega
              case rel => exact ⟨d - 1, i, j + 1, l ++ [(3, i, j)], rfl, rfl, by go_num, by omega, by omega, Nat.le_refl _, by omega, by omega, Lib.hid (by have := HD.out; have := (Wy_in HK.out HOO.out (by have := HL.out; omega)).2; omega), HJ2, Lib.hid (by have := HLL.out; simp; omega), Lib.hid (to_in HTO.out HK.out HOO.out (by have := HL.out; omega)), Lib.hid ((HR.out.kept (by first | exact drawn_below _ _ | exact below_drewN (drawn_below _ _) _)).keptT HK2.out), Lib.hid (HB2.out.trans (((show Below wr.heap.size wr _ by first | exact drawn_below _ _ | exact below_drewN (drawn_below _ _) _).mono HS.out).trans HK2.out.1)), Lib.hid (Nat.le_trans (by first | exact HSQ.out _ | (simpa using HS.out)) HK2.out.1.size)⟩
          · have hjd : decide (j < lb) = false := decide_eq_false hjb
            have ho : outs a b i j = true := by
              rcases Bool.eq_false_or_eq_true (outs a b i j) with h | h
              · exact h
              · have := in_ends h (by have := HG.out; have := HL.out; omega); have := HL.out; omega
            have hzz : z ≤ (i : Int) + 1 := by have h := HO.out; rw [ho] at h; exact of_decide_eq_true h.symm
            have HOO := Lib.hid ho
            clear ho
            go_wp2_with fail
            go_quiet (fail)
            go_wp2_with fail
            go_quiet ((go_at_call 62; first | exact quiet_add_left (HSPOT.out _) | exact quiet_left (HSPOT.out _)))
            try clear w1 w2
            go_wp2_with fail
            with_reducible refine (HT.tells l 2 i j _ (HT.keeps _ _ _ HJ.out (by first | exact drawn_below _ _ | exact below_drewN (drawn_below _ _) _)) (by first | exact HSQ.out _ | (simpa using HS.out)) (by have := HLL.out; omega)).mono ?_
            rintro e w2 ⟨rfl, hJ2, hk2⟩
            have HJ2 := Lib.hid hJ2
            have HK2 := Lib.hid hk2
            clear hJ2 hk2
            go_wp2_with fail
            go_roundg ((la - (i + 1)) + (lb - j))
            case measure => omega
            case rel => exact ⟨d - 1, i + 1, j, l ++ [(2, i, j)], rfl, by go_num, rfl, by omega, by omega, Nat.le_refl _, by omega, by omega, Lib.hid (by have := HD.out; have := (Wy_out HK.out HOO.out).2; omega), HJ2, Lib.hid (by have := HLL.out; simp; omega), Lib.hid (to_out HTO.out HK.out HOO.out), Lib.hid ((HR.out.kept (by first | exact drawn_below _ _ | exact below_drewN (drawn_below _ _) _)).keptT HK2.out), Lib.hid (HB2.out.trans (((show Below wr.heap.size wr _ by first | exact drawn_below _ _ | exact below_drewN (drawn_below _ _) _).mono HS.out).trans HK2.out.1)), Lib.hid (Nat.le_trans (by first | exact HSQ.out _ | (simpa using HS.out)) HK2.out.1.size)⟩
        · have hid : decide (i < la) = false := decide_eq_false hia
          have ho : outs a b i j = false := by
            rcases Bool.eq_false_or_eq_true (outs a b i j) with h | h
            · have := (of_decide_eq_true h).1; have := HL.out; omega
            · exact h
          have HOO := Lib.hid ho
          have hjb : j < lb := by have := HG.out; omega
          clear ho hk
          go_wp2_with fail
          go_quiet (fail)
          go_wp2_with fail
          go_quiet (fail)
          try clear w1 w2
          go_wp2_with fail
          with_reducible refine (HT.tells l 3 i j _ (HT.keeps _ _ _ HJ.out (by first | exact drawn_below _ _ | exact below_drewN (drawn_below _ _) _)) (by first | exact HSQ.out _ | (simpa using HS.out)) (by have := HLL.out; omega)).mono ?_
          rintro e w2 ⟨rfl, hJ2, hk2⟩
          have HJ2 := Lib.hid hJ2
          have HK2 := Lib.hid hk2
          clear hJ2 hk2
          go_wp2_with fail
          go_roundg ((la - i) + (lb - (j + 1)))
          case measure => omega
          case rel => exact ⟨d - 1, i, j + 1, l ++ [(3, i, j)], rfl, rfl, by go_num, by omega, by omega, Nat.le_refl _, by omega, by omega, Lib.hid (by have := HD.out; have := (Wy_in HK.out HOO.out (by have := HL.out; omega)).2; omega), HJ2, Lib.hid (by have := HLL.out; simp; omega), Lib.hid (to_in HTO.out HK.out HOO.out (by have := HL.out; omega)), Lib.hid ((HR.out.kept (by first | exact drawn_below _ _ | exact below_drewN (drawn_below _ _) _)).keptT HK2.out), Lib.hid (HB2.out.trans (((show Below wr.heap.size wr _ by first | exact drawn_below _ _ | exact below_drewN (drawn_below _ _) _).mono HS.out).trans HK2.out.1)), Lib.hid (Nat.le_trans (by first | exact HSQ.out _ | (simpa using HS.out)) HK2.out.1.size)⟩
    · have he : la ≤ i ∧ lb ≤ j := by omega
      have HT2 : Hid (told 0 0 (way a b) = l) := Lib.hid (by have h := HTO.out; rw [Wy_end (by have := HL.out; omega) (by have := HL.out; omega)] at h; simpa [told] using h)
      obtain ⟨he1, he2⟩ := he
      clear hg
      go_wp2_with fail
      go_end0
      exact ⟨rfl, by rw [HT2.out]; exact HJ.out, HB2.out⟩
end Go.Proofs.YtfndiggpnkjacaaDoor.M



namespace Go.Proofs.YtfndiggpnkjacaaDoor.N
set_option linter.unusedVariables false
set_option linter.unusedSimpArgs false
open Go.RowKit
open T
open V (grown_of IntsIn numCells numCells_snoc ints_own drawn_below)
open I (alloc1 own_at own_below)

/-- Numbers with how often each is there, rising: of a row. -/
structure Cn (l : List Int) (cs : List (Int × Nat)) : Prop where
  rise : cs.Pairwise (fun p q => p.1 < q.1)
  mem : ∀ p ∈ cs, p.1 ∈ l ∧ p.2 = l.count p.1
  all : ∀ n ∈ l, ∃ p ∈ cs, p.1 = n
theorem pairs_same : ∀ {cs ds : List (Int × Nat)}, cs.Pairwise (fun p q => p.1 < q.1) → ds.Pairwise (fun p q => p.1 < q.1) → (∀ p, p ∈ cs ↔ p ∈ ds) → cs = ds
  | [], [], _, _, _ => rfl
  | [], d :: ds, _, _, h => by have := (h d).2 (by simp); simp at this
  | c :: cs, [], _, _, h => by have := (h c).1 (by simp); simp at this
  | c :: cs, d :: ds, hc, hd, h => by
    rw [List.pairwise_cons] at hc hd
    have e : c = d := by
      have h1 := (h c).1 (by simp)
      have h2 := (h d).2 (by simp)
      rcases List.mem_cons.1 h1 with h1 | h1
      · exact h1
      · rcases List.mem_cons.1 h2 with h2 | h2
        · exact h2.symm
        · have := hd.1 c h1; have := hc.1 d h2; omega
    subst e
    rw [pairs_same hc.2 hd.2 fun p => ?_]
    constructor
    · intro hp
      rcases List.mem_cons.1 ((h p).1 (by simp [hp])) with e | e
      · subst e; have := hc.1 p hp; omega
      · exact e
    · intro hp
      rcases List.mem_cons.1 ((h p).2 (by simp [hp])) with e | e
      · subst e; have := hd.1 p hp; omega
      · exact e
theorem Cn.same {l : List Int} {cs ds : List (Int × Nat)} (h : Cn l cs) (h' : Cn l ds) : cs = ds := by
  have half : ∀ {cs ds : List (Int × Nat)}, Cn l cs → Cn l ds → ∀ p ∈ cs, p ∈ ds := fun {cs ds} h h' p hp => by
    obtain ⟨q, hq, e⟩ := h'.all _ (h.mem p hp).1
    have e2 : q = p := Prod.ext e (by rw [(h'.mem q hq).2, (h.mem p hp).2, e])
    rw [← e2]; exact hq
  exact pairs_same h.rise h'.rise fun p => ⟨half h h' p, half h' h p⟩
theorem Cn.perm {l m : List Int} {cs : List (Int × Nat)} (h : Cn l cs) (hp : l.Perm m) : Cn m cs :=
  ⟨h.rise, fun p hp' => ⟨hp.mem_iff.1 (h.mem p hp').1, by rw [(h.mem p hp').2]; exact hp.count_eq _⟩, fun n hn => h.all n (hp.mem_iff.2 hn)⟩
theorem Cn.new {l : List Int} {cs : List (Int × Nat)} {n : Int} (h : Cn l cs) (hn : ∀ x ∈ l, x < n) : Cn (l ++ [n]) (cs ++ [(n, 1)]) := by
  have hnl : n ∉ l := fun hm => by have := hn n hm; omega
  refine ⟨?_, fun p hp => ?_, fun x hx => ?_⟩
  · rw [List.pairwise_append]
    exact ⟨h.rise, by simp, fun p hp q hq => by simp at hq; subst hq; exact hn _ (h.mem p hp).1⟩
  · rcases List.mem_append.1 hp with hp | hp
    · have hpl := (h.mem p hp).1
      refine ⟨by simp [hpl], ?_⟩
      rw [List.count_append, (h.mem p hp).2, List.count_singleton]
      have : ¬ n = p.1 := fun e => hnl (by rw [e]; exact hpl)
      simp [this]
    · simp at hp; subst hp
      exact ⟨by simp, by rw [List.count_append, List.count_eq_zero_of_not_mem hnl]; simp⟩
  · rcases List.mem_append.1 hx with hx | hx
    · obtain ⟨p, hp, e⟩ := h.all x hx; exact ⟨p, by simp [hp], e⟩
    · simp at hx; subst hx; exact ⟨(x, 1), by simp, rfl⟩
theorem Cn.again {l : List Int} {cs : List (Int × Nat)} {n : Int} {c : Nat} (h : Cn l (cs ++ [(n, c)])) : Cn (l ++ [n]) (cs ++ [(n, c + 1)]) := by
  have hr := h.rise
  rw [List.pairwise_append] at hr
  have hc := h.mem (n, c) (by simp)
  refine ⟨?_, fun p hp => ?_, fun x hx => ?_⟩
  · rw [List.pairwise_append]
    exact ⟨hr.1, by simp, fun p hp q hq => by simp at hq; subst hq; exact hr.2.2 p hp (n, c) (by simp)⟩
  · rcases List.mem_append.1 hp with hp | hp
    · have hm := h.mem p (by simp [hp])
      have hlt := hr.2.2 p hp (n, c) (by simp)
      refine ⟨by simp [hm.1], ?_⟩
      rw [List.count_append, hm.2, List.count_singleton]
      have : ¬ n = p.1 := by simp only at hlt; omega
      simp [this]
    · simp at hp; subst hp
      refine ⟨by simp, ?_⟩
      rw [List.count_append, List.count_singleton, ← hc.2]
      simp
  · have hx' : x ∈ l := by
      rcases List.mem_append.1 hx with hx | hx
      · exact hx
      · simp at hx; subst hx; exact hc.1
    obtain ⟨p, hp, e⟩ := h.all x hx'
    rcases List.mem_append.1 hp with hp | hp
    · exact ⟨p, by simp [hp], e⟩
    · simp at hp; subst hp; exact ⟨(n, c + 1), by simp, e⟩
theorem Cn.nil : Cn [] [] := ⟨.nil, fun p hp => by simp at hp, fun n hn => by simp at hn⟩
def tot (cs : List (Int × Nat)) : Nat := (cs.map (·.2)).sum
theorem tot_snoc (cs : List (Int × Nat)) (p : Int × Nat) : tot (cs ++ [p]) = tot cs + p.2 := by simp [tot]

/-- The cells of pairs. -/
def prCells (ps : List (Int × Int)) : List Value := ps.flatMap fun p => [.int .i64 p.1, .int .i64 p.2]
theorem prCells_snoc (ps : List (Int × Int)) (p : Int × Int) : prCells (ps ++ [p]) = prCells ps ++ [.int .i64 p.1, .int .i64 p.2] := by simp [prCells]
theorem prCells_length : ∀ ps : List (Int × Int), (prCells ps).length = ps.length * 2
  | [] => rfl
  | p :: r => by
    have : prCells (p :: r) = .int .i64 p.1 :: .int .i64 p.2 :: prCells r := by simp [prCells]
    rw [this, List.length_cons, List.length_cons, prCells_length r, List.length_cons]; omega
theorem infoPair : (Tryd.prog.info? 74).map (fun i => (i.zero, i.size, i.bytes)) = some (some (.agg #[.int .i64 0, .int .i64 0]), 2, 16) := by kernel_rfl
def srt (l : List Int) : List Int := l.mergeSort fun x y => decide (x ≤ y)
theorem srt_nil : srt [] = [] := by simp [srt]
theorem srt_length (l : List Int) : (srt l).length = l.length := List.length_mergeSort _
theorem srt_perm (l : List Int) : (srt l).Perm l := List.mergeSort_perm _ _
theorem srt_le (l : List Int) : (srt l).Pairwise (· ≤ ·) := by
  have := List.pairwise_mergeSort (le := fun x y : Int => decide (x ≤ y)) (fun a b c h1 h2 => by simp at *; omega) (fun a b => by simp; omega) l
  simpa [srt] using this
end Go.Proofs.YtfndiggpnkjacaaDoor.N

namespace Go.Proofs.YtfndiggpnkjacaaDoor.M
set_option linter.unusedVariables false
set_option linter.unusedSimpArgs false
open Go.RowKit
open T
open V (IntsIn numCells numCells_snoc ints_own drawn_below)
open I (alloc1 own_at own_below)
open N (prCells prCells_snoc prCells_length)

theorem infoStep : (Tryd.prog.info? 73).map (fun i => (i.zero, i.size, i.bytes)) = some (some (.int .i64 0), 1, 8) := by kernel_rfl
theorem infoPair : (Tryd.prog.info? 74).map (fun i => (i.zero, i.size, i.bytes)) = some (some (.agg #[.int .i64 0, .int .i64 0]), 2, 16) := by kernel_rfl
theorem box_kept {W W' : World} {Bp : Nat} {o : Obj} (h : W.heap[Bp]? = some o) (hb : Below W.heap.size W W') : W'.heap[Bp]? = some o := (hb.block Bp (lt_of_block h)).trans h
/-- Behind an append to a row of elements of type e, and a store of it into its box. -/
theorem put_back {W w4 : World} {Bp : Nat} {v v' : Value} {T e : TypeId} {size n m : Nat} {xs ys : List Value} {o : Obj}
    (hbx : W.heap[Bp]? = some (.cells #[v] T (0, 0))) (hown : W.ownsRow (Bp + 1) e size v n xs) (he : e ≠ 3 ∧ e ≠ 46) (hT : T ≠ 3 ∧ T ≠ 46)
    (hg : (W.alloc o).grownBy w4 v.ownBlock) (hown4 : w4.ownsRow (Bp + 1) e size v' m ys) :
    w4.heap[Bp]? = some (.cells #[v] T (0, 0)) ∧ (w4.setCell ⟨Bp, 0, none⟩ v').heap[Bp]? = some (.cells #[v'] T (0, 0)) ∧ (w4.setCell ⟨Bp, 0, none⟩ v').ownsRow (Bp + 1) e size v' m ys ∧ KpT Bp W (w4.setCell ⟨Bp, 0, none⟩ v') := by
  have hlt := lt_of_block hbx
  have h1 : w4.heap[Bp]? = some (.cells #[v] T (0, 0)) := by
    rw [hg.block Bp (by simp; omega) (fun e => by have := own_base hown Bp e.symm; omega)]
    exact (alloc1 W o).block Bp hlt |>.trans hbx
  refine ⟨h1, one_setCell h1, ?_, ?_, ?_⟩
  · exact ownsRow_setCell_below hown4 (by simp) v'
  · exact (((alloc1 W o).mono (by omega)).grown hg (by simp; omega) (fun k ek => by have := own_base hown k ek; omega)).setCell (by simp) _
  · intro k cs t hk ht
    have hkl := lt_of_block hk
    have hkB : k ≠ Bp := fun e => by
      subst e; rw [hbx] at hk; injection hk with hk; injection hk with _ hk; rcases ht with rfl | rfl
      · exact hT.1 hk
      · exact hT.2 hk
    rw [heap_setCell_other _ ⟨Bp, 0, none⟩ k _ hkB, hg.block k (by simp; omega) (fun ek => ?_)]
    · exact (alloc1 W o).block k hkl
    · rcases hown.2 with ⟨rfl, _⟩ | ⟨g, cap, cur, rfl, _, hh, _⟩
      · simp [Value.ownBlock] at ek
      · simp only [Value.ownBlock, Option.some.injEq] at ek
        subst ek
        rw [hk] at hh; injection hh with hh; injection hh with _ hh
        rcases ht with rfl | rfl
        · exact he.1 hh.symm
        · exact he.2 hh.symm

/-- Pairs, in the box at Bp. -/
def JP (w0 : World) (Bp : Nat) (l : List (Int × Nat × Nat)) (W : World) : Prop :=
  ∃ v, W.heap[Bp]? = some (.cells #[v] 63 (0, 0)) ∧ W.ownsRow (Bp + 1) 74 2 v (prs l).length (prCells (prs l)) ∧ Below Bp w0 W
theorem prs_le (l : List (Int × Nat × Nat)) : (prs l).length ≤ l.length := by unfold prs; rw [List.length_map]; exact List.length_filter_le _ _
set_option maxRecDepth 100000 in
set_option maxHeartbeats 1000000 in
theorem tellP_any (w0 : World) (Bp : Nat) (l : List (Int × Nat × Nat)) (s : Int) (i j : Nat) (W : World) (hJ : JP w0 Bp l W) (hl : l.length ≤ 800) :
    Calls Tryd.prog 53 #[.int .i64 s, .int .i64 (i : Int), .int .i64 (j : Int), .pointer (some ⟨Bp, 0, none⟩)] W fun e W' => e = .returned (.tuple #[]) ∧ JP w0 Bp (l ++ [(s, i, j)]) W' ∧ KpT Bp W W' := by
  obtain ⟨i0, hi0, hz0, hz1, hz2⟩ := info_parts infoPair
  obtain ⟨v, hbx, hown, hb⟩ := hJ
  have c0 := cell_of_one hbx
  have f0 := free_of_one hbx
  have HBX := Lib.hid hbx
  have HOW := Lib.hid hown
  have HB := Lib.hid hb
  have hbl := lt_of_block hbx
  have hpl := prs_le l
  have HPS := Lib.hid (prs_snoc l (s, i, j))
  clear hbx hown hb
  by_cases hs : s = 1
  · subst hs
    have HP : Hid (prs (l ++ [(1, i, j)]) = prs l ++ [((i : Int), (j : Int))]) := Lib.hid (by rw [HPS.out, if_pos rfl])
    have HM : Hid (prCells (prs l) ++ [.int .i64 (i : Int), .int .i64 (j : Int)] = prCells (prs (l ++ [(1, i, j)]))) := Lib.hid (by rw [HP.out, prCells_snoc])
    have HLN : Hid ((prs l).length + 1 = (prs (l ++ [(1, i, j)])).length) := Lib.hid (by rw [HP.out]; simp)
    obtain ⟨np, hnp⟩ : ∃ n, n = (prs l).length := ⟨_, rfl⟩
    rw [← hnp] at HLN HOW hpl
    clear hnp
    go_enter Tryd.func53, Tryd.ntmps53
    go_wp2_with (at_builtin; refine wpList_append_own _ rfl _ _ 63 rfl (Bp + 1) 74 i0 _ 2 16 Tryd.underlying63 hi0 hz0 hz1 hz2 rfl (by decide) _ np _ rfl (HOW.out.alloc _) ⟨_, 0, none⟩ 1 1 [.int .i64 (i : Int), .int .i64 (j : Int)] rfl rfl (World.news_of_block (alloc_at _ rfl)) (by intro u hu; simp at hu; rcases hu with rfl | rfl <;> rfl) (by simp only [maxLen]; omega) (by omega) (by simp; omega) ?_; intro v' w4 hown4 hg4 _; obtain ⟨VA, vcap, rfl, -, -⟩ := own_form hown4; obtain ⟨p1, p2, p3, p4⟩ := put_back HBX.out HOW.out ⟨by decide, by decide⟩ ⟨by decide, by decide⟩ hg4 hown4; have c4 := cell_of_one p1; have f4 := free_of_one p1; have P2 := Lib.hid p2; have P3 := Lib.hid p3; have P4 := Lib.hid p4; clear p1 p2 p3 p4 hown4 hg4)
    go_end0
    exact ⟨rfl, ⟨_, P2.out, by rw [← HM.out, ← HLN.out]; exact P3.out, HB.out.trans P4.out.1⟩, P4.out⟩
  · have HP : Hid (prs (l ++ [(s, i, j)]) = prs l) := Lib.hid (by rw [HPS.out, if_neg hs, List.append_nil])
    have hsb : (s == 1) = false := beq_eq_false_iff_ne.2 hs
    go_enter Tryd.func53, Tryd.ntmps53
    go_wp2_with fail
    go_end0
    exact ⟨rfl, ⟨_, HBX.out, by rw [HP.out]; exact HOW.out, HB.out⟩, ⟨Below.refl _ _, fun _ _ _ _ _ => rfl⟩⟩
theorem tellP (w0 : World) (Bp : Nat) : Told 53 (.pointer (some ⟨Bp, 0, none⟩)) Bp (JP w0 Bp) :=
  ⟨Go.Proofs.enters_of Tryd.func53 (by kernel_rfl) rfl,
   fun l W W' ⟨v, h1, h2, h3⟩ hb => ⟨v, box_kept h1 hb, own_below h2 hb, h3.trans (hb.mono (by have := lt_of_block h1; omega))⟩,
   fun l s i j W hJ _ hl => tellP_any w0 Bp l s i j W hJ hl⟩

/-- Steps: a row of new memory. -/
def StEnd (W : World) (s : List Int) (e : Ending) (w' : World) : Prop := ∃ A cap, e = .returned (.slice A s.length cap) ∧ w'.ownsRow W.heap.size 73 1 (.slice A s.length cap) s.length (numCells s) ∧ Below W.heap.size W w'
def PaEnd (W : World) (ps : List (Int × Int)) (e : Ending) (w' : World) : Prop := ∃ A cap, e = .returned (.slice A ps.length cap) ∧ w'.ownsRow W.heap.size 74 2 (.slice A ps.length cap) ps.length (prCells ps) ∧ Below W.heap.size W w'
theorem ints_low {w w' : World} {A : Option Addr} {a : List Int} (h : IntsIn w A a) (hb : Below w.heap.size w w') : IntsLow w' w.heap.size A a := fun hp => by
  obtain ⟨bk, off, e, hlt, hl⟩ := h hp
  exact ⟨bk, off, e, hlt, fun j hj => (hb.cell (p := ⟨bk, off + j, none⟩) hlt).trans (hl j hj)⟩
theorem told_all (a b : List Int) : (told 0 0 (way a b)).map (·.1) = way a b := told_steps _ _ _
theorem told_len (a b : List Int) : (told 0 0 (way a b)).length = (way a b).length := by rw [← List.length_map (f := (·.1)), told_all]
set_option maxRecDepth 100000 in
set_option maxHeartbeats 1000000 in
theorem pairs_any (A B : Option Addr) (a b : List Int) (c c' : Nat) (w : World) (hA : IntsIn w A a) (hB : IntsIn w B b) (ha : a.length ≤ 400) (hb : b.length ≤ 400) :
    Calls Tryd.prog 42 #[.slice A a.length c, .slice B b.length c'] w (PaEnd w (pairs a b)) := by
  have hmf : ∀ (fn : Fn) (first cap : Array Value) (w : World), (Instr.makeFunc fn first cap).run Tryd.prog w = .ok (.func fn first cap) w := fun _ _ _ _ => rfl
  obtain ⟨W0, hW0⟩ : ∃ W : World, W = w.alloc (.cells #[.slice none 0 0] 63) := ⟨_, rfl⟩
  have HB0 := Lib.hid (show Below w.heap.size w W0 by rw [hW0]; exact alloc1 _ _)
  have HX0 := Lib.hid (show W0.heap[w.heap.size]? = some (.cells #[.slice none 0 0] 63 (0, 0)) by rw [hW0]; exact heap_alloc_new w _)
  have HWK := Lib.hid (walk_any 53 _ w.heap.size (JP w w.heap.size) (tellP w w.heap.size) A B a b c c' W0 (ints_low hA HB0.out) (ints_low hB HB0.out) ha hb HB0.out.size ⟨_, HX0.out, World.ownsRow_nil _ _ _ _, HB0.out⟩)
  clear hA hB
  go_enter Tryd.func42, Tryd.ntmps42
  go_wp2_with fail
  rw [← hW0]
  clear hW0
  with_reducible refine (HWK.out).mono ?_
  rintro e w1 ⟨rfl, ⟨v, hbx, hown, hbl⟩, -⟩
  have c0 := cell_of_one hbx
  have HOW := Lib.hid hown
  clear hown hbx
  go_wp2_with fail
  go_ret
  have ho := HOW.out
  obtain ⟨VA, vcap, rfl, -, -⟩ := own_form ho
  exact ⟨VA, vcap, rfl, own_more ho (by omega), hbl⟩
end Go.Proofs.YtfndiggpnkjacaaDoor.M
