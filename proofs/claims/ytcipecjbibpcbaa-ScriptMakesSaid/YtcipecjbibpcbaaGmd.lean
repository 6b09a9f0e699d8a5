/-
  The contract of myers' reach: a row for each number of changes, from none to the distance.
-/
import Derived.Test.YtcipecjbibpcbaaGmc
import Derived.Deep.AppendLies
namespace Go.Proofs.Ytcipecjbibpcbaa.M
set_option linter.unusedVariables false
set_option linter.unusedSimpArgs false
open Go.RowKit
open T
open V (IntsIn numCells numCells_snoc ints_own drawn_below)
open I (alloc1 own_at own_below)

/-- A row, as far as it is worked out. -/
def Mid (a b xs ys : List Int) (m : Nat) (k : Int) : Prop := ys.length = xs.length ∧ ∀ j : Nat, j < xs.length → ys.getD j 0 = if on a b (m + 1) j ∧ (j + m + 1 + a.length + 1) % 2 = 0 ∧ (j : Int) < k then bk a b xs j else xs.getD j 0
theorem Mid.start (a b xs : List Int) {m : Nat} {k : Int} (hk : k = a.length + 1 - (m + 1)) : Mid a b xs xs m k :=
  ⟨rfl, fun j hj => by rw [if_neg]; rintro ⟨⟨h1, h2, h3, h4⟩, h5, h6⟩; omega⟩
theorem Mid.skip {a b xs ys : List Int} {m : Nat} {k : Int} (h : Mid a b xs ys m k) (hl : xs.length = a.length + b.length + 3) {t : Nat} (ht : k = a.length + 1 - (m + 1) + 2 * t) (hs : k ≤ 0 ∨ (xs.length : Int) - 1 ≤ k) : Mid a b xs ys m (k + 2) := by
  refine ⟨h.1, fun j hj => ?_⟩
  rw [h.2 j hj]
  by_cases c : on a b (m + 1) j ∧ (j + m + 1 + a.length + 1) % 2 = 0 ∧ (j : Int) < k
  · rw [if_pos c, if_pos ⟨c.1, c.2.1, by omega⟩]
  · rw [if_neg c, if_neg]
    rintro ⟨h1, h2, h3⟩
    exact c ⟨h1, h2, by obtain ⟨o1, o2, o3, o4⟩ := h1; omega⟩
theorem Mid.put {a b xs ys : List Int} {m kn : Nat} {k : Int} (h : Mid a b xs ys m k) (hl : xs.length = a.length + b.length + 3) {t : Nat} (ht : k = a.length + 1 - (m + 1) + 2 * t) (hk : (kn : Int) = k) (h1 : 1 ≤ kn) (h2 : kn + 1 < xs.length) (h3 : k ≤ a.length + 1 + (m + 1)) : Mid a b xs (ys.set kn (bk a b xs kn)) m (k + 2) := by
  refine ⟨by rw [List.length_set]; exact h.1, fun j hj => ?_⟩
  rw [getD_set (by rw [h.1]; omega)]
  by_cases e : j = kn
  · subst e
    rw [if_pos rfl, if_pos]
    exact ⟨⟨h1, by omega, by omega, by omega⟩, by omega, by omega⟩
  · rw [if_neg e, h.2 j hj]
    by_cases c : on a b (m + 1) j ∧ (j + m + 1 + a.length + 1) % 2 = 0 ∧ (j : Int) < k
    · rw [if_pos c, if_pos ⟨c.1, c.2.1, by omega⟩]
    · rw [if_neg c, if_neg]
      rintro ⟨q1, q2, q3⟩
      exact c ⟨q1, q2, by omega⟩
theorem Mid.near {a b xs ys : List Int} {m kn : Nat} {k : Int} (h : Mid a b xs ys m k) {t : Nat} (ht : k = a.length + 1 - (m + 1) + 2 * t) (hk : (kn : Int) = k) (h1 : 1 ≤ kn) (h2 : kn + 1 < xs.length) : ys.getD (kn + 1) 0 = xs.getD (kn + 1) 0 ∧ ys.getD (kn - 1) 0 = xs.getD (kn - 1) 0 := by
  constructor
  · rw [h.2 _ h2, if_neg]; rintro ⟨_, q, _⟩; omega
  · rw [h.2 _ (by omega), if_neg]; rintro ⟨_, q, _⟩; omega
theorem Mid.bk {a b xs ys : List Int} {m kn : Nat} {k : Int} (h : Mid a b xs ys m k) {t : Nat} (ht : k = a.length + 1 - (m + 1) + 2 * t) (hk : (kn : Int) = k) (h1 : 1 ≤ kn) (h2 : kn + 1 < xs.length) : bi ys kn = bi xs kn ∧ M.bk a b ys kn = M.bk a b xs kn := by
  obtain ⟨e1, e2⟩ := h.near ht hk h1 h2
  have : bi ys kn = bi xs kn := by unfold bi; rw [e1, e2]
  exact ⟨this, by unfold M.bk; rw [this]⟩
theorem Mid.done {a b xs ys : List Int} {m : Nat} {k : Int} (h : Mid a b xs ys m k) (hk : a.length + 1 + (m + 1) < k) (hr : Ro a b m xs) : Ro a b (m + 1) ys :=
  hr.next h.1 fun j hj => by
    rw [h.2 j hj]
    by_cases c : on a b (m + 1) j ∧ (j + m + 1 + a.length + 1) % 2 = 0
    · rw [if_pos c, if_pos ⟨c.1, c.2, by obtain ⟨o1, o2, o3, o4⟩ := c.1; omega⟩]
    · rw [if_neg c, if_neg]
      exact fun q => c ⟨q.1, q.2.1⟩

/-- A slice that is a whole block. -/
def rowV (L g : Nat) : Value := .slice (some ⟨g, 0, none⟩) L L
/-- The rows so far. -/
def Held (w : World) (a b : List Int) (base : Nat) (gs : List Nat) : Prop := ∀ j (h : j < gs.length), base ≤ gs[j] ∧ ∃ xs, Row w gs[j] xs ∧ Ro a b j xs
theorem Held.kept {w w' : World} {a b : List Int} {base : Nat} {gs : List Nat} (h : Held w a b base gs) (hb : Below w.heap.size w w') : Held w' a b base gs := fun j hj => by
  obtain ⟨h1, xs, h2, h3⟩ := h j hj
  exact ⟨h1, xs, h2.kept hb, h3⟩
theorem Held.grown {w w' : World} {a b : List Int} {base : Nat} {gs : List Nat} (h : Held w a b base gs) {base' n size : Nat} {v : Value} {zs : List Value} (hown : w.ownsRow base' 49 size v n zs) (hg : w.grownBy w' v.ownBlock) : Held w' a b base gs := fun j hj => by
  obtain ⟨h1, xs, h2, h3⟩ := h j hj
  refine ⟨h1, xs, ?_, h3⟩
  refine (hg.block _ h2.lt fun e => ?_).trans h2
  rcases hown.2 with ⟨rfl, _⟩ | ⟨g, cap, cur, rfl, _, hh, _⟩
  · simp [Value.ownBlock] at e
  · simp only [Value.ownBlock, Option.some.injEq] at e
    rw [← e, show w.heap[gs[j]]? = _ from h2] at hh
    injection hh with hh
    injection hh with _ hh
    exact absurd hh (by decide)
theorem Row.grown {w w' : World} {g : Nat} {xs : List Int} (h : Row w g xs) {base' n size : Nat} {v : Value} {zs : List Value} (hown : w.ownsRow base' 49 size v n zs) (hg : w.grownBy w' v.ownBlock) : Row w' g xs := by
  refine (hg.block _ h.lt fun e => ?_).trans h
  rcases hown.2 with ⟨rfl, _⟩ | ⟨g', cap, cur, rfl, _, hh, _⟩
  · simp [Value.ownBlock] at e
  · simp only [Value.ownBlock, Option.some.injEq] at e
    rw [← e, show w.heap[g]? = _ from h] at hh
    injection hh with hh
    injection hh with _ hh
    exact absurd hh (by decide)
theorem Held.snoc {w : World} {a b : List Int} {base : Nat} {gs : List Nat} (h : Held w a b base gs) {g : Nat} {xs : List Int} (h1 : base ≤ g) (h2 : Row w g xs) (h3 : Ro a b gs.length xs) : Held w a b base (gs ++ [g]) := fun j hj => by
  by_cases e : j < gs.length
  · rw [List.getElem_append_left e]; exact h j e
  · obtain rfl : j = gs.length := by simp at hj; omega
    rw [List.getElem_append_right (Nat.le_refl _)]
    simp only [Nat.sub_self, List.getElem_cons_zero]
    exact ⟨h1, xs, h2, h3⟩
/-- The rows, as they are told. -/
def RowsAt (w : World) (a b : List Int) (G N : Nat) : Prop := (∃ cs, w.heap[G]? = some (.cells cs 49 (0, 0))) ∧ ∀ m, m < N → ∃ g xs, w.cell? ⟨G, m, none⟩ = some (rowV (a.length + b.length + 3) g) ∧ Row w g xs ∧ Ro a b m xs
theorem RowsAt.of {w : World} {a b : List Int} {base base' N cap : Nat} {A : Option Addr} {gs : List Nat} (h : Held w a b base gs) (hown : w.ownsRow base' 49 1 (.slice A gs.length cap) gs.length (gs.map (rowV (a.length + b.length + 3)))) (hN : N = gs.length) (hp : 0 < N) :
    ∃ G, A = some ⟨G, 0, none⟩ ∧ base' ≤ G ∧ RowsAt w a b G N := by
  subst hN
  rcases hown.2 with ⟨_, e⟩ | ⟨g, cap', cur, e, hb, hh, hc, hm, hs, ht⟩
  · omega
  · injection e with e1 e2 e3
    refine ⟨g, e1, hb, ⟨cur, hh⟩, fun m hm => ?_⟩
    obtain ⟨-, xs, h2, h3⟩ := h m hm
    refine ⟨gs[m], xs, ?_, h2, h3⟩
    rw [cell_of_row w g m cur _ _ hh]
    have : (cur.toList.take (gs.length * 1))[m]? = (gs.map (rowV (a.length + b.length + 3)))[m]? := by rw [ht]
    rw [Nat.mul_one, List.getElem?_take, if_pos hm, List.getElem?_map, List.getElem?_eq_getElem hm] at this
    simpa using this
theorem RowsAt.kept {w w' : World} {a b : List Int} {G N : Nat} (h : RowsAt w a b G N) (hb : Below w.heap.size w w') : RowsAt w' a b G N := by
  obtain ⟨⟨cs, hc⟩, h⟩ := h
  have hlt := (Array.getElem?_eq_some_iff.1 hc).1
  refine ⟨⟨cs, (hb.block G hlt).trans hc⟩, fun m hm => ?_⟩
  obtain ⟨g, xs, h1, h2, h3⟩ := h m hm
  exact ⟨g, xs, (hb.cell (p := ⟨G, m, none⟩) hlt).trans h1, h2.kept hb, h3⟩
def ReEnd (W : World) (a b : List Int) (e : Ending) (w' : World) : Prop := ∃ G cap, e = .returned (.slice (some ⟨G, 0, none⟩) (D a b 0 0 + 1) cap) ∧ W.heap.size ≤ G ∧ RowsAt w' a b G (D a b 0 0 + 1) ∧ Below W.heap.size W w'
theorem infoRowI : (Try.prog.info? 49).map (fun i => (i.zero, i.size, i.bytes)) = some (some (.slice none 0 0), 1, 24) := by kernel_rfl
theorem rowV_map (L : Nat) (gs : List Nat) (g : Nat) : (gs ++ [g]).map (rowV L) = gs.map (rowV L) ++ [.slice (some ⟨g, 0, none⟩) L L] := by simp [rowV]
theorem splice_all (xs ys : List Value) (h : ys.length = xs.length) : splice xs 0 ys = ys := by simp [splice, h]

theorem alloc_at {w : World} {n : Nat} (o : Obj) (h : w.heap.size = n) : (w.alloc o).heap[n]? = some o := by subst h; exact heap_alloc_new w o
/-- A copy of a row, into a new one. -/
theorem copied (w : World) {g L : Nat} {xs : List Int} (h : Row w g xs) (hl : xs.length = L) :
    ∃ W, (Builtin.copy_ #[49, 49] 3 #[.slice (some ⟨w.heap.size, 0, none⟩) L L, .slice (some ⟨g, 0, none⟩) L L]).run Try.prog (w.alloc (.cells (madeCells #[.int .i64 0] L) 3)) = .ok (.int .i64 (L : Int)) W ∧ Row W w.heap.size xs ∧ Below w.heap.size w W := by
  have hg : (w.alloc (.cells (madeCells #[.int .i64 0] L) 3)).heap[w.heap.size]? = some (.cells (numCells (List.replicate L 0)).toArray 3 (0, 0)) := by rw [made_row]; exact heap_alloc_new w _
  have hcl : (numCells xs).length = L := by simp [numCells, hl]
  have hrun := run_copy_row (P := Try.prog) (w.alloc (.cells (madeCells #[.int .i64 0] L) 3)) 49 49 3 3 w.heap.size 0 L L ⟨g, 0, none⟩ L L _ 3 (numCells xs) Try.underlying49 (by kernel_rfl) hg (by rw [hcl]; exact (Nat.min_self L).symm)
    (fun j v hj => by
      have hjl : j < xs.length := by
        have := (List.getElem?_eq_some_iff.1 hj).1
        simpa [numCells] using this
      have e : v = .int .i64 xs[j] := by
        simp [numCells, List.getElem?_eq_getElem hjl] at hj
        exact hj.symm
      subst e
      rw [show (⟨g, 0, none⟩ : Addr).add j = ⟨g, j, none⟩ by cases j <;> simp [Addr.add]]
      exact (h.kept (alloc1 _ _)).cell hjl)
    (by simp [numCells, hl]) (fun v hv => by
      simp only [numCells, List.mem_map] at hv
      obtain ⟨z, _, rfl⟩ := hv
      rfl)
  rw [hcl] at hrun
  refine ⟨_, hrun, ?_, below_setRow (alloc1 _ _) (Nat.le_refl _) _⟩
  refine (setRow_heap _ _ _ _ _ _ hg).trans ?_
  simp [numCells]

set_option maxRecDepth 100000 in
set_option maxHeartbeats 4000000 in
theorem reach_any (A B : Option Addr) (a b : List Int) (c c' : Nat) (w : World) (hA : IntsIn w A a) (hB : IntsIn w B b) (ha : a.length ≤ 400) (hb : b.length ≤ 400) :
    Calls Try.prog 44 #[.slice A a.length c, .slice B b.length c'] w (ReEnd w a b) := by
  obtain ⟨i0, hi0, hz0, hz1, hz2⟩ := info_parts infoRowI
  have HA := Lib.hid hA
  have HB := Lib.hid hB
  clear hA hB
  obtain ⟨la, hla⟩ : ∃ n, n = a.length := ⟨_, rfl⟩
  obtain ⟨lb, hlb⟩ : ∃ n, n = b.length := ⟨_, rfl⟩
  rw [← hla] at ha ⊢
  rw [← hlb] at hb ⊢
  obtain ⟨L, hL⟩ : ∃ n : Nat, n = la + lb + 3 := ⟨_, rfl⟩
  have hL1 : L ≤ 803 := by omega
  have hL2 : la + lb + 3 ≤ L := by omega
  have HL := Lib.hid (And.intro hla (And.intro hlb hL))
  clear hla hlb hL
  go_enter Try.func44, Try.ntmps44
  go_wp2_with fail
  with_reducible refine (spot_any B lb c' (la : Int) (lb : Int) ((la + 1 : Nat) : Int) w (by omega) (by omega) (by omega) (by omega) (by omega) (by omega)).mono ?_
  rintro e w' ⟨rfl, rfl⟩
  go_wp2_with fail
  with_reducible refine (unreached_any A B la lb c c' w ha hb).mono ?_
  rintro e w1 ⟨rfl, xs0, hxl0, hall0, hrow0, hb1⟩
  have hrow0' := hrow0
  obtain ⟨g0, hg0⟩ : ∃ g, g = w.heap.size := ⟨_, rfl⟩
  rw [← hg0] at hrow0 hrow0' ⊢
  rw [← HL.out.2.2] at hxl0 ⊢
  have HXL0 := Lib.hid hxl0
  have HALL0 := Lib.hid hall0
  have HB1 := Lib.hid hb1
  have HG0 := Lib.hid hg0
  clear hxl0 hall0 hb1 hg0
  have c0 := hrow0.cellD (j := la + 1) (by rw [HXL0.out]; omega)
  have f0 := hrow0.free (la + 1)
  have HR0 := Lib.hid hrow0
  clear hrow0 hrow0'
  have k0 : (0 : Int) ≤ ((la + 1 : Nat) : Int) := by omega
  have k1 : ((la + 1 : Nat) : Int) < (L : Int) := by omega
  go_wp2_with fail
  with_reducible refine (slide_at A B a b la lb c c' (la : Int) (lb : Int) _ HL.out.1 HL.out.2.1 (HA.out.below HB1.out) (HB.out.below HB1.out) (by omega) (by omega) (by omega) (by omega)).mono ?_
  rintro e w2 ⟨rfl, q2, rfl⟩
  go_wp2_with fail
  have HD0 := Lib.hid (D_low a b (i := 0) (j := 0) (Nat.zero_le _) (Nat.zero_le _))
  obtain ⟨d0, hd0⟩ : ∃ d, d = D a b 0 0 := ⟨_, rfl⟩
  have HDD := Lib.hid hd0
  have hd8 : d0 ≤ 800 := by have := HD0.out; have := HL.out; omega
  have HRO0 : Hid (Ro a b 0 (xs0.set (la + 1) (sl a b la lb))) := Lib.hid (Ro.zero (by rw [List.length_set, HXL0.out]; have := HL.out; omega) (by rw [← HL.out.1, getD_set (by rw [HXL0.out]; omega), if_pos rfl, HL.out.2.1]) (fun k hk hne => by
    rw [List.length_set] at hk
    rw [getD_set (by rw [HXL0.out]; omega), if_neg (by rw [HL.out.1]; exact hne), HALL0.out k hk, HL.out.1, HL.out.2.1]))
  have hs1 := HB1.out.size
  have hgw : g0 < w1.heap.size := HR0.out.lt
  obtain ⟨W2, hW2⟩ : ∃ W : World, W = ((w1.drewN q2).setCell { block := g0, off := la + 1 } (Value.int IntKind.i64 (sl a b ↑la ↑lb))).alloc (Obj.cells #[Value.slice (some { block := g0, off := 0 }) L L] 49) := ⟨_, rfl⟩
  rw [← hW2]
  have HRW : Hid (Row W2 g0 (xs0.set (la + 1) (sl a b la lb))) := Lib.hid (by
    rw [hW2]
    exact ((show Row (w1.drewN q2) g0 xs0 from HR0.out).set (la + 1) _).kept (alloc1 _ _))
  have HBW : Hid (Below w.heap.size w W2) := Lib.hid (by
    rw [hW2]
    exact (set_grown (w1.drewN q2) g0 (la + 1) _ (HB1.out.trans ((drawn_below w1 q2).mono hs1)) (by rw [← HG0.out]; exact Nat.le_refl _)).alloc (by simp; omega) _)
  have HOWN : Hid (W2.ownsRow w.heap.size 49 1 (.slice (some ⟨w1.heap.size, 0, none⟩) 1 1) 1 ([g0].map (rowV L))) := Lib.hid (by
    rw [hW2]
    have h := World.ownsRow_lit (base := w.heap.size) (e := 49) (size := 1) ((w1.drewN q2).setCell { block := g0, off := la + 1 } (Value.int IntKind.i64 (sl a b ↑la ↑lb))) #[Value.slice (some { block := g0, off := 0 }) L L] 1 (by simp; omega) (by decide) (by simp)
    simpa [rowV] using h)
  have HHE : Hid (Held W2 a b w.heap.size [g0]) := Lib.hid (fun j hj => by
    obtain rfl : j = 0 := by simp at hj; omega
    exact ⟨by rw [HG0.out]; exact Nat.le_refl _, _, HRW.out, HRO0.out⟩)
  clear hW2 c0 f0 k0 k1 hd0
  go_loopg [6, 7, 8] (d0 + 1) (fun mm r v i wr => ∃ (m g : Nat) (gs : List Nat), i = .int .i64 ((m + 1 : Nat) : Int) ∧ m ≤ d0 ∧ d0 + 1 - m ≤ mm ∧ r = .slice (some ⟨g, 0, none⟩) L L ∧ Hid (gs.length = m + 1) ∧ wr.ownsRow w.heap.size 49 1 v gs.length (gs.map (rowV L)) ∧ Held wr a b w.heap.size gs ∧ (∃ xs, Row wr g xs ∧ Ro a b m xs) ∧ Below w.heap.size w wr)
  case atStart => exact ⟨0, g0, [g0], rfl, Nat.zero_le _, by omega, rfl, Lib.hid rfl, HOWN.out, HHE.out, ⟨_, HRW.out, HRO0.out⟩, HBW.out⟩
  case round =>
    obtain ⟨m, g, gs, rfl, hm, hmm, rfl, HGL, hown, hheld, ⟨xs, hrow, hro⟩, hbl⟩ := hrel
    clear HRW HBW HOWN HHE HRO0 HR0
    have HXL : Hid (xs.length = L) := Lib.hid (by rw [hro.len]; have := HL.out; omega)
    have c0 := hrow.cellD (j := lb + 1) (by rw [HXL.out]; omega)
    have HIS := Lib.hid (hro.is 0 0 (lb + 1) (Nat.zero_le _) (Nat.zero_le _) (by have := HL.out; omega))
    obtain ⟨x, hx⟩ : ∃ x, x = xs.getD (lb + 1) 0 := ⟨_, rfl⟩
    rw [← hx] at c0 HIS
    clear hx
    have k0 : (0 : Int) ≤ ((lb + 1 : Nat) : Int) := by omega
    have k1 : ((lb + 1 : Nat) : Int) < (L : Int) := by omega
    obtain ⟨wo, rfl⟩ : ∃ wo : World, wo = wr := ⟨_, rfl⟩
    have HOW := Lib.hid hown
    have HHELD := Lib.hid hheld
    have HBL := Lib.hid hbl
    have HROW := Lib.hid hrow
    have HRO := Lib.hid hro
    clear hown hheld hbl hrow hro
    by_cases hD : d0 ≤ m
    · have hx0 : x ≤ 0 := by have h := HIS.out.1 (by rw [← HDD.out]; exact hD); exact_mod_cast h
      obtain ⟨VA, vcap, rfl, -, -⟩ := own_form HOW.out
      go_wp2_with fail
      with_reducible refine (spot_any B lb c' 0 0 ((lb + 1 : Nat) : Int) _ (by omega) (by omega) (by omega) (by omega) (by omega) (by omega)).mono ?_
      rintro e w' ⟨rfl, rfl⟩
      go_wp2_with fail
      go_ret
      obtain ⟨G, rfl, hG, hRA⟩ := RowsAt.of (N := D a b 0 0 + 1) HHELD.out (by rw [← HL.out.1, ← HL.out.2.1, ← HL.out.2.2]; exact HOW.out) (by have := HDD.out; have := HGL.out; omega) (by omega)
      exact ⟨G, vcap, ret_of (by rw [show gs.length = D a b 0 0 + 1 by have := HDD.out; have := HGL.out; omega]; rfl), hG, hRA, HBL.out⟩
    · have hx0 : 0 < x := by
        have h : ¬ x ≤ ((0 : Nat) : Int) := fun q => hD (by rw [HDD.out]; exact HIS.out.2 q)
        omega
      have hmk := run_make_row' (P := Try.prog) 49 3 (.int .i64 0) 8 Try.underlying49 infoI rfl .i64 .i64 L (by omega) (by omega)
      obtain ⟨W3, hcp, HR3', HB3'⟩ := copied wo HROW.out HXL.out
      go_wp2_with fail
      with_reducible refine (spot_any B lb c' 0 0 ((lb + 1 : Nat) : Int) _ (by omega) (by omega) (by omega) (by omega) (by omega) (by omega)).mono ?_
      rintro e w' ⟨rfl, rfl⟩
      have HR3 := Lib.hid HR3'
      have HB3 := Lib.hid HB3'
      clear HR3' HB3'
      go_wp2_with fail
      clear hmk hcp
      have hzo : wo.heap.size = wo.heap.size := rfl
      go_loopg [10] (la + 1 + (m + 1) + 3 + 900) (fun nn kk wr => ∃ (t : Nat) (k : Int) (ys : List Int), kk = .int .i64 k ∧ Hid (k = (a.length : Int) + 1 - (m + 1) + 2 * t) ∧ -900 ≤ k ∧ k ≤ la + 1 + (m + 1) + 2 ∧ (la + 1 + (m + 1) + 3 - k).toNat ≤ nn ∧ Hid (Mid a b xs ys m k) ∧ Hid (Row wr wo.heap.size ys) ∧ Hid (Below wo.heap.size wo wr))
      case atStart => exact ⟨0, _, xs, rfl, Lib.hid (by have := HL.out; omega), by omega, by omega, by omega, Lib.hid (Mid.start a b xs (by have := HL.out; omega)), HR3, HB3⟩
      case round =>
        obtain ⟨t, k, ys, rfl, HK, hk1, hk2, hnn, HM, HRW, HBW⟩ := hrel
        by_cases hle : k ≤ (la : Int) + 1 + ((m : Int) + 1)
        · have HXN : Hid (xs.length = a.length + b.length + 3) := Lib.hid HRO.out.len
          by_cases hp : 0 < k
          · by_cases hq : k < (L : Int) - 1
            · obtain ⟨kn, rfl⟩ : ∃ n : Nat, k = (n : Int) := ⟨k.toNat, by omega⟩
              have hkn1 : 1 ≤ kn := by omega
              have hkn2 : kn + 1 < L := by omega
              have hkx : kn + 1 < xs.length := by rw [HXL.out]; exact hkn2
              have HYL : Hid (ys.length = L) := Lib.hid (HM.out.1.trans HXL.out)
              have HNE := Lib.hid (HM.out.near HK.out rfl hkn1 hkx)
              have HBK := Lib.hid (HM.out.bk HK.out rfl hkn1 hkx)
              have HBD := Lib.hid (HRO.out.bd kn ⟨by omega, by have := HXN.out; omega, by have := HL.out; omega, by have := HK.out; omega⟩ (by have := HK.out; omega))
              have HV1 := Lib.hid (HRO.out.val (k := kn + 1) hkx)
              have HV2 := Lib.hid (HRO.out.val (k := kn - 1) (by omega))
              have HCB : Hid (Calls Try.prog 48 #[.slice A la c, .slice B lb c', .slice (some ⟨wo.heap.size, 0, none⟩) L L, .int .i64 (kn : Int)] wr fun e w' => e = .returned (.int .i64 (bk a b xs kn)) ∧ ∃ q, w' = wr.drewN q) := Lib.hid
                (back_at A B a b ys wo.heap.size la lb L c c' L kn _ wr HL.out.1 HL.out.2.1 HYL.out.symm HBK.out.2 (HA.out.below (HBL.out.trans (HBW.out.mono HBL.out.size))) (HB.out.below (HBL.out.trans (HBW.out.mono HBL.out.size))) HRW.out (by omega) (by omega) hkn1 hkn2 (by omega)
                  (by rw [HNE.out.1]; have := HV1.out; have := HL.out; omega) (by rw [HNE.out.2]; have := HV2.out; have := HL.out; omega) (by rw [HBK.out.1]; have := HBD.out; have := HL.out; omega) (by rw [HBK.out.1]; have := HBD.out; omega))
              have c1 := HRW.out.cellD (j := kn) (by rw [HYL.out]; omega)
              have f1 := HRW.out.free kn
              have k0 : (0 : Int) ≤ (kn : Int) := by omega
              have k1 : (kn : Int) < (L : Int) := by omega
              obtain ⟨z, hz⟩ : ∃ z, z = bk a b xs kn := ⟨_, rfl⟩
              rw [← hz] at HCB
              have HZ := Lib.hid hz
              clear hz
              go_wp2_with fail
              with_reducible refine (HCB.out).mono ?_
              rintro e w' ⟨rfl, q, rfl⟩
              go_wp2_with fail
              have hkz : wr.heap.size = wr.heap.size := rfl
              go_roundg (la + 1 + (m + 1) + 3 - ((kn : Int) + 2)).toNat
              case measure => omega
              case rel =>
                refine ⟨t + 1, (kn : Int) + 2, ys.set kn z, rfl, Lib.hid (by have := HK.out; omega), by omega, by omega, Nat.le_refl _, Lib.hid (by rw [HZ.out]; exact HM.out.put HXN.out HK.out rfl hkn1 hkx (by have := HL.out; omega)), Lib.hid ?_, Lib.hid ?_⟩
                · exact (show Row (wr.drewN q) wo.heap.size ys from HRW.out).set kn z
                · exact set_grown _ _ _ _ (HBW.out.trans ((drawn_below wr q).mono HBW.out.size)) (Nat.le_refl _)
            · have hq1 : (L : Int) - 1 ≤ k := by omega
              go_wp2_with fail
              go_roundg (la + 1 + (m + 1) + 3 - (k + 2)).toNat
              case measure => omega
              case rel => exact ⟨t + 1, k + 2, ys, rfl, Lib.hid (by have := HK.out; omega), by omega, by omega, Nat.le_refl _, Lib.hid (HM.out.skip HXN.out HK.out (.inr (by rw [HXL.out]; exact hq1))), HRW, HBW⟩
          · have hp1 : k ≤ 0 := by omega
            go_wp2_with fail
            go_roundg (la + 1 + (m + 1) + 3 - (k + 2)).toNat
            case measure => omega
            case rel => exact ⟨t + 1, k + 2, ys, rfl, Lib.hid (by have := HK.out; omega), by omega, by omega, Nat.le_refl _, Lib.hid (HM.out.skip HXN.out HK.out (.inl hp1)), HRW, HBW⟩
        · have hgt : (la : Int) + 1 + ((m : Int) + 1) < k := by omega
          have HRN : Hid (Ro a b (m + 1) ys) := Lib.hid (HM.out.done (by have := HL.out; omega) HRO.out)
          have HOW3 := Lib.hid (own_below HOW.out HBW.out)
          have HHE3 : Hid (Held wr a b w.heap.size gs) := Lib.hid (HHELD.out.kept HBW.out)
          have hs3 := HBW.out.size
          have hso := HBL.out.size
          have hgl : gs.length ≤ 803 := by have := HGL.out; omega
          obtain ⟨h, hh⟩ : ∃ h, h = wo.heap.size := ⟨_, rfl⟩
          have HHH := Lib.hid hh
          rw [← hh] at HRW ⊢
          clear hh
          go_wp2_with (at_builtin; refine wpList_append_own _ rfl _ _ 45 rfl w.heap.size 49 i0 _ 1 24 Try.underlying45 hi0 hz0 hz1 hz2 rfl (by decide) _ gs.length (gs.map (rowV L)) rfl (HOW3.out.alloc _) ⟨_, 0, none⟩ 1 1 [.slice (some ⟨h, 0, none⟩) L L] rfl rfl (World.news_of_block (alloc_at _ rfl)) (by intro u hu; simp at hu; rcases hu with rfl; rfl) (by simp only [maxLen]; omega) (by omega) (by simp; omega) ?_; intro v' w4 hown4 hg4 _)
          have hwa := World.grownBy_alloc wr (.cells #[.slice (some ⟨h, 0, none⟩) L L] 49) none
          have HHE4 : Hid (Held w4 a b w.heap.size gs) := Lib.hid ((HHE3.out.kept (alloc1 _ _)).grown (HOW3.out.alloc (.cells #[.slice (some ⟨h, 0, none⟩) L L] 49)) hg4)
          have HRW4 : Hid (Row w4 h ys) := Lib.hid (by
            have h1 : Row (wr.alloc (.cells #[.slice (some ⟨h, 0, none⟩) L L] 49)) h ys := HRW.out.kept (alloc1 _ _)
            exact h1.grown (HOW3.out.alloc (.cells #[.slice (some ⟨h, 0, none⟩) L L] 49)) hg4)
          have HBL4 : Hid (Below w.heap.size w w4) := Lib.hid (((HBL.out.trans (HBW.out.mono hso)).alloc (by omega) _).grown hg4 (by simp; omega) (fun j ej => own_base HOW3.out j ej))
          rw [← rowV_map] at hown4
          rw [show gs.length + 1 = (gs ++ [h]).length by simp] at hown4
          clear hg4 hwa
          go_wp2_with fail
          go_roundg (d0 + 1 - (m + 1))
          case measure => omega
          case rel => exact ⟨m + 1, h, gs ++ [h], by go_num, by omega, Nat.le_refl _, rfl, Lib.hid (by have := HGL.out; simp; omega), hown4, HHE4.out.snoc (by have := HHH.out; omega) HRW4.out (by rw [HGL.out]; exact HRN.out), ⟨ys, HRW4.out, HRN.out⟩, HBL4.out⟩
end Go.Proofs.Ytcipecjbibpcbaa.M
