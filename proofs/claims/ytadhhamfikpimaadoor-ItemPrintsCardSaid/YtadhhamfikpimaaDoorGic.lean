/-
  The contract of the reader's takeBare.
  The contract of the reader's takeBegin.
-/
import Derived.Test.YtadhhamfikpimaaDoorGib
import Derived.Test.YtadhhamfikpimaaDoorGd
import Derived.Laws.OwnMore
import Derived.IntWalk
import Derived.Test.YtadhhamfikpimaaDoorGg
import Derived.Deep.DeepCutAuto
namespace Go.Proofs.YtadhhamfikpimaaDoor.I
set_option linter.unusedVariables false
set_option linter.unusedSimpArgs false
open Go.RowKit
open T
open O (own_ne grown_of grown_set ne_type wpStill_skip)
variable {w w' : World} {base : Zone} {rb : Nat} {q : PV} {s : Ps} {line g cap : Nat} {iv : Value}

/-- Operations whose guard is false, and whose slots are empty: passed over all at once. -/
def undefAt (a : Act) (d : Option Tmp) : Bool := match d with
  | none => true
  | some k => match a.tmps[k]? with
    | some (.tuple x) => x.size == 0
    | some _ => false
    | none => true
theorem put_undef {a : Act} {d : Option Tmp} (h : undefAt a d = true) : a.put d undef = a := by
  cases d with
  | none => rfl
  | some k =>
    unfold undefAt at h
    simp only at h
    unfold Act.put
    simp only
    cases hk : a.tmps[k]? with
    | none =>
      have : a.tmps.size ≤ k := by
        rcases Nat.lt_or_ge k a.tmps.size with hl | hl
        · rw [Array.getElem?_eq_getElem hl] at hk; cases hk
        · exact hl
      rw [Array.setIfInBounds_eq_of_size_le this]
    | some v =>
      rw [hk] at h
      cases v with
      | tuple x =>
        simp only [beq_iff_eq] at h
        have hx : x = #[] := Array.eq_empty_of_size_eq_zero h
        subst hx
        have : a.tmps.setIfInBounds k undef = a.tmps := by
          apply Array.ext_getElem?
          intro i
          rw [Array.getElem?_setIfInBounds]
          split
          · next e =>
            subst e
            rw [hk]
            split
            · rfl
            · next hlt => rw [Array.getElem?_eq_none (by omega)] at hk; cases hk
          · rfl
        rw [this]
      | _ => cases h
theorem wpStill_skips {P : Program} {ops : Array Oper} {w : World} {Q : Act → Prop} {a : Act} : ∀ (n : Nat) {L : List Oper}, ((L.take n).all fun o => !Region.wanted o (yielded ops a.tmps) && undefAt a o.dst) = true → wpStill P ops w Q (L.drop n) a → wpStill P ops w Q L a
  | 0, _, _, hk => hk
  | n + 1, [], _, hk => hk
  | n + 1, o :: r, h, hk => by
    rw [List.take_succ_cons, List.all_cons, Bool.and_eq_true, Bool.and_eq_true] at h
    rw [List.drop_succ_cons] at hk
    refine wpStill_skip (by simpa using h.1.1) ?_
    rw [put_undef h.1.2]
    exact wpStill_skips n h.2 hk

theorem itCells_length (xs : List It) : (itCells xs).length = xs.length * 6 := by
  induction xs with
  | nil => rfl
  | cons x r ih => simp only [itCells, List.flatMap_cons, List.length_append, List.length_cons, List.length_nil] at ih ⊢; omega
theorem itCells_last (ys : List It) (y : It) : (itCells (ys ++ [y]))[ys.length * 6 + 4]? = some (.string ⟨y.tx.toArray⟩) ∧ (itCells (ys ++ [y])).set (ys.length * 6 + 5) (.bool true) = itCells (ys ++ [⟨y.id, y.lv, y.ct, y.an, y.tx, true⟩]) := by
  rw [itCells_snoc, itCells_snoc]
  constructor
  · rw [List.getElem?_append_right (by rw [itCells_length]; omega), itCells_length, show ys.length * 6 + 4 - ys.length * 6 = 4 by omega]; rfl
  · rw [List.set_append_right _ _ (by rw [itCells_length]; omega), itCells_length, show ys.length * 6 + 5 - ys.length * 6 = 5 by omega]; rfl

set_option maxRecDepth 100000 in
set_option maxHeartbeats 400000 in
theorem bare_none (h : Rd w base rb q s line g cap iv) (hc : s.con = 0) :
    Calls Tryd.prog 119 #[.pointer (some ⟨rb, 0, none⟩)] w (Fell w base rb line 3) := by
  have HF := Lib.hid ((h.below (O.drew_below w)).fell (w := w) (Kp.refl base w).drew 3)
  have c12 := h.cells.2.2.2
  generalize s.con = con at *
  have hd : decide (0 < con) = false := decide_eq_false (by omega)
  clear h hc
  go_enter Tryd.func119, Tryd.ntmps119
  go_wp2_with fail
  refine wp_region_still_tail 17 (by kernel_rfl) (by kernel_rfl) ?_
  simp only [List.take_succ_cons, List.take_zero, List.drop_succ_cons, List.drop_zero]
  iterate 5 still_step
  refine wpStill_step (fun K hK => ?_)
  go_simp
  with_reducible refine hK _ ?_
  clear hK K
  with_reducible refine wpStill_skips 10 (by kernel_rfl) ?_
  simp only [List.drop_succ_cons, List.drop_zero]
  still_step
  refine wpStill_nil ?_
  change wpList _ _ _ _ _ w.drew
  go_wp2_with fail
  with_reducible refine (need_no3 _).mono ?_
  rintro e w' ⟨rfl, rfl⟩
  go_wp2_with fail
  exact ⟨rfl, HF.out⟩

set_option maxRecDepth 100000 in
set_option maxHeartbeats 400000 in
theorem bare_far (h : Rd w base rb q s line g cap iv) (hc : 0 < s.con) (hl : s.con + 1 ≠ line) (hn : s.con ≤ 4194304) (hm : line ≤ 4194304) :
    Calls Tryd.prog 119 #[.pointer (some ⟨rb, 0, none⟩)] w (Fell w base rb line 3) := by
  have HF := Lib.hid ((h.below (O.drew_below w)).fell (w := w) (Kp.refl base w).drew 3)
  have c12 := h.cells.2.2.2
  have c11 := h.cells.2.2.1
  generalize s.con = con at *
  have h0 : (0 : Int) < (con : Int) := by omega
  have hd : decide (0 < con) = true := decide_eq_true (by omega)
  have hw : IntKind.i64.wrap ((line : Int) - 1) = (line : Int) - 1 := IntWalk.i64_in _ (by omega)
  have hb : ((con : Int) == (line : Int) - 1) = false := beq_eq_false_iff_ne.2 (by omega)
  clear h hc hl
  go_enter Tryd.func119, Tryd.ntmps119
  go_wp2_with fail
  go_still_tail 17, (by kernel_rfl)
  change wpList _ _ _ _ _ w.drew
  go_wp2_with fail
  with_reducible refine (need_no3 _).mono ?_
  rintro e w' ⟨rfl, rfl⟩
  go_wp2_with fail
  exact ⟨rfl, HF.out⟩

theorem bared {n k gi vcap : Nat} {ys : List It} {y : It} (h : Rd w base rb q s line g cap (.slice (some ⟨gi, 0, none⟩) n vcap)) (hits : s.its = ys ++ [y]) (hn : n = ys.length + 1) (hk : k = ys.length) :
    Took w base rb q ⟨s.op, ys ++ [⟨y.id, y.lv, y.ct, y.an, y.tx, true⟩], s.con⟩ line (.returned (.tuple #[])) (w.setCell ⟨gi, k * 6 + 5, none⟩ (.bool true)) := by
  subst hk hn
  have hown := h.its
  rw [hits, show (ys ++ [y]).length = ys.length + 1 by simp] at hown
  obtain ⟨hst, hgr⟩ := hown.stored (ys.length * 6 + 5) (.bool true)
  rw [(itCells_last ys y).2] at hst
  have hgi : some rb ≠ some gi := fun e => by
    rcases h.irb with e0 | e0
    · cases e0
    · exact e0 e.symm
  have hgg : some g ≠ some gi := fun e => h.gni e.symm
  refine ⟨rfl, ⟨g, cap, .slice (some ⟨gi, 0, none⟩) (ys.length + 1) vcap, h.hb, by simpa using h.hz, (hgr.block rb h.lt hgi).trans h.blk, ⟨h.stk.1, h.stk.2.grown hgr hgg⟩, h.gz, h.gne, h.gni, h.iz, ?_⟩, (Kp.refl base w).setCell (p := ⟨gi, _, none⟩) (h.iz gi rfl) _⟩
  rw [show (ys ++ [(⟨y.id, y.lv, y.ct, y.an, y.tx, true⟩ : It)]).length = ys.length + 1 by simp]
  exact hst

set_option maxRecDepth 100000 in
set_option maxHeartbeats 1000000 in
theorem bare_at (h : Rd w base rb q s line g cap iv) (ys : List It) (y : It) (hits : s.its = ys ++ [y]) (hc : 0 < s.con) (hl : s.con + 1 = line) (hn : ys.length ≤ 400) (hm : line ≤ 4194304) (bb : Bool) (hbb : bb = !y.tx.isEmpty) :
    Calls Tryd.prog 119 #[.pointer (some ⟨rb, 0, none⟩)] w (TakeEnd w base rb q line (if bb then .inl ⟨s.op, ys ++ [⟨y.id, y.lv, y.ct, y.an, y.tx, true⟩], s.con⟩ else .inr 3)) := by
  have H0 := Lib.hid h
  have c12 := h.cells.2.2.2
  have c11 := h.cells.2.2.1
  have c10 := h.cells.2.1
  have hown := h.its
  rw [hits] at hown
  have hlen : (ys ++ [y]).length = ys.length + 1 := by simp
  rw [hlen] at hown
  obtain ⟨gi, vcap, rfl, hbi, hlt⟩ := hown.form (by omega)
  obtain ⟨l4, l5⟩ := itCells_last ys y
  have y4 : w.cell? ⟨gi, ys.length * 6 + 4, none⟩ = some (.string ⟨y.tx.toArray⟩) := (hown.cellAt _ (by omega)).trans l4
  have z5 := hown.frozenAt (ys.length * 6 + 5)
  have y5 : ∃ b, w.cell? ⟨gi, ys.length * 6 + 5, none⟩ = some (.bool b) := ⟨y.ba, (hown.cellAt _ (by omega)).trans (by rw [itCells_snoc, List.getElem?_append_right (by rw [itCells_length]; omega), itCells_length, show ys.length * 6 + 5 - ys.length * 6 = 5 by omega]; rfl)⟩
  obtain ⟨b5, y5⟩ := y5
  have hcap : ys.length + 1 ≤ vcap ∧ vcap ≤ maxLen := by
    rcases hown.2 with ⟨e, _⟩ | ⟨g', cp, cur, e, _, _, a1, a2, _⟩
    · cases e
    · injection e with f1 f2 f3
      subst f3
      exact ⟨a1, a2⟩
  obtain ⟨k, hk⟩ : ∃ k, k = ys.length := ⟨_, rfl⟩
  rw [← hk] at y4 y5 z5 c10 hcap
  have hk4 : k ≤ 400 := by omega
  obtain ⟨yt, hyt⟩ : ∃ x : ByteArray, x = ⟨y.tx.toArray⟩ := ⟨_, rfl⟩
  rw [← hyt] at y4
  have HNE : Hid ((!yt.toList.isEmpty) = bb) := Lib.hid (by rw [Lib.toList_data, hyt, list_data, hbb])
  obtain ⟨o, ho⟩ : ∃ o : Ps ⊕ Nat, o = if bb then .inl ⟨s.op, ys ++ [⟨y.id, y.lv, y.ct, y.an, y.tx, true⟩], s.con⟩ else .inr 3 := ⟨_, rfl⟩
  rw [← ho]
  have HO := Lib.hid ho
  have HE1 : Hid (∀ W : World, Below w.heap.size w W → Fell w base rb line 3 (.panicked (fault 3)) W) := Lib.hid fun W e => (H0.out.below e).fell (H0.out.kp e) 3
  have HE2 : Hid (∀ W : World, Below w.heap.size w W → Took w base rb q ⟨s.op, ys ++ [⟨y.id, y.lv, y.ct, y.an, y.tx, true⟩], s.con⟩ line (.returned (.tuple #[])) (W.setCell ⟨gi, k * 6 + 5, none⟩ (.bool true))) := Lib.hid fun W e => by
    have hW : Rd W base rb q s line g cap (.slice (some ⟨gi, 0, none⟩) (ys.length + 1) vcap) := H0.out.below e
    have := bared hW hits rfl hk
    exact ⟨this.1, this.2.1, (H0.out.kp e).trans this.2.2⟩
  generalize s.con = con at *
  have hd : decide (0 < con) = true := decide_eq_true (by omega)
  have hw : IntKind.i64.wrap ((line : Int) - 1) = (line : Int) - 1 := IntWalk.i64_in _ (by omega)
  have hb : ((con : Int) == (line : Int) - 1) = true := beq_iff_eq.2 (by omega)
  unfold maxLen at hcap
  clear hown hbi hlt hits hlen hbb hyt h hc hl hm l4 l5 hn hk ho
  go_enter Tryd.func119, Tryd.ntmps119
  go_wp2_with fail
  go_still_tail 17, (by kernel_rfl)
  change wpList _ _ _ _ _ w.drew
  go_wp2_with fail
  with_reducible refine (need_yes 3 _).mono ?_
  rintro e w' ⟨rfl, rfl⟩
  clear hd hw hb c11 c12
  go_wp2_with fail
  go_quiet (fail)
  go_wp2_with fail
  rw [HNE.out]
  cases bb
  · with_reducible refine (need_no3 _).mono ?_
    rintro e w' ⟨rfl, rfl⟩
    have ho : o = .inr 3 := HO.out.trans (if_neg (by decide))
    go_wp2_with fail
    exact ⟨rfl, HE1.out _ (O.below_drewN (Below.refl _ _) _)⟩
  · with_reducible refine (need_yes 3 _).mono ?_
    rintro e w' ⟨rfl, rfl⟩
    have HO' := Lib.hid (HO.out.trans (if_pos rfl))
    clear HO
    go_wp2_with fail
    go_end0
    rw [HO'.out]
    exact HE2.out _ (O.below_drewN (Below.refl _ _) _)
theorem bare_any (h : Rd w base rb q s line g cap iv) (hi : 0 < s.con → s.con + 1 = line → s.its ≠ []) (hn : s.its.length ≤ 400) (hc : s.con ≤ 4194304) (hm : line ≤ 4194304) :
    Calls Tryd.prog 119 #[.pointer (some ⟨rb, 0, none⟩)] w (TakeEnd w base rb q line (bare s line)) := by
  unfold bare
  by_cases h0 : s.con = 0
  · rw [if_neg (by omega)]
    exact bare_none h h0
  by_cases h1 : s.con + 1 = line
  · rw [if_pos ⟨by omega, h1⟩]
    cases hl : s.its.getLast? with
    | none => exact absurd (List.getLast?_eq_none_iff.1 hl) (hi (by omega) h1)
    | some y =>
      rw [List.getLast?_eq_some_iff] at hl
      obtain ⟨ys, hys⟩ := hl
      have := bare_at h ys y hys (by omega) h1 (by rw [hys] at hn; simp at hn; omega) hm _ rfl
      have hdl : s.its.dropLast = ys := by rw [hys]; exact drop_snoc ys y
      rw [hdl]
      simp only
      by_cases he : y.tx = []
      · rw [if_pos he]
        rw [he] at this
        exact this
      · rw [if_neg he]
        rw [show (!y.tx.isEmpty) = true by simpa using he] at this
        exact this
  · rw [if_neg (by omega)]
    exact bare_far h (by omega) h1 hc hm
end Go.Proofs.YtadhhamfikpimaaDoor.I

namespace Go.Proofs.YtadhhamfikpimaaDoor.I
set_option linter.unusedVariables false
set_option linter.unusedSimpArgs false
open Go.RowKit
open T
open O (own_ne grown_of grown_set ne_type)
attribute [local go_sem ↓] Go.wp_at_zero Go.wp_at_succ
variable {w w' : World} {base : Zone} {rb : Nat} {q : PV} {s : Ps} {line g cap : Nat} {iv : Value}

theorem below_eq {a b : World} (h : a = b) : Below a.heap.size a b := by subst h; exact Below.refl _ _
theorem rd_pol (h : Rd w base rb q s line g cap iv) : w.cell? ⟨rb, 0, none⟩ = some (.int .i64 q.n0) ∧ w.cell? ⟨rb, 1, none⟩ = some (.int .i64 q.n1) ∧ w.cell? ⟨rb, 2, none⟩ = some (.int .i64 q.n2) ∧ w.cell? ⟨rb, 3, none⟩ = some (.int .i64 q.n3) ∧ w.cell? ⟨rb, 4, none⟩ = some (.int .i64 q.n4) ∧ w.cell? ⟨rb, 5, none⟩ = some (.int .i64 q.n5) ∧ w.cell? ⟨rb, 6, none⟩ = some (.string q.hid) ∧ w.cell? ⟨rb, 7, none⟩ = some q.uv ∧ w.cell? ⟨rb, 8, none⟩ = some q.fv :=
  ⟨L.blk_cell h.blk 0, L.blk_cell h.blk 1, L.blk_cell h.blk 2, L.blk_cell h.blk 3, L.blk_cell h.blk 4, L.blk_cell h.blk 5, L.blk_cell h.blk 6, L.blk_cell h.blk 7, L.blk_cell h.blk 8⟩
def FtC (n0 n1 n2 n3 n4 n5 : Int) (hid : ByteArray) (uv fv : Value) (l : Int) (k : Nat) (b : Bool) : Prop :=
  ∀ W : World, Calls Tryd.prog 22 #[.agg #[.int .i64 n0, .int .i64 n1, .int .i64 n2, .int .i64 n3, .int .i64 n4, .int .i64 n5, .string hid, uv, fv], L.lab l k] W fun e w' => e = .returned (.bool b) ∧ Below W.heap.size W w'
theorem FtC.call {n0 n1 n2 n3 n4 n5 : Int} {hid : ByteArray} {uv fv : Value} {l : Int} {k : Nat} {b : Bool} (h : FtC n0 n1 n2 n3 n4 n5 hid uv fv l k b) (W : World) :
    Calls Tryd.prog 22 #[.agg #[.int .i64 n0, .int .i64 n1, .int .i64 n2, .int .i64 n3, .int .i64 n4, .int .i64 n5, .string hid, uv, fv], L.lab l k] W fun e w' => e = .returned (.bool b) ∧ Below W.heap.size W w' := h W
theorem fits_c (n0 n1 n2 n3 n4 n5 : Int) (hid : ByteArray) (uv fv : Value) (l : Int) (k : Nat) (hk : k < 18446744073709551616) {b : Bool} (h : O.fitsB n0 n1 l k = b) : FtC n0 n1 n2 n3 n4 n5 hid uv fv l k b := fun W => by
  have := O.fits_any n0 n1 n2 n3 n4 n5 hid uv fv l k W hk
  rw [h] at this
  exact this
def BlC (l m : Int) (c d : Nat) (b : Bool) : Prop := ∀ W : World, Calls Tryd.prog 20 #[L.lab l c, L.lab m d] W fun e w' => e = .returned (.bool b) ∧ Below W.heap.size W w'
theorem BlC.call {l m : Int} {c d : Nat} {b : Bool} (h : BlC l m c d b) (W : World) : Calls Tryd.prog 20 #[L.lab l c, L.lab m d] W fun e w' => e = .returned (.bool b) ∧ Below W.heap.size W w' := h W
theorem below_c {l m : Int} {c d : Nat} {b : Bool} (h : L.belowB l c m d = b) (hd : d < 18446744073709551616) (hc : c < 18446744073709551616) : BlC l m c d b := fun W => by
  have := L.below_any l m c d W hc hd
  rw [h] at this
  exact this

theorem pushLab {W w3 : World} {o : Obj} {m g3 cap3 : Nat} {a : Lb} (HR : Rd W base rb q s line g cap iv) (HB : Kp base w W) (hm : m = s.op.length)
    (hg : (W.alloc o).drew.grownBy w3 (some g)) (hrow : Row w3 base.lo 2 g3 (m + 1) cap3 (labCells s.op.reverse ++ [.int .i64 a.1, .int .u64 (a.2 : Int)])) (hat : g3 = g ∨ g3 = W.heap.size + 1) :
    Took w base rb q ⟨a :: s.op, s.its, s.con⟩ line (.returned (.tuple #[])) (w3.setCell ⟨rb, 9, none⟩ (.slice (some ⟨g3, 0, none⟩) (m + 1) cap3)) := by
  subst hm
  have hgW : W.grownBy w3 (some g) := ⟨hg.os, hg.tape, hg.output, Nat.le_trans (by simp) hg.size, fun k hk hne => (hg.block k (by simp; omega) hne).trans (Below.heap_alloc W o k hk)⟩
  have hrb : some rb ≠ some g := fun e => HR.gne (by injection e with e; exact e.symm)
  have blk3 := (hgW.block rb HR.lt hrb).trans HR.blk
  have its3 := HR.its.kept hgW (.inr HR.gni)
  have hset := grown_set w3 ⟨rb, 9, none⟩ (.slice (some ⟨g3, 0, none⟩) (s.op.length + 1) cap3)
  have hg3 : g3 ≠ rb := by
    rcases hat with e | e
    · rw [e]; exact HR.gne
    · have := HR.lt; omega
  refine ⟨rfl, ⟨g3, cap3, iv, HR.hb, by have := HR.hz; have := hgW.size; simp; omega, ?_, ⟨by simp, ?_⟩, ?_, hg3, ?_, HR.iz, ?_⟩, ?_⟩
  · have := L.blk_set blk3 9 (.slice (some ⟨g3, 0, none⟩) (s.op.length + 1) cap3)
    exact this
  · rw [List.reverse_cons, labCells_snoc]
    exact hrow.grown hset (by simpa using hg3)
  · rcases hat with e | e
    · rw [e]; exact HR.gz
    · have := HR.hz; have := HR.size; exact ⟨by omega, by omega⟩
  · intro e
    rcases hat with e' | e'
    · exact HR.gni (by rw [e, e'])
    · have := own_lt HR.its _ e; omega
  · exact its3.kept hset (own_ne its3 (fun cs => ne_type (by decide) blk3))
  · exact ((HB.grown hgW HR.size HR.hz (fun k hk => by injection hk with hk; rw [← hk]; exact HR.gz)).setCell (p := ⟨rb, 9, none⟩) HR.hb _)
def DpC (g m cap : Nat) (z : Int) : Prop := ∀ W : World, Calls Tryd.prog 52 #[.slice (some ⟨g, 0, none⟩) m cap] W fun e w' => e = .returned (.int .i64 z) ∧ W = w'
theorem DpC.call {m : Nat} {z : Int} (h : DpC g m cap z) (W : World) : Calls Tryd.prog 52 #[.slice (some ⟨g, 0, none⟩) m cap] W fun e w' => e = .returned (.int .i64 z) ∧ W = w' := h W

set_option maxRecDepth 100000 in
set_option maxHeartbeats 1000000 in
theorem begin_bad (h : Rd w base rb q s line g cap iv) (x : ByteArray) (ht : Tab w) (HP : Hid (O.Parsed x 0 0 false)) :
    Calls Tryd.prog 120 #[.pointer (some ⟨rb, 0, none⟩), .string x] w (Fell w base rb line 3) := by
  have H := Lib.hid h
  have HTB := Lib.hid ht
  clear h ht
  go_enter Tryd.func120, Tryd.ntmps120
  go_wp2_with fail
  with_reducible refine (HP.out.call _ HTB.out).mono ?_
  rintro e w1 ⟨rfl, hb1⟩
  have HF := Lib.hid ((H.out.below (hb1.trans ((alloc1 w1 (.cells #[.int .i64 0, .int .u64 0] 40)).mono hb1.size))).fell (w := w) (H.out.kp (hb1.trans ((alloc1 w1 _).mono hb1.size))) 3)
  clear hb1 HTB HP
  go_wp2_with fail
  with_reducible refine (need_no3 _).mono ?_
  rintro e w' ⟨rfl, rfl⟩
  go_wp2_with fail
  exact ⟨rfl, HF.out⟩

set_option maxRecDepth 100000 in
set_option maxHeartbeats 2000000 in
theorem begin_unfit (h : Rd w base rb q s line g cap iv) (hop : s.op ≠ []) (x : ByteArray) (ht : Tab w) (l : Int) (k : Nat) (hk : k < 18446744073709551616) (HP : Hid (O.Parsed x l k true)) (HF : Hid (O.fitsB q.n0 q.n1 l k = false)) :
    Calls Tryd.prog 120 #[.pointer (some ⟨rb, 0, none⟩), .string x] w (Fell w base rb line 5) := by
  have H := Lib.hid h
  have HTP := Lib.hid (h.topC hop)
  have HTB := Lib.hid ht
  obtain ⟨q0, q1, q2, q3, q4, q5, qh, qu, qf⟩ := q
  clear h ht
  go_enter Tryd.func120, Tryd.ntmps120
  go_wp2_with fail
  with_reducible refine (HP.out.call _ HTB.out).mono ?_
  rintro e w1 ⟨rfl, hb1⟩
  have HB1 := Lib.hid hb1
  clear hb1 HTB HP
  go_wp2_with fail
  with_reducible refine (need_yes 3 _).mono ?_
  rintro e w' ⟨rfl, rfl⟩
  obtain ⟨xb, hxb⟩ : ∃ xb, xb = w1.heap.size := ⟨_, rfl⟩
  obtain ⟨w2, hw2⟩ : ∃ W : World, W = w1.alloc (.cells #[.int .i64 l, .int .u64 (k : Int)] 40) := ⟨_, rfl⟩
  have hbW : Below w1.heap.size w1 w2 := by rw [hw2]; exact alloc1 _ _
  have HX := Lib.hid (show w2.heap[xb]? = some (.cells #[.int .i64 l, .int .u64 (k : Int)] 40 (0, 0)) by rw [hw2, hxb]; exact heap_alloc_new w1 _)
  have HB := Lib.hid (show Below w.heap.size w w2 from HB1.out.trans (hbW.mono HB1.out.size))
  have HR := Lib.hid (H.out.below HB.out)
  rw [← hw2, ← hxb]
  clear hw2 hbW HB1 hxb
  go_wp2_with fail
  refine wp_region_held_drew (S := (Keeps w2)) (by kernel_rfl) (keeps_drew _) (fun hH0 => ?_)
  refine wpAnyH_take (i := 0) (oi := { dst := some 13, op := Go.Op.move (Go.Operand.tmp 0), type := 118, pos := "item.go:123", after := #[], guard := none }) (v := ?_) rfl (by kernel_rfl) (by kernel_rfl) (by kernel_rfl) (fun _ _ _ h => h) (Or.inl ⟨by rfl, ?_⟩) hH0 ?_
  rotate_left
  · (intro wz hSz; (try dsimp only at hSz); go_simp; try with_reducible rfl)
  simp only [Act.put, List.setIfInBounds_toArray, List.set_cons_zero, List.set_cons_succ]
  refine wpAnyH_take (i := 1) (oi := { dst := some 14, op := Go.Op.nilCheck (Go.Operand.tmp 13), type := 0, pos := "item.go:123", after := #[{ on := 0, ground := Go.Ground.data }], guard := none }) (v := ?_) rfl (by kernel_rfl) (by kernel_rfl) (by kernel_rfl) (fun _ _ _ h => h) (Or.inl ⟨by rfl, ?_⟩) hH0 ?_
  rotate_left
  · (intro wz hSz; (try dsimp only at hSz); go_simp; try with_reducible rfl)
  simp only [Act.put, List.setIfInBounds_toArray, List.set_cons_zero, List.set_cons_succ]
  refine wpAnyH_take (i := 2) (oi := { dst := some 15, op := Go.Op.fieldAddr 95 (Go.Operand.tmp 14) 0, type := 0, pos := "item.go:123", after := #[{ on := 1, ground := Go.Ground.data }], guard := none }) (v := ?_) rfl (by kernel_rfl) (by kernel_rfl) (by kernel_rfl) (fun _ _ _ h => h) (Or.inl ⟨by rfl, ?_⟩) hH0 ?_
  rotate_left
  · (intro wz hSz; (try dsimp only at hSz); go_simp; try with_reducible rfl)
  simp only [Act.put, List.setIfInBounds_toArray, List.set_cons_zero, List.set_cons_succ]
  refine wpAnyH_take (i := 3) (oi := { dst := some 16, op := Go.Op.load 26 (Go.Operand.tmp 15), type := 26, pos := "item.go:123", after := #[{ on := 2, ground := Go.Ground.data }], guard := none }) (v := ?_) rfl (by kernel_rfl) (by kernel_rfl) (by kernel_rfl) (fun _ _ _ h => h) (Or.inl ⟨by rfl, ?_⟩) hH0 ?_
  rotate_left
  · (intro wz hSz; have hcz := True.intro; obtain ⟨a0, a1, a2, a3, a4, a5, a6, a7, a8⟩ := rd_pol (HR.out.below hSz); go_simp; try with_reducible rfl)
  simp only [Act.put, List.setIfInBounds_toArray, List.set_cons_zero, List.set_cons_succ]
  refine wpAnyH_take (i := 4) (oi := { dst := some 17, op := Go.Op.load 40 (Go.Operand.tmp 4), type := 40, pos := "item.go:123", after := #[], guard := none }) (v := ?_) rfl (by kernel_rfl) (by kernel_rfl) (by kernel_rfl) (fun _ _ _ h => h) (Or.inl ⟨by rfl, ?_⟩) hH0 ?_
  rotate_left
  · (intro wz hSz; have hcz := True.intro; obtain ⟨b0, b1⟩ := O.lab_cells ((Below.block hSz _ (L.blk_lt HX.out)).trans HX.out); go_simp; try with_reducible rfl)
  simp only [Act.put, List.setIfInBounds_toArray, List.set_cons_zero, List.set_cons_succ]
  refine wpAnyH_ready (rs := [5]) (by kernel_rfl) (by simp) ?_
  refine AllReadyH.cons (o := { dst := some 18, op := Go.Op.call { callee := Go.Callee.value (Go.Operand.func 22), args := #[Go.Operand.tmp 16, Go.Operand.tmp 17], argTypes := #[26, 40] }, type := 4, pos := "item.go:123", after := #[{ on := 3, ground := Go.Ground.data }, { on := 4, ground := Go.Ground.data }], guard := none }) rfl (fun K hK => ?_) AllReadyH.nil
  go_simp
  with_reducible refine ((fits_c q0 q1 q2 q3 q4 q5 qh qu qf l k hk HF.out).call _).mono ?_
  rintro r wq1 ⟨rfl, hbq⟩
  go_wp2_with fail
  refine hK.out _ _ (Keeps.trans hH0 hbq) (fun hJ => ?_)
  refine wpAnyH_more (S' := Keeps wq1) (fun z hz => Keeps.trans hJ hz) _ _ _ _ ?_
  replace HB := Lib.hid (HB.out.trans (Below.mono hJ HB.out.size))
  replace HX := Lib.hid ((Below.block hJ _ (L.blk_lt HX.out)).trans HX.out)
  replace HR := Lib.hid (HR.out.below hJ)
  have hH1 : Keeps wq1 wq1 := Below.refl _ _
  clear hK K hbq hH0 hJ
  refine wpAnyH_take (i := 6) (oi := { dst := some 19, op := Go.Op.move (Go.Operand.tmp 18), type := 4, pos := "item.go:123", after := #[{ on := 5, ground := Go.Ground.data }, { on := 5, ground := Go.Ground.chain }], guard := none }) (v := ?_) rfl (by kernel_rfl) (by kernel_rfl) (by kernel_rfl) (fun _ _ _ h => h) (Or.inl ⟨by rfl, ?_⟩) hH1 ?_
  rotate_left
  · (intro wz hSz; (try dsimp only at hSz); go_simp; try with_reducible rfl)
  simp only [Act.put, List.setIfInBounds_toArray, List.set_cons_zero, List.set_cons_succ]
  refine wpAnyH_take (i := 7) (oi := { dst := some 20, op := Go.Op.move (Go.Operand.tmp 0), type := 118, pos := "item.go:123", after := #[{ on := 6, ground := Go.Ground.guard }], guard := some (6, true) }) (v := undef) rfl (by kernel_rfl) (by kernel_rfl) (by kernel_rfl) (fun _ _ _ h => h) (Or.inr ⟨by rfl, rfl⟩) hH1 ?_
  simp only [Act.put, List.setIfInBounds_toArray, List.set_cons_zero, List.set_cons_succ]
  refine wpAnyH_take (i := 8) (oi := { dst := some 21, op := Go.Op.nilCheck (Go.Operand.tmp 20), type := 0, pos := "item.go:123", after := #[{ on := 7, ground := Go.Ground.data }, { on := 6, ground := Go.Ground.guard }], guard := some (6, true) }) (v := undef) rfl (by kernel_rfl) (by kernel_rfl) (by kernel_rfl) (fun _ _ _ h => h) (Or.inr ⟨by rfl, rfl⟩) hH1 ?_
  simp only [Act.put, List.setIfInBounds_toArray, List.set_cons_zero, List.set_cons_succ]
  refine wpAnyH_take (i := 9) (oi := { dst := some 22, op := Go.Op.fieldAddr 95 (Go.Operand.tmp 21) 1, type := 0, pos := "item.go:123", after := #[{ on := 8, ground := Go.Ground.data }, { on := 6, ground := Go.Ground.guard }], guard := some (6, true) }) (v := undef) rfl (by kernel_rfl) (by kernel_rfl) (by kernel_rfl) (fun _ _ _ h => h) (Or.inr ⟨by rfl, rfl⟩) hH1 ?_
  simp only [Act.put, List.setIfInBounds_toArray, List.set_cons_zero, List.set_cons_succ]
  refine wpAnyH_take (i := 10) (oi := { dst := some 23, op := Go.Op.load 84 (Go.Operand.tmp 22), type := 84, pos := "item.go:123", after := #[{ on := 9, ground := Go.Ground.data }, { on := 6, ground := Go.Ground.guard }], guard := some (6, true) }) (v := undef) rfl (by kernel_rfl) (by kernel_rfl) (by kernel_rfl) (fun _ _ _ h => h) (Or.inr ⟨by rfl, rfl⟩) hH1 ?_
  simp only [Act.put, List.setIfInBounds_toArray, List.set_cons_zero, List.set_cons_succ]
  refine wpAnyH_take (i := 12) (oi := { dst := some 25, op := Go.Op.load 40 (Go.Operand.tmp 4), type := 40, pos := "item.go:123", after := #[{ on := 6, ground := Go.Ground.guard }], guard := some (6, true) }) (v := undef) rfl (by kernel_rfl) (by kernel_rfl) (by kernel_rfl) (fun _ _ _ h => h) (Or.inr ⟨by rfl, rfl⟩) hH1 ?_
  simp only [Act.put, List.setIfInBounds_toArray, List.set_cons_zero, List.set_cons_succ]
  refine wpAnyH_take (i := 11) (oi := { dst := some 24, op := Go.Op.call { callee := Go.Callee.value (Go.Operand.func 82), args := #[Go.Operand.tmp 23], argTypes := #[84] }, type := 40, pos := "item.go:123", after := #[{ on := 10, ground := Go.Ground.data }, { on := 6, ground := Go.Ground.chain }, { on := 6, ground := Go.Ground.guard }], guard := some (6, true) }) (v := undef) rfl (by kernel_rfl) (by kernel_rfl) (by kernel_rfl) (fun _ _ _ h => h) (Or.inr ⟨by rfl, rfl⟩) hH1 ?_
  simp only [Act.put, List.setIfInBounds_toArray, List.set_cons_zero, List.set_cons_succ]
  refine wpAnyH_take (i := 13) (oi := { dst := some 26, op := Go.Op.call { callee := Go.Callee.value (Go.Operand.func 20), args := #[Go.Operand.tmp 24, Go.Operand.tmp 25], argTypes := #[40, 40] }, type := 4, pos := "item.go:123", after := #[{ on := 11, ground := Go.Ground.data }, { on := 12, ground := Go.Ground.data }, { on := 11, ground := Go.Ground.chain }, { on := 6, ground := Go.Ground.guard }], guard := some (6, true) }) (v := undef) rfl (by kernel_rfl) (by kernel_rfl) (by kernel_rfl) (fun _ _ _ h => h) (Or.inr ⟨by rfl, rfl⟩) hH1 ?_
  simp only [Act.put, List.setIfInBounds_toArray, List.set_cons_zero, List.set_cons_succ]
  refine wpAnyH_take (i := 14) (oi := { dst := some 27, op := Go.Op.pick (Go.Operand.tmp 19) (Go.Operand.tmp 26) (Go.Operand.const (Go.Value.bool false)), type := 4, pos := "item.go:123", after := #[{ on := 6, ground := Go.Ground.data }, { on := 13, ground := Go.Ground.data }], guard := none }) (v := ?_) rfl (by kernel_rfl) (by kernel_rfl) (by kernel_rfl) (fun _ _ _ h => h) (Or.inl ⟨by rfl, ?_⟩) hH1 ?_
  rotate_left
  · (intro wz hSz; (try dsimp only at hSz); go_simp; try with_reducible rfl)
  simp only [Act.put, List.setIfInBounds_toArray, List.set_cons_zero, List.set_cons_succ]
  refine wpAnyH_ready (rs := [15]) (by kernel_rfl) (by simp) ?_
  refine AllReadyH.cons (o := { dst := some 28, op := Go.Op.call { callee := Go.Callee.value (Go.Operand.func 89), args := #[Go.Operand.tmp 27, Go.Operand.const (Go.Value.int Go.IntKind.i64 5)], argTypes := #[4, 27] }, type := 0, pos := "item.go:123", after := #[{ on := 14, ground := Go.Ground.data }, { on := 13, ground := Go.Ground.chain }], guard := none }) rfl (fun K hK => ?_) AllReadyH.nil
  go_simp
  with_reducible refine (need_no5 _).mono ?_
  rintro r wq9 ⟨rfl, rfl⟩
  go_wp2_with fail
  exact ⟨rfl, (HR.out.below hH1).fell (H.out.kp (HB.out.trans (Below.mono hH1 HB.out.size))) 5⟩

set_option maxRecDepth 100000 in
set_option maxHeartbeats 2000000 in
theorem begin_above (h : Rd w base rb q s line g cap iv) (hop : s.op ≠ []) (x : ByteArray) (ht : Tab w) (l : Int) (k : Nat) (hk : k < 18446744073709551616) (HP : Hid (O.Parsed x l k true)) (HF : Hid (O.fitsB q.n0 q.n1 l k = true)) (HL : Hid (L.belowB s.top.1 s.top.2 l k = false)) (HK2 : Hid (s.top.2 < 18446744073709551616)) :
    Calls Tryd.prog 120 #[.pointer (some ⟨rb, 0, none⟩), .string x] w (Fell w base rb line 5) := by
  have H := Lib.hid h
  have HTP := Lib.hid (h.topC hop)
  have HTB := Lib.hid ht
  obtain ⟨q0, q1, q2, q3, q4, q5, qh, qu, qf⟩ := q
  clear h ht
  go_enter Tryd.func120, Tryd.ntmps120
  go_wp2_with fail
  with_reducible refine (HP.out.call _ HTB.out).mono ?_
  rintro e w1 ⟨rfl, hb1⟩
  have HB1 := Lib.hid hb1
  clear hb1 HTB HP
  go_wp2_with fail
  with_reducible refine (need_yes 3 _).mono ?_
  rintro e w' ⟨rfl, rfl⟩
  obtain ⟨xb, hxb⟩ : ∃ xb, xb = w1.heap.size := ⟨_, rfl⟩
  obtain ⟨w2, hw2⟩ : ∃ W : World, W = w1.alloc (.cells #[.int .i64 l, .int .u64 (k : Int)] 40) := ⟨_, rfl⟩
  have hbW : Below w1.heap.size w1 w2 := by rw [hw2]; exact alloc1 _ _
  have HX := Lib.hid (show w2.heap[xb]? = some (.cells #[.int .i64 l, .int .u64 (k : Int)] 40 (0, 0)) by rw [hw2, hxb]; exact heap_alloc_new w1 _)
  have HB := Lib.hid (show Below w.heap.size w w2 from HB1.out.trans (hbW.mono HB1.out.size))
  have HR := Lib.hid (H.out.below HB.out)
  rw [← hw2, ← hxb]
  clear hw2 hbW HB1 hxb
  go_wp2_with fail
  refine wp_region_held_drew (S := (Keeps w2)) (by kernel_rfl) (keeps_drew _) (fun hH0 => ?_)
  refine wpAnyH_take (i := 0) (oi := { dst := some 13, op := Go.Op.move (Go.Operand.tmp 0), type := 118, pos := "item.go:123", after := #[], guard := none }) (v := ?_) rfl (by kernel_rfl) (by kernel_rfl) (by kernel_rfl) (fun _ _ _ h => h) (Or.inl ⟨by rfl, ?_⟩) hH0 ?_
  rotate_left
  · (intro wz hSz; (try dsimp only at hSz); go_simp; try with_reducible rfl)
  simp only [Act.put, List.setIfInBounds_toArray, List.set_cons_zero, List.set_cons_succ]
  refine wpAnyH_take (i := 1) (oi := { dst := some 14, op := Go.Op.nilCheck (Go.Operand.tmp 13), type := 0, pos := "item.go:123", after := #[{ on := 0, ground := Go.Ground.data }], guard := none }) (v := ?_) rfl (by kernel_rfl) (by kernel_rfl) (by kernel_rfl) (fun _ _ _ h => h) (Or.inl ⟨by rfl, ?_⟩) hH0 ?_
  rotate_left
  · (intro wz hSz; (try dsimp only at hSz); go_simp; try with_reducible rfl)
  simp only [Act.put, List.setIfInBounds_toArray, List.set_cons_zero, List.set_cons_succ]
  refine wpAnyH_take (i := 2) (oi := { dst := some 15, op := Go.Op.fieldAddr 95 (Go.Operand.tmp 14) 0, type := 0, pos := "item.go:123", after := #[{ on := 1, ground := Go.Ground.data }], guard := none }) (v := ?_) rfl (by kernel_rfl) (by kernel_rfl) (by kernel_rfl) (fun _ _ _ h => h) (Or.inl ⟨by rfl, ?_⟩) hH0 ?_
  rotate_left
  · (intro wz hSz; (try dsimp only at hSz); go_simp; try with_reducible rfl)
  simp only [Act.put, List.setIfInBounds_toArray, List.set_cons_zero, List.set_cons_succ]
  refine wpAnyH_take (i := 3) (oi := { dst := some 16, op := Go.Op.load 26 (Go.Operand.tmp 15), type := 26, pos := "item.go:123", after := #[{ on := 2, ground := Go.Ground.data }], guard := none }) (v := ?_) rfl (by kernel_rfl) (by kernel_rfl) (by kernel_rfl) (fun _ _ _ h => h) (Or.inl ⟨by rfl, ?_⟩) hH0 ?_
  rotate_left
  · (intro wz hSz; have hcz := True.intro; obtain ⟨a0, a1, a2, a3, a4, a5, a6, a7, a8⟩ := rd_pol (HR.out.below hSz); go_simp; try with_reducible rfl)
  simp only [Act.put, List.setIfInBounds_toArray, List.set_cons_zero, List.set_cons_succ]
  refine wpAnyH_take (i := 4) (oi := { dst := some 17, op := Go.Op.load 40 (Go.Operand.tmp 4), type := 40, pos := "item.go:123", after := #[], guard := none }) (v := ?_) rfl (by kernel_rfl) (by kernel_rfl) (by kernel_rfl) (fun _ _ _ h => h) (Or.inl ⟨by rfl, ?_⟩) hH0 ?_
  rotate_left
  · (intro wz hSz; have hcz := True.intro; obtain ⟨b0, b1⟩ := O.lab_cells ((Below.block hSz _ (L.blk_lt HX.out)).trans HX.out); go_simp; try with_reducible rfl)
  simp only [Act.put, List.setIfInBounds_toArray, List.set_cons_zero, List.set_cons_succ]
  refine wpAnyH_ready (rs := [5]) (by kernel_rfl) (by simp) ?_
  refine AllReadyH.cons (o := { dst := some 18, op := Go.Op.call { callee := Go.Callee.value (Go.Operand.func 22), args := #[Go.Operand.tmp 16, Go.Operand.tmp 17], argTypes := #[26, 40] }, type := 4, pos := "item.go:123", after := #[{ on := 3, ground := Go.Ground.data }, { on := 4, ground := Go.Ground.data }], guard := none }) rfl (fun K hK => ?_) AllReadyH.nil
  go_simp
  with_reducible refine ((fits_c q0 q1 q2 q3 q4 q5 qh qu qf l k hk HF.out).call _).mono ?_
  rintro r wq1 ⟨rfl, hbq⟩
  go_wp2_with fail
  refine hK.out _ _ (Keeps.trans hH0 hbq) (fun hJ => ?_)
  refine wpAnyH_more (S' := Keeps wq1) (fun z hz => Keeps.trans hJ hz) _ _ _ _ ?_
  replace HB := Lib.hid (HB.out.trans (Below.mono hJ HB.out.size))
  replace HX := Lib.hid ((Below.block hJ _ (L.blk_lt HX.out)).trans HX.out)
  replace HR := Lib.hid (HR.out.below hJ)
  have hH1 : Keeps wq1 wq1 := Below.refl _ _
  clear hK K hbq hH0 hJ
  refine wpAnyH_take (i := 6) (oi := { dst := some 19, op := Go.Op.move (Go.Operand.tmp 18), type := 4, pos := "item.go:123", after := #[{ on := 5, ground := Go.Ground.data }, { on := 5, ground := Go.Ground.chain }], guard := none }) (v := ?_) rfl (by kernel_rfl) (by kernel_rfl) (by kernel_rfl) (fun _ _ _ h => h) (Or.inl ⟨by rfl, ?_⟩) hH1 ?_
  rotate_left
  · (intro wz hSz; (try dsimp only at hSz); go_simp; try with_reducible rfl)
  simp only [Act.put, List.setIfInBounds_toArray, List.set_cons_zero, List.set_cons_succ]
  refine wpAnyH_take (i := 7) (oi := { dst := some 20, op := Go.Op.move (Go.Operand.tmp 0), type := 118, pos := "item.go:123", after := #[{ on := 6, ground := Go.Ground.guard }], guard := some (6, true) }) (v := ?_) rfl (by kernel_rfl) (by kernel_rfl) (by kernel_rfl) (fun _ _ _ h => h) (Or.inl ⟨by rfl, ?_⟩) hH1 ?_
  rotate_left
  · (intro wz hSz; (try dsimp only at hSz); go_simp; try with_reducible rfl)
  simp only [Act.put, List.setIfInBounds_toArray, List.set_cons_zero, List.set_cons_succ]
  refine wpAnyH_take (i := 8) (oi := { dst := some 21, op := Go.Op.nilCheck (Go.Operand.tmp 20), type := 0, pos := "item.go:123", after := #[{ on := 7, ground := Go.Ground.data }, { on := 6, ground := Go.Ground.guard }], guard := some (6, true) }) (v := ?_) rfl (by kernel_rfl) (by kernel_rfl) (by kernel_rfl) (fun _ _ _ h => h) (Or.inl ⟨by rfl, ?_⟩) hH1 ?_
  rotate_left
  · (intro wz hSz; (try dsimp only at hSz); go_simp; try with_reducible rfl)
  simp only [Act.put, List.setIfInBounds_toArray, List.set_cons_zero, List.set_cons_succ]
  refine wpAnyH_take (i := 9) (oi := { dst := some 22, op := Go.Op.fieldAddr 95 (Go.Operand.tmp 21) 1, type := 0, pos := "item.go:123", after := #[{ on := 8, ground := Go.Ground.data }, { on := 6, ground := Go.Ground.guard }], guard := some (6, true) }) (v := ?_) rfl (by kernel_rfl) (by kernel_rfl) (by kernel_rfl) (fun _ _ _ h => h) (Or.inl ⟨by rfl, ?_⟩) hH1 ?_
  rotate_left
  · (intro wz hSz; (try dsimp only at hSz); go_simp; try with_reducible rfl)
  simp only [Act.put, List.setIfInBounds_toArray, List.set_cons_zero, List.set_cons_succ]
  refine wpAnyH_take (i := 10) (oi := { dst := some 23, op := Go.Op.load 84 (Go.Operand.tmp 22), type := 84, pos := "item.go:123", after := #[{ on := 9, ground := Go.Ground.data }, { on := 6, ground := Go.Ground.guard }], guard := some (6, true) }) (v := ?_) rfl (by kernel_rfl) (by kernel_rfl) (by kernel_rfl) (fun _ _ _ h => h) (Or.inl ⟨by rfl, ?_⟩) hH1 ?_
  rotate_left
  · (intro wz hSz; have hcz := (HR.out.below hSz).cells.1; go_simp; try with_reducible rfl)
  simp only [Act.put, List.setIfInBounds_toArray, List.set_cons_zero, List.set_cons_succ]
  refine wpAnyH_take (i := 12) (oi := { dst := some 25, op := Go.Op.load 40 (Go.Operand.tmp 4), type := 40, pos := "item.go:123", after := #[{ on := 6, ground := Go.Ground.guard }], guard := some (6, true) }) (v := ?_) rfl (by kernel_rfl) (by kernel_rfl) (by kernel_rfl) (fun _ _ _ h => h) (Or.inl ⟨by rfl, ?_⟩) hH1 ?_
  rotate_left
  · (intro wz hSz; have hcz := True.intro; obtain ⟨b0, b1⟩ := O.lab_cells ((Below.block hSz _ (L.blk_lt HX.out)).trans HX.out); go_simp; try with_reducible rfl)
  simp only [Act.put, List.setIfInBounds_toArray, List.set_cons_zero, List.set_cons_succ]
  refine wpAnyH_ready (rs := [11]) (by kernel_rfl) (by simp) ?_
  refine AllReadyH.cons (o := { dst := some 24, op := Go.Op.call { callee := Go.Callee.value (Go.Operand.func 82), args := #[Go.Operand.tmp 23], argTypes := #[84] }, type := 40, pos := "item.go:123", after := #[{ on := 10, ground := Go.Ground.data }, { on := 6, ground := Go.Ground.chain }, { on := 6, ground := Go.Ground.guard }], guard := some (6, true) }) rfl (fun K hK => ?_) AllReadyH.nil
  go_simp
  with_reducible refine (HTP.out.call (HB.out.trans (Below.mono hH1.b HB.out.size))).mono ?_
  rintro r wq2 ⟨rfl, hbq⟩
  go_wp2_with fail
  refine hK.out _ _ (Keeps.trans hH1 hbq) (fun hJ => ?_)
  refine wpAnyH_more (S' := Keeps wq2) (fun z hz => Keeps.trans hJ hz) _ _ _ _ ?_
  replace HB := Lib.hid (HB.out.trans (Below.mono hJ HB.out.size))
  replace HX := Lib.hid ((Below.block hJ _ (L.blk_lt HX.out)).trans HX.out)
  replace HR := Lib.hid (HR.out.below hJ)
  have hH2 : Keeps wq2 wq2 := Below.refl _ _
  clear hK K hbq hH1 hJ
  refine wpAnyH_ready (rs := [13]) (by kernel_rfl) (by simp) ?_
  refine AllReadyH.cons (o := { dst := some 26, op := Go.Op.call { callee := Go.Callee.value (Go.Operand.func 20), args := #[Go.Operand.tmp 24, Go.Operand.tmp 25], argTypes := #[40, 40] }, type := 4, pos := "item.go:123", after := #[{ on := 11, ground := Go.Ground.data }, { on := 12, ground := Go.Ground.data }, { on := 11, ground := Go.Ground.chain }, { on := 6, ground := Go.Ground.guard }], guard := some (6, true) }) rfl (fun K hK => ?_) AllReadyH.nil
  go_simp
  with_reducible refine ((below_c HL.out hk (HK2.out)).call _).mono ?_
  rintro r wq3 ⟨rfl, hbq⟩
  go_wp2_with fail
  refine hK.out _ _ (Keeps.trans hH2 hbq) (fun hJ => ?_)
  refine wpAnyH_more (S' := Keeps wq3) (fun z hz => Keeps.trans hJ hz) _ _ _ _ ?_
  replace HB := Lib.hid (HB.out.trans (Below.mono hJ HB.out.size))
  replace HX := Lib.hid ((Below.block hJ _ (L.blk_lt HX.out)).trans HX.out)
  replace HR := Lib.hid (HR.out.below hJ)
  have hH3 : Keeps wq3 wq3 := Below.refl _ _
  clear hK K hbq hH2 hJ
  refine wpAnyH_take (i := 14) (oi := { dst := some 27, op := Go.Op.pick (Go.Operand.tmp 19) (Go.Operand.tmp 26) (Go.Operand.const (Go.Value.bool false)), type := 4, pos := "item.go:123", after := #[{ on := 6, ground := Go.Ground.data }, { on := 13, ground := Go.Ground.data }], guard := none }) (v := ?_) rfl (by kernel_rfl) (by kernel_rfl) (by kernel_rfl) (fun _ _ _ h => h) (Or.inl ⟨by rfl, ?_⟩) hH3 ?_
  rotate_left
  · (intro wz hSz; (try dsimp only at hSz); go_simp; try with_reducible rfl)
  simp only [Act.put, List.setIfInBounds_toArray, List.set_cons_zero, List.set_cons_succ]
  refine wpAnyH_ready (rs := [15]) (by kernel_rfl) (by simp) ?_
  refine AllReadyH.cons (o := { dst := some 28, op := Go.Op.call { callee := Go.Callee.value (Go.Operand.func 89), args := #[Go.Operand.tmp 27, Go.Operand.const (Go.Value.int Go.IntKind.i64 5)], argTypes := #[4, 27] }, type := 0, pos := "item.go:123", after := #[{ on := 14, ground := Go.Ground.data }, { on := 13, ground := Go.Ground.chain }], guard := none }) rfl (fun K hK => ?_) AllReadyH.nil
  go_simp
  with_reducible refine (need_no5 _).mono ?_
  rintro r wq9 ⟨rfl, rfl⟩
  go_wp2_with fail
  exact ⟨rfl, (HR.out.below hH3).fell (H.out.kp (HB.out.trans (Below.mono hH3 HB.out.size))) 5⟩

set_option maxRecDepth 100000 in
set_option maxHeartbeats 2000000 in
theorem begin_in (h : Rd w base rb q s line g cap iv) (hop : s.op ≠ []) (x : ByteArray) (ht : Tab w) (l : Int) (k : Nat) (hk : k < 18446744073709551616) (HP : Hid (O.Parsed x l k true)) (HF : Hid (O.fitsB q.n0 q.n1 l k = true)) (HL : Hid (L.belowB s.top.1 s.top.2 l k = true)) (HK2 : Hid (s.top.2 < 18446744073709551616)) (hn : s.op.length ≤ 4194304) (o : Ps ⊕ Nat) (HO : Hid (o = if s.op.length ≤ 16 then .inl ⟨(l, k) :: s.op, s.its, s.con⟩ else .inr 4)) :
    Calls Tryd.prog 120 #[.pointer (some ⟨rb, 0, none⟩), .string x] w (TakeEnd w base rb q line o) := by
  have H := Lib.hid h
  have HTP := Lib.hid (h.topC hop)
  have HTB := Lib.hid ht
  obtain ⟨q0, q1, q2, q3, q4, q5, qh, qu, qf⟩ := q
  clear h ht
  go_enter Tryd.func120, Tryd.ntmps120
  go_wp2_with fail
  with_reducible refine (HP.out.call _ HTB.out).mono ?_
  rintro e w1 ⟨rfl, hb1⟩
  have HB1 := Lib.hid hb1
  clear hb1 HTB HP
  go_wp2_with fail
  with_reducible refine (need_yes 3 _).mono ?_
  rintro e w' ⟨rfl, rfl⟩
  obtain ⟨xb, hxb⟩ : ∃ xb, xb = w1.heap.size := ⟨_, rfl⟩
  obtain ⟨w2, hw2⟩ : ∃ W : World, W = w1.alloc (.cells #[.int .i64 l, .int .u64 (k : Int)] 40) := ⟨_, rfl⟩
  have hbW : Below w1.heap.size w1 w2 := by rw [hw2]; exact alloc1 _ _
  have HX := Lib.hid (show w2.heap[xb]? = some (.cells #[.int .i64 l, .int .u64 (k : Int)] 40 (0, 0)) by rw [hw2, hxb]; exact heap_alloc_new w1 _)
  have HB := Lib.hid (show Below w.heap.size w w2 from HB1.out.trans (hbW.mono HB1.out.size))
  have HR := Lib.hid (H.out.below HB.out)
  rw [← hw2, ← hxb]
  clear hw2 hbW HB1 hxb
  go_wp2_with fail
  refine wp_region_held_drew (S := (Keeps w2)) (by kernel_rfl) (keeps_drew _) (fun hH0 => ?_)
  refine wpAnyH_take (i := 0) (oi := { dst := some 13, op := Go.Op.move (Go.Operand.tmp 0), type := 118, pos := "item.go:123", after := #[], guard := none }) (v := ?_) rfl (by kernel_rfl) (by kernel_rfl) (by kernel_rfl) (fun _ _ _ h => h) (Or.inl ⟨by rfl, ?_⟩) hH0 ?_
  rotate_left
  · (intro wz hSz; (try dsimp only at hSz); go_simp; try with_reducible rfl)
  simp only [Act.put, List.setIfInBounds_toArray, List.set_cons_zero, List.set_cons_succ]
  refine wpAnyH_take (i := 1) (oi := { dst := some 14, op := Go.Op.nilCheck (Go.Operand.tmp 13), type := 0, pos := "item.go:123", after := #[{ on := 0, ground := Go.Ground.data }], guard := none }) (v := ?_) rfl (by kernel_rfl) (by kernel_rfl) (by kernel_rfl) (fun _ _ _ h => h) (Or.inl ⟨by rfl, ?_⟩) hH0 ?_
  rotate_left
  · (intro wz hSz; (try dsimp only at hSz); go_simp; try with_reducible rfl)
  simp only [Act.put, List.setIfInBounds_toArray, List.set_cons_zero, List.set_cons_succ]
  refine wpAnyH_take (i := 2) (oi := { dst := some 15, op := Go.Op.fieldAddr 95 (Go.Operand.tmp 14) 0, type := 0, pos := "item.go:123", after := #[{ on := 1, ground := Go.Ground.data }], guard := none }) (v := ?_) rfl (by kernel_rfl) (by kernel_rfl) (by kernel_rfl) (fun _ _ _ h => h) (Or.inl ⟨by rfl, ?_⟩) hH0 ?_
  rotate_left
  · (intro wz hSz; (try dsimp only at hSz); go_simp; try with_reducible rfl)
  simp only [Act.put, List.setIfInBounds_toArray, List.set_cons_zero, List.set_cons_succ]
  refine wpAnyH_take (i := 3) (oi := { dst := some 16, op := Go.Op.load 26 (Go.Operand.tmp 15), type := 26, pos := "item.go:123", after := #[{ on := 2, ground := Go.Ground.data }], guard := none }) (v := ?_) rfl (by kernel_rfl) (by kernel_rfl) (by kernel_rfl) (fun _ _ _ h => h) (Or.inl ⟨by rfl, ?_⟩) hH0 ?_
  rotate_left
  · (intro wz hSz; have hcz := True.intro; obtain ⟨a0, a1, a2, a3, a4, a5, a6, a7, a8⟩ := rd_pol (HR.out.below hSz); go_simp; try with_reducible rfl)
  simp only [Act.put, List.setIfInBounds_toArray, List.set_cons_zero, List.set_cons_succ]
  refine wpAnyH_take (i := 4) (oi := { dst := some 17, op := Go.Op.load 40 (Go.Operand.tmp 4), type := 40, pos := "item.go:123", after := #[], guard := none }) (v := ?_) rfl (by kernel_rfl) (by kernel_rfl) (by kernel_rfl) (fun _ _ _ h => h) (Or.inl ⟨by rfl, ?_⟩) hH0 ?_
  rotate_left
  · (intro wz hSz; have hcz := True.intro; obtain ⟨b0, b1⟩ := O.lab_cells ((Below.block hSz _ (L.blk_lt HX.out)).trans HX.out); go_simp; try with_reducible rfl)
  simp only [Act.put, List.setIfInBounds_toArray, List.set_cons_zero, List.set_cons_succ]
  refine wpAnyH_ready (rs := [5]) (by kernel_rfl) (by simp) ?_
  refine AllReadyH.cons (o := { dst := some 18, op := Go.Op.call { callee := Go.Callee.value (Go.Operand.func 22), args := #[Go.Operand.tmp 16, Go.Operand.tmp 17], argTypes := #[26, 40] }, type := 4, pos := "item.go:123", after := #[{ on := 3, ground := Go.Ground.data }, { on := 4, ground := Go.Ground.data }], guard := none }) rfl (fun K hK => ?_) AllReadyH.nil
  go_simp
  with_reducible refine ((fits_c q0 q1 q2 q3 q4 q5 qh qu qf l k hk HF.out).call _).mono ?_
  rintro r wq1 ⟨rfl, hbq⟩
  go_wp2_with fail
  refine hK.out _ _ (Keeps.trans hH0 hbq) (fun hJ => ?_)
  refine wpAnyH_more (S' := Keeps wq1) (fun z hz => Keeps.trans hJ hz) _ _ _ _ ?_
  replace HB := Lib.hid (HB.out.trans (Below.mono hJ HB.out.size))
  replace HX := Lib.hid ((Below.block hJ _ (L.blk_lt HX.out)).trans HX.out)
  replace HR := Lib.hid (HR.out.below hJ)
  have hH1 : Keeps wq1 wq1 := Below.refl _ _
  clear hK K hbq hH0 hJ
  refine wpAnyH_take (i := 6) (oi := { dst := some 19, op := Go.Op.move (Go.Operand.tmp 18), type := 4, pos := "item.go:123", after := #[{ on := 5, ground := Go.Ground.data }, { on := 5, ground := Go.Ground.chain }], guard := none }) (v := ?_) rfl (by kernel_rfl) (by kernel_rfl) (by kernel_rfl) (fun _ _ _ h => h) (Or.inl ⟨by rfl, ?_⟩) hH1 ?_
  rotate_left
  · (intro wz hSz; (try dsimp only at hSz); go_simp; try with_reducible rfl)
  simp only [Act.put, List.setIfInBounds_toArray, List.set_cons_zero, List.set_cons_succ]
  refine wpAnyH_take (i := 7) (oi := { dst := some 20, op := Go.Op.move (Go.Operand.tmp 0), type := 118, pos := "item.go:123", after := #[{ on := 6, ground := Go.Ground.guard }], guard := some (6, true) }) (v := ?_) rfl (by kernel_rfl) (by kernel_rfl) (by kernel_rfl) (fun _ _ _ h => h) (Or.inl ⟨by rfl, ?_⟩) hH1 ?_
  rotate_left
  · (intro wz hSz; (try dsimp only at hSz); go_simp; try with_reducible rfl)
  simp only [Act.put, List.setIfInBounds_toArray, List.set_cons_zero, List.set_cons_succ]
  refine wpAnyH_take (i := 8) (oi := { dst := some 21, op := Go.Op.nilCheck (Go.Operand.tmp 20), type := 0, pos := "item.go:123", after := #[{ on := 7, ground := Go.Ground.data }, { on := 6, ground := Go.Ground.guard }], guard := some (6, true) }) (v := ?_) rfl (by kernel_rfl) (by kernel_rfl) (by kernel_rfl) (fun _ _ _ h => h) (Or.inl ⟨by rfl, ?_⟩) hH1 ?_
  rotate_left
  · (intro wz hSz; (try dsimp only at hSz); go_simp; try with_reducible rfl)
  simp only [Act.put, List.setIfInBounds_toArray, List.set_cons_zero, List.set_cons_succ]
  refine wpAnyH_take (i := 9) (oi := { dst := some 22, op := Go.Op.fieldAddr 95 (Go.Operand.tmp 21) 1, type := 0, pos := "item.go:123", after := #[{ on := 8, ground := Go.Ground.data }, { on := 6, ground := Go.Ground.guard }], guard := some (6, true) }) (v := ?_) rfl (by kernel_rfl) (by kernel_rfl) (by kernel_rfl) (fun _ _ _ h => h) (Or.inl ⟨by rfl, ?_⟩) hH1 ?_
  rotate_left
  · (intro wz hSz; (try dsimp only at hSz); go_simp; try with_reducible rfl)
  simp only [Act.put, List.setIfInBounds_toArray, List.set_cons_zero, List.set_cons_succ]
  refine wpAnyH_take (i := 10) (oi := { dst := some 23, op := Go.Op.load 84 (Go.Operand.tmp 22), type := 84, pos := "item.go:123", after := #[{ on := 9, ground := Go.Ground.data }, { on := 6, ground := Go.Ground.guard }], guard := some (6, true) }) (v := ?_) rfl (by kernel_rfl) (by kernel_rfl) (by kernel_rfl) (fun _ _ _ h => h) (Or.inl ⟨by rfl, ?_⟩) hH1 ?_
  rotate_left
  · (intro wz hSz; have hcz := (HR.out.below hSz).cells.1; go_simp; try with_reducible rfl)
  simp only [Act.put, List.setIfInBounds_toArray, List.set_cons_zero, List.set_cons_succ]
  refine wpAnyH_take (i := 12) (oi := { dst := some 25, op := Go.Op.load 40 (Go.Operand.tmp 4), type := 40, pos := "item.go:123", after := #[{ on := 6, ground := Go.Ground.guard }], guard := some (6, true) }) (v := ?_) rfl (by kernel_rfl) (by kernel_rfl) (by kernel_rfl) (fun _ _ _ h => h) (Or.inl ⟨by rfl, ?_⟩) hH1 ?_
  rotate_left
  · (intro wz hSz; have hcz := True.intro; obtain ⟨b0, b1⟩ := O.lab_cells ((Below.block hSz _ (L.blk_lt HX.out)).trans HX.out); go_simp; try with_reducible rfl)
  simp only [Act.put, List.setIfInBounds_toArray, List.set_cons_zero, List.set_cons_succ]
  refine wpAnyH_ready (rs := [11]) (by kernel_rfl) (by simp) ?_
  refine AllReadyH.cons (o := { dst := some 24, op := Go.Op.call { callee := Go.Callee.value (Go.Operand.func 82), args := #[Go.Operand.tmp 23], argTypes := #[84] }, type := 40, pos := "item.go:123", after := #[{ on := 10, ground := Go.Ground.data }, { on := 6, ground := Go.Ground.chain }, { on := 6, ground := Go.Ground.guard }], guard := some (6, true) }) rfl (fun K hK => ?_) AllReadyH.nil
  go_simp
  with_reducible refine (HTP.out.call (HB.out.trans (Below.mono hH1.b HB.out.size))).mono ?_
  rintro r wq2 ⟨rfl, hbq⟩
  go_wp2_with fail
  refine hK.out _ _ (Keeps.trans hH1 hbq) (fun hJ => ?_)
  refine wpAnyH_more (S' := Keeps wq2) (fun z hz => Keeps.trans hJ hz) _ _ _ _ ?_
  replace HB := Lib.hid (HB.out.trans (Below.mono hJ HB.out.size))
  replace HX := Lib.hid ((Below.block hJ _ (L.blk_lt HX.out)).trans HX.out)
  replace HR := Lib.hid (HR.out.below hJ)
  have hH2 : Keeps wq2 wq2 := Below.refl _ _
  clear hK K hbq hH1 hJ
  refine wpAnyH_ready (rs := [13]) (by kernel_rfl) (by simp) ?_
  refine AllReadyH.cons (o := { dst := some 26, op := Go.Op.call { callee := Go.Callee.value (Go.Operand.func 20), args := #[Go.Operand.tmp 24, Go.Operand.tmp 25], argTypes := #[40, 40] }, type := 4, pos := "item.go:123", after := #[{ on := 11, ground := Go.Ground.data }, { on := 12, ground := Go.Ground.data }, { on := 11, ground := Go.Ground.chain }, { on := 6, ground := Go.Ground.guard }], guard := some (6, true) }) rfl (fun K hK => ?_) AllReadyH.nil
  go_simp
  with_reducible refine ((below_c HL.out hk (HK2.out)).call _).mono ?_
  rintro r wq3 ⟨rfl, hbq⟩
  go_wp2_with fail
  refine hK.out _ _ (Keeps.trans hH2 hbq) (fun hJ => ?_)
  refine wpAnyH_more (S' := Keeps wq3) (fun z hz => Keeps.trans hJ hz) _ _ _ _ ?_
  replace HB := Lib.hid (HB.out.trans (Below.mono hJ HB.out.size))
  replace HX := Lib.hid ((Below.block hJ _ (L.blk_lt HX.out)).trans HX.out)
  replace HR := Lib.hid (HR.out.below hJ)
  have hH3 : Keeps wq3 wq3 := Below.refl _ _
  clear hK K hbq hH2 hJ
  refine wpAnyH_take (i := 14) (oi := { dst := some 27, op := Go.Op.pick (Go.Operand.tmp 19) (Go.Operand.tmp 26) (Go.Operand.const (Go.Value.bool false)), type := 4, pos := "item.go:123", after := #[{ on := 6, ground := Go.Ground.data }, { on := 13, ground := Go.Ground.data }], guard := none }) (v := ?_) rfl (by kernel_rfl) (by kernel_rfl) (by kernel_rfl) (fun _ _ _ h => h) (Or.inl ⟨by rfl, ?_⟩) hH3 ?_
  rotate_left
  · (intro wz hSz; (try dsimp only at hSz); go_simp; try with_reducible rfl)
  simp only [Act.put, List.setIfInBounds_toArray, List.set_cons_zero, List.set_cons_succ]
  refine wpAnyH_ready (rs := [15]) (by kernel_rfl) (by simp) ?_
  refine AllReadyH.cons (o := { dst := some 28, op := Go.Op.call { callee := Go.Callee.value (Go.Operand.func 89), args := #[Go.Operand.tmp 27, Go.Operand.const (Go.Value.int Go.IntKind.i64 5)], argTypes := #[4, 27] }, type := 0, pos := "item.go:123", after := #[{ on := 14, ground := Go.Ground.data }, { on := 13, ground := Go.Ground.chain }], guard := none }) rfl (fun K hK => ?_) AllReadyH.nil
  go_simp
  with_reducible refine (need_yes 5 _).mono ?_
  rintro r wq4 ⟨rfl, hw9⟩
  have hbq := below_eq hw9
  go_wp2_with fail
  refine hK.out _ _ (Keeps.trans hH3 hbq) (fun hJ => ?_)
  refine wpAnyH_more (S' := Keeps wq4) (fun z hz => Keeps.trans hJ hz) _ _ _ _ ?_
  replace HB := Lib.hid (HB.out.trans (Below.mono hJ HB.out.size))
  replace HX := Lib.hid ((Below.block hJ _ (L.blk_lt HX.out)).trans HX.out)
  replace HR := Lib.hid (HR.out.below hJ)
  have hH4 : Keeps wq4 wq4 := Below.refl _ _
  clear hK K hbq hH3 hJ
  refine wpAnyH_done (by kernel_rfl) ?_ _
  obtain ⟨m, hmm⟩ : ∃ m, m = s.op.length := ⟨_, rfl⟩
  rw [← hmm] at hn HO
  obtain ⟨z, hz⟩ : ∃ z : Int, z = (m : Int) - 1 := ⟨_, rfl⟩
  have HDP : Hid (DpC g m cap z) := Lib.hid fun W => by rw [hz]; exact depth_any _ m cap W hn
  have c9 : wq4.cell? ⟨rb, 9, none⟩ = some (.slice (some ⟨g, 0, none⟩) m cap) := by rw [hmm]; exact HR.out.cells.1
  have HMM := Lib.hid hmm
  clear hmm hH4 HTP
  by_cases h16 : m ≤ 16
  · have HO' := Lib.hid (HO.out.trans (if_pos h16))
    clear HO
    have hd : decide (z < 16) = true := decide_eq_true (by omega)
    clear hz
    go_wp2_with fail
    with_reducible refine (HDP.out.call _).mono ?_
    rintro e w' ⟨rfl, rfl⟩
    go_wp2_with fail
    with_reducible refine (need_yes 4 _).mono ?_
    rintro e w' ⟨rfl, rfl⟩
    clear hd c9
    go_wp2_with fail
    obtain ⟨i0, hi0, hz0, hz1, hz2⟩ := info_parts infoLab
    have hcf : wq4.cell? ⟨rb, 9, none⟩ = some (.slice (some ⟨g, 0, none⟩) m cap) := by rw [HMM.out]; exact HR.out.cells.1
    have hzf : wq4.frozen? ⟨rb, 9, none⟩ = false := L.blk_free HR.out.blk 9
    have HRW : Hid (Row (wq4.alloc (.cells #[.int .i64 l, .int .u64 (k : Int)] 40)).drew base.lo 2 g m cap (labCells s.op.reverse)) := Lib.hid (by
      have h0 := HR.out.stk.row
      rw [← HMM.out] at h0
      exact h0.below (alloc1 _ _).drew)
    have HNW := Lib.hid (World.news_of_block (w := (wq4.alloc (.cells #[.int .i64 l, .int .u64 (k : Int)] 40)).drew) (heap_alloc_new wq4 _))
    have H1C : Hid (∀ u ∈ ([.int .i64 l, .int .u64 (k : Int)] : List Value), u.oneCell' = true) := Lib.hid (by intro u hu; simp at hu; rcases hu with rfl | rfl <;> rfl)
    have HRT : Hid (some rb ≠ some g) := Lib.hid fun e => HR.out.gne (by injection e with e; exact e.symm)
    have hrl : rb < wq4.heap.size := HR.out.lt
    have hbs : base.lo ≤ wq4.heap.size := HR.out.size
    obtain ⟨x0, x1⟩ := O.lab_cells HX.out
    have HBB := Lib.hid (H.out.kp HB.out)
    clear H HX HB
    go_region_law ((refine step_append_row _ (by rfl) (.tmp 40) (.tmp 42) 84 (by rfl) base.lo 40 i0 _ 2 16 Tryd.underlying84 hi0 hz0 hz1 hz2 rfl (by decide) g m cap (labCells s.op.reverse) (by rfl) HRW.out ⟨wq4.heap.size, 0, none⟩ 1 [.int .i64 l, .int .u64 (k : Int)] (by rfl) rfl HNW.out H1C.out (by unfold maxLen; omega) (by omega) (by simp; omega) ?_; intro g3 cap3 w4 hrow3 hgrow3 hat3; have hc3 := hgrow3.cell_far ⟨rb, 9, none⟩ (by simp; omega) HRT.out; have hz3 := hgrow3.frozen_far ⟨rb, 9, none⟩ (by simp; omega) HRT.out))
    all_goals
      go_wp2_with fail
      go_end0
      rw [HO'.out]
      exact pushLab (a := (l, k)) HR.out HBB.out HMM.out hgrow3 hrow3 (by simpa using hat3)
  · have HO' := Lib.hid (HO.out.trans (if_neg h16))
    clear HO
    have hd : decide (z < 16) = false := decide_eq_false (by omega)
    clear hz
    go_wp2_with fail
    with_reducible refine (HDP.out.call _).mono ?_
    rintro e w' ⟨rfl, rfl⟩
    go_wp2_with fail
    with_reducible refine (need_no4 _).mono ?_
    rintro e w' ⟨rfl, rfl⟩
    go_wp2_with fail
    rw [HO'.out]
    exact ⟨rfl, HR.out.fell (H.out.kp HB.out) 4⟩
end Go.Proofs.YtadhhamfikpimaaDoor.I
