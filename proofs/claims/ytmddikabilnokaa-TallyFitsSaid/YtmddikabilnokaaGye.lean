/-
  How many lines all labels have: the map of them all.
  How many more lines; which labels have more than they may; the first sixty items.
  Rows of counts cut and appended.
-/
import Derived.Test.YtmddikabilnokaaGyd
import Derived.Test.YtmddikabilnokaaGyb
namespace Go.Proofs.Ytmddikabilnokaa.Ta
set_option linter.unusedVariables false
set_option linter.unusedSimpArgs false
open Go.RowKit Go.Maps Go.Sort
open T
open I (It Lb ItemsIn ItemsAt itCells alloc1 own_at own_below)
open V (grown_of drawn_below ItAt it_at)

/-- Items whose labels are a machine's. -/
def Wls (l : List It) : Prop := ∀ x ∈ l, Wl x.lb
theorem MapIs.more {w : World} {mb n m : Nat} {f : Lb → Nat} {D : DataW Unit} (h : MapIs w mb n f D) (hn : n ≤ m) : MapIs w mb m f D := by
  obtain ⟨⟨es, clock, hb, F, hs, hD⟩, h2⟩ := h
  exact ⟨⟨es, clock, hb, F, Nat.le_trans hs hn, hD⟩, h2⟩
theorem upd_count {l : List It} {k : Nat} (h : k < l.length) {x : Lb} (hx : l[k].lb = x) (ha : l[k].an = false) :
    upd (fun a => (lns (l.take k)).count a) x ((lns (l.take k)).count x + 1) = fun a => (lns (l.take (k + 1))).count a := by
  funext a
  show upd (fun a => (lns (l.take k)).count a) x ((lns (l.take k)).count x + 1) a = (lns (l.take (k + 1))).count a
  unfold upd
  rw [count_take a h]
  by_cases e : a = x
  · subst e
    rw [if_pos rfl, if_pos ⟨ha, hx⟩]
  · rw [if_neg e, if_neg (fun q => e (q.2.symm.trans hx))]
    rfl
theorem count_anchor {l : List It} {k : Nat} (h : k < l.length) (ha : l[k].an = true) : (fun a => (lns (l.take k)).count a) = fun a => (lns (l.take (k + 1))).count a := by
  funext a
  show _ = (lns (l.take (k + 1))).count a
  rw [count_take a h, if_neg (by simp [ha])]
  rfl
theorem heap_set_map {w : World} {mb : Nat} {es : Array MapEntry} {c : Nat} (h : w.heap[mb]? = some (.map es c)) (o : Obj) : (ChangeMaps.setBlock w mb o).heap[mb]? = some o := ChangeMaps.heap_setBlock_same h o
theorem cell_set_map {w : World} {mb g o c : Nat} {es : Array MapEntry} (hb : w.heap[mb]? = some (.map es c)) (h : g ≠ mb) (b : Obj) : (ChangeMaps.setBlock w mb b).cell? ⟨g, o, none⟩ = w.cell? ⟨g, o, none⟩ :=
  World.cell?_of_block (a := ⟨g, o, none⟩) (ChangeMaps.heap_setBlock_other hb b h)
theorem grown_set_map {w : World} {mb c : Nat} {es : Array MapEntry} (hb : w.heap[mb]? = some (.map es c)) {o : Obj} : w.grownBy (ChangeMaps.setBlock w mb o) (some mb) := ⟨rfl, rfl, rfl, by simp [ChangeMaps.setBlock], fun i _ hi => ChangeMaps.heap_setBlock_other hb o (fun e => hi (by rw [e]))⟩
def MapEnd (w : World) (mb : Nat) (l : List It) (W : World) : Prop := ∃ D, MapIs W mb l.length (fun a => (lns l).count a) D ∧ Below mb w W ∧ mb < W.heap.size
/-- What comes back: a new row of counts. -/
def ctCells (c : List (Lb × Nat)) : List Value := c.flatMap fun x => [.int .i64 x.1.1, .int .u64 (x.1.2 : Int), .int .i64 (x.2 : Int)]
theorem infoCt : (Try.prog.info? 30).map (fun i => (i.zero, i.size, i.bytes)) = some (some (.agg #[.int .i64 0, .int .u64 0, .int .i64 0]), 3, 24) := by kernel_rfl
def CsEnd (w : World) (c : List (Lb × Nat)) (e : Ending) (w' : World) : Prop := ∃ A cap, e = .returned (.slice A c.length cap) ∧ w'.ownsRow w.heap.size 30 3 (.slice A c.length cap) c.length (ctCells c) ∧ Below w.heap.size w w'
theorem ce_of {w w' : World} {base : Nat} {v : Value} {c ys : List (Lb × Nat)} (h : w'.ownsRow base 30 3 v ys.length (ctCells ys)) (hs : ys = c) (hb : w.heap.size ≤ base) (hB : Below w.heap.size w w') : CsEnd w c (.returned v) w' := by
  subst hs
  obtain ⟨A, cap, rfl, -, -⟩ := own_form h
  exact ⟨A, cap, rfl, own_more h hb, hB⟩

set_option maxRecDepth 100000 in
set_option maxHeartbeats 4000000 in
theorem counts_any (A : Option Addr) (cap : Nat) (l : List It) (w : World) (hA : ItemsIn w A l) (hok : Wls l) (hl : l.length ≤ 1000) :
    Calls Try.prog 8 #[.slice A l.length cap] w fun e w' => ∃ ks, Ks (lns l) ks ∧ CsEnd w (cs (lns l) ks) e w' := by
  have HOK := Lib.hid hok
  obtain ⟨mb, hmb⟩ : ∃ q, q = w.heap.size := ⟨_, rfl⟩
  obtain ⟨W0, hW0⟩ : ∃ W : World, W = w.alloc (.map #[] 0) := ⟨_, rfl⟩
  have HB0 := Lib.hid (show Below mb w W0 by rw [hW0, hmb]; exact alloc1 _ _)
  have HM0 := Lib.hid (show MapIs W0 mb 0 (fun _ => 0) (.map []) by rw [hW0, hmb]; exact MapIs.start w)
  have HA := Lib.hid hA
  have hmm0 := @run_makeMap Try.prog
  have HMB := Lib.hid hmb
  clear hA hok
  go_enter Try.func8, Try.ntmps8
  go_wp2_with fail
  rw [← hW0]
  rw [← hmb]
  clear hW0 hmb
  go_loopg [12] l.length (fun q i wr => ∃ (k : Nat) (D : DataW Unit), k ≤ l.length ∧ i = .int .i64 k ∧ l.length - k ≤ q ∧ Hid (MapIs wr mb k (fun a => (lns (l.take k)).count a) D) ∧ Hid (Below mb w wr))
  case atStart => exact ⟨0, _, Nat.zero_le _, rfl, by omega, Lib.hid HM0.out, HB0⟩
  case round =>
    obtain ⟨k, D, hk, rfl, hm, HM, HBR⟩ := hrel
    by_cases hlt : k < l.length
    · obtain ⟨bk, off, hAe, hbk, hIt⟩ := HA.out (by omega)
      subst hAe
      have HI := Lib.hid ((it_at hIt hbk hlt).below (HMB.out ▸ HBR.out))
      have HWL := Lib.hid (HOK.out _ (List.getElem_mem hlt))
      have HUP := Lib.hid (fun (x : Lb) => upd_count (l := l) hlt (x := x))
      have HAN := Lib.hid (count_anchor (l := l) hlt)
      have hkc : ∀ x, (lns (l.take k)).count x ≤ k := fun x => Nat.le_trans List.count_le_length (Nat.le_trans (lns_le _) (by rw [List.length_take]; omega))
      have h0k : (0 : Int) ≤ (k : Int) := by omega
      have hki : (k : Int) < (l.length : Int) := by omega
      generalize l[k] = y at *
      obtain ⟨hlt3, c0, c1, c2, c3, c4, c5⟩ := HI.out
      obtain ⟨y0, x0, x1, an, tx, ba⟩ := y
      simp only [I.It.lb] at c0 c1 c2 c3 c4 c5 HWL HUP HAN
      obtain ⟨xt, hxt⟩ : ∃ x : ByteArray, x = ⟨tx.toArray⟩ := ⟨_, rfl⟩
      rw [← hxt] at c4
      obtain ⟨w1, hw1⟩ : ∃ W : World, W = wr.alloc (.cells #[.int .i64 y0, .int .i64 x0, .int .u64 (x1 : Int), .bool an, .string xt, .bool ba] 44) := ⟨_, rfl⟩
      have hb1 : Below wr.heap.size wr w1 := by rw [hw1]; exact alloc1 _ _
      have HB1 : Hid (Below mb w w1) := Lib.hid (HBR.out.trans (hb1.mono (HMB.out ▸ HBR.out.size)))
      have HM1 := Lib.hid (HM.out.kept (grown_of hb1 none) (by simp))
      have hx1 : w1.heap[wr.heap.size]? = some (.cells #[.int .i64 y0, .int .i64 x0, .int .u64 (x1 : Int), .bool an, .string xt, .bool ba] 44 (0, 0)) := by rw [hw1]; exact heap_alloc_new wr _
      have g1 := L.blk_cell hx1 1
      have g2 := L.blk_cell hx1 2
      have g3 := L.blk_cell hx1 3
      simp only [List.getElem?_toArray, List.getElem?_cons_zero, List.getElem?_cons_succ] at g1 g2 g3
      have HNE : Hid (wr.heap.size ≠ mb) := Lib.hid (HM1.out.notCells hx1)
      clear hb1 hx1 HI hxt hlt3 HM HBR
      go_upto_region 5 with fail
      rw [← hw1]
      obtain ⟨eb, heb⟩ : ∃ q, q = wr.heap.size := ⟨_, rfl⟩
      rw [← heb] at g1 g2 g3 HNE ⊢
      clear hw1 c0 c1 c2 c3 c4 c5 heb
      cases an with
      | true =>
        go_wp2_with fail
        go_roundg (l.length - (k + 1))
        case rel => exact ⟨k + 1, D, by omega, by go_num, Nat.le_refl _, Lib.hid (by rw [← HAN.out trivial]; exact HM1.out.more (by omega)), HB1⟩
        case measure => omega
      | false =>
        have hmap : MapIs w1.drew mb k (fun a => (lns (l.take k)).count a) D := HM1.out.same rfl
        obtain ⟨c, hc⟩ : ∃ c, c = (lns (l.take k)).count (x0, x1) := ⟨_, rfl⟩
        have hck : c ≤ 1000 := by rw [hc]; exact Nat.le_trans (hkc _) (by omega)
        have HL0 := Lib.hid (hmap.look Try.underlying48 HWL.out)
        obtain ⟨v0, st, es1, clock1, hrun, hlk, hst⟩ := map_entry hmap HWL.out (by unfold maxLen; omega)
        obtain ⟨es0, clock0, hmh, -⟩ := hmap.1
        have HMH := Lib.hid hmh
        have HRUN := Lib.hid hrun
        have HST := Lib.hid hst
        have HLK := Lib.hid hlk
        have HWF : Hid ((Lit.int .i64 ((c + 1 : Nat) : Int)).wf = true) := Lib.hid (by simp [Lit.wf, IntKind.min, IntKind.max, IntKind.signed, IntKind.bits]; omega)
        simp only [lbV, ← hc] at HL0 HRUN HLK
        have HC := Lib.hid hc
        clear hc hmap hrun hst hmh hkc hlk
        go_upto_region 6 with fail
        refine wp_region_held_drew (S := (fun W : World => W.cell? ⟨eb, 1, none⟩ = some (.int .i64 x0) ∧ W.cell? ⟨eb, 2, none⟩ = some (.int .u64 (x1 : Int)))) (by kernel_rfl) (⟨g1, g2⟩) (fun hK0 => ?_)
        refine wpAnyH_take (i := 0) (oi := { dst := some 19, op := Go.Op.move (Go.Operand.tmp 3), type := 48, pos := "tally.go:33", after := #[], guard := none }) (v := ?_) rfl (by kernel_rfl) (by kernel_rfl) (by kernel_rfl) (fun _ _ _ h => h) (Or.inl ⟨by rfl, ?_⟩) hK0 ?_
        rotate_left
        · (intro wz hSz; (try dsimp only at hSz); go_simp; try with_reducible rfl)
        simp only [Act.put, List.setIfInBounds_toArray, List.set_cons_zero, List.set_cons_succ]
        refine wpAnyH_take (i := 1) (oi := { dst := some 20, op := Go.Op.fieldAddr 44 (Go.Operand.tmp 5) 1, type := 0, pos := "tally.go:33", after := #[], guard := none }) (v := ?_) rfl (by kernel_rfl) (by kernel_rfl) (by kernel_rfl) (fun _ _ _ h => h) (Or.inl ⟨by rfl, ?_⟩) hK0 ?_
        rotate_left
        · (intro wz hSz; (try dsimp only at hSz); go_simp; try with_reducible rfl)
        simp only [Act.put, List.setIfInBounds_toArray, List.set_cons_zero, List.set_cons_succ]
        refine wpAnyH_take (i := 2) (oi := { dst := some 21, op := Go.Op.load 25 (Go.Operand.tmp 20), type := 25, pos := "tally.go:33", after := #[{ on := 1, ground := Go.Ground.data }], guard := none }) (v := ?_) rfl (by kernel_rfl) (by kernel_rfl) (by kernel_rfl) (fun _ _ _ h => h) (Or.inl ⟨by rfl, ?_⟩) hK0 ?_
        rotate_left
        · (intro wz hSz; obtain ⟨hcz, hcz2⟩ := hSz; go_simp; try with_reducible rfl)
        simp only [Act.put, List.setIfInBounds_toArray, List.set_cons_zero, List.set_cons_succ]
        refine wpAnyH_ready (rs := [3, 5]) (by kernel_rfl) (by simp) ?_
        refine AllReadyH.cons (o := { dst := some 22, op := Go.Op.lookup 48 (Go.Operand.tmp 19) (Go.Operand.tmp 21) false, type := 3, pos := "tally.go:33", after := #[{ on := 0, ground := Go.Ground.data }, { on := 2, ground := Go.Ground.data }], guard := none }) rfl (fun K hK => ?_) (AllReadyH.cons (o := { dst := some 24, op := Go.Op.mapEntry 48 (Go.Operand.tmp 19) (Go.Operand.tmp 21), type := 0, pos := "tally.go:33", after := #[{ on := 0, ground := Go.Ground.data }, { on := 2, ground := Go.Ground.data }, { on := 0, ground := Go.Ground.phase }, { on := 1, ground := Go.Ground.phase }, { on := 2, ground := Go.Ground.phase }, { on := 3, ground := Go.Ground.textOnly Go.Departure.mapOpAssignEntry }, { on := 4, ground := Go.Ground.textOnly Go.Departure.mapOpAssignEntry }], guard := none }) rfl (fun K hK => ?_) AllReadyH.nil)
        · skip
          have hlk := HL0.out
          go_simp
          clear hlk
          have hS : (fun W : World => W.cell? ⟨eb, 1, none⟩ = some (.int .i64 x0) ∧ W.cell? ⟨eb, 2, none⟩ = some (.int .u64 (x1 : Int))) w1.drew := ⟨g1, g2⟩
          refine hK.out _ _ hS (fun hK1 => ?_)
          clear hK K hS hK0
          refine wpAnyH_take (i := 4) (oi := { dst := some 23, op := Go.Op.binOp Go.BinOp.add 3 (Go.Operand.tmp 22) (Go.Operand.const (Go.Value.int Go.IntKind.i64 1)) 3, type := 3, pos := "tally.go:33", after := #[{ on := 3, ground := Go.Ground.data }], guard := none }) (v := ?_) rfl (by kernel_rfl) (by kernel_rfl) (by kernel_rfl) (fun _ _ _ h => h) (Or.inl ⟨by rfl, ?_⟩) hK1 ?_
          rotate_left
          · (intro wz hSz; (try dsimp only at hSz); go_simp; try with_reducible rfl)
          simp only [Act.put, List.setIfInBounds_toArray, List.set_cons_zero, List.set_cons_succ]
          refine wpAnyH_ready (rs := [5]) (by kernel_rfl) (by simp) ?_
          refine AllReadyH.cons (o := { dst := some 24, op := Go.Op.mapEntry 48 (Go.Operand.tmp 19) (Go.Operand.tmp 21), type := 0, pos := "tally.go:33", after := #[{ on := 0, ground := Go.Ground.data }, { on := 2, ground := Go.Ground.data }, { on := 0, ground := Go.Ground.phase }, { on := 1, ground := Go.Ground.phase }, { on := 2, ground := Go.Ground.phase }, { on := 3, ground := Go.Ground.textOnly Go.Departure.mapOpAssignEntry }, { on := 4, ground := Go.Ground.textOnly Go.Departure.mapOpAssignEntry }], guard := none }) rfl (fun K hK => ?_) AllReadyH.nil
          have hrun := HRUN.out
          go_simp
          clear hrun
          obtain ⟨wq2, hwq⟩ : ∃ W : World, W = ChangeMaps.setBlock w1.drew mb (.map es1 clock1) := ⟨_, rfl⟩
          rw [← hwq]
          have he : wq2.heap[mb]? = some (.map es1 clock1) := by rw [hwq]; exact heap_set_map HMH.out _
          have he1 : wq2.cell? ⟨eb, 1, none⟩ = some (.int .i64 x0) := by rw [hwq]; exact (cell_set_map HMH.out HNE.out _).trans g1
          have he2 : wq2.cell? ⟨eb, 2, none⟩ = some (.int .u64 (x1 : Int)) := by rw [hwq]; exact (cell_set_map HMH.out HNE.out _).trans g2
          have hgr : w1.grownBy wq2 (some mb) := by rw [hwq]; have q : w1.drew.grownBy (ChangeMaps.setBlock w1.drew mb (.map es1 clock1)) (some mb) := grown_set_map HMH.out; exact ⟨q.os, q.tape, q.output, q.size, q.block⟩
          have hS : (fun W : World => W.cell? ⟨eb, 1, none⟩ = some (.int .i64 x0) ∧ W.cell? ⟨eb, 2, none⟩ = some (.int .u64 (x1 : Int))) wq2 := ⟨he1, he2⟩
          have HENT := Lib.hid he
          have HE1 := Lib.hid he1
          have HE2 := Lib.hid he2
          have HGR := Lib.hid hgr
          clear he he1 he2 hgr hwq
          refine hK.out _ _ hS (fun hK2 => ?_)
          clear hK K hS hK1
          refine wpAnyH_take (i := 6) (oi := { dst := some 25, op := Go.Op.extract (Go.Operand.tmp 24) 1, type := 3, pos := "tally.go:33", after := #[{ on := 5, ground := Go.Ground.data }], guard := none }) (v := ?_) rfl (by kernel_rfl) (by kernel_rfl) (by kernel_rfl) (fun _ _ _ h => h) (Or.inl ⟨by rfl, ?_⟩) hK2 ?_
          rotate_left
          · (intro wz hSz; (try dsimp only at hSz); go_simp; try with_reducible rfl)
          simp only [Act.put, List.setIfInBounds_toArray, List.set_cons_zero, List.set_cons_succ]
          refine wpAnyH_ready (rs := [7]) (by kernel_rfl) (by simp) ?_
          refine AllReadyH.cons (o := { dst := none, op := Go.Op.entryStore 48 (Go.Operand.tmp 19) (Go.Operand.tmp 25) (Go.Operand.tmp 23), type := 0, pos := "tally.go:33", after := #[{ on := 0, ground := Go.Ground.data }, { on := 6, ground := Go.Ground.data }, { on := 4, ground := Go.Ground.data }, { on := 5, ground := Go.Ground.chain }, { on := 0, ground := Go.Ground.phase }, { on := 1, ground := Go.Ground.phase }, { on := 2, ground := Go.Ground.phase }, { on := 3, ground := Go.Ground.phase }, { on := 4, ground := Go.Ground.phase }, { on := 5, ground := Go.Ground.phase }, { on := 6, ground := Go.Ground.phase }], guard := none }) rfl (fun K hK => ?_) AllReadyH.nil
          obtain ⟨es2, clock2, hrun2, hm2⟩ := HST.out wq2 (c + 1) HENT.out (by omega) HWF.out
          rw [show ((c + 1 : Nat) : Int) = IntKind.i64.wrap ((c : Int) + 1) by rw [IntKind.wrap_i64]; omega] at hrun2
          unfold goInt at hrun2
          go_simp
          obtain ⟨wq3, hwq⟩ : ∃ W : World, W = ChangeMaps.setBlock wq2 mb (.map es2 clock2) := ⟨_, rfl⟩
          rw [← hwq]
          have hS : (fun W : World => W.cell? ⟨eb, 1, none⟩ = some (.int .i64 x0) ∧ W.cell? ⟨eb, 2, none⟩ = some (.int .u64 (x1 : Int))) wq3 := by rw [hwq]; exact ⟨(cell_set_map HENT.out HNE.out _).trans HE1.out, (cell_set_map HENT.out HNE.out _).trans HE2.out⟩
          have HM2 := Lib.hid (hm2 wq3 (by rw [hwq]; exact heap_set_map HENT.out _))
          have HG2 := Lib.hid (show w1.grownBy wq3 (some mb) by rw [hwq]; exact HGR.out.andThen (grown_set_map HENT.out) (fun j e => .inr e))
          clear hrun2 hm2 hwq
          refine hK.out _ _ hS (fun hK3 => ?_)
          clear hK K hS hK2
          refine wpAnyH_done (by kernel_rfl) ?_ _
          go_wp2_with fail
          have HB3 := Lib.hid (HB1.out.grown HG2.out (HMB.out ▸ HB1.out.size) (fun j e => by cases e; exact Nat.le_refl _))
          go_roundg (l.length - (k + 1))
          case rel => exact ⟨k + 1, _, by omega, by go_num, Nat.le_refl _, Lib.hid (by have := HM2.out; rw [HC.out, HUP.out (x0, x1) rfl trivial] at this; exact this), HB3⟩
          case measure => omega
        · skip
          have hrun := HRUN.out
          go_simp
          clear hrun
          obtain ⟨wq1, hwq⟩ : ∃ W : World, W = ChangeMaps.setBlock w1.drew mb (.map es1 clock1) := ⟨_, rfl⟩
          rw [← hwq]
          have he : wq1.heap[mb]? = some (.map es1 clock1) := by rw [hwq]; exact heap_set_map HMH.out _
          have he1 : wq1.cell? ⟨eb, 1, none⟩ = some (.int .i64 x0) := by rw [hwq]; exact (cell_set_map HMH.out HNE.out _).trans g1
          have he2 : wq1.cell? ⟨eb, 2, none⟩ = some (.int .u64 (x1 : Int)) := by rw [hwq]; exact (cell_set_map HMH.out HNE.out _).trans g2
          have hgr : w1.grownBy wq1 (some mb) := by rw [hwq]; have q : w1.drew.grownBy (ChangeMaps.setBlock w1.drew mb (.map es1 clock1)) (some mb) := grown_set_map HMH.out; exact ⟨q.os, q.tape, q.output, q.size, q.block⟩
          have hS : (fun W : World => W.cell? ⟨eb, 1, none⟩ = some (.int .i64 x0) ∧ W.cell? ⟨eb, 2, none⟩ = some (.int .u64 (x1 : Int))) wq1 := ⟨he1, he2⟩
          have HENT := Lib.hid he
          have HE1 := Lib.hid he1
          have HE2 := Lib.hid he2
          have HGR := Lib.hid hgr
          clear he he1 he2 hgr hwq
          refine hK.out _ _ hS (fun hK1 => ?_)
          clear hK K hS hK0
          refine wpAnyH_take (i := 6) (oi := { dst := some 25, op := Go.Op.extract (Go.Operand.tmp 24) 1, type := 3, pos := "tally.go:33", after := #[{ on := 5, ground := Go.Ground.data }], guard := none }) (v := ?_) rfl (by kernel_rfl) (by kernel_rfl) (by kernel_rfl) (fun _ _ _ h => h) (Or.inl ⟨by rfl, ?_⟩) hK1 ?_
          rotate_left
          · (intro wz hSz; (try dsimp only at hSz); go_simp; try with_reducible rfl)
          simp only [Act.put, List.setIfInBounds_toArray, List.set_cons_zero, List.set_cons_succ]
          refine wpAnyH_ready (rs := [3]) (by kernel_rfl) (by simp) ?_
          refine AllReadyH.cons (o := { dst := some 22, op := Go.Op.lookup 48 (Go.Operand.tmp 19) (Go.Operand.tmp 21) false, type := 3, pos := "tally.go:33", after := #[{ on := 0, ground := Go.Ground.data }, { on := 2, ground := Go.Ground.data }], guard := none }) rfl (fun K hK => ?_) AllReadyH.nil
          have hlk := HLK.out _ HENT.out
          go_simp
          clear hlk
          have hS : (fun W : World => W.cell? ⟨eb, 1, none⟩ = some (.int .i64 x0) ∧ W.cell? ⟨eb, 2, none⟩ = some (.int .u64 (x1 : Int))) wq1 := ⟨HE1.out, HE2.out⟩
          refine hK.out _ _ hS (fun hK2 => ?_)
          clear hK K hS hK1
          refine wpAnyH_take (i := 4) (oi := { dst := some 23, op := Go.Op.binOp Go.BinOp.add 3 (Go.Operand.tmp 22) (Go.Operand.const (Go.Value.int Go.IntKind.i64 1)) 3, type := 3, pos := "tally.go:33", after := #[{ on := 3, ground := Go.Ground.data }], guard := none }) (v := ?_) rfl (by kernel_rfl) (by kernel_rfl) (by kernel_rfl) (fun _ _ _ h => h) (Or.inl ⟨by rfl, ?_⟩) hK2 ?_
          rotate_left
          · (intro wz hSz; (try dsimp only at hSz); go_simp; try with_reducible rfl)
          simp only [Act.put, List.setIfInBounds_toArray, List.set_cons_zero, List.set_cons_succ]
          refine wpAnyH_ready (rs := [7]) (by kernel_rfl) (by simp) ?_
          refine AllReadyH.cons (o := { dst := none, op := Go.Op.entryStore 48 (Go.Operand.tmp 19) (Go.Operand.tmp 25) (Go.Operand.tmp 23), type := 0, pos := "tally.go:33", after := #[{ on := 0, ground := Go.Ground.data }, { on := 6, ground := Go.Ground.data }, { on := 4, ground := Go.Ground.data }, { on := 5, ground := Go.Ground.chain }, { on := 0, ground := Go.Ground.phase }, { on := 1, ground := Go.Ground.phase }, { on := 2, ground := Go.Ground.phase }, { on := 3, ground := Go.Ground.phase }, { on := 4, ground := Go.Ground.phase }, { on := 5, ground := Go.Ground.phase }, { on := 6, ground := Go.Ground.phase }], guard := none }) rfl (fun K hK => ?_) AllReadyH.nil
          obtain ⟨es2, clock2, hrun2, hm2⟩ := HST.out wq1 (c + 1) HENT.out (by omega) HWF.out
          rw [show ((c + 1 : Nat) : Int) = IntKind.i64.wrap ((c : Int) + 1) by rw [IntKind.wrap_i64]; omega] at hrun2
          unfold goInt at hrun2
          go_simp
          obtain ⟨wq3, hwq⟩ : ∃ W : World, W = ChangeMaps.setBlock wq1 mb (.map es2 clock2) := ⟨_, rfl⟩
          rw [← hwq]
          have hS : (fun W : World => W.cell? ⟨eb, 1, none⟩ = some (.int .i64 x0) ∧ W.cell? ⟨eb, 2, none⟩ = some (.int .u64 (x1 : Int))) wq3 := by rw [hwq]; exact ⟨(cell_set_map HENT.out HNE.out _).trans HE1.out, (cell_set_map HENT.out HNE.out _).trans HE2.out⟩
          have HM2 := Lib.hid (hm2 wq3 (by rw [hwq]; exact heap_set_map HENT.out _))
          have HG2 := Lib.hid (show w1.grownBy wq3 (some mb) by rw [hwq]; exact HGR.out.andThen (grown_set_map HENT.out) (fun j e => .inr e))
          clear hrun2 hm2 hwq
          refine hK.out _ _ hS (fun hK3 => ?_)
          clear hK K hS hK2
          refine wpAnyH_done (by kernel_rfl) ?_ _
          go_wp2_with fail
          have HB3 := Lib.hid (HB1.out.grown HG2.out (HMB.out ▸ HB1.out.size) (fun j e => by cases e; exact Nat.le_refl _))
          go_roundg (l.length - (k + 1))
          case rel => exact ⟨k + 1, _, by omega, by go_num, Nat.le_refl _, Lib.hid (by have := HM2.out; rw [HC.out, HUP.out (x0, x1) rfl trivial] at this; exact this), HB3⟩
          case measure => omega
    · obtain rfl : k = l.length := by omega
      rw [List.take_length] at HM
      have HKY := Lib.hid (callsIn_wide.1 (keys_in 1 (some mb) wr))
      obtain ⟨W1, hW1⟩ : ∃ W : World, W = wr.alloc (.cells #[.map (some mb)] 48) := ⟨_, rfl⟩
      have hb1 : Below wr.heap.size wr W1 := by rw [hW1]; exact alloc1 _ _
      have hx1 : W1.heap[wr.heap.size]? = some (.cells #[.map (some mb)] 48 (0, 0)) := by rw [hW1]; exact heap_alloc_new wr _
      have HM1 := Lib.hid (HM.out.kept (grown_of hb1 none) (by simp))
      have HB1 : Hid (Below mb w W1) := Lib.hid (HBR.out.trans (hb1.mono (HMB.out ▸ HBR.out.size)))
      have HSF := Lib.hid (sortedF_any (by omega) (L.blk_lt hx1) (L.blk_cell hx1 0) HM1.out)
      rw [← hW1] at HKY
      clear hb1 hx1 hW1 hmm0 HM HBR HM0 HB0 HA
      go_wp2_with fail
      refine HKY.out.mono ?_
      rintro e w2 ⟨rfl, rfl⟩
      go_wp2_with fail
      refine HSF.out.mono ?_
      rintro e W2 ⟨B, bcap, ks, ss, rfl, hka, -, hp, hs, hL, hb2⟩
      have HKS := Lib.hid (keys_ks (l := lns l) (by
        intro x hx
        simp only [lns, List.mem_map] at hx
        obtain ⟨y, hy, rfl⟩ := hx
        exact HOK.out y (List.mem_filter.1 hy |>.1)) hka hp hs)
      have HLS := Lib.hid hL
      have HM2 := Lib.hid (HM1.out.kept (grown_of hb2 none) (by simp))
      have HB2 : Hid (Below mb w W2) := Lib.hid (HB1.out.trans (hb2.mono (HMB.out ▸ HB1.out.size)))
      have HNN : Hid (ks.length ≤ 1000) := Lib.hid (Nat.le_trans HKS.out.len (Nat.le_trans (lns_le _) hl))
      clear hka hp hs hL hb2 HSF HM1 HB1 HKY
      obtain ⟨i0, hi0, hz0, hz1, hz2⟩ := info_parts infoCt
      have hnn := HNN.out
      go_wp2_with fail
      go_loopg [6, 31] ks.length (fun q v i wr => ∃ (k : Nat) (ys : List (Lb × Nat)), k ≤ ks.length ∧ i = .int .i64 k ∧ ks.length - k ≤ q ∧ ys.length ≤ 1000 ∧ Hid (wr.ownsRow W2.heap.size 30 3 v ys.length (ctCells ys)) ∧ Hid (ys = cs (lns l) (ks.take k)) ∧ Hid (Below W2.heap.size W2 wr))
      case atStart => exact ⟨0, [], Nat.zero_le _, rfl, by omega, by simp, Lib.hid (World.ownsRow_nil _ _ _ _), Lib.hid (by simp [cs]), Lib.hid (Below.refl _ _)⟩
      case round =>
        obtain ⟨k, ys, hk, rfl, hm, hyl, HO, HY, HBR⟩ := hrel
        by_cases hlt : k < ks.length
        · obtain ⟨bk, off, hAe, hbk, hIt⟩ := HLS.out (by omega)
          subst hAe
          have hat := (hIt.below HBR.out hbk) k hlt
          have h0k : (0 : Int) ≤ (k : Int) := by omega
          have hki : (k : Int) < (ks.length : Int) := by omega
          have HN := Lib.hid (cs_take (lns l) ks hlt)
          rw [← HY.out] at HN
          have HWX := Lib.hid (show Wl ks[k] by
            have hx := (HKS.out.me ks[k]).1 (List.getElem_mem hlt)
            simp only [lns, List.mem_map] at hx
            obtain ⟨y, hy, e⟩ := hx
            rw [← e]
            exact HOK.out y (List.mem_filter.1 hy |>.1))
          have HLN : Hid ((cs (lns l) (ks.take (k + 1))).length ≤ 1000) := Lib.hid (by rw [cs_len]; exact Nat.le_trans (List.length_take_le _ _) (by omega))
          obtain ⟨x, hx⟩ : ∃ x, x = ks[k]'hlt := ⟨_, rfl⟩
          rw [← hx] at hat HN HWX
          clear hx HY
          obtain ⟨x0, x1⟩ := x
          obtain ⟨c0, c1⟩ := hat
          obtain ⟨c, hc⟩ : ∃ c, c = (lns l).count (x0, x1) := ⟨_, rfl⟩
          rw [← hc] at HN
          simp only at c0 c1
          obtain ⟨w1, hw1⟩ : ∃ W : World, W = wr.alloc (.cells #[.int .i64 x0, .int .u64 (x1 : Int)] 25) := ⟨_, rfl⟩
          have hb1 : Below wr.heap.size wr w1 := by rw [hw1]; exact alloc1 _ _
          have HR := Lib.hid (HBR.out.trans (hb1.mono HBR.out.size))
          have HO1 := Lib.hid (own_below HO.out hb1)
          have HM1 := Lib.hid (HM2.out.kept (grown_of HR.out none) (by simp))
          have HLQ := Lib.hid (fun (W : World) (h : MapIs W mb l.length (fun a => (lns l).count a) D) => h.look Try.underlying48 HWX.out)
          simp only [lbV, ← hc] at HLQ
          have HEO := Lib.hid (fun (j : Nat) (e : u6.ownBlock = some j) => show j ≠ wr.heap.size from Nat.ne_of_lt (HO.out.lt j e).2)
          have HMO := Lib.hid (fun (j : Nat) (e : u6.ownBlock = some j) => show j ≠ mb from fun q => by have h1 := own_base HO.out j e; have h2 := HM2.out.lt; omega)
          have HEL : Hid (wr.heap.size < w1.heap.size) := Lib.hid (by rw [hw1]; simp)
          have hx1 : w1.heap[wr.heap.size]? = some (.cells #[.int .i64 x0, .int .u64 (x1 : Int)] 25 (0, 0)) := by rw [hw1]; exact heap_alloc_new wr _
          have g0 := L.blk_cell hx1 0
          have g1 := L.blk_cell hx1 1
          simp only [List.getElem?_toArray, List.getElem?_cons_zero, List.getElem?_cons_succ] at g0 g1
          clear hb1 hx1 HO HBR hIt hc
          go_upto_region 12 with fail
          rw [← hw1]
          obtain ⟨eb, heb⟩ : ∃ q, q = wr.heap.size := ⟨_, rfl⟩
          rw [← heb] at g0 g1 HEO HEL ⊢
          clear hw1 heb c0 c1
          have HEB : Hid (eb < w1.heap.size) := Lib.hid HEL.out
          refine wp_region_held_drew (S := (fun W : World => W.cell? ⟨eb, 0, none⟩ = some (.int .i64 x0) ∧ W.cell? ⟨eb, 1, none⟩ = some (.int .u64 (x1 : Int)) ∧ MapIs W mb l.length (fun a => (lns l).count a) D)) (by kernel_rfl) (⟨g0, g1, HM1.out.same rfl⟩) (fun hK0 => ?_)
          refine wpAnyH_take (i := 0) (oi := { dst := some 35, op := Go.Op.move (Go.Operand.tmp 6), type := 27, pos := "tally.go:39", after := #[], guard := none }) (v := ?_) rfl (by kernel_rfl) (by kernel_rfl) (by kernel_rfl) (fun _ _ _ h => h) (Or.inl ⟨by rfl, ?_⟩) hK0 ?_
          rotate_left
          · (intro wz hSz; (try dsimp only at hSz); go_simp; try with_reducible rfl)
          simp only [Act.put, List.setIfInBounds_toArray, List.set_cons_zero, List.set_cons_succ]
          refine wpAnyH_take (i := 1) (oi := { dst := some 36, op := Go.Op.load 25 (Go.Operand.tmp 8), type := 25, pos := "tally.go:39", after := #[], guard := none }) (v := ?_) rfl (by kernel_rfl) (by kernel_rfl) (by kernel_rfl) (fun _ _ _ h => h) (Or.inl ⟨by rfl, ?_⟩) hK0 ?_
          rotate_left
          · (intro wz hSz; obtain ⟨hcz, hcz2, hcz3⟩ := hSz; clear hcz3; go_simp; try with_reducible rfl)
          simp only [Act.put, List.setIfInBounds_toArray, List.set_cons_zero, List.set_cons_succ]
          refine wpAnyH_take (i := 2) (oi := { dst := some 37, op := Go.Op.move (Go.Operand.tmp 3), type := 48, pos := "tally.go:39", after := #[], guard := none }) (v := ?_) rfl (by kernel_rfl) (by kernel_rfl) (by kernel_rfl) (fun _ _ _ h => h) (Or.inl ⟨by rfl, ?_⟩) hK0 ?_
          rotate_left
          · (intro wz hSz; (try dsimp only at hSz); go_simp; try with_reducible rfl)
          simp only [Act.put, List.setIfInBounds_toArray, List.set_cons_zero, List.set_cons_succ]
          refine wpAnyH_take (i := 3) (oi := { dst := some 38, op := Go.Op.load 25 (Go.Operand.tmp 8), type := 25, pos := "tally.go:39", after := #[], guard := none }) (v := ?_) rfl (by kernel_rfl) (by kernel_rfl) (by kernel_rfl) (fun _ _ _ h => h) (Or.inl ⟨by rfl, ?_⟩) hK0 ?_
          rotate_left
          · (intro wz hSz; obtain ⟨hcz, hcz2, hcz3⟩ := hSz; clear hcz3; go_simp; try with_reducible rfl)
          simp only [Act.put, List.setIfInBounds_toArray, List.set_cons_zero, List.set_cons_succ]
          refine wpAnyH_take (i := 4) (oi := { dst := some 39, op := Go.Op.lookup 48 (Go.Operand.tmp 37) (Go.Operand.tmp 38) false, type := 3, pos := "tally.go:39", after := #[{ on := 2, ground := Go.Ground.data }, { on := 3, ground := Go.Ground.data }], guard := none }) (v := ?_) rfl (by kernel_rfl) (by kernel_rfl) (by kernel_rfl) (fun _ _ _ h => h) (Or.inl ⟨by rfl, ?_⟩) hK0 ?_
          rotate_left
          · (intro wz hSz; obtain ⟨hcz, hcz2, hcz3⟩ := hSz; have hcz4 := HLQ.out wz hcz3; clear hcz3; go_simp; try with_reducible rfl)
          simp only [Act.put, List.setIfInBounds_toArray, List.set_cons_zero, List.set_cons_succ]
          refine wpAnyH_take (i := 5) (oi := { dst := some 40, op := Go.Op.build 30 #[(0, Go.Operand.tmp 36), (1, Go.Operand.tmp 39)], type := 30, pos := "tally.go:39", after := #[{ on := 1, ground := Go.Ground.data }, { on := 4, ground := Go.Ground.data }], guard := none }) (v := ?_) rfl (by kernel_rfl) (by kernel_rfl) (by kernel_rfl) (fun _ _ _ h => h) (Or.inl ⟨by rfl, ?_⟩) hK0 ?_
          rotate_left
          · (intro wz hSz; (try dsimp only at hSz); go_simp; try with_reducible rfl)
          simp only [Act.put, List.setIfInBounds_toArray, List.set_cons_zero, List.set_cons_succ]
          refine wpAnyH_ready (rs := [6]) (by kernel_rfl) (by simp) ?_
          refine AllReadyH.cons (o := { dst := some 41, op := Go.Op.buildSlice 27 1 #[(0, Go.Operand.tmp 40)], type := 27, pos := "tally.go:39", after := #[{ on := 5, ground := Go.Ground.data }], guard := none }) rfl (fun K hK => ?_) AllReadyH.nil
          go_simp
          obtain ⟨wq1, hwq⟩ : ∃ W : World, W = (w1.alloc (.cells #[.int .i64 x0, .int .u64 (x1 : Int), .int .i64 (c : Int)] 30)).drew := ⟨_, rfl⟩
          rw [← hwq]
          have hbq : Below w1.heap.size w1 wq1 := by rw [hwq]; exact (alloc1 _ _).drew
          have hS : (fun W : World => W.cell? ⟨eb, 0, none⟩ = some (.int .i64 x0) ∧ W.cell? ⟨eb, 1, none⟩ = some (.int .u64 (x1 : Int)) ∧ MapIs W mb l.length (fun a => (lns l).count a) D) wq1 := ⟨(hbq.cell (p := ⟨eb, 0, none⟩) HEB.out).trans g0, (hbq.cell (p := ⟨eb, 1, none⟩) HEB.out).trans g1, HM1.out.kept (grown_of hbq none) (by simp)⟩
          have hg : wq1.heap[w1.heap.size]? = some (.cells #[.int .i64 x0, .int .u64 (x1 : Int), .int .i64 (c : Int)] 30 (0, 0)) := by rw [hwq]; exact heap_alloc_new w1 _
          have HHS : Hid (W2.heap.size ≤ wq1.heap.size) := Lib.hid (Nat.le_trans HR.out.size hbq.size)
          obtain ⟨ga, hgn⟩ : ∃ g, g = w1.heap.size := ⟨_, rfl⟩
          rw [← hgn] at hg ⊢
          have HGC := Lib.hid hg
          have HOA := Lib.hid (own_below HO1.out hbq)
          have HR1 := Lib.hid (HR.out.trans (hbq.mono HR.out.size))
          have HEB1 : Hid (eb < wq1.heap.size) := Lib.hid (Nat.lt_of_lt_of_le HEB.out hbq.size)
          clear hbq hg hgn hwq
          refine hK.out _ _ hS (fun hK1 => ?_)
          clear hK K hS hK0
          refine wpAnyH_ready (rs := [7]) (by kernel_rfl) (by simp) ?_
          refine AllReadyH.cons (o := { dst := some 42, op := Go.Op.call { callee := Go.Callee.builtin Go.Builtin.append, args := #[Go.Operand.tmp 35, Go.Operand.tmp 41], argTypes := #[27, 27] }, type := 27, pos := "tally.go:39", after := #[{ on := 0, ground := Go.Ground.data }, { on := 6, ground := Go.Ground.data }], guard := none }) rfl (fun K hK => ?_) AllReadyH.nil
          have HNW := Lib.hid (World.news_of_block HGC.out)
          have H1C : Hid (∀ u ∈ ([.int .i64 x0, .int .u64 (x1 : Int), .int .i64 (c : Int)] : List Value), u.oneCell' = true) := Lib.hid (by intro u hu; simp at hu; rcases hu with rfl | rfl | rfl <;> rfl)
          have hsz : W2.heap.size ≤ wq1.heap.size := HHS.out
          refine step_append_lies _ (by rfl) (.tmp 35) (.tmp 41) 27 (by rfl) W2.heap.size 30 i0 _ 3 24 Try.underlying27 hi0 hz0 hz1 hz2 rfl (by decide) u6 ys.length (ctCells ys) (by rfl) HOA.out ⟨ga, 0, none⟩ 1 1 [.int .i64 x0, .int .u64 (x1 : Int), .int .i64 (c : Int)] (by rfl) rfl HNW.out H1C.out (by omega) (by unfold maxLen; omega) (by omega) hsz _ rfl ?_
          intro gd cap2 wq2 hown2 hg2 hat2 hlt2
          have hS : (fun W : World => W.cell? ⟨eb, 0, none⟩ = some (.int .i64 x0) ∧ W.cell? ⟨eb, 1, none⟩ = some (.int .u64 (x1 : Int)) ∧ MapIs W mb l.length (fun a => (lns l).count a) D) wq2 := by obtain ⟨q0, q1, q2⟩ := hK1; exact ⟨(World.cell?_of_block (a := ⟨eb, 0, none⟩) (hg2.block eb HEB1.out (fun e => HEO.out eb e.symm rfl))).trans q0, (World.cell?_of_block (a := ⟨eb, 1, none⟩) (hg2.block eb HEB1.out (fun e => HEO.out eb e.symm rfl))).trans q1, q2.kept hg2 (fun e => HMO.out mb e.symm rfl)⟩
          have HB4 : Hid (Below W2.heap.size W2 wq2) := Lib.hid (HR1.out.grown hg2 hsz (own_base HOA.out))
          rw [show ys.length + 1 = (ys ++ [((x0, x1), c)]).length by simp, show ctCells ys ++ [.int .i64 x0, .int .u64 (x1 : Int), .int .i64 (c : Int)] = ctCells (ys ++ [((x0, x1), c)]) by simp [ctCells]] at hown2
          have HO4 := Lib.hid hown2
          clear hown2 hg2 hat2 hlt2 HNW H1C hsz
          refine hK.out _ _ hS (fun hK2 => ?_)
          clear hK K hS hK1
          refine wpAnyH_take (i := 8) (oi := { dst := some 6, op := Go.Op.assign (Go.Operand.tmp 42), type := 27, pos := "tally.go:39", after := #[{ on := 7, ground := Go.Ground.data }, { on := 7, ground := Go.Ground.chain }, { on := 0, ground := Go.Ground.phase }, { on := 1, ground := Go.Ground.phase }, { on := 2, ground := Go.Ground.phase }, { on := 3, ground := Go.Ground.phase }, { on := 4, ground := Go.Ground.phase }, { on := 5, ground := Go.Ground.phase }, { on := 6, ground := Go.Ground.phase }, { on := 7, ground := Go.Ground.phase }], guard := none }) (v := ?_) rfl (by kernel_rfl) (by kernel_rfl) (by kernel_rfl) (fun _ _ _ h => h) (Or.inl ⟨by rfl, ?_⟩) hK2 ?_
          rotate_left
          · (intro wz hSz; (try dsimp only at hSz); go_simp; try with_reducible rfl)
          simp only [Act.put, List.setIfInBounds_toArray, List.set_cons_zero, List.set_cons_succ]
          refine wpAnyH_done (by kernel_rfl) ?_ _
          go_wp2_with fail
          go_roundg (ks.length - (k + 1))
          case rel => exact ⟨k + 1, ys ++ [((x0, x1), c)], by omega, by go_num, Nat.le_refl _, by have := HLN.out; rw [HN.out] at this; exact this, Lib.hid (by rw [show ys.length + 1 = (ys ++ [((x0, x1), c)]).length by simp]; exact HO4.out), Lib.hid (by rw [HN.out]), HB4⟩
          case measure => omega
        · obtain rfl : k = ks.length := by omega
          rw [List.take_length] at HY
          go_wp2_with fail
          go_ret
          exact ⟨ks, HKS.out, ce_of HO.out (HY.out) HB2.out.size (HMB.out ▸ HB2.out.trans (HBR.out.mono (HMB.out ▸ HB2.out.size)))⟩
end Go.Proofs.Ytmddikabilnokaa.Ta

namespace Go.Proofs.Ytmddikabilnokaa.Ta
set_option linter.unusedVariables false
set_option linter.unusedSimpArgs false
open Go.RowKit
open T
open I (It Lb ItemsIn ItemsAt itCells alloc1 own_at own_below)
open V (grown_of drawn_below)

def LcC (fn : FuncId) (A : Option Addr) (n cap : Nat) (l : List It) (a0 : Int) (a1 : Nat) (c : Nat) : Prop := ∀ w : World, ItemsIn w A l → Calls Try.prog fn #[.slice A n cap, .agg #[.int .i64 a0, .int .u64 (a1 : Int)]] w fun e w' => e = .returned (.int .i64 (c : Int)) ∧ Below w.heap.size w w'
theorem LcC.call {fn : FuncId} {A : Option Addr} {n cap : Nat} {l : List It} {a0 : Int} {a1 : Nat} {c : Nat} (h : LcC fn A n cap l a0 a1 c) (w : World) (hI : ItemsIn w A l) : Calls Try.prog fn #[.slice A n cap, .agg #[.int .i64 a0, .int .u64 (a1 : Int)]] w fun e w' => e = .returned (.int .i64 (c : Int)) ∧ Below w.heap.size w w' := h w hI
theorem lc_is (A : Option Addr) (cap : Nat) (l : List It) (a0 : Int) (a1 : Nat) (hl : l.length ≤ 1000000000) : LcC 11 A l.length cap l a0 a1 ((lns l).count (a0, a1)) := fun w h => lines_any A cap l (a0, a1) w h hl
/-- The first sixty items. -/
theorem few_any (A : Option Addr) (n c : Nat) (w : World) (ha : n ≤ maxLen) (hc : n ≤ c) :
    Calls Try.prog 7 #[.slice A n c] w fun e w' => e = .returned (.slice A (min n 60) c) ∧ w' = w := by
  unfold maxLen at ha
  obtain ⟨m, hm⟩ : ∃ m, m = min n 60 := ⟨_, rfl⟩
  have hm' : min (n : Int) 60 = (m : Int) := by omega
  have hmn : m ≤ n := by omega
  rw [← hm]
  clear hm
  go_enter Try.func7, Try.ntmps7
  go_wp2_with fail
  go_ret
  exact ⟨rfl, rfl⟩
set_option maxRecDepth 100000 in
set_option maxHeartbeats 2000000 in
/-- Grows. -/
theorem grows_any (A B : Option Addr) (cap bcap : Nat) (l m : List It) (a0 : Int) (a1 : Nat) (w : World) (hA : ItemsIn w A l) (hB : ItemsIn w B m) (hl : l.length ≤ 1000000000) (hm : m.length ≤ 1000000000) :
    Calls Try.prog 19 #[.slice A l.length cap, .slice B m.length bcap, .agg #[.int .i64 a0, .int .u64 (a1 : Int)]] w fun e w' => e = .returned (.int .i64 (((lns m).count (a0, a1) : Int) - ((lns l).count (a0, a1) : Int))) ∧ Below w.heap.size w w' := by
  obtain ⟨p, hp⟩ : ∃ p, p = (lns l).count (a0, a1) := ⟨_, rfl⟩
  obtain ⟨q, hq⟩ : ∃ q, q = (lns m).count (a0, a1) := ⟨_, rfl⟩
  have hp' : p ≤ l.length := by rw [hp]; exact Nat.le_trans List.count_le_length (lns_le _)
  have hq' : q ≤ m.length := by rw [hq]; exact Nat.le_trans List.count_le_length (lns_le _)
  obtain ⟨W0, hW0⟩ : ∃ W : World, W = w.alloc (.cells #[.int .i64 a0, .int .u64 (a1 : Int)] 25) := ⟨_, rfl⟩
  have hB0 : Below w.heap.size w W0 := by rw [hW0]; exact alloc1 _ _
  have HB0 := Lib.hid hB0
  have HX0 : W0.heap[w.heap.size]? = some (.cells #[.int .i64 a0, .int .u64 (a1 : Int)] 25 (0, 0)) := by rw [hW0]; exact heap_alloc_new w _
  have HLA := Lib.hid (lc_is A cap l a0 a1 hl)
  have HLB := Lib.hid (lc_is B bcap m a0 a1 hm)
  rw [← hp] at HLA
  rw [← hq] at HLB
  have HA := Lib.hid (hA.below hB0)
  have HB := Lib.hid (hB.below hB0)
  have z0 := L.blk_cell HX0 0
  have z1 := L.blk_cell HX0 1
  simp only [List.getElem?_toArray, List.getElem?_cons_zero, List.getElem?_cons_succ] at z0 z1
  have hwq : IntKind.i64.wrap ((q : Int) - (p : Int)) = (q : Int) - (p : Int) := by rw [IntKind.wrap_i64]; omega
  rw [← hp, ← hq]
  have HAL := Lib.hid (L.blk_lt HX0)
  clear hA hB hB0 HX0 hp hq
  go_enter Try.func19, Try.ntmps19
  go_upto_region 1 with fail
  rw [← hW0]
  obtain ⟨xb, hxb⟩ : ∃ q, q = w.heap.size := ⟨_, rfl⟩
  rw [← hxb] at z0 z1 HAL ⊢
  clear hW0 hxb
  refine wp_region_held_drew (S := (Keeps W0)) (by kernel_rfl) (keeps_drew _) (fun hK0 => ?_)
  refine wpAnyH_take (i := 0) (oi := { dst := some 7, op := Go.Op.move (Go.Operand.tmp 1), type := 22, pos := "tally.go:62", after := #[], guard := none }) (v := ?_) rfl (by kernel_rfl) (by kernel_rfl) (by kernel_rfl) (fun _ _ _ h => h) (Or.inl ⟨by rfl, ?_⟩) hK0 ?_
  rotate_left
  · (intro wz hSz; (try dsimp only at hSz); go_simp; try with_reducible rfl)
  simp only [Act.put, List.setIfInBounds_toArray, List.set_cons_zero, List.set_cons_succ]
  refine wpAnyH_take (i := 1) (oi := { dst := some 8, op := Go.Op.load 25 (Go.Operand.tmp 5), type := 25, pos := "tally.go:62", after := #[], guard := none }) (v := ?_) rfl (by kernel_rfl) (by kernel_rfl) (by kernel_rfl) (fun _ _ _ h => h) (Or.inl ⟨by rfl, ?_⟩) hK0 ?_
  rotate_left
  · (intro wz hSz; have hcz := (Keeps.b hSz).cell (p := ⟨xb, 0, none⟩) HAL.out |>.trans z0; have hcz2 := (Keeps.b hSz).cell (p := ⟨xb, 1, none⟩) HAL.out |>.trans z1; go_simp; try with_reducible rfl)
  simp only [Act.put, List.setIfInBounds_toArray, List.set_cons_zero, List.set_cons_succ]
  refine wpAnyH_take (i := 3) (oi := { dst := some 10, op := Go.Op.move (Go.Operand.tmp 0), type := 22, pos := "tally.go:62", after := #[], guard := none }) (v := ?_) rfl (by kernel_rfl) (by kernel_rfl) (by kernel_rfl) (fun _ _ _ h => h) (Or.inl ⟨by rfl, ?_⟩) hK0 ?_
  rotate_left
  · (intro wz hSz; (try dsimp only at hSz); go_simp; try with_reducible rfl)
  simp only [Act.put, List.setIfInBounds_toArray, List.set_cons_zero, List.set_cons_succ]
  refine wpAnyH_take (i := 4) (oi := { dst := some 11, op := Go.Op.load 25 (Go.Operand.tmp 5), type := 25, pos := "tally.go:62", after := #[], guard := none }) (v := ?_) rfl (by kernel_rfl) (by kernel_rfl) (by kernel_rfl) (fun _ _ _ h => h) (Or.inl ⟨by rfl, ?_⟩) hK0 ?_
  rotate_left
  · (intro wz hSz; have hcz := (Keeps.b hSz).cell (p := ⟨xb, 0, none⟩) HAL.out |>.trans z0; have hcz2 := (Keeps.b hSz).cell (p := ⟨xb, 1, none⟩) HAL.out |>.trans z1; go_simp; try with_reducible rfl)
  simp only [Act.put, List.setIfInBounds_toArray, List.set_cons_zero, List.set_cons_succ]
  refine wpAnyH_ready (rs := [2]) (by kernel_rfl) (by simp) ?_
  refine AllReadyH.cons (o := { dst := some 9, op := Go.Op.call { callee := Go.Callee.value (Go.Operand.func 11), args := #[Go.Operand.tmp 7, Go.Operand.tmp 8], argTypes := #[22, 25] }, type := 3, pos := "tally.go:62", after := #[{ on := 0, ground := Go.Ground.data }, { on := 1, ground := Go.Ground.data }], guard := none }) rfl (fun K hK => ?_) AllReadyH.nil
  go_simp
  with_reducible refine (HLB.out.call _ (HB.out.below (Keeps.b hK0))).mono ?_
  rintro r wq1 ⟨rfl, hbq⟩
  go_wp2_with fail
  refine hK.out _ _ (Keeps.trans hK0 hbq) (fun hK1 => ?_)
  clear hK K hbq hK0
  refine wpAnyH_ready (rs := [5]) (by kernel_rfl) (by simp) ?_
  refine AllReadyH.cons (o := { dst := some 12, op := Go.Op.call { callee := Go.Callee.value (Go.Operand.func 11), args := #[Go.Operand.tmp 10, Go.Operand.tmp 11], argTypes := #[22, 25] }, type := 3, pos := "tally.go:62", after := #[{ on := 3, ground := Go.Ground.data }, { on := 4, ground := Go.Ground.data }, { on := 2, ground := Go.Ground.chain }], guard := none }) rfl (fun K hK => ?_) AllReadyH.nil
  go_simp
  with_reducible refine (HLA.out.call _ (HA.out.below (Keeps.b hK1))).mono ?_
  rintro r wq2 ⟨rfl, hbq⟩
  go_wp2_with fail
  refine hK.out _ _ (Keeps.trans hK1 hbq) (fun hK2 => ?_)
  clear hK K hbq hK1
  refine wpAnyH_take (i := 6) (oi := { dst := some 13, op := Go.Op.binOp Go.BinOp.sub 3 (Go.Operand.tmp 9) (Go.Operand.tmp 12) 3, type := 3, pos := "tally.go:62", after := #[{ on := 2, ground := Go.Ground.data }, { on := 5, ground := Go.Ground.data }], guard := none }) (v := ?_) rfl (by kernel_rfl) (by kernel_rfl) (by kernel_rfl) (fun _ _ _ h => h) (Or.inl ⟨by rfl, ?_⟩) hK2 ?_
  rotate_left
  · (intro wz hSz; (try dsimp only at hSz); go_simp; try with_reducible rfl)
  simp only [Act.put, List.setIfInBounds_toArray, List.set_cons_zero, List.set_cons_succ]
  refine wpAnyH_take (i := 7) (oi := { dst := some 6, op := Go.Op.assign (Go.Operand.tmp 13), type := 3, pos := "tally.go:62", after := #[{ on := 6, ground := Go.Ground.data }, { on := 5, ground := Go.Ground.chain }, { on := 0, ground := Go.Ground.phase }, { on := 1, ground := Go.Ground.phase }, { on := 2, ground := Go.Ground.phase }, { on := 3, ground := Go.Ground.phase }, { on := 4, ground := Go.Ground.phase }, { on := 5, ground := Go.Ground.phase }, { on := 6, ground := Go.Ground.phase }], guard := none }) (v := ?_) rfl (by kernel_rfl) (by kernel_rfl) (by kernel_rfl) (fun _ _ _ h => h) (Or.inl ⟨by rfl, ?_⟩) hK2 ?_
  rotate_left
  · (intro wz hSz; (try dsimp only at hSz); go_simp; try with_reducible rfl)
  simp only [Act.put, List.setIfInBounds_toArray, List.set_cons_zero, List.set_cons_succ]
  refine wpAnyH_done (by kernel_rfl) ?_ _
  go_wp2_with fail
  go_ret
  exact ⟨rfl, HB0.out.trans ((Keeps.b hK2).mono HB0.out.size)⟩
/-- What Over comes to. -/
def LbEnd (w : World) (c : List Lb) (e : Ending) (w' : World) : Prop := ∃ A cap, e = .returned (.slice A c.length cap) ∧ w'.ownsRow w.heap.size 25 2 (.slice A c.length cap) c.length (lbCells c) ∧ Below w.heap.size w w'
theorem le_of {w w' : World} {base : Nat} {v : Value} {c ys : List Lb} (h : w'.ownsRow base 25 2 v ys.length (lbCells ys)) (hs : ys = c) (hb : w.heap.size ≤ base) (hB : Below w.heap.size w w') : LbEnd w c (.returned v) w' := by
  subst hs
  obtain ⟨A, cap, rfl, -, -⟩ := own_form h
  exact ⟨A, cap, rfl, own_more h hb, hB⟩
theorem ctCells_at : ∀ (xs : List (Lb × Nat)) (j : Nat) (h : j < xs.length), (ctCells xs)[j * 3]? = some (.int .i64 xs[j].1.1) ∧ (ctCells xs)[j * 3 + 1]? = some (.int .u64 (xs[j].1.2 : Int)) ∧ (ctCells xs)[j * 3 + 2]? = some (.int .i64 (xs[j].2 : Int))
  | x :: r, 0, _ => by simp [ctCells]
  | x :: r, j + 1, h => by
    have ih := ctCells_at r j (by simpa using h)
    have e : ctCells (x :: r) = .int .i64 x.1.1 :: .int .u64 (x.1.2 : Int) :: .int .i64 (x.2 : Int) :: ctCells r := by simp [ctCells]
    rw [e, show (j + 1) * 3 = j * 3 + 1 + 1 + 1 by omega]
    simpa using ih
def CtsIn (w : World) (A : Option Addr) (xs : List (Lb × Nat)) : Prop :=
  0 < xs.length → ∃ bk off, A = some ⟨bk, off, none⟩ ∧ bk < w.heap.size ∧ ∀ j (h : j < xs.length), w.cell? ⟨bk, off + j * 3, none⟩ = some (.int .i64 xs[j].1.1) ∧ w.cell? ⟨bk, off + j * 3 + 1, none⟩ = some (.int .u64 (xs[j].1.2 : Int)) ∧ w.cell? ⟨bk, off + j * 3 + 2, none⟩ = some (.int .i64 (xs[j].2 : Int))
theorem cts_own {w : World} {base : Nat} {A : Option Addr} {cap : Nat} {xs : List (Lb × Nat)} (h : w.ownsRow base 30 3 (.slice A xs.length cap) xs.length (ctCells xs)) : CtsIn w A xs := fun hp => by
  obtain ⟨g, hA, _, hlt, hc⟩ := own_at h hp
  refine ⟨g, 0, hA, hlt, fun j hj => ?_⟩
  obtain ⟨h0, h1, h2⟩ := ctCells_at xs j hj
  rw [Nat.zero_add]
  exact ⟨hc _ _ h0, hc _ _ h1, hc _ _ h2⟩
set_option maxRecDepth 100000 in
set_option maxHeartbeats 2000000 in
theorem over_any (A : Option Addr) (cap : Nat) (l : List It) (q : Int) (w : World) (hA : ItemsIn w A l) (hok : Wls l) (hl : l.length ≤ 1000) :
    Calls Try.prog 17 #[.slice A l.length cap, .int .i64 q] w fun e w' => ∃ ks, Ks (lns l) ks ∧ LbEnd w (ov q (cs (lns l) ks)) e w' := by
  have hcon := counts_any A cap l w hA hok hl
  obtain ⟨i0, hi0, hz0, hz1, hz2⟩ := info_parts infoLab
  clear hA hok
  go_enter Try.func17, Try.ntmps17
  go_wp2_with fail
  refine hcon.mono ?_
  rintro e W0 ⟨ks, hks, B, bcap, rfl, hrow, hb0⟩
  have HKS := Lib.hid hks
  have HB0 := Lib.hid hb0
  have HC := Lib.hid (cts_own hrow)
  have hcl : (cs (lns l) ks).length ≤ 1000 := by rw [cs_len]; exact Nat.le_trans hks.len (Nat.le_trans (lns_le _) hl)
  obtain ⟨c, hc⟩ : ∃ c, c = cs (lns l) ks := ⟨_, rfl⟩
  rw [← hc] at HC hcl ⊢
  have HCC := Lib.hid hc
  clear hcon hks hrow hb0 hc
  go_wp2_with fail
  go_loopg [5, 11] c.length (fun n v i wr => ∃ (k : Nat) (ys : List Lb), k ≤ c.length ∧ i = .int .i64 k ∧ c.length - k ≤ n ∧ ys.length ≤ k ∧ Hid (wr.ownsRow W0.heap.size 25 2 v ys.length (lbCells ys)) ∧ Hid (ys = ov q (c.take k)) ∧ Hid (Below W0.heap.size W0 wr))
  case atStart => exact ⟨0, [], Nat.zero_le _, rfl, by omega, by simp, Lib.hid (World.ownsRow_nil _ _ _ _), Lib.hid (by simp [ov]), Lib.hid (Below.refl _ _)⟩
  case round =>
    obtain ⟨k, ys, hk, rfl, hm, hyl, HO, HY, HBR⟩ := hrel
    by_cases hlt : k < c.length
    · obtain ⟨bk, off, hAe, hbk, hat⟩ := HC.out (by omega)
      subst hAe
      obtain ⟨c0, c1, c2⟩ := hat k hlt
      have d0 := (HBR.out.cell (p := ⟨bk, _, none⟩) hbk).trans c0
      have d1 := (HBR.out.cell (p := ⟨bk, _, none⟩) hbk).trans c1
      have d2 := (HBR.out.cell (p := ⟨bk, _, none⟩) hbk).trans c2
      have HN := Lib.hid (ov_take q hlt)
      rw [← HY.out] at HN
      have h0k : (0 : Int) ≤ (k : Int) := by omega
      have hki : (k : Int) < (c.length : Int) := by omega
      obtain ⟨x, hx⟩ : ∃ x, x = c[k]'hlt := ⟨_, rfl⟩
      rw [← hx] at d0 d1 d2 HN
      clear hx HY hat c0 c1 c2
      obtain ⟨⟨x0, x1⟩, n⟩ := x
      simp only at d0 d1 d2 HN
      obtain ⟨w1, hw1⟩ : ∃ W : World, W = wr.alloc (.cells #[.int .i64 x0, .int .u64 (x1 : Int), .int .i64 (n : Int)] 30) := ⟨_, rfl⟩
      have hb1 : Below wr.heap.size wr w1 := by rw [hw1]; exact alloc1 _ _
      have HR := Lib.hid (HBR.out.trans (hb1.mono HBR.out.size))
      have HO1 := Lib.hid (own_below HO.out hb1)
      have hx1 : w1.heap[wr.heap.size]? = some (.cells #[.int .i64 x0, .int .u64 (x1 : Int), .int .i64 (n : Int)] 30 (0, 0)) := by rw [hw1]; exact heap_alloc_new wr _
      have g0 := L.blk_cell hx1 0
      have g1 := L.blk_cell hx1 1
      have g2 := L.blk_cell hx1 2
      simp only [List.getElem?_toArray, List.getElem?_cons_zero, List.getElem?_cons_succ] at g0 g1 g2
      clear hb1 hx1 HO HBR
      go_upto_region 5 with fail
      rw [← hw1]
      obtain ⟨eb, heb⟩ : ∃ q, q = wr.heap.size := ⟨_, rfl⟩
      rw [← heb] at g0 g1 g2 ⊢
      clear hw1 d0 d1 d2 heb
      by_cases hq : q < (n : Int)
      · have hs2 := HR.out.size
        have HOA := Lib.hid (World.ownsRow.alloc HO1.out (.cells #[.int .i64 x0, .int .u64 (x1 : Int)] 25))
        have HNW := Lib.hid (World.news_of_block (w := w1.alloc (.cells #[.int .i64 x0, .int .u64 (x1 : Int)] 25)) (heap_alloc_new w1 _))
        go_wp2_with (at_builtin; refine wpList_append_own _ rfl (.tmp 19) (.tmp 22) 35 rfl W0.heap.size 25 i0 _ 2 16 Try.underlying35 hi0 hz0 hz1 hz2 rfl (by decide) _ ys.length (lbCells ys) rfl HOA.out ⟨w1.heap.size, 0, none⟩ 1 1 [.int .i64 x0, .int .u64 (x1 : Int)] rfl rfl HNW.out ?c2 ?c3 ?c4 ?c5 ?_)
        case c2 => first | exact ⟨rfl, rfl⟩ | (intro u hu; simp at hu; rcases hu with rfl | rfl <;> rfl)
        case c3 => unfold maxLen; omega
        case c4 => omega
        case c5 => first | omega | (simp; omega)
        intro v' w4 hown4 hg4 _
        have HB4 : Hid (Below W0.heap.size W0 w4) := Lib.hid ((HR.out.alloc hs2 _).grown hg4 (by simp; omega) (own_base HO1.out))
        rw [show ys.length + 1 = (ys ++ [(x0, x1)]).length by simp, show lbCells ys ++ [.int .i64 x0, .int .u64 (x1 : Int)] = lbCells (ys ++ [(x0, x1)]) from (lbCells_snoc ys (x0, x1)).symm] at hown4
        have HO4 := Lib.hid hown4
        clear hown4 hg4
        go_wp2_with fail
        go_roundg (c.length - (k + 1))
        case rel => exact ⟨k + 1, ys ++ [(x0, x1)], by omega, by go_num, Nat.le_refl _, by simp; omega, HO4, Lib.hid (by rw [HN.out, if_pos (by omega)]), HB4⟩
        case measure => omega
      · have hd : decide (q < (n : Int)) = false := decide_eq_false hq
        go_wp2_with fail
        go_roundg (c.length - (k + 1))
        case rel => exact ⟨k + 1, ys, by omega, by go_num, Nat.le_refl _, by omega, HO1, Lib.hid (by rw [HN.out, if_neg (by omega), List.append_nil]), HR⟩
        case measure => omega
    · obtain rfl : k = c.length := by omega
      rw [List.take_length] at HY
      go_wp2_with fail
      go_ret
      exact ⟨ks, HKS.out, le_of HO.out (by rw [← HCC.out]; exact HY.out) HB0.out.size (HB0.out.trans (HBR.out.mono HB0.out.size))⟩
set_option maxRecDepth 100000 in
set_option maxHeartbeats 1000000 in
theorem fits_any (A : Option Addr) (cap : Nat) (l : List It) (q : Int) (w : World) (hA : ItemsIn w A l) (hok : Wls l) (hl : l.length ≤ 1000) :
    Calls Try.prog 18 #[.slice A l.length cap, .int .i64 q] w fun e w' => ∃ ks, Ks (lns l) ks ∧ e = .returned (.bool (decide ((ov q (cs (lns l) ks)).length = 0))) ∧ Below w.heap.size w w' := by
  have hcon := over_any A cap l q w hA hok hl
  clear hA hok
  go_enter Try.func18, Try.ntmps18
  go_wp2_with fail
  refine hcon.mono ?_
  rintro e W0 ⟨ks, hks, B, bcap, rfl, hrow, hb0⟩
  obtain ⟨n, hn⟩ : ∃ n, n = (ov q (cs (lns l) ks)).length := ⟨_, rfl⟩
  rw [← hn]
  have HKS := Lib.hid hks
  have HN := Lib.hid hn
  clear hcon hrow hks hn
  by_cases h0 : n = 0
  · subst h0
    go_wp2_with fail
    go_ret
    exact ⟨ks, HKS.out, by rw [← HN.out]; rfl, hb0⟩
  · have h1 : ¬ (n : Int) = 0 := by omega
    go_wp2_with fail
    go_ret
    exact ⟨ks, HKS.out, by rw [← HN.out]; simp [h0], hb0⟩
end Go.Proofs.Ytmddikabilnokaa.Ta

namespace Go.Proofs.Ytmddikabilnokaa.Ta
set_option linter.unusedVariables false
set_option linter.unusedSimpArgs false
open Go.RowKit
open T
open I (It Lb ItemsIn ItemsAt itCells alloc1 own_at own_below)
open V (grown_of drawn_below)

/-- Counts with room. -/
structure Cx (w : World) (A : Option Addr) (c : Nat) (l : List (Lb × Nat)) : Prop where
  i : CtsIn w A l
  r : l.length ≤ c
  z : A = none → c = 0
theorem CtsIn.below {w w' : World} {A : Option Addr} {l : List (Lb × Nat)} (h : CtsIn w A l) (hb : Below w.heap.size w w') : CtsIn w' A l := fun hp => by
  obtain ⟨bk, off, e, hlt, hl⟩ := h hp
  exact ⟨bk, off, e, Nat.lt_of_lt_of_le hlt hb.size, fun j hj => ⟨(hb.cell (p := ⟨bk, _, none⟩) hlt).trans (hl j hj).1, (hb.cell (p := ⟨bk, _, none⟩) hlt).trans (hl j hj).2.1, (hb.cell (p := ⟨bk, _, none⟩) hlt).trans (hl j hj).2.2⟩⟩
theorem Cx.below {w w' : World} {A : Option Addr} {c : Nat} {l : List (Lb × Nat)} (h : Cx w A c l) (hb : Below w.heap.size w w') : Cx w' A c l := ⟨h.i.below hb, h.r, h.z⟩
theorem cx_own {w : World} {base : Nat} {v : Value} {l : List (Lb × Nat)} (h : w.ownsRow base 30 3 v l.length (ctCells l)) : ∃ A c, v = .slice A l.length c ∧ Cx w A c l := by
  rcases h.2 with ⟨rfl, h0⟩ | ⟨g, cap, cur, rfl, h1, h2, h3, h4⟩
  · obtain rfl : l = [] := List.length_eq_zero_iff.1 h0
    exact ⟨none, 0, rfl, ⟨fun h => absurd h (by simp), Nat.le_refl _, fun _ => rfl⟩⟩
  · exact ⟨_, _, rfl, ⟨cts_own h, h3, fun e => (by cases e)⟩⟩
theorem ctCells_len : ∀ l : List (Lb × Nat), (ctCells l).length = l.length * 3
  | [] => rfl
  | a :: r => by
    have := ctCells_len r
    simp only [ctCells, List.flatMap_cons, List.length_append, List.length_cons, List.length_nil] at this ⊢
    omega
theorem ctCells_one (a : List (Lb × Nat)) : ∀ u ∈ ctCells a, u.oneCell' = true := by
  intro u hu
  simp only [ctCells, List.mem_flatMap] at hu
  obtain ⟨x, _, hu⟩ := hu
  simp at hu
  rcases hu with rfl | rfl | rfl <;> rfl
theorem ctCells_app (a b : List (Lb × Nat)) : ctCells (a ++ b) = ctCells a ++ ctCells b := by simp [ctCells]
theorem cts_news {w : World} {bk off : Nat} {xs : List (Lb × Nat)} (h : ∀ j (h : j < xs.length), w.cell? ⟨bk, off + j * 3, none⟩ = some (.int .i64 xs[j].1.1) ∧ w.cell? ⟨bk, off + j * 3 + 1, none⟩ = some (.int .u64 (xs[j].1.2 : Int)) ∧ w.cell? ⟨bk, off + j * 3 + 2, none⟩ = some (.int .i64 (xs[j].2 : Int))) :
    ∀ j u, (ctCells xs)[j]? = some u → w.cell? ((⟨bk, off, none⟩ : Addr).add j) = some u := by
  intro j u hu
  have hj : j < xs.length * 3 := by rw [← ctCells_len]; exact (List.getElem?_eq_some_iff.1 hu).1
  have hq : j / 3 < xs.length := by omega
  obtain ⟨h0, h1, h2⟩ := ctCells_at xs (j / 3) hq
  obtain ⟨c0, c1, c2⟩ := h (j / 3) hq
  have hm : j % 3 < 3 := Nat.mod_lt _ (by omega)
  rw [show (⟨bk, off, none⟩ : Addr).add j = ⟨bk, off + j, none⟩ by simp [Addr.add]]
  have key : ∀ r, j % 3 = r → j = j / 3 * 3 + r := fun r hr => by omega
  match hr : j % 3, hm with
  | 0, _ => rw [key 0 hr, Nat.add_zero] at hu ⊢; rw [h0] at hu; rw [c0]; exact hu
  | 1, _ => rw [key 1 hr] at hu ⊢; rw [h1] at hu; rw [← Nat.add_assoc, c1]; exact hu
  | 2, _ => rw [key 2 hr] at hu ⊢; rw [h2] at hu; rw [← Nat.add_assoc, c2]; exact hu
/-- a[:k]. -/
theorem take_isC {A : Option Addr} {n c k : Nat} (hkn : k ≤ n) (hnc : n ≤ c) (hz : A = none → c = 0) (W : World) : Sem.run Try.prog (Instr.sliceAt 27 (.slice A n c) none (some (.int .i64 (k : Int))) none) W = .ok (.slice A k c) W := by
  have h0k : (0 : Int) ≤ (k : Int) := by omega
  have hkc : (k : Int) ≤ (c : Int) := by omega
  cases A with
  | none =>
    obtain rfl := hz rfl
    obtain rfl : n = 0 := by omega
    obtain rfl : k = 0 := by omega
    go_simp
  | some ad =>
    by_cases hc : c = 0
    · subst hc
      obtain rfl : n = 0 := by omega
      obtain rfl : k = 0 := by omega
      go_simp
    · go_simp
/-- Where a[k:] lies. -/
def dropC (B : Option Addr) (c k : Nat) : Option Addr := if c = k then B else B.map fun ad => ad.add (k * 3)
theorem drop_isC {B : Option Addr} {n c k : Nat} (hkn : k ≤ n) (hnc : n ≤ c) (hz : B = none → c = 0) (W : World) : Sem.run Try.prog (Instr.sliceAt 27 (.slice B n c) (some (.int .i64 (k : Int))) none none) W = .ok (.slice (dropC B c k) (n - k) (c - k)) W := by
  have h0k : (0 : Int) ≤ (k : Int) := by omega
  have hkn' : (k : Int) ≤ (n : Int) := by omega
  have hnc' : (n : Int) ≤ (c : Int) := by omega
  cases B with
  | none =>
    obtain rfl := hz rfl
    obtain rfl : n = 0 := by omega
    obtain rfl : k = 0 := by omega
    rw [show dropC none 0 0 = none from rfl]
    go_simp
  | some ad =>
    by_cases hc : c = k
    · subst hc
      obtain rfl : n = c := by omega
      rw [show dropC (some ad) n n = some ad from if_pos rfl, Nat.sub_self]
      go_simp
    · rw [show dropC (some ad) c k = some (ad.add (k * 3)) from if_neg hc]
      go_simp
theorem cts_take {w : World} {A : Option Addr} {l : List (Lb × Nat)} (h : CtsIn w A l) (k : Nat) : CtsIn w A (l.take k) := fun hp => by
  rw [List.length_take] at hp
  obtain ⟨bk, off, e, hlt, hl⟩ := h (by omega)
  refine ⟨bk, off, e, hlt, fun j hj => ?_⟩
  rw [List.length_take] at hj
  simp only [List.getElem_take]
  exact hl j (by omega)
theorem cts_drop {w : World} {A : Option Addr} {c : Nat} {l : List (Lb × Nat)} (h : Cx w A c l) (k : Nat) : CtsIn w (dropC A c k) (l.drop k) := fun hp => by
  rw [List.length_drop] at hp
  obtain ⟨bk, off, rfl, hlt, hl⟩ := h.i (by omega)
  have := h.r
  refine ⟨bk, off + k * 3, by rw [dropC, if_neg (by omega)]; simp [Addr.add], hlt, fun j hj => ?_⟩
  rw [List.length_drop] at hj
  obtain ⟨c0, c1, c2⟩ := hl (k + j) (by omega)
  rw [List.getElem_drop]
  rw [show off + k * 3 + j * 3 = off + (k + j) * 3 by omega]
  exact ⟨c0, c1, c2⟩
/-- append(a, b...), b of no count, too. -/
theorem run_app {w : World} {base : Nat} {v : Value} {ys zs : List (Lb × Nat)} {A2 : Option Addr} {c2 : Nat} (hown : w.ownsRow base 30 3 v ys.length (ctCells ys)) (hz : CtsIn w A2 zs) (ty : TypeId) (hl : ys.length + zs.length ≤ 1000) (hbase : base ≤ w.heap.size) :
    ∃ v' w', (Builtin.append_ #[27, 27] ty #[v, .slice A2 zs.length c2]).run Try.prog w = .ok v' w' ∧ w'.ownsRow base 30 3 v' (ys ++ zs).length (ctCells (ys ++ zs)) ∧ w.grownBy w' v.ownBlock := by
  by_cases h0 : zs.length = 0
  · obtain rfl : zs = [] := List.length_eq_zero_iff.1 h0
    refine ⟨v, w, ?_, by rw [List.append_nil]; exact hown, World.grownBy.refl _ _⟩
    obtain ⟨A, c, rfl, hc⟩ := cx_own hown
    have h1 := hc.r
    have h2 : (ys.length : Int) ≤ (c : Int) := by omega
    have hz' := hc.z
    clear hown hz h0
    cases A with
    | none =>
      obtain rfl := hz' rfl
      have h3 : ys.length = 0 := by omega
      rw [h3]
      cases A2 with
      | none => go_simp
      | some b => go_simp; try simp [storeCells, go_sem]
    | some a =>
      cases A2 with
      | none => go_simp; try simp [storeCells, go_sem]
      | some b => go_simp; try simp [storeCells, go_sem]
  · obtain ⟨i0, hi0, hz0, hz1, hz2⟩ := info_parts infoCt
    obtain ⟨bk, off, rfl, hlt, hat⟩ := hz (by omega)
    obtain ⟨g, cap, w', hr, ho, hg, -, -⟩ := run_append_lies w 27 ty base 30 i0 _ 3 24 Try.underlying27 hi0 hz0 hz1 hz2 rfl (by decide) v ys.length (ctCells ys) hown ⟨bk, off, none⟩ zs.length c2 (ctCells zs) (ctCells_len zs) (cts_news hat) (ctCells_one _) (by omega) (by unfold maxLen; omega) (by omega) hbase _ rfl
    exact ⟨_, w', hr, by rw [ctCells_app, List.length_append]; exact ho, hg⟩
end Go.Proofs.Ytmddikabilnokaa.Ta
