/-
  The contract of the reader's takeFloor.
  The contract of the reader's takeUser.
  The contract of the reader's takeNumber.
-/
import Derived.Test.YtadhhamfikpimaaDoorGd
import Derived.Deep.AppendLies
import Derived.Deep.RegionHeldLaw
import Derived.Deep.DrawnRows
import Derived.Deep.LoopGhost
namespace Go.Proofs.YtadhhamfikpimaaDoor.O
open Go.RowKit
open T
attribute [local go_sem ↓] Go.wp_at_zero Go.wp_at_succ
variable {w w' : World} {base rb mb n : Nat} {p : Pol} {f : List UInt8 → Int} {line : Int} {uv fv : Value}


theorem pushFlr {W w3 : World} {o : Obj} {q g3 cap3 vcap : Nat} {vA : Option Addr} {x : Flr} (HR : Rd W base rb mb n p f line uv fv) (HB : Below base w W) (hq : q = p.fs.length) (hv : fv = .slice vA p.fs.length vcap)
    (hg : (W.alloc o).drew.grownBy w3 (Value.slice vA q vcap).ownBlock) (hown3 : w3.ownsRow base 76 3 (.slice (some ⟨g3, 0, none⟩) (q + 1) cap3) (q + 1) (flrCells p.fs ++ [.string ⟨x.pre.toArray⟩, .int .i64 x.lv, .int .u64 (x.ct : Int)])) :
    Took w base rb mb n { p with fs := p.fs ++ [x] } f line (.returned (.tuple #[])) (w3.setCell ⟨rb, 8, none⟩ (.slice (some ⟨g3, 0, none⟩) (q + 1) cap3)) := by
  rw [hq, ← hv] at hg
  have hrow := HR.fs
  have hgW : W.grownBy w3 fv.ownBlock := ⟨hg.os, hg.tape, hg.output, Nat.le_trans (by simp) hg.size, fun k hk hne => (hg.block k (by simp; omega) hne).trans (Below.heap_alloc W o k hk)⟩
  have hrb : some rb ≠ fv.ownBlock := fun e => by
    rcases own_ne hrow (g := rb) (fun cs => ne_type (by decide) HR.blk) with h0 | h0
    · rw [h0] at e; cases e
    · exact h0 e.symm
  have hmb : some mb ≠ fv.ownBlock := fun e => by
    rcases own_ne hrow (g := mb) (fun cs hc => (HR.map.notCells hc) rfl) with h0 | h0
    · rw [h0] at e; cases e
    · exact h0 e.symm
  have hob : uv.ownBlock = none ∨ uv.ownBlock ≠ fv.ownBlock := by
    rcases hrow.2 with ⟨e, _⟩ | ⟨gf, cf, cur, e, _, hh, _⟩
    · rw [e]; cases uv.ownBlock <;> simp [Value.ownBlock]
    · rw [e]; exact own_ne HR.us (g := gf) (fun cs => ne_type (by decide) hh)
  have blk3 : w3.heap[rb]? = some (.cells (rdCells p uv fv mb line) 99 (0, 0)) := (hgW.block rb (L.blk_lt HR.blk) hrb).trans HR.blk
  have map3 := HR.map.kept hgW hmb
  have oth3 := HR.us.kept hgW hob
  have hset := grown_set w3 ⟨rb, 8, none⟩ (.slice (some ⟨g3, 0, none⟩) (q + 1) cap3)
  have hne := MapIs.notCells map3 blk3
  refine ⟨rfl, ⟨uv, .slice (some ⟨g3, 0, none⟩) (q + 1) cap3, HR.hb, HR.hm, ?_, map3.kept hset (by simp; exact fun e => hne e.symm), ?_, ?_⟩, ?_⟩
  · have := L.blk_set blk3 8 (.slice (some ⟨g3, 0, none⟩) (q + 1) cap3)
    exact this
  · exact oth3.kept hset (own_ne oth3 (fun cs => ne_type (by decide) blk3))
  · have e : (p.fs ++ [x]).length = q + 1 := by simp [hq]
    show World.ownsRow _ _ _ _ _ (p.fs ++ [x]).length (flrCells (p.fs ++ [x]))
    rw [e, show flrCells (p.fs ++ [x]) = flrCells p.fs ++ [.string ⟨x.pre.toArray⟩, .int .i64 x.lv, .int .u64 (x.ct : Int)] by simp [flrCells]]
    exact hown3.kept hset (own_ne hown3 (fun cs => ne_type (by decide) blk3))
  · exact ((HB.grown hgW (HR.size) (fun k hk => own_base hrow k hk)).setCell HR.hb _)

set_option maxRecDepth 100000 in
set_option maxHeartbeats 2000000 in
theorem floor_len (h : Rd w base rb mb n p f line uv fv) (g m cap : Nat) (hm : m ≠ 3) :
    Calls Tryd.prog 93 #[.pointer (some ⟨rb, 0, none⟩), .slice (some ⟨g, 0, none⟩) m cap] w (Fell w base rb line) := by
  have HF := Lib.hid (h.fell (Below.refl base w))
  have hne : ((m : Int) == 3) = false := beq_eq_false_iff_ne.2 (by omega)
  clear h hm
  go_enter Tryd.func93, Tryd.ntmps93
  go_wp2_with fail
  with_reducible refine (need_no _).mono ?_
  rintro e w' ⟨rfl, rfl⟩
  go_wp2_with fail
  exact ⟨rfl, HF.out⟩

set_option maxRecDepth 100000 in
set_option maxHeartbeats 2000000 in
theorem floor_full (h : Rd w base rb mb n p f line uv fv) (g cap : Nat) (hq : ¬ p.fs.length < 32) :
    Calls Tryd.prog 93 #[.pointer (some ⟨rb, 0, none⟩), .slice (some ⟨g, 0, none⟩) 3 cap] w (Fell w base rb line) := by
  have HF := Lib.hid (h.fell (Below.refl base w))
  obtain ⟨vA, vcap, rfl, hvc, -⟩ := own_form h.fs
  have hcf : w.cell? ⟨rb, 8, none⟩ = some (.slice vA p.fs.length vcap) := h.cells.2.2.2
  generalize p.fs.length = q at *
  have hq' : ¬ (q : Int) < 32 := by omega
  have hqd : decide ((q : Int) < 32) = false := decide_eq_false hq'
  clear h
  go_enter Tryd.func93, Tryd.ntmps93
  go_wp2_with fail
  with_reducible refine (need_yes _).mono ?_
  rintro e w' ⟨rfl, rfl⟩
  go_wp2_with fail
  with_reducible refine (need_no _).mono ?_
  rintro e w' ⟨rfl, rfl⟩
  go_wp2_with fail
  exact ⟨rfl, HF.out⟩

set_option maxRecDepth 100000 in
set_option maxHeartbeats 2000000 in
theorem floor_name (h : Rd w base rb mb n p f line uv fv) (g cap : Nat) (hq : p.fs.length < 32) (HN : Hid (Calls Tryd.prog 108 #[.pointer (some ⟨rb, 0, none⟩), .slice (some ⟨g, 0, none⟩) 3 cap] w (Fell w base rb line))) :
    Calls Tryd.prog 93 #[.pointer (some ⟨rb, 0, none⟩), .slice (some ⟨g, 0, none⟩) 3 cap] w (Fell w base rb line) := by
  obtain ⟨vA, vcap, rfl, hvc, -⟩ := own_form h.fs
  have hcf : w.cell? ⟨rb, 8, none⟩ = some (.slice vA p.fs.length vcap) := h.cells.2.2.2
  generalize p.fs.length = q at *
  have hq' : (q : Int) < 32 := by omega
  have hqd : decide ((q : Int) < 32) = true := decide_eq_true hq'
  clear h
  go_enter Tryd.func93, Tryd.ntmps93
  go_wp2_with fail
  with_reducible refine (need_yes _).mono ?_
  rintro e w' ⟨rfl, rfl⟩
  go_wp2_with fail
  with_reducible refine (need_yes _).mono ?_
  rintro e w' ⟨rfl, rfl⟩
  go_wp2_with fail
  with_reducible refine (HN.out).mono ?_
  rintro e w' ⟨rfl, hF⟩
  go_wp2_with fail
  exact ⟨rfl, rfl, hF⟩

set_option maxRecDepth 100000 in
set_option maxHeartbeats 2000000 in
theorem floor_label (h : Rd w base rb mb n p f line uv fv) (g cap : Nat) (a1 : ByteArray) (hq : p.fs.length < 32) (f' : List UInt8 → Int) (HN : Hid (Calls Tryd.prog 108 #[.pointer (some ⟨rb, 0, none⟩), .slice (some ⟨g, 0, none⟩) 3 cap] w fun e w' => e = .returned (.string a1) ∧ SayPost w base rb mb (n + 1) p f' line uv fv w'))
    (HL : Hid (∀ w1, SayPost w base rb mb (n + 1) p f' line uv fv w1 → Calls Tryd.prog 109 #[.pointer (some ⟨rb, 0, none⟩), .slice (some ⟨g, 0, none⟩) 3 cap] w1 (Fell w1 base rb line))) :
    Calls Tryd.prog 93 #[.pointer (some ⟨rb, 0, none⟩), .slice (some ⟨g, 0, none⟩) 3 cap] w (Fell w base rb line) := by
  have H := Lib.hid h
  obtain ⟨vA, vcap, rfl, hvc, -⟩ := own_form h.fs
  have hcf : w.cell? ⟨rb, 8, none⟩ = some (.slice vA p.fs.length vcap) := h.cells.2.2.2
  generalize p.fs.length = q at *
  have hq' : (q : Int) < 32 := by omega
  have hqd : decide ((q : Int) < 32) = true := decide_eq_true hq'
  clear h
  go_enter Tryd.func93, Tryd.ntmps93
  go_wp2_with fail
  with_reducible refine (need_yes _).mono ?_
  rintro e w' ⟨rfl, rfl⟩
  go_wp2_with fail
  with_reducible refine (need_yes _).mono ?_
  rintro e w' ⟨rfl, rfl⟩
  go_wp2_with fail
  with_reducible refine (HN.out).mono ?_
  rintro e w1 ⟨rfl, hS⟩
  have hL := HL.out w1 hS
  have hb1 : Below base w w1 := H.out.saidBelow hS.2
  have HL1 := Lib.hid hL
  clear hS hL HL HN hcf
  go_wp2_with fail
  with_reducible refine (HL1.out).mono ?_
  rintro e w2 ⟨rfl, hc, hb2⟩
  go_wp2_with fail
  exact ⟨rfl, rfl, hc, hb1.trans hb2⟩

set_option maxRecDepth 100000 in
set_option maxHeartbeats 2000000 in
theorem floor_yes (h : Rd w base rb mb n p f line uv fv) (g cap : Nat) (a1 : ByteArray) (l : Int) (k : Nat) (hq : p.fs.length < 32) (f' : List UInt8 → Int) (HN : Hid (Calls Tryd.prog 108 #[.pointer (some ⟨rb, 0, none⟩), .slice (some ⟨g, 0, none⟩) 3 cap] w fun e w' => e = .returned (.string a1) ∧ SayPost w base rb mb (n + 1) p f' line uv fv w'))
    (HL : Hid (∀ w1, SayPost w base rb mb (n + 1) p f' line uv fv w1 → Calls Tryd.prog 109 #[.pointer (some ⟨rb, 0, none⟩), .slice (some ⟨g, 0, none⟩) 3 cap] w1 fun e w' => e = .returned (L.lab l k) ∧ Below w1.heap.size w1 w')) :
    Calls Tryd.prog 93 #[.pointer (some ⟨rb, 0, none⟩), .slice (some ⟨g, 0, none⟩) 3 cap] w (Took w base rb mb (n + 1) { p with fs := p.fs ++ [⟨a1.data.toList, l, k⟩] } f' line) := by
  obtain ⟨i0, hi0, hz0, hz1, hz2⟩ := info_parts infoFlr
  have H := Lib.hid h
  obtain ⟨vA, vcap, hv, hvc, -⟩ := own_form h.fs
  have hcf : w.cell? ⟨rb, 8, none⟩ = some (.slice vA p.fs.length vcap) := by rw [← hv]; exact h.cells.2.2.2
  have HV := Lib.hid hv
  obtain ⟨q, hqq⟩ : ∃ q, q = p.fs.length := ⟨_, rfl⟩
  rw [← hqq] at hq hcf
  have HQ := Lib.hid hqq
  have hq' : (q : Int) < 32 := by omega
  have hqd : decide ((q : Int) < 32) = true := decide_eq_true hq'
  clear h hv hqq
  go_enter Tryd.func93, Tryd.ntmps93
  go_wp2_with fail
  with_reducible refine (need_yes _).mono ?_
  rintro e w' ⟨rfl, rfl⟩
  go_wp2_with fail
  with_reducible refine (need_yes _).mono ?_
  rintro e w' ⟨rfl, rfl⟩
  go_wp2_with fail
  with_reducible refine (HN.out).mono ?_
  rintro e w1 ⟨rfl, hS⟩
  have hL := HL.out w1 hS
  have HR1 := Lib.hid hS.1
  have HB1 := Lib.hid (H.out.saidBelow hS.2)
  have HL1 := Lib.hid hL
  clear hS hL HL HN hcf
  go_wp2_with fail
  with_reducible refine (HL1.out).mono ?_
  rintro e w2 ⟨rfl, hb2⟩
  have HR2 := Lib.hid (HR1.out.below hb2)
  have HB2 := Lib.hid (HB1.out.trans (hb2.mono HR1.out.size))
  clear HL1 HB1 HR1 hb2 H
  go_wp2_with fail
  obtain ⟨W, hW⟩ : ∃ W : World, W = w2.alloc (.cells #[.string a1, .int .i64 l, .int .u64 (k : Int)] 76) := ⟨_, rfl⟩
  rw [← hW]
  have hbW : Below w2.heap.size w2 W := by rw [hW]; exact (Below.refl _ _).alloc (Nat.le_refl _) _
  have HBX := Lib.hid (show W.heap[w2.heap.size]? = some (.cells #[.string a1, .int .i64 l, .int .u64 (k : Int)] 76 (0, 0)) by rw [hW]; exact heap_alloc_new w2 _)
  have HR := Lib.hid (HR2.out.below hbW)
  have HB := Lib.hid (HB2.out.trans (hbW.mono HR2.out.size))
  clear hW HR2 HB2 hbW
  have hcf : W.cell? ⟨rb, 8, none⟩ = some (.slice vA q vcap) := by rw [HQ.out, ← HV.out]; exact HR.out.cells.2.2.2
  have hzf : W.frozen? ⟨rb, 8, none⟩ = false := L.blk_free HR.out.blk 8
  have hown : W.drew.ownsRow base 76 3 (.slice vA q vcap) q (flrCells p.fs) := by rw [HQ.out, ← HV.out]; exact HR.out.fs
  have hownA : (W.alloc (.cells #[.string a1, .int .i64 l, .int .u64 (k : Int)] 76)).drew.ownsRow base 76 3 (.slice vA q vcap) q (flrCells p.fs) := World.ownsRow.alloc hown _
  have HNW := Lib.hid (World.news_of_block (w := (W.alloc (.cells #[.string a1, .int .i64 l, .int .u64 (k : Int)] 76)).drew) (heap_alloc_new W _))
  have H1C : Hid (∀ u ∈ ([.string a1, .int .i64 l, .int .u64 (k : Int)] : List Value), u.oneCell' = true) := Lib.hid (by intro u hu; simp at hu; rcases hu with rfl | rfl | rfl <;> rfl)
  have hrt : some rb ≠ (Value.slice vA q vcap).ownBlock := fun e => by
    rcases own_ne hown (g := rb) (fun cs => ne_type (by decide) HR.out.blk) with h0 | h0
    · rw [h0] at e; cases e
    · exact h0 e.symm
  have HRT := Lib.hid hrt
  have hrl : rb < W.heap.size := L.blk_lt HR.out.blk
  have hbs : base ≤ W.heap.size := HR.out.size
  have HOA := Lib.hid hownA
  obtain ⟨x0, x1, x2⟩ : W.cell? ⟨w2.heap.size, 0, none⟩ = some (.string a1) ∧ W.cell? ⟨w2.heap.size, 1, none⟩ = some (.int .i64 l) ∧ W.cell? ⟨w2.heap.size, 2, none⟩ = some (.int .u64 (k : Int)) := ⟨L.blk_cell HBX.out 0, L.blk_cell HBX.out 1, L.blk_cell HBX.out 2⟩
  clear hrt hownA hown
  go_region_law ((refine step_append_lies _ (by rfl) (.tmp 29) (.tmp 31) 24 (by rfl) base 76 i0 _ 3 32 Tryd.underlying24 hi0 hz0 hz1 hz2 rfl (by decide) (.slice vA q vcap) q (flrCells p.fs) (by rfl) HOA.out ⟨W.heap.size, 0, none⟩ 1 1 [.string a1, .int .i64 l, .int .u64 (k : Int)] (by rfl) rfl HNW.out H1C.out (by omega) (by unfold maxLen; omega) (by omega) (by simp; omega) _ rfl ?_; intro g3 cap3 w3 hown3 hgrow3 hat3 hlt3; have hc3 := hgrow3.cell_far ⟨rb, 8, none⟩ (by simp; omega) HRT.out; have hz3 := hgrow3.frozen_far ⟨rb, 8, none⟩ (by simp; omega) HRT.out))
  all_goals
    go_wp2_with fail
    go_end0
    exact pushFlr HR.out HB.out HQ.out HV.out hgrow3 hown3

end Go.Proofs.YtadhhamfikpimaaDoor.O

namespace Go.Proofs.YtadhhamfikpimaaDoor.O
open Go.RowKit
open T
attribute [local go_sem ↓] Go.wp_at_zero Go.wp_at_succ
variable {w w' : World} {base rb mb n : Nat} {p : Pol} {f : List UInt8 → Int} {line : Int} {uv fv : Value}


theorem pushUsr {W w3 : World} {o : Obj} {q g3 cap3 vcap : Nat} {vA : Option Addr} {x : Usr} (HR : Rd W base rb mb n p f line uv fv) (HB : Below base w W) (hq : q = p.us.length) (hv : uv = .slice vA p.us.length vcap)
    (hg : (W.alloc o).drew.grownBy w3 (Value.slice vA q vcap).ownBlock) (hown3 : w3.ownsRow base 72 4 (.slice (some ⟨g3, 0, none⟩) (q + 1) cap3) (q + 1) (usrCells p.us ++ [.string ⟨x.name.toArray⟩, .int .i64 x.lv, .int .u64 (x.ct : Int), .bool x.ad])) :
    Took w base rb mb n { p with us := p.us ++ [x] } f line (.returned (.tuple #[])) (w3.setCell ⟨rb, 7, none⟩ (.slice (some ⟨g3, 0, none⟩) (q + 1) cap3)) := by
  rw [hq, ← hv] at hg
  have hrow := HR.us
  have hgW : W.grownBy w3 uv.ownBlock := ⟨hg.os, hg.tape, hg.output, Nat.le_trans (by simp) hg.size, fun k hk hne => (hg.block k (by simp; omega) hne).trans (Below.heap_alloc W o k hk)⟩
  have hrb : some rb ≠ uv.ownBlock := fun e => by
    rcases own_ne hrow (g := rb) (fun cs => ne_type (by decide) HR.blk) with h0 | h0
    · rw [h0] at e; cases e
    · exact h0 e.symm
  have hmb : some mb ≠ uv.ownBlock := fun e => by
    rcases own_ne hrow (g := mb) (fun cs hc => (HR.map.notCells hc) rfl) with h0 | h0
    · rw [h0] at e; cases e
    · exact h0 e.symm
  have hob : fv.ownBlock = none ∨ fv.ownBlock ≠ uv.ownBlock := by
    rcases hrow.2 with ⟨e, _⟩ | ⟨gf, cf, cur, e, _, hh, _⟩
    · rw [e]; cases fv.ownBlock <;> simp [Value.ownBlock]
    · rw [e]; exact own_ne HR.fs (g := gf) (fun cs => ne_type (by decide) hh)
  have blk3 : w3.heap[rb]? = some (.cells (rdCells p uv fv mb line) 99 (0, 0)) := (hgW.block rb (L.blk_lt HR.blk) hrb).trans HR.blk
  have map3 := HR.map.kept hgW hmb
  have oth3 := HR.fs.kept hgW hob
  have hset := grown_set w3 ⟨rb, 7, none⟩ (.slice (some ⟨g3, 0, none⟩) (q + 1) cap3)
  have hne := MapIs.notCells map3 blk3
  refine ⟨rfl, ⟨.slice (some ⟨g3, 0, none⟩) (q + 1) cap3, fv, HR.hb, HR.hm, ?_, map3.kept hset (by simp; exact fun e => hne e.symm), ?_, ?_⟩, ?_⟩
  · have := L.blk_set blk3 7 (.slice (some ⟨g3, 0, none⟩) (q + 1) cap3)
    exact this
  · have e : (p.us ++ [x]).length = q + 1 := by simp [hq]
    show World.ownsRow _ _ _ _ _ (p.us ++ [x]).length (usrCells (p.us ++ [x]))
    rw [e, show usrCells (p.us ++ [x]) = usrCells p.us ++ [.string ⟨x.name.toArray⟩, .int .i64 x.lv, .int .u64 (x.ct : Int), .bool x.ad] by simp [usrCells]]
    exact hown3.kept hset (own_ne hown3 (fun cs => ne_type (by decide) blk3))
  · exact oth3.kept hset (own_ne oth3 (fun cs => ne_type (by decide) blk3))
  · exact ((HB.grown hgW (HR.size) (fun k hk => own_base hrow k hk)).setCell HR.hb _)

set_option maxRecDepth 100000 in
set_option maxHeartbeats 2000000 in
theorem user_len (h : Rd w base rb mb n p f line uv fv) (g m cap : Nat) (hm : m ≠ 3) (hm4 : m ≠ 4) :
    Calls Tryd.prog 92 #[.pointer (some ⟨rb, 0, none⟩), .slice (some ⟨g, 0, none⟩) m cap] w (Fell w base rb line) := by
  have HF := Lib.hid (h.fell (Below.refl base w))
  have hne : ((m : Int) == 3) = false := beq_eq_false_iff_ne.2 (by omega)
  have hne4 : ((m : Int) == 4) = false := beq_eq_false_iff_ne.2 (by omega)
  clear h hm hm4
  go_enter Tryd.func92, Tryd.ntmps92
  go_wp2_with fail
  with_reducible refine (need_no _).mono ?_
  rintro e w' ⟨rfl, rfl⟩
  go_wp2_with fail
  exact ⟨rfl, HF.out⟩
set_option maxRecDepth 100000 in
set_option maxHeartbeats 2000000 in
theorem user_word (h : Rd w base rb mb n p f line uv fv) (g cap : Nat) (s3 : ByteArray) (c3 : w.cell? ⟨g, 3, none⟩ = some (.string s3)) (hs3 : (s3.toList == [97, 100, 109, 105, 110]) = false) :
    Calls Tryd.prog 92 #[.pointer (some ⟨rb, 0, none⟩), .slice (some ⟨g, 0, none⟩) 4 cap] w (Fell w base rb line) := by
  have HF := Lib.hid (h.fell (Below.refl base w))
  clear h
  go_enter Tryd.func92, Tryd.ntmps92
  go_wp2_with fail
  with_reducible refine (need_no _).mono ?_
  rintro e w' ⟨rfl, rfl⟩
  go_wp2_with fail
  exact ⟨rfl, HF.out⟩

set_option maxRecDepth 100000 in
set_option maxHeartbeats 2000000 in
theorem user3_full (h : Rd w base rb mb n p f line uv fv) (g cap : Nat) (hq : ¬ p.us.length < 32) :
    Calls Tryd.prog 92 #[.pointer (some ⟨rb, 0, none⟩), .slice (some ⟨g, 0, none⟩) 3 cap] w (Fell w base rb line) := by
  have HF := Lib.hid (h.fell (Below.refl base w))
  obtain ⟨vA, vcap, rfl, hvc, -⟩ := own_form h.us
  have hcf : w.cell? ⟨rb, 7, none⟩ = some (.slice vA p.us.length vcap) := h.cells.2.2.1
  generalize p.us.length = q at *
  have hq' : ¬ (q : Int) < 32 := by omega
  have hqd : decide ((q : Int) < 32) = false := decide_eq_false hq'
  clear h
  go_enter Tryd.func92, Tryd.ntmps92
  go_wp2_with fail
  with_reducible refine (need_yes _).mono ?_
  rintro e w' ⟨rfl, rfl⟩
  go_wp2_with fail
  with_reducible refine (need_no _).mono ?_
  rintro e w' ⟨rfl, rfl⟩
  go_wp2_with fail
  exact ⟨rfl, HF.out⟩

set_option maxRecDepth 100000 in
set_option maxHeartbeats 2000000 in
theorem user3_name (h : Rd w base rb mb n p f line uv fv) (g cap : Nat) (hq : p.us.length < 32) (HN : Hid (Calls Tryd.prog 108 #[.pointer (some ⟨rb, 0, none⟩), .slice (some ⟨g, 0, none⟩) 3 cap] w (Fell w base rb line))) :
    Calls Tryd.prog 92 #[.pointer (some ⟨rb, 0, none⟩), .slice (some ⟨g, 0, none⟩) 3 cap] w (Fell w base rb line) := by
  obtain ⟨vA, vcap, rfl, hvc, -⟩ := own_form h.us
  have hcf : w.cell? ⟨rb, 7, none⟩ = some (.slice vA p.us.length vcap) := h.cells.2.2.1
  generalize p.us.length = q at *
  have hq' : (q : Int) < 32 := by omega
  have hqd : decide ((q : Int) < 32) = true := decide_eq_true hq'
  clear h
  go_enter Tryd.func92, Tryd.ntmps92
  go_wp2_with fail
  with_reducible refine (need_yes _).mono ?_
  rintro e w' ⟨rfl, rfl⟩
  go_wp2_with fail
  with_reducible refine (need_yes _).mono ?_
  rintro e w' ⟨rfl, rfl⟩
  go_wp2_with fail
  with_reducible refine (HN.out).mono ?_
  rintro e w' ⟨rfl, hF⟩
  go_wp2_with fail
  exact ⟨rfl, rfl, hF⟩

set_option maxRecDepth 100000 in
set_option maxHeartbeats 2000000 in
theorem user3_label (h : Rd w base rb mb n p f line uv fv) (g cap : Nat) (a1 : ByteArray) (hq : p.us.length < 32) (f' : List UInt8 → Int) (HN : Hid (Calls Tryd.prog 108 #[.pointer (some ⟨rb, 0, none⟩), .slice (some ⟨g, 0, none⟩) 3 cap] w fun e w' => e = .returned (.string a1) ∧ SayPost w base rb mb (n + 1) p f' line uv fv w'))
    (HL : Hid (∀ w1, SayPost w base rb mb (n + 1) p f' line uv fv w1 → Calls Tryd.prog 109 #[.pointer (some ⟨rb, 0, none⟩), .slice (some ⟨g, 0, none⟩) 3 cap] w1 (Fell w1 base rb line))) :
    Calls Tryd.prog 92 #[.pointer (some ⟨rb, 0, none⟩), .slice (some ⟨g, 0, none⟩) 3 cap] w (Fell w base rb line) := by
  have H := Lib.hid h
  obtain ⟨vA, vcap, rfl, hvc, -⟩ := own_form h.us
  have hcf : w.cell? ⟨rb, 7, none⟩ = some (.slice vA p.us.length vcap) := h.cells.2.2.1
  generalize p.us.length = q at *
  have hq' : (q : Int) < 32 := by omega
  have hqd : decide ((q : Int) < 32) = true := decide_eq_true hq'
  clear h
  go_enter Tryd.func92, Tryd.ntmps92
  go_wp2_with fail
  with_reducible refine (need_yes _).mono ?_
  rintro e w' ⟨rfl, rfl⟩
  go_wp2_with fail
  with_reducible refine (need_yes _).mono ?_
  rintro e w' ⟨rfl, rfl⟩
  go_wp2_with fail
  with_reducible refine (HN.out).mono ?_
  rintro e w1 ⟨rfl, hS⟩
  have hL := HL.out w1 hS
  have hb1 : Below base w w1 := H.out.saidBelow hS.2
  have HL1 := Lib.hid hL
  clear hS hL HL HN hcf
  go_wp2_with fail
  with_reducible refine (HL1.out).mono ?_
  rintro e w2 ⟨rfl, hc, hb2⟩
  go_wp2_with fail
  exact ⟨rfl, rfl, hc, hb1.trans hb2⟩

set_option maxRecDepth 100000 in
set_option maxHeartbeats 2000000 in
theorem user3_yes (h : Rd w base rb mb n p f line uv fv) (g cap : Nat) (a1 : ByteArray) (l : Int) (k : Nat) (hq : p.us.length < 32) (f' : List UInt8 → Int) (HN : Hid (Calls Tryd.prog 108 #[.pointer (some ⟨rb, 0, none⟩), .slice (some ⟨g, 0, none⟩) 3 cap] w fun e w' => e = .returned (.string a1) ∧ SayPost w base rb mb (n + 1) p f' line uv fv w'))
    (HL : Hid (∀ w1, SayPost w base rb mb (n + 1) p f' line uv fv w1 → Calls Tryd.prog 109 #[.pointer (some ⟨rb, 0, none⟩), .slice (some ⟨g, 0, none⟩) 3 cap] w1 fun e w' => e = .returned (L.lab l k) ∧ Below w1.heap.size w1 w')) :
    Calls Tryd.prog 92 #[.pointer (some ⟨rb, 0, none⟩), .slice (some ⟨g, 0, none⟩) 3 cap] w (Took w base rb mb (n + 1) { p with us := p.us ++ [⟨a1.data.toList, l, k, false⟩] } f' line) := by
  obtain ⟨i0, hi0, hz0, hz1, hz2⟩ := info_parts infoUsr
  have H := Lib.hid h
  obtain ⟨vA, vcap, hv, hvc, -⟩ := own_form h.us
  have hcf : w.cell? ⟨rb, 7, none⟩ = some (.slice vA p.us.length vcap) := by rw [← hv]; exact h.cells.2.2.1
  have HV := Lib.hid hv
  obtain ⟨q, hqq⟩ : ∃ q, q = p.us.length := ⟨_, rfl⟩
  rw [← hqq] at hq hcf
  have HQ := Lib.hid hqq
  have hq' : (q : Int) < 32 := by omega
  have hqd : decide ((q : Int) < 32) = true := decide_eq_true hq'
  clear h hv hqq
  go_enter Tryd.func92, Tryd.ntmps92
  go_wp2_with fail
  with_reducible refine (need_yes _).mono ?_
  rintro e w' ⟨rfl, rfl⟩
  go_wp2_with fail
  with_reducible refine (need_yes _).mono ?_
  rintro e w' ⟨rfl, rfl⟩
  go_wp2_with fail
  with_reducible refine (HN.out).mono ?_
  rintro e w1 ⟨rfl, hS⟩
  have hL := HL.out w1 hS
  have HR1 := Lib.hid hS.1
  have HB1 := Lib.hid (H.out.saidBelow hS.2)
  have HL1 := Lib.hid hL
  clear hS hL HL HN hcf
  go_wp2_with fail
  with_reducible refine (HL1.out).mono ?_
  rintro e w2 ⟨rfl, hb2⟩
  have HR2 := Lib.hid (HR1.out.below hb2)
  have HB2 := Lib.hid (HB1.out.trans (hb2.mono HR1.out.size))
  clear HL1 HB1 HR1 hb2 H
  go_wp2_with fail
  obtain ⟨W, hW⟩ : ∃ W : World, W = w2.alloc (.cells #[.string a1, .int .i64 l, .int .u64 (k : Int), .bool false] 72) := ⟨_, rfl⟩
  rw [← hW]
  have hbW : Below w2.heap.size w2 W := by rw [hW]; exact (Below.refl _ _).alloc (Nat.le_refl _) _
  have HBX := Lib.hid (show W.heap[w2.heap.size]? = some (.cells #[.string a1, .int .i64 l, .int .u64 (k : Int), .bool false] 72 (0, 0)) by rw [hW]; exact heap_alloc_new w2 _)
  have HR := Lib.hid (HR2.out.below hbW)
  have HB := Lib.hid (HB2.out.trans (hbW.mono HR2.out.size))
  clear hW HR2 HB2 hbW
  have hcf : W.cell? ⟨rb, 7, none⟩ = some (.slice vA q vcap) := by rw [HQ.out, ← HV.out]; exact HR.out.cells.2.2.1
  have hzf : W.frozen? ⟨rb, 7, none⟩ = false := L.blk_free HR.out.blk 7
  have hown : W.drew.ownsRow base 72 4 (.slice vA q vcap) q (usrCells p.us) := by rw [HQ.out, ← HV.out]; exact HR.out.us
  have hownA : (W.alloc (.cells #[.string a1, .int .i64 l, .int .u64 (k : Int), .bool false] 72)).drew.ownsRow base 72 4 (.slice vA q vcap) q (usrCells p.us) := World.ownsRow.alloc hown _
  have HNW := Lib.hid (World.news_of_block (w := (W.alloc (.cells #[.string a1, .int .i64 l, .int .u64 (k : Int), .bool false] 72)).drew) (heap_alloc_new W _))
  have H1C : Hid (∀ u ∈ ([.string a1, .int .i64 l, .int .u64 (k : Int), .bool false] : List Value), u.oneCell' = true) := Lib.hid (by intro u hu; simp at hu; rcases hu with rfl | rfl | rfl | rfl <;> rfl)
  have hrt : some rb ≠ (Value.slice vA q vcap).ownBlock := fun e => by
    rcases own_ne hown (g := rb) (fun cs => ne_type (by decide) HR.out.blk) with h0 | h0
    · rw [h0] at e; cases e
    · exact h0 e.symm
  have HRT := Lib.hid hrt
  have hrl : rb < W.heap.size := L.blk_lt HR.out.blk
  have hbs : base ≤ W.heap.size := HR.out.size
  have HOA := Lib.hid hownA
  obtain ⟨x0, x1, x2, x3⟩ : W.cell? ⟨w2.heap.size, 0, none⟩ = some (.string a1) ∧ W.cell? ⟨w2.heap.size, 1, none⟩ = some (.int .i64 l) ∧ W.cell? ⟨w2.heap.size, 2, none⟩ = some (.int .u64 (k : Int)) ∧ W.cell? ⟨w2.heap.size, 3, none⟩ = some (.bool false) := ⟨L.blk_cell HBX.out 0, L.blk_cell HBX.out 1, L.blk_cell HBX.out 2, L.blk_cell HBX.out 3⟩
  clear hrt hownA hown
  go_region_law ((refine step_append_lies _ (by rfl) (.tmp 43) (.tmp 45) 23 (by rfl) base 72 i0 _ 4 40 Tryd.underlying23 hi0 hz0 hz1 hz2 rfl (by decide) (.slice vA q vcap) q (usrCells p.us) (by rfl) HOA.out ⟨W.heap.size, 0, none⟩ 1 1 [.string a1, .int .i64 l, .int .u64 (k : Int), .bool false] (by rfl) rfl HNW.out H1C.out (by omega) (by unfold maxLen; omega) (by omega) (by simp; omega) _ rfl ?_; intro g3 cap3 w3 hown3 hgrow3 hat3 hlt3; have hc3 := hgrow3.cell_far ⟨rb, 7, none⟩ (by simp; omega) HRT.out; have hz3 := hgrow3.frozen_far ⟨rb, 7, none⟩ (by simp; omega) HRT.out))
  all_goals
    go_wp2_with fail
    go_end0
    exact pushUsr HR.out HB.out HQ.out HV.out hgrow3 hown3

set_option maxRecDepth 100000 in
set_option maxHeartbeats 2000000 in
theorem user4_full (h : Rd w base rb mb n p f line uv fv) (g cap : Nat) (s3 : ByteArray) (c3 : w.cell? ⟨g, 3, none⟩ = some (.string s3)) (hs3 : (s3.toList == [97, 100, 109, 105, 110]) = true) (hq : ¬ p.us.length < 32) :
    Calls Tryd.prog 92 #[.pointer (some ⟨rb, 0, none⟩), .slice (some ⟨g, 0, none⟩) 4 cap] w (Fell w base rb line) := by
  have HF := Lib.hid (h.fell (Below.refl base w))
  obtain ⟨vA, vcap, rfl, hvc, -⟩ := own_form h.us
  have hcf : w.cell? ⟨rb, 7, none⟩ = some (.slice vA p.us.length vcap) := h.cells.2.2.1
  generalize p.us.length = q at *
  have hq' : ¬ (q : Int) < 32 := by omega
  have hqd : decide ((q : Int) < 32) = false := decide_eq_false hq'
  clear h
  go_enter Tryd.func92, Tryd.ntmps92
  go_wp2_with fail
  with_reducible refine (need_yes _).mono ?_
  rintro e w' ⟨rfl, rfl⟩
  go_wp2_with fail
  with_reducible refine (need_no _).mono ?_
  rintro e w' ⟨rfl, rfl⟩
  go_wp2_with fail
  exact ⟨rfl, HF.out⟩

set_option maxRecDepth 100000 in
set_option maxHeartbeats 2000000 in
theorem user4_name (h : Rd w base rb mb n p f line uv fv) (g cap : Nat) (s3 : ByteArray) (c3 : w.cell? ⟨g, 3, none⟩ = some (.string s3)) (hs3 : (s3.toList == [97, 100, 109, 105, 110]) = true) (hq : p.us.length < 32) (HN : Hid (Calls Tryd.prog 108 #[.pointer (some ⟨rb, 0, none⟩), .slice (some ⟨g, 0, none⟩) 4 cap] w (Fell w base rb line))) :
    Calls Tryd.prog 92 #[.pointer (some ⟨rb, 0, none⟩), .slice (some ⟨g, 0, none⟩) 4 cap] w (Fell w base rb line) := by
  obtain ⟨vA, vcap, rfl, hvc, -⟩ := own_form h.us
  have hcf : w.cell? ⟨rb, 7, none⟩ = some (.slice vA p.us.length vcap) := h.cells.2.2.1
  generalize p.us.length = q at *
  have hq' : (q : Int) < 32 := by omega
  have hqd : decide ((q : Int) < 32) = true := decide_eq_true hq'
  clear h
  go_enter Tryd.func92, Tryd.ntmps92
  go_wp2_with fail
  with_reducible refine (need_yes _).mono ?_
  rintro e w' ⟨rfl, rfl⟩
  go_wp2_with fail
  with_reducible refine (need_yes _).mono ?_
  rintro e w' ⟨rfl, rfl⟩
  go_wp2_with fail
  with_reducible refine (HN.out).mono ?_
  rintro e w' ⟨rfl, hF⟩
  go_wp2_with fail
  exact ⟨rfl, rfl, hF⟩

set_option maxRecDepth 100000 in
set_option maxHeartbeats 2000000 in
theorem user4_label (h : Rd w base rb mb n p f line uv fv) (g cap : Nat) (s3 : ByteArray) (c3 : w.cell? ⟨g, 3, none⟩ = some (.string s3)) (hs3 : (s3.toList == [97, 100, 109, 105, 110]) = true) (a1 : ByteArray) (hq : p.us.length < 32) (f' : List UInt8 → Int) (HN : Hid (Calls Tryd.prog 108 #[.pointer (some ⟨rb, 0, none⟩), .slice (some ⟨g, 0, none⟩) 4 cap] w fun e w' => e = .returned (.string a1) ∧ SayPost w base rb mb (n + 1) p f' line uv fv w'))
    (HL : Hid (∀ w1, SayPost w base rb mb (n + 1) p f' line uv fv w1 → Calls Tryd.prog 109 #[.pointer (some ⟨rb, 0, none⟩), .slice (some ⟨g, 0, none⟩) 4 cap] w1 (Fell w1 base rb line))) :
    Calls Tryd.prog 92 #[.pointer (some ⟨rb, 0, none⟩), .slice (some ⟨g, 0, none⟩) 4 cap] w (Fell w base rb line) := by
  have H := Lib.hid h
  obtain ⟨vA, vcap, rfl, hvc, -⟩ := own_form h.us
  have hcf : w.cell? ⟨rb, 7, none⟩ = some (.slice vA p.us.length vcap) := h.cells.2.2.1
  generalize p.us.length = q at *
  have hq' : (q : Int) < 32 := by omega
  have hqd : decide ((q : Int) < 32) = true := decide_eq_true hq'
  clear h
  go_enter Tryd.func92, Tryd.ntmps92
  go_wp2_with fail
  with_reducible refine (need_yes _).mono ?_
  rintro e w' ⟨rfl, rfl⟩
  go_wp2_with fail
  with_reducible refine (need_yes _).mono ?_
  rintro e w' ⟨rfl, rfl⟩
  go_wp2_with fail
  with_reducible refine (HN.out).mono ?_
  rintro e w1 ⟨rfl, hS⟩
  have hL := HL.out w1 hS
  have hb1 : Below base w w1 := H.out.saidBelow hS.2
  have HL1 := Lib.hid hL
  clear hS hL HL HN hcf c3
  go_wp2_with fail
  with_reducible refine (HL1.out).mono ?_
  rintro e w2 ⟨rfl, hc, hb2⟩
  go_wp2_with fail
  exact ⟨rfl, rfl, hc, hb1.trans hb2⟩

set_option maxRecDepth 100000 in
set_option maxHeartbeats 2000000 in
theorem user4_yes (h : Rd w base rb mb n p f line uv fv) (g cap : Nat) (s3 : ByteArray) (c3 : w.cell? ⟨g, 3, none⟩ = some (.string s3)) (hs3 : (s3.toList == [97, 100, 109, 105, 110]) = true) (a1 : ByteArray) (l : Int) (k : Nat) (hq : p.us.length < 32) (f' : List UInt8 → Int) (HN : Hid (Calls Tryd.prog 108 #[.pointer (some ⟨rb, 0, none⟩), .slice (some ⟨g, 0, none⟩) 4 cap] w fun e w' => e = .returned (.string a1) ∧ SayPost w base rb mb (n + 1) p f' line uv fv w'))
    (HL : Hid (∀ w1, SayPost w base rb mb (n + 1) p f' line uv fv w1 → Calls Tryd.prog 109 #[.pointer (some ⟨rb, 0, none⟩), .slice (some ⟨g, 0, none⟩) 4 cap] w1 fun e w' => e = .returned (L.lab l k) ∧ Below w1.heap.size w1 w')) :
    Calls Tryd.prog 92 #[.pointer (some ⟨rb, 0, none⟩), .slice (some ⟨g, 0, none⟩) 4 cap] w (Took w base rb mb (n + 1) { p with us := p.us ++ [⟨a1.data.toList, l, k, true⟩] } f' line) := by
  obtain ⟨i0, hi0, hz0, hz1, hz2⟩ := info_parts infoUsr
  have H := Lib.hid h
  obtain ⟨vA, vcap, hv, hvc, -⟩ := own_form h.us
  have hcf : w.cell? ⟨rb, 7, none⟩ = some (.slice vA p.us.length vcap) := by rw [← hv]; exact h.cells.2.2.1
  have HV := Lib.hid hv
  obtain ⟨q, hqq⟩ : ∃ q, q = p.us.length := ⟨_, rfl⟩
  rw [← hqq] at hq hcf
  have HQ := Lib.hid hqq
  have hq' : (q : Int) < 32 := by omega
  have hqd : decide ((q : Int) < 32) = true := decide_eq_true hq'
  clear h hv hqq
  go_enter Tryd.func92, Tryd.ntmps92
  go_wp2_with fail
  with_reducible refine (need_yes _).mono ?_
  rintro e w' ⟨rfl, rfl⟩
  go_wp2_with fail
  with_reducible refine (need_yes _).mono ?_
  rintro e w' ⟨rfl, rfl⟩
  go_wp2_with fail
  with_reducible refine (HN.out).mono ?_
  rintro e w1 ⟨rfl, hS⟩
  have hL := HL.out w1 hS
  have HR1 := Lib.hid hS.1
  have HB1 := Lib.hid (H.out.saidBelow hS.2)
  have HL1 := Lib.hid hL
  clear hS hL HL HN hcf c3
  go_wp2_with fail
  with_reducible refine (HL1.out).mono ?_
  rintro e w2 ⟨rfl, hb2⟩
  have HR2 := Lib.hid (HR1.out.below hb2)
  have HB2 := Lib.hid (HB1.out.trans (hb2.mono HR1.out.size))
  clear HL1 HB1 HR1 hb2 H
  go_wp2_with fail
  obtain ⟨W, hW⟩ : ∃ W : World, W = w2.alloc (.cells #[.string a1, .int .i64 l, .int .u64 (k : Int), .bool true] 72) := ⟨_, rfl⟩
  rw [← hW]
  have hbW : Below w2.heap.size w2 W := by rw [hW]; exact (Below.refl _ _).alloc (Nat.le_refl _) _
  have HBX := Lib.hid (show W.heap[w2.heap.size]? = some (.cells #[.string a1, .int .i64 l, .int .u64 (k : Int), .bool true] 72 (0, 0)) by rw [hW]; exact heap_alloc_new w2 _)
  have HR := Lib.hid (HR2.out.below hbW)
  have HB := Lib.hid (HB2.out.trans (hbW.mono HR2.out.size))
  clear hW HR2 HB2 hbW
  have hcf : W.cell? ⟨rb, 7, none⟩ = some (.slice vA q vcap) := by rw [HQ.out, ← HV.out]; exact HR.out.cells.2.2.1
  have hzf : W.frozen? ⟨rb, 7, none⟩ = false := L.blk_free HR.out.blk 7
  have hown : W.drew.ownsRow base 72 4 (.slice vA q vcap) q (usrCells p.us) := by rw [HQ.out, ← HV.out]; exact HR.out.us
  have hownA : (W.alloc (.cells #[.string a1, .int .i64 l, .int .u64 (k : Int), .bool true] 72)).drew.ownsRow base 72 4 (.slice vA q vcap) q (usrCells p.us) := World.ownsRow.alloc hown _
  have HNW := Lib.hid (World.news_of_block (w := (W.alloc (.cells #[.string a1, .int .i64 l, .int .u64 (k : Int), .bool true] 72)).drew) (heap_alloc_new W _))
  have H1C : Hid (∀ u ∈ ([.string a1, .int .i64 l, .int .u64 (k : Int), .bool true] : List Value), u.oneCell' = true) := Lib.hid (by intro u hu; simp at hu; rcases hu with rfl | rfl | rfl | rfl <;> rfl)
  have hrt : some rb ≠ (Value.slice vA q vcap).ownBlock := fun e => by
    rcases own_ne hown (g := rb) (fun cs => ne_type (by decide) HR.out.blk) with h0 | h0
    · rw [h0] at e; cases e
    · exact h0 e.symm
  have HRT := Lib.hid hrt
  have hrl : rb < W.heap.size := L.blk_lt HR.out.blk
  have hbs : base ≤ W.heap.size := HR.out.size
  have HOA := Lib.hid hownA
  obtain ⟨x0, x1, x2, x3⟩ : W.cell? ⟨w2.heap.size, 0, none⟩ = some (.string a1) ∧ W.cell? ⟨w2.heap.size, 1, none⟩ = some (.int .i64 l) ∧ W.cell? ⟨w2.heap.size, 2, none⟩ = some (.int .u64 (k : Int)) ∧ W.cell? ⟨w2.heap.size, 3, none⟩ = some (.bool true) := ⟨L.blk_cell HBX.out 0, L.blk_cell HBX.out 1, L.blk_cell HBX.out 2, L.blk_cell HBX.out 3⟩
  clear hrt hownA hown
  go_region_law ((refine step_append_lies _ (by rfl) (.tmp 43) (.tmp 45) 23 (by rfl) base 72 i0 _ 4 40 Tryd.underlying23 hi0 hz0 hz1 hz2 rfl (by decide) (.slice vA q vcap) q (usrCells p.us) (by rfl) HOA.out ⟨W.heap.size, 0, none⟩ 1 1 [.string a1, .int .i64 l, .int .u64 (k : Int), .bool true] (by rfl) rfl HNW.out H1C.out (by omega) (by unfold maxLen; omega) (by omega) (by simp; omega) _ rfl ?_; intro g3 cap3 w3 hown3 hgrow3 hat3 hlt3; have hc3 := hgrow3.cell_far ⟨rb, 7, none⟩ (by simp; omega) HRT.out; have hz3 := hgrow3.frozen_far ⟨rb, 7, none⟩ (by simp; omega) HRT.out))
  all_goals
    go_wp2_with fail
    go_end0
    exact pushUsr HR.out HB.out HQ.out HV.out hgrow3 hown3

end Go.Proofs.YtadhhamfikpimaaDoor.O

namespace Go.Proofs.YtadhhamfikpimaaDoor.O
set_option linter.unusedVariables false
set_option linter.unusedSimpArgs false
open Go.RowKit
open T
variable {w w' : World} {base rb mb n : Nat} {p : Pol} {f : List UInt8 → Int} {line : Int} {uv fv : Value}

theorem numCells_at (pb k : Nat) (hk : k < 6) : (numCells pb 0)[k * 4]? = some (.string ⟨(keys.getD k []).toArray⟩) ∧ (numCells pb 0)[k * 4 + 1]? = some (.pointer (some ⟨pb, k, none⟩)) ∧ (numCells pb 0)[k * 4 + 2]? = some (.int .i64 (lows.getD k 0)) ∧ (numCells pb 0)[k * 4 + 3]? = some (.int .i64 (highs.getD k 0)) := by
  match k, hk with
  | 0, _ => exact ⟨rfl, rfl, rfl, rfl⟩
  | 1, _ => exact ⟨rfl, rfl, rfl, rfl⟩
  | 2, _ => exact ⟨rfl, rfl, rfl, rfl⟩
  | 3, _ => exact ⟨rfl, rfl, rfl, rfl⟩
  | 4, _ => exact ⟨rfl, rfl, rfl, rfl⟩
  | 5, _ => exact ⟨rfl, rfl, rfl, rfl⟩

/-- What a number's line comes to, by what was said. -/
def numBy (p : Pol) (f : List UInt8 → Int) (k : Nat) (v : List UInt8) : Option Pol :=
  if f (keys.getD k []) = 0 then (P.number v).bind fun x => if inB (lows.getD k 0) (highs.getD k 0) x then some { p with ns := p.ns.set k x } else none else none
def NumEnd (w : World) (base rb mb n : Nat) (f : List UInt8 → Int) (line : Int) (key : List UInt8) (o : Option Pol) (e : Ending) (w' : World) : Prop :=
  match o with
  | some p' => Took w base rb mb (n + 1) p' (upd f key line) line e w'
  | none => Fell w base rb line e w'
def NumberEnd (w : World) (base rb mb n : Nat) (p : Pol) (f : List UInt8 → Int) (line : Int) (a0 a1 : List UInt8) (e : Ending) (w' : World) : Prop :=
  match keyOf a0 with
  | some k => NumEnd w base rb mb n f line (keys.getD k []) (numBy p f k a1) e w'
  | none => Fell w base rb line e w'
theorem keyOf_hit {a0 : List UInt8} {k : Nat} (hk : k < 6) (he : keys.getD k [] = a0) : keyOf a0 = some k := by
  subst he
  match k, hk with
  | 0, _ => decide
  | 1, _ => decide
  | 2, _ => decide
  | 3, _ => decide
  | 4, _ => decide
  | 5, _ => decide
theorem keyOf_miss {a0 : List UInt8} (h : ∀ j, j < 6 → keys.getD j [] ≠ a0) : keyOf a0 = none := by
  unfold keyOf
  rw [List.idxOf?_eq_none_iff]
  intro hm
  rw [show keys.take 6 = [keys.getD 0 [], keys.getD 1 [], keys.getD 2 [], keys.getD 3 [], keys.getD 4 [], keys.getD 5 []] from rfl] at hm
  simp only [List.mem_cons, List.not_mem_nil, or_false] at hm
  rcases hm with e | e | e | e | e | e
  · exact h 0 (by omega) e.symm
  · exact h 1 (by omega) e.symm
  · exact h 2 (by omega) e.symm
  · exact h 3 (by omega) e.symm
  · exact h 4 (by omega) e.symm
  · exact h 5 (by omega) e.symm
theorem rd_set (p : Pol) (uv fv : Value) (mb : Nat) (line : Int) (k : Nat) (v : Int) (hl : p.ns.length = 6) (hk : k < 6) :
    (rdCells p uv fv mb line).setIfInBounds k (.int .i64 v) = rdCells { p with ns := p.ns.set k v } uv fv mb line := by
  obtain ⟨ns, hid, us, fs⟩ := p
  match ns, hl with
  | [a, b, c, d, e, g], _ =>
    match k, hk with
    | 0, _ => rfl
    | 1, _ => rfl
    | 2, _ => rfl
    | 3, _ => rfl
    | 4, _ => rfl
    | 5, _ => rfl
theorem rd_at (p : Pol) (uv fv : Value) (mb : Nat) (line : Int) (k : Nat) (hk : k < 6) : ∃ v, (rdCells p uv fv mb line)[k]? = some v := by
  match k, hk with
  | 0, _ | 1, _ | 2, _ | 3, _ | 4, _ | 5, _ => exact ⟨_, rfl⟩
theorem str_beq (a b : List UInt8) : ((⟨a.toArray⟩ : ByteArray).toList == (⟨b.toArray⟩ : ByteArray).toList) = decide (a = b) := by
  rw [Lib.toList_data, Lib.toList_data, list_data, list_data]
  by_cases h : a = b <;> simp [h]
theorem cell_num {w1 wr : World} {g1 rb k : Nat} (hg : w1.heap[g1]? = some (.cells (numCells rb 0) 112 (0, 0))) (hb : Below w1.heap.size w1 wr) (hk : k < 6) :
    wr.cell? ⟨g1, k * 4, none⟩ = some (.string ⟨(keys.getD k []).toArray⟩) ∧ wr.cell? ⟨g1, k * 4 + 1, none⟩ = some (.pointer (some ⟨rb, k, none⟩)) ∧ wr.cell? ⟨g1, k * 4 + 2, none⟩ = some (.int .i64 (lows.getD k 0)) ∧ wr.cell? ⟨g1, k * 4 + 3, none⟩ = some (.int .i64 (highs.getD k 0)) := by
  have hg' := (hb.block g1 (L.blk_lt hg)).trans hg
  have h := numCells_at rb k hk
  exact ⟨(L.blk_cell hg' _).trans h.1, (L.blk_cell hg' _).trans h.2.1, (L.blk_cell hg' _).trans h.2.2.1, (L.blk_cell hg' _).trans h.2.2.2⟩

set_option maxRecDepth 100000 in
set_option maxHeartbeats 400000 in
theorem number_len (h : Rd w base rb mb n p f line uv fv) (A : Option Addr) (m cap : Nat) (hm : m ≠ 2) :
    Calls Tryd.prog 94 #[.pointer (some ⟨rb, 0, none⟩), .slice A m cap] w (Fell w base rb line) := by
  have HF := Lib.hid (h.fell (Below.refl base w))
  have hne : ((m : Int) == 2) = false := beq_eq_false_iff_ne.2 (by omega)
  clear h hm
  go_enter Tryd.func94, Tryd.ntmps94
  go_wp2_with fail
  with_reducible refine (need_no _).mono ?_
  rintro e w' ⟨rfl, rfl⟩
  go_wp2_with fail
  exact ⟨rfl, HF.out⟩

set_option maxRecDepth 100000 in
set_option maxHeartbeats 4000000 in
theorem number_two (h : Rd w base rb mb n p f line uv fv) (g cap : Nat) (a0 a1 : List UInt8) (_hlt : g < w.heap.size) (c0 : w.cell? ⟨g, 0, none⟩ = some (.string ⟨a0.toArray⟩)) (c1 : w.cell? ⟨g, 1, none⟩ = some (.string ⟨a1.toArray⟩)) (hs1 : a1.length ≤ 4194304) (hns : p.ns.length = 6) (hnl : n < maxLen) (hl : (Lit.int .i64 line).wf = true) :
    Calls Tryd.prog 94 #[.pointer (some ⟨rb, 0, none⟩), .slice (some ⟨g, 0, none⟩) 2 cap] w (NumberEnd w base rb mb n p f line a0 a1) := by
  have H := Lib.hid h
  have HC0 := Lib.hid c0
  have HC1 := Lib.hid c1
  clear h c0 c1
  go_enter Tryd.func94, Tryd.ntmps94
  go_wp2_with fail
  with_reducible refine (need_yes _).mono ?_
  rintro e w' ⟨rfl, rfl⟩
  go_wp2_with fail
  with_reducible refine (numbers_any rb 0 _).mono ?_
  rintro e w1 ⟨rfl, hg1, hb1, hs1'⟩
  have HG1 := Lib.hid hg1
  have HB1 := Lib.hid hb1
  have hw1 : w.heap.size < w1.heap.size := by omega
  clear hg1 hb1 hs1'
  go_wp2_with fail
  go_loopg [17] 6 (fun m i wr => ∃ k : Nat, k ≤ 6 ∧ i = .int .i64 k ∧ 6 - k ≤ m ∧ Below w1.heap.size w1 wr ∧ Hid (∀ j, j < k → keys.getD j [] ≠ a0))
  case atStart => exact ⟨0, by omega, rfl, by omega, Below.refl _ _, Lib.hid (fun j hj => absurd hj (by omega))⟩
  case round =>
    obtain ⟨k, hk, rfl, hm, hbr, HJ⟩ := hrel
    by_cases hk6 : k < 6
    · obtain ⟨d0, d1, d2, d3⟩ := cell_num HG1.out hbr hk6
      have hbw : Below w.heap.size w wr := HB1.out.trans (hbr.mono HB1.out.size)
      have c0 := cell_later hbw HC0.out
      have hki : (k : Int) < 6 := by omega
      have hk0 : (0 : Int) ≤ (k : Int) := by omega
      by_cases he : keys.getD k [] = a0
      · have hne := str_beq (keys.getD k []) a0
        rw [decide_eq_true he] at hne
        have HP : Hid (∀ e w', NumEnd w base rb mb n f line (keys.getD k []) (numBy p f k a1) e w' → NumberEnd w base rb mb n p f line a0 a1 e w') := Lib.hid (fun e w' hf => by
          unfold NumberEnd
          rw [keyOf_hit hk6 he]
          exact hf)
        have hkl : (⟨(keys.getD k []).toArray⟩ : ByteArray).size ≤ maxLen := by
          rw [list_size]
          match k, hk6 with
          | 0, _ | 1, _ | 2, _ | 3, _ | 4, _ | 5, _ => unfold maxLen; decide
        have HNB := Lib.hid (show numBy p f k a1 = (if f (keys.getD k []) = 0 then (P.number a1).bind fun x => if inB (lows.getD k 0) (highs.getD k 0) x then some { p with ns := p.ns.set k x } else none else none) from rfl)
        clear HJ he
        generalize keys.getD k [] = kw at *
        generalize lows.getD k 0 = lo at *
        generalize highs.getD k 0 = hi at *
        obtain ⟨xw, hxw⟩ : ∃ x : ByteArray, x = ⟨kw.toArray⟩ := ⟨_, rfl⟩
        rw [← hxw] at hne d0 hkl
        have hkw : xw.data.toList = kw := by rw [hxw, list_data]
        clear hxw
        obtain ⟨x0, hx0⟩ : ∃ x : ByteArray, x = ⟨a0.toArray⟩ := ⟨_, rfl⟩
        rw [← hx0] at hne c0
        clear hx0
        have HKW := Lib.hid hkw
        clear hkw
        go_wp2_with fail
        obtain ⟨W, hW⟩ : ∃ W : World, W = wr.alloc (.cells #[.string xw, .pointer (some ⟨rb, k, none⟩), .int .i64 lo, .int .i64 hi] 112) := ⟨_, rfl⟩
        rw [← hW]
        have hbW : Below wr.heap.size wr W := by rw [hW]; exact (Below.refl _ _).alloc (Nat.le_refl _) _
        have HBX := Lib.hid (show W.heap[wr.heap.size]? = some (.cells #[.string xw, .pointer (some ⟨rb, k, none⟩), .int .i64 lo, .int .i64 hi] 112 (0, 0)) by rw [hW]; exact heap_alloc_new wr _)
        have hbe : Below w.heap.size w W := hbw.trans (hbW.mono hbw.size)
        have HR := Lib.hid (H.out.below hbe)
        have HBE := Lib.hid hbe
        have c0W := cell_later hbW c0
        have x0c := L.blk_cell HBX.out 0
        clear hW d0 d1 d2 d3 c0
        have c1W := cell_later hbW (cell_later hbw HC1.out)
        have HC1W := Lib.hid c1W
        clear c1W
        go_quiet (fail)
        obtain ⟨W2, hW2⟩ : ∃ W2 : World, W2 = W.drewN nq := ⟨_, rfl⟩
        have hbd : Below W.heap.size W W2 := by rw [hW2]; exact below_drewN (Below.refl _ _) _
        have HR2 := Lib.hid (HR.out.below hbd)
        have HBX2 := Lib.hid ((hbd.block _ (L.blk_lt HBX.out)).trans HBX.out)
        have HBE2 := Lib.hid (HBE.out.trans (hbd.mono HBE.out.size))
        have HC2 := Lib.hid (cell_later hbd HC1W.out)
        rw [← hW2]
        have x0d := L.blk_cell HBX2.out 0
        clear hW2 hbd hbr hbw hbe hbW c0W x0c HC1W HBX HR HBE hne
        by_cases hf : f kw = 0
        · have HS := Lib.hid (say_yes HR2.out xw hkl (by rw [HKW.out]; exact hf) hnl hl)
          rw [if_pos hf] at HNB
          obtain ⟨x1, hx1⟩ : ∃ x : ByteArray, x = ⟨a1.toArray⟩ := ⟨_, rfl⟩
          have hs1x : x1.size ≤ maxLen := by rw [hx1, list_size]; unfold maxLen; omega
          have hd1 : x1.data.toList = a1 := by rw [hx1, list_data]
          rw [← hx1] at HC2
          clear hx1
          cases hnum : P.number a1 with
          | none =>
            have NUM : Hid (Num x1 0 false) := Lib.hid (fun w => number_not x1 w hs1x (by rw [hd1]; exact hnum))
            rw [hnum, Option.bind_none] at HNB
            clear hnum hd1 hs1x
            go_wp2_with fail
            with_reducible refine (HS.out).mono ?_
            rintro e w3 ⟨rfl, hR3, hg3⟩
            have x0e := HR2.out.map.cellKept hg3 (L.blk_cell HBX2.out 0)
            have x1e := HR2.out.map.cellKept hg3 (L.blk_cell HBX2.out 1)
            have x2e := HR2.out.map.cellKept hg3 (L.blk_cell HBX2.out 2)
            have x3e := HR2.out.map.cellKept hg3 (L.blk_cell HBX2.out 3)
            have c1e := HR2.out.map.cellKept hg3 HC2.out
            have hrx : ¬ wr.heap.size = rb := fun e => by
              have h1 := HR2.out.blk
              rw [← e, HBX2.out] at h1
              injection h1 with h1
              injection h1 with _ h1
              exact absurd h1 (by decide)
            have hrx' : ¬ rb = wr.heap.size := fun e => hrx e.symm
            obtain ⟨vo, hvo⟩ := rd_at p uv fv mb line k hk6
            have hck := (L.blk_cell hR3.blk k).trans hvo
            have hzk := L.blk_free hR3.blk k
            have HB3 := Lib.hid ((HBE2.out.mono H.out.size).trans (HR2.out.saidBelow hg3))
            have HR4 := Lib.hid (hR3.stored k (.int .i64 (0 : Int)) (p' := { p with ns := p.ns.set k (0 : Int) }) (line' := line) (rd_set p uv fv mb line k (0 : Int) hns hk6) rfl rfl)
            have HB4 := Lib.hid (HB3.out.setCell (p := ⟨rb, k, none⟩) H.out.hb (.int .i64 (0 : Int)))
            have hc4 : (w3.setCell ⟨rb, k, none⟩ (.int .i64 (0 : Int))).cell? ⟨rb, k, none⟩ = some (.int .i64 (0 : Int)) := by
              rw [L.blk_cell (L.blk_set hR3.blk k _) k]
              rcases Nat.lt_or_ge k (rdCells p uv fv mb line).size with hh | hh
              · rw [Array.getElem?_setIfInBounds_self_of_lt hh]
              · rw [Array.getElem?_eq_none hh] at hvo; cases hvo
            have HC4 := Lib.hid hc4
            have hl4 : rb < (w3.setCell ⟨rb, k, none⟩ (.int .i64 (0 : Int))).heap.size := L.blk_lt HR4.out.blk
            clear hR3 hg3 hc4 hvo hf HS x0d HBX2 HR2 HBE2 HC2
            go_wp2_with fail
            with_reducible refine (NUM.out.call _).mono ?_
            rintro e w' ⟨rfl, rfl⟩
            clear c1e
            go_wp2_with fail
            with_reducible refine (need_no _).mono ?_
            rintro e w' ⟨rfl, rfl⟩
            go_wp2_with fail
            exact ⟨rfl, HP.out _ _ (by rw [HNB.out]; exact HR4.out.fell HB4.out)⟩
          | some v =>
            have NUM : Hid (Num x1 (v : Int) true) := Lib.hid (fun w => number_is x1 v w hs1x (by rw [hd1]; exact hnum))
            rw [hnum, Option.bind_some] at HNB
            clear hnum hd1 hs1x
            go_wp2_with fail
            with_reducible refine (HS.out).mono ?_
            rintro e w3 ⟨rfl, hR3, hg3⟩
            have x0e := HR2.out.map.cellKept hg3 (L.blk_cell HBX2.out 0)
            have x1e := HR2.out.map.cellKept hg3 (L.blk_cell HBX2.out 1)
            have x2e := HR2.out.map.cellKept hg3 (L.blk_cell HBX2.out 2)
            have x3e := HR2.out.map.cellKept hg3 (L.blk_cell HBX2.out 3)
            have c1e := HR2.out.map.cellKept hg3 HC2.out
            have hrx : ¬ wr.heap.size = rb := fun e => by
              have h1 := HR2.out.blk
              rw [← e, HBX2.out] at h1
              injection h1 with h1
              injection h1 with _ h1
              exact absurd h1 (by decide)
            have hrx' : ¬ rb = wr.heap.size := fun e => hrx e.symm
            obtain ⟨vo, hvo⟩ := rd_at p uv fv mb line k hk6
            have hck := (L.blk_cell hR3.blk k).trans hvo
            have hzk := L.blk_free hR3.blk k
            have HB3 := Lib.hid ((HBE2.out.mono H.out.size).trans (HR2.out.saidBelow hg3))
            have HR4 := Lib.hid (hR3.stored k (.int .i64 (v : Int)) (p' := { p with ns := p.ns.set k (v : Int) }) (line' := line) (rd_set p uv fv mb line k (v : Int) hns hk6) rfl rfl)
            have HB4 := Lib.hid (HB3.out.setCell (p := ⟨rb, k, none⟩) H.out.hb (.int .i64 (v : Int)))
            have hc4 : (w3.setCell ⟨rb, k, none⟩ (.int .i64 (v : Int))).cell? ⟨rb, k, none⟩ = some (.int .i64 (v : Int)) := by
              rw [L.blk_cell (L.blk_set hR3.blk k _) k]
              rcases Nat.lt_or_ge k (rdCells p uv fv mb line).size with hh | hh
              · rw [Array.getElem?_setIfInBounds_self_of_lt hh]
              · rw [Array.getElem?_eq_none hh] at hvo; cases hvo
            have HC4 := Lib.hid hc4
            have hl4 : rb < (w3.setCell ⟨rb, k, none⟩ (.int .i64 (v : Int))).heap.size := L.blk_lt HR4.out.blk
            clear hR3 hg3 hc4 hvo hf HS x0d HBX2 HR2 HBE2 HC2
            go_wp2_with fail
            with_reducible refine (NUM.out.call _).mono ?_
            rintro e w' ⟨rfl, rfl⟩
            clear c1e
            go_wp2_with fail
            with_reducible refine (numRight_any xw rb k lo hi (v : Int) _ hl4 HC4.out).mono ?_
            rintro e w5 ⟨rfl, hb5⟩
            have HR5 := Lib.hid (HR4.out.below hb5)
            have HB5 := Lib.hid (HB4.out.trans (hb5.mono HR4.out.size))
            clear hb5 HR4 HB4 HC4 hl4 hck hzk x0e x1e x2e x3e
            cases hin : inB lo hi (v : Int) with
            | false =>
              have HE := Lib.hid (HP.out _ _ (show NumEnd w base rb mb n f line kw (numBy p f k a1) (.panicked fault) w5 by rw [HNB.out, hin]; exact HR5.out.fell HB5.out))
              clear hin
              go_wp2_with fail
              with_reducible refine (need_no _).mono ?_
              rintro e w' ⟨rfl, rfl⟩
              go_wp2_with fail
              exact ⟨rfl, HE.out⟩
            | true =>
              have HE := Lib.hid (HP.out _ _ (show NumEnd w base rb mb n f line kw (numBy p f k a1) (.returned (.tuple #[])) w5 by rw [HNB.out, hin]; exact ⟨rfl, ⟨uv, fv, by rw [← HKW.out]; exact HR5.out⟩, HB5.out⟩))
              clear hin
              go_wp2_with fail
              with_reducible refine (need_yes _).mono ?_
              rintro e w' ⟨rfl, rfl⟩
              go_wp2_with fail
              first | go_end0 | refine bodyPost_ret (results_none rfl _ _ _) rfl ?_
              exact HE.out
        · have HS := Lib.hid (say_no HR2.out xw hkl (by rw [HKW.out]; exact hf))
          have HE := Lib.hid (HR2.out.fell (HBE2.out.mono H.out.size))
          have HP2 := Lib.hid (HP.out _ _ (show NumEnd w base rb mb n f line kw (numBy p f k a1) _ _ by rw [HNB.out, if_neg hf]; exact HE.out))
          clear HP HE hf HNB
          go_wp2_with fail
          with_reducible refine (HS.out).mono ?_
          rintro e w' ⟨rfl, rfl⟩
          go_wp2_with fail
          exact ⟨rfl, HP2.out⟩
      · have hne := str_beq (keys.getD k []) a0
        rw [decide_eq_false he] at hne
        have HJ1 := Lib.hid (show ∀ j, j < k + 1 → keys.getD j [] ≠ a0 from fun j hj => by
          rcases Nat.lt_or_ge j k with h' | h'
          · exact HJ.out j h'
          · rw [show j = k by omega]; exact he)
        clear HJ he
        generalize keys.getD k [] = kw at *
        generalize lows.getD k 0 = lo at *
        generalize highs.getD k 0 = hi at *
        generalize (⟨kw.toArray⟩ : ByteArray) = xw at *
        obtain ⟨x0, hx0⟩ : ∃ x : ByteArray, x = ⟨a0.toArray⟩ := ⟨_, rfl⟩
        rw [← hx0] at hne c0
        clear hx0
        go_wp2_with fail
        obtain ⟨W, hW⟩ : ∃ W : World, W = wr.alloc (.cells #[.string xw, .pointer (some ⟨rb, k, none⟩), .int .i64 lo, .int .i64 hi] 112) := ⟨_, rfl⟩
        rw [← hW]
        have hbW : Below wr.heap.size wr W := by rw [hW]; exact (Below.refl _ _).alloc (Nat.le_refl _) _
        have HBX := Lib.hid (show W.heap[wr.heap.size]? = some (.cells #[.string xw, .pointer (some ⟨rb, k, none⟩), .int .i64 lo, .int .i64 hi] 112 (0, 0)) by rw [hW]; exact heap_alloc_new wr _)
        have hbe : Below w.heap.size w W := hbw.trans (hbW.mono hbw.size)
        have HR := Lib.hid (H.out.below hbe)
        have HBE := Lib.hid hbe
        have c0W := cell_later hbW c0
        have x0c := L.blk_cell HBX.out 0
        clear hW d0 d1 d2 d3 c0
        go_quiet (fail)
        have HBR := Lib.hid (below_drewN (hbr.trans (hbW.mono hbr.size)) nq)
        clear hbr hbw hbe hbW c0W x0c
        go_wp2_with fail
        go_roundg (6 - (k + 1))
        case rel => exact ⟨k + 1, by omega, by go_num, Nat.le_refl _, HBR.out, HJ1⟩
        case measure => omega
    · have hk : k = 6 := by omega
      subst hk
      have HF : Hid (∀ e w', Fell w base rb line e w' → NumberEnd w base rb mb n p f line a0 a1 e w') := Lib.hid (fun e w' hf => by
        unfold NumberEnd
        rw [keyOf_miss HJ.out]
        exact hf)
      have hbw : Below w.heap.size w wr := HB1.out.trans (hbr.mono HB1.out.size)
      have HE := Lib.hid ((H.out.below hbw).fell (hbw.mono H.out.size))
      clear HJ hbw hbr
      go_wp2_with fail
      with_reducible refine (need_no _).mono ?_
      rintro e w' ⟨rfl, rfl⟩
      go_wp2_with fail
      exact ⟨rfl, HF.out _ _ HE.out⟩
end Go.Proofs.YtadhhamfikpimaaDoor.O
