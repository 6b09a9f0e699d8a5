/-
  The law RemapNumbers.
-/
import Derived.Test.YtlkfmaeillnhhaaGid
import Derived.BigQuiet
import Derived.Deep.RegionHeld3
import Derived.Deep.AppendLies
import Derived.Test.YtlkfmaeillnhhaaGib
namespace Go.Proofs.Ytlkfmaeillnhhaa.Rm
set_option linter.unusedVariables false
set_option linter.unusedSimpArgs false
open Go.RowKit
open T
open I (Lb alloc1 own_at own_below)
open V (grown_of drawn_below IntsIn numCells numCells_snoc ints_own BlC RbC)

/-- What is held while calls are made in any order. -/
structure Nx (w : World) (b : Nat) (f0 : Int) (f1 : Nat) (A : Option Addr) (l : List Lb) (B : Option Addr) (s : List Int) (W : World) : Prop where
  be : Below w.heap.size w W
  lx : Lx W b f0 f1
  la : LabsIn W A l
  si : IntsIn W B s
section
variable {w : World} {b : Nat} {f0 : Int} {f1 : Nat} {A B : Option Addr} {l : List Lb} {s : List Int} {W W' : World}
abbrev NxS (w : World) (b : Nat) (f0 : Int) (f1 : Nat) (A : Option Addr) (l : List Lb) (B : Option Addr) (s : List Int) (W : World) : Prop := W.cell? ⟨b, 0, none⟩ = some (.int .i64 f0) ∧ W.cell? ⟨b, 1, none⟩ = some (.int .u64 (f1 : Int)) ∧ Nx w b f0 f1 A l B s W
theorem nx_of (h : Nx w b f0 f1 A l B s W) : NxS w b f0 f1 A l B s W := ⟨h.lx.cells.1, h.lx.cells.2, h⟩
theorem Nx.below (h : Nx w b f0 f1 A l B s W) (hb : Below W.heap.size W W') : Nx w b f0 f1 A l B s W' := ⟨h.be.trans (hb.mono h.be.size), h.lx.below hb, h.la.below hb, h.si.below hb⟩
theorem nx_start (h : Nx w b f0 f1 A l B s W) : NxS w b f0 f1 A l B s W.drew := nx_of (h.below (drawn_below W 1))
theorem nx_below (h : NxS w b f0 f1 A l B s W) (hb : Below W.heap.size W W') : NxS w b f0 f1 A l B s W' := nx_of (h.2.2.below hb)
theorem nx_labs (h : NxS w b f0 f1 A l B s W) : LabsIn W A l := h.2.2.la
theorem nx_ints (h : NxS w b f0 f1 A l B s W) : IntsIn W B s := h.2.2.si
theorem nx_fin (h : NxS w b f0 f1 A l B s W) : Below w.heap.size w W := h.2.2.be
end
theorem full_last (s : List Nat) : full s ((s.length : Int) - 1) = s.getLast? := by
  unfold full
  rw [List.getLast?_eq_getElem?]
  by_cases h : 0 < s.length
  · rw [if_pos (by omega), show ((s.length : Int) - 1).toNat = s.length - 1 by omega]
  · rw [if_neg (by omega), List.getElem?_eq_none (by omega)]
set_option maxRecDepth 100000 in
set_option maxHeartbeats 4000000 in
theorem rnumbers_walk {A : Option Addr} {cap : Nat} {l : List Lb} {f0 : Int} {f1 : Nat} {n : Int} (w : World) (hA : LabsIn w A l) {s : List Int} {v1 v2 v3 c : Int} {b1 b2 b3 : Bool} (HRS : Hid (SnC 7 l f0 f1 s)) (HS : Hid (SnC 15 l f0 f1 s)) (HF : Hid (TwC 8 l f0 f1 n v1 b1)) (HRF : Hid (TwC 9 l f0 f1 n v1 b1)) (HW : Hid (TwC 10 l f0 f1 n v2 b2)) (HRW : Hid (TwC 11 l f0 f1 n v2 b2)) (HL : Hid (LaC 12 l f0 f1 v3 b3)) (HRL : Hid (TwC 9 l f0 f1 (wrap64 ((s.length : Int) - 1)) v3 b3)) (HI : Hid (NtC 14 s s true)) (HC : Hid (CnC 16 l f0 f1 c)) (HRC : Hid (CnC 17 l f0 f1 c)) (HV : Hid (LvC 13)) :
    Calls Try.prog 3 #[.slice A l.length cap, .agg #[.int .i64 f0, .int .u64 (f1 : Int)], .int .i64 n] w fun e w' => e = .returned (.bool true) ∧ Below w.heap.size w w' := by
  obtain ⟨w0, hw0⟩ : ∃ W : World, W = w.alloc (.cells #[.int .i64 f0, .int .u64 (f1 : Int)] 25) := ⟨_, rfl⟩
  have HB0 := Lib.hid (show Below w.heap.size w w0 by rw [hw0]; exact alloc1 _ _)
  have HO := Lib.hid (show Lx w0 w.heap.size f0 f1 by rw [hw0]; exact heap_alloc_new w _)
  have HA := Lib.hid (hA.below HB0.out)
  clear hA
  go_enter Try.func3, Try.ntmps3
  go_wp2_with fail
  rw [← hw0]
  clear hw0
  with_reducible refine (HRS.out.at _ (cap := cap) HA.out).mono ?_
  rintro e w1 ⟨A7, c7, rfl, hI, hc7, hb⟩
  have HO_1 := Lib.hid (HO.out.below hb)
  have HA_1 := Lib.hid (HA.out.below hb)
  have HS_1 := Lib.hid hI
  have HB1 := Lib.hid (HB0.out.trans (hb.mono HB0.out.size))
  clear hb HB0 HO HA hI
  obtain ⟨xO0, xO1⟩ := HO_1.out.cells
  go_wp2_with fail
  clear xO0 xO1
  with_reducible refine (HF.out.at _ HA_1.out).mono ?_
  rintro e w2 ⟨rfl, hb⟩
  have HO_2 := Lib.hid (HO_1.out.below hb)
  have HA_2 := Lib.hid (HA_1.out.below hb)
  have HS_2 := Lib.hid (HS_1.out.below hb)
  have HB2 := Lib.hid (HB1.out.trans (hb.mono HB1.out.size))
  clear hb HB1 HO_1 HA_1 HS_1
  obtain ⟨xO0, xO1⟩ := HO_2.out.cells
  go_wp2_with fail
  clear xO0 xO1
  with_reducible refine (HRF.out.at _ HA_2.out).mono ?_
  rintro e w3 ⟨rfl, hb⟩
  have HO_3 := Lib.hid (HO_2.out.below hb)
  have HA_3 := Lib.hid (HA_2.out.below hb)
  have HS_3 := Lib.hid (HS_2.out.below hb)
  have HB3 := Lib.hid (HB2.out.trans (hb.mono HB2.out.size))
  clear hb HB2 HO_2 HA_2 HS_2
  obtain ⟨xO0, xO1⟩ := HO_3.out.cells
  go_wp2_with fail
  clear xO0 xO1
  with_reducible refine (HW.out.at _ HA_3.out).mono ?_
  rintro e w4 ⟨rfl, hb⟩
  have HO_4 := Lib.hid (HO_3.out.below hb)
  have HA_4 := Lib.hid (HA_3.out.below hb)
  have HS_4 := Lib.hid (HS_3.out.below hb)
  have HB4 := Lib.hid (HB3.out.trans (hb.mono HB3.out.size))
  clear hb HB3 HO_3 HA_3 HS_3
  obtain ⟨xO0, xO1⟩ := HO_4.out.cells
  go_wp2_with fail
  clear xO0 xO1
  with_reducible refine (HRW.out.at _ HA_4.out).mono ?_
  rintro e w5 ⟨rfl, hb⟩
  have HO_5 := Lib.hid (HO_4.out.below hb)
  have HA_5 := Lib.hid (HA_4.out.below hb)
  have HS_5 := Lib.hid (HS_4.out.below hb)
  have HB5 := Lib.hid (HB4.out.trans (hb.mono HB4.out.size))
  clear hb HB4 HO_4 HA_4 HS_4
  obtain ⟨xO0, xO1⟩ := HO_5.out.cells
  go_wp2_with fail
  clear xO0 xO1
  with_reducible refine (HL.out.at _ HA_5.out).mono ?_
  rintro e w6 ⟨rfl, hb⟩
  have HO_6 := Lib.hid (HO_5.out.below hb)
  have HA_6 := Lib.hid (HA_5.out.below hb)
  have HS_6 := Lib.hid (HS_5.out.below hb)
  have HB6 := Lib.hid (HB5.out.trans (hb.mono HB5.out.size))
  clear hb HB5 HO_5 HA_5 HS_5
  obtain ⟨xO0, xO1⟩ := HO_6.out.cells
  go_wp2_with fail
  clear xO0 xO1
  with_reducible refine (HRL.out.at _ HA_6.out).mono ?_
  rintro e w7 ⟨rfl, hb⟩
  have HO_7 := Lib.hid (HO_6.out.below hb)
  have HA_7 := Lib.hid (HA_6.out.below hb)
  have HS_7 := Lib.hid (HS_6.out.below hb)
  have HB7 := Lib.hid (HB6.out.trans (hb.mono HB6.out.size))
  clear hb HB6 HO_6 HA_6 HS_6
  have HCX := Lib.hid (Nx.mk HB7.out HO_7.out HA_7.out HS_7.out : Nx w w.heap.size f0 f1 A l A7 s w7)
  clear HB7 HO_7 HA_7 HS_7
  obtain ⟨xO0, xO1⟩ := HCX.out.lx.cells
  go_wp2_with fail
  go_region_held3 (fun w' => w'.cell? ⟨w.heap.size, 0, none⟩ = some (.int .i64 f0) ∧ w'.cell? ⟨w.heap.size, 1, none⟩ = some (.int .u64 (f1 : Int)) ∧ Nx w w.heap.size f0 f1 A l A7 s w')
    (first | with_reducible exact nx_start HCX.out | with_reducible exact nx_below (by assumption) hbq)
    (first
      | (go_at_call 13; with_reducible refine (HV.out.at _).mono ?_; rintro r wq ⟨rfl, hbq⟩)
      | (go_at_call 15; with_reducible refine (HS.out.ex _ (nx_labs (by assumption))).mono ?_; rintro r wq ⟨A9, c9, rfl, hI9, hc9, hbq⟩)
      | (go_at_call 14; with_reducible refine (HI.out.at _ hI9 (nx_ints (by assumption))).mono ?_; rintro r wq ⟨rfl, hbq⟩)
      | (go_at_call 16; with_reducible refine (HC.out.at _ (nx_labs (by assumption))).mono ?_; rintro r wq ⟨rfl, hbq⟩)
      | (go_at_call 17; with_reducible refine (HRC.out.at _ (nx_labs (by assumption))).mono ?_; rintro r wq ⟨rfl, hbq⟩))
  all_goals
    go_wp2_with fail
    go_ret
    exact ⟨rfl, nx_fin (by assumption)⟩
theorem rnumbers_law {A : Option Addr} {cap : Nat} {l : List Lb} {f0 : Int} {f1 : Nat} {n : Int} (w : World) (hA : LabsIn w A l) (hok : LOk l) (h1 : f1 < 18446744073709551616) (hl : l.length ≤ maxLen) (hn : l.length * 8 ≤ 140737488355328) :
    Calls Try.prog 3 #[.slice A l.length cap, .agg #[.int .i64 f0, .int .u64 (f1 : Int)], .int .i64 n] w fun e w' => e = .returned (.bool true) ∧ Below w.heap.size w w' := by
  have hs : (snI (f0, f1) l).length = (sn (f0, f1) 0 l).length := snI_length _ _
  have hle := sn_le (f0, f1) l 0
  have e : wrap64 (((snI (f0, f1) l).length : Int) - 1) = ((sn (f0, f1) 0 l).length : Int) - 1 := by
    rw [hs]; unfold wrap64; unfold maxLen at hl; omega
  have HI := c_ints (snI (f0, f1) l) (snI (f0, f1) l) (by omega)
  rw [decide_eq_true rfl] at HI
  have HRL := c_rfull (f0 := f0) (f1 := f1) hok hn (((sn (f0, f1) 0 l).length : Int) - 1)
  rw [full_last, ← e] at HRL
  exact rnumbers_walk w hA (Lib.hid (c_rseen hok hn)) (Lib.hid (c_seen hok h1 hl hn)) (Lib.hid (c_full hok h1 hl n)) (Lib.hid (c_rfull hok hn n)) (Lib.hid (c_own hok h1 hl n)) (Lib.hid (c_rown hok hl hn n)) (Lib.hid (c_last hok h1 hl)) (Lib.hid HRL) (Lib.hid HI) (Lib.hid (c_count hl)) (Lib.hid (c_rcount hl)) (Lib.hid live17)
end Go.Proofs.Ytlkfmaeillnhhaa.Rm
