/-
  The contract of layer 3's live: it returns true, where the library's table of powers of ten holds what its text lays.
  The contract of layer 3's live.
-/
import Derived.Test.YtadhhamfikpimaaDoorGh
import Derived.Test.YtadhhamfikpimaaDoorGi
import Derived.Lib.SlBytesConst
namespace Go.Proofs.YtadhhamfikpimaaDoor.O
set_option linter.unusedVariables false
set_option linter.unusedSimpArgs false
open Go.RowKit
open T

def lvText : List UInt8 := [108, 101, 118, 101, 108, 115, 32, 50, 10, 99, 97, 116, 115, 32, 48, 10, 108, 105, 110, 101, 115, 32, 57, 10, 99, 111, 109, 109, 105, 116, 115, 32, 57, 10, 108, 111, 103, 32, 57, 10, 99, 111, 110, 116, 101, 120, 116, 32, 51, 10, 104, 105, 100, 100, 101, 110, 32, 46, 46, 46, 10, 117, 115, 101, 114, 32, 97, 110, 110, 32, 49, 32, 97, 100, 109, 105, 110, 10, 102, 108, 111, 111, 114, 32, 97, 47, 32, 49, 10]
def lvAnn : Usr := ⟨[97, 110, 110], 1, 0, true⟩
def lvA : Flr := ⟨[97, 47], 1, 0⟩
def lvS7 : St := ⟨⟨[2, 0, 9, 9, 9, 3], [46, 46, 46], [], []⟩, [true, true, true, true, true, true, true]⟩
def lvS8 : St := ⟨⟨[2, 0, 9, 9, 9, 3], [46, 46, 46], [lvAnn], []⟩, [true, true, true, true, true, true, true]⟩
def lvS9 : St := ⟨⟨[2, 0, 9, 9, 9, 3], [46, 46, 46], [lvAnn], [lvA]⟩, [true, true, true, true, true, true, true]⟩
theorem lv_lines : P.lines [] lvText = [([108, 101, 118, 101, 108, 115, 32, 50], false), ([99, 97, 116, 115, 32, 48], false), ([108, 105, 110, 101, 115, 32, 57], false), ([99, 111, 109, 109, 105, 116, 115, 32, 57], false), ([108, 111, 103, 32, 57], false), ([99, 111, 110, 116, 101, 120, 116, 32, 51], false), ([104, 105, 100, 100, 101, 110, 32, 46, 46, 46], false), ([117, 115, 101, 114, 32, 97, 110, 110, 32, 49, 32, 97, 100, 109, 105, 110], false), ([102, 108, 111, 111, 114, 32, 97, 47, 32, 49], false)] := by decide
theorem lv_one : L.parse [49] = some (1, 0) := by rw [← L.refP_parse]; decide
theorem lv_label (s : St) (h : s = lvS7 ∨ s = lvS8) : labelFor s [49] = some (1, 0) := by
  rcases h with rfl | rfl
  · have e : labelFor lvS7 [49] = (L.parse [49]).bind fun a => if lvS7.p.fits a.1 a.2 then some a else none := by kernel_rfl
    rw [e, lv_one]; decide
  · have e : labelFor lvS8 [49] = (L.parse [49]).bind fun a => if lvS8.p.fits a.1 a.2 then some a else none := by kernel_rfl
    rw [e, lv_one]; decide
theorem lv_user : take lvS7 [117, 115, 101, 114, 32, 97, 110, 110, 32, 49, 32, 97, 100, 109, 105, 110] = some lvS8 := by
  have e : take lvS7 [117, 115, 101, 114, 32, 97, 110, 110, 32, 49, 32, 97, 100, 109, 105, 110] = (labelFor lvS7 [49]).map fun a => (⟨{ lvS7.p with us := lvS7.p.us ++ [⟨[97, 110, 110], a.1, a.2, true⟩] }, lvS7.once⟩ : St) := by kernel_rfl
  rw [e, lv_label _ (.inl rfl)]
  decide
theorem lv_floor : take lvS8 [102, 108, 111, 111, 114, 32, 97, 47, 32, 49] = some lvS9 := by
  have e : take lvS8 [102, 108, 111, 111, 114, 32, 97, 47, 32, 49] = (labelFor lvS8 [49]).map fun a => (⟨{ lvS8.p with fs := lvS8.p.fs ++ [⟨[97, 47], a.1, a.2⟩] }, lvS8.once⟩ : St) := by kernel_rfl
  rw [e, lv_label _ (.inr rfl)]
  decide
theorem lv_seven : takeAll St.start 0 (P.lines [] lvText) = takeAll lvS7 7 [([117, 115, 101, 114, 32, 97, 110, 110, 32, 49, 32, 97, 100, 109, 105, 110], false), ([102, 108, 111, 111, 114, 32, 97, 47, 32, 49], false)] := by
  rw [lv_lines]
  kernel_rfl
theorem lv_read : readAll (P.lines [] lvText) = .inl lvS9.p := by
  unfold readAll
  rw [lv_seven]
  simp only [takeAll, lv_user, lv_floor]
  decide
theorem lv_find : ([lvAnn].find? fun u => decide (u.name = (⟨#[97, 110, 110]⟩ : ByteArray).data.toList)) = some lvAnn := by decide
theorem lv_fl : floorOn (⟨#[97, 47, 98]⟩ : ByteArray).data.toList (0, 0) [lvA] = (1, 0) := by decide
theorem lv_ok : polOk [2, 0, 9, 9, 9, 3] (⟨#[46, 46, 46]⟩ : ByteArray).data.toList [lvAnn] [lvA] = true := by decide
theorem lv_fits : fitsB 2 0 1 0 = true := by decide
end Go.Proofs.YtadhhamfikpimaaDoor.O

namespace Go.Proofs.YtadhhamfikpimaaDoor.O
set_option linter.unusedVariables false
set_option linter.unusedSimpArgs false
open Go.RowKit
open T

def lvCells : Array Value := #[.int .u8 108, .int .u8 101, .int .u8 118, .int .u8 101, .int .u8 108, .int .u8 115, .int .u8 32, .int .u8 50, .int .u8 10, .int .u8 99, .int .u8 97, .int .u8 116, .int .u8 115, .int .u8 32, .int .u8 48, .int .u8 10, .int .u8 108, .int .u8 105, .int .u8 110, .int .u8 101, .int .u8 115, .int .u8 32, .int .u8 57, .int .u8 10, .int .u8 99, .int .u8 111, .int .u8 109, .int .u8 109, .int .u8 105, .int .u8 116, .int .u8 115, .int .u8 32, .int .u8 57, .int .u8 10, .int .u8 108, .int .u8 111, .int .u8 103, .int .u8 32, .int .u8 57, .int .u8 10, .int .u8 99, .int .u8 111, .int .u8 110, .int .u8 116, .int .u8 101, .int .u8 120, .int .u8 116, .int .u8 32, .int .u8 51, .int .u8 10, .int .u8 104, .int .u8 105, .int .u8 100, .int .u8 100, .int .u8 101, .int .u8 110, .int .u8 32, .int .u8 46, .int .u8 46, .int .u8 46, .int .u8 10, .int .u8 117, .int .u8 115, .int .u8 101, .int .u8 114, .int .u8 32, .int .u8 97, .int .u8 110, .int .u8 110, .int .u8 32, .int .u8 49, .int .u8 32, .int .u8 97, .int .u8 100, .int .u8 109, .int .u8 105, .int .u8 110, .int .u8 10, .int .u8 102, .int .u8 108, .int .u8 111, .int .u8 111, .int .u8 114, .int .u8 32, .int .u8 97, .int .u8 47, .int .u8 32, .int .u8 49, .int .u8 10]
theorem lv_cells : lvCells = (byteCells lvText).toArray := by rfl
def LvPost (w : World) (e : Ending) (w' : World) : Prop :=
  ∃ uA ucap fA fcap, e = .returned (.tuple #[polA 2 0 9 9 9 3 ⟨#[46, 46, 46]⟩ (.slice uA 1 ucap) (.slice fA 1 fcap), .int .i64 0, .int .i64 0]) ∧ UsersIn w' uA [lvAnn] ∧ FloorsIn w' fA [lvA] ∧ Below w.heap.size w w'
theorem lv_parse (w : World) (ht : Tab w) : Calls Tryd.prog 12 #[.slice (some ⟨w.heap.size, 0, none⟩) 89 89] (w.alloc (.cells lvCells 5 (89, 90))) (LvPost w) := by
  have hb : Below w.heap.size w (w.alloc (.cells lvCells 5 (89, 90))) := (Below.refl _ _).alloc (Nat.le_refl _) _
  have hin : BytesIn (w.alloc (.cells lvCells 5 (89, 90))) (some ⟨w.heap.size, 0, none⟩) lvText := fun _ => ⟨w.heap.size, 0, rfl, by simp, fun j hj => by
    rw [Nat.zero_add, cell_of_row _ _ _ _ _ _ (heap_alloc_new w _), lv_cells]
    simp [byteCells, hj]⟩
  have h := parse_any (some ⟨w.heap.size, 0, none⟩) 89 lvText _ hin (by decide) (by unfold maxLen; decide) (ht.later hb)
  refine h.mono fun e w' he => ?_
  unfold ParseEnd at he
  rw [if_neg (by decide), lv_read] at he
  obtain ⟨⟨uv, fv, he, hu, hf⟩, hbe⟩ := he
  obtain ⟨uA, ucap, hu1, hu2⟩ := users_of_own hu
  obtain ⟨fA, fcap, hf1, hf2⟩ := floors_of_own hf
  subst hu1 hf1
  exact ⟨uA, ucap, fA, fcap, he, hu2, hf2, hb.trans (hbe.mono (by simp))⟩
theorem lv_findC {uA fA : Option Addr} {ucap fcap : Nat} (W : World) (hU : UsersIn W uA [lvAnn]) : Calls Tryd.prog 39 #[polA 2 0 9 9 9 3 ⟨#[46, 46, 46]⟩ (.slice uA 1 ucap) (.slice fA 1 fcap), .string ⟨#[97, 110, 110]⟩] W fun e w' => e = .returned (.tuple #[.agg #[.string ⟨#[97, 110, 110]⟩, .int .i64 1, .int .u64 0, .bool true], .bool true]) ∧ Below W.heap.size W w' := by
  have h := find_any 2 0 9 9 9 3 ⟨#[46, 46, 46]⟩ uA fA ucap 1 fcap [lvAnn] ⟨#[97, 110, 110]⟩ W hU (by unfold maxLen; decide)
  rw [lv_find] at h
  exact h
theorem lv_floorC {uA fA : Option Addr} {ucap fcap : Nat} (W : World) (hF : FloorsIn W fA [lvA]) : Calls Tryd.prog 21 #[polA 2 0 9 9 9 3 ⟨#[46, 46, 46]⟩ (.slice uA 1 ucap) (.slice fA 1 fcap), .string ⟨#[97, 47, 98]⟩] W fun e w' => e = .returned (L.lab 1 0) ∧ Below W.heap.size W w' := by
  have h := floor_any 2 0 9 9 9 3 ⟨#[46, 46, 46]⟩ uA fA 1 ucap fcap [lvA] ⟨#[97, 47, 98]⟩ W hF (by decide) (by unfold maxLen; decide)
  rw [lv_fl] at h
  exact h
theorem lv_checkC {uA fA : Option Addr} {ucap fcap : Nat} (W : World) (hU : UsersIn W uA [lvAnn]) (hF : FloorsIn W fA [lvA]) : Calls Tryd.prog 18 #[polA 2 0 9 9 9 3 ⟨#[46, 46, 46]⟩ (.slice uA 1 ucap) (.slice fA 1 fcap)] W fun e w' => e = .returned (.int .i64 0) ∧ Below W.heap.size W w' := by
  have h := check_any 2 0 9 9 9 3 ⟨#[46, 46, 46]⟩ uA fA ucap fcap [lvAnn] [lvA] W (by unfold maxLen; decide) hU (by unfold maxLen; decide) (by unfold maxLen; decide) hF (by unfold maxLen; decide) (by unfold maxLen; decide)
  rw [lv_ok] at h
  exact h
theorem lv_fitsC {uA fA : Option Addr} {ucap fcap : Nat} (W : World) : Calls Tryd.prog 22 #[polA 2 0 9 9 9 3 ⟨#[46, 46, 46]⟩ (.slice uA 1 ucap) (.slice fA 1 fcap), .agg #[.int .i64 1, .int .u64 0]] W fun e w' => e = .returned (.bool true) ∧ Below W.heap.size W w' := by
  have h := fits_any 2 0 9 9 9 3 ⟨#[46, 46, 46]⟩ (.slice uA 1 ucap) (.slice fA 1 fcap) 1 0 W (by decide)
  rw [lv_fits] at h
  exact h

set_option maxRecDepth 100000 in
set_option maxHeartbeats 4000000 in
theorem live3 (w : World) (ht : Tab w) :
    Calls Tryd.prog 14 #[] w fun e w' => e = .returned (.bool true) ∧ Below w.heap.size w w' := by
  have kc := fun (w : World) (C : Array Value) (n c : Nat) => Lib.run_convert_bytes_const (P := Tryd.prog) w 22 5 C n c Tryd.underlying22 Tryd.underlying5
  have HPA := Lib.hid (lv_parse w ht)
  unfold lvCells at HPA
  clear ht
  go_enter Tryd.func14, Tryd.ntmps14
  go_wp2_with fail
  with_reducible refine (HPA.out).mono ?_
  rintro e w1 ⟨uA, ucap, fA, fcap, rfl, hU1, hF1, hb1⟩
  clear kc HPA
  obtain ⟨W, hW⟩ : ∃ W : World, W = w1.alloc (.cells #[.int .i64 2, .int .i64 0, .int .i64 9, .int .i64 9, .int .i64 9, .int .i64 3, .string ⟨#[46, 46, 46]⟩, .slice uA 1 ucap, .slice fA 1 fcap] 26) := ⟨_, rfl⟩
  have hbW : Below w1.heap.size w1 W := by rw [hW]; exact (Below.refl _ _).alloc (Nat.le_refl _) _
  have hpW : W.heap[w1.heap.size]? = some (.cells #[.int .i64 2, .int .i64 0, .int .i64 9, .int .i64 9, .int .i64 9, .int .i64 3, .string ⟨#[46, 46, 46]⟩, .slice uA 1 ucap, .slice fA 1 fcap] 26 (0, 0)) := by rw [hW]; exact heap_alloc_new w1 _
  have HU2 := Lib.hid (hU1.below hbW)
  have HF2 := Lib.hid (hF1.below hbW)
  have HB2 := Lib.hid (hb1.trans (hbW.mono hb1.size))
  have HP2 := Lib.hid hpW
  have HFD := Lib.hid (lv_findC (fA := fA) (ucap := ucap) (fcap := fcap) W HU2.out)
  rw [hW] at HFD
  clear hU1 hF1 hb1 hbW hpW
  go_wp2_with fail
  with_reducible refine (HFD.out).mono ?_
  rintro e w2 ⟨rfl, hb2⟩
  rw [← hW] at hb2
  clear hW HFD
  have HU3 := Lib.hid (HU2.out.below hb2)
  have HF3 := Lib.hid (HF2.out.below hb2)
  have HB3 := Lib.hid (HB2.out.trans (hb2.mono HB2.out.size))
  have HP3 := Lib.hid ((hb2.block _ (L.blk_lt HP2.out)).trans HP2.out)
  generalize w1.heap.size = pb at *
  clear hb2 HU2 HF2 HB2 HP2
  obtain ⟨W4, hW4⟩ : ∃ W4 : World, W4 = w2.alloc (.cells #[.string ⟨#[97, 110, 110]⟩, .int .i64 1, .int .u64 0, .bool true] 72) := ⟨_, rfl⟩
  have hb4 : Below w2.heap.size w2 W4 := by rw [hW4]; exact (Below.refl _ _).alloc (Nat.le_refl _) _
  have HP4 := Lib.hid ((hb4.block _ (L.blk_lt HP3.out)).trans HP3.out)
  have hU4 := HU3.out.below hb4
  have hF4 := HF3.out.below hb4
  have hB4 := HB3.out.trans (hb4.mono HB3.out.size)
  have HU4 := Lib.hid hU4
  have HF4 := Lib.hid hF4
  have HB4 := Lib.hid hB4
  obtain ⟨p0, p1, p2, p3, p4, p5, p6, p7, p8⟩ := pol_cells HP4.out
  have HFL := Lib.hid (lv_floorC (uA := uA) (ucap := ucap) (fcap := fcap) W4 hF4)
  rw [hW4] at HFL p0 p1 p2 p3 p4 p5 p6 p7 p8
  clear hU4 hF4 hB4 hb4 HU3 HF3 HB3 HP3
  go_wp2_with fail
  with_reducible refine (HFL.out).mono ?_
  rintro e w5 ⟨rfl, hb5⟩
  have hfd : ∀ w : World, (Instr.field 40 (L.lab 1 0) 0).run Tryd.prog w = .ok (.int .i64 1) w := fun _ => by kernel_rfl
  rw [← hW4] at hb5
  clear p0 p1 p2 p3 p4 p5 p6 p7 p8 hW4 HFL
  have HU5 := Lib.hid (HU4.out.below hb5)
  have HF5 := Lib.hid (HF4.out.below hb5)
  have HB5 := Lib.hid (HB4.out.trans (hb5.mono HB4.out.size))
  have HP5 := Lib.hid ((hb5.block _ (L.blk_lt HP4.out)).trans HP4.out)
  clear hb5 HU4 HF4 HB4 HP4
  obtain ⟨p0, p1, p2, p3, p4, p5, p6, p7, p8⟩ := pol_cells HP5.out
  go_wp2_with fail
  with_reducible refine (lv_checkC _ HU5.out HF5.out).mono ?_
  rintro e w6 ⟨rfl, hb6⟩
  clear p0 p1 p2 p3 p4 p5 p6 p7 p8
  have HB6 := Lib.hid (HB5.out.trans (hb6.mono HB5.out.size))
  have HP6 := Lib.hid ((hb6.block _ (L.blk_lt HP5.out)).trans HP5.out)
  clear hb6 HU5 HF5 HB5 HP5
  obtain ⟨p0, p1, p2, p3, p4, p5, p6, p7, p8⟩ := pol_cells HP6.out
  go_wp2_with fail
  with_reducible refine (lv_fitsC _).mono ?_
  rintro e w7 ⟨rfl, hb7⟩
  clear p0 p1 p2 p3 p4 p5 p6 p7 p8
  have HB7 := Lib.hid (HB6.out.trans (hb7.mono HB6.out.size))
  clear hb7
  go_wp2_with fail
  go_ret
  exact ⟨rfl, HB7.out⟩
end Go.Proofs.YtadhhamfikpimaaDoor.O
