/-
  What must be whatever is asked (layer 5), walked over what the code's functions come to.
-/
import Derived.Test.YtllgeffjkjdadaaGvd
import Derived.Deep.DeepCutAuto
namespace Go.Proofs.Ytllgeffjkjdadaa.V
set_option linter.unusedVariables false
set_option linter.unusedSimpArgs false
open Go.RowKit
open T
open I (It Lb ItemsIn ItemsAt ItemsOk itCells itCells_snoc itCells_at items_cells items_own own_at own_below infoItem alloc1)

def lvIts : List It := [⟨4, 0, 0, false, [97], false⟩, ⟨5, 1, 0, false, [98], false⟩, ⟨6, 0, 0, true, [], false⟩]
def lvLns : List (List UInt8 × Bool) := [([97], false), ([46, 46, 46], false)]
def lvCut : List It := [⟨4, 0, 0, false, [97], false⟩, ⟨6, 0, 0, true, [], false⟩]
theorem lvLns_is : lns [46, 46, 46] (cut (0, 0) lvIts) = lvLns := by decide
theorem lvCut_is : cut (0, 0) lvIts = lvCut := by decide
theorem lvAts_is : atI (0, 0) lvIts = [0, 2] := by decide
def lvIC : Array Value := #[.int .i64 4, .int .i64 0, .int .u64 0, .bool false, .string ⟨#[97]⟩, .bool false, .int .i64 5, .int .i64 1, .int .u64 0, .bool false, .string ⟨#[98]⟩, .bool false, .int .i64 6, .int .i64 0, .int .u64 0, .bool true, .string ⟨#[]⟩, .bool false]
theorem its_of_block {w : World} {g : Nat} {cs : Array Value} {xs : List It} (h : w.heap[g]? = some (.cells cs 37 (0, 0))) (hc : cs.toList = itCells xs) : ItemsIn w (some ⟨g, 0, none⟩) xs := fun hp => by
  refine ⟨g, 0, rfl, L.blk_lt h, fun j hj => ?_⟩
  obtain ⟨h0, h1, h2, h3, h4, h5⟩ := itCells_at xs j hj
  rw [← hc] at h0 h1 h2 h3 h4 h5
  have k : ∀ i u, cs.toList[i]? = some u → w.cell? ⟨g, i, none⟩ = some u := fun i u hu => by rw [L.blk_cell h]; simpa using hu
  rw [Nat.zero_add]
  exact ⟨k _ _ h0, k _ _ h1, k _ _ h2, k _ _ h3, k _ _ h4, k _ _ h5⟩

theorem VoC.at0 {fn : FuncId} {A : Option Addr} {n cap : Nat} {hx : ByteArray} {l : List It} {ls : List (List UInt8 × Bool)} {ts : List Int} (h : VoC fn A n cap 0 0 hx l ls ts) (W : World) (h1 : ItemsIn W A l) :
    Calls Try.prog fn #[.slice A n cap, .agg #[.int .i64 0, .int .u64 0], .string hx] W (VoEnd W ls ts) := h W h1
theorem CuC.at0 {fn : FuncId} {A : Option Addr} {n cap : Nat} {l c : List It} (h : CuC fn A n cap 0 0 l c) (W : World) (h1 : ItemsIn W A l) : Calls Try.prog fn #[.slice A n cap, .agg #[.int .i64 0, .int .u64 0]] W (IsEnd W c) := h W h1
theorem ints_of_block {w : World} {g : Nat} {cs : Array Value} {xs : List Int} (h : w.heap[g]? = some (.cells cs 3 (0, 0))) (hc : cs.toList = numCells xs) : IntsIn w (some ⟨g, 0, none⟩) xs := fun hp => by
  refine ⟨g, 0, rfl, L.blk_lt h, fun j hj => ?_⟩
  rw [L.blk_cell h, Nat.zero_add]
  have : cs.toList[j]? = some (.int .i64 xs[j]) := by rw [hc]; simp [numCells, List.getElem?_eq_getElem hj]
  simpa using this
def I2C (fn : FuncId) (ds : List Int) (n : Nat) : Prop := ∀ (W : World) (A B : Option Addr) (c c' : Nat), IntsIn W A ds → IntsIn W B ds → Calls Try.prog fn #[.slice A ds.length c, .slice B n c'] W fun e w' => e = .returned (.bool true) ∧ Below W.heap.size W w'
theorem I2C.at {fn : FuncId} {ds : List Int} {n : Nat} (h : I2C fn ds n) (W : World) {A B : Option Addr} {c c' : Nat} (h1 : IntsIn W A ds) (h2 : IntsIn W B ds) : Calls Try.prog fn #[.slice A ds.length c, .slice B n c'] W fun e w' => e = .returned (.bool true) ∧ Below W.heap.size W w' := h W A B c c' h1 h2
set_option maxRecDepth 100000 in
set_option maxHeartbeats 4000000 in
theorem live5_walk {ls : List (List UInt8 × Bool)} {ts ds : List Int} {c : List It} {b : List UInt8} (VC : Hid (∀ (A : Option Addr) (cap : Nat), VoC 6 A 3 cap 0 0 ⟨#[46, 46, 46]⟩ lvIts ls ts)) (AF : Hid (AfC 7 ts 2 3 0)) (FD : Hid (FdC 19 ts 2 1 true)) (TX : Hid (TxC 20 ls b)) (HBT : Hid (b = [97, 10, 46, 46, 46, 10]))
    (ID : Hid (∀ (A : Option Addr) (cap : Nat), IdC 22 A 3 cap lvIts ts ds)) (HDS : Hid (ds = [4, 6])) (IN : Hid (I2C 21 ds 2)) (CU : Hid (∀ (A : Option Addr) (cap : Nat), CuC 23 A 3 cap 0 0 lvIts c)) (HC : Hid (c.length = 2)) : LvC 9 := fun w => by
  obtain ⟨W0, hW0⟩ : ∃ W0 : World, W0 = w.alloc (.cells lvIC 37) := ⟨_, rfl⟩
  have HB := Lib.hid (show Below w.heap.size w W0 by rw [hW0]; exact alloc1 _ _)
  have HU := Lib.hid (its_of_block (xs := lvIts) (show W0.heap[w.heap.size]? = some (.cells lvIC 37 (0, 0)) by rw [hW0]; exact heap_alloc_new w _) rfl)
  unfold lvIC at hW0
  go_enter Try.func9, Try.ntmps9
  go_wp2_with fail
  rw [← hW0]
  clear hW0
  with_reducible refine ((VC.out _ _).at0 W0 HU.out).mono ?_
  rintro e w1 ⟨L1, lc1, T1, tc1, rfl, hl1, ht1, hb1⟩
  obtain ⟨W1, hW1⟩ : ∃ W : World, W = w1.alloc (.cells #[.slice L1 ls.length lc1, .slice T1 ts.length tc1] 29) := ⟨_, rfl⟩
  have ha1 : Below w1.heap.size w1 W1 := by rw [hW1]; exact alloc1 _ _
  have hb1' : Below W0.heap.size W0 W1 := hb1.trans (ha1.mono hb1.size)
  have HP1 := Lib.hid (show W1.heap[w1.heap.size]? = some (.cells #[.slice L1 ls.length lc1, .slice T1 ts.length tc1] 29 (0, 0)) by rw [hW1]; exact heap_alloc_new w1 _)
  have HL1 := Lib.hid ((lines_own hl1).below ha1)
  have HT1 := Lib.hid ((ints_own ht1).below ha1)
  replace HU := Lib.hid (HU.out.below hb1')
  replace HB := Lib.hid (HB.out.trans (Below.mono hb1' HB.out.size))
  clear hb1 hb1' ha1 hl1 ht1
  obtain ⟨y0, y1⟩ := view_cells HP1.out
  rw [hW1] at y0 y1
  go_wp2_with fail
  rw [← hW1]
  obtain ⟨v1, hv1⟩ : ∃ v, v = w1.heap.size := ⟨_, rfl⟩
  rw [← hv1]
  rw [← hv1] at HP1
  clear hW1 y0 y1 hv1 VC
  with_reducible refine (AF.out.at W1 HT1.out).mono ?_
  rintro e w2 ⟨rfl, hb2⟩
  replace HU := Lib.hid (HU.out.below hb2)
  replace HB := Lib.hid (HB.out.trans (Below.mono hb2 HB.out.size))
  replace HP1 := Lib.hid ((Below.block hb2 _ (L.blk_lt HP1.out)).trans HP1.out)
  replace HL1 := Lib.hid (HL1.out.below hb2)
  replace HT1 := Lib.hid (HT1.out.below hb2)
  clear hb2 AF
  obtain ⟨y0, y1⟩ := view_cells HP1.out
  go_wp2_with fail
  clear y0 y1
  with_reducible refine (FD.out.at w2 HT1.out).mono ?_
  rintro e w3 ⟨rfl, hb3⟩
  replace HU := Lib.hid (HU.out.below hb3)
  replace HB := Lib.hid (HB.out.trans (Below.mono hb3 HB.out.size))
  replace HP1 := Lib.hid ((Below.block hb3 _ (L.blk_lt HP1.out)).trans HP1.out)
  replace HL1 := Lib.hid (HL1.out.below hb3)
  replace HT1 := Lib.hid (HT1.out.below hb3)
  clear hb3 FD
  obtain ⟨y0, y1⟩ := view_cells HP1.out
  go_wp2_with fail
  clear y0 y1
  with_reducible refine (TX.out.at w3 HL1.out).mono ?_
  rintro e w4 ⟨A3, cap3, rfl, h3, hb4⟩
  replace HU := Lib.hid (HU.out.below hb4)
  replace HB := Lib.hid (HB.out.trans (Below.mono hb4 HB.out.size))
  replace HP1 := Lib.hid ((Below.block hb4 _ (L.blk_lt HP1.out)).trans HP1.out)
  replace HT1 := Lib.hid (HT1.out.below hb4)
  have hcv := conv_in cap3 h3
  obtain ⟨s, hs⟩ : ∃ s : ByteArray, s = ⟨b.toArray⟩ := ⟨_, rfl⟩
  rw [← hs] at hcv
  have hsb : (s.toList == [97, 10, 46, 46, 46, 10]) = true := by rw [hs, HBT.out, Lib.toList_data]; rfl
  clear hb4 TX HL1 hs h3
  obtain ⟨y0, y1⟩ := view_cells HP1.out
  go_wp2_with fail
  clear y0 y1
  with_reducible refine ((ID.out _ _).at w4 HU.out HT1.out).mono ?_
  rintro e w5 ⟨A5, cap5, rfl, h5, hb5⟩
  obtain ⟨W5, hW5⟩ : ∃ W : World, W = w5.alloc (.cells #[.int .i64 4, .int .i64 6] 3) := ⟨_, rfl⟩
  have ha5 : Below w5.heap.size w5 W5 := by rw [hW5]; exact alloc1 _ _
  have hb5' : Below w4.heap.size w4 W5 := hb5.trans (ha5.mono hb5.size)
  have H5 := Lib.hid (h5.below ha5)
  have H6 := Lib.hid (ints_of_block (xs := ds) (show W5.heap[w5.heap.size]? = some (.cells #[.int .i64 4, .int .i64 6] 3 (0, 0)) by rw [hW5]; exact heap_alloc_new w5 _) (by rw [HDS.out]; rfl))
  replace HU := Lib.hid (HU.out.below hb5')
  replace HB := Lib.hid (HB.out.trans (Below.mono hb5' HB.out.size))
  clear hb5 hb5' ha5 h5 HP1 HT1 ID hcv hsb
  go_wp2_with fail
  rw [← hW5]
  clear hW5
  with_reducible refine (IN.out.at W5 H5.out H6.out).mono ?_
  rintro e w6 ⟨rfl, hb6⟩
  replace HU := Lib.hid (HU.out.below hb6)
  replace HB := Lib.hid (HB.out.trans (Below.mono hb6 HB.out.size))
  clear hb6 H5 H6 IN
  go_wp2_with fail
  with_reducible refine ((CU.out _ _).at0 w6 HU.out).mono ?_
  rintro e w7 ⟨A7, cap7, rfl, -, hb7⟩
  replace HB := Lib.hid (HB.out.trans (Below.mono hb7 HB.out.size))
  have hcl : ((c.length : Int) == 2) = true := by rw [HC.out]; rfl
  have hcl2 : (c.length == 2) = true := by rw [HC.out]; rfl
  clear hb7 CU HU
  go_wp2_with fail
  go_ret
  exact ⟨rfl, HB.out⟩
end Go.Proofs.Ytllgeffjkjdadaa.V
