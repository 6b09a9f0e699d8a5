/-
  The contracts of the reference's among and Same (layer 15).
-/
import Derived.Test.YtlggoplffhdkhaaDoorGje
import Derived.BigQuiet
namespace Go.Proofs.YtlggoplffhdkhaaDoor.Dl
set_option linter.unusedVariables false
set_option linter.unusedSimpArgs false
open Go.RowKit
open T
open V (drawn_below grown_of)
open I (It ItemsIn ItemsAt itCells itCells_snoc itCells_at alloc1 own_at own_below items_of_own items_own infoItem ItemsIn.below)

set_option maxRecDepth 100000 in
set_option maxHeartbeats 4000000 in
theorem among_any (A : Option Addr) (c : Nat) (l : List It) (v : It) (w : World) (hA : ItemsIn w A l) (hl : l.length ≤ 1000000) :
    Calls Tryd.prog 29 #[.slice A l.length c, itV v] w fun e w' => e = .returned (.bool (decide (v ∈ l))) ∧ Below w.heap.size w w' := by
  obtain ⟨W0, hW0⟩ : ∃ W : World, W = w.alloc (.cells #[.int .i64 v.id, .int .i64 v.lv, .int .u64 (v.ct : Int), .bool v.an, .string ⟨v.tx.toArray⟩, .bool v.ba] 41) := ⟨_, rfl⟩
  have HB0 := Lib.hid (show Below w.heap.size w W0 by rw [hW0]; exact alloc1 _ _)
  have HX0 := Lib.hid (show W0.heap[w.heap.size]? = some (.cells #[.int .i64 v.id, .int .i64 v.lv, .int .u64 (v.ct : Int), .bool v.an, .string ⟨v.tx.toArray⟩, .bool v.ba] 41 (0, 0)) by rw [hW0]; exact heap_alloc_new w _)
  have HA := Lib.hid (hA.below HB0.out)
  clear hA
  simp only [itV]
  go_enter Tryd.func29, Tryd.ntmps29
  go_wp2_with fail
  rw [← hW0]
  obtain ⟨xb, hxb⟩ : ∃ q, q = w.heap.size := ⟨_, rfl⟩
  rw [← hxb] at HB0 HX0 ⊢
  have HXB := Lib.hid hxb
  clear hW0 hxb
  go_loopg [5] l.length (fun m i wr => ∃ k : Nat, k ≤ l.length ∧ i = .int .i64 (k : Int) ∧ l.length - k ≤ m ∧ Hid (Below W0.heap.size W0 wr) ∧ Hid (v ∈ l ↔ v ∈ l.drop k))
  case atStart => exact ⟨0, Nat.zero_le _, rfl, by omega, Lib.hid (Below.refl _ _), Lib.hid Iff.rfl⟩
  case round =>
    obtain ⟨k, hk, rfl, hmm, HBR, HM⟩ := hrel
    by_cases hkl : k < l.length
    · obtain ⟨bk, off, hAe, hbk, g0, g1, g2, g3, g4, g5⟩ := it_at (HA.out.below HBR.out) hkl
      subst hAe
      have hx1 := (HBR.out.block _ (L.blk_lt HX0.out)).trans HX0.out
      have e0 := L.blk_cell hx1 0
      have e1 := L.blk_cell hx1 1
      have e2 := L.blk_cell hx1 2
      have e3 := L.blk_cell hx1 3
      have e4 := L.blk_cell hx1 4
      have e5 := L.blk_cell hx1 5
      simp only [List.getElem?_toArray, List.getElem?_cons_zero, List.getElem?_cons_succ] at e0 e1 e2 e3 e4 e5
      have h0k : (0 : Int) ≤ (k : Int) := by omega
      have hki : (k : Int) < (l.length : Int) := by omega
      have hd := List.drop_eq_getElem_cons hkl
      have HMM := Lib.hid (show v ∈ l ↔ v = l[k] ∨ v ∈ l.drop (k + 1) by rw [HM.out, hd, List.mem_cons])
      obtain ⟨x, hx⟩ : ∃ x, x = l[k]'hkl := ⟨_, rfl⟩
      rw [← hx] at g0 g1 g2 g3 g4 g5 HMM
      clear hd
      by_cases hv : x = v
      · have qE := fun w => it_eql w x v
        rw [decide_eq_true hv] at qE
        simp only [itV] at qE
        have HT := Lib.hid (show decide (v ∈ l) = true from decide_eq_true (HMM.out.2 (.inl hv.symm)))
        clear hx1 hbk hx hv HM HMM
        go_wp2_with fail
        go_quiet (fail)
        go_wp2_with fail
        go_ret
        refine ⟨by rw [HT.out]; rfl, HXB.out ▸ (HB0.out.trans ((HBR.out.trans ((drawn_below _ _).mono HBR.out.size)).mono (by rw [HXB.out]; exact HB0.out.size)))⟩
      · have qE := fun w => it_eql w x v
        rw [decide_eq_false hv] at qE
        simp only [itV] at qE
        have HN := Lib.hid (show v ∈ l ↔ v ∈ l.drop (k + 1) by rw [HMM.out]; exact ⟨fun h => h.elim (fun e => absurd e.symm hv) id, .inr⟩)
        clear hx1 hbk hx hv HM HMM
        go_wp2_with fail
        go_quiet (fail)
        go_wp2_with fail
        go_roundg (l.length - (k + 1))
        case rel => exact ⟨k + 1, by omega, by go_num, Nat.le_refl _, Lib.hid (HBR.out.trans ((drawn_below _ _).mono HBR.out.size)), HN⟩
        case measure => omega
    · have HT := Lib.hid (show decide (v ∈ l) = false from decide_eq_false (by rw [HM.out, List.drop_eq_nil_of_le (by omega)]; exact List.not_mem_nil))
      clear HM
      go_wp2_with fail
      go_ret
      refine ⟨by rw [HT.out]; rfl, HXB.out ▸ (HB0.out.trans (HBR.out.mono (by rw [HXB.out]; exact HB0.out.size)))⟩
set_option maxRecDepth 100000 in
set_option maxHeartbeats 4000000 in
theorem psame_any (A B : Option Addr) (c c' : Nat) (d : List Pt) (w : World) (hA : PtsIn w A d) (hB : PtsIn w B d) (hl : d.length ≤ 4000000000) (hi : ∀ p ∈ d, p.its.length ≤ 4000000000) :
    Calls Tryd.prog 13 #[.slice A d.length c, .slice B d.length c'] w fun e w' => e = .returned (.bool true) ∧ Below w.heap.size w w' := by
  have HA := Lib.hid hA
  have HB := Lib.hid hB
  have HL := Lib.hid hi
  clear hA hB hi
  go_enter Tryd.func13, Tryd.ntmps13
  go_wp2_with fail
  go_loopg [5] d.length (fun m i wr => ∃ k : Nat, k ≤ d.length ∧ i = .int .i64 (k : Int) ∧ d.length - k ≤ m ∧ Hid (Below w.heap.size w wr))
  case atStart => exact ⟨0, Nat.zero_le _, rfl, by omega, Lib.hid (Below.refl _ _)⟩
  case round =>
    obtain ⟨k, hk, rfl, hmm, HBR⟩ := hrel
    by_cases hkl : k < d.length
    · obtain ⟨b1, o1, hAe, hb1, hI1⟩ := HA.out.below HBR.out (by omega)
      subst hAe
      obtain ⟨b2, o2, hBe, hb2, hI2⟩ := HB.out.below HBR.out (by omega)
      subst hBe
      obtain ⟨c0, c1, C, cc, c2, hC⟩ := hI1 k hkl
      obtain ⟨d0, d1, D, dc, d2, hD⟩ := hI2 k hkl
      have hil := HL.out _ (List.getElem_mem hkl)
      have h0k : (0 : Int) ≤ (k : Int) := by omega
      have hki : (k : Int) < (d.length : Int) := by omega
      have HCI := Lib.hid hC.i
      have HDI := Lib.hid hD.i
      obtain ⟨p, hp⟩ : ∃ p, p = d[k] := ⟨_, rfl⟩
      rw [← hp] at c0 c1 c2 d0 d1 d2 HCI HDI hil
      have HC2 := Lib.hid (And.intro c2 d2)
      have hn1 : (p.at_ != p.at_) = false := by simp
      have hn2 : (p.n != p.n) = false := by simp
      have hn3 : ((p.its.length : Int) != (p.its.length : Int)) = false := by simp
      clear hp hI1 hI2 hC hD
      go_wp2_with fail
      go_quiet (fail)
      generalize hwq : wr.drewN nq = w1 at *
      have HB1 := Lib.hid (show Below wr.heap.size wr w1 by rw [← hwq]; exact drawn_below _ _)
      have HW1 := Lib.hid (HBR.out.trans (HB1.out.mono HBR.out.size))
      have HE2 := Lib.hid (And.intro ((HB1.out.cell (p := ⟨b1, o1 + k * 3 + 2, none⟩) hb1).trans HC2.out.1) ((HB1.out.cell (p := ⟨b2, o2 + k * 3 + 2, none⟩) hb2).trans HC2.out.2))
      have HBK := Lib.hid (And.intro (Nat.lt_of_lt_of_le hb1 HB1.out.size) (Nat.lt_of_lt_of_le hb2 HB1.out.size))
      replace HCI := Lib.hid (HCI.out.below HB1.out)
      replace HDI := Lib.hid (HDI.out.below HB1.out)
      clear hwq HB1 HC2 c0 c1 c2 d0 d1 d2 hb1 hb2 HBR
      go_wp2_with fail
      go_loopg [6] p.its.length (fun m i wx => ∃ j : Nat, j ≤ p.its.length ∧ i = .int .i64 (j : Int) ∧ p.its.length - j ≤ m ∧ Hid (Below w1.heap.size w1 wx))
      case atStart => exact ⟨0, Nat.zero_le _, rfl, by omega, Lib.hid (Below.refl _ _)⟩
      case round =>
        obtain ⟨j, hj, rfl, hm2, HBX⟩ := hrel
        have c2 := (HBX.out.cell (p := ⟨b1, o1 + k * 3 + 2, none⟩) HBK.out.1).trans HE2.out.1
        have d2 := (HBX.out.cell (p := ⟨b2, o2 + k * 3 + 2, none⟩) HBK.out.2).trans HE2.out.2
        by_cases hjl : j < p.its.length
        · obtain ⟨x1, q1, hCe, hx1, g0, g1, g2, g3, g4, g5⟩ := it_at (HCI.out.below HBX.out) hjl
          subst hCe
          obtain ⟨x2, q2, hDe, hx2, k0, k1, k2, k3, k4, k5⟩ := it_at (HDI.out.below HBX.out) hjl
          subst hDe
          have h0j : (0 : Int) ≤ (j : Int) := by omega
          have hji : (j : Int) < (p.its.length : Int) := by omega
          obtain ⟨y, hy⟩ : ∃ y, y = p.its[j] := ⟨_, rfl⟩
          rw [← hy] at g0 g1 g2 g3 g4 g5 k0 k1 k2 k3 k4 k5
          have qE := fun w => it_neq w y y
          rw [decide_eq_true rfl] at qE
          simp only [itV] at qE
          clear hy hx1 hx2
          go_wp2_with fail
          go_quiet (fail)
          go_wp2_with fail
          go_roundg (p.its.length - (j + 1))
          case rel => exact ⟨j + 1, by omega, by go_num, Nat.le_refl _, Lib.hid (HBX.out.trans ((drawn_below _ _).mono HBX.out.size))⟩
          case measure => omega
        · obtain rfl : j = p.its.length := by omega
          have HW2 := Lib.hid (HW1.out.trans (HBX.out.mono HW1.out.size))
          go_wp2_with fail
          go_roundg (d.length - (k + 1))
          case rel => exact ⟨k + 1, by omega, by go_num, Nat.le_refl _, HW2⟩
          case measure => omega
    · obtain rfl : k = d.length := by omega
      go_wp2_with fail
      go_ret
      exact ⟨rfl, HBR.out⟩
end Go.Proofs.YtlggoplffhdkhaaDoor.Dl
