/-
  The reference's Table: the distance of what is left behind each two places.
  The reference's Steps.
  The reference's Pairs, Same and Distance (layer 7).
-/
import Derived.Test.YtkflhcfopejigaaGgp
import Derived.StillTailTactics
import Derived.BigQuiet
namespace Go.Proofs.Ytkflhcfopejigaa.M
set_option linter.unusedVariables false
set_option linter.unusedSimpArgs false
open Go.RowKit
open T
open V (IntsIn numCells numCells_snoc ints_own drawn_below)
open I (alloc1 own_at own_below)

/-- A table's rows: their blocks, and what is in them. -/
structure Tb (w : World) (base G la lb : Nat) (gs : List Nat) (R : Nat → List Int) : Prop where
  len : gs.length = la + 1
  head : ∃ cs, w.heap[G]? = some (.cells cs 67 (0, 0))
  row : ∀ i (h : i < gs.length), w.cell? ⟨G, i, none⟩ = some (rowV (lb + 1) gs[i]) ∧ base ≤ gs[i] ∧ Row w gs[i] (R i) ∧ (R i).length = lb + 1
  apart : ∀ i j (hi : i < gs.length) (hj : j < gs.length), i ≠ j → gs[i] ≠ gs[j]
theorem Tb.draw {w : World} {base G la lb : Nat} {gs : List Nat} {R : Nat → List Int} (h : Tb w base G la lb gs R) (q : Nat) : Tb (w.drewN q) base G la lb gs R := ⟨h.len, h.head, h.row, h.apart⟩
theorem Tb.draw1 {w : World} {base G la lb : Nat} {gs : List Nat} {R : Nat → List Int} (h : Tb w base G la lb gs R) : Tb w.drew base G la lb gs R := ⟨h.len, h.head, h.row, h.apart⟩
theorem Tb.put {w : World} {base G la lb : Nat} {gs : List Nat} {R : Nat → List Int} (h : Tb w base G la lb gs R) {i : Nat} (hi : i < gs.length) (j : Nat) (z : Int) :
    Tb (w.setCell ⟨gs[i], j, none⟩ (.int .i64 z)) base G la lb gs (fun k => if k = i then (R i).set j z else R k) := by
  have hG : G ≠ gs[i] := fun e => by
    obtain ⟨cs, hc⟩ := h.head
    have := (h.row i hi).2.2.1
    unfold Row at this
    rw [← e, hc] at this
    injection this with this
    injection this with _ this
    exact absurd this (by decide)
  refine ⟨h.len, ?_, fun k hk => ?_, h.apart⟩
  · obtain ⟨cs, hc⟩ := h.head
    exact ⟨cs, (heap_setCell_other _ _ _ _ hG).trans hc⟩
  · obtain ⟨h1, h2, h3, h4⟩ := h.row k hk
    refine ⟨(World.cell?_of_block (a := ⟨G, k, none⟩) (heap_setCell_other _ _ _ _ hG)).trans h1, h2, ?_, ?_⟩
    · by_cases e : k = i
      · subst e; rw [if_pos rfl]; exact h3.set j z
      · rw [if_neg e]; exact (heap_setCell_other w ⟨gs[i], j, none⟩ gs[k] _ (h.apart k i hk hi e)).trans h3
    · by_cases e : k = i
      · subst e; rw [if_pos rfl, List.length_set]; exact h4
      · rw [if_neg e]; exact h4
/-- What has been worked out: all behind (z, y). -/
def Done (a b : List Int) (R : Nat → List Int) (z y : Int) : Prop := ∀ i j : Nat, i ≤ a.length → j ≤ b.length → (z < i ∨ z = i ∧ y < j) → (R i).getD j 0 = ((D a b i j : Nat) : Int)
theorem Done.put {a b : List Int} {R : Nat → List Int} {i j : Nat} (h : Done a b R i j) (hl : j < (R i).length) {z : Int} (hz : z = ((D a b i j : Nat) : Int)) : Done a b (fun k => if k = i then (R i).set j z else R k) i ((j : Int) - 1) := fun i' j' hi hj hc => by
  show (if i' = i then (R i).set j z else R i').getD j' 0 = _
  by_cases e : i' = i
  · subst e
    rw [if_pos rfl, getD_set hl]
    by_cases e2 : j' = j
    · subst e2; rw [if_pos rfl, hz]
    · rw [if_neg e2]; exact h _ _ hi hj (.inr ⟨rfl, by omega⟩)
  · rw [if_neg e]; exact h _ _ hi hj (.inl (by omega))
theorem Done.line {a b : List Int} {R : Nat → List Int} {z y : Int} (h : Done a b R z y) (hy : y < 0) : Done a b R (z - 1) b.length := fun i j hi hj hc => h i j hi hj (by omega)
def TabEnd (W : World) (a b : List Int) (e : Ending) (w' : World) : Prop := ∃ G cap gs R, e = .returned (.slice (some ⟨G, 0, none⟩) (a.length + 1) cap) ∧ W.heap.size ≤ G ∧ Tb w' W.heap.size G a.length b.length gs R ∧ (∀ i j : Nat, i ≤ a.length → j ≤ b.length → (R i).getD j 0 = ((D a b i j : Nat) : Int)) ∧ Below W.heap.size W w'
/-- The rows while they are laid: their blocks rise. -/
def Lays (w : World) (base lb : Nat) (gs : List Nat) : Prop := (∀ i (h : i < gs.length), base ≤ gs[i] ∧ gs[i] < w.heap.size ∧ Row w gs[i] (List.replicate (lb + 1) 0)) ∧ ∀ i j (hi : i < gs.length) (hj : j < gs.length), i < j → gs[i] < gs[j]
theorem Lays.nil (w : World) (base lb : Nat) : Lays w base lb [] := ⟨fun i h => by simp at h, fun i j hi => by simp at hi⟩
theorem Lays.kept {w w' : World} {base lb : Nat} {gs : List Nat} (h : Lays w base lb gs) (hb : Below w.heap.size w w') : Lays w' base lb gs :=
  ⟨fun i hi => by obtain ⟨h1, h2, h3⟩ := h.1 i hi; exact ⟨h1, Nat.lt_of_lt_of_le h2 hb.size, h3.kept hb⟩, h.2⟩
theorem Lays.grown {w w' : World} {base lb : Nat} {gs : List Nat} (h : Lays w base lb gs) {base' n size : Nat} {v : Value} {zs : List Value} (hown : w.ownsRow base' 67 size v n zs) (hg : w.grownBy w' v.ownBlock) : Lays w' base lb gs :=
  ⟨fun i hi => by obtain ⟨h1, h2, h3⟩ := h.1 i hi; exact ⟨h1, Nat.lt_of_lt_of_le h2 hg.size, h3.grown hown hg⟩, h.2⟩
theorem Lays.snoc {w : World} {base lb : Nat} {gs : List Nat} (h : Lays w base lb gs) {g : Nat} (h1 : base ≤ g) (h2 : ∀ i (hi : i < gs.length), gs[i] < g) (h3 : Row w g (List.replicate (lb + 1) 0)) : Lays w base lb (gs ++ [g]) := by
  refine ⟨fun i hi => ?_, fun i j hi hj hij => ?_⟩
  · by_cases e : i < gs.length
    · rw [List.getElem_append_left e]; exact h.1 i e
    · obtain rfl : i = gs.length := by simp at hi; omega
      rw [List.getElem_append_right (Nat.le_refl _)]
      simp only [Nat.sub_self, List.getElem_cons_zero]
      exact ⟨h1, h3.lt, h3⟩
  · by_cases e : j < gs.length
    · rw [List.getElem_append_left e, List.getElem_append_left (by omega)]; exact h.2 i j _ _ hij
    · obtain rfl : j = gs.length := by simp at hj; omega
      rw [List.getElem_append_left (by omega), List.getElem_append_right (Nat.le_refl _)]
      simp only [Nat.sub_self, List.getElem_cons_zero]
      exact h2 i _
theorem Lays.tb {w : World} {base base' la lb cap : Nat} {A : Option Addr} {gs : List Nat} (h : Lays w base lb gs) (hl : gs.length = la + 1) (hown : w.ownsRow base' 67 1 (.slice A gs.length cap) gs.length (gs.map (rowV (lb + 1)))) :
    ∃ G, A = some ⟨G, 0, none⟩ ∧ base' ≤ G ∧ Tb w base G la lb gs (fun _ => List.replicate (lb + 1) 0) := by
  rcases hown.2 with ⟨_, e⟩ | ⟨g, cap', cur, e, hb, hh, hc, hm, hs, ht⟩
  · omega
  · injection e with e1 e2 e3
    refine ⟨g, e1, hb, hl, ⟨cur, hh⟩, fun m hm => ?_, fun i j hi hj hne => ?_⟩
    · obtain ⟨h1, h2, h3⟩ := h.1 m hm
      refine ⟨?_, h1, h3, by simp⟩
      rw [cell_of_row w g m cur _ _ hh]
      have : (cur.toList.take (gs.length * 1))[m]? = (gs.map (rowV (lb + 1)))[m]? := by rw [ht]
      rw [Nat.mul_one, List.getElem?_take, if_pos hm, List.getElem?_map, List.getElem?_eq_getElem hm] at this
      simpa using this
    · rcases Nat.lt_or_gt_of_ne hne with q | q
      · exact Nat.ne_of_lt (h.2 i j hi hj q)
      · exact (Nat.ne_of_lt (h.2 j i hj hi q)).symm

set_option maxRecDepth 100000 in
set_option maxHeartbeats 8000000 in
theorem table_any (A B : Option Addr) (a b : List Int) (c c' : Nat) (w : World) (hA : IntsIn w A a) (hB : IntsIn w B b) (ha : a.length ≤ 400) (hb : b.length ≤ 400) :
    Calls Try.prog 58 #[.slice A a.length c, .slice B b.length c'] w (TabEnd w a b) := by
  obtain ⟨i0, hi0, hz0, hz1, hz2⟩ := info_parts infoRowI
  have HA := Lib.hid hA
  have HB := Lib.hid hB
  clear hA hB
  obtain ⟨la, hla⟩ : ∃ n, n = a.length := ⟨_, rfl⟩
  obtain ⟨lb, hlb⟩ : ∃ n, n = b.length := ⟨_, rfl⟩
  rw [← hla] at ha ⊢
  rw [← hlb] at hb ⊢
  have HLN := Lib.hid (And.intro hla hlb)
  clear hla hlb
  have hmk0 := (run_make_row' (P := Try.prog) 67 3 (.int .i64 0) 8 Try.underlying67 infoI rfl .i64 .i64 (lb + 1) (by omega) (by omega))
  rw [show ((lb + 1 : Nat) : Int) = (lb : Int) + 1 by omega] at hmk0
  have HMK := Lib.hid hmk0
  clear hmk0
  go_enter Try.func58, Try.ntmps58
  go_wp2_with fail
  obtain ⟨W0, hW0⟩ : ∃ W : World, W = w.alloc (.cells #[] 67) := ⟨_, rfl⟩
  have HB0 : Hid (Below w.heap.size w W0) := Lib.hid (by rw [hW0]; exact alloc1 _ _)
  have HO0 : Hid (W0.ownsRow w.heap.size 67 1 (.slice (some ⟨w.heap.size, 0, none⟩) 0 0) 0 []) := Lib.hid (by rw [hW0]; exact World.ownsRow_lit w #[] 0 (Nat.le_refl _) (by decide) rfl)
  rw [← hW0]
  clear hW0
  go_loopg [5, 6] (la + 1) (fun mm v i wr => ∃ gs : List Nat, i = .int .i64 (gs.length : Int) ∧ gs.length ≤ la + 1 ∧ la + 1 - gs.length ≤ mm ∧ wr.ownsRow w.heap.size 67 1 v gs.length (gs.map (rowV (lb + 1))) ∧ Hid (Lays wr w.heap.size lb gs) ∧ Hid (Below w.heap.size w wr))
  case atStart => exact ⟨[], rfl, by simp, by simp, HO0.out, Lib.hid (Lays.nil _ _ _), HB0⟩
  case round =>
    obtain ⟨gs, rfl, hgl, hmm, hown, HLY, HBW⟩ := hrel
    have HOW := Lib.hid hown
    have hso := HBW.out.size
    clear hown
    obtain ⟨k, hk⟩ : ∃ k, k = gs.length := ⟨_, rfl⟩
    have HK := Lib.hid hk
    rw [← hk] at hgl hmm HOW ⊢
    clear hk
    by_cases hlt : k ≤ la
    · have hmk := HMK.out
      obtain ⟨Wm, hWm⟩ : ∃ W : World, W = wr.alloc (.cells (madeCells #[.int .i64 0] (lb + 1)) 3) := ⟨_, rfl⟩
      have HRM : Hid (Row Wm wr.heap.size (List.replicate (lb + 1) 0)) := Lib.hid (by unfold Row; rw [hWm, made_row]; exact heap_alloc_new wr _)
      have HBM : Hid (Below wr.heap.size wr Wm) := Lib.hid (by rw [hWm]; exact alloc1 _ _)
      have HSM : Hid (Wm.heap.size = wr.heap.size + 1) := Lib.hid (by rw [hWm]; simp)
      have HOM := Lib.hid (own_below HOW.out HBM.out)
      rw [hWm] at HOM
      go_wp2_with (at_builtin; refine wpList_append_own _ rfl _ _ 63 rfl w.heap.size 67 i0 _ 1 24 Try.underlying63 hi0 hz0 hz1 hz2 rfl (by decide) _ k (gs.map (rowV (lb + 1))) rfl (HOM.out.alloc _) ⟨_, 0, none⟩ 1 1 [.slice (some ⟨wr.heap.size, 0, none⟩) (lb + 1) (lb + 1)] rfl rfl (World.news_of_block (alloc_at _ (by simp))) (by intro u hu; simp at hu; rcases hu with rfl; rfl) (by simp only [maxLen]; omega) (by omega) (by simp; omega) ?_; intro v' w4 hown4 hg4 _; have HO4 := Lib.hid hown4; have HG4 := Lib.hid hg4; clear hown4 hg4)
      rw [← hWm] at HG4 HOM
      clear hmk hWm
      have HLY4 : Hid (Lays w4 w.heap.size lb (gs ++ [wr.heap.size])) := Lib.hid ((((HLY.out.kept HBM.out).snoc hso (fun i hi => (HLY.out.1 i hi).2.1) HRM.out).kept (alloc1 _ _)).grown (HOM.out.alloc _) HG4.out)
      have HB4 : Hid (Below w.heap.size w w4) := Lib.hid (((HBW.out.trans (HBM.out.mono hso)).alloc (by have := HSM.out; omega) _).grown HG4.out (by have := HSM.out; simp; omega) (fun j ej => own_base HOM.out j ej))
      go_roundg (la + 1 - (k + 1))
      case measure => omega
      case rel =>
        refine ⟨gs ++ [wr.heap.size], by rw [List.length_append, ← HK.out]; go_num, by rw [List.length_append, ← HK.out]; simpa using hlt, by rw [List.length_append, ← HK.out]; exact Nat.le_refl _, ?_, HLY4, HB4⟩
        rw [List.length_append, ← HK.out, rowV_map]
        exact HO4.out
    · have hke : gs.length = la + 1 := by have := HK.out; omega
      obtain ⟨VA, vcap, rfl, -, -⟩ := own_form HOW.out
      have ho := HOW.out
      rw [HK.out] at ho
      obtain ⟨G, hVG, hGb, htb⟩ := HLY.out.tb hke ho
      subst hVG
      have HTB0 := Lib.hid htb
      have hk1 : k = la + 1 := by omega
      have HGS := Lib.hid hke
      clear ho htb HLY HOW hke hlt hmm
      have HK1 := Lib.hid hk1
      obtain ⟨L, hL⟩ : ∃ L, L = lb + 1 := ⟨_, rfl⟩
      have HL1 := Lib.hid hL
      have hkg : (la : Int) < (k : Int) := by omega
      have hkg2 : decide (k ≤ la) = false := decide_eq_false (by omega)
      clear hk1 hL
      obtain ⟨w1, hw1⟩ : ∃ W : World, W = wr := ⟨_, rfl⟩
      subst hw1
      go_wp2_with fail
      go_loopg [7] (la + 1) (fun mm s7 wr => ∃ (z : Int) (R : Nat → List Int), s7 = .int .i64 z ∧ -1 ≤ z ∧ z ≤ la ∧ (z + 1).toNat ≤ mm ∧ Hid (Tb wr w.heap.size G la lb gs R) ∧ Hid (Done a b R z lb) ∧ Hid (Below w.heap.size w wr))
      case atStart => exact ⟨_, _, rfl, by omega, by omega, by omega, HTB0, Lib.hid (fun i j hi hj hc => by have := HLN.out; omega), HBW⟩
      case round =>
        obtain ⟨z, R0, rfl, hz1', hz2', hmm, HTB1, HDN1, HBT1⟩ := hrel
        by_cases hzp : 0 ≤ z
        · obtain ⟨m, rfl⟩ : ∃ m : Nat, z = (m : Int) := ⟨z.toNat, by omega⟩
          have hml : m ≤ la := by omega
          obtain ⟨w2, hw2⟩ : ∃ W : World, W = wr := ⟨_, rfl⟩
          subst hw2
          go_wp2_with fail
          go_loopg [8] (lb + 1) (fun mm s8 wr => ∃ (y : Int) (R : Nat → List Int), s8 = .int .i64 y ∧ -1 ≤ y ∧ y ≤ lb ∧ (y + 1).toNat ≤ mm ∧ Hid (Tb wr w.heap.size G la lb gs R) ∧ Hid (Done a b R (m : Int) y) ∧ Hid (Below w.heap.size w wr))
          case atStart => exact ⟨_, _, rfl, by omega, by omega, by omega, HTB1, HDN1, HBT1⟩
          case round =>
            obtain ⟨y, R, rfl, hy1, hy2, hmm2, HTB, HDN, HBT⟩ := hrel
            by_cases hyp : 0 ≤ y
            · obtain ⟨n, rfl⟩ : ∃ n : Nat, y = (n : Int) := ⟨y.toNat, by omega⟩
              have hnl : n ≤ lb := by omega
              have hgm : m < gs.length := by rw [HGS.out]; omega
              obtain ⟨r0, hgb, hrw, hrl⟩ := HTB.out.row m hgm
              obtain ⟨g, hg⟩ : ∃ g, g = gs[m] := ⟨_, rfl⟩
              have HGE := Lib.hid hg
              rw [← hg] at r0 hgb hrw
              have HGB := Lib.hid hgb
              have cT := hrw.cellD (j := n) (by rw [hrl]; omega)
              have fT := hrw.free n
              simp only [rowV] at r0
              rw [← HL1.out] at r0
              have k0 : (0 : Int) ≤ (m : Int) := by omega
              have k1 : (m : Int) < (k : Int) := by have := HK1.out; omega
              have k2 : (0 : Int) ≤ (n : Int) := by omega
              have k3 : (n : Int) < (L : Int) := by have := HL1.out; omega
              generalize (R m).getD n 0 = vT at cT
              have HCL : Hid (∀ (W : World) (z : Int), z = ((D a b m n : Nat) : Int) → Tb W w.heap.size G la lb gs R → Below w.heap.size w W → ∃ R', Tb (W.setCell ⟨g, n, none⟩ (.int .i64 z)) w.heap.size G la lb gs R' ∧ Done a b R' (m : Int) ((n : Int) - 1) ∧ Below w.heap.size w (W.setCell ⟨g, n, none⟩ (.int .i64 z))) := Lib.hid (fun W z hz h1 h2 => ⟨_, by rw [HGE.out]; exact h1.put hgm n z, HDN.out.put (by rw [hrl]; omega) hz, set_grown _ _ _ _ h2 HGB.out⟩)
              by_cases hma : m = la
              · have HZA : Hid ((lb : Int) - (n : Int) = ((D a b m n : Nat) : Int)) := Lib.hid (by rw [hma, D_endA b (by have := HLN.out; omega)]; have := HLN.out; omega)
                clear hg hgb hrw hrl
                subst hma
                go_wp2_with fail
                obtain ⟨R', t1, t2, t3⟩ := HCL.out wr _ HZA.out HTB.out HBT.out
                go_roundg n
                case measure => omega
                case rel => exact ⟨_, R', rfl, by omega, by omega, by omega, Lib.hid t1, Lib.hid t2, Lib.hid t3⟩
              · have hb1 : ((m : Int) == (la : Int)) = false := beq_eq_false_iff_ne.2 (by omega)
                have hb2 : (m == la) = false := beq_eq_false_iff_ne.2 hma
                by_cases hnb : n = lb
                · have HZB : Hid ((la : Int) - (m : Int) = ((D a b m n : Nat) : Int)) := Lib.hid (by rw [hnb, D_endB a (by have := HLN.out; omega)]; have := HLN.out; omega)
                  clear hg hgb hrw hrl
                  subst hnb
                  go_wp2_with fail
                  obtain ⟨R', t1, t2, t3⟩ := HCL.out wr _ HZB.out HTB.out HBT.out
                  go_roundg n
                  case measure => omega
                  case rel => exact ⟨_, R', rfl, by omega, by omega, by omega, Lib.hid t1, Lib.hid t2, Lib.hid t3⟩
                · have hb3 : ((n : Int) == (lb : Int)) = false := beq_eq_false_iff_ne.2 (by omega)
                  have hb4 : (n == lb) = false := beq_eq_false_iff_ne.2 hnb
                  have hgm1 : m + 1 < gs.length := by rw [HGS.out]; omega
                  obtain ⟨s0, -, hrw1, hrl1⟩ := HTB.out.row (m + 1) hgm1
                  generalize gs[m + 1] = g1 at s0 hrw1
                  simp only [rowV] at s0
                  rw [← HL1.out] at s0
                  have c1 := hrw1.cellD (j := n) (by rw [hrl1]; omega)
                  have c2 := hrw1.cellD (j := n + 1) (by rw [hrl1]; omega)
                  have c3 := hrw.cellD (j := n + 1) (by rw [hrl]; omega)
                  have HV1 := Lib.hid (HDN.out (m + 1) n (by have := HLN.out; omega) (by have := HLN.out; omega) (.inl (by omega)))
                  have HV2 := Lib.hid (HDN.out (m + 1) (n + 1) (by have := HLN.out; omega) (by have := HLN.out; omega) (.inl (by omega)))
                  have HV3 := Lib.hid (HDN.out m (n + 1) (by have := HLN.out; omega) (by have := HLN.out; omega) (.inr ⟨rfl, by omega⟩))
                  generalize (R (m + 1)).getD n 0 = v1 at c1 HV1
                  generalize (R (m + 1)).getD (n + 1) 0 = v2 at c2 HV2
                  generalize (R m).getD (n + 1) 0 = v3 at c3 HV3
                  have hax : m < a.length := by have := HLN.out; omega
                  have hby : n < b.length := by have := HLN.out; omega
                  have l1 : 0 ≤ v1 ∧ v1 ≤ 800 := by have := HV1.out; have := (D_low a b (i := m + 1) (j := n) (by omega) (by omega)).2.2.1; have := HLN.out; omega
                  have l2 : 0 ≤ v2 ∧ v2 ≤ 800 := by have := HV2.out; have := (D_low a b (i := m + 1) (j := n + 1) (by omega) (by omega)).2.2.1; have := HLN.out; omega
                  have l3 : 0 ≤ v3 ∧ v3 ≤ 800 := by have := HV3.out; have := (D_low a b (i := m) (j := n + 1) (by omega) (by omega)).2.2.1; have := HLN.out; omega
                  have HEQ := Lib.hid (fun h : a[m] = b[n] => D_eq hax hby h)
                  have HNE := Lib.hid (fun h : ¬ a[m] = b[n] => D_ne hax hby h)
                  obtain ⟨bk, off, hAe, hbk, hI⟩ := (HA.out.below HBT.out) (by omega)
                  obtain ⟨bk', off', hBe, hbk', hI'⟩ := (HB.out.below HBT.out) (by omega)
                  subst hAe hBe
                  have d0 := hI m hax
                  have e0 := hI' n hby
                  generalize a[m] = p at d0 HEQ HNE
                  generalize b[n] = q at e0 HEQ HNE
                  have k4 : (m : Int) < (la : Int) := by omega
                  have k5 : (n : Int) < (lb : Int) := by omega
                  obtain ⟨m1, hm1⟩ : ∃ i, i = m + 1 := ⟨_, rfl⟩
                  obtain ⟨n1, hn1⟩ : ∃ i, i = n + 1 := ⟨_, rfl⟩
                  rw [← hm1] at s0
                  rw [← hn1] at c2 c3
                  have k6 : (0 : Int) ≤ (m1 : Int) := by omega
                  have k7 : (m1 : Int) < (k : Int) := by have := HK1.out; omega
                  have k8 : (0 : Int) ≤ (n1 : Int) := by omega
                  have k9 : (n1 : Int) < (L : Int) := by have := HL1.out; omega
                  have wm : IntKind.i64.wrap ((m : Int) + 1) = (m1 : Int) := by rw [IntKind.wrap_i64]; omega
                  have wn : IntKind.i64.wrap ((n : Int) + 1) = (n1 : Int) := by rw [IntKind.wrap_i64]; omega
                  obtain ⟨l11, l12⟩ := l1
                  obtain ⟨l21, l22⟩ := l2
                  obtain ⟨l31, l32⟩ := l3
                  have HF : Hid (∀ W : World, (∃ q, W = wr.drewN q) → W.cell? ⟨G, m, none⟩ = some (.slice (some ⟨g, 0, none⟩) L L) ∧ W.cell? ⟨G, m1, none⟩ = some (.slice (some ⟨g1, 0, none⟩) L L) ∧ W.cell? ⟨g, n, none⟩ = some (.int .i64 vT) ∧ W.cell? ⟨g1, n, none⟩ = some (.int .i64 v1) ∧ W.cell? ⟨g1, n1, none⟩ = some (.int .i64 v2) ∧ W.cell? ⟨g, n1, none⟩ = some (.int .i64 v3) ∧ W.frozen? ⟨g, n, none⟩ = false) := Lib.hid (fun W ⟨q, e⟩ => by subst e; exact ⟨r0, s0, cT, c1, c2, c3, fT⟩)
                  clear hI hI' hg hgb hrw hrl hrw1 hrl1 hax hby r0 s0 cT c1 c2 c3 fT hm1 hn1
                  by_cases hpq : p = q
                  · have HE2 := Lib.hid (HEQ.out hpq)
                    subst hpq
                    have hse : (p == p) = true := by simp
                    clear HEQ HNE
                    go_wp2_with fail
                    go_quiet (fail)
                    obtain ⟨wq, hwq⟩ : ∃ W : World, W = wr.drewN nq := ⟨_, rfl⟩
                    rw [← hwq]
                    obtain ⟨r0, s0, cT, c1, c2, c3, fT⟩ := HF.out wq ⟨_, hwq⟩
                    have HWQ := Lib.hid hwq
                    have HTQ : Hid (Tb wq w.heap.size G la lb gs R) := Lib.hid (by rw [hwq]; exact HTB.out.draw _)
                    have HBQ : Hid (Below w.heap.size w wq) := Lib.hid (by rw [hwq]; exact below_drewN HBT.out _)
                    clear hwq
                    go_wp2_with fail
                    go_still_tail 15, (by kernel_rfl)
                    change wpList _ _ _ _ _ (World.drew _)
                    clear wm wn
                    go_wp2_with fail
                    go_roundg n
                    case measure => omega
                    case rel => exact ⟨(n : Int) - 1, _, rfl, by omega, by omega, by omega, Lib.hid (by rw [HGE.out]; first | exact HTQ2.out.draw1.put hgm n _ | exact HTQ.out.draw1.put hgm n _ | exact HTB.out.put hgm n _ | exact (HTB.out.draw _).put hgm n _ | exact (HTB.out.draw _).draw1.put hgm n _ | exact HTB.out.draw1.put hgm n _), Lib.hid (HDN.out.put (by rw [(HTB.out.row m hgm).2.2.2]; omega) (by rw [HE2.out]; exact HV2.out)), Lib.hid (by first | exact set_grown _ _ _ _ HBQ2.out.drew HGB.out | exact set_grown _ _ _ _ HBQ.out.drew HGB.out | exact set_grown _ _ _ _ HBT.out HGB.out | exact set_grown _ _ _ _ (below_drewN HBT.out _) HGB.out | exact set_grown _ _ _ _ (below_drewN HBT.out _).drew HGB.out | exact set_grown _ _ _ _ HBT.out.drew HGB.out)⟩
                  · have HE2 := Lib.hid (HNE.out hpq)
                    have hse : (p == q) = false := beq_eq_false_iff_ne.2 hpq
                    have x1 : IntKind.i64.wrap (v1 + 1) = v1 + 1 := by rw [IntKind.wrap_i64]; omega
                    have x3 : IntKind.i64.wrap (v3 + 1) = v3 + 1 := by rw [IntKind.wrap_i64]; omega
                    clear HEQ HNE hpq
                    by_cases hlt : v1 < v3
                    · go_wp2_with fail
                      go_quiet (fail)
                      obtain ⟨wq, hwq⟩ : ∃ W : World, W = wr.drewN nq := ⟨_, rfl⟩
                      rw [← hwq]
                      obtain ⟨r0, s0, cT, c1, c2, c3, fT⟩ := HF.out wq ⟨_, hwq⟩
                      have HWQ := Lib.hid hwq
                      have HTQ : Hid (Tb wq w.heap.size G la lb gs R) := Lib.hid (by rw [hwq]; exact HTB.out.draw _)
                      have HBQ : Hid (Below w.heap.size w wq) := Lib.hid (by rw [hwq]; exact below_drewN HBT.out _)
                      clear hwq
                      go_wp2_with fail
                      go_quiet (fail)
                      clear r0 s0 cT c1 c2 c3 fT
                      obtain ⟨wq2, hwq2⟩ : ∃ W : World, W = wq.drewN nq := ⟨_, rfl⟩
                      rw [← hwq2]
                      obtain ⟨r0, s0, cT, c1, c2, c3, fT⟩ := HF.out wq2 ⟨_, by rw [hwq2, HWQ.out, drewN_add]⟩
                      have HTQ2 : Hid (Tb wq2 w.heap.size G la lb gs R) := Lib.hid (by rw [hwq2]; exact HTQ.out.draw _)
                      have HBQ2 : Hid (Below w.heap.size w wq2) := Lib.hid (by rw [hwq2]; exact below_drewN HBQ.out _)
                      clear hwq2
                      go_wp2_with fail
                      go_still_tail 15, (by kernel_rfl)
                      change wpList _ _ _ _ _ (World.drew _)
                      clear wm wn x1 x3
                      go_wp2_with fail
                      go_roundg n
                      case measure => omega
                      case rel => exact ⟨(n : Int) - 1, _, rfl, by omega, by omega, by omega, Lib.hid (by rw [HGE.out]; first | exact HTQ2.out.draw1.put hgm n _ | exact HTQ.out.draw1.put hgm n _ | exact HTB.out.put hgm n _ | exact (HTB.out.draw _).put hgm n _ | exact (HTB.out.draw _).draw1.put hgm n _ | exact HTB.out.draw1.put hgm n _), Lib.hid (HDN.out.put (by rw [(HTB.out.row m hgm).2.2.2]; omega) (by have := HE2.out; have := HV1.out; have := HV3.out; omega)), Lib.hid (by first | exact set_grown _ _ _ _ HBQ2.out.drew HGB.out | exact set_grown _ _ _ _ HBQ.out.drew HGB.out | exact set_grown _ _ _ _ HBT.out HGB.out | exact set_grown _ _ _ _ (below_drewN HBT.out _) HGB.out | exact set_grown _ _ _ _ (below_drewN HBT.out _).drew HGB.out | exact set_grown _ _ _ _ HBT.out.drew HGB.out)⟩
                    · have hld : decide (v1 < v3) = false := decide_eq_false hlt
                      go_wp2_with fail
                      go_quiet (fail)
                      obtain ⟨wq, hwq⟩ : ∃ W : World, W = wr.drewN nq := ⟨_, rfl⟩
                      rw [← hwq]
                      obtain ⟨r0, s0, cT, c1, c2, c3, fT⟩ := HF.out wq ⟨_, hwq⟩
                      have HWQ := Lib.hid hwq
                      have HTQ : Hid (Tb wq w.heap.size G la lb gs R) := Lib.hid (by rw [hwq]; exact HTB.out.draw _)
                      have HBQ : Hid (Below w.heap.size w wq) := Lib.hid (by rw [hwq]; exact below_drewN HBT.out _)
                      clear hwq
                      go_wp2_with fail
                      go_quiet (fail)
                      clear r0 s0 cT c1 c2 c3 fT
                      obtain ⟨wq2, hwq2⟩ : ∃ W : World, W = wq.drewN nq := ⟨_, rfl⟩
                      rw [← hwq2]
                      obtain ⟨r0, s0, cT, c1, c2, c3, fT⟩ := HF.out wq2 ⟨_, by rw [hwq2, HWQ.out, drewN_add]⟩
                      have HTQ2 : Hid (Tb wq2 w.heap.size G la lb gs R) := Lib.hid (by rw [hwq2]; exact HTQ.out.draw _)
                      have HBQ2 : Hid (Below w.heap.size w wq2) := Lib.hid (by rw [hwq2]; exact below_drewN HBQ.out _)
                      clear hwq2
                      go_wp2_with fail
                      go_still_tail 15, (by kernel_rfl)
                      change wpList _ _ _ _ _ (World.drew _)
                      clear wm wn x1 x3
                      go_wp2_with fail
                      go_roundg n
                      case measure => omega
                      case rel => exact ⟨(n : Int) - 1, _, rfl, by omega, by omega, by omega, Lib.hid (by rw [HGE.out]; first | exact HTQ2.out.draw1.put hgm n _ | exact HTQ.out.draw1.put hgm n _ | exact HTB.out.put hgm n _ | exact (HTB.out.draw _).put hgm n _ | exact (HTB.out.draw _).draw1.put hgm n _ | exact HTB.out.draw1.put hgm n _), Lib.hid (HDN.out.put (by rw [(HTB.out.row m hgm).2.2.2]; omega) (by have := HE2.out; have := HV1.out; have := HV3.out; omega)), Lib.hid (by first | exact set_grown _ _ _ _ HBQ2.out.drew HGB.out | exact set_grown _ _ _ _ HBQ.out.drew HGB.out | exact set_grown _ _ _ _ HBT.out HGB.out | exact set_grown _ _ _ _ (below_drewN HBT.out _) HGB.out | exact set_grown _ _ _ _ (below_drewN HBT.out _).drew HGB.out | exact set_grown _ _ _ _ HBT.out.drew HGB.out)⟩
            · have hye : y = -1 := by omega
              subst hye
              go_wp2_with fail
              go_roundg m
              case measure => omega
              case rel => exact ⟨(m : Int) - 1, R, rfl, by omega, by omega, by omega, HTB, Lib.hid (by have := HDN.out.line (by omega); rwa [← HLN.out.2] at this), HBT⟩
        · have hze : z = -1 := by omega
          subst hze
          go_wp2_with fail
          go_ret
          refine ⟨G, vcap, gs, R0, ret_of (by rw [← HLN.out.1, ← HK1.out]; rfl), hGb, by rw [← HLN.out.1, ← HLN.out.2]; exact HTB1.out, fun i j hi hj => HDN1.out i j hi hj (.inl (by omega)), HBT1.out⟩
end Go.Proofs.Ytkflhcfopejigaa.M

namespace Go.Proofs.Ytkflhcfopejigaa.M
set_option linter.unusedVariables false
set_option linter.unusedSimpArgs false
open Go.RowKit
open T
open V (IntsIn numCells numCells_snoc ints_own drawn_below)
open I (alloc1 own_at own_below)

theorem Tb.kept {w w' : World} {base G la lb : Nat} {gs : List Nat} {R : Nat → List Int} (h : Tb w base G la lb gs R) (hb : Below w.heap.size w w') : Tb w' base G la lb gs R := by
  obtain ⟨cs, hc⟩ := h.head
  have hG := (Array.getElem?_eq_some_iff.1 hc).1
  refine ⟨h.len, ⟨cs, (hb.block G hG).trans hc⟩, fun i hi => ?_, h.apart⟩
  obtain ⟨h1, h2, h3, h4⟩ := h.row i hi
  exact ⟨(hb.cell (p := ⟨G, i, none⟩) hG).trans h1, h2, h3.kept hb, h4⟩
theorem Tb.keptT {w w' : World} {base G la lb n0 : Nat} {gs : List Nat} {R : Nat → List Int} (h : Tb w base G la lb gs R) (hb : KpT n0 w w') : Tb w' base G la lb gs R := by
  obtain ⟨cs, hc⟩ := h.head
  have e := hb.2 G cs _ hc (.inr rfl)
  refine ⟨h.len, ⟨cs, e.trans hc⟩, fun i hi => ?_, h.apart⟩
  obtain ⟨h1, h2, h3, h4⟩ := h.row i hi
  exact ⟨(World.cell?_of_block (a := ⟨G, i, none⟩) e).trans h1, h2, (hb.2 _ _ _ h3 (.inl rfl)).trans h3, h4⟩
/-- Behind an append to a row of other elements. -/
theorem kpt_app {W w4 : World} {base size n : Nat} {v : Value} {e : TypeId} {xs : List Value} {o : Obj} (hown : W.ownsRow base e size v n xs) (he : e ≠ 3 ∧ e ≠ 67) (hbs : base ≤ W.heap.size) (hg : (W.alloc o).grownBy w4 v.ownBlock) : KpT base W w4 := by
  refine ⟨((alloc1 W o).mono hbs).grown hg (by simp; omega) (fun k ek => own_base hown k ek), fun k cs t hk ht => ?_⟩
  have hkl := lt_of_block hk
  rw [hg.block k (by simp; omega) (fun ek => ?_)]
  · exact (alloc1 W o).block k hkl
  · rcases hown.2 with ⟨rfl, _⟩ | ⟨g, cap, cur, rfl, _, hh, _⟩
    · simp [Value.ownBlock] at ek
    · simp only [Value.ownBlock, Option.some.injEq] at ek
      subst ek
      rw [hk] at hh; injection hh with hh; injection hh with _ hh
      rcases ht with rfl | rfl
      · exact he.1 hh.symm
      · exact he.2 hh.symm
theorem Tb.at {w : World} {base G la lb : Nat} {gs : List Nat} {R : Nat → List Int} (h : Tb w base G la lb gs R) {i j : Nat} (hi : i ≤ la) (hj : j ≤ lb) : ∃ g, w.cell? ⟨G, i, none⟩ = some (.slice (some ⟨g, 0, none⟩) (lb + 1) (lb + 1)) ∧ w.cell? ⟨g, j, none⟩ = some (.int .i64 ((R i).getD j 0)) := by
  have hl : i < gs.length := by rw [h.len]; omega
  obtain ⟨h1, h2, h3, h4⟩ := h.row i hl
  exact ⟨gs[i], h1, h3.cellD (by rw [h4]; omega)⟩
theorem way_keep {a b : List Int} {i j : Nat} {s X : List Int} (h : X = s ++ Wy a b i j) (hk : kept a b i j = true) : X = (s ++ [1]) ++ Wy a b (i + 1) (j + 1) := by rw [h, (Wy_kept hk).1]; simp
theorem way_out {a b : List Int} {i j : Nat} {s X : List Int} (h : X = s ++ Wy a b i j) (hk : kept a b i j = false) (ho : outs a b i j = true) : X = (s ++ [2]) ++ Wy a b (i + 1) j := by rw [h, (Wy_out hk ho).1]; simp
theorem way_in {a b : List Int} {i j : Nat} {s X : List Int} (h : X = s ++ Wy a b i j) (hk : kept a b i j = false) (ho : outs a b i j = false) (hj : j < b.length) : X = (s ++ [3]) ++ Wy a b i (j + 1) := by rw [h, (Wy_in hk ho hj).1]; simp

set_option maxRecDepth 100000 in
set_option maxHeartbeats 8000000 in
theorem rsteps_any (A B : Option Addr) (a b : List Int) (c c' : Nat) (w : World) (hA : IntsIn w A a) (hB : IntsIn w B b) (ha : a.length ≤ 400) (hb : b.length ≤ 400) :
    Calls Try.prog 50 #[.slice A a.length c, .slice B b.length c'] w (StEnd w (way a b)) := by
  obtain ⟨i0, hi0, hz0, hz1, hz2⟩ := info_parts infoStep
  have HA := Lib.hid hA
  have HB := Lib.hid hB
  clear hA hB
  have HTA : Hid (∀ W : World, Below w.heap.size w W → Calls Try.prog 58 #[.slice A a.length c, .slice B b.length c'] W (TabEnd W a b)) := Lib.hid (fun W h => table_any A B a b c c' W (HA.out.below h) (HB.out.below h) ha hb)
  obtain ⟨la, hla⟩ : ∃ n, n = a.length := ⟨_, rfl⟩
  obtain ⟨lb, hlb⟩ : ∃ n, n = b.length := ⟨_, rfl⟩
  rw [← hla] at ha HTA ⊢
  rw [← hlb] at hb HTA ⊢
  have HLN := Lib.hid (And.intro hla hlb)
  clear hla hlb
  have g1 : decide ((400 : Int) < (la : Int)) = false := decide_eq_false (by omega)
  have g2 : decide ((400 : Int) < (lb : Int)) = false := decide_eq_false (by omega)
  have g3 : decide (400 < la) = false := decide_eq_false (by omega)
  have g4 : decide (400 < lb) = false := decide_eq_false (by omega)
  go_enter Try.func50, Try.ntmps50
  go_wp2_with fail
  with_reducible refine (HTA.out _ (alloc1 _ _)).mono ?_
  rintro e w1 ⟨G, cap, gs, R, rfl, -, htb, hval, hb1⟩
  rw [← HLN.out.1, ← HLN.out.2] at htb
  rw [← HLN.out.1]
  obtain ⟨M, hM⟩ : ∃ n : Nat, n = la + 1 := ⟨_, rfl⟩
  rw [← hM]
  have HMM := Lib.hid hM
  have hMl : la < M := by omega
  clear hM
  have HTB := Lib.hid htb
  have HV : Hid (∀ i j : Nat, i ≤ la → j ≤ lb → (R i).getD j 0 = ((D a b i j : Nat) : Int)) := Lib.hid (fun i j hi hj => hval i j (by rw [← HLN.out.1]; exact hi) (by rw [← HLN.out.2]; exact hj))
  have HB1 : Hid (Below w.heap.size w w1) := Lib.hid ((alloc1 _ _).trans (hb1.mono (by simp)))
  have HO0 : Hid (w1.ownsRow w.heap.size 87 1 (.slice (some ⟨w.heap.size, 0, none⟩) 0 0) 0 []) := Lib.hid (own_below (World.ownsRow_lit (base := w.heap.size) (e := 87) (size := 1) w #[] 0 (Nat.le_refl _) (by decide) rfl) hb1)
  go_wp2_with fail
  go_loopg [5, 7, 8] (la + lb) (fun mm o x7 x8 wr => ∃ (i j : Nat) (s : List Int), x7 = .int .i64 (i : Int) ∧ x8 = .int .i64 (j : Int) ∧ i ≤ la ∧ j ≤ lb ∧ (la - i) + (lb - j) ≤ mm ∧ Hid (way a b = s ++ Wy a b i j) ∧ s.length ≤ i + j ∧ wr.ownsRow w.heap.size 87 1 o s.length (numCells s) ∧ Hid (Tb wr w.heap.size G la lb gs R) ∧ Hid (Below w.heap.size w wr))
  case atStart => exact ⟨0, 0, [], rfl, rfl, Nat.zero_le _, Nat.zero_le _, by omega, Lib.hid rfl, Nat.le_refl _, HO0.out, Lib.hid (by have := HTB.out; exact ⟨this.len, this.head, fun i hi => ⟨(this.row i hi).1, by have := (this.row i hi).2.1; simp at this; omega, (this.row i hi).2.2⟩, this.apart⟩), HB1⟩
  case round =>
    obtain ⟨i, j, s, rfl, rfl, hi, hj, hmm, HW, hsl, hown, HT2, HBW⟩ := hrel
    obtain ⟨o, ho⟩ : ∃ o, o = u5 := ⟨_, rfl⟩
    rw [← ho] at hown ⊢
    clear ho
    have HOW := Lib.hid hown
    clear hown
    by_cases hg : i < la ∨ j < lb
    · have HG := Lib.hid hg
      clear hg
      by_cases hk : kept a b i j = true
      · obtain ⟨hia', hjb', hx⟩ := kept_yes hk
        have HK := Lib.hid hk
        have hia : i < la := by have := HLN.out; omega
        have hjb : j < lb := by have := HLN.out; omega
        obtain ⟨bk, off, hAe, hbk, hI⟩ := (HA.out.below HBW.out) (by omega)
        obtain ⟨bk', off', hBe, hbk', hI'⟩ := (HB.out.below HBW.out) (by omega)
        subst hAe hBe
        have c0 := hI i hia'
        have d0 := hI' j hjb'
        rw [hx] at c0
        generalize b[j] = y at c0 d0
        clear hk hx hI hI' hia' hjb'
        have k0 : (0 : Int) ≤ (i : Int) := by omega
        have k1 : (i : Int) < (la : Int) := by omega
        have k2 : (0 : Int) ≤ (j : Int) := by omega
        have k3 : (j : Int) < (lb : Int) := by omega
        go_wp2_with fail
        go_quiet (fail)
        obtain ⟨wq, hwq⟩ : ∃ W : World, W = wr.drewN nq := ⟨_, rfl⟩
        rw [← hwq]
        have HTQ : Hid (Tb wq w.heap.size G la lb gs R) := Lib.hid (by rw [hwq]; exact HT2.out.draw _)
        have HBQ : Hid (Below w.heap.size w wq) := Lib.hid (by rw [hwq]; exact below_drewN HBW.out _)
        have HOWQ : Hid (wq.ownsRow w.heap.size 87 1 o s.length (numCells s)) := Lib.hid (by rw [hwq]; exact own_below HOW.out (drawn_below _ _))
        clear hwq
        go_wp2_with (at_builtin; refine wpList_append_own _ rfl _ _ 85 rfl w.heap.size 87 i0 _ 1 8 Try.underlying85 hi0 hz0 hz1 hz2 rfl (by decide) _ s.length _ rfl (HOWQ.out.alloc _) ⟨_, 0, none⟩ 1 1 [.int .i64 1] rfl rfl (World.news_of_block (alloc_at _ rfl)) (by intro u hu; simp at hu; rcases hu with rfl; rfl) (by simp only [maxLen]; omega) (by omega) (by have := HBQ.out.size; simp; omega) ?_; intro v' w4 hown4 hg4 _; have HO4 := Lib.hid hown4; have HK4 := Lib.hid (kpt_app HOWQ.out ⟨by decide, by decide⟩ HBQ.out.size hg4); clear hown4 hg4)
        go_roundg ((la - (i + 1)) + (lb - (j + 1)))
        case measure => omega
        case rel => exact ⟨i + 1, j + 1, s ++ [1], by go_num, by go_num, by omega, by omega, Nat.le_refl _, Lib.hid (way_keep HW.out HK.out), by simp; omega, by rw [List.length_append, numCells_snoc]; exact HO4.out, Lib.hid (HTQ.out.keptT HK4.out), Lib.hid (HBQ.out.trans HK4.out.1)⟩
      · have hk : kept a b i j = false := by simpa using hk
        have HK := Lib.hid hk
        have k0 : (0 : Int) ≤ (i : Int) := by omega
        have k2 : (0 : Int) ≤ (j : Int) := by omega
        by_cases hia : i < la
        · obtain ⟨g0, r0, s0⟩ := HT2.out.at (i := i) (j := j) hi hj
          obtain ⟨g1, r1, s1⟩ := HT2.out.at (i := i + 1) (j := j) (by omega) hj
          rw [HV.out i j hi hj] at s0
          rw [HV.out (i + 1) j (by omega) hj] at s1
          obtain ⟨v0, hv0⟩ : ∃ v : Int, v = ((D a b i j : Nat) : Int) := ⟨_, rfl⟩
          obtain ⟨v1, hv1⟩ : ∃ v : Int, v = ((D a b (i + 1) j : Nat) : Int) := ⟨_, rfl⟩
          obtain ⟨i1, hi1⟩ : ∃ n : Nat, n = i + 1 := ⟨_, rfl⟩
          obtain ⟨L, hL⟩ : ∃ n : Nat, n = lb + 1 := ⟨_, rfl⟩
          rw [← hv0] at s0
          rw [← hv1] at s1
          rw [← hi1] at r1
          rw [← hL] at r0 r1
          have HVV := Lib.hid (And.intro hv0 hv1)
          have l1 : 0 ≤ v1 := by omega
          have l2 : v1 ≤ 800 := by have := (D_low a b (i := i + 1) (j := j) (by have := HLN.out; omega) (by have := HLN.out; omega)).2.2.1; have := HLN.out; omega
          have k1 : (i : Int) < (la : Int) := by omega
          have k4 : (0 : Int) ≤ (i1 : Int) := by omega
          have k5 : (i1 : Int) < (M : Int) := by omega
          have k6 : (i : Int) < (M : Int) := by omega
          have k7 : (j : Int) < (L : Int) := by omega
          have wi : IntKind.i64.wrap ((i : Int) + 1) = (i1 : Int) := by rw [IntKind.wrap_i64]; omega
          have wv : IntKind.i64.wrap (v1 + 1) = v1 + 1 := by rw [IntKind.wrap_i64]; omega
          clear hv0 hv1 hi1 hL
          have hao : i < a.length := by have := HLN.out; omega
          by_cases hjb : j < lb
          · have hjb' : j < b.length := by have := HLN.out; omega
            have hne0 := kept_no hk hao hjb'
            obtain ⟨bk, off, hAe, hbk, hI⟩ := (HA.out.below HBW.out) (by omega)
            obtain ⟨bk', off', hBe, hbk', hI'⟩ := (HB.out.below HBW.out) (by omega)
            subst hAe hBe
            have c0 := hI i hao
            have d0 := hI' j hjb'
            have hne : (a[i] == b[j]) = false := beq_eq_false_iff_ne.2 hne0
            clear hne0
            generalize a[i] = x at c0 hne
            generalize b[j] = y at d0 hne
            clear hk hI hI' hao hjb'
            have k3 : (j : Int) < (lb : Int) := by omega
            by_cases ho : outs a b i j = true
            · have hv : (v1 + 1 == v0) = true := by rw [beq_iff_eq]; have := HVV.out; have := (of_decide_eq_true ho).2; omega
              have HOO := Lib.hid ho
              clear ho
              go_wp2_with fail
              go_quiet (fail)
              obtain ⟨wq, hwq⟩ : ∃ W : World, W = wr.drewN nq := ⟨_, rfl⟩
              rw [← hwq]
              obtain ⟨r0, r1, s0, s1⟩ : wq.cell? ⟨G, i, none⟩ = some (.slice (some ⟨g0, 0, none⟩) L L) ∧ wq.cell? ⟨G, i1, none⟩ = some (.slice (some ⟨g1, 0, none⟩) L L) ∧ wq.cell? ⟨g0, j, none⟩ = some (.int .i64 v0) ∧ wq.cell? ⟨g1, j, none⟩ = some (.int .i64 v1) := by subst hwq; exact ⟨r0, r1, s0, s1⟩
              have HTQ : Hid (Tb wq w.heap.size G la lb gs R) := Lib.hid (by rw [hwq]; exact HT2.out.draw _)
              have HBQ : Hid (Below w.heap.size w wq) := Lib.hid (by rw [hwq]; exact below_drewN HBW.out _)
              have HOWQ : Hid (wq.ownsRow w.heap.size 87 1 o s.length (numCells s)) := Lib.hid (by rw [hwq]; exact own_below HOW.out (drawn_below _ _))
              clear hwq
              go_wp2_with fail
              go_quiet (fail)
              clear r0 r1 s0 s1 wi wv
              obtain ⟨wp, hwp⟩ : ∃ W : World, W = wq.drewN nq := ⟨_, rfl⟩
              rw [← hwp]
              have HTQ : Hid (Tb wp w.heap.size G la lb gs R) := Lib.hid (by rw [hwp]; exact HTQ.out.draw _)
              have HBQ : Hid (Below w.heap.size w wp) := Lib.hid (by rw [hwp]; exact below_drewN HBQ.out _)
              have HOWQ : Hid (wp.ownsRow w.heap.size 87 1 o s.length (numCells s)) := Lib.hid (by rw [hwp]; exact own_below HOWQ.out (drawn_below _ _))
              clear hwp
              go_wp2_with (at_builtin; refine wpList_append_own _ rfl _ _ 85 rfl w.heap.size 87 i0 _ 1 8 Try.underlying85 hi0 hz0 hz1 hz2 rfl (by decide) _ s.length _ rfl (HOWQ.out.alloc _) ⟨_, 0, none⟩ 1 1 [.int .i64 2] rfl rfl (World.news_of_block (alloc_at _ rfl)) (by intro u hu; simp at hu; rcases hu with rfl; rfl) (by simp only [maxLen]; omega) (by omega) (by have := HBQ.out.size; simp; omega) ?_; intro v' w4 hown4 hg4 _; have HO4 := Lib.hid hown4; have HK4 := Lib.hid (kpt_app HOWQ.out ⟨by decide, by decide⟩ HBQ.out.size hg4); clear hown4 hg4)
              go_roundg ((la - (i + 1)) + (lb - j))
              case measure => omega
              case rel => exact ⟨i + 1, j, s ++ [2], by go_num, rfl, by omega, by omega, Nat.le_refl _, Lib.hid (way_out HW.out HK.out HOO.out), by simp; omega, by rw [List.length_append, numCells_snoc]; exact HO4.out, Lib.hid (HTQ.out.keptT HK4.out), Lib.hid (HBQ.out.trans HK4.out.1)⟩
            · have ho : outs a b i j = false := by simpa using ho
              have hv : (v1 + 1 == v0) = false := by
                rw [beq_eq_false_iff_ne]; intro h
                exact of_decide_eq_false ho ⟨by have := HLN.out; omega, by have := HVV.out; omega⟩
              have HOO := Lib.hid ho
              have HJB := Lib.hid (in_ends ho (by have := HLN.out; omega))
              have hjl : j < lb := by have := HJB.out; have := HLN.out; omega
              clear ho
              go_wp2_with fail
              go_quiet (fail)
              obtain ⟨wq, hwq⟩ : ∃ W : World, W = wr.drewN nq := ⟨_, rfl⟩
              rw [← hwq]
              obtain ⟨r0, r1, s0, s1⟩ : wq.cell? ⟨G, i, none⟩ = some (.slice (some ⟨g0, 0, none⟩) L L) ∧ wq.cell? ⟨G, i1, none⟩ = some (.slice (some ⟨g1, 0, none⟩) L L) ∧ wq.cell? ⟨g0, j, none⟩ = some (.int .i64 v0) ∧ wq.cell? ⟨g1, j, none⟩ = some (.int .i64 v1) := by subst hwq; exact ⟨r0, r1, s0, s1⟩
              have HTQ : Hid (Tb wq w.heap.size G la lb gs R) := Lib.hid (by rw [hwq]; exact HT2.out.draw _)
              have HBQ : Hid (Below w.heap.size w wq) := Lib.hid (by rw [hwq]; exact below_drewN HBW.out _)
              have HOWQ : Hid (wq.ownsRow w.heap.size 87 1 o s.length (numCells s)) := Lib.hid (by rw [hwq]; exact own_below HOW.out (drawn_below _ _))
              clear hwq
              go_wp2_with fail
              go_quiet (fail)
              clear r0 r1 s0 s1 wi wv
              obtain ⟨wp, hwp⟩ : ∃ W : World, W = wq.drewN nq := ⟨_, rfl⟩
              rw [← hwp]
              have HTQ : Hid (Tb wp w.heap.size G la lb gs R) := Lib.hid (by rw [hwp]; exact HTQ.out.draw _)
              have HBQ : Hid (Below w.heap.size w wp) := Lib.hid (by rw [hwp]; exact below_drewN HBQ.out _)
              have HOWQ : Hid (wp.ownsRow w.heap.size 87 1 o s.length (numCells s)) := Lib.hid (by rw [hwp]; exact own_below HOWQ.out (drawn_below _ _))
              clear hwp
              go_wp2_with (at_builtin; refine wpList_append_own _ rfl _ _ 85 rfl w.heap.size 87 i0 _ 1 8 Try.underlying85 hi0 hz0 hz1 hz2 rfl (by decide) _ s.length _ rfl (HOWQ.out.alloc _) ⟨_, 0, none⟩ 1 1 [.int .i64 3] rfl rfl (World.news_of_block (alloc_at _ rfl)) (by intro u hu; simp at hu; rcases hu with rfl; rfl) (by simp only [maxLen]; omega) (by omega) (by have := HBQ.out.size; simp; omega) ?_; intro v' w4 hown4 hg4 _; have HO4 := Lib.hid hown4; have HK4 := Lib.hid (kpt_app HOWQ.out ⟨by decide, by decide⟩ HBQ.out.size hg4); clear hown4 hg4)
              go_roundg ((la - i) + (lb - (j + 1)))
              case measure => omega
              case rel => exact ⟨i, j + 1, s ++ [3], rfl, by go_num, by omega, by omega, Nat.le_refl _, Lib.hid (way_in HW.out HK.out HOO.out HJB.out), by simp; omega, by rw [List.length_append, numCells_snoc]; exact HO4.out, Lib.hid (HTQ.out.keptT HK4.out), Lib.hid (HBQ.out.trans HK4.out.1)⟩
          · have hjd : decide (j < lb) = false := decide_eq_false hjb
            have hje : ¬ ((j : Int) < (lb : Int)) := by omega
            clear hk hao
            by_cases ho : outs a b i j = true
            · have hv : (v1 + 1 == v0) = true := by rw [beq_iff_eq]; have := HVV.out; have := (of_decide_eq_true ho).2; omega
              have HOO := Lib.hid ho
              clear ho
              go_wp2_with fail
              go_quiet (fail)
              obtain ⟨wq, hwq⟩ : ∃ W : World, W = wr.drewN nq := ⟨_, rfl⟩
              rw [← hwq]
              obtain ⟨r0, r1, s0, s1⟩ : wq.cell? ⟨G, i, none⟩ = some (.slice (some ⟨g0, 0, none⟩) L L) ∧ wq.cell? ⟨G, i1, none⟩ = some (.slice (some ⟨g1, 0, none⟩) L L) ∧ wq.cell? ⟨g0, j, none⟩ = some (.int .i64 v0) ∧ wq.cell? ⟨g1, j, none⟩ = some (.int .i64 v1) := by subst hwq; exact ⟨r0, r1, s0, s1⟩
              have HTQ : Hid (Tb wq w.heap.size G la lb gs R) := Lib.hid (by rw [hwq]; exact HT2.out.draw _)
              have HBQ : Hid (Below w.heap.size w wq) := Lib.hid (by rw [hwq]; exact below_drewN HBW.out _)
              have HOWQ : Hid (wq.ownsRow w.heap.size 87 1 o s.length (numCells s)) := Lib.hid (by rw [hwq]; exact own_below HOW.out (drawn_below _ _))
              clear hwq
              go_wp2_with fail
              go_quiet (fail)
              clear r0 r1 s0 s1 wi wv
              obtain ⟨wp, hwp⟩ : ∃ W : World, W = wq.drewN nq := ⟨_, rfl⟩
              rw [← hwp]
              have HTQ : Hid (Tb wp w.heap.size G la lb gs R) := Lib.hid (by rw [hwp]; exact HTQ.out.draw _)
              have HBQ : Hid (Below w.heap.size w wp) := Lib.hid (by rw [hwp]; exact below_drewN HBQ.out _)
              have HOWQ : Hid (wp.ownsRow w.heap.size 87 1 o s.length (numCells s)) := Lib.hid (by rw [hwp]; exact own_below HOWQ.out (drawn_below _ _))
              clear hwp
              go_wp2_with (at_builtin; refine wpList_append_own _ rfl _ _ 85 rfl w.heap.size 87 i0 _ 1 8 Try.underlying85 hi0 hz0 hz1 hz2 rfl (by decide) _ s.length _ rfl (HOWQ.out.alloc _) ⟨_, 0, none⟩ 1 1 [.int .i64 2] rfl rfl (World.news_of_block (alloc_at _ rfl)) (by intro u hu; simp at hu; rcases hu with rfl; rfl) (by simp only [maxLen]; omega) (by omega) (by have := HBQ.out.size; simp; omega) ?_; intro v' w4 hown4 hg4 _; have HO4 := Lib.hid hown4; have HK4 := Lib.hid (kpt_app HOWQ.out ⟨by decide, by decide⟩ HBQ.out.size hg4); clear hown4 hg4)
              go_roundg ((la - (i + 1)) + (lb - j))
              case measure => omega
              case rel => exact ⟨i + 1, j, s ++ [2], by go_num, rfl, by omega, by omega, Nat.le_refl _, Lib.hid (way_out HW.out HK.out HOO.out), by simp; omega, by rw [List.length_append, numCells_snoc]; exact HO4.out, Lib.hid (HTQ.out.keptT HK4.out), Lib.hid (HBQ.out.trans HK4.out.1)⟩
            · have ho : outs a b i j = false := by simpa using ho
              have := in_ends ho (by have := HLN.out; omega)
              have := HLN.out
              omega
        · have hjb : j < lb := by have := HG.out; omega
          have hid : decide (i < la) = false := decide_eq_false hia
          have ho : outs a b i j = false := by
            rcases Bool.eq_false_or_eq_true (outs a b i j) with h | h
            · have := (of_decide_eq_true h).1; have := HLN.out; omega
            · exact h
          have HOO := Lib.hid ho
          clear ho hk
          go_wp2_with fail
          go_quiet (fail)
          obtain ⟨wq, hwq⟩ : ∃ W : World, W = wr.drewN nq := ⟨_, rfl⟩
          rw [← hwq]
          have HTQ : Hid (Tb wq w.heap.size G la lb gs R) := Lib.hid (by rw [hwq]; exact HT2.out.draw _)
          have HBQ : Hid (Below w.heap.size w wq) := Lib.hid (by rw [hwq]; exact below_drewN HBW.out _)
          have HOWQ : Hid (wq.ownsRow w.heap.size 87 1 o s.length (numCells s)) := Lib.hid (by rw [hwq]; exact own_below HOW.out (drawn_below _ _))
          clear hwq
          go_wp2_with fail
          go_quiet (fail)
          obtain ⟨wp, hwp⟩ : ∃ W : World, W = wq.drewN nq := ⟨_, rfl⟩
          rw [← hwp]
          have HTQ : Hid (Tb wp w.heap.size G la lb gs R) := Lib.hid (by rw [hwp]; exact HTQ.out.draw _)
          have HBQ : Hid (Below w.heap.size w wp) := Lib.hid (by rw [hwp]; exact below_drewN HBQ.out _)
          have HOWQ : Hid (wp.ownsRow w.heap.size 87 1 o s.length (numCells s)) := Lib.hid (by rw [hwp]; exact own_below HOWQ.out (drawn_below _ _))
          clear hwp
          go_wp2_with (at_builtin; refine wpList_append_own _ rfl _ _ 85 rfl w.heap.size 87 i0 _ 1 8 Try.underlying85 hi0 hz0 hz1 hz2 rfl (by decide) _ s.length _ rfl (HOWQ.out.alloc _) ⟨_, 0, none⟩ 1 1 [.int .i64 3] rfl rfl (World.news_of_block (alloc_at _ rfl)) (by intro u hu; simp at hu; rcases hu with rfl; rfl) (by simp only [maxLen]; omega) (by omega) (by have := HBQ.out.size; simp; omega) ?_; intro v' w4 hown4 hg4 _; have HO4 := Lib.hid hown4; have HK4 := Lib.hid (kpt_app HOWQ.out ⟨by decide, by decide⟩ HBQ.out.size hg4); clear hown4 hg4)
          go_roundg ((la - i) + (lb - (j + 1)))
          case measure => omega
          case rel => exact ⟨i, j + 1, s ++ [3], rfl, by go_num, by omega, by omega, Nat.le_refl _, Lib.hid (way_in HW.out HK.out HOO.out (by have := HLN.out; omega)), by simp; omega, by rw [List.length_append, numCells_snoc]; exact HO4.out, Lib.hid (HTQ.out.keptT HK4.out), Lib.hid (HBQ.out.trans HK4.out.1)⟩
    · have hie : i = la := by omega
      have hje : j = lb := by omega
      have HE : Hid (way a b = s) := Lib.hid (by rw [HW.out, Wy_end (by have := HLN.out; omega) (by have := HLN.out; omega), List.append_nil])
      subst hie hje
      clear hg
      obtain ⟨VA, vcap, rfl, -, -⟩ := own_form HOW.out
      go_wp2_with fail
      go_ret
      rw [HE.out]
      exact ⟨VA, vcap, rfl, HOW.out, HBW.out⟩
end Go.Proofs.Ytkflhcfopejigaa.M

namespace Go.Proofs.Ytkflhcfopejigaa.M
set_option linter.unusedVariables false
set_option linter.unusedSimpArgs false
open Go.RowKit
open T
open V (IntsIn numCells numCells_snoc ints_own drawn_below)
open I (alloc1 own_at own_below)
open N (prCells prCells_snoc prCells_length)

theorem way_mem : ∀ (n : Nat) (a b : List Int), a.length + b.length ≤ n → ∀ t ∈ way a b, t = 1 ∨ t = 2 ∨ t = 3
  | _, [], [], _ => by simp [way]
  | 0, [], y :: b, h => by simp at h
  | 0, x :: a, _, h => by simp at h
  | n + 1, [], y :: b, h => by
    have := way_mem n [] b (by simp at h ⊢; omega)
    rw [way]; intro t ht
    rcases List.mem_cons.1 ht with rfl | ht
    · simp
    · exact this t ht
  | n + 1, x :: a, [], h => by
    have := way_mem n a [] (by simp at h ⊢; omega)
    rw [way]; intro t ht
    rcases List.mem_cons.1 ht with rfl | ht
    · simp
    · exact this t ht
  | n + 1, x :: a, y :: b, h => by
    simp only [List.length_cons] at h
    have h1 := way_mem n a b (by omega)
    have h2 := way_mem n a (y :: b) (by simp; omega)
    have h3 := way_mem n (x :: a) b (by simp; omega)
    rw [way]; intro t ht
    split at ht
    · rcases List.mem_cons.1 ht with rfl | ht
      · simp
      · exact h1 t ht
    · split at ht
      · rcases List.mem_cons.1 ht with rfl | ht
        · simp
        · exact h2 t ht
      · rcases List.mem_cons.1 ht with rfl | ht
        · simp
        · exact h3 t ht
/-- Where one is behind steps. -/
def ci (l : List Int) : Nat := (l.filter fun t => t ≠ 3).length
def cj (l : List Int) : Nat := (l.filter fun t => t ≠ 2).length
theorem told_snoc : ∀ (l : List Int) (i j : Nat) (t : Int), told i j (l ++ [t]) = told i j l ++ [(t, i + ci l, j + cj l)]
  | [], i, j, t => by simp [told, ci, cj]
  | s :: r, i, j, t => by
    rw [List.cons_append, told, told, told_snoc r, List.cons_append]
    congr 3
    have e1 : (if s = 3 then i else i + 1) + ci r = i + ci (s :: r) := by
      unfold ci
      by_cases h : s = 3
      · rw [if_pos h, List.filter_cons_of_neg (by simpa using h)]
      · rw [if_neg h, List.filter_cons_of_pos (by simpa using h), List.length_cons]; omega
    have e2 : (if s = 2 then j else j + 1) + cj r = j + cj (s :: r) := by
      unfold cj
      by_cases h : s = 2
      · rw [if_pos h, List.filter_cons_of_neg (by simpa using h)]
      · rw [if_neg h, List.filter_cons_of_pos (by simpa using h), List.length_cons]; omega
    rw [e1, e2]
theorem ci_snoc (l : List Int) (t : Int) : ci (l ++ [t]) = ci l + if t = 3 then 0 else 1 := by
  unfold ci
  rw [List.filter_append, List.length_append]
  congr 1
  by_cases h : t = 3 <;> simp [h]
theorem cj_snoc (l : List Int) (t : Int) : cj (l ++ [t]) = cj l + if t = 2 then 0 else 1 := by
  unfold cj
  rw [List.filter_append, List.length_append]
  congr 1
  by_cases h : t = 2 <;> simp [h]
/-- The pairs of the first steps. -/
def pk (s : List Int) (k : Nat) : List (Int × Int) := prs (told 0 0 (s.take k))
theorem pk_next {s : List Int} {k : Nat} (hk : k < s.length) : pk s (k + 1) = pk s k ++ (if s[k] = 1 then [(((ci (s.take k) : Nat) : Int), ((cj (s.take k) : Nat) : Int))] else []) ∧ ci (s.take (k + 1)) = ci (s.take k) + (if s[k] = 3 then 0 else 1) ∧ cj (s.take (k + 1)) = cj (s.take k) + (if s[k] = 2 then 0 else 1) := by
  refine ⟨?_, ?_, ?_⟩
  · unfold pk
    rw [List.take_succ_eq_append_getElem hk, told_snoc, prs_snoc]
    simp
  · rw [List.take_succ_eq_append_getElem hk, ci_snoc]
  · rw [List.take_succ_eq_append_getElem hk, cj_snoc]
theorem pk_le (s : List Int) (k : Nat) : (pk s k).length ≤ k ∧ ci (s.take k) ≤ k ∧ cj (s.take k) ≤ k := by
  refine ⟨?_, ?_, ?_⟩
  · refine Nat.le_trans (prs_le _) ?_
    rw [← List.length_map (f := (·.1)), told_steps]
    exact List.length_take_le _ _
  · exact Nat.le_trans (List.length_filter_le _ _) (List.length_take_le _ _)
  · exact Nat.le_trans (List.length_filter_le _ _) (List.length_take_le _ _)

set_option maxRecDepth 100000 in
set_option maxHeartbeats 4000000 in
theorem rpairs_any (A B : Option Addr) (a b : List Int) (c c' : Nat) (w : World) (hA : IntsIn w A a) (hB : IntsIn w B b) (ha : a.length ≤ 400) (hb : b.length ≤ 400) :
    Calls Try.prog 35 #[.slice A a.length c, .slice B b.length c'] w (PaEnd w (pairs a b)) := by
  obtain ⟨i0, hi0, hz0, hz1, hz2⟩ := info_parts infoPair
  have HST : Hid (∀ W : World, Below w.heap.size w W → Calls Try.prog 50 #[.slice A a.length c, .slice B b.length c'] W (StEnd W (way a b))) := Lib.hid (fun W h => rsteps_any A B a b c c' W (hA.below h) (hB.below h) ha hb)
  have HMEM := Lib.hid (way_mem _ a b (Nat.le_refl _))
  have HWL := Lib.hid (way_le _ a b (Nat.le_refl _))
  have HPP : Hid (pairs a b = pk (way a b) (way a b).length) := Lib.hid (by unfold pairs pk; rw [List.take_length])
  clear hA hB
  generalize a.length = la at *
  generalize b.length = lb at *
  go_enter Try.func35, Try.ntmps35
  go_wp2_with fail
  with_reducible refine (HST.out _ (alloc1 _ _)).mono ?_
  rintro e w1 ⟨SA, scap, rfl, hso, hb1⟩
  obtain ⟨s, hs⟩ : ∃ s, s = way a b := ⟨_, rfl⟩
  rw [← hs] at hso HMEM HWL HPP ⊢
  clear hs
  have HSO := Lib.hid (own_more hso (show w.heap.size ≤ (w.alloc (.cells #[] 57)).heap.size by simp))
  have HB1 : Hid (Below w.heap.size w w1) := Lib.hid ((alloc1 _ _).trans (hb1.mono (by simp)))
  have HO0 : Hid (w1.ownsRow w.heap.size 57 2 (.slice (some ⟨w.heap.size, 0, none⟩) 0 0) 0 []) := Lib.hid (own_below (World.ownsRow_lit (base := w.heap.size) (e := 57) (size := 2) w #[] 0 (Nat.le_refl _) (by decide) rfl) hb1)
  obtain ⟨ls, hls⟩ : ∃ n, n = s.length := ⟨_, rfl⟩
  have HLS := Lib.hid hls
  rw [← hls] at HPP ⊢
  have hsl : ls ≤ 800 := by have := HWL.out; omega
  clear hso hb1 hls HWL HST
  have hs1 := HB1.out.size
  go_wp2_with fail
  go_loopg [5, 7, 8, 9] ls (fun mm o x7 x8 x9 wr => ∃ k : Nat, x7 = .int .i64 ((ci (s.take k) : Nat) : Int) ∧ x8 = .int .i64 ((cj (s.take k) : Nat) : Int) ∧ x9 = .int .i64 (k : Int) ∧ k ≤ ls ∧ ls - k ≤ mm ∧ wr.ownsRow w.heap.size 57 2 o (pk s k).length (prCells (pk s k)) ∧ Hid (wr.ownsRow w.heap.size 87 1 (.slice SA s.length scap) s.length (numCells s)) ∧ Hid (Below w.heap.size w wr))
  case atStart => exact ⟨0, rfl, rfl, rfl, Nat.zero_le _, by omega, HO0.out, HSO, HB1⟩
  case round =>
    obtain ⟨k, rfl, rfl, rfl, hk, hmm, hown, HS, HBW⟩ := hrel
    have HOW := Lib.hid hown
    clear hown
    have hsw := HBW.out.size
    by_cases hlt : k < ls
    · have hks : k < s.length := by have := HLS.out; omega
      obtain ⟨g, hSA, -, -, hsc⟩ := st_cells HS.out (by omega)
      subst hSA
      have c0 := hsc k hks
      have HPK := Lib.hid (pk_next hks)
      have HPL := Lib.hid (pk_le s k)
      have htm := HMEM.out s[k] (List.getElem_mem hks)
      obtain ⟨t, ht⟩ : ∃ t, t = s[k] := ⟨_, rfl⟩
      have HSK : Hid ((numCells s)[k]? = some (.int .i64 t)) := Lib.hid (by rw [ht]; simp [numCells, List.getElem?_eq_getElem hks])
      have hkb : k < s.length * 1 := by omega
      rw [← ht] at c0 HPK htm
      obtain ⟨ii, hii⟩ : ∃ i, i = ci (s.take k) := ⟨_, rfl⟩
      obtain ⟨jj, hjj⟩ : ∃ i, i = cj (s.take k) := ⟨_, rfl⟩
      obtain ⟨np, hnp⟩ : ∃ i, i = (pk s k).length := ⟨_, rfl⟩
      rw [← hii, ← hjj] at HPK HPL ⊢
      rw [← hnp] at HOW HPL
      have HNP := Lib.hid hnp
      have q0 : ii ≤ 800 := by have := HPL.out; omega
      have q1 : jj ≤ 800 := by have := HPL.out; omega
      have q2 : np ≤ 800 := by have := HPL.out; omega
      have k0 : (0 : Int) ≤ (k : Int) := by omega
      have k1 : (k : Int) < (ls : Int) := by omega
      clear ht hii hjj hnp hsc HPL
      rcases htm with rfl | rfl | rfl
      · have hp := HPK.out
        rw [if_pos rfl, if_neg (by decide), if_neg (by decide)] at hp
        have HP := Lib.hid hp
        clear hp
        clear HPK
        go_wp2_with (at_builtin; refine wpList_append_own _ rfl _ _ 23 rfl w.heap.size 57 i0 _ 2 16 Try.underlying23 hi0 hz0 hz1 hz2 rfl (by decide) _ np _ rfl (HOW.out.alloc _) ⟨_, 0, none⟩ 1 1 [.int .i64 (ii : Int), .int .i64 (jj : Int)] rfl rfl (World.news_of_block (alloc_at _ rfl)) (by intro u hu; simp at hu; rcases hu with rfl | rfl <;> rfl) (by simp only [maxLen]; omega) (by omega) (by simp; omega) ?_; intro v' w4 hown4 hg4 _; have HO4 := Lib.hid hown4; have HG4 := Lib.hid hg4; have HS4 := Lib.hid ((HS.out.alloc (.cells #[.int .i64 (ii : Int), .int .i64 (jj : Int)] 57)).kept hg4 (V.own_apart (e := 87) (e' := 57) (by decide) (HS.out.alloc (.cells #[.int .i64 (ii : Int), .int .i64 (jj : Int)] 57)) (HOW.out.alloc (.cells #[.int .i64 (ii : Int), .int .i64 (jj : Int)] 57)))); have c4 := (HS4.out.cellAt k hkb).trans HSK.out; clear hown4 hg4)
        have HB4 : Hid (Below w.heap.size w w4) := Lib.hid ((HBW.out.alloc hsw _).grown HG4.out (by simp; omega) (fun q eq => own_base HOW.out q eq))
        go_roundg (ls - (k + 1))
        case measure => omega
        case rel => exact ⟨k + 1, by rw [HP.out.2.1]; go_num, by rw [HP.out.2.2]; go_num, by go_num, by omega, Nat.le_refl _, by rw [HP.out.1, List.length_append, ← HNP.out, prCells_snoc]; exact HO4.out, HS4, HB4⟩
      · have hp := HPK.out
        rw [if_neg (by decide), if_neg (by decide), if_pos rfl, List.append_nil] at hp
        have HP := Lib.hid hp
        clear hp HPK
        go_wp2_with fail
        go_roundg (ls - (k + 1))
        case measure => omega
        case rel => exact ⟨k + 1, by rw [HP.out.2.1]; go_num, by rw [HP.out.2.2]; rfl, by go_num, by omega, Nat.le_refl _, by rw [HP.out.1, ← HNP.out]; exact HOW.out, HS, HBW⟩
      · have hp := HPK.out
        rw [if_neg (by decide), if_pos rfl, if_neg (by decide), List.append_nil] at hp
        have HP := Lib.hid hp
        clear hp HPK
        go_wp2_with fail
        go_roundg (ls - (k + 1))
        case measure => omega
        case rel => exact ⟨k + 1, by rw [HP.out.2.1]; rfl, by rw [HP.out.2.2]; go_num, by go_num, by omega, Nat.le_refl _, by rw [HP.out.1, ← HNP.out]; exact HOW.out, HS, HBW⟩
    · have hke : k = ls := by omega
      obtain ⟨VA, vcap, rfl, -, -⟩ := own_form HOW.out
      have HKE := Lib.hid hke
      have hkg : ¬ (k < ls) := by omega
      clear hke hlt
      go_wp2_with fail
      go_ret
      rw [show pairs a b = pk s k by rw [HPP.out, HKE.out]]
      exact ⟨VA, vcap, rfl, HOW.out, HBW.out⟩

end Go.Proofs.Ytkflhcfopejigaa.M
