/-
  The reference's Over; labels that are the same; the first sixty of the counts.
  law19's live.
  A label read out of an argument; small facts for arguments of structs.
  An argument that is items, opened: its value, and what its cells hold.
  What the second form's bound on the bulk of the arguments gives: bounds on lengths.
  An argument that is items, opened, with a bound by its bulk; how much a view's lines hold together.
  An argument that is items: how long it is against its capacity.
-/
import Derived.Test.YtmddikabilnokaaGyf
import Derived.Test.YtmddikabilnokaaGye
import Derived.BigQuiet
import Derived.Test.YtmddikabilnokaaGya
import Derived.Deep.Slices
import Derived.Deep.Strs
import Derived.Lib.SmallJoins
import Derived.Test.YtmddikabilnokaaRows
import Derived.Lib.Strings
import Derived.Test.YtmddikabilnokaaGyb
namespace Go.Proofs.Ytmddikabilnokaa.Ta
set_option linter.unusedVariables false
set_option linter.unusedSimpArgs false
open Go.RowKit
open T
open I (It Lb ItemsIn ItemsAt itCells alloc1 own_at own_below)
open V (grown_of drawn_below)

/-- A label put in its place. -/
def insK (a : Lb) : List Lb → List Lb
  | [] => [a]
  | b :: r => if lt b a then b :: insK a r else if a = b then b :: r else a :: b :: r
theorem insK_mem (a x : Lb) : ∀ ks : List Lb, x ∈ insK a ks ↔ x = a ∨ x ∈ ks
  | [] => by simp [insK]
  | b :: r => by
    unfold insK
    split
    · rw [List.mem_cons, insK_mem a x r, List.mem_cons]
      constructor
      · rintro (h | h | h)
        · exact .inr (.inl h)
        · exact .inl h
        · exact .inr (.inr h)
      · rintro (h | h | h)
        · exact .inr (.inl h)
        · exact .inl h
        · exact .inr (.inr h)
    · split
      · rename_i h
        subst h
        simp
      · rw [List.mem_cons]
theorem insK_so (a : Lb) : ∀ ks : List Lb, ks.Pairwise lt → (insK a ks).Pairwise lt
  | [], _ => by simp [insK]
  | b :: r, h => by
    obtain ⟨h1, h2⟩ := List.pairwise_cons.1 h
    unfold insK
    split
    · rename_i hl
      refine List.pairwise_cons.2 ⟨fun x hx => ?_, insK_so a r h2⟩
      rcases (insK_mem a x r).1 hx with rfl | hx
      · exact hl
      · exact h1 x hx
    · split
      · exact h
      · rename_i hl he
        have hab := lt_tri hl (fun e => he e.symm)
        refine List.pairwise_cons.2 ⟨fun x hx => ?_, h⟩
        rcases List.mem_cons.1 hx with rfl | hx
        · exact hab
        · exact lt_trans hab (h1 x hx)
theorem Ks.all : ∀ ls : List Lb, ∃ ks, Ks ls ks
  | [] => ⟨[], Ks.nil⟩
  | a :: r => by
    obtain ⟨ks, h⟩ := Ks.all r
    exact ⟨insK a ks, insK_so a ks h.so, fun b => by rw [insK_mem, h.me, List.mem_cons]⟩
set_option maxRecDepth 100000 in
set_option maxHeartbeats 4000000 in
theorem slabels_any (A B : Option Addr) (c c' : Nat) (d : List Lb) (w : World) (hA : LabsIn w A d) (hB : LabsIn w B d) (hl : d.length ≤ 1000000000) :
    Calls Try.prog 16 #[.slice A d.length c, .slice B d.length c'] w fun e w' => e = .returned (.bool true) ∧ Below w.heap.size w w' := by
  have HA := Lib.hid hA
  have HB := Lib.hid hB
  clear hA hB
  go_enter Try.func16, Try.ntmps16
  go_wp2_with fail
  go_loopg [5] d.length (fun m i wr => ∃ k : Nat, k ≤ d.length ∧ i = .int .i64 (k : Int) ∧ d.length - k ≤ m ∧ Hid (Below w.heap.size w wr))
  case atStart => exact ⟨0, Nat.zero_le _, rfl, by omega, Lib.hid (Below.refl _ _)⟩
  case round =>
    obtain ⟨k, hk, rfl, hmm, HBR⟩ := hrel
    by_cases hkl : k < d.length
    · obtain ⟨b1, o1, hAe, hb1, hI1⟩ := HA.out.below HBR.out (by omega)
      subst hAe
      obtain ⟨b2, o2, hBe, hb2, hI2⟩ := HB.out.below HBR.out (by omega)
      subst hBe
      obtain ⟨c0, c1⟩ := hI1 k hkl
      obtain ⟨d0, d1⟩ := hI2 k hkl
      have h0k : (0 : Int) ≤ (k : Int) := by omega
      have hki : (k : Int) < (d.length : Int) := by omega
      obtain ⟨p, hp⟩ : ∃ p, p = d[k] := ⟨_, rfl⟩
      rw [← hp] at c0 c1 d0 d1
      obtain ⟨p0, p1⟩ := p
      simp only at c0 c1 d0 d1
      clear hp hI1 hI2
      have HR : Hid (∀ q, Below w.heap.size w (wr.drewN q)) := Lib.hid fun q => HBR.out.trans ((drawn_below wr q).mono HBR.out.size)
      clear HBR
      go_wp2_with fail
      go_quiet (fail)
      go_wp2_with fail
      go_roundg (d.length - (k + 1))
      case rel => exact ⟨k + 1, by omega, by go_num, by omega, Lib.hid (HR.out _)⟩
      case measure => omega
    · obtain rfl : k = d.length := by omega
      go_wp2_with fail
      go_ret
      exact ⟨rfl, HBR.out⟩
set_option maxRecDepth 100000 in
set_option maxHeartbeats 4000000 in
theorem rover_any (A : Option Addr) (cap : Nat) (l : List It) (q : Int) (w : World) (hA : ItemsIn w A l) (hl : l.length ≤ 400) :
    Calls Try.prog 15 #[.slice A l.length cap, .int .i64 q] w fun e w' => ∃ ks, Ks (lns l) ks ∧ ∃ A cap, e = .returned (.slice A (ov q (cs (lns l) ks)).length cap) ∧ LabsIn w' A (ov q (cs (lns l) ks)) ∧ Below w.heap.size w w' := by
  have hcon := rcounts_any A cap l w hA hl
  obtain ⟨i0, hi0, hz0, hz1, hz2⟩ := info_parts infoLab
  clear hA
  go_enter Try.func15, Try.ntmps15
  go_wp2_with fail
  refine hcon.mono ?_
  rintro e WA ⟨ks, hks, B, bcap, rfl, hrow, hb0⟩
  obtain ⟨W0, hW0⟩ : ∃ W : World, W = WA.alloc (.cells #[] 25) := ⟨_, rfl⟩
  have hbA : Below WA.heap.size WA W0 := by rw [hW0]; exact alloc1 _ _
  have HKS := Lib.hid hks
  have HB0 := Lib.hid hb0
  have HC := Lib.hid hrow
  have HBA := Lib.hid hbA
  have HO0 : Hid (W0.ownsRow WA.heap.size 25 2 (.slice (some ⟨WA.heap.size, 0, none⟩) 0 0) ([] : List Lb).length (lbCells [])) := Lib.hid (by rw [hW0]; exact World.ownsRow_made (size := 2) (e := 25) WA #[] 0 (Nat.le_refl _) (by unfold maxLen; omega) rfl)
  have hcl : (cs (lns l) ks).length ≤ 1000 := by rw [cs_len]; exact Nat.le_trans hks.len (Nat.le_trans (lns_le _) (by omega))
  obtain ⟨c, hc⟩ : ∃ c, c = cs (lns l) ks := ⟨_, rfl⟩
  rw [← hc] at HC hcl ⊢
  have HCC := Lib.hid hc
  clear hcon hks hrow hb0 hc hbA
  go_wp2_with fail
  rw [← hW0]
  clear hW0
  go_loopg [6, 7] c.length (fun n v i wr => ∃ (k : Nat) (ys : List Lb), k ≤ c.length ∧ i = .int .i64 k ∧ c.length - k ≤ n ∧ ys.length ≤ k ∧ Hid (wr.ownsRow WA.heap.size 25 2 v ys.length (lbCells ys)) ∧ Hid (ys = ov q (c.take k)) ∧ Hid (Below WA.heap.size WA wr))
  case atStart => exact ⟨0, [], Nat.zero_le _, rfl, by omega, by simp, HO0, Lib.hid (by simp [ov]), HBA⟩
  case round =>
    obtain ⟨k, ys, hk, rfl, hm, hyl, HO, HY, HBR⟩ := hrel
    by_cases hlt : k < c.length
    · obtain ⟨bk, off, hAe, hbk, hat⟩ := HC.out (by omega)
      subst hAe
      obtain ⟨c0, c1, c2⟩ := hat k hlt
      have d0 := (HBR.out.cell (p := ⟨bk, _, none⟩) hbk).trans c0
      have d1 := (HBR.out.cell (p := ⟨bk, _, none⟩) hbk).trans c1
      have d2 := (HBR.out.cell (p := ⟨bk, _, none⟩) hbk).trans c2
      have HN := Lib.hid (ov_take q hlt)
      rw [← HY.out] at HN
      have h0k : (0 : Int) ≤ (k : Int) := by omega
      have hki : (k : Int) < (c.length : Int) := by omega
      obtain ⟨x, hx⟩ : ∃ x, x = c[k]'hlt := ⟨_, rfl⟩
      rw [← hx] at d0 d1 d2 HN
      clear hx HY hat c0 c1 c2
      obtain ⟨⟨x0, x1⟩, n⟩ := x
      simp only at d0 d1 d2 HN
      by_cases hq : q < (n : Int)
      · have hs2 := HBR.out.size
        have HOA := Lib.hid (World.ownsRow.alloc HO.out (.cells #[.int .i64 x0, .int .u64 (x1 : Int)] 25))
        have HNW := Lib.hid (World.news_of_block (w := wr.alloc (.cells #[.int .i64 x0, .int .u64 (x1 : Int)] 25)) (heap_alloc_new wr _))
        go_wp2_with (at_builtin; refine wpList_append_own _ rfl (.tmp 24) (.tmp 30) 35 rfl WA.heap.size 25 i0 _ 2 16 Try.underlying35 hi0 hz0 hz1 hz2 rfl (by decide) _ ys.length (lbCells ys) rfl HOA.out ⟨wr.heap.size, 0, none⟩ 1 1 [.int .i64 x0, .int .u64 (x1 : Int)] rfl rfl HNW.out ?c2 ?c3 ?c4 ?c5 ?_)
        case c2 => first | exact ⟨rfl, rfl⟩ | (intro u hu; simp at hu; rcases hu with rfl | rfl <;> rfl)
        case c3 => unfold maxLen; omega
        case c4 => omega
        case c5 => first | omega | (simp; omega)
        intro v' w4 hown4 hg4 _
        have HB4 : Hid (Below WA.heap.size WA w4) := Lib.hid ((HBR.out.alloc hs2 _).grown hg4 (by simp; omega) (own_base HO.out))
        rw [show ys.length + 1 = (ys ++ [(x0, x1)]).length by simp, show lbCells ys ++ [.int .i64 x0, .int .u64 (x1 : Int)] = lbCells (ys ++ [(x0, x1)]) from (lbCells_snoc ys (x0, x1)).symm] at hown4
        have HO4 := Lib.hid hown4
        clear hown4 hg4
        go_wp2_with fail
        go_roundg (c.length - (k + 1))
        case rel => exact ⟨k + 1, ys ++ [(x0, x1)], by omega, by go_num, Nat.le_refl _, by simp; omega, HO4, Lib.hid (by rw [HN.out, if_pos (by omega)]), HB4⟩
        case measure => omega
      · have hd : decide (q < (n : Int)) = false := decide_eq_false hq
        go_wp2_with fail
        go_roundg (c.length - (k + 1))
        case rel => exact ⟨k + 1, ys, by omega, by go_num, Nat.le_refl _, by omega, HO, Lib.hid (by rw [HN.out, if_neg (by omega), List.append_nil]), HBR⟩
        case measure => omega
    · obtain rfl : k = c.length := by omega
      rw [List.take_length] at HY
      have HF := Lib.hid (own_form HO.out)
      go_wp2_with fail
      go_ret
      obtain ⟨A2, c2, rfl, -, -⟩ := HF.out
      have hy := HY.out
      have ho := HO.out
      rw [HCC.out] at hy
      subst hy
      exact ⟨ks, HKS.out, A2, c2, rfl, labs_own ho, HB0.out.trans (HBR.out.mono HB0.out.size)⟩
end Go.Proofs.Ytmddikabilnokaa.Ta

namespace Go.Proofs.Ytmddikabilnokaa.Ta
set_option linter.unusedVariables false
set_option linter.unusedSimpArgs false
open Go.RowKit
open T
open I (It Lb ItemsIn ItemsAt itCells itCells_at alloc1 own_at own_below)
open V (grown_of drawn_below)

def lvA : It := ⟨0, 1, 0, false, [], false⟩
def lvB : It := ⟨0, 1, 0, true, [], false⟩
def lvIts : List It := [lvA, lvA, lvB]
theorem lv_lns : lns lvIts = [(1, 0), (1, 0)] := rfl
theorem lv_ks : Ks (lns lvIts) [(1, 0)] := ⟨by simp, fun a => by rw [lv_lns]; simp⟩
theorem lv_wls : Wls lvIts := fun x hx => by
  simp only [lvIts, List.mem_cons, List.not_mem_nil, or_false] at hx
  rcases hx with rfl | rfl | rfl <;> exact ⟨by decide, by decide⟩
theorem its_block {w : World} {g : Nat} {cs : Array Value} {l : List It} (h : w.heap[g]? = some (.cells cs 44 (0, 0))) (hc : cs.toList = itCells l) : ItemsIn w (some ⟨g, 0, none⟩) l := by
  have hq : ∀ j, w.cell? ⟨g, j, none⟩ = (itCells l)[j]? := fun j => by rw [L.blk_cell h, ← hc]; simp
  refine fun _ => ⟨g, 0, rfl, L.blk_lt h, fun j hj => ?_⟩
  obtain ⟨a0, a1, a2, a3, a4, a5⟩ := itCells_at l j hj
  exact ⟨by rw [Nat.zero_add, hq, a0], by rw [Nat.zero_add, hq, a1], by rw [Nat.zero_add, hq, a2], by rw [Nat.zero_add, hq, a3], by rw [Nat.zero_add, hq, a4], by rw [Nat.zero_add, hq, a5]⟩
def FtC (fn : FuncId) (A : Option Addr) (n cap : Nat) (l : List It) (q : Int) (b : Bool) : Prop := ∀ w : World, ItemsIn w A l → Calls Try.prog fn #[.slice A n cap, .int .i64 q] w fun e w' => e = .returned (.bool b) ∧ Below w.heap.size w w'
theorem FtC.call {fn : FuncId} {A : Option Addr} {n cap : Nat} {l : List It} {q : Int} {b : Bool} (h : FtC fn A n cap l q b) (w : World) (hI : ItemsIn w A l) : Calls Try.prog fn #[.slice A n cap, .int .i64 q] w fun e w' => e = .returned (.bool b) ∧ Below w.heap.size w w' := h w hI
theorem ft_is (A : Option Addr) (q : Int) (b : Bool) (hb : decide ((ov q (cs (lns lvIts) [(1, 0)])).length = 0) = b) : FtC 18 A 3 3 lvIts q b := fun w h =>
  (fits_any A 3 lvIts q w h lv_wls (by decide)).mono fun e w' ⟨ks, hk, he, hB⟩ => ⟨by rw [he, hk.uniq lv_ks, hb], hB⟩
def GrC (fn : FuncId) (A : Option Addr) (l : List It) : Prop := ∀ w : World, ItemsIn w A l → Calls Try.prog fn #[.slice none 0 0, .slice A 3 3, .agg #[.int .i64 1, .int .u64 0]] w fun e w' => e = .returned (.int .i64 2) ∧ Below w.heap.size w w'
theorem GrC.call {fn : FuncId} {A : Option Addr} {l : List It} (h : GrC fn A l) (w : World) (hI : ItemsIn w A l) : Calls Try.prog fn #[.slice none 0 0, .slice A 3 3, .agg #[.int .i64 1, .int .u64 0]] w fun e w' => e = .returned (.int .i64 2) ∧ Below w.heap.size w w' := h w hI
theorem gr_is (A : Option Addr) : GrC 19 A lvIts := fun w h => by
  have := grows_any none A 0 3 [] lvIts 1 0 w (fun h => absurd h (by simp)) h (by decide) (by decide)
  rw [lv_lns] at this
  exact this
def LnQ (fn : FuncId) (A : Option Addr) (l : List It) : Prop := ∀ w : World, ItemsIn w A l → Calls Try.prog fn #[.slice A 3 3, .agg #[.int .i64 1, .int .u64 0]] w fun e w' => e = .returned (.int .i64 2) ∧ Below w.heap.size w w'
theorem LnQ.call {fn : FuncId} {A : Option Addr} {l : List It} (h : LnQ fn A l) (w : World) (hI : ItemsIn w A l) : Calls Try.prog fn #[.slice A 3 3, .agg #[.int .i64 1, .int .u64 0]] w fun e w' => e = .returned (.int .i64 2) ∧ Below w.heap.size w w' := h w hI
theorem lq_is (A : Option Addr) : LnQ 11 A lvIts := fun w h => by
  have := lines_any A 3 lvIts (1, 0) w h (by decide)
  rw [lv_lns] at this
  exact this
def LvC (fn : FuncId) : Prop := ∀ w : World, Calls Try.prog fn #[] w fun e w' => e = .returned (.bool true) ∧ Below w.heap.size w w'
theorem LvC.call {fn : FuncId} (h : LvC fn) (w : World) : Calls Try.prog fn #[] w fun e w' => e = .returned (.bool true) ∧ Below w.heap.size w w' := h w
def lvIC : Array Value := #[.int .i64 0, .int .i64 1, .int .u64 0, .bool false, .string ⟨#[]⟩, .bool false, .int .i64 0, .int .i64 1, .int .u64 0, .bool false, .string ⟨#[]⟩, .bool false, .int .i64 0, .int .i64 1, .int .u64 0, .bool true, .string ⟨#[]⟩, .bool false]
set_option maxRecDepth 100000 in
set_option maxHeartbeats 4000000 in
theorem live19 : LvC 10 := fun w => by
  obtain ⟨W0, hW0⟩ : ∃ W : World, W = w.alloc (.cells #[.int .i64 1, .int .u64 0] 25) := ⟨_, rfl⟩
  obtain ⟨W1, hW1⟩ : ∃ W : World, W = W0.alloc (.cells lvIC 44) := ⟨_, rfl⟩
  have hb0 : Below w.heap.size w W0 := by rw [hW0]; exact alloc1 _ _
  have hb1 : Below W0.heap.size W0 W1 := by rw [hW1]; exact alloc1 _ _
  have hx0 : W0.heap[w.heap.size]? = some (.cells #[.int .i64 1, .int .u64 0] 25 (0, 0)) := by rw [hW0]; exact heap_alloc_new w _
  have hx1 : W1.heap[W0.heap.size]? = some (.cells lvIC 44 (0, 0)) := by rw [hW1]; exact heap_alloc_new W0 _
  have HB1 := Lib.hid (hb0.trans (hb1.mono hb0.size))
  have HI := Lib.hid (its_block (l := lvIts) hx1 rfl)
  have HCO := Lib.hid (counts_any (some ⟨W0.heap.size, 0, none⟩) 3 lvIts W1 HI.out lv_wls (by decide))
  have HL := Lib.hid (lq_is (some ⟨W0.heap.size, 0, none⟩))
  have HF2 := Lib.hid (ft_is (some ⟨W0.heap.size, 0, none⟩) 2 true (by decide))
  have HF1 := Lib.hid (ft_is (some ⟨W0.heap.size, 0, none⟩) 1 false (by decide))
  have HG := Lib.hid (gr_is (some ⟨W0.heap.size, 0, none⟩))
  have HX := Lib.hid ((hb1.block _ (L.blk_lt hx0)).trans hx0)
  have x0 := L.blk_cell hx0 0
  have x1 := L.blk_cell hx0 1
  simp only [List.getElem?_toArray, List.getElem?_cons_zero, List.getElem?_cons_succ] at x0 x1
  have hs0 : W0.heap.size = w.heap.size + 1 := by rw [hW0]; simp
  unfold lvIC at hW1
  clear hb0 hb1 hx0 hx1
  go_enter Try.func10, Try.ntmps10
  go_upto_region 2 with fail
  rw [← hW0]
  obtain ⟨xb, hxb⟩ : ∃ q, q = w.heap.size := ⟨_, rfl⟩
  rw [← hxb] at HX x0 x1 ⊢
  clear hW0 hs0 hxb
  go_wp2_with fail
  rw [← hW1]
  obtain ⟨ib, hib⟩ : ∃ q, q = W0.heap.size := ⟨_, rfl⟩
  rw [← hib] at HI HCO HL HF2 HF1 HG ⊢
  clear hW1 hib x0 x1
  refine HCO.out.mono ?_
  rintro e W2 ⟨ks, hks, B, bcap, rfl, hrow, hb2⟩
  obtain rfl := hks.uniq lv_ks
  have hci := cts_own hrow
  obtain ⟨bk, off, rfl, hbk, hat⟩ := hci (by decide)
  obtain ⟨g, hA, -, hlt, hcc⟩ := own_at hrow (by decide)
  obtain ⟨rfl, rfl⟩ : bk = g ∧ off = 0 := by cases hA; exact ⟨rfl, rfl⟩
  obtain ⟨c0, c1, c2⟩ := hat 0 (by decide)
  have HC0 := Lib.hid (show W2.cell? ⟨bk, 0, none⟩ = some (.int .i64 1) from c0)
  have HC1 := Lib.hid (show W2.cell? ⟨bk, 1, none⟩ = some (.int .u64 0) from c1)
  have HC2 := Lib.hid (show W2.cell? ⟨bk, 2, none⟩ = some (.int .i64 2) from c2)
  have HCL := Lib.hid hbk
  have hX2 := (hb2.block _ (L.blk_lt HX.out)).trans HX.out
  have HX0 := Lib.hid (show W2.cell? ⟨xb, 0, none⟩ = some (.int .i64 1) from L.blk_cell hX2 0)
  have HX1 := Lib.hid (show W2.cell? ⟨xb, 1, none⟩ = some (.int .u64 0) from L.blk_cell hX2 1)
  have HXL := Lib.hid (L.blk_lt hX2)
  replace HI := Lib.hid (HI.out.below hb2)
  replace HB1 := Lib.hid (HB1.out.trans (hb2.mono HB1.out.size))
  have hcs : (cs (lns lvIts) [((1 : Int), 0)]).length = 1 := by decide
  simp only [hcs]
  clear HCO hks hrow hci hat hcc hA c0 c1 c2 hX2 hb2 HX hcs hlt hbk
  go_upto_region 4 with fail
  refine wp_region_held_drew (S := (Keeps W2)) (by kernel_rfl) (keeps_drew _) (fun hK0 => ?_)
  refine wpAnyH_take (i := 0) (oi := { dst := some 14, op := Go.Op.move (Go.Operand.tmp 2), type := 22, pos := "law.go:18", after := #[], guard := none }) (v := ?_) rfl (by kernel_rfl) (by kernel_rfl) (by kernel_rfl) (fun _ _ _ h => h) (Or.inl ⟨by rfl, ?_⟩) hK0 ?_
  rotate_left
  · (intro wz hSz; (try dsimp only at hSz); go_simp; try with_reducible rfl)
  simp only [Act.put, List.setIfInBounds_toArray, List.set_cons_zero, List.set_cons_succ]
  refine wpAnyH_take (i := 1) (oi := { dst := some 15, op := Go.Op.load 25 (Go.Operand.tmp 1), type := 25, pos := "law.go:18", after := #[], guard := none }) (v := ?_) rfl (by kernel_rfl) (by kernel_rfl) (by kernel_rfl) (fun _ _ _ h => h) (Or.inl ⟨by rfl, ?_⟩) hK0 ?_
  rotate_left
  · (intro wz hSz; have hcz0 := (Keeps.b hSz).cell (p := ⟨xb, 0, none⟩) HXL.out |>.trans HX0.out; have hcz1 := (Keeps.b hSz).cell (p := ⟨xb, 1, none⟩) HXL.out |>.trans HX1.out; go_simp; try with_reducible rfl)
  simp only [Act.put, List.setIfInBounds_toArray, List.set_cons_zero, List.set_cons_succ]
  refine wpAnyH_ready (rs := [2]) (by kernel_rfl) (by simp) ?_
  refine AllReadyH.cons (o := { dst := some 16, op := Go.Op.call { callee := Go.Callee.value (Go.Operand.func 11), args := #[Go.Operand.tmp 14, Go.Operand.tmp 15], argTypes := #[22, 25] }, type := 3, pos := "law.go:18", after := #[{ on := 0, ground := Go.Ground.data }, { on := 1, ground := Go.Ground.data }], guard := none }) rfl (fun K hK => ?_) AllReadyH.nil
  go_simp
  with_reducible refine (HL.out.call _ (HI.out.below (Keeps.b hK0))).mono ?_
  rintro r wq1 ⟨rfl, hbq⟩
  go_wp2_with fail
  refine hK.out _ _ (Keeps.trans hK0 hbq) (fun hK1 => ?_)
  clear hK K hbq hK0
  refine wpAnyH_take (i := 3) (oi := { dst := some 17, op := Go.Op.binOp Go.BinOp.eql 3 (Go.Operand.tmp 16) (Go.Operand.const (Go.Value.int Go.IntKind.i64 2)) 3, type := 4, pos := "law.go:18", after := #[{ on := 2, ground := Go.Ground.data }], guard := none }) (v := ?_) rfl (by kernel_rfl) (by kernel_rfl) (by kernel_rfl) (fun _ _ _ h => h) (Or.inl ⟨by rfl, ?_⟩) hK1 ?_
  rotate_left
  · (intro wz hSz; (try dsimp only at hSz); go_simp; try with_reducible rfl)
  simp only [Act.put, List.setIfInBounds_toArray, List.set_cons_zero, List.set_cons_succ]
  refine wpAnyH_take (i := 4) (oi := { dst := some 18, op := Go.Op.move (Go.Operand.tmp 17), type := 4, pos := "law.go:18", after := #[{ on := 3, ground := Go.Ground.data }, { on := 2, ground := Go.Ground.chain }], guard := none }) (v := ?_) rfl (by kernel_rfl) (by kernel_rfl) (by kernel_rfl) (fun _ _ _ h => h) (Or.inl ⟨by rfl, ?_⟩) hK1 ?_
  rotate_left
  · (intro wz hSz; (try dsimp only at hSz); go_simp; try with_reducible rfl)
  simp only [Act.put, List.setIfInBounds_toArray, List.set_cons_zero, List.set_cons_succ]
  refine wpAnyH_take (i := 5) (oi := { dst := some 19, op := Go.Op.move (Go.Operand.tmp 3), type := 27, pos := "law.go:18", after := #[{ on := 4, ground := Go.Ground.guard }], guard := some (4, true) }) (v := ?_) rfl (by kernel_rfl) (by kernel_rfl) (by kernel_rfl) (fun _ _ _ h => h) (Or.inl ⟨by rfl, ?_⟩) hK1 ?_
  rotate_left
  · (intro wz hSz; (try dsimp only at hSz); go_simp; try with_reducible rfl)
  simp only [Act.put, List.setIfInBounds_toArray, List.set_cons_zero, List.set_cons_succ]
  refine wpAnyH_take (i := 6) (oi := { dst := some 20, op := Go.Op.call { callee := Go.Callee.builtin Go.Builtin.len, args := #[Go.Operand.tmp 19], argTypes := #[27] }, type := 3, pos := "law.go:18", after := #[{ on := 5, ground := Go.Ground.data }, { on := 4, ground := Go.Ground.guard }], guard := some (4, true) }) (v := ?_) rfl (by kernel_rfl) (by kernel_rfl) (by kernel_rfl) (fun _ _ _ h => h) (Or.inl ⟨by rfl, ?_⟩) hK1 ?_
  rotate_left
  · (intro wz hSz; (try dsimp only at hSz); go_simp; try with_reducible rfl)
  simp only [Act.put, List.setIfInBounds_toArray, List.set_cons_zero, List.set_cons_succ]
  refine wpAnyH_take (i := 7) (oi := { dst := some 21, op := Go.Op.binOp Go.BinOp.eql 3 (Go.Operand.tmp 20) (Go.Operand.const (Go.Value.int Go.IntKind.i64 1)) 3, type := 4, pos := "law.go:18", after := #[{ on := 6, ground := Go.Ground.data }, { on := 4, ground := Go.Ground.guard }], guard := some (4, true) }) (v := ?_) rfl (by kernel_rfl) (by kernel_rfl) (by kernel_rfl) (fun _ _ _ h => h) (Or.inl ⟨by rfl, ?_⟩) hK1 ?_
  rotate_left
  · (intro wz hSz; (try dsimp only at hSz); go_simp; try with_reducible rfl)
  simp only [Act.put, List.setIfInBounds_toArray, List.set_cons_zero, List.set_cons_succ]
  refine wpAnyH_take (i := 8) (oi := { dst := some 22, op := Go.Op.pick (Go.Operand.tmp 18) (Go.Operand.tmp 21) (Go.Operand.const (Go.Value.bool false)), type := 4, pos := "law.go:18", after := #[{ on := 4, ground := Go.Ground.data }, { on := 7, ground := Go.Ground.data }], guard := none }) (v := ?_) rfl (by kernel_rfl) (by kernel_rfl) (by kernel_rfl) (fun _ _ _ h => h) (Or.inl ⟨by rfl, ?_⟩) hK1 ?_
  rotate_left
  · (intro wz hSz; (try dsimp only at hSz); go_simp; try with_reducible rfl)
  simp only [Act.put, List.setIfInBounds_toArray, List.set_cons_zero, List.set_cons_succ]
  refine wpAnyH_take (i := 9) (oi := { dst := some 23, op := Go.Op.move (Go.Operand.tmp 22), type := 4, pos := "law.go:18", after := #[{ on := 8, ground := Go.Ground.data }, { on := 4, ground := Go.Ground.chain }], guard := none }) (v := ?_) rfl (by kernel_rfl) (by kernel_rfl) (by kernel_rfl) (fun _ _ _ h => h) (Or.inl ⟨by rfl, ?_⟩) hK1 ?_
  rotate_left
  · (intro wz hSz; (try dsimp only at hSz); go_simp; try with_reducible rfl)
  simp only [Act.put, List.setIfInBounds_toArray, List.set_cons_zero, List.set_cons_succ]
  refine wpAnyH_take (i := 10) (oi := { dst := some 24, op := Go.Op.move (Go.Operand.tmp 3), type := 27, pos := "law.go:18", after := #[{ on := 9, ground := Go.Ground.guard }], guard := some (9, true) }) (v := ?_) rfl (by kernel_rfl) (by kernel_rfl) (by kernel_rfl) (fun _ _ _ h => h) (Or.inl ⟨by rfl, ?_⟩) hK1 ?_
  rotate_left
  · (intro wz hSz; (try dsimp only at hSz); go_simp; try with_reducible rfl)
  simp only [Act.put, List.setIfInBounds_toArray, List.set_cons_zero, List.set_cons_succ]
  refine wpAnyH_take (i := 11) (oi := { dst := some 25, op := Go.Op.indexAddr 27 (Go.Operand.tmp 24) (Go.Operand.const (Go.Value.int Go.IntKind.i64 0)), type := 0, pos := "law.go:18", after := #[{ on := 10, ground := Go.Ground.data }, { on := 9, ground := Go.Ground.guard }], guard := some (9, true) }) (v := ?_) rfl (by kernel_rfl) (by kernel_rfl) (by kernel_rfl) (fun _ _ _ h => h) (Or.inl ⟨by rfl, ?_⟩) hK1 ?_
  rotate_left
  · (intro wz hSz; (try dsimp only at hSz); go_simp; try with_reducible rfl)
  simp only [Act.put, List.setIfInBounds_toArray, List.set_cons_zero, List.set_cons_succ]
  refine wpAnyH_take (i := 12) (oi := { dst := some 26, op := Go.Op.load 30 (Go.Operand.tmp 25), type := 30, pos := "law.go:18", after := #[{ on := 11, ground := Go.Ground.data }, { on := 9, ground := Go.Ground.guard }], guard := some (9, true) }) (v := ?_) rfl (by kernel_rfl) (by kernel_rfl) (by kernel_rfl) (fun _ _ _ h => h) (Or.inl ⟨by rfl, ?_⟩) hK1 ?_
  rotate_left
  · (intro wz hSz; have hcz0 := (Keeps.b hSz).cell (p := ⟨bk, 0, none⟩) HCL.out |>.trans HC0.out; have hcz1 := (Keeps.b hSz).cell (p := ⟨bk, 1, none⟩) HCL.out |>.trans HC1.out; have hcz2 := (Keeps.b hSz).cell (p := ⟨bk, 2, none⟩) HCL.out |>.trans HC2.out; go_simp; try with_reducible rfl)
  simp only [Act.put, List.setIfInBounds_toArray, List.set_cons_zero, List.set_cons_succ]
  refine wpAnyH_take (i := 13) (oi := { dst := some 27, op := Go.Op.load 25 (Go.Operand.tmp 1), type := 25, pos := "law.go:18", after := #[{ on := 9, ground := Go.Ground.guard }], guard := some (9, true) }) (v := ?_) rfl (by kernel_rfl) (by kernel_rfl) (by kernel_rfl) (fun _ _ _ h => h) (Or.inl ⟨by rfl, ?_⟩) hK1 ?_
  rotate_left
  · (intro wz hSz; have hcz0 := (Keeps.b hSz).cell (p := ⟨xb, 0, none⟩) HXL.out |>.trans HX0.out; have hcz1 := (Keeps.b hSz).cell (p := ⟨xb, 1, none⟩) HXL.out |>.trans HX1.out; go_simp; try with_reducible rfl)
  simp only [Act.put, List.setIfInBounds_toArray, List.set_cons_zero, List.set_cons_succ]
  refine wpAnyH_take (i := 14) (oi := { dst := some 28, op := Go.Op.build 30 #[(0, Go.Operand.tmp 27), (1, Go.Operand.const (Go.Value.int Go.IntKind.i64 2))], type := 30, pos := "law.go:18", after := #[{ on := 13, ground := Go.Ground.data }, { on := 9, ground := Go.Ground.guard }], guard := some (9, true) }) (v := ?_) rfl (by kernel_rfl) (by kernel_rfl) (by kernel_rfl) (fun _ _ _ h => h) (Or.inl ⟨by rfl, ?_⟩) hK1 ?_
  rotate_left
  · (intro wz hSz; (try dsimp only at hSz); go_simp; try with_reducible rfl)
  simp only [Act.put, List.setIfInBounds_toArray, List.set_cons_zero, List.set_cons_succ]
  refine wpAnyH_take (i := 15) (oi := { dst := some 29, op := Go.Op.binOp Go.BinOp.eql 30 (Go.Operand.tmp 26) (Go.Operand.tmp 28) 30, type := 4, pos := "law.go:18", after := #[{ on := 12, ground := Go.Ground.data }, { on := 14, ground := Go.Ground.data }, { on := 9, ground := Go.Ground.guard }], guard := some (9, true) }) (v := ?_) rfl (by kernel_rfl) (by kernel_rfl) (by kernel_rfl) (fun _ _ _ h => h) (Or.inl ⟨by rfl, ?_⟩) hK1 ?_
  rotate_left
  · (intro wz hSz; (try dsimp only at hSz); go_simp; try with_reducible rfl)
  simp only [Act.put, List.setIfInBounds_toArray, List.set_cons_zero, List.set_cons_succ]
  refine wpAnyH_take (i := 16) (oi := { dst := some 30, op := Go.Op.pick (Go.Operand.tmp 23) (Go.Operand.tmp 29) (Go.Operand.const (Go.Value.bool false)), type := 4, pos := "law.go:18", after := #[{ on := 9, ground := Go.Ground.data }, { on := 15, ground := Go.Ground.data }], guard := none }) (v := ?_) rfl (by kernel_rfl) (by kernel_rfl) (by kernel_rfl) (fun _ _ _ h => h) (Or.inl ⟨by rfl, ?_⟩) hK1 ?_
  rotate_left
  · (intro wz hSz; (try dsimp only at hSz); go_simp; try with_reducible rfl)
  simp only [Act.put, List.setIfInBounds_toArray, List.set_cons_zero, List.set_cons_succ]
  refine wpAnyH_take (i := 17) (oi := { dst := some 31, op := Go.Op.move (Go.Operand.tmp 30), type := 4, pos := "law.go:18", after := #[{ on := 16, ground := Go.Ground.data }, { on := 9, ground := Go.Ground.chain }], guard := none }) (v := ?_) rfl (by kernel_rfl) (by kernel_rfl) (by kernel_rfl) (fun _ _ _ h => h) (Or.inl ⟨by rfl, ?_⟩) hK1 ?_
  rotate_left
  · (intro wz hSz; (try dsimp only at hSz); go_simp; try with_reducible rfl)
  simp only [Act.put, List.setIfInBounds_toArray, List.set_cons_zero, List.set_cons_succ]
  refine wpAnyH_take (i := 18) (oi := { dst := some 32, op := Go.Op.move (Go.Operand.tmp 2), type := 22, pos := "law.go:18", after := #[{ on := 17, ground := Go.Ground.guard }], guard := some (17, true) }) (v := ?_) rfl (by kernel_rfl) (by kernel_rfl) (by kernel_rfl) (fun _ _ _ h => h) (Or.inl ⟨by rfl, ?_⟩) hK1 ?_
  rotate_left
  · (intro wz hSz; (try dsimp only at hSz); go_simp; try with_reducible rfl)
  simp only [Act.put, List.setIfInBounds_toArray, List.set_cons_zero, List.set_cons_succ]
  refine wpAnyH_ready (rs := [19]) (by kernel_rfl) (by simp) ?_
  refine AllReadyH.cons (o := { dst := some 33, op := Go.Op.call { callee := Go.Callee.value (Go.Operand.func 18), args := #[Go.Operand.tmp 32, Go.Operand.const (Go.Value.int Go.IntKind.i64 2)], argTypes := #[22, 3] }, type := 4, pos := "law.go:18", after := #[{ on := 18, ground := Go.Ground.data }, { on := 17, ground := Go.Ground.chain }, { on := 17, ground := Go.Ground.guard }], guard := some (17, true) }) rfl (fun K hK => ?_) AllReadyH.nil
  go_simp
  with_reducible refine (HF2.out.call _ (HI.out.below (Keeps.b hK1))).mono ?_
  rintro r wq2 ⟨rfl, hbq⟩
  go_wp2_with fail
  refine hK.out _ _ (Keeps.trans hK1 hbq) (fun hK2 => ?_)
  clear hK K hbq hK1
  refine wpAnyH_take (i := 20) (oi := { dst := some 34, op := Go.Op.pick (Go.Operand.tmp 31) (Go.Operand.tmp 33) (Go.Operand.const (Go.Value.bool false)), type := 4, pos := "law.go:18", after := #[{ on := 17, ground := Go.Ground.data }, { on := 19, ground := Go.Ground.data }], guard := none }) (v := ?_) rfl (by kernel_rfl) (by kernel_rfl) (by kernel_rfl) (fun _ _ _ h => h) (Or.inl ⟨by rfl, ?_⟩) hK2 ?_
  rotate_left
  · (intro wz hSz; (try dsimp only at hSz); go_simp; try with_reducible rfl)
  simp only [Act.put, List.setIfInBounds_toArray, List.set_cons_zero, List.set_cons_succ]
  refine wpAnyH_take (i := 21) (oi := { dst := some 35, op := Go.Op.move (Go.Operand.tmp 34), type := 4, pos := "law.go:18", after := #[{ on := 20, ground := Go.Ground.data }, { on := 19, ground := Go.Ground.chain }], guard := none }) (v := ?_) rfl (by kernel_rfl) (by kernel_rfl) (by kernel_rfl) (fun _ _ _ h => h) (Or.inl ⟨by rfl, ?_⟩) hK2 ?_
  rotate_left
  · (intro wz hSz; (try dsimp only at hSz); go_simp; try with_reducible rfl)
  simp only [Act.put, List.setIfInBounds_toArray, List.set_cons_zero, List.set_cons_succ]
  refine wpAnyH_take (i := 22) (oi := { dst := some 36, op := Go.Op.move (Go.Operand.tmp 2), type := 22, pos := "law.go:18", after := #[{ on := 21, ground := Go.Ground.guard }], guard := some (21, true) }) (v := ?_) rfl (by kernel_rfl) (by kernel_rfl) (by kernel_rfl) (fun _ _ _ h => h) (Or.inl ⟨by rfl, ?_⟩) hK2 ?_
  rotate_left
  · (intro wz hSz; (try dsimp only at hSz); go_simp; try with_reducible rfl)
  simp only [Act.put, List.setIfInBounds_toArray, List.set_cons_zero, List.set_cons_succ]
  refine wpAnyH_ready (rs := [23]) (by kernel_rfl) (by simp) ?_
  refine AllReadyH.cons (o := { dst := some 37, op := Go.Op.call { callee := Go.Callee.value (Go.Operand.func 18), args := #[Go.Operand.tmp 36, Go.Operand.const (Go.Value.int Go.IntKind.i64 1)], argTypes := #[22, 3] }, type := 4, pos := "law.go:18", after := #[{ on := 22, ground := Go.Ground.data }, { on := 21, ground := Go.Ground.chain }, { on := 21, ground := Go.Ground.guard }], guard := some (21, true) }) rfl (fun K hK => ?_) AllReadyH.nil
  go_simp
  with_reducible refine (HF1.out.call _ (HI.out.below (Keeps.b hK2))).mono ?_
  rintro r wq3 ⟨rfl, hbq⟩
  go_wp2_with fail
  refine hK.out _ _ (Keeps.trans hK2 hbq) (fun hK3 => ?_)
  clear hK K hbq hK2
  refine wpAnyH_take (i := 24) (oi := { dst := some 38, op := Go.Op.unOp Go.UnOp.not 4 (Go.Operand.tmp 37), type := 4, pos := "law.go:18", after := #[{ on := 23, ground := Go.Ground.data }, { on := 21, ground := Go.Ground.guard }], guard := some (21, true) }) (v := ?_) rfl (by kernel_rfl) (by kernel_rfl) (by kernel_rfl) (fun _ _ _ h => h) (Or.inl ⟨by rfl, ?_⟩) hK3 ?_
  rotate_left
  · (intro wz hSz; (try dsimp only at hSz); go_simp; try with_reducible rfl)
  simp only [Act.put, List.setIfInBounds_toArray, List.set_cons_zero, List.set_cons_succ]
  refine wpAnyH_take (i := 25) (oi := { dst := some 39, op := Go.Op.pick (Go.Operand.tmp 35) (Go.Operand.tmp 38) (Go.Operand.const (Go.Value.bool false)), type := 4, pos := "law.go:18", after := #[{ on := 21, ground := Go.Ground.data }, { on := 24, ground := Go.Ground.data }], guard := none }) (v := ?_) rfl (by kernel_rfl) (by kernel_rfl) (by kernel_rfl) (fun _ _ _ h => h) (Or.inl ⟨by rfl, ?_⟩) hK3 ?_
  rotate_left
  · (intro wz hSz; (try dsimp only at hSz); go_simp; try with_reducible rfl)
  simp only [Act.put, List.setIfInBounds_toArray, List.set_cons_zero, List.set_cons_succ]
  refine wpAnyH_take (i := 26) (oi := { dst := some 40, op := Go.Op.move (Go.Operand.tmp 39), type := 4, pos := "law.go:18", after := #[{ on := 25, ground := Go.Ground.data }, { on := 23, ground := Go.Ground.chain }], guard := none }) (v := ?_) rfl (by kernel_rfl) (by kernel_rfl) (by kernel_rfl) (fun _ _ _ h => h) (Or.inl ⟨by rfl, ?_⟩) hK3 ?_
  rotate_left
  · (intro wz hSz; (try dsimp only at hSz); go_simp; try with_reducible rfl)
  simp only [Act.put, List.setIfInBounds_toArray, List.set_cons_zero, List.set_cons_succ]
  refine wpAnyH_take (i := 27) (oi := { dst := some 41, op := Go.Op.move (Go.Operand.tmp 2), type := 22, pos := "law.go:18", after := #[{ on := 26, ground := Go.Ground.guard }], guard := some (26, true) }) (v := ?_) rfl (by kernel_rfl) (by kernel_rfl) (by kernel_rfl) (fun _ _ _ h => h) (Or.inl ⟨by rfl, ?_⟩) hK3 ?_
  rotate_left
  · (intro wz hSz; (try dsimp only at hSz); go_simp; try with_reducible rfl)
  simp only [Act.put, List.setIfInBounds_toArray, List.set_cons_zero, List.set_cons_succ]
  refine wpAnyH_take (i := 28) (oi := { dst := some 42, op := Go.Op.load 25 (Go.Operand.tmp 1), type := 25, pos := "law.go:18", after := #[{ on := 26, ground := Go.Ground.guard }], guard := some (26, true) }) (v := ?_) rfl (by kernel_rfl) (by kernel_rfl) (by kernel_rfl) (fun _ _ _ h => h) (Or.inl ⟨by rfl, ?_⟩) hK3 ?_
  rotate_left
  · (intro wz hSz; have hcz0 := (Keeps.b hSz).cell (p := ⟨xb, 0, none⟩) HXL.out |>.trans HX0.out; have hcz1 := (Keeps.b hSz).cell (p := ⟨xb, 1, none⟩) HXL.out |>.trans HX1.out; go_simp; try with_reducible rfl)
  simp only [Act.put, List.setIfInBounds_toArray, List.set_cons_zero, List.set_cons_succ]
  refine wpAnyH_ready (rs := [29]) (by kernel_rfl) (by simp) ?_
  refine AllReadyH.cons (o := { dst := some 43, op := Go.Op.call { callee := Go.Callee.value (Go.Operand.func 19), args := #[Go.Operand.const (Go.Value.slice none 0 0), Go.Operand.tmp 41, Go.Operand.tmp 42], argTypes := #[22, 22, 25] }, type := 3, pos := "law.go:18", after := #[{ on := 27, ground := Go.Ground.data }, { on := 28, ground := Go.Ground.data }, { on := 26, ground := Go.Ground.chain }, { on := 26, ground := Go.Ground.guard }], guard := some (26, true) }) rfl (fun K hK => ?_) AllReadyH.nil
  go_simp
  with_reducible refine (HG.out.call _ (HI.out.below (Keeps.b hK3))).mono ?_
  rintro r wq4 ⟨rfl, hbq⟩
  go_wp2_with fail
  refine hK.out _ _ (Keeps.trans hK3 hbq) (fun hK4 => ?_)
  clear hK K hbq hK3
  refine wpAnyH_take (i := 30) (oi := { dst := some 44, op := Go.Op.binOp Go.BinOp.eql 3 (Go.Operand.tmp 43) (Go.Operand.const (Go.Value.int Go.IntKind.i64 2)) 3, type := 4, pos := "law.go:18", after := #[{ on := 29, ground := Go.Ground.data }, { on := 26, ground := Go.Ground.guard }], guard := some (26, true) }) (v := ?_) rfl (by kernel_rfl) (by kernel_rfl) (by kernel_rfl) (fun _ _ _ h => h) (Or.inl ⟨by rfl, ?_⟩) hK4 ?_
  rotate_left
  · (intro wz hSz; (try dsimp only at hSz); go_simp; try with_reducible rfl)
  simp only [Act.put, List.setIfInBounds_toArray, List.set_cons_zero, List.set_cons_succ]
  refine wpAnyH_take (i := 31) (oi := { dst := some 45, op := Go.Op.pick (Go.Operand.tmp 40) (Go.Operand.tmp 44) (Go.Operand.const (Go.Value.bool false)), type := 4, pos := "law.go:18", after := #[{ on := 26, ground := Go.Ground.data }, { on := 30, ground := Go.Ground.data }], guard := none }) (v := ?_) rfl (by kernel_rfl) (by kernel_rfl) (by kernel_rfl) (fun _ _ _ h => h) (Or.inl ⟨by rfl, ?_⟩) hK4 ?_
  rotate_left
  · (intro wz hSz; (try dsimp only at hSz); go_simp; try with_reducible rfl)
  simp only [Act.put, List.setIfInBounds_toArray, List.set_cons_zero, List.set_cons_succ]
  refine wpAnyH_take (i := 32) (oi := { dst := some 0, op := Go.Op.assign (Go.Operand.tmp 45), type := 4, pos := "law.go:18", after := #[{ on := 31, ground := Go.Ground.data }, { on := 29, ground := Go.Ground.chain }, { on := 0, ground := Go.Ground.phase }, { on := 1, ground := Go.Ground.phase }, { on := 2, ground := Go.Ground.phase }, { on := 3, ground := Go.Ground.phase }, { on := 4, ground := Go.Ground.phase }, { on := 5, ground := Go.Ground.phase }, { on := 6, ground := Go.Ground.phase }, { on := 7, ground := Go.Ground.phase }, { on := 8, ground := Go.Ground.phase }, { on := 9, ground := Go.Ground.phase }, { on := 10, ground := Go.Ground.phase }, { on := 11, ground := Go.Ground.phase }, { on := 12, ground := Go.Ground.phase }, { on := 13, ground := Go.Ground.phase }, { on := 14, ground := Go.Ground.phase }, { on := 15, ground := Go.Ground.phase }, { on := 16, ground := Go.Ground.phase }, { on := 17, ground := Go.Ground.phase }, { on := 18, ground := Go.Ground.phase }, { on := 19, ground := Go.Ground.phase }, { on := 20, ground := Go.Ground.phase }, { on := 21, ground := Go.Ground.phase }, { on := 22, ground := Go.Ground.phase }, { on := 23, ground := Go.Ground.phase }, { on := 24, ground := Go.Ground.phase }, { on := 25, ground := Go.Ground.phase }, { on := 26, ground := Go.Ground.phase }, { on := 27, ground := Go.Ground.phase }, { on := 28, ground := Go.Ground.phase }, { on := 29, ground := Go.Ground.phase }, { on := 30, ground := Go.Ground.phase }, { on := 31, ground := Go.Ground.phase }], guard := none }) (v := ?_) rfl (by kernel_rfl) (by kernel_rfl) (by kernel_rfl) (fun _ _ _ h => h) (Or.inl ⟨by rfl, ?_⟩) hK4 ?_
  rotate_left
  · (intro wz hSz; (try dsimp only at hSz); go_simp; try with_reducible rfl)
  simp only [Act.put, List.setIfInBounds_toArray, List.set_cons_zero, List.set_cons_succ]
  refine wpAnyH_done (by kernel_rfl) ?_ _
  go_wp2_with fail
  go_ret
  exact ⟨rfl, HB1.out.trans ((Keeps.b hK4).mono HB1.out.size)⟩
end Go.Proofs.Ytmddikabilnokaa.Ta

namespace Go.Proofs.Ytmddikabilnokaa.RP
open Go.ChangeShapes Go.WideShapes Go.ChangeAt Go.RowKit Go.Deep Go.Joins

theorem cInt : Try.prog.cellsOf 3 = 1 := by kernel_rfl
theorem cU64 : Try.prog.cellsOf 23 = 1 := by kernel_rfl
theorem cStr : Try.prog.cellsOf 9 = 1 := by kernel_rfl
theorem cBool : Try.prog.cellsOf 4 = 1 := by kernel_rfl
theorem cLabel : Try.prog.cellsOf 25 = 2 := by kernel_rfl

section
variable {H : Type} {enc : TypeId × Value → H} {w : World} {base : Nat} {spare : Nat → Bool} {held : Bool} {fuel : Nat} {cs : List Value} {x : DataW H × List MemPlace}
theorem list2 {α : Type} {l : List α} (h : l.length = 2) : ∃ a b, l = [a, b] := by
  match l, h with
  | [a, b], _ => exact ⟨a, b, rfl⟩
theorem list3 {α : Type} {l : List α} (h : l.length = 3) : ∃ a b c, l = [a, b, c] := by
  match l, h with
  | [a, b, c], _ => exact ⟨a, b, c, rfl⟩
theorem list4 {α : Type} {l : List α} (h : l.length = 4) : ∃ a b c d, l = [a, b, c, d] := by
  match l, h with
  | [a, b, c, d], _ => exact ⟨a, b, c, d, rfl⟩
theorem list9 {α : Type} {l : List α} (h : l.length = 9) : ∃ a b c d e f g i j, l = [a, b, c, d, e, f, g, i, j] := by
  match l, h with
  | [a, b, c, d, e, f, g, i, j], _ => exact ⟨a, b, c, d, e, f, g, i, j, rfl⟩
/-- A label's two cells. -/
theorem label_read (h : DataW.trod enc Try.prog w base spare held fuel 25 cs = some x) : ∃ (l : Int) (k : Nat), cs = [.int .i64 l, .int .u64 (k : Int)] ∧ k < 18446744073709551616 ∧ -9223372036854775808 ≤ l ∧ l ≤ 9223372036854775807 := by
  obtain ⟨y0, y1, n, -, hl, h0, h1⟩ := trod_struct2 Try.underlying25 h
  dsimp only at h0 h1
  rw [cLabel] at hl
  rw [cInt] at h0
  rw [cU64] at h1
  obtain ⟨a, b, rfl⟩ := list2 hl
  obtain ⟨l, e0, -, w0⟩ := DataW.trod_int Try.underlying3 h0
  obtain ⟨k, e1, -, w1⟩ := DataW.trod_int Try.underlying23 h1
  have e0' : a = .int .i64 l := by injection e0
  have e1' : b = .int .u64 k := by injection e1
  obtain ⟨m, rfl⟩ := Int.eq_ofNat_of_zero_le (bounds_u64 w1).1
  exact ⟨l, m, by rw [e0', e1'], by have := (bounds_u64 w1).2; omega, (bounds_i64 w0).1, (bounds_i64 w0).2⟩
end
end Go.Proofs.Ytmddikabilnokaa.RP

namespace Go.Proofs.Ytmddikabilnokaa.RI
open Go.ChangeShapes Go.WideShapes Go.ChangeAt Go.RowKit Go.Deep Go.Joins

theorem cLine : Try.prog.cellsOf 42 = 2 := by kernel_rfl
theorem cItem : Try.prog.cellsOf 44 = 6 := by kernel_rfl

section
variable {H : Type} {enc : TypeId × Value → H} {w : World} {base : Nat} {spare : Nat → Bool} {held : Bool} {fuel : Nat} {cs : List Value} {x : DataW H × List MemPlace}
theorem list6 {α : Type} {l : List α} (h : l.length = 6) : ∃ a b c d e f, l = [a, b, c, d, e, f] := by
  match l, h with
  | [a, b, c, d, e, f], _ => exact ⟨a, b, c, d, e, f, rfl⟩
theorem line_read (h : DataW.trod enc Try.prog w base spare held fuel 42 cs = some x) : ∃ (s : ByteArray) (t : Bool), cs = [.string s, .bool t] ∧ s.size ≤ maxLen := by
  obtain ⟨y0, y1, n, -, hl, h0, h1⟩ := trod_struct2 Try.underlying42 h
  dsimp only at h0 h1
  rw [cLine] at hl
  rw [RP.cStr] at h0
  rw [RP.cBool] at h1
  obtain ⟨a, b, rfl⟩ := RP.list2 hl
  obtain ⟨s, e0, -, z0⟩ := DataW.trod_string Try.underlying9 h0
  obtain ⟨t, e1, -⟩ := DataW.trod_bool Try.underlying4 h1
  have e0' : a = .string s := by injection e0
  have e1' : b = .bool t := by injection e1
  exact ⟨s, t, by rw [e0', e1'], z0⟩
set_option maxRecDepth 100000 in
theorem item_fields {c0 c1 c2 c3 c4 c5 : Value} (h : DataW.trod enc Try.prog w base spare held fuel 44 [c0, c1, c2, c3, c4, c5] = some x) :
    ∃ (n : Nat) (y0 y1 y2 y3 : DataW H × List MemPlace), DataW.trod enc Try.prog w base spare held n 3 [c0] = some y0 ∧ DataW.trod enc Try.prog w base spare held n 25 [c1, c2] = some y1 ∧ DataW.trod enc Try.prog w base spare held n 4 [c3] = some y2 ∧ DataW.trod enc Try.prog w base spare held n 42 [c4, c5] = some y3 := by
  obtain ⟨xs, n, -, -, -, hlen, hf⟩ := DataW.trod_struct Try.underlying44 h
  have hlen : xs.length = 4 := hlen
  obtain ⟨y0, y1, y2, y3, rfl⟩ := RP.list4 hlen
  refine ⟨n, y0, y1, y2, y3, ?_, ?_, ?_, ?_⟩
  · have this : DataW.trod enc Try.prog w base spare held n 3 (([c0, c1, c2, c3, c4, c5].drop 0).take (Try.prog.cellsOf 3)) = [y0, y1, y2, y3][0]? := hf 0 _ rfl
    rw [RP.cInt] at this
    exact this
  · have this : DataW.trod enc Try.prog w base spare held n 25 (([c0, c1, c2, c3, c4, c5].drop 1).take (Try.prog.cellsOf 25)) = [y0, y1, y2, y3][1]? := hf 1 _ rfl
    rw [RP.cLabel] at this
    exact this
  · have this : DataW.trod enc Try.prog w base spare held n 4 (([c0, c1, c2, c3, c4, c5].drop 3).take (Try.prog.cellsOf 4)) = [y0, y1, y2, y3][2]? := hf 2 _ rfl
    rw [RP.cBool] at this
    exact this
  · have this : DataW.trod enc Try.prog w base spare held n 42 (([c0, c1, c2, c3, c4, c5].drop 4).take (Try.prog.cellsOf 42)) = [y0, y1, y2, y3][3]? := hf 3 _ rfl
    rw [cLine] at this
    exact this
/-- An item's six cells. -/
theorem item_read (hl : cs.length = 6) (h : DataW.trod enc Try.prog w base spare held fuel 44 cs = some x) : ∃ u : I.It, cs = [.int .i64 u.id, .int .i64 u.lv, .int .u64 (u.ct : Int), .bool u.an, .string ⟨u.tx.toArray⟩, .bool u.ba] ∧ u.ct < 18446744073709551616 ∧ u.tx.length ≤ maxLen := by
  obtain ⟨c0, c1, c2, c3, c4, c5, rfl⟩ := list6 hl
  obtain ⟨n, y0, y1, y2, y3, h0, h1, h2, h3⟩ := item_fields h
  obtain ⟨i, e0, -, w0⟩ := DataW.trod_int Try.underlying3 h0
  obtain ⟨l, k, e1, hk, -, -⟩ := RP.label_read h1
  obtain ⟨an, e2, -⟩ := DataW.trod_bool Try.underlying4 h2
  obtain ⟨s, ba, e3, hz⟩ := line_read h3
  have e0' : c0 = .int .i64 i := by injection e0
  have e2' : c3 = .bool an := by injection e2
  have e1' : c1 = .int .i64 l ∧ c2 = .int .u64 (k : Int) := by injection e1 with p q; injection q with q; exact ⟨p, q⟩
  have e3' : c4 = .string s ∧ c5 = .bool ba := by injection e3 with p q; injection q with q; exact ⟨p, q⟩
  exact ⟨⟨i, l, k, an, s.data.toList, ba⟩, by rw [e0', e1'.1, e1'.2, e2', e3'.1, e3'.2], hk, by show s.data.toList.length ≤ maxLen; rw [← Lib.size_eq]; exact hz⟩
instance : Inhabited I.It := ⟨⟨0, 0, 0, false, [], false⟩⟩
theorem items_read (h : DataW.trod enc Try.prog w base spare held fuel 22 cs = some x) : ∃ (A : Option Addr) (cap : Nat) (us : List I.It), cs = [.slice A us.length cap] ∧ I.ItemsIn w A us ∧ I.ItemsOk us := by
  rcases open_slice Try.underlying22 h with ⟨hcs, hx⟩ | ⟨a, len, cap, m, n, D, Pl, hcs, _, hl, hm, hmm, hx, hcell⟩
  · exact ⟨none, 0, [], hcs, fun h => absurd h (by simp), ⟨Nat.zero_le _, fun x hx => (by cases hx), fun x hx => (by cases hx)⟩⟩
  have hle : len ≤ m := by rw [hmm]; split <;> omega
  obtain ⟨f, hf⟩ := choose_lt (n := len) (p := fun i (u : I.It) => (w.cell? (a.add (i * 6 + 0)) = some (.int .i64 u.id) ∧ w.cell? (a.add (i * 6 + 1)) = some (.int .i64 u.lv) ∧ w.cell? (a.add (i * 6 + 2)) = some (.int .u64 (u.ct : Int)) ∧ w.cell? (a.add (i * 6 + 3)) = some (.bool u.an) ∧ w.cell? (a.add (i * 6 + 4)) = some (.string ⟨u.tx.toArray⟩) ∧ w.cell? (a.add (i * 6 + 5)) = some (.bool u.ba)) ∧ u.ct < 18446744073709551616 ∧ u.tx.length ≤ maxLen) (fun i hi => by
    obtain ⟨cs', c1, c2⟩ := hcell i (by omega)
    rw [cItem] at c1
    obtain ⟨_, hlen, hat⟩ := World.cells?_some c1
    obtain ⟨u, rfl, hu⟩ := item_read (by simpa using hlen) c2
    have q0 := hat 0 (by omega)
    have q1 := hat 1 (by omega)
    have q2 := hat 2 (by omega)
    have q3 := hat 3 (by omega)
    have q4 := hat 4 (by omega)
    have q5 := hat 5 (by omega)
    rw [Go.Deep.add_add] at q0 q1 q2 q3 q4 q5
    exact ⟨u, ⟨q0, q1, q2, q3, q4, q5⟩, hu⟩)
  have htl : ((List.range len).map f).length = len := by simp
  refine ⟨some a, cap, (List.range len).map f, by rw [htl, hcs], fun hp => ?_, ⟨by rw [htl]; omega, fun u hu => ?_, fun u hu => ?_⟩⟩
  · rw [htl] at hp
    obtain ⟨bk, off, spot⟩ := a
    have hspot : spot = none := by simpa [Addr.add] using World.cell?_spot (hf 0 hp).1.1
    subst hspot
    have h0 := (hf 0 hp).1.1
    refine ⟨bk, off, rfl, World.block_lt_of_cell? w _ h0, fun j hj => ?_⟩
    rw [htl] at hj
    have := (hf j hj).1
    simp only [add_plain, ← Nat.add_assoc, Nat.add_zero] at this
    simp only [List.getElem_map, List.getElem_range]
    exact this
  · obtain ⟨i, hi, rfl⟩ := List.mem_map.1 hu
    exact (hf i (List.mem_range.1 hi)).2.2
  · obtain ⟨i, hi, rfl⟩ := List.mem_map.1 hu
    exact (hf i (List.mem_range.1 hi)).2.1
set_option maxRecDepth 100000 in
theorem items_arg {r : Reach} {b0 : Nat} {v : Value} {d : DataW H} {p : List MemPlace} (hv : Value.okWide Try.prog w r b0 22 v) (h : DataW.Trod enc Try.prog w base spare held 22 v d p) :
    ∃ (A : Option Addr) (cap : Nat) (us : List I.It), v = .slice A us.length cap ∧ I.ItemsIn w A us ∧ I.ItemsOk us := by
  obtain ⟨a0, len, cap, rfl⟩ := okWide_slice Try.underlying22 hv
  obtain ⟨fuel, hf⟩ := h
  obtain ⟨A, cap', us, hcs, r⟩ := items_read hf
  simp only [Value.cells, List.cons.injEq, Value.slice.injEq, and_true] at hcs
  obtain ⟨rfl, rfl, rfl⟩ := hcs
  exact ⟨_, _, us, rfl, r⟩
end
end Go.Proofs.Ytmddikabilnokaa.RI

namespace Go.Proofs.Ytmddikabilnokaa.Bulk

theorem bound {H : Type} {l : List (DataW H)} (hk : Rows.uptoSmall H l = true) : Rows.uptoBulkAll l ≤ 1048576 := of_decide_eq_true hk
theorem string_bulk {H : Type} (b : List UInt8) : Rows.uptoBulk (DataW.lit (H := H) (.string b)) = b.length + 1 := by simp [Rows.uptoBulk]
/-- One text: so many bytes at the most. -/
theorem string_size {H : Type} {s : ByteArray} {r : List (DataW H)} (hk : Rows.uptoSmall H ([.lit (.string s.data.toList)] ++ r) = true) : s.size ≤ 1048576 := by
  have h := bound hk
  simp only [List.cons_append, List.nil_append, Rows.uptoBulkAll, string_bulk] at h
  have := Lib.size_eq s
  omega
/-- A text behind one or two other arguments. -/
theorem string_size2 {H : Type} {a : DataW H} {s : ByteArray} {r : List (DataW H)} (hk : Rows.uptoSmall H ([a, .lit (.string s.data.toList)] ++ r) = true) : s.size ≤ 1048576 := by
  have h := bound hk
  simp only [List.cons_append, List.nil_append, Rows.uptoBulkAll, string_bulk] at h
  have := Lib.size_eq s
  omega
theorem string_size3 {H : Type} {a b : DataW H} {s : ByteArray} {r : List (DataW H)} (hk : Rows.uptoSmall H ([a, b, .lit (.string s.data.toList)] ++ r) = true) : s.size ≤ 1048576 := by
  have h := bound hk
  simp only [List.cons_append, List.nil_append, Rows.uptoBulkAll, string_bulk] at h
  have := Lib.size_eq s
  omega
/-- One or two arguments, whatever they are. -/
theorem one {H : Type} {a : DataW H} {r : List (DataW H)} (hk : Rows.uptoSmall H ([a] ++ r) = true) : Rows.uptoBulk a ≤ 1048576 := by
  have h := bound hk
  simp only [List.cons_append, List.nil_append, Rows.uptoBulkAll] at h
  omega
theorem two {H : Type} {a b : DataW H} {r : List (DataW H)} (hk : Rows.uptoSmall H ([a, b] ++ r) = true) : Rows.uptoBulk a ≤ 1048576 ∧ Rows.uptoBulk b ≤ 1048576 := by
  have h := bound hk
  simp only [List.cons_append, List.nil_append, Rows.uptoBulkAll] at h
  omega
end Go.Proofs.Ytmddikabilnokaa.Bulk

namespace Go.Proofs.Ytmddikabilnokaa.RI
open Go.ChangeShapes Go.WideShapes Go.ChangeAt Go.RowKit Go.Deep Go.Joins

section
variable {H : Type} {enc : TypeId × Value → H} {w : World} {base : Nat} {spare : Nat → Bool} {held : Bool} {fuel : Nat} {cs : List Value} {x : DataW H × List MemPlace}
def itBulk : List I.It → Nat
  | [] => 0
  | u :: r => u.tx.length + 1 + itBulk r
theorem itBulk_le {H : Type} (D : Nat → DataW H) (f : Nat → I.It) : ∀ is : List Nat, (∀ i ∈ is, (f i).tx.length + 1 ≤ Rows.uptoBulk (D i)) → itBulk (is.map f) ≤ Rows.uptoBulkAll (is.map D)
  | [], _ => Nat.le_refl _
  | i :: r, h => by
    have := itBulk_le D f r (fun j hj => h j (by simp [hj]))
    have := h i (by simp)
    simp only [List.map_cons, itBulk, Rows.uptoBulkAll]
    omega
theorem itBulk_len : ∀ l : List I.It, l.length ≤ itBulk l
  | [] => Nat.le_refl _
  | u :: r => by have := itBulk_len r; simp only [List.length_cons, itBulk]; omega
theorem itBulk_cut (o : I.Lb) : ∀ l : List I.It, itBulk (V.cut o l) ≤ itBulk l
  | [] => Nat.le_refl _
  | u :: r => by
    have := itBulk_cut o r
    by_cases hu : V.sees o u = true
    · have e : V.cut o (u :: r) = u :: V.cut o r := by simp [V.cut, hu]
      rw [e, itBulk, itBulk]; omega
    · have e : V.cut o (u :: r) = V.cut o r := by simp [V.cut, hu]
      rw [e, itBulk]; omega
theorem bulk_lns (h : List UInt8) : ∀ l : List I.It, P.bulk (V.lns h l) ≤ itBulk l + l.length * h.length
  | [] => Nat.zero_le _
  | [x] => by
    have : (V.txt h x).length ≤ x.tx.length + h.length := by unfold V.txt; split <;> omega
    simp only [V.lns, P.bulk, itBulk, List.length_cons, List.length_nil, Nat.zero_add, Nat.one_mul]
    omega
  | x :: y :: r => by
    have ih := bulk_lns h (y :: r)
    have : (V.txt h x).length ≤ x.tx.length + h.length := by unfold V.txt; split <;> omega
    rw [V.lns, P.bulk, itBulk, List.length_cons, Nat.add_mul, Nat.one_mul]
    omega
theorem bulk_view {h : List UInt8} {o : I.Lb} {l : List I.It} (h1 : itBulk l ≤ 1048576) (h2 : h.length ≤ 1048576) : P.bulk (V.lns h (V.cut o l)) ≤ 70368744177664 := by
  have a := bulk_lns h (V.cut o l)
  have b := itBulk_cut o l
  have c := itBulk_len (V.cut o l)
  have d : (V.cut o l).length * h.length ≤ 1048576 * 1048576 := Nat.mul_le_mul (by omega) h2
  omega
theorem item_bulk {s : ByteArray} {c0 c1 c2 c3 c5 : Value} (h : DataW.trod enc Try.prog w base spare held fuel 44 [c0, c1, c2, c3, .string s, c5] = some x) : s.data.toList.length + 1 ≤ Rows.uptoBulk x.1 := by
  obtain ⟨xs, n, -, hx, -, hlen, hf⟩ := DataW.trod_struct Try.underlying44 h
  have hlen : xs.length = 4 := hlen
  obtain ⟨y0, y1, y2, y3, rfl⟩ := RP.list4 hlen
  have h3 : DataW.trod enc Try.prog w base spare held n 42 (([c0, c1, c2, c3, .string s, c5].drop 4).take (Try.prog.cellsOf 42)) = [y0, y1, y2, y3][3]? := hf 3 _ rfl
  rw [cLine] at h3
  obtain ⟨z0, z1, k, hz, hl, g0, g1⟩ := trod_struct2 Try.underlying42 (show DataW.trod enc Try.prog w base spare held n 42 [.string s, c5] = some y3 from h3)
  dsimp only at g0 g1
  rw [RP.cStr] at g0
  obtain ⟨s', e0, hd, -⟩ := DataW.trod_string Try.underlying9 g0
  have e0' : s = s' := by injection e0 with p; injection p
  subst e0'
  rw [hx, hz]
  have hz0 : z0.1 = .lit (.string s.data.toList) := by rw [hd]
  simp only [List.map_cons, List.map_nil, Rows.uptoBulk, Rows.uptoBulkAll, hz0]
  omega
theorem items_readB (h : DataW.trod enc Try.prog w base spare held fuel 22 cs = some x) : ∃ (A : Option Addr) (cap : Nat) (us : List I.It), cs = [.slice A us.length cap] ∧ I.ItemsIn w A us ∧ I.ItemsOk us ∧ itBulk us ≤ Rows.uptoBulk x.1 := by
  rcases open_slice Try.underlying22 h with ⟨hcs, hx⟩ | ⟨a, len, cap, m, n, D, Pl, hcs, _, hl, hm, hmm, hx, hcell⟩
  · exact ⟨none, 0, [], hcs, fun h => absurd h (by simp), ⟨Nat.zero_le _, fun x hx => (by cases hx), fun x hx => (by cases hx)⟩, Nat.zero_le _⟩
  have hle : len ≤ m := by rw [hmm]; split <;> omega
  obtain ⟨f, hf⟩ := choose_lt (n := len) (p := fun i (u : I.It) => (w.cell? (a.add (i * 6 + 0)) = some (.int .i64 u.id) ∧ w.cell? (a.add (i * 6 + 1)) = some (.int .i64 u.lv) ∧ w.cell? (a.add (i * 6 + 2)) = some (.int .u64 (u.ct : Int)) ∧ w.cell? (a.add (i * 6 + 3)) = some (.bool u.an) ∧ w.cell? (a.add (i * 6 + 4)) = some (.string ⟨u.tx.toArray⟩) ∧ w.cell? (a.add (i * 6 + 5)) = some (.bool u.ba)) ∧ u.ct < 18446744073709551616 ∧ u.tx.length ≤ maxLen ∧ u.tx.length + 1 ≤ Rows.uptoBulk (D i)) (fun i hi => by
    obtain ⟨cs', c1, c2⟩ := hcell i (by omega)
    rw [cItem] at c1
    obtain ⟨_, hlen, hat⟩ := World.cells?_some c1
    obtain ⟨u, rfl, hu⟩ := item_read (by simpa using hlen) c2
    have hub := item_bulk c2
    have q0 := hat 0 (by omega)
    have q1 := hat 1 (by omega)
    have q2 := hat 2 (by omega)
    have q3 := hat 3 (by omega)
    have q4 := hat 4 (by omega)
    have q5 := hat 5 (by omega)
    rw [Go.Deep.add_add] at q0 q1 q2 q3 q4 q5
    exact ⟨u, ⟨q0, q1, q2, q3, q4, q5⟩, hu.1, hu.2, by simpa using hub⟩)
  have htl : ((List.range len).map f).length = len := by simp
  refine ⟨some a, cap, (List.range len).map f, by rw [htl, hcs], fun hp => ?_, ⟨by rw [htl]; omega, fun u hu => ?_, fun u hu => ?_⟩, ?_⟩
  · rw [htl] at hp
    obtain ⟨bk, off, spot⟩ := a
    have hspot : spot = none := by simpa [Addr.add] using World.cell?_spot (hf 0 hp).1.1
    subst hspot
    have h0 := (hf 0 hp).1.1
    refine ⟨bk, off, rfl, World.block_lt_of_cell? w _ h0, fun j hj => ?_⟩
    rw [htl] at hj
    have := (hf j hj).1
    simp only [add_plain, ← Nat.add_assoc, Nat.add_zero] at this
    simp only [List.getElem_map, List.getElem_range]
    exact this
  · obtain ⟨i, hi, rfl⟩ := List.mem_map.1 hu
    exact (hf i (List.mem_range.1 hi)).2.2.1
  · obtain ⟨i, hi, rfl⟩ := List.mem_map.1 hu
    exact (hf i (List.mem_range.1 hi)).2.1
  · rw [hx]
    have := itBulk_le D f (List.range len) (fun i hi => (hf i (List.mem_range.1 hi)).2.2.2)
    simp only [Rows.uptoBulk]
    omega
set_option maxRecDepth 100000 in
theorem items_argB {r : Reach} {b0 : Nat} {v : Value} {d : DataW H} {p : List MemPlace} (hv : Value.okWide Try.prog w r b0 22 v) (h : DataW.Trod enc Try.prog w base spare held 22 v d p) :
    ∃ (A : Option Addr) (cap : Nat) (us : List I.It), v = .slice A us.length cap ∧ I.ItemsIn w A us ∧ I.ItemsOk us ∧ itBulk us ≤ Rows.uptoBulk d := by
  obtain ⟨a0, len, cap, rfl⟩ := okWide_slice Try.underlying22 hv
  obtain ⟨fuel, hf⟩ := h
  obtain ⟨A, cap', us, hcs, r⟩ := items_readB hf
  simp only [Value.cells, List.cons.injEq, Value.slice.injEq, and_true] at hcs
  obtain ⟨rfl, rfl, rfl⟩ := hcs
  exact ⟨_, _, us, rfl, r⟩
end
end Go.Proofs.Ytmddikabilnokaa.RI

namespace Go.Proofs.Ytmddikabilnokaa.RI
open Go.ChangeShapes Go.WideShapes Go.ChangeAt Go.RowKit Go.Deep Go.Joins

set_option maxRecDepth 100000 in
theorem items_cap {H : Type} {enc : TypeId × Value → H} {W : World} {base : Nat} {sp : Nat → Bool} {held : Bool} {A : Option Addr} {n cap : Nat} {d : DataW H} {p : List MemPlace}
    (h : DataW.Trod enc Try.prog W base sp held 22 (.slice A n cap) d p) : n ≤ cap ∧ (A = none → cap = 0) := by
  obtain ⟨fuel, hf⟩ := h
  rcases open_slice Try.underlying22 hf with ⟨hcs, _⟩ | ⟨a, len', cap', _, _, _, _, hcs, _, hl, _⟩
  · simp only [Value.cells, List.cons.injEq, Value.slice.injEq, and_true] at hcs
    obtain ⟨rfl, rfl, rfl⟩ := hcs
    exact ⟨Nat.le_refl _, fun _ => rfl⟩
  · simp only [Value.cells, List.cons.injEq, Value.slice.injEq, and_true] at hcs
    obtain ⟨rfl, rfl, rfl⟩ := hcs
    exact ⟨hl, fun h => by cases h⟩
end Go.Proofs.Ytmddikabilnokaa.RI
