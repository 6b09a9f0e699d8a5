/-
  The contract of the reference's Of: the pieces of three texts.
  The contract of the reference's Of in all cases; pieces to be read in an own row.
  A map from lines to numbers, kept as the list of the lines that it knows, in the order of their numbers; the contract of intern's number.
  The contract of intern's number: the numbers of lines, those that are known going on.
  The contract of intern's Numbers: rows of numbers in memory.
  Of lists the first five count, and of each sixty lines.
-/
import Derived.Test.YtkflhcfopejigaaGgm
import Derived.Test.YtkflhcfopejigaaGgl
import Derived.BigQuiet
import Derived.Test.YtkflhcfopejigaaGgi
import Derived.Test.YtkflhcfopejigaaGgb
import Derived.Maps.OwnSet
import Derived.Maps.Views
import Derived.DeepKeys4
import Derived.WideKeyPair
import Derived.Test.YtkflhcfopejigaaGgc
import Derived.Deep.AppendLies
import Derived.Deep.RegionLaw
namespace Go.Proofs.Ytkflhcfopejigaa.Mg
set_option linter.unusedVariables false
set_option linter.unusedSimpArgs false
open Go.RowKit
open T
open V (drawn_below)
open I (alloc1 own_at own_below)
open Ck
open Mt (Pr fnd Rt right right_iff)
open N (PrIn PrIn.below)

theorem own_lines2 {w : World} {base cap : Nat} {A : Option Addr} {l : List Ln} (h : w.ownsRow base 51 2 (.slice A l.length cap) l.length (lineCells l)) : LinesIn w A l := fun hp => by
  obtain ⟨g, hA, _, hlt, hc⟩ := own_at h hp
  exact ⟨g, 0, hA, hlt, fun j hj => ⟨by rw [Nat.zero_add]; exact hc _ _ (lineCells_at l j hj).1, by rw [Nat.zero_add]; exact hc _ _ (lineCells_at l j hj).2⟩⟩
set_option maxRecDepth 100000 in
set_option maxHeartbeats 8000000 in
theorem rof_good {P Q O A B : Option Addr} {cp cq co ca cb : Nat} {p q : List Pr} {o a b : List Ln} (w : World) (hO : Tx w O co o) (hA : Tx w A ca a) (hB : Tx w B cb b) (hP : PrIn w P p) (hQ : PrIn w Q q) (hp : p.length ≤ 1000) (hq : q.length ≤ 1000) (hc : can p q o.length a.length b.length) :
    Calls Try.prog 11 #[.slice O o.length co, .slice A a.length ca, .slice B b.length cb, .slice P p.length cp, .slice Q q.length cq] w (PoEnd w (pieces o a b p q) (perr o a b p q)) := by
  obtain ⟨i0, hi0, hz0, hz1, hz2⟩ := info_parts infoPiece
  have HCN := Lib.hid hc
  have HC := Lib.hid ((c_rof p q o.length a.length b.length hp hq).at cp cq hP hQ)
  rw [show err p q (o.length : Int) a.length b.length = 0 from if_pos hc] at HC
  have HCL := Lib.hid (chunks_len p q o.length a.length b.length)
  have HO := Lib.hid hO
  have HA := Lib.hid hA
  have HB := Lib.hid hB
  have HP := Lib.hid hP
  have HQ := Lib.hid hQ
  have HRP := Lib.hid (right_iff.1 hc.2.1)
  have HRQ := Lib.hid (right_iff.1 hc.2.2)
  have HBD := Lib.hid hc.1
  have HPE : Hid (perr o a b p q = if like p o a = true ∧ like q o b = true then 0 else 3) := Lib.hid (if_pos hc)
  have HPC : Hid (pieces o a b p q = if like p o a = true ∧ like q o b = true then (chunks p q o.length a.length b.length).map fun c => ⟨side c o a b, c⟩ else []) := Lib.hid rfl
  obtain ⟨n1, hn1⟩ : ∃ n, n = o.length := ⟨_, rfl⟩
  obtain ⟨n2, hn2⟩ : ∃ n, n = a.length := ⟨_, rfl⟩
  obtain ⟨n3, hn3⟩ : ∃ n, n = b.length := ⟨_, rfl⟩
  have HN := Lib.hid (And.intro hn1 (And.intro hn2 hn3))
  rw [← hn1, ← hn2, ← hn3] at HC HCL HPC ⊢
  generalize pieces o a b p q = ps at *
  generalize perr o a b p q = E at *
  have HIN := Lib.hid (fun (c : Ck) (h : c ∈ chunks p q n1 n2 n3) => in3_of (p := p) (q := q) hc (by rw [← hn1, ← hn2, ← hn3]; exact h))
  generalize chunks p q n1 n2 n3 = ch at *
  clear hO hA hB hP hQ hc hn1 hn2 hn3
  go_enter Try.func11, Try.ntmps11
  go_wp2_with fail
  with_reducible refine HC.out.mono ?_
  rintro e w1 ⟨C1, k1, rfl, h1, hb1⟩
  have HB1 := Lib.hid hb1
  have H1 := Lib.hid h1
  replace HO := Lib.hid (HO.out.below hb1)
  replace HA := Lib.hid (HA.out.below hb1)
  replace HB := Lib.hid (HB.out.below hb1)
  replace HP := Lib.hid (HP.out.below hb1)
  replace HQ := Lib.hid (HQ.out.below hb1)
  clear hb1 h1 HC
  go_wp2_with fail
  go_loopg [14] p.length (fun m i wr => ∃ k : Nat, k ≤ p.length ∧ i = .int .i64 (k : Int) ∧ p.length - k ≤ m ∧ Below w1.heap.size w1 wr ∧ Hid (like p o a = like (p.drop k) o a))
  case atStart => exact ⟨0, Nat.zero_le _, rfl, by omega, Below.refl _ _, Lib.hid rfl⟩
  case round =>
    obtain ⟨k, hk, rfl, hm, hbr, HF⟩ := hrel
    by_cases hlt : k < p.length
    · obtain ⟨bk, off, hAe, hbk, hI⟩ := HP.out (by omega)
      subst hAe
      obtain ⟨q0, q1⟩ := hI k hlt
      have c0 := (hbr.cell (p := ⟨bk, off + k * 2, none⟩) hbk).trans q0
      have c1 := (hbr.cell (p := ⟨bk, off + k * 2 + 1, none⟩) hbk).trans q1
      have hz := HRP.out.all _ (List.getElem_mem hlt)
      have HNN := Lib.hid (like_at hlt o a)
      have h0k : (0 : Int) ≤ (k : Int) := by omega
      have hki : (k : Int) < (p.length : Int) := by omega
      obtain ⟨z0, z1, hzz⟩ : ∃ z0 z1, p[k]'hlt = (z0, z1) := ⟨_, _, rfl⟩
      rw [hzz] at c0 c1 hz HNN
      simp only at c0 c1 hz HNN
      obtain ⟨i, rfl⟩ : ∃ i : Nat, z0 = i := ⟨z0.toNat, by omega⟩
      obtain ⟨j, rfl⟩ : ∃ j : Nat, z1 = j := ⟨z1.toNat, by omega⟩
      obtain ⟨bx, ox, hXe, hbx, hXI⟩ := (HO.out.i) (by omega)
      obtain ⟨by', oy, hYe, hby, hYI⟩ := (HA.out.i) (by omega)
      subst hXe hYe
      have hi : i < o.length := by omega
      have hj : j < a.length := by omega
      have f0 := (hbr.cell (p := ⟨bx, ox + i * 2, none⟩) hbx).trans (hXI i hi).1
      have f1 := (hbr.cell (p := ⟨by', oy + j * 2, none⟩) hby).trans (hYI j hj).1
      have HXI := Lib.hid (show o[i]? = some (o[i]'hi) from List.getElem?_eq_getElem hi)
      have HYI := Lib.hid (show a[j]? = some (a[j]'hj) from List.getElem?_eq_getElem hj)
      have h0i : (0 : Int) ≤ (i : Int) := by omega
      have h0j : (0 : Int) ≤ (j : Int) := by omega
      have hix : (i : Int) < (n1 : Int) := by have := HN.out; omega
      have hjy : (j : Int) < (n2 : Int) := by have := HN.out; omega
      generalize o[i]'hi = u at *
      generalize a[j]'hj = v at *
      obtain ⟨us, ub⟩ := u
      obtain ⟨vs, vb⟩ := v
      simp only at f0 f1
      have HBR := Lib.hid hbr
      clear hI q0 q1 hXI hYI hzz hbr hi hj hz
      rw [Int.toNat_natCast, Int.toNat_natCast, HXI.out, HYI.out] at HNN
      by_cases huv : us = vs
      · subst huv
        have HN2 := Lib.hid (show like (p.drop k) o a = like (p.drop (k + 1)) o a by rw [HNN.out]; simp)
        clear HNN
        go_wp2_with fail
        go_quiet (fail)
        go_wp2_with fail
        go_roundg (p.length - (k + 1))
        case rel => exact ⟨k + 1, by omega, by go_num, Nat.le_refl _, HBR.out.trans ((drawn_below _ _).mono HBR.out.size), Lib.hid (HF.out.trans HN2.out)⟩
        case measure => omega
      · have HN2 := Lib.hid (show like p o a = false by rw [HF.out, HNN.out]; simp [huv])
        have hd : (us == vs) = false := beq_eq_false_iff_ne.2 huv
        have HL := Lib.hid (HPC.out.trans (if_neg (fun h => by rw [HN2.out] at h; exact absurd h.1 (by decide))))
        have HE := Lib.hid (HPE.out.trans (if_neg (fun h => by rw [HN2.out] at h; exact absurd h.1 (by decide))))
        clear HNN huv HPC HPE
        go_wp2_with fail
        go_quiet (fail)
        go_wp2_with fail
        refine bodyPost_ret (v := .tuple #[.slice none 0 0, .int .i64 3]) (by simp [results, Try.results11, go_sem]) rfl ?_
        rw [HL.out, HE.out]
        exact ⟨none, 0, rfl, World.ownsRow_nil _ _ _ _, HB1.out.trans ((HBR.out.trans ((drawn_below _ _).mono HBR.out.size)).mono HB1.out.size)⟩
    · obtain rfl : k = p.length := by omega
      have HLA := Lib.hid (show like p o a = true by rw [HF.out, List.drop_length]; rfl)
      have HBR := Lib.hid hbr
      clear HF hbr
      go_wp2_with fail
      go_loopg [15] q.length (fun m i wr => ∃ k : Nat, k ≤ q.length ∧ i = .int .i64 (k : Int) ∧ q.length - k ≤ m ∧ Below w1.heap.size w1 wr ∧ Hid (like q o b = like (q.drop k) o b))
      case atStart => exact ⟨0, Nat.zero_le _, rfl, by omega, HBR.out, Lib.hid rfl⟩
      case round =>
        obtain ⟨k, hk, rfl, hm, hbr, HF⟩ := hrel
        by_cases hlt : k < q.length
        · obtain ⟨bk, off, hAe, hbk, hI⟩ := HQ.out (by omega)
          subst hAe
          obtain ⟨q0, q1⟩ := hI k hlt
          have c0 := (hbr.cell (p := ⟨bk, off + k * 2, none⟩) hbk).trans q0
          have c1 := (hbr.cell (p := ⟨bk, off + k * 2 + 1, none⟩) hbk).trans q1
          have hz := HRQ.out.all _ (List.getElem_mem hlt)
          have HNN := Lib.hid (like_at hlt o b)
          have h0k : (0 : Int) ≤ (k : Int) := by omega
          have hki : (k : Int) < (q.length : Int) := by omega
          obtain ⟨z0, z1, hzz⟩ : ∃ z0 z1, q[k]'hlt = (z0, z1) := ⟨_, _, rfl⟩
          rw [hzz] at c0 c1 hz HNN
          simp only at c0 c1 hz HNN
          obtain ⟨i, rfl⟩ : ∃ i : Nat, z0 = i := ⟨z0.toNat, by omega⟩
          obtain ⟨j, rfl⟩ : ∃ j : Nat, z1 = j := ⟨z1.toNat, by omega⟩
          obtain ⟨bx, ox, hXe, hbx, hXI⟩ := (HO.out.i) (by omega)
          obtain ⟨by', oy, hYe, hby, hYI⟩ := (HB.out.i) (by omega)
          subst hXe hYe
          have hi : i < o.length := by omega
          have hj : j < b.length := by omega
          have f0 := (hbr.cell (p := ⟨bx, ox + i * 2, none⟩) hbx).trans (hXI i hi).1
          have f1 := (hbr.cell (p := ⟨by', oy + j * 2, none⟩) hby).trans (hYI j hj).1
          have HXI := Lib.hid (show o[i]? = some (o[i]'hi) from List.getElem?_eq_getElem hi)
          have HYI := Lib.hid (show b[j]? = some (b[j]'hj) from List.getElem?_eq_getElem hj)
          have h0i : (0 : Int) ≤ (i : Int) := by omega
          have h0j : (0 : Int) ≤ (j : Int) := by omega
          have hix : (i : Int) < (n1 : Int) := by have := HN.out; omega
          have hjy : (j : Int) < (n3 : Int) := by have := HN.out; omega
          generalize o[i]'hi = u at *
          generalize b[j]'hj = v at *
          obtain ⟨us, ub⟩ := u
          obtain ⟨vs, vb⟩ := v
          simp only at f0 f1
          have HBR := Lib.hid hbr
          clear hI q0 q1 hXI hYI hzz hbr hi hj hz
          rw [Int.toNat_natCast, Int.toNat_natCast, HXI.out, HYI.out] at HNN
          by_cases huv : us = vs
          · subst huv
            have HN2 := Lib.hid (show like (q.drop k) o b = like (q.drop (k + 1)) o b by rw [HNN.out]; simp)
            clear HNN
            go_wp2_with fail
            go_quiet (fail)
            go_wp2_with fail
            go_roundg (q.length - (k + 1))
            case rel => exact ⟨k + 1, by omega, by go_num, Nat.le_refl _, HBR.out.trans ((drawn_below _ _).mono HBR.out.size), Lib.hid (HF.out.trans HN2.out)⟩
            case measure => omega
          · have HN2 := Lib.hid (show like q o b = false by rw [HF.out, HNN.out]; simp [huv])
            have hd : (us == vs) = false := beq_eq_false_iff_ne.2 huv
            have HL := Lib.hid (HPC.out.trans (if_neg (fun h => by rw [HN2.out] at h; exact absurd h.2 (by decide))))
            have HE := Lib.hid (HPE.out.trans (if_neg (fun h => by rw [HN2.out] at h; exact absurd h.2 (by decide))))
            clear HNN huv HPC HPE
            go_wp2_with fail
            go_quiet (fail)
            go_wp2_with fail
            refine bodyPost_ret (v := .tuple #[.slice none 0 0, .int .i64 3]) (by simp [results, Try.results11, go_sem]) rfl ?_
            rw [HL.out, HE.out]
            exact ⟨none, 0, rfl, World.ownsRow_nil _ _ _ _, HB1.out.trans ((HBR.out.trans ((drawn_below _ _).mono HBR.out.size)).mono HB1.out.size)⟩
        · obtain rfl : k = q.length := by omega
          have HLB := Lib.hid (show like q o b = true by rw [HF.out, List.drop_length]; rfl)
          have HBR := Lib.hid hbr
          clear HF hbr
          go_wp2_with fail
          have HL := Lib.hid (HPC.out.trans (if_pos ⟨HLA.out, HLB.out⟩))
          have HE := Lib.hid (HPE.out.trans (if_pos ⟨HLA.out, HLB.out⟩))
          have hcl := HCL.out
          replace HO := Lib.hid (HO.out.below HBR.out)
          replace HA := Lib.hid (HA.out.below HBR.out)
          replace HB := Lib.hid (HB.out.below HBR.out)
          replace H1 := Lib.hid (H1.out.below HBR.out)
          replace HB1 := Lib.hid (HB1.out.trans (HBR.out.mono HB1.out.size))
          clear HPC HPE HLA HLB HBR HCL HP HQ HRP HRQ HCN
          obtain ⟨wo, hwo⟩ : ∃ z : World, z = wr := ⟨_, rfl⟩
          subst hwo
          go_loopg [16, 17] ch.length (fun m v i wx => ∃ (k : Nat) (V : Option Addr) (vc : Nat), k ≤ ch.length ∧ i = .int .i64 (k : Int) ∧ v = .slice V k vc ∧ ch.length - k ≤ m ∧ wx.ownsRow wo.heap.size 43 8 (.slice V k vc) k (pcCells ((ch.take k).map fun c => ⟨side c o a b, c⟩)) ∧ Below wo.heap.size wo wx)
          case atStart => exact ⟨0, some ⟨wo.heap.size, 0, none⟩, 0, Nat.zero_le _, rfl, rfl, by omega, World.ownsRow_made (size := 8) (e := 43) wo #[] 0 (Nat.le_refl _) (by unfold maxLen; omega) rfl, alloc1 _ _⟩
          case round =>
            obtain ⟨k, V, vc, hk, rfl, rfl, hm, hown, hbr⟩ := hrel
            by_cases hlt : k < ch.length
            · obtain ⟨b1, o1, hAe, hb1, hI1⟩ := H1.out (by omega)
              subst hAe
              obtain ⟨d0, d1, d2, d3, d4, d5, d6⟩ := hI1 k hlt
              have g0 := (hbr.cell (p := ⟨b1, _, none⟩) hb1).trans d0
              have g1 := (hbr.cell (p := ⟨b1, _, none⟩) hb1).trans d1
              have g2 := (hbr.cell (p := ⟨b1, _, none⟩) hb1).trans d2
              have g3 := (hbr.cell (p := ⟨b1, _, none⟩) hb1).trans d3
              have g4 := (hbr.cell (p := ⟨b1, _, none⟩) hb1).trans d4
              have g5 := (hbr.cell (p := ⟨b1, _, none⟩) hb1).trans d5
              have g6 := (hbr.cell (p := ⟨b1, _, none⟩) hb1).trans d6
              have HIC := Lib.hid (HIN.out _ (List.getElem_mem hlt))
              have HTK : Hid ((ch.take (k + 1)).map (fun c => (⟨side c o a b, c⟩ : Pc)) = (ch.take k).map (fun c => ⟨side c o a b, c⟩) ++ [⟨side (ch[k]'hlt) o a b, ch[k]'hlt⟩]) := Lib.hid (by rw [List.take_succ_eq_append_getElem hlt, List.map_append]; rfl)
              obtain ⟨x, hx⟩ : ∃ x : Ck, ch[k]'hlt = x := ⟨_, rfl⟩
              rw [hx] at g0 g1 g2 g3 g4 g5 g6 HIC HTK
              obtain ⟨xst, xo, xon, xa, xan, xb, xbn⟩ := x
              simp only at g0 g1 g2 g3 g4 g5 g6
              obtain ⟨W1, hW1⟩ : ∃ W : World, W = wr.alloc (.cells #[.bool xst, .int .i64 xo, .int .i64 xon, .int .i64 xa, .int .i64 xan, .int .i64 xb, .int .i64 xbn] 41) := ⟨_, rfl⟩
              have hb4 : Below wr.heap.size wr W1 := by rw [hW1]; exact alloc1 _ _
              have hB1 := hbr.trans (hb4.mono hbr.size)
              have hx1 : W1.heap[wr.heap.size]? = some (.cells #[.bool xst, .int .i64 xo, .int .i64 xon, .int .i64 xa, .int .i64 xan, .int .i64 xb, .int .i64 xbn] 41 (0, 0)) := by rw [hW1]; exact heap_alloc_new wr _
              have HSD : Hid (side ⟨xst, xo, xon, xa, xan, xb, xbn⟩ o a b = if xst = true ∨ cutl a xa xan = cutl b xb xbn then 1 else if cutl a xa xan = cutl o xo xon then 3 else if cutl b xb xbn = cutl o xo xon then 2 else 4) := Lib.hid rfl
              have hbo := HBD.out.1.2
              have hba := HBD.out.2.1.2
              have hbb := HBD.out.2.2.2
              have HXO := Lib.hid (fun (wz : World) (hz : Below W1.heap.size W1 wz) => rcut_any (c := co) wz ((HO.out.below hB1).below hz) HIC.out.fo (by omega))
              have HXA := Lib.hid (fun (wz : World) (hz : Below W1.heap.size W1 wz) => rcut_any (c := ca) wz ((HA.out.below hB1).below hz) HIC.out.fa (by omega))
              have HXB := Lib.hid (fun (wz : World) (hz : Below W1.heap.size W1 wz) => rcut_any (c := cb) wz ((HB.out.below hB1).below hz) HIC.out.fb (by omega))
              have HLX := Lib.hid (show (cutl o xo xon).length ≤ maxLen ∧ (cutl a xa xan).length ≤ maxLen ∧ (cutl b xb xbn).length ≤ maxLen from ⟨by have h := HIC.out.fo; simp only at h; rw [cutl_len h.2.1 h.1 h.2.2]; unfold maxLen; omega, by have h := HIC.out.fa; simp only at h; rw [cutl_len h.2.1 h.1 h.2.2]; unfold maxLen; omega, by have h := HIC.out.fb; simp only at h; rw [cutl_len h.2.1 h.1 h.2.2]; unfold maxLen; omega⟩)
              rw [← HN.out.1] at HXO
              rw [← HN.out.2.1] at HXA
              rw [← HN.out.2.2] at HXB
              simp only at HXO HXA HXB
              generalize side ⟨xst, xo, xon, xa, xan, xb, xbn⟩ o a b = sd at *
              generalize cutl o xo xon = x at *
              generalize cutl a xa xan = y at *
              generalize cutl b xb xbn = z at *
              have HBX := Lib.hid hB1
              have HOR := Lib.hid (own_below hown hb4)
              have HIX := Lib.hid hx1
              obtain ⟨bx, hbx⟩ : ∃ s, s = wr.heap.size := ⟨_, rfl⟩
              clear d0 d1 d2 d3 d4 d5 d6 hI1 hx hb1 hbo hba hbb hown hbr hb4 hB1 hx1
              go_wp2_with fail
              rw [← hW1, ← hbx]
              rw [← hbx] at HIX
              clear hW1 hbx g0 g1 g2 g3 g4 g5 g6
              with_reducible refine (HXO.out _ (Below.refl _ _)).mono ?_
              rintro e w2 ⟨X, xc, rfl, hX, hb2⟩
              have HX := Lib.hid hX
              have HB2 := Lib.hid hb2
              have hx2 := (hb2.block bx (L.blk_lt HIX.out)).trans HIX.out
              have f3 := L.blk_cell hx2 3
              have f4 := L.blk_cell hx2 4
              simp only [List.getElem?_toArray, List.getElem?_cons_zero, List.getElem?_cons_succ] at f3 f4
              clear hX hb2 hx2 HXO
              go_wp2_with fail
              with_reducible refine (HXA.out _ HB2.out).mono ?_
              rintro e w3 ⟨Y, yc, rfl, hY, hb3⟩
              have HY := Lib.hid hY
              have HB3 := Lib.hid (HB2.out.trans (hb3.mono HB2.out.size))
              replace HX := Lib.hid (own_below HX.out hb3)
              have hx2 := (HB3.out.block bx (L.blk_lt HIX.out)).trans HIX.out
              have f5 := L.blk_cell hx2 5
              have f6 := L.blk_cell hx2 6
              simp only [List.getElem?_toArray, List.getElem?_cons_zero, List.getElem?_cons_succ] at f5 f6
              clear hY hb3 hx2 HXA f3 f4
              go_wp2_with fail
              with_reducible refine (HXB.out _ HB3.out).mono ?_
              rintro e w4 ⟨Z, zc, rfl, hZ, hb4⟩
              have HB4 := Lib.hid (HB3.out.trans (hb4.mono HB3.out.size))
              have TX := Lib.hid (own_lines2 (own_below HX.out hb4))
              have TY := Lib.hid (own_lines2 (own_below HY.out hb4))
              have TZ := Lib.hid (own_lines2 hZ)
              have hx2 := (HB4.out.block bx (L.blk_lt HIX.out)).trans HIX.out
              have f0 := L.blk_cell hx2 0
              simp only [List.getElem?_toArray, List.getElem?_cons_zero, List.getElem?_cons_succ] at f0
              clear hZ hb4 hx2 HXB f5 f6 HX HY HB2 HB3
              cases xst with
              | true =>
                have HV := Lib.hid (HSD.out.trans (if_pos (.inl rfl)))
                clear HSD
                have hxz := (HB4.out.block bx (L.blk_lt HIX.out)).trans HIX.out
                have j0 := L.blk_cell hxz 0
                have j1 := L.blk_cell hxz 1
                have j2 := L.blk_cell hxz 2
                have j3 := L.blk_cell hxz 3
                have j4 := L.blk_cell hxz 4
                have j5 := L.blk_cell hxz 5
                have j6 := L.blk_cell hxz 6
                simp only [List.getElem?_toArray, List.getElem?_cons_zero, List.getElem?_cons_succ] at j0 j1 j2 j3 j4 j5 j6
                have HOW := Lib.hid (own_below HOR.out HB4.out)
                have HBW := Lib.hid (HBX.out.trans (HB4.out.mono HBX.out.size))
                have hsb := HBW.out.size
                clear hxz HOR HBX HIX
                go_wp2_with (at_builtin; refine wpList_append_own _ rfl _ _ 25 rfl wo.heap.size 43 i0 _ 8 64 Try.underlying25 hi0 hz0 hz1 hz2 rfl (by decide) _ k (pcCells ((ch.take k).map fun c => ⟨side c o a b, c⟩)) rfl (HOW.out.alloc _) ⟨_, 0, none⟩ 1 1 [.int .i64 1, .bool true, .int .i64 xo, .int .i64 xon, .int .i64 xa, .int .i64 xan, .int .i64 xb, .int .i64 xbn] rfl rfl (World.news_of_block (Go.Proofs.Ytkflhcfopejigaa.V.alloc_at _ (by first | rfl | simp))) (by intro u hu; simp at hu; rcases hu with rfl | rfl | rfl | rfl | rfl | rfl | rfl | rfl <;> rfl) (by unfold maxLen; omega) (by omega) (by first | omega | (simp; done) | (simp; omega)) ?_; intro v' w9 hown4 hg4 _)
                have hb9 := Lib.hid ((HBW.out.trans ((alloc1 _ _).mono hsb)).grown hg4 (by first | omega | (simp; omega)) (own_base HOW.out))
                have ho9 : w9.ownsRow wo.heap.size 43 8 v' (k + 1) (pcCells ((ch.take (k + 1)).map fun c => ⟨side c o a b, c⟩)) := by rw [HTK.out, HV.out, pcCells_snoc]; exact hown4
                obtain ⟨RA, rcap, rfl, -, -⟩ := own_form ho9
                have HO9 := Lib.hid ho9
                clear hown4 hg4 ho9
                go_wp2_with fail
                go_roundg (ch.length - (k + 1))
                case rel => exact ⟨k + 1, RA, rcap, by omega, by go_num, rfl, Nat.le_refl _, HO9.out, hb9.out⟩
                case measure => omega
              | false =>
                have HSD0 := HSD
                clear HSD
                have HQ1 := Lib.hid (rsame_gen Y Z yc zc y z w4 HLX.out.2.1 HLX.out.2.2 TY.out TZ.out)
                by_cases e1 : y = z
                · rw [show decide (y = z) = true from decide_eq_true e1] at HQ1
                  have HV := Lib.hid (HSD0.out.trans (if_pos (.inr e1)))
                  clear e1
                  go_wp2_with fail
                  with_reducible refine HQ1.out.mono ?_
                  rintro e w5 ⟨rfl, hb⟩
                  have HBw5 := Lib.hid (HB4.out.trans (hb.mono HB4.out.size))
                  clear hb
                  have hxz := (HBw5.out.block bx (L.blk_lt HIX.out)).trans HIX.out
                  have j0 := L.blk_cell hxz 0
                  have j1 := L.blk_cell hxz 1
                  have j2 := L.blk_cell hxz 2
                  have j3 := L.blk_cell hxz 3
                  have j4 := L.blk_cell hxz 4
                  have j5 := L.blk_cell hxz 5
                  have j6 := L.blk_cell hxz 6
                  simp only [List.getElem?_toArray, List.getElem?_cons_zero, List.getElem?_cons_succ] at j0 j1 j2 j3 j4 j5 j6
                  have HOW := Lib.hid (own_below HOR.out HBw5.out)
                  have HBW := Lib.hid (HBX.out.trans (HBw5.out.mono HBX.out.size))
                  have hsb := HBW.out.size
                  clear hxz HOR HBX HIX
                  go_wp2_with (at_builtin; refine wpList_append_own _ rfl _ _ 25 rfl wo.heap.size 43 i0 _ 8 64 Try.underlying25 hi0 hz0 hz1 hz2 rfl (by decide) _ k (pcCells ((ch.take k).map fun c => ⟨side c o a b, c⟩)) rfl (HOW.out.alloc _) ⟨_, 0, none⟩ 1 1 [.int .i64 1, .bool false, .int .i64 xo, .int .i64 xon, .int .i64 xa, .int .i64 xan, .int .i64 xb, .int .i64 xbn] rfl rfl (World.news_of_block (Go.Proofs.Ytkflhcfopejigaa.V.alloc_at _ (by first | rfl | simp))) (by intro u hu; simp at hu; rcases hu with rfl | rfl | rfl | rfl | rfl | rfl | rfl | rfl <;> rfl) (by unfold maxLen; omega) (by omega) (by first | omega | (simp; done) | (simp; omega)) ?_; intro v' w9 hown4 hg4 _)
                  have hb9 := Lib.hid ((HBW.out.trans ((alloc1 _ _).mono hsb)).grown hg4 (by first | omega | (simp; omega)) (own_base HOW.out))
                  have ho9 : w9.ownsRow wo.heap.size 43 8 v' (k + 1) (pcCells ((ch.take (k + 1)).map fun c => ⟨side c o a b, c⟩)) := by rw [HTK.out, HV.out, pcCells_snoc]; exact hown4
                  obtain ⟨RA, rcap, rfl, -, -⟩ := own_form ho9
                  have HO9 := Lib.hid ho9
                  clear hown4 hg4 ho9
                  go_wp2_with fail
                  go_roundg (ch.length - (k + 1))
                  case rel => exact ⟨k + 1, RA, rcap, by omega, by go_num, rfl, Nat.le_refl _, HO9.out, hb9.out⟩
                  case measure => omega
                · rw [show decide (y = z) = false from decide_eq_false e1] at HQ1
                  have HSD1 := Lib.hid (HSD0.out.trans (if_neg (fun h => h.elim (fun g => by cases g) e1)))
                  clear e1
                  go_wp2_with fail
                  with_reducible refine HQ1.out.mono ?_
                  rintro e w5 ⟨rfl, hb⟩
                  have HBw5 := Lib.hid (HB4.out.trans (hb.mono HB4.out.size))
                  replace TX := Lib.hid (TX.out.below hb)
                  replace TY := Lib.hid (TY.out.below hb)
                  replace TZ := Lib.hid (TZ.out.below hb)
                  have hxq := (HBw5.out.block bx (L.blk_lt HIX.out)).trans HIX.out
                  clear hb f0 HQ1 hxq
                  have HQ2 := Lib.hid (rsame_gen X Y xc yc x y w5 HLX.out.1 HLX.out.2.1 TX.out TY.out)
                  by_cases e2 : y = x
                  · rw [show decide (x = y) = true from decide_eq_true e2.symm] at HQ2
                    have HV := Lib.hid (HSD1.out.trans (if_pos e2))
                    clear e2
                    go_wp2_with fail
                    with_reducible refine HQ2.out.mono ?_
                    rintro e w6 ⟨rfl, hb⟩
                    have HBw6 := Lib.hid (HBw5.out.trans (hb.mono HBw5.out.size))
                    clear hb
                    have hxz := (HBw6.out.block bx (L.blk_lt HIX.out)).trans HIX.out
                    have j0 := L.blk_cell hxz 0
                    have j1 := L.blk_cell hxz 1
                    have j2 := L.blk_cell hxz 2
                    have j3 := L.blk_cell hxz 3
                    have j4 := L.blk_cell hxz 4
                    have j5 := L.blk_cell hxz 5
                    have j6 := L.blk_cell hxz 6
                    simp only [List.getElem?_toArray, List.getElem?_cons_zero, List.getElem?_cons_succ] at j0 j1 j2 j3 j4 j5 j6
                    have HOW := Lib.hid (own_below HOR.out HBw6.out)
                    have HBW := Lib.hid (HBX.out.trans (HBw6.out.mono HBX.out.size))
                    have hsb := HBW.out.size
                    clear hxz HOR HBX HIX
                    go_wp2_with (at_builtin; refine wpList_append_own _ rfl _ _ 25 rfl wo.heap.size 43 i0 _ 8 64 Try.underlying25 hi0 hz0 hz1 hz2 rfl (by decide) _ k (pcCells ((ch.take k).map fun c => ⟨side c o a b, c⟩)) rfl (HOW.out.alloc _) ⟨_, 0, none⟩ 1 1 [.int .i64 3, .bool false, .int .i64 xo, .int .i64 xon, .int .i64 xa, .int .i64 xan, .int .i64 xb, .int .i64 xbn] rfl rfl (World.news_of_block (Go.Proofs.Ytkflhcfopejigaa.V.alloc_at _ (by first | rfl | simp))) (by intro u hu; simp at hu; rcases hu with rfl | rfl | rfl | rfl | rfl | rfl | rfl | rfl <;> rfl) (by unfold maxLen; omega) (by omega) (by first | omega | (simp; done) | (simp; omega)) ?_; intro v' w9 hown4 hg4 _)
                    have hb9 := Lib.hid ((HBW.out.trans ((alloc1 _ _).mono hsb)).grown hg4 (by first | omega | (simp; omega)) (own_base HOW.out))
                    have ho9 : w9.ownsRow wo.heap.size 43 8 v' (k + 1) (pcCells ((ch.take (k + 1)).map fun c => ⟨side c o a b, c⟩)) := by rw [HTK.out, HV.out, pcCells_snoc]; exact hown4
                    obtain ⟨RA, rcap, rfl, -, -⟩ := own_form ho9
                    have HO9 := Lib.hid ho9
                    clear hown4 hg4 ho9
                    go_wp2_with fail
                    go_roundg (ch.length - (k + 1))
                    case rel => exact ⟨k + 1, RA, rcap, by omega, by go_num, rfl, Nat.le_refl _, HO9.out, hb9.out⟩
                    case measure => omega
                  · rw [show decide (x = y) = false from decide_eq_false (fun h => e2 h.symm)] at HQ2
                    have HSD2 := Lib.hid (HSD1.out.trans (if_neg e2))
                    clear e2
                    go_wp2_with fail
                    with_reducible refine HQ2.out.mono ?_
                    rintro e w6 ⟨rfl, hb⟩
                    have HBw6 := Lib.hid (HBw5.out.trans (hb.mono HBw5.out.size))
                    replace TX := Lib.hid (TX.out.below hb)
                    replace TY := Lib.hid (TY.out.below hb)
                    replace TZ := Lib.hid (TZ.out.below hb)
                    have hxq := (HBw6.out.block bx (L.blk_lt HIX.out)).trans HIX.out
                    clear hb HQ2 hxq
                    have HQ3 := Lib.hid (rsame_gen X Z xc zc x z w6 HLX.out.1 HLX.out.2.2 TX.out TZ.out)
                    by_cases e3 : z = x
                    · rw [show decide (x = z) = true from decide_eq_true e3.symm] at HQ3
                      have HV := Lib.hid (HSD2.out.trans (if_pos e3))
                      clear e3
                      go_wp2_with fail
                      with_reducible refine HQ3.out.mono ?_
                      rintro e w7 ⟨rfl, hb⟩
                      have HBw7 := Lib.hid (HBw6.out.trans (hb.mono HBw6.out.size))
                      clear hb
                      have hxz := (HBw7.out.block bx (L.blk_lt HIX.out)).trans HIX.out
                      have j0 := L.blk_cell hxz 0
                      have j1 := L.blk_cell hxz 1
                      have j2 := L.blk_cell hxz 2
                      have j3 := L.blk_cell hxz 3
                      have j4 := L.blk_cell hxz 4
                      have j5 := L.blk_cell hxz 5
                      have j6 := L.blk_cell hxz 6
                      simp only [List.getElem?_toArray, List.getElem?_cons_zero, List.getElem?_cons_succ] at j0 j1 j2 j3 j4 j5 j6
                      have HOW := Lib.hid (own_below HOR.out HBw7.out)
                      have HBW := Lib.hid (HBX.out.trans (HBw7.out.mono HBX.out.size))
                      have hsb := HBW.out.size
                      clear hxz HOR HBX HIX
                      go_wp2_with (at_builtin; refine wpList_append_own _ rfl _ _ 25 rfl wo.heap.size 43 i0 _ 8 64 Try.underlying25 hi0 hz0 hz1 hz2 rfl (by decide) _ k (pcCells ((ch.take k).map fun c => ⟨side c o a b, c⟩)) rfl (HOW.out.alloc _) ⟨_, 0, none⟩ 1 1 [.int .i64 2, .bool false, .int .i64 xo, .int .i64 xon, .int .i64 xa, .int .i64 xan, .int .i64 xb, .int .i64 xbn] rfl rfl (World.news_of_block (Go.Proofs.Ytkflhcfopejigaa.V.alloc_at _ (by first | rfl | simp))) (by intro u hu; simp at hu; rcases hu with rfl | rfl | rfl | rfl | rfl | rfl | rfl | rfl <;> rfl) (by unfold maxLen; omega) (by omega) (by first | omega | (simp; done) | (simp; omega)) ?_; intro v' w9 hown4 hg4 _)
                      have hb9 := Lib.hid ((HBW.out.trans ((alloc1 _ _).mono hsb)).grown hg4 (by first | omega | (simp; omega)) (own_base HOW.out))
                      have ho9 : w9.ownsRow wo.heap.size 43 8 v' (k + 1) (pcCells ((ch.take (k + 1)).map fun c => ⟨side c o a b, c⟩)) := by rw [HTK.out, HV.out, pcCells_snoc]; exact hown4
                      obtain ⟨RA, rcap, rfl, -, -⟩ := own_form ho9
                      have HO9 := Lib.hid ho9
                      clear hown4 hg4 ho9
                      go_wp2_with fail
                      go_roundg (ch.length - (k + 1))
                      case rel => exact ⟨k + 1, RA, rcap, by omega, by go_num, rfl, Nat.le_refl _, HO9.out, hb9.out⟩
                      case measure => omega
                    · rw [show decide (x = z) = false from decide_eq_false (fun h => e3 h.symm)] at HQ3
                      have HSD3 := Lib.hid (HSD2.out.trans (if_neg e3))
                      have HV := HSD3
                      clear e3
                      go_wp2_with fail
                      with_reducible refine HQ3.out.mono ?_
                      rintro e w7 ⟨rfl, hb⟩
                      have HBw7 := Lib.hid (HBw6.out.trans (hb.mono HBw6.out.size))
                      clear hb
                      have hxz := (HBw7.out.block bx (L.blk_lt HIX.out)).trans HIX.out
                      have j0 := L.blk_cell hxz 0
                      have j1 := L.blk_cell hxz 1
                      have j2 := L.blk_cell hxz 2
                      have j3 := L.blk_cell hxz 3
                      have j4 := L.blk_cell hxz 4
                      have j5 := L.blk_cell hxz 5
                      have j6 := L.blk_cell hxz 6
                      simp only [List.getElem?_toArray, List.getElem?_cons_zero, List.getElem?_cons_succ] at j0 j1 j2 j3 j4 j5 j6
                      have HOW := Lib.hid (own_below HOR.out HBw7.out)
                      have HBW := Lib.hid (HBX.out.trans (HBw7.out.mono HBX.out.size))
                      have hsb := HBW.out.size
                      clear hxz HOR HBX HIX
                      go_wp2_with (at_builtin; refine wpList_append_own _ rfl _ _ 25 rfl wo.heap.size 43 i0 _ 8 64 Try.underlying25 hi0 hz0 hz1 hz2 rfl (by decide) _ k (pcCells ((ch.take k).map fun c => ⟨side c o a b, c⟩)) rfl (HOW.out.alloc _) ⟨_, 0, none⟩ 1 1 [.int .i64 4, .bool false, .int .i64 xo, .int .i64 xon, .int .i64 xa, .int .i64 xan, .int .i64 xb, .int .i64 xbn] rfl rfl (World.news_of_block (Go.Proofs.Ytkflhcfopejigaa.V.alloc_at _ (by first | rfl | simp))) (by intro u hu; simp at hu; rcases hu with rfl | rfl | rfl | rfl | rfl | rfl | rfl | rfl <;> rfl) (by unfold maxLen; omega) (by omega) (by first | omega | (simp; done) | (simp; omega)) ?_; intro v' w9 hown4 hg4 _)
                      have hb9 := Lib.hid ((HBW.out.trans ((alloc1 _ _).mono hsb)).grown hg4 (by first | omega | (simp; omega)) (own_base HOW.out))
                      have ho9 : w9.ownsRow wo.heap.size 43 8 v' (k + 1) (pcCells ((ch.take (k + 1)).map fun c => ⟨side c o a b, c⟩)) := by rw [HTK.out, HV.out, pcCells_snoc]; exact hown4
                      obtain ⟨RA, rcap, rfl, -, -⟩ := own_form ho9
                      have HO9 := Lib.hid ho9
                      clear hown4 hg4 ho9
                      go_wp2_with fail
                      go_roundg (ch.length - (k + 1))
                      case rel => exact ⟨k + 1, RA, rcap, by omega, by go_num, rfl, Nat.le_refl _, HO9.out, hb9.out⟩
                      case measure => omega
            · obtain rfl : k = ch.length := by omega
              have HBR := Lib.hid (HB1.out.trans (hbr.mono HB1.out.size))
              rw [List.take_length] at hown
              have HOW := Lib.hid hown
              clear hown
              go_wp2_with fail
              refine bodyPost_ret (v := .tuple #[.slice V ch.length vc, .int .i64 0]) (by simp [results, Try.results11, go_sem]) rfl ?_
              rw [HL.out, HE.out]
              exact ⟨V, vc, by rw [List.length_map], by rw [List.length_map]; exact Go.Proofs.Ytkflhcfopejigaa.V.own_base_le HOW.out HB1.out.size, HBR.out⟩
end Go.Proofs.Ytkflhcfopejigaa.Mg

namespace Go.Proofs.Ytkflhcfopejigaa.Mg
set_option linter.unusedVariables false
set_option linter.unusedSimpArgs false
open Go.RowKit
open T
open V (drawn_below)
open I (alloc1 own_at own_below)
open Ck
open Mt (Pr fnd Rt right right_iff)
open N (PrIn PrIn.below)

set_option maxRecDepth 100000 in
set_option maxHeartbeats 4000000 in
theorem rof_bad {P Q O A B : Option Addr} {cp cq co ca cb n1 n2 n3 : Nat} {p q : List Pr} (w : World) (hP : PrIn w P p) (hQ : PrIn w Q q) (HO : Hid (OfC 27 p q n1 n2 n3 [] 2)) :
    Calls Try.prog 11 #[.slice O n1 co, .slice A n2 ca, .slice B n3 cb, .slice P p.length cp, .slice Q q.length cq] w (PoEnd w [] 2) := by
  have HC := Lib.hid (HO.out.at cp cq hP hQ)
  clear hP hQ HO
  go_enter Try.func11, Try.ntmps11
  go_wp2_with fail
  with_reducible refine HC.out.mono ?_
  rintro e w1 ⟨C1, k1, rfl, h1, hb1⟩
  go_wp2_with fail
  refine bodyPost_ret (v := .tuple #[.slice none 0 0, .int .i64 2]) (by simp [results, Try.results11, go_sem]) rfl ⟨none, 0, rfl, World.ownsRow_nil _ _ _ _, hb1⟩
theorem rof_any {P Q O A B : Option Addr} {cp cq co ca cb : Nat} {p q : List Pr} {o a b : List Ln} (w : World) (hO : Tx w O co o) (hA : Tx w A ca a) (hB : Tx w B cb b) (hP : PrIn w P p) (hQ : PrIn w Q q) (hp : p.length ≤ 1000) (hq : q.length ≤ 1000) :
    Calls Try.prog 11 #[.slice O o.length co, .slice A a.length ca, .slice B b.length cb, .slice P p.length cp, .slice Q q.length cq] w (PoEnd w (pieces o a b p q) (perr o a b p q)) := by
  by_cases hc : can p q o.length a.length b.length
  · exact rof_good w hO hA hB hP hQ hp hq hc
  · have e1 : chunks p q (o.length : Int) a.length b.length = [] := if_neg hc
    have e2 : pieces o a b p q = [] := by unfold pieces; rw [e1]; split <;> rfl
    have e3 : perr o a b p q = 2 := if_neg hc
    have e4 : err p q (o.length : Int) a.length b.length = 2 := if_neg hc
    have h := c_rof p q o.length a.length b.length hp hq
    rw [e1, e4] at h
    rw [e2, e3]
    exact rof_bad w hP hQ (Lib.hid h)
theorem pcCells_at : ∀ (l : List Pc) (j : Nat) (h : j < l.length), (pcCells l)[j * 8]? = some (.int .i64 l[j].sd) ∧ (pcCells l)[j * 8 + 1]? = some (.bool l[j].ck.st) ∧ (pcCells l)[j * 8 + 2]? = some (.int .i64 l[j].ck.o) ∧ (pcCells l)[j * 8 + 3]? = some (.int .i64 l[j].ck.on) ∧ (pcCells l)[j * 8 + 4]? = some (.int .i64 l[j].ck.a) ∧ (pcCells l)[j * 8 + 5]? = some (.int .i64 l[j].ck.an) ∧ (pcCells l)[j * 8 + 6]? = some (.int .i64 l[j].ck.b) ∧ (pcCells l)[j * 8 + 7]? = some (.int .i64 l[j].ck.bn)
  | x :: r, 0, _ => by simp [pcCells]
  | x :: r, j + 1, h => by
    have ih := pcCells_at r j (by simpa using h)
    have e : pcCells (x :: r) = .int .i64 x.sd :: .bool x.ck.st :: .int .i64 x.ck.o :: .int .i64 x.ck.on :: .int .i64 x.ck.a :: .int .i64 x.ck.an :: .int .i64 x.ck.b :: .int .i64 x.ck.bn :: pcCells r := by simp [pcCells]
    have key : ∀ n, (pcCells (x :: r))[n + 8]? = (pcCells r)[n]? := fun n => by rw [e]; rfl
    exact ⟨by rw [show (j + 1) * 8 = j * 8 + 8 by omega, key]; exact ih.1, by rw [show (j + 1) * 8 + 1 = j * 8 + 1 + 8 by omega, key]; exact ih.2.1, by rw [show (j + 1) * 8 + 2 = j * 8 + 2 + 8 by omega, key]; exact ih.2.2.1, by rw [show (j + 1) * 8 + 3 = j * 8 + 3 + 8 by omega, key]; exact ih.2.2.2.1, by rw [show (j + 1) * 8 + 4 = j * 8 + 4 + 8 by omega, key]; exact ih.2.2.2.2.1, by rw [show (j + 1) * 8 + 5 = j * 8 + 5 + 8 by omega, key]; exact ih.2.2.2.2.2.1, by rw [show (j + 1) * 8 + 6 = j * 8 + 6 + 8 by omega, key]; exact ih.2.2.2.2.2.2.1, by rw [show (j + 1) * 8 + 7 = j * 8 + 7 + 8 by omega, key]; exact ih.2.2.2.2.2.2.2⟩
theorem pc_own {w : World} {base : Nat} {A : Option Addr} {cap : Nat} {l : List Pc} (h : w.ownsRow base 43 8 (.slice A l.length cap) l.length (pcCells l)) : PcIn w A l := fun hp => by
  obtain ⟨g, hA, _, hlt, hc⟩ := own_at h hp
  refine ⟨g, 0, hA, hlt, fun j hj => ?_⟩
  obtain ⟨h0, h1, h2, h3, h4, h5, h6, h7⟩ := pcCells_at l j hj
  rw [Nat.zero_add]
  exact ⟨hc _ _ h0, hc _ _ h1, hc _ _ h2, hc _ _ h3, hc _ _ h4, hc _ _ h5, hc _ _ h6, hc _ _ h7⟩
end Go.Proofs.Ytkflhcfopejigaa.Mg

namespace Go.Proofs.Ytkflhcfopejigaa.N
set_option linter.unusedVariables false
set_option linter.unusedSimpArgs false
open Go.RowKit Go.Maps
open T
open V (grown_of IntsIn numCells numCells_snoc ints_own drawn_below)
open I (alloc1 own_at own_below)

theorem alloc_at {w : World} {n : Nat} (o : Obj) (h : w.heap.size = n) : (w.alloc o).heap[n]? = some o := by subst h; exact heap_alloc_new w o
abbrev Ln := List UInt8 × Bool
/-- What a line reads as, as a key. -/
def lk (x : Ln) : Lit := .string (keyBytes [.string x.1, .bool x.2])
theorem lnLaw : Keyed Try.prog 51 := Keyed.of_law (deep_law_laid (m := 3) (by kernel_rfl) (by omega) (of_decide_eq_true (by kernel_rfl)) (by kernel_rfl) (by kernel_rfl))
theorem typesSome : ∃ m, Try.prog.types.size = m + 1 + 1 := ⟨Try.prog.types.size - 2, of_decide_eq_true (by kernel_rfl)⟩
theorem lnKT : Try.prog.keyType 51 = true := by kernel_rfl
theorem cLn : Try.prog.cellsOf 51 = 2 := by kernel_rfl
theorem cSt : Try.prog.cellsOf 9 = 1 := by kernel_rfl
theorem cBo : Try.prog.cellsOf 4 = 1 := by kernel_rfl
theorem lnKey {s : ByteArray} (b : Bool) (hs : s.size ≤ maxLen) : keyOf Try.prog 51 (.agg #[.string s, .bool b]) = some (lk (s.data.toList, b)) := by
  obtain ⟨m, hm⟩ := typesSome
  unfold keyOf
  simp only [Try.underlying51]
  rw [if_pos (by simp [lnKT, Value.formed, Try.underlying51, cLn]), hm]
  unfold Program.keyLits
  simp only [Try.underlying51, Value.cells]
  rw [if_pos ⟨by rw [cLn]; rfl, by simp⟩]
  simp [cSt, cBo, Program.keyLits, Try.underlying9, Try.underlying4, hs, lk]
set_option maxRecDepth 100000 in
theorem lk_inj {x y : Ln} (hx : x.1.length ≤ maxLen) (hy : y.1.length ≤ maxLen) (h : lk x = lk y) : x = y := by
  obtain ⟨x1, x2⟩ := x
  obtain ⟨y1, y2⟩ := y
  have e1 : keyOf Try.prog 51 (.agg #[.string ⟨x1.toArray⟩, .bool x2]) = some (lk (x1, x2)) := by
    have := lnKey (s := ⟨x1.toArray⟩) x2 (by rw [list_size]; exact hx)
    rwa [list_data] at this
  have e2 : keyOf Try.prog 51 (.agg #[.string ⟨y1.toArray⟩, .bool y2]) = some (lk (y1, y2)) := by
    have := lnKey (s := ⟨y1.toArray⟩) y2 (by rw [list_size]; exact hy)
    rwa [list_data] at this
  rw [h] at e1
  have := lnLaw.inj e1 e2
  simp only [Value.agg.injEq, Array.mk.injEq, List.cons.injEq, Value.string.injEq, Value.bool.injEq, and_true, ByteArray.mk.injEq] at this
  exact Prod.ext this.1 this.2

/-- Block mb is a map from lines to numbers that knows these lines, in the order of their numbers. -/
structure KnI (w : World) (mb : Nat) (ks : List Ln) (D : DataW Unit) : Prop where
  own : w.ownsMap Try.prog 51 (plainElem Try.prog 3) mb ks.length D
  tidy : Tidy D
  has : ∀ x : Ln, x.1.length ≤ maxLen → Maps.has D (lk x) = decide (x ∈ ks)
  at_ : ∀ x : Ln, x.1.length ≤ maxLen → x ∈ ks → D.atKey (lk x) (.lit (.int .i64 0)) = .lit (.int .i64 (ks.idxOf x : Nat))
  size : Maps.size D = ks.length
def Kn (w : World) (mb : Nat) (ks : List Ln) : Prop := ∃ D, KnI w mb ks D
theorem Kn.start (w : World) : Kn (w.alloc (.map #[] 0)) w.heap.size [] :=
  ⟨.map [], ⟨World.ownsMap_made _ _ _ _, ⟨[], rfl, .nil⟩, fun _ _ => rfl, fun _ _ h => (by cases h), rfl⟩⟩
theorem Kn.kept {w w' : World} {mb : Nat} {ks : List Ln} {row : Option Nat} (h : Kn w mb ks) (hg : w.grownBy w' row) (hne : some mb ≠ row) : Kn w' mb ks := by
  obtain ⟨D, h1, h2, h3, h4, h5⟩ := h
  exact ⟨D, h1.kept hg hne, h2, h3, h4, h5⟩
theorem Kn.lt {w : World} {mb : Nat} {ks : List Ln} (h : Kn w mb ks) : mb < w.heap.size := by
  obtain ⟨D, h1, _⟩ := h
  exact h1.lt
theorem Kn.below {w w' : World} {mb : Nat} {ks : List Ln} (h : Kn w mb ks) (hb : Below w.heap.size w w') : Kn w' mb ks := h.kept (grown_of hb none) (by simp)
theorem Kn.notCells {w : World} {mb : Nat} {ks : List Ln} (h : Kn w mb ks) {g : Nat} {cs : Array Value} {t : TypeId} {z : Nat × Nat} (hc : w.heap[g]? = some (.cells cs t z)) : g ≠ mb := by
  obtain ⟨D, ⟨⟨es, _, hb, _⟩, _⟩⟩ := h
  rintro rfl
  rw [hb] at hc
  cases hc
theorem KnI.put {w w' : World} {mb : Nat} {ks : List Ln} {D : DataW Unit} (h : KnI w mb ks D) {x : Ln} (hx : x.1.length ≤ maxLen) (hn : x ∉ ks) (hall : ∀ y ∈ ks, y.1.length ≤ maxLen)
    (ho : w'.ownsMap Try.prog 51 (plainElem Try.prog 3) mb (ks.length + 1) (D.put (lk x) (.lit (.int .i64 (ks.length : Nat))))) : Kn w' mb (ks ++ [x]) := by
  have hk : WideAt.IsKeyLit (lk x) := trivial
  refine ⟨_, by rw [List.length_append]; exact ho, ho.tidy lnLaw, fun y hy => ?_, fun y hy hm => ?_, ?_⟩
  · by_cases e : y = x
    · subst e
      rw [has_put_same h.tidy.isMap hk, decide_eq_true (by simp)]
    · rw [has_put_other (fun q => e (lk_inj hy hx q)), h.has y hy]
      simp [e]
  · by_cases e : y = x
    · subst e
      rw [atKey_put_same h.tidy.isMap hk, List.idxOf_append, if_neg hn]
      simp
    · have hyk : y ∈ ks := by simpa [e] using hm
      rw [atKey_put_other (fun q => e (lk_inj hy hx q)), h.at_ y hy hyk, List.idxOf_append, if_pos hyk]
  · rw [size_put h.tidy, h.has x hx, decide_eq_false hn, h.size]
    simp
end Go.Proofs.Ytkflhcfopejigaa.N

namespace Go.Proofs.Ytkflhcfopejigaa.N
set_option linter.unusedVariables false
set_option linter.unusedSimpArgs false
open Go.RowKit Go.Maps
open T
open V (grown_of IntsIn numCells numCells_snoc ints_own drawn_below)
open I (alloc1 own_at own_below)

/-- The lines that are known, one more being seen. -/
def add (ks : List Ln) (x : Ln) : List Ln := if x ∈ ks then ks else ks ++ [x]
def known (ks : List Ln) (l : List Ln) : List Ln := l.foldl add ks
def row : List Ln → List Ln → List Int
  | _, [] => []
  | ks, x :: r => ((add ks x).idxOf x : Nat) :: row (add ks x) r
theorem known_snoc (ks : List Ln) (l : List Ln) (x : Ln) : known ks (l ++ [x]) = add (known ks l) x := by simp [known]
theorem row_snoc : ∀ (l ks : List Ln) (x : Ln), row ks (l ++ [x]) = row ks l ++ [(((add (known ks l) x).idxOf x : Nat) : Int)]
  | [], ks, x => by simp [row, known]
  | y :: r, ks, x => by
    rw [List.cons_append, row, row, row_snoc r (add ks y) x, List.cons_append]
    rfl
theorem row_length : ∀ (l ks : List Ln), (row ks l).length = l.length
  | [], _ => rfl
  | x :: r, ks => by rw [row, List.length_cons, row_length r, List.length_cons]
theorem add_length (ks : List Ln) (x : Ln) : (add ks x).length ≤ ks.length + 1 := by unfold add; split <;> simp
theorem known_length : ∀ (l ks : List Ln), (known ks l).length ≤ ks.length + l.length
  | [], ks => Nat.le_refl _
  | x :: r, ks => by
    have := known_length r (add ks x)
    have := add_length ks x
    show (known (add ks x) r).length ≤ _
    rw [List.length_cons]
    omega
theorem add_mem {ks : List Ln} {x : Ln} : x ∈ add ks x := by unfold add; split <;> simp [*]
theorem add_all {P : Ln → Prop} {ks : List Ln} {x : Ln} (h : ∀ y ∈ ks, P y) (hx : P x) : ∀ y ∈ add ks x, P y := fun y hy => by
  unfold add at hy
  split at hy
  · exact h y hy
  · rcases List.mem_append.1 hy with hy | hy
    · exact h y hy
    · simp at hy; subst hy; exact hx
theorem known_all {P : Ln → Prop} : ∀ (l : List Ln) {ks : List Ln}, (∀ y ∈ ks, P y) → (∀ y ∈ l, P y) → ∀ y ∈ known ks l, P y
  | [], _, h, _ => h
  | x :: r, _, h, h' => known_all r (add_all h (h' x (by simp))) (fun y hy => h' y (by simp [hy]))
theorem known_take {ks l : List Ln} {k : Nat} (hk : k < l.length) : known ks (l.take (k + 1)) = add (known ks (l.take k)) l[k] := by
  rw [List.take_succ_eq_append_getElem hk, known_snoc]
theorem row_take {ks l : List Ln} {k : Nat} (hk : k < l.length) : row ks (l.take (k + 1)) = row ks (l.take k) ++ [(((add (known ks (l.take k)) l[k]).idxOf l[k] : Nat) : Int)] := by
  rw [List.take_succ_eq_append_getElem hk, row_snoc]
theorem cell_grown {w w' : World} {row : Option Nat} (hg : w.grownBy w' row) {bk o : Nat} {v : Value} (hc : w.cell? ⟨bk, o, none⟩ = some v) (hne : some bk ≠ row) : w'.cell? ⟨bk, o, none⟩ = some v := by
  have hlt := World.block_lt_of_cell? w ⟨bk, o, none⟩ hc
  rw [← hc]
  simp only [World.cell?, hg.block bk hlt hne]
theorem Kn.noCell {w : World} {mb : Nat} {ks : List Ln} (h : Kn w mb ks) {g o : Nat} {v : Value} (hc : w.cell? ⟨g, o, none⟩ = some v) : g ≠ mb := by
  obtain ⟨D, ⟨⟨es, _, hb, _⟩, _⟩⟩ := h
  rintro rfl
  simp [World.cell?, hb] at hc
theorem zeroI (w : World) : (zeroValue 3).run Try.prog w = .ok (.int .i64 0) w := by kernel_rfl

theorem Kn.row {w : World} {mb : Nat} {ks : List Ln} (h : Kn w mb ks) {base : Nat} {e : TypeId} {size n : Nat} {v : Value} {xs : List Value} (ho : w.ownsRow base e size v n xs) : v.ownBlock ≠ some mb := by
  rcases ho.2 with ⟨rfl, _⟩ | ⟨g, cap, cur, rfl, _, hg, _⟩
  · simp [Value.ownBlock]
  · simp only [Value.ownBlock, ne_eq, Option.some.injEq]; exact h.notCells hg
end Go.Proofs.Ytkflhcfopejigaa.N

namespace Go.Proofs.Ytkflhcfopejigaa.N
set_option linter.unusedVariables false
set_option linter.unusedSimpArgs false
open Go.RowKit Go.Maps
open T
open V (grown_of IntsIn numCells numCells_snoc ints_own drawn_below)
open I (alloc1 own_at own_below)

/-- Lists of lines in memory. -/
def ListsAt (w : World) (bk off : Nat) (ls : List (List Ln)) : Prop :=
  ∀ j (h : j < ls.length), ∃ A c, w.cell? ⟨bk, off + j, none⟩ = some (.slice A ls[j].length c) ∧ LinesIn w A ls[j] ∧ ls[j].length ≤ c
def ListsIn (w : World) (A : Option Addr) (ls : List (List Ln)) : Prop :=
  0 < ls.length → ∃ bk off, A = some ⟨bk, off, none⟩ ∧ bk < w.heap.size ∧ ListsAt w bk off ls
theorem ListsIn.below {w w' : World} {A : Option Addr} {ls : List (List Ln)} (h : ListsIn w A ls) (hb : Below w.heap.size w w') : ListsIn w' A ls := fun hp => by
  obtain ⟨bk, off, e, hlt, hl⟩ := h hp
  refine ⟨bk, off, e, Nat.lt_of_lt_of_le hlt hb.size, fun j hj => ?_⟩
  obtain ⟨B, c, h1, h2, h3⟩ := hl j hj
  exact ⟨B, c, (hb.cell (p := ⟨bk, off + j, none⟩) hlt).trans h1, h2.below hb, h3⟩
/-- Rows of numbers, each in memory of its own: their values. -/
def Rws (w : World) (base : Nat) (vs : List Value) (rs : List (List Int)) : Prop :=
  vs.length = rs.length ∧ ∀ j (h : j < rs.length) (h' : j < vs.length), w.ownsRow base 3 1 vs[j] rs[j].length (numCells rs[j])
theorem Rws.nil (w : World) (base : Nat) : Rws w base [] [] := ⟨rfl, fun j h => by simp at h⟩
theorem Rws.snoc {w : World} {base : Nat} {vs : List Value} {rs : List (List Int)} (h : Rws w base vs rs) {v : Value} {r : List Int} (hv : w.ownsRow base 3 1 v r.length (numCells r)) : Rws w base (vs ++ [v]) (rs ++ [r]) := by
  refine ⟨by simp [h.1], fun j hj hj' => ?_⟩
  by_cases e : j < rs.length
  · have e' : j < vs.length := by rw [h.1]; exact e
    rw [List.getElem_append_left e', List.getElem_append_left e]
    exact h.2 j e e'
  · obtain rfl : j = rs.length := by simp at hj; omega
    rw [List.getElem_append_right (by rw [h.1]; exact Nat.le_refl _), List.getElem_append_right (Nat.le_refl _)]
    simpa [h.1] using hv
theorem Rws.kept {w w' : World} {base : Nat} {vs : List Value} {rs : List (List Int)} {row : Option Nat} (h : Rws w base vs rs) (hg : w.grownBy w' row) (hne : ∀ j (h : j < rs.length) (h' : j < vs.length), vs[j].ownBlock = none ∨ vs[j].ownBlock ≠ row) : Rws w' base vs rs :=
  ⟨h.1, fun j hj hj' => (h.2 j hj hj').kept hg (hne j hj hj')⟩
theorem Rws.below {w w' : World} {base : Nat} {vs : List Value} {rs : List (List Int)} (h : Rws w base vs rs) (hb : Below w.heap.size w w') : Rws w' base vs rs := ⟨h.1, fun j hj hj' => own_below (h.2 j hj hj') hb⟩
theorem Rws.more {w : World} {base base' : Nat} {vs : List Value} {rs : List (List Int)} (h : Rws w base vs rs) (hb : base' ≤ base) : Rws w base' vs rs := ⟨h.1, fun j hj hj' => own_more (h.2 j hj hj') hb⟩
def numsAll : List Ln → List (List Ln) → List (List Int)
  | _, [] => []
  | ks, l :: r => row ks l :: numsAll (known ks l) r
def knownAll (ks : List Ln) (ls : List (List Ln)) : List Ln := ls.foldl known ks
theorem numsAll_snoc : ∀ (ls : List (List Ln)) (ks : List Ln) (l : List Ln), numsAll ks (ls ++ [l]) = numsAll ks ls ++ [row (knownAll ks ls) l]
  | [], ks, l => rfl
  | x :: r, ks, l => by rw [List.cons_append, numsAll, numsAll, numsAll_snoc r (known ks x) l]; rfl
theorem knownAll_snoc (ls : List (List Ln)) (ks : List Ln) (l : List Ln) : knownAll ks (ls ++ [l]) = known (knownAll ks ls) l := by simp [knownAll]
theorem numsAll_take {ls : List (List Ln)} {ks : List Ln} {k : Nat} (hk : k < ls.length) : numsAll ks (ls.take (k + 1)) = numsAll ks (ls.take k) ++ [row (knownAll ks (ls.take k)) ls[k]] := by
  rw [List.take_succ_eq_append_getElem hk, numsAll_snoc]
theorem knownAll_take {ls : List (List Ln)} {ks : List Ln} {k : Nat} (hk : k < ls.length) : knownAll ks (ls.take (k + 1)) = known (knownAll ks (ls.take k)) ls[k] := by
  rw [List.take_succ_eq_append_getElem hk, knownAll_snoc]
theorem numsAll_length : ∀ (ls : List (List Ln)) (ks : List Ln), (numsAll ks ls).length = ls.length
  | [], _ => rfl
  | l :: r, ks => by rw [numsAll, List.length_cons, numsAll_length r, List.length_cons]
theorem knownAll_length : ∀ (ls : List (List Ln)) (ks : List Ln), (∀ l ∈ ls, l.length ≤ 60) → (knownAll ks ls).length ≤ ks.length + 60 * ls.length
  | [], ks, _ => Nat.le_refl _
  | l :: r, ks, h => by
    have := knownAll_length r (known ks l) (fun y hy => h y (by simp [hy]))
    have := known_length l ks
    have := h l (by simp)
    show (knownAll (known ks l) r).length ≤ _
    rw [List.length_cons]
    omega
theorem knownAll_all {P : Ln → Prop} : ∀ (ls : List (List Ln)) {ks : List Ln}, (∀ y ∈ ks, P y) → (∀ l ∈ ls, ∀ y ∈ l, P y) → ∀ y ∈ knownAll ks ls, P y
  | [], _, h, _ => h
  | l :: r, _, h, h' => knownAll_all r (known_all l h (h' l (by simp))) (fun m hm => h' m (by simp [hm]))
theorem infoRow : (Try.prog.info? 67).map (fun i => (i.zero, i.size, i.bytes)) = some (some (.slice none 0 0), 1, 24) := by kernel_rfl
theorem lines_grown {w w' : World} {mb : Nat} {A : Option Addr} {l : List Ln} (h : LinesIn w A l) (hg : w.grownBy w' (some mb)) {ks : List Ln} (hk : Kn w mb ks) : LinesIn w' A l := fun hp => by
  obtain ⟨bk, off, e, hlt, hl⟩ := h hp
  exact ⟨bk, off, e, Nat.lt_of_lt_of_le hlt hg.size, fun j hj => ⟨cell_grown hg (hl j hj).1 (by simp only [ne_eq, Option.some.injEq]; exact hk.noCell (hl j hj).1), cell_grown hg (hl j hj).2 (by simp only [ne_eq, Option.some.injEq]; exact hk.noCell (hl j hj).1)⟩⟩
/-- Numbers: a row of rows. -/
def NmEnd (W : World) (rs : List (List Int)) (e : Ending) (w' : World) : Prop := ∃ A cap vs, e = .returned (.slice A vs.length cap) ∧ w'.ownsRow W.heap.size 67 1 (.slice A vs.length cap) vs.length vs ∧ Rws w' W.heap.size vs rs ∧ Below W.heap.size W w'

end Go.Proofs.Ytkflhcfopejigaa.N

namespace Go.Proofs.Ytkflhcfopejigaa.N
set_option linter.unusedVariables false
set_option linter.unusedSimpArgs false
open Go.RowKit
open T
open V (grown_of IntsIn numCells numCells_snoc ints_own drawn_below)
open I (alloc1 own_at own_below)

def fewL (ls : List (List Ln)) : List (List Ln) := (ls.take 5).map (·.take 60)
theorem few_take {ls : List (List Ln)} {k : Nat} (hk : k < ls.length) (h5 : k < 5) : (ls.take (k + 1)).map (·.take 60) = (ls.take k).map (·.take 60) ++ [ls[k].take 60] := by
  rw [List.take_succ_eq_append_getElem hk, List.map_append]; rfl
/-- Slices of lists, as values. -/
def Lss (w : World) (vs : List Value) (ls : List (List Ln)) : Prop :=
  vs.length = ls.length ∧ ∀ j (h : j < ls.length) (h' : j < vs.length), ∃ A c, vs[j] = .slice A ls[j].length c ∧ LinesIn w A ls[j] ∧ ls[j].length ≤ c
theorem Lss.snoc {w : World} {vs : List Value} {ls : List (List Ln)} (h : Lss w vs ls) {A : Option Addr} {c : Nat} {l : List Ln} (hl : LinesIn w A l) (hc : l.length ≤ c) : Lss w (vs ++ [.slice A l.length c]) (ls ++ [l]) := by
  refine ⟨by simp [h.1], fun j hj hj' => ?_⟩
  by_cases e : j < ls.length
  · have e' : j < vs.length := by rw [h.1]; exact e
    rw [List.getElem_append_left e', List.getElem_append_left e]
    exact h.2 j e e'
  · obtain rfl : j = ls.length := by simp at hj; omega
    rw [List.getElem_append_right (by rw [h.1]; exact Nat.le_refl _), List.getElem_append_right (Nat.le_refl _)]
    exact ⟨A, c, by simp [h.1], by simpa using hl, by simpa using hc⟩
theorem lines_take {w : World} {A : Option Addr} {l : List Ln} (h : LinesIn w A l) (n : Nat) : LinesIn w A (l.take n) := fun hp => by
  rw [List.length_take] at hp
  obtain ⟨bk, off, e, hlt, hl⟩ := h (by omega)
  refine ⟨bk, off, e, hlt, fun j hj => ?_⟩
  rw [List.length_take] at hj
  have := hl j (by omega)
  simp only [List.getElem_take]
  exact this
theorem lists_of {w w' : World} {base : Nat} {A : Option Addr} {cap : Nat} {vs : List Value} {ls : List (List Ln)} (ho : w'.ownsRow base 22 1 (.slice A vs.length cap) vs.length vs) (h : Lss w vs ls) (hb : Below w.heap.size w w') : ListsIn w' A ls := fun hp => by
  obtain ⟨g, e, _, hg, hat⟩ := own_at ho (by rw [h.1]; exact hp)
  refine ⟨g, 0, e, hg, fun j hj => ?_⟩
  have hj' : j < vs.length := by rw [h.1]; exact hj
  obtain ⟨B, c, e2, hl, hc⟩ := h.2 j hj hj'
  refine ⟨B, c, ?_, hl.below hb, hc⟩
  rw [Nat.zero_add]
  exact hat j _ (by rw [List.getElem?_eq_getElem hj', e2])
theorem infoLns : (Try.prog.info? 22).map (fun i => (i.zero, i.size, i.bytes)) = some (some (.slice none 0 0), 1, 24) := by kernel_rfl

end Go.Proofs.Ytkflhcfopejigaa.N
