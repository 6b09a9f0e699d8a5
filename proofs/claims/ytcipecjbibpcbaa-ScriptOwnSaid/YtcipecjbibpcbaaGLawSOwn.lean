/-
  The law ScriptOwn.
-/
import Derived.Test.YtcipecjbibpcbaaGScW
namespace Go.Proofs.Ytcipecjbibpcbaa.S
set_option linter.unusedVariables false
set_option linter.unusedSimpArgs false
open Go.RowKit
open T
open V (grown_of IntsIn numCells numCells_snoc ints_own drawn_below)
open I (alloc1 own_at own_below)
open N (Ln)
open M (Lv)

theorem sides_own (A : Option Addr) (c : Nat) (es : List Ed) (w : World) (hE : EdsIn 0 w A es) (hok : EdsOk es) :
    Calls Try.prog 19 #[.slice A es.length c] w (SsEnd w (sides es).1 (sides es).2 (ck es)) := by
  unfold sides
  by_cases hc : ck es = 0
  · rw [if_pos hc, hc]; exact sides_good A c 0 es w hE hok hc
  · rw [if_neg hc]; exact sides_bad A c 0 es w hE hok hc
set_option maxRecDepth 100000 in
set_option maxHeartbeats 4000000 in
theorem sown_law {A : Option Addr} {c : Nat} {es : List Ed} {w : World} (hE : EdsIn 0 w A es) (hok : EdsOk es) :
    Calls Try.prog 9 #[.slice A es.length c] w fun e w' => e = .returned (.bool true) ∧ Below w.heap.size w w' := by
  have HE := Lib.hid hE
  have HRN := Lib.hid (c_rnormal hok)
  have HN := Lib.hid (fun (W : World) (h : EdsIn 0 W A es) => normal_own A c 0 es W h hok)
  have HS := Lib.hid (fun (W : World) (h : EdsIn 0 W A es) => sides_own A c es W h hok)
  have HSM := Lib.hid (c_esame (EdsOk.of_ck (nrm_ck es)))
  have HV := Lib.hid live8
  have hnl : (nrm es).length ≤ 800 := (ck_ok (nrm_ck es)).1
  have hntl : tl (nrm es) ≤ 800 := (ck_ok (nrm_ck es)).2.1
  have hsl : (sides es).1.length ≤ 800 := (sides_len es).1
  clear hE hok
  generalize (sides es).1 = x at *
  generalize (sides es).2 = y at *
  generalize ck es = q at *
  generalize nrm es = n at *
  have hqq : (q == q) = true := by simp
  go_enter Try.func9, Try.ntmps9
  go_wp2_with fail
  with_reducible refine (HRN.out.at c HE.out).mono ?_
  rintro e w1 ⟨WA, wc, rfl, hw, hb⟩
  have HW1 := Lib.hid hw
  have HB1 := Lib.hid hb
  have HE1 := Lib.hid (HE.out.below hb)
  clear hw hb HE
  go_wp2_with fail
  with_reducible refine (HN.out w1 HE1.out).mono ?_
  rintro e w2 ⟨NA, nc, rfl, hn, hb, hf⟩
  have HN2 := Lib.hid hn
  have HF2 := Lib.hid hf
  have HBN := Lib.hid hb
  have HLE := Lib.hid (fun (j : Nat) (h : j < n.length) => (show n[j].2.length ≤ 800 by have := tl_take h; have := tl_le n (j + 1); omega))
  clear hn hb hf
  obtain ⟨ln, hln⟩ : ∃ k, k = n.length := ⟨_, rfl⟩
  have HLN := Lib.hid hln
  rw [← hln] at hnl ⊢
  clear hln
  have HOW : Hid (0 < ln → ∃ bk off rs, NA = some ⟨bk, off, none⟩ ∧ rs.length = ln ∧ (∀ j (h : j < rs.length), rs[j].n ≤ 800) ∧ Ow w1.heap.size w2 bk off rs) := Lib.hid (fun hp => by
    have e0 := HLN.out
    obtain ⟨rs, hr, hc⟩ := eds_raws HN2.out
    obtain ⟨bk, off, rs', hA, hl, ho⟩ := ow_of HN2.out HF2.out (by omega)
    refine ⟨bk, off, rs', hA, by omega, fun j hj => ?_, ho⟩
    have hjn : j < n.length := by omega
    obtain ⟨bk2, off2, hA2, -, -, hcc⟩ := hc (by omega)
    rw [hA] at hA2
    injection hA2 with hA2
    injection hA2 with h1 h2
    subst h1 h2
    have hjr : j < rs.length := by rw [hr.1]; exact hjn
    have q1 := hcc _ _ (rawCells_at rs j hjr).2
    have q2 := ho.cells _ _ (rawCells_at rs' j hj).2
    rw [q1] at q2
    injection q2 with q2
    injection q2 with _ q3 _
    rw [← q3, (hr.2 j hjr hjn).n]
    exact HLE.out j hjn)
  go_wp2_with fail
  go_loopg [7, 8] ln (fun m iv kv wr => ∃ (i : Nat), i ≤ ln ∧ iv = .int .i64 i ∧ ln - i ≤ m ∧ Hid (0 < ln → ∃ bk off rs, NA = some ⟨bk, off, none⟩ ∧ rs.length = ln ∧ (∀ j (h : j < rs.length), rs[j].n ≤ 800) ∧ Ow w1.heap.size wr bk off rs) ∧ Hid (Below w1.heap.size w1 wr))
  case atStart => exact ⟨0, Nat.zero_le _, rfl, by omega, HOW, HBN⟩
  case round =>
    clear HOW HBN
    obtain ⟨i, hi, rfl, hmm, HO, HB⟩ := hrel
    by_cases hlt : i < ln
    · obtain ⟨bk, off, rs, hA, hrl, hrn, ho⟩ := HO.out (by omega)
      subst hA
      have hir : i < rs.length := by omega
      have hri := hrn i hir
      have HQ := Lib.hid (rawCells_at rs i hir)
      have HRN2 := Lib.hid hrn
      have HRL := Lib.hid hrl
      have HO1 := Lib.hid ho
      have HLI := Lib.hid (fun (W : World) (h : Ow w1.heap.size W bk off rs) => h.lines i hir)
      have h0i : (0 : Int) ≤ (i : Int) := by omega
      have hil : (i : Int) < (ln : Int) := by omega
      clear hrn ho hrl
      generalize rs[i] = r at *
      obtain ⟨d, rA, rn, rc⟩ := r
      simp only at hri HQ HLI
      go_wp2_with fail
      go_loopg [8] rn (fun m kv wx => ∃ (k : Nat), k ≤ rn ∧ kv = .int .i64 k ∧ rn - k ≤ m ∧ Hid (Ow w1.heap.size wx bk off rs) ∧ Hid (Below w1.heap.size w1 wx))
      case atStart => exact ⟨0, Nat.zero_le _, rfl, by omega, HO1, HB⟩
      case round =>
        clear HB HO1
        obtain ⟨k, hk, rfl, hm2, HO1, HB⟩ := hrel
        have c1 := HO1.out.cells _ _ HQ.out.2
        rw [← Nat.add_assoc] at c1
        by_cases hlk : k < rn
        · obtain ⟨lb, lo, hrA, hlb, ⟨s0, p0⟩, hz0⟩ := HLI.out wr HO1.out k hlk
          subst hrA
          have HO2 := Lib.hid (HO1.out.store p0 ⟨#[111, 116, 104, 101, 114]⟩)
          have HB2 : Hid (Below w1.heap.size w1 (wr.setCell ⟨lb, lo + k * 2, none⟩ (.string ⟨#[111, 116, 104, 101, 114]⟩))) := Lib.hid (HB.out.setCell hlb _)
          have h0k : (0 : Int) ≤ (k : Int) := by omega
          have hkl : (k : Int) < (rn : Int) := by omega
          go_wp2_with fail
          go_roundg (rn - (k + 1))
          case rel => exact ⟨k + 1, by omega, by go_num, Nat.le_refl _, HO2, HB2⟩
          case measure => omega
        · obtain rfl : k = rn := by omega
          go_wp2_with fail
          go_roundg (ln - (i + 1))
          case rel => exact ⟨i + 1, by omega, by go_num, Nat.le_refl _, Lib.hid (fun _ => ⟨bk, off, rs, rfl, HRL.out, HRN2.out, HO1.out⟩), HB⟩
          case measure => omega
    · obtain rfl : i = ln := by omega
      have HE2 := Lib.hid (HE1.out.below HB.out)
      clear HO
      generalize wr = wo at *
      go_wp2_with fail
      with_reducible refine (HS.out _ HE2.out).mono ?_
      rintro e w3 ⟨XA, xc, YA, yc, rfl, hsd⟩
      have HSX : Hid (∃ xs, w3.ownsRow wo.heap.size 44 2 (.slice XA x.length xc) x.length xs) := Lib.hid ⟨_, hsd.o⟩
      have HB3 : Hid (Below w1.heap.size w1 w3) := Lib.hid (HB.out.trans (hsd.b.mono HB.out.size))
      have hs3 : w1.heap.size ≤ wo.heap.size := HB.out.size
      clear hsd
      obtain ⟨lx, hlx⟩ : ∃ k, k = x.length := ⟨_, rfl⟩
      rw [← hlx] at hsl HSX ⊢
      clear hlx
      go_wp2_with fail
      go_loopg [12] lx (fun m iv wx => ∃ (k : Nat), k ≤ lx ∧ iv = .int .i64 k ∧ lx - k ≤ m ∧ Hid (∃ xs, wx.ownsRow wo.heap.size 44 2 (.slice XA lx xc) lx xs) ∧ Hid (Below w1.heap.size w1 wx))
      case atStart => exact ⟨0, Nat.zero_le _, rfl, by omega, HSX, HB3⟩
      case round =>
        clear HSX HB3
        obtain ⟨k, hk, rfl, hm2, HX, HB3⟩ := hrel
        by_cases hlk : k < lx
        · obtain ⟨xs, hxo⟩ := HX.out
          have hxl := hxo.1
          obtain ⟨g, hg, hgb, hglt, hgc⟩ := own_at hxo (by omega)
          subst hg
          have hk2 : k * 2 < xs.length := by omega
          have c0 := hgc (k * 2) _ (List.getElem?_eq_getElem hk2)
          have hz := World.ownsRow.frozenAt hxo (k * 2)
          have HX2 : Hid (∃ xs, (wr.setCell ⟨g, k * 2, none⟩ (.string ⟨#[111, 116, 104, 101, 114]⟩)).ownsRow wo.heap.size 44 2 (.slice (some ⟨g, 0, none⟩) lx xc) lx xs) := Lib.hid ⟨_, (World.ownsRow.stored hxo (k * 2) _).1⟩
          have HB4 : Hid (Below w1.heap.size w1 (wr.setCell ⟨g, k * 2, none⟩ (.string ⟨#[111, 116, 104, 101, 114]⟩))) := Lib.hid (HB3.out.setCell (Nat.le_trans hs3 hgb) _)
          have h0k : (0 : Int) ≤ (k : Int) := by omega
          have hkl : (k : Int) < (lx : Int) := by omega
          clear hxo hxl hgc
          generalize xs[k * 2] = u at *
          go_wp2_with fail
          go_roundg (lx - (k + 1))
          case rel => exact ⟨k + 1, by omega, by go_num, Nat.le_refl _, HX2, HB4⟩
          case measure => omega
        · obtain rfl : k = lx := by omega
          have HE5 := Lib.hid (HE1.out.below HB3.out)
          have HW5 := Lib.hid (HW1.out.below HB3.out)
          have HB5 := Lib.hid (HB1.out.trans (HB3.out.mono HB1.out.size))
          clear HX HE2 HE1 HW1 HB3 HB1
          go_wp2_with fail
          with_reducible refine (HRN.out.at c HE5.out).mono ?_
          rintro e w6 ⟨VA, vc, rfl, hv, hb⟩
          have HV6 := Lib.hid hv
          have HW6 := Lib.hid (HW5.out.below hb)
          have HB6 := Lib.hid (HB5.out.trans (hb.mono HB5.out.size))
          clear hv hb HW5 HB5 HE5
          go_wp2_with fail
          with_reducible refine (HV.out.at _).mono ?_
          rintro e w7 ⟨rfl, hb⟩
          have HV7 := Lib.hid (HV6.out.below hb)
          have HW7 := Lib.hid (HW6.out.below hb)
          have HB7 := Lib.hid (HB6.out.trans (hb.mono HB6.out.size))
          clear hb HV6 HW6 HB6
          have HSM3 : Hid (Calls Try.prog 15 #[.slice WA i wc, .slice VA n.length vc] w7 (TrEnd w7)) := Lib.hid (by
            have h := HSM.out.at wc vc HW7.out HV7.out
            have e := HLN.out
            rw [show Value.slice WA i wc = Value.slice WA n.length wc by rw [e]]
            exact h)
          go_wp2_with fail
          with_reducible refine (HSM3.out).mono ?_
          rintro e w8 ⟨rfl, hb⟩
          have HB8 := Lib.hid (HB7.out.trans (hb.mono HB7.out.size))
          clear hb
          go_wp2_with fail
          go_ret
          exact ⟨rfl, HB8.out⟩
end Go.Proofs.Ytcipecjbibpcbaa.S
