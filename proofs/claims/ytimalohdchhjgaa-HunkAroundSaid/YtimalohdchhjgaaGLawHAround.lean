/-
  The law HunkAround.
-/
import Derived.Test.YtimalohdchhjgaaGhh
import Derived.BigQuiet
namespace Go.Proofs.Ytimalohdchhjgaa.H
set_option linter.unusedVariables false
set_option linter.unusedSimpArgs false
open Go.RowKit
open T S
open V (grown_of)
open I (alloc1 own_at own_below)
open N (Ln)
open M (Lv)

theorem row_apart {p q : Nat} : ∀ (hs : List Hk) (st : Bool) (x y : Int), Row p q st x y hs → ∀ i (h : i + 1 < hs.length), hs[i].oa + hs[i].o < hs[i + 1].oa
  | h :: r, st, x, y, ⟨_, _, _, _, _, h6⟩, 0, hi => by
    cases r with
    | nil => simp at hi
    | cons g r => exact h6.2.1 rfl
  | h :: r, st, x, y, ⟨_, _, _, _, _, h6⟩, i + 1, hi => by
    simp only [List.getElem_cons_succ]
    exact row_apart r true _ _ h6 i (by simpa using hi)
theorem row_in {p q : Nat} : ∀ (hs : List Hk) (st : Bool) (x y : Int), 0 ≤ x → Row p q st x y hs → ∀ h ∈ hs, 0 ≤ h.oa ∧ 0 ≤ h.o ∧ h.oa + h.o ≤ p
  | h :: r, st, x, y, hx, ⟨h1, _, _, h4, _, h6⟩, z, hz => by
    have hf := row_fits _ _ _ _ h6
    rcases List.mem_cons.1 hz with rfl | hz
    · omega
    · exact row_in r true _ _ (by omega) h6 z hz
/-- What the law looks at in a hunk. -/
structure Seen (c : Nat) (h : Hk) : Prop where
  ne : h.es ≠ []
  two : ∀ e ∈ h.es, e.1 = 1 → e.2.length ≤ 2 * c
  ends : ∀ k (hk : k < h.es.length), k = 0 ∨ k + 1 = h.es.length → h.es[k].1 = 1 → h.es[k].2.length ≤ c
theorem Cl.seen {c : Nat} {h : Hk} (hc : Cl c h) : Seen c h := by
  have hne : h.es ≠ [] := fun e => by obtain ⟨x, hx, -⟩ := hc.some; rw [e] at hx; cases hx
  refine ⟨hne, hc.keep, fun k hk ho h1 => ?_⟩
  rcases ho with rfl | ho
  · exact hc.first _ (by rw [List.head?_eq_getElem?, List.getElem?_eq_getElem hk]) h1
  · exact hc.last _ (by rw [List.getLast?_eq_getElem?, show h.es.length - 1 = k by omega, List.getElem?_eq_getElem hk]) h1
set_option maxRecDepth 100000 in
set_option maxHeartbeats 8000000 in
theorem haround_law {A : Option Addr} {c x : Nat} {es : List Ed} {w : World} (hE : EdsIn 0 w A es) (hok : EdsOk es) (hx : x < 256) :
    Calls Try.prog 6 #[.slice A es.length c, .int .u8 (x : Int)] w fun e w' => e = .returned (.bool true) ∧ Below w.heap.size w w' := by
  have HFW := Lib.hid (few_any A c es w hE hok)
  have HE := Lib.hid hE
  have HV := Lib.hid live9
  have hx1 := u8_rem hx
  have HOK := Lib.hid hok
  have HXC : Hid ((x : Int) % 21 = ((x % 21 : Nat) : Int)) := Lib.hid (by omega)
  clear hE hok
  go_enter Try.func6, Try.ntmps6
  go_wp2_with fail
  with_reducible refine (HFW.out).mono ?_
  rintro e w1 ⟨v, rfl, hv, hb⟩
  have HE1 := Lib.hid (HE.out.below hb)
  have HB1 := Lib.hid hb
  clear hb HE HFW
  cases v with
  | false =>
    go_wp2_with fail
    with_reducible refine (HV.out.at w1).mono ?_
    rintro e w2 ⟨rfl, hb2⟩
    have HB2 := Lib.hid (HB1.out.trans (hb2.mono HB1.out.size))
    go_wp2_with fail
    go_ret
    exact ⟨rfl, HB2.out⟩
  | true =>
    obtain ⟨hl, ht⟩ := hv rfl
    have HBD := Lib.hid (c_build ((x : Int) % 21) HOK.out)
    have HCC : Hid (x % 21 ≤ 20) := Lib.hid (by omega)
    by_cases hk : ck es = 0
    · rw [HXC.out, build_ok hk (by omega), ← HXC.out] at HBD
      have f1 := fw_of (c := x % 21) hk hl ht
      have hrow := bld_row (c := x % 21) (es := norm es)
      have hnt := (norm_ok hk).2.1
      have HJN := Lib.hid (c_join f1.ok f1.jl f1.ll)
      have HGJ := Lib.hid (c_rchanged f1.jok)
      have HGE := Lib.hid (c_rchanged HOK.out)
      rw [f1.chg] at HGJ
      have HSN : Hid (∀ h ∈ bld (x % 21) (norm es), Seen (x % 21) h) := Lib.hid (fun h hm => (f1.cl h hm).seen)
      have HAP := Lib.hid (row_apart _ _ _ _ hrow)
      have HIN : Hid (∀ h ∈ bld (x % 21) (norm es), 0 ≤ h.oa ∧ 0 ≤ h.o ∧ h.oa + h.o ≤ 120) := Lib.hid (fun h hm => by have := row_in _ _ _ _ (Int.le_refl _) hrow h hm; omega)
      have HLN := Lib.hid f1.len
      have HEL : Hid (∀ h ∈ bld (x % 21) (norm es), h.es.length ≤ 1000 ∧ ∀ e ∈ h.es, e.2.length ≤ 1000000) := Lib.hid (fun h hm => ⟨by
        have h1 := full_len (f1.cl h hm).nf
        have h2 := tl_mem hm
        have h3 := bld_tl (c := x % 21) (norm es)
        omega, f1.ll h hm⟩)
      simp only at HBD
      clear f1 hrow hnt hl ht hv
      generalize bld (x % 21) (norm es) = hs at *
      generalize chg es = cz at *
      have hcz : (cz == cz) = true := by simp
      clear hk HOK
      go_wp2_with fail
      with_reducible refine (HBD.out.at c HE1.out).mono ?_
      rintro e w2 ⟨HA, hcap, rfl, hH2, hb2⟩
      have HH2 := Lib.hid hH2
      have HB2 := Lib.hid (HB1.out.trans (hb2.mono HB1.out.size))
      have HE2 := Lib.hid (HE1.out.below hb2)
      clear hH2 hb2 HBD HE1 HB1
      obtain ⟨cn, hcn⟩ : ∃ cn, cn = x % 21 := ⟨_, rfl⟩
      rw [← hcn] at HSN HCC HXC
      obtain ⟨ci, hci⟩ : ∃ ci, ci = (x : Int) % 21 := ⟨_, rfl⟩
      rw [← hci] at HXC
      clear hcn hx1
      go_upto_region 7 with fail
      try rw [← hci]
      clear hci
      have hw2 : IntKind.i64.wrap (2 * ci) = 2 * ci := by have := HXC.out; have := HCC.out; rw [IntKind.wrap_i64]; omega
      go_wp2_with fail
      go_loopg [8] hs.length (fun m iv wr => ∃ (i : Nat), i ≤ hs.length ∧ iv = .int .i64 i ∧ hs.length - i ≤ m ∧ Hid (Below w2.heap.size w2 wr))
      case atStart => exact ⟨0, Nat.zero_le _, rfl, by omega, Lib.hid (Below.refl _ _)⟩
      case round =>
        obtain ⟨i, hi, rfl, hmm, HB⟩ := hrel
        by_cases hlt : i < hs.length
        · have HPV : Hid (0 < i → ∃ bk off, HA = some ⟨bk, off, none⟩ ∧ ∀ W, Below wr.heap.size wr W → ∃ p o : Int, W.cell? ⟨bk, off + (i - 1) * 5, none⟩ = some (.int .i64 p) ∧ W.cell? ⟨bk, off + (i - 1) * 5 + 1, none⟩ = some (.int .i64 o) ∧ 0 ≤ p ∧ 0 ≤ o ∧ p + o ≤ 120 ∧ p + o < hs[i].oa) := Lib.hid (fun h => by
            obtain ⟨bk, off, hAe, -, hbk, hI⟩ := HH2.out (by omega)
            obtain ⟨_, _, d0, d1, -⟩ := hI (i - 1) (by omega)
            have hap := HAP.out (i - 1) (by omega)
            have hin := HIN.out _ (List.getElem_mem (show i - 1 < hs.length by omega))
            have e : i - 1 + 1 = i := by omega
            simp only [e] at hap
            refine ⟨bk, off, hAe, fun W hW => ⟨_, _, (hW.cell (p := ⟨bk, _, none⟩) (Nat.lt_of_lt_of_le hbk HB.out.size)).trans ((HB.out.cell (p := ⟨bk, _, none⟩) hbk).trans d0), (hW.cell (p := ⟨bk, _, none⟩) (Nat.lt_of_lt_of_le hbk HB.out.size)).trans ((HB.out.cell (p := ⟨bk, _, none⟩) hbk).trans d1), hin.1, hin.2.1, hin.2.2, hap⟩⟩)
          have HCU : Hid (∀ W, Below wr.heap.size wr W → ∃ bk off EA ec, HA = some ⟨bk, off, none⟩ ∧ W.cell? ⟨bk, off + i * 5, none⟩ = some (.int .i64 hs[i].oa) ∧ W.cell? ⟨bk, off + i * 5 + 4, none⟩ = some (.slice EA hs[i].es.length ec) ∧ EdsIn 0 w2 EA hs[i].es) := Lib.hid (fun W hW => by
            obtain ⟨bk, off, EA, ec, hAe, c0, -, -, -, c4, hE, -, -⟩ := hunk_at HH2.out (HB.out.trans (hW.mono HB.out.size)) hlt
            exact ⟨bk, off, EA, ec, hAe, c0, c4, hE⟩)
          have hsn := HSN.out _ (List.getElem_mem hlt)
          have HS2 := Lib.hid hsn.two
          have HS3 := Lib.hid hsn.ends
          have hel := HEL.out _ (List.getElem_mem hlt)
          have HELL := Lib.hid hel.2
          have hin := HIN.out _ (List.getElem_mem hlt)
          have hnel := hel.1
          have hpos : 0 < hs[i].es.length := List.length_pos_iff.2 hsn.ne
          obtain ⟨bk, off, EA, ec, hAe, c0, c4, hE⟩ := HCU.out wr (Below.refl _ _)
          subst hAe
          have HE := Lib.hid hE
          have h0k : (0 : Int) ≤ (i : Int) := by omega
          have hki : (i : Int) < (hs.length : Int) := by omega
          have hwl : IntKind.i64.wrap ((hs.length : Int) - 1) = (hs.length : Int) - 1 := by have := HLN.out; rw [IntKind.wrap_i64]; omega
          generalize hs[i].oa = oa at *
          generalize hs[i].o = oo at *
          generalize hs[i].es = ed at *
          have hn0 : ((ed.length : Int) == 0) = false := by simp; intro e; rw [e] at hpos; simp at hpos
          have hwe : IntKind.i64.wrap ((ed.length : Int) - 1) = (ed.length : Int) - 1 := by rw [IntKind.wrap_i64]; omega
          clear hsn hel hE
          go_wp2_with fail
          clear c0 c4
          go_loopg [10] ed.length (fun m kv wx => ∃ (k : Nat), k ≤ ed.length ∧ kv = .int .i64 k ∧ ed.length - k ≤ m ∧ Hid (Below wr.heap.size wr wx))
          case atStart => exact ⟨0, Nat.zero_le _, rfl, by omega, Lib.hid (Below.refl _ _)⟩
          case round =>
            obtain ⟨k, hk, rfl, hmk, HBX⟩ := hrel
            by_cases hkt : k < ed.length
            · obtain ⟨bk', off', EA', ec', hAe', c0, c4, hE'⟩ := HCU.out _ HBX.out
              obtain ⟨rfl, rfl⟩ : bk = bk' ∧ off = off' := by injection hAe' with e; injection e with e1 e2; exact ⟨e1, e2⟩
              obtain ⟨eb, eo, LA, lc, hEe, d0, d1, -, -, -⟩ := edit_at hE' (HB.out.trans (HBX.out.mono HB.out.size)) hkt
              subst hEe
              have htwo := HS2.out _ (List.getElem_mem hkt)
              have hends := HS3.out k hkt
              have hlm := HELL.out _ (List.getElem_mem hkt)
              generalize ed[k] = e at *
              obtain ⟨d, l⟩ := e
              simp only at d0 d1 htwo hends hlm
              obtain ⟨W1, hW1⟩ : ∃ W : World, W = wr.alloc (.cells #[.int .i64 d, .slice LA l.length lc] 47) := ⟨_, rfl⟩
              have hX := heap_alloc_new wr (.cells #[.int .i64 d, .slice LA l.length lc] 47)
              rw [← hW1] at hX
              have x0 := L.blk_cell hX 0
              have x1 := L.blk_cell hX 1
              simp only [List.getElem?_toArray, List.getElem?_cons_zero, List.getElem?_cons_succ] at x0 x1
              have HBX1 := Lib.hid (HBX.out.trans ((show Below wr.heap.size wr W1 by rw [hW1]; exact alloc1 _ _).mono HBX.out.size))
              have h0kk : (0 : Int) ≤ (k : Int) := by omega
              have hkk : (k : Int) < (ed.length : Int) := by omega
              clear hX hE' hAe' HBX
              go_upto_region 17 with fail
              rw [← hW1]
              obtain ⟨xb, hxb⟩ : ∃ xb, xb = wr.heap.size := ⟨_, rfl⟩
              rw [← hxb] at x0 x1 ⊢
              clear hW1 hxb c0 c4 d0 d1
              by_cases hd : d = 1
              · subst hd
                have ht2 : decide (2 * ci < (l.length : Int)) = false := decide_eq_false (by have := htwo rfl; have := HXC.out; omega)
                by_cases hk0 : k = 0
                · have e0 : ((k : Int) == 0) = true := by simp [hk0]
                  have htc : decide (ci < (l.length : Int)) = false := decide_eq_false (by have := hends (.inl hk0) rfl; have := HXC.out; omega)
                  clear htwo hends hk0
                  go_wp2_with fail
                  go_roundg (ed.length - (k + 1))
                  case rel => exact ⟨k + 1, by omega, by go_num, Nat.le_refl _, HBX1⟩
                  case measure => omega
                · have e0 : ((k : Int) == 0) = false := by simp [hk0]
                  by_cases hk1 : k + 1 = ed.length
                  · have e1 : ((k : Int) == (ed.length : Int) - 1) = true := by rw [beq_iff_eq]; omega
                    have htc : decide (ci < (l.length : Int)) = false := decide_eq_false (by have := hends (.inr hk1) rfl; have := HXC.out; omega)
                    clear htwo hends hk0
                    go_wp2_with fail
                    go_roundg (ed.length - (k + 1))
                    case rel => exact ⟨k + 1, by omega, by go_num, Nat.le_refl _, HBX1⟩
                    case measure => omega
                  · have e1 : ((k : Int) == (ed.length : Int) - 1) = false := beq_eq_false_iff_ne.2 (by omega)
                    clear htwo hends hk0
                    go_wp2_with fail
                    go_roundg (ed.length - (k + 1))
                    case rel => exact ⟨k + 1, by omega, by go_num, Nat.le_refl _, HBX1⟩
                    case measure => omega
              · have hd1 : (d == 1) = false := beq_eq_false_iff_ne.2 hd
                clear htwo hends hd
                go_wp2_with fail
                go_roundg (ed.length - (k + 1))
                case rel => exact ⟨k + 1, by omega, by go_num, Nat.le_refl _, HBX1⟩
                case measure => omega
            · obtain rfl : k = ed.length := by omega
              obtain ⟨bk', off', EA', ec', hAe', c0, c4, hE'⟩ := HCU.out _ HBX.out
              obtain ⟨rfl, rfl⟩ : bk = bk' ∧ off = off' := by injection hAe' with e; injection e with e1 e2; exact ⟨e1, e2⟩
              have HBN := Lib.hid (HB.out.trans (HBX.out.mono HB.out.size))
              clear hE' hAe' c4
              by_cases hi0 : i = 0
              · subst hi0
                have hg0 : decide ((0 : Int) < ((0 : Nat) : Int)) = false := rfl
                go_wp2_with fail
                go_quiet (fail)
                obtain ⟨wq, hwq⟩ : ∃ W : World, W = wr.drewN nq := ⟨_, rfl⟩
                rw [← hwq]
                have HBQ : Hid (Below w2.heap.size w2 wq) := Lib.hid (by rw [hwq]; exact HBN.out.trans ((V.drawn_below wr nq).mono HBN.out.size))
                clear hwq
                go_wp2_with fail
                go_roundg (hs.length - (0 + 1))
                case rel => exact ⟨0 + 1, by omega, by go_num, Nat.le_refl _, HBQ⟩
                case measure => omega
              · have hgi : decide ((0 : Int) < (i : Int)) = true := decide_eq_true (by omega)
                have hgn : 0 < i := by omega
                have hsuc : i + 1 ≤ hs.length := hlt
                have hln := HLN.out
                obtain ⟨bk2, off2, hA2, hP⟩ := HPV.out (by omega)
                obtain ⟨rfl, rfl⟩ : bk = bk2 ∧ off = off2 := by injection hA2 with e; injection e with e1 e2; exact ⟨e1, e2⟩
                obtain ⟨p, o, d0, d1, hp0, ho0, hpo, hlt2⟩ := hP wr HBX.out
                obtain ⟨i1, hi1⟩ : ∃ i1, i1 = i - 1 := ⟨_, rfl⟩
                have hwi : IntKind.i64.wrap ((i : Int) - 1) = (i1 : Int) := by rw [IntKind.wrap_i64]; have := HLN.out; omega
                have h0i : (0 : Int) ≤ (i1 : Int) := by omega
                have hi1n : (i1 : Int) < (hs.length : Int) := by omega
                rw [← hi1] at d0 d1
                have hwp : IntKind.i64.wrap (p + o) = p + o := by rw [IntKind.wrap_i64]; omega
                have hle : decide (oa ≤ p + o) = false := decide_eq_false (by omega)
                clear hP hA2 hi1 hi0 hlt2
                go_wp2_with fail
                go_quiet (fail)
                obtain ⟨wq, hwq⟩ : ∃ W : World, W = wr.drewN nq := ⟨_, rfl⟩
                rw [← hwq]
                have HBQ : Hid (Below w2.heap.size w2 wq) := Lib.hid (by rw [hwq]; exact HBN.out.trans ((V.drawn_below wr nq).mono HBN.out.size))
                clear hwq
                go_wp2_with fail
                go_roundg (hs.length - (i + 1))
                case rel => exact ⟨i + 1, hsuc, by go_num, Nat.le_refl _, HBQ⟩
                case measure => omega
        · obtain rfl : i = hs.length := by omega
          have HHF := Lib.hid (HH2.out.below HB.out)
          have HEF := Lib.hid (HE2.out.below HB.out)
          have HBF := Lib.hid (HB2.out.trans (HB.out.mono HB2.out.size))
          clear HB HB2 HH2 HE2
          go_wp2_with fail
          with_reducible refine (HV.out.at _).mono ?_
          rintro e w5 ⟨rfl, hb5⟩
          have HB5 := Lib.hid (HBF.out.trans (hb5.mono HBF.out.size))
          have HH5 := Lib.hid (HHF.out.below hb5)
          have HE5 := Lib.hid (HEF.out.below hb5)
          clear hb5 HHF HEF HBF
          go_wp2_with fail
          with_reducible refine (HJN.out.at hcap HH5.out).mono ?_
          rintro e w6 ⟨JA, jc, rfl, hj6, hb6⟩
          have HB6 := Lib.hid (HB5.out.trans (hb6.mono HB5.out.size))
          have HJ6 := Lib.hid hj6
          have HE6 := Lib.hid (HE5.out.below hb6)
          clear hj6 hb6 HH5 HE5 HB5
          go_wp2_with fail
          with_reducible refine (HGJ.out.at jc HJ6.out).mono ?_
          rintro e w7 ⟨rfl, hb7⟩
          have HB7 := Lib.hid (HB6.out.trans (hb7.mono HB6.out.size))
          have HE7 := Lib.hid (HE6.out.below hb7)
          clear hb7 HJ6 HE6 HB6
          go_wp2_with fail
          with_reducible refine (HGE.out.at c HE7.out).mono ?_
          rintro e w8 ⟨rfl, hb8⟩
          have HB8 := Lib.hid (HB7.out.trans (hb8.mono HB7.out.size))
          clear hb8
          go_wp2_with fail
          go_ret
          exact ⟨rfl, HB8.out⟩
    · rw [build_bad hk] at HBD
      have HRC := Lib.hid (c_rcheck HOK.out)
      simp only at HBD
      clear hl ht hv HOK HXC HCC
      generalize ck es = q at *
      have h0 : (q == 0) = false := beq_eq_false_iff_ne.2 hk
      have h1 : (q != 0) = true := by simp [bne, h0]
      have hqq : (q == q) = true := by simp
      clear hk
      go_wp2_with fail
      with_reducible refine (HBD.out.at c HE1.out).mono ?_
      rintro e w2 ⟨HA, hcap, rfl, -, hb2⟩
      have HB2 := Lib.hid (HB1.out.trans (hb2.mono HB1.out.size))
      have HE2 := Lib.hid (HE1.out.below hb2)
      clear hb2 HB1 HE1
      go_wp2_with fail
      with_reducible refine (HV.out.at _).mono ?_
      rintro e w3 ⟨rfl, hb3⟩
      have HB3 := Lib.hid (HB2.out.trans (hb3.mono HB2.out.size))
      have HE3 := Lib.hid (HE2.out.below hb3)
      clear hb3 HB2 HE2
      go_wp2_with fail
      with_reducible refine (HRC.out.at c HE3.out).mono ?_
      rintro e w4 ⟨rfl, hb4⟩
      have HB4 := Lib.hid (HB3.out.trans (hb4.mono HB3.out.size))
      clear hb4
      go_wp2_with fail
      go_ret
      exact ⟨rfl, HB4.out⟩
end Go.Proofs.Ytimalohdchhjgaa.H
