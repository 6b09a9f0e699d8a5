/-
  A stretch of lines, cut out of a text in place.
  The reference's Whole.
-/
import Derived.Test.YtigghcmbdnidnaaGps
import Derived.Test.YtigghcmbdnidnaaGpo
import Derived.Test.YtigghcmbdnidnaaGpf
import Derived.Test.YtigghcmbdnidnaaGpp
namespace Go.Proofs.Ytigghcmbdnidnaa.Pa
set_option linter.unusedVariables false
set_option linter.unusedSimpArgs false
open Go.RowKit
open T S H
open V (grown_of)
open I (alloc1 own_at own_below)
open N (Ln)

/-- What a[p:q] is. -/
structure Cu (B : Option Addr) (n c p q : Nat) (a : List Ln) (A2 : Option Addr) (c2 : Nat) : Prop where
  run : ∀ W, Sem.run Try.prog (Instr.sliceAt 23 (.slice B n c) (some (.int .i64 (p : Int))) (some (.int .i64 (q : Int))) none) W = .ok (.slice A2 (q - p) c2) W
  l : ∀ w0, LinesIn w0 B a → LinesIn w0 A2 ((a.drop p).take (q - p))
  z : A2 = none → c2 = 0
  c : q - p ≤ c2
theorem cut_is {B : Option Addr} {n c p q : Nat} {a : List Ln} (w : World) (hL : LinesIn w B a) (hn : n = a.length) (hpq : p ≤ q) (hqn : q ≤ n) (hnc : n ≤ c) (hz : B = none → c = 0) : ∃ A2 c2, Cu B n c p q a A2 c2 := by
  have HN := Lib.hid hn
  clear hn hL
  have h0p : (0 : Int) ≤ (p : Int) := by omega
  have hpq' : (p : Int) ≤ (q : Int) := by omega
  have hqc : (q : Int) ≤ (c : Int) := by omega
  cases B with
  | none =>
    obtain rfl := hz rfl
    obtain rfl : n = 0 := by omega
    obtain rfl : q = 0 := by omega
    obtain rfl : p = 0 := by omega
    refine ⟨none, 0, fun W => ?_, fun w0 h => ?_, fun _ => rfl, by omega⟩
    · go_simp
    · have : a = [] := List.length_eq_zero_iff.1 HN.out.symm
      subst this
      exact fun hp => by simp at hp
  | some ad =>
    by_cases hpc : p = c
    · subst hpc
      obtain rfl : q = p := by omega
      refine ⟨some ad, 0, fun W => ?_, fun w0 h => ?_, (fun e => by cases e), by omega⟩
      · rw [Nat.sub_self]; go_simp
      · exact fun hp => by rw [List.length_take] at hp; have := HN.out; omega
    · have hcp : ¬ c = p := fun e => hpc e.symm
      refine ⟨some (ad.add (p * 2)), c - p, fun W => ?_, fun w0 h => ?_, (fun e => by cases e), by omega⟩
      · go_simp
      · by_cases hne : 0 < a.length
        · obtain ⟨k, off, he, -, -⟩ := h hne
          obtain rfl := Option.some.inj he
          rw [show (⟨k, off, none⟩ : Addr).add (p * 2) = ⟨k, off + p * 2, none⟩ by simp [Addr.add]]
          exact lines_take (lines_drop h p) (q - p)
        · exact fun hp => by rw [List.length_take, List.length_drop] at hp; have := HN.out; omega
/-- What a[p:] is. -/
structure Cv (B : Option Addr) (n c p : Nat) (a : List Ln) (A2 : Option Addr) (c2 : Nat) : Prop where
  run : ∀ W, Sem.run Try.prog (Instr.sliceAt 23 (.slice B n c) (some (.int .i64 (p : Int))) none none) W = .ok (.slice A2 (n - p) c2) W
  l : ∀ w0, LinesIn w0 B a → LinesIn w0 A2 ((a.drop p).take (n - p))
  z : A2 = none → c2 = 0
  c : n - p ≤ c2
theorem cut_end {B : Option Addr} {n c p : Nat} {a : List Ln} (w : World) (hL : LinesIn w B a) (hn : n = a.length) (hpn : p ≤ n) (hnc : n ≤ c) (hz : B = none → c = 0) : ∃ A2 c2, Cv B n c p a A2 c2 := by
  have HN := Lib.hid hn
  clear hn hL
  have h0p : (0 : Int) ≤ (p : Int) := by omega
  have hpq' : (p : Int) ≤ (n : Int) := by omega
  have hqc : (n : Int) ≤ (c : Int) := by omega
  cases B with
  | none =>
    obtain rfl := hz rfl
    obtain rfl : n = 0 := by omega
    obtain rfl : p = 0 := by omega
    refine ⟨none, 0, fun W => ?_, fun w0 h => ?_, fun _ => rfl, by omega⟩
    · go_simp
    · have : a = [] := List.length_eq_zero_iff.1 HN.out.symm
      subst this
      exact fun hp => by simp at hp
  | some ad =>
    by_cases hpc : p = c
    · subst hpc
      obtain rfl : n = p := by omega
      refine ⟨some ad, 0, fun W => ?_, fun w0 h => ?_, (fun e => by cases e), by omega⟩
      · rw [Nat.sub_self]; go_simp
      · exact fun hp => by rw [List.length_take] at hp; have := HN.out; omega
    · have hcp : ¬ c = p := fun e => hpc e.symm
      refine ⟨some (ad.add (p * 2)), c - p, fun W => ?_, fun w0 h => ?_, (fun e => by cases e), by omega⟩
      · go_simp
      · by_cases hne : 0 < a.length
        · obtain ⟨k, off, he, -, -⟩ := h hne
          obtain rfl := Option.some.inj he
          rw [show (⟨k, off, none⟩ : Addr).add (p * 2) = ⟨k, off + p * 2, none⟩ by simp [Addr.add]]
          exact lines_take (lines_drop h p) (n - p)
        · exact fun hp => by rw [List.length_take, List.length_drop] at hp; have := HN.out; omega
end Go.Proofs.Ytigghcmbdnidnaa.Pa

namespace Go.Proofs.Ytigghcmbdnidnaa.Pa
set_option linter.unusedVariables false
set_option linter.unusedSimpArgs false
open Go.RowKit
open T S H
open V (grown_of)
open I (alloc1 own_at own_below)
open N (Ln)

set_option maxRecDepth 100000 in
set_option maxHeartbeats 8000000 in
theorem rwhole_any (A B : Option Addr) (c c' : Nat) (hs : List Hk) (a : List Ln) (w : World) (hH : HksIn 0 w A hs) (hok : HksOk hs) (hL : LinesIn w B a) (hc : a.length ≤ c') (hz : B = none → c' = 0) (ham : a.length ≤ maxLen) :
    Calls Try.prog 29 #[.slice A hs.length c, .slice B a.length c'] w (RnEnd w (whl hs a).1 (whl hs a).2) := by
  have HC := Lib.hid (rhcheck_any A c 0 hs w hH hok)
  have HH := Lib.hid hH
  have hl := hok.len
  have HES := Lib.hid hok.es
  have HL := Lib.hid hL
  have HZ := Lib.hid hz
  unfold maxLen at hl ham
  unfold CkEnd at HC
  clear hH hok hL hz
  by_cases hq0 : hck hs = 0
  · rw [hq0] at HC
    by_cases halong : 400 < a.length
    · have HW : Hid (whl hs a = ([], 4)) := Lib.hid (by unfold whl; rw [if_pos hq0, if_pos halong])
      rw [HW.out]
      have h4 : (400 : Int) < (a.length : Int) := by omega
      clear hq0 halong HW
      go_enter Try.func29, Try.ntmps29
      go_wp2_with fail
      with_reducible refine (HC.out).mono ?_
      rintro e w1 ⟨rfl, hb1⟩
      go_wp2_with fail
      go_ret2
      exact ⟨none, 0, rfl, fun h => absurd h (by simp), hb1⟩
    · have h4 : ¬ (400 : Int) < (a.length : Int) := by omega
      have ha4 : a.length ≤ 400 := by omega
      obtain ⟨hn4, hch⟩ := hck_ok hq0
      have HW8 : Hid (hs.all (stn a) = false → whl hs a = ([], 8)) := Lib.hid (fun h => by unfold whl; rw [if_pos hq0, if_neg halong, if_neg (by rw [h]; simp)])
      have HW0 : Hid (hs.all (stn a) = true → whl hs a = (nrm (wl a 0 hs), ck (wl a 0 hs))) := Lib.hid (fun h => by unfold whl; rw [if_pos hq0, if_neg halong, if_pos h])
      generalize whl hs a = RES at *
      obtain ⟨res, eres⟩ := RES
      have HCH := Lib.hid hch
      have HEL : Hid (∀ h ∈ hs, h.es.length ≤ 800 ∧ ∀ e ∈ h.es, e.2.length ≤ 800) := Lib.hid (fun h hm => by
        have := ck_ok (rgt_ck (chain_mem hch h hm))
        exact ⟨this.1, fun e he => Nat.le_trans (tl_each he) this.2.1⟩)
      clear hq0 halong hch
      simp only at HW8 HW0 ⊢
      obtain ⟨an, han⟩ : ∃ n, n = a.length := ⟨_, rfl⟩
      have HAN := Lib.hid han
      rw [← han] at h4 ha4 hc ham ⊢
      clear han
      go_enter Try.func29, Try.ntmps29
      go_wp2_with fail
      with_reducible refine (HC.out).mono ?_
      rintro e w1 ⟨rfl, hb1⟩
      have HB1 := Lib.hid hb1
      obtain ⟨W0, hW0⟩ : ∃ W : World, W = w1.alloc (.cells #[] 54) := ⟨_, rfl⟩
      have HJ0 : Hid (Jr w1 W0 (.slice (some ⟨w1.heap.size, 0, none⟩) ([] : List Raw).length 0) [] []) := Lib.hid ⟨by rw [hW0]; exact World.ownsRow_made (size := 2) (e := 54) w1 #[] 0 (Nat.le_refl _) (by unfold maxLen; omega) rfl, ⟨rfl, fun j h => by simp at h⟩, by rw [hW0]; exact alloc1 _ _⟩
      clear hb1 HC
      go_upto_region 7 with fail
      rw [← hW0]
      obtain ⟨ob, hob⟩ : ∃ ob, ob = w1.heap.size := ⟨_, rfl⟩
      rw [← hob] at HJ0 ⊢
      clear hW0 hob
      go_wp2_with fail
      go_loopg [7, 8, 9] hs.length (fun m sv pv iv wr => ∃ (k p : Nat) (y : Int) (SA : Option Addr) (cap : Nat) (rs : List Raw) (es0 : List Ed), k ≤ hs.length ∧ iv = .int .i64 k ∧ sv = .slice SA rs.length cap ∧ pv = .int .i64 p ∧ hs.length - k ≤ m ∧ p ≤ an ∧ rs.length ≤ k * 801 ∧ Hid (Jr w1 wr (.slice SA rs.length cap) rs es0) ∧ Hid (es0 ++ wl a p (hs.drop k) = wl a 0 hs) ∧ Hid ((hs.take k).all (stn a) = true) ∧ Hid (chain (p : Int) y (hs.drop k) = true))
      case atStart => exact ⟨0, 0, 0, _, _, [], [], Nat.zero_le _, rfl, rfl, rfl, by omega, Nat.zero_le _, by simp, HJ0, Lib.hid (by simp), Lib.hid rfl, Lib.hid (by simpa using HCH.out)⟩
      case round =>
        clear HJ0
        obtain ⟨k, p, y, SA, cap, rs, es0, hk, rfl, rfl, rfl, hmm, hpa, hrn, HJ, HWL, HAL, HCN⟩ := hrel
        have HBW := Lib.hid (HB1.out.trans (HJ.out.b.mono HB1.out.size))
        by_cases hlt : k < hs.length
        · obtain ⟨bk, off, EA, ec, hAe, c0, c1, c2, c3, c4, hE, -, hez⟩ := hunk_at HH.out (Below.refl _ _) hlt
          subst hAe
          have hbk : bk < w.heap.size := World.block_lt_of_cell? w _ c0
          have hcc := HCN.out
          rw [chain_cons hlt, Bool.and_eq_true, Bool.and_eq_true] at hcc
          obtain ⟨⟨hr, hf⟩, hcn⟩ := hcc
          have hnum := rgt_nums hr
          have hckh := rgt_ck hr
          have ho3 := (rgt_is hr).2.2.2.2.1
          have hel := (HEL.out _ (List.getElem_mem hlt)).1
          have hes := HES.out _ (List.getElem_mem hlt)
          have hwl : wl a p (hs.drop k) = (1, (a.drop p).take (hs[k].oa.toNat - p)) :: (hs[k].es ++ wl a (hs[k].oa + hs[k].o).toNat (hs.drop (k + 1))) := by rw [List.drop_eq_getElem_cons hlt, wl]
          have HTA : Hid ((hs.take (k + 1)).all (stn a) = ((hs.take k).all (stn a) && stn a hs[k])) := Lib.hid (by rw [List.take_succ_eq_append_getElem hlt, List.all_append]; simp)
          have HFA : Hid (stn a hs[k] = false → hs.all (stn a) = false) := Lib.hid (fun h => by
            rw [List.all_eq_false]
            exact ⟨hs[k], List.getElem_mem hlt, by rw [h]; simp⟩)
          have hpo : (p : Int) ≤ hs[k].oa := (of_decide_eq_true hf).1
          have hsd : (sides hs[k].es).1 = sd 3 hs[k].es := by unfold sides; rw [if_pos hckh]
          obtain ⟨⟨n1a, n1b⟩, ⟨n2a, n2b⟩, -, -⟩ := hnum
          obtain ⟨q, hq⟩ : ∃ q : Nat, hs[k].oa = (q : Int) := ⟨hs[k].oa.toNat, by omega⟩
          obtain ⟨m, hm⟩ : ∃ m : Nat, m = (sd 3 hs[k].es).length := ⟨_, rfl⟩
          rw [← hm] at ho3
          have hst : stn a hs[k] = decide (q + m ≤ an ∧ sd 3 hs[k].es = (a.drop q).take m) := by
            unfold stn
            rw [hsd, hq, ho3, Int.toNat_natCast, Int.toNat_natCast, ← HAN.out]
            rw [decide_eq_decide]
            exact ⟨fun h => ⟨by omega, h.2⟩, fun h => ⟨by omega, h.2⟩⟩
          rw [hst] at HTA HFA
          rw [hwl, hq, ho3] at HWL
          rw [hq] at c0 n1a n1b hpo hcn
          rw [ho3] at hcn n2a n2b
          rw [show ((q : Int) + (m : Int)).toNat = q + m by omega, Int.toNat_natCast] at HWL
          rw [show ((q : Int) + (m : Int)) = ((q + m : Nat) : Int) by omega] at hcn
          have HCN1 := Lib.hid hcn
          have HSD := Lib.hid (rsides_cap EA ec 0 hs[k].es wr (hE.below HBW.out) hes hckh)
          clear hwl hcn hq hr hsd hst HCN hf c1 c2 c3 ho3
          generalize hs[k].na + hs[k].n = y1 at *
          generalize hs[k].es = es at *
          have HCL := Lib.hid (fun W (hb : Below w.heap.size w W) => And.intro ((hb.cell (p := ⟨bk, off + k * 5, none⟩) hbk).trans c0) ((hb.cell (p := ⟨bk, off + k * 5 + 4, none⟩) hbk).trans c4))
          have HE := Lib.hid (hE.below HB1.out)
          have HEZ := Lib.hid hez
          have h0k : (0 : Int) ≤ (k : Int) := by omega
          have hki : (k : Int) < (hs.length : Int) := by omega
          have h0q : (0 : Int) ≤ (q : Int) := by omega
          have hwq : IntKind.i64.wrap ((q : Int) + (m : Int)) = (q : Int) + (m : Int) := by rw [IntKind.wrap_i64]; omega
          clear hE hes hez hckh c0 c4 hbk
          have HM := Lib.hid hm
          clear hm
          generalize sd 3 es = ol at *
          obtain ⟨-, c4⟩ := HCL.out wr HBW.out
          go_wp2_with fail
          with_reducible refine (HSD.out).mono ?_
          rintro e w2 ⟨XA, xc, YA, yc, rfl, hX, -, hb2⟩
          have HX := Lib.hid hX
          have HB2 := Lib.hid (HBW.out.trans (hb2.mono HBW.out.size))
          have HJ2 := Lib.hid (HJ.out.below hb2)
          clear hX hb2 HSD HJ c4
          obtain ⟨c0, -⟩ := HCL.out w2 HB2.out
          rw [← HM.out]
          by_cases hle : q + m ≤ an
          · have hd : decide ((an : Int) < (q : Int) + (m : Int)) = false := decide_eq_false (by omega)
            obtain ⟨A5, c5, hcu⟩ := cut_is (p := q) (q := q + m) (n := an) (c := c') w2 (HL.out.below HB2.out) HAN.out (by omega) hle hc HZ.out
            have hrun := hcu.run
            rw [Nat.add_sub_cancel_left, show ((q + m : Nat) : Int) = (q : Int) + (m : Int) by omega] at hrun
            have hl5 := hcu.l w2 (HL.out.below HB2.out)
            rw [Nat.add_sub_cancel_left] at hl5
            have hlen5 : ((a.drop q).take m).length = m := by rw [List.length_take, List.length_drop, ← HAN.out]; omega
            have HSM := Lib.hid (rsame_gen XA A5 xc c5 ol ((a.drop q).take m) w2 (by rw [← HM.out]; unfold maxLen; omega) (by rw [hlen5]; unfold maxLen; omega) HX.out hl5)
            rw [hlen5, ← HM.out] at HSM
            clear hcu hl5 hlen5
            cases hst : decide (ol = (a.drop q).take m) with
            | false =>
              rw [hst] at HSM
              have HR := Lib.hid (HW8.out (HFA.out (decide_eq_false (fun h => of_decide_eq_false hst h.2))))
              obtain ⟨rfl, rfl⟩ : res = [] ∧ eres = 8 := by have := HR.out; injection this with h1 h2; exact ⟨h1, h2⟩
              clear hst HW8 HW0 HR HTA HFA
              go_wp2_with fail
              with_reducible refine (HSM.out).mono ?_
              rintro e w3 ⟨rfl, hb3⟩
              have HB3 := Lib.hid (HB2.out.trans (hb3.mono HB2.out.size))
              clear hb3 HSM
              go_wp2_with fail
              go_ret2
              exact ⟨none, 0, rfl, fun h => absurd h (by simp), HB3.out⟩
            | true =>
              rw [hst] at HSM
              have hol := of_decide_eq_true hst
              have HAL1 : Hid ((hs.take (k + 1)).all (stn a) = true) := Lib.hid (by rw [HTA.out, HAL.out, decide_eq_true (And.intro hle hol)]; rfl)
              clear hst hol HTA HFA HAL
              go_wp2_with fail
              with_reducible refine (HSM.out).mono ?_
              rintro e w3 ⟨rfl, hb3⟩
              have HB3 := Lib.hid (HB2.out.trans (hb3.mono HB2.out.size))
              have HJ3 := Lib.hid (HJ2.out.below hb3)
              clear hb3 HSM HJ2 HX c0 hrun hd
              obtain ⟨c0, -⟩ := HCL.out w3 HB3.out
              have hpq : p ≤ q := by omega
              obtain ⟨LA, lc, hcu⟩ := cut_is (p := p) (q := q) (n := an) (c := c') w3 (HL.out.below HB3.out) HAN.out hpq (by omega) hc HZ.out
              have hrun := hcu.run
              obtain ⟨sl, hsl⟩ : ∃ l, l = (a.drop p).take (q - p) := ⟨_, rfl⟩
              have hlen : q - p = sl.length := by rw [hsl, List.length_take, List.length_drop, ← HAN.out]; omega
              have hcl := hcu.l w1 (HL.out.below HB1.out)
              have hcz := hcu.z
              have hcc := hcu.c
              rw [hlen] at hrun hcc
              rw [← hsl] at hcl
              rw [← hsl] at HWL
              have HR1 : Hid (RawsOk 0 w1 [⟨1, LA, sl.length, lc⟩] [(1, sl)]) := Lib.hid ⟨rfl, fun j h1 h2 => by
                obtain rfl : j = 0 := by simpa using h1
                exact ⟨rfl, rfl, hcl, hcc, hcz, fun _ _ => Nat.zero_le _⟩⟩
              clear hcu hsl hcl hcz hcc hlen
              have hx5 := heap_alloc_new w3 (.cells #[.int .i64 1, .slice LA sl.length lc] 54)
              have HRA := Lib.hid (raw1_at hx5)
              have HBA := Lib.hid (HB3.out.trans ((alloc1 w3 (.cells #[.int .i64 1, .slice LA sl.length lc] 54)).mono HB3.out.size))
              have HJA := Lib.hid (HJ3.out.below (alloc1 w3 (.cells #[.int .i64 1, .slice LA sl.length lc] 54)))
              have hbs : w1.heap.size ≤ (w3.alloc (.cells #[.int .i64 1, .slice LA sl.length lc] 54)).heap.size := HJA.out.b.size
              have hrs1 : rs.length + ([⟨1, LA, sl.length, lc⟩] : List Raw).length ≤ 4000000 := by simp; omega
              clear hx5 HJ3
              go_upto_region 16 with (at_builtin; refine wpList_append_eds (w := w3.alloc (.cells #[.int .i64 1, .slice LA sl.length lc] 54)) rfl (.tmp 64) (.tmp 74) rfl w1.heap.size (.slice SA rs.length cap) rs [⟨1, LA, sl.length, lc⟩] rfl HJA.out.own (some ⟨w3.heap.size, 0, none⟩) 1 1 rfl rfl HRA.out (fun e => by cases e) hrs1 hbs ?_; intro v4 w4 ho4 hg4; have HO4 := Lib.hid ho4; have HG4 := Lib.hid hg4; clear ho4 hg4)
              obtain ⟨SB, cap4, rfl, -, -⟩ := own_form HO4.out
              have HJ4 := Lib.hid (HJA.out.add (Below.refl _ _) HG4.out HO4.out HR1.out)
              have HB4 := Lib.hid (HB1.out.trans (HJ4.out.b.mono HB1.out.size))
              clear HO4 HG4 HJA HRA HR1 hbs hrs1 HBA c0 hrun
              obtain ⟨-, c4⟩ := HCL.out w4 HB4.out
              obtain ⟨rs', hr', hat'⟩ := eds_rawAt HE.out
              have HR' := Lib.hid hr'
              have HAT := Lib.hid (hat'.below HJ4.out.b)
              have hnn := hr'.1.symm
              have hbs : w1.heap.size ≤ w4.heap.size := HJ4.out.b.size
              have hrs2 : (rs ++ [(⟨1, LA, sl.length, lc⟩ : Raw)]).length + rs'.length ≤ 4000000 := by rw [← hnn]; simp; omega
              have hrs3 : (rs ++ [(⟨1, LA, sl.length, lc⟩ : Raw)] ++ rs').length ≤ (k + 1) * 801 := by rw [List.length_append, ← hnn]; simp; omega
              have HNN := Lib.hid hnn
              have HRS3 := Lib.hid hrs3
              generalize hrr : rs ++ [(⟨1, LA, sl.length, lc⟩ : Raw)] = r2 at *
              obtain ⟨n2, hn2⟩ : ∃ n2, n2 = r2.length := ⟨_, rfl⟩
              have HN2 := Lib.hid hn2
              clear hr' hat' hrs3 hrr hnn
              rw [← hn2]
              have HV4 : Hid (w4.ownsRow w1.heap.size 54 2 (.slice SB n2 cap4) r2.length (rawCells r2)) := Lib.hid (by rw [hn2]; exact HJ4.out.own)
              clear hn2
              go_upto_region 17 with (at_builtin; refine wpList_append_eds (w := w4) rfl (.tmp 76) (.tmp 81) rfl w1.heap.size (.slice SB n2 cap4) r2 rs' rfl HV4.out EA ec es.length rfl HNN.out HAT.out HEZ.out hrs2 hbs ?_; intro v5 w5 ho5 hg5; have HO5 := Lib.hid ho5; have HG5 := Lib.hid hg5; clear ho5 hg5)
              obtain ⟨SC, cap5, rfl, -, -⟩ := own_form HO5.out
              have HG5' : Hid (w4.grownBy w5 (Value.slice SB r2.length cap4).ownBlock) := Lib.hid (by rw [← HN2.out]; exact HG5.out)
              have HJ5 := Lib.hid (HJ4.out.add (Below.refl _ _) HG5'.out HO5.out HR'.out)
              clear HO5 HG5 HG5' HJ4 HAT HV4 hrs2 hbs HNN c4
              go_wp2_with fail
              go_roundg (hs.length - (k + 1))
              case rel => exact ⟨k + 1, q + m, y1, SC, cap5, r2 ++ rs', es0 ++ [(1, sl)] ++ es, by omega, by go_num, rfl, by push_cast; rfl, Nat.le_refl _, by omega, HRS3.out, HJ5, Lib.hid (by rw [← HWL.out]; simp), HAL1, HCN1⟩
              case measure => omega
          · have hd : decide ((an : Int) < (q : Int) + (m : Int)) = true := decide_eq_true (by omega)
            have HR := Lib.hid (HW8.out (HFA.out (decide_eq_false (fun h => hle h.1))))
            obtain ⟨rfl, rfl⟩ : res = [] ∧ eres = 8 := by have := HR.out; injection this with h1 h2; exact ⟨h1, h2⟩
            clear HW8 HW0 HR HTA HFA
            go_wp2_with fail
            go_ret2
            exact ⟨none, 0, rfl, fun h => absurd h (by simp), HB2.out⟩
        · obtain rfl : k = hs.length := by omega
          have HRES := Lib.hid (HW0.out (by have := HAL.out; rwa [List.take_length] at this))
          obtain ⟨rfl, rfl⟩ : res = nrm (wl a 0 hs) ∧ eres = ck (wl a 0 hs) := by have := HRES.out; injection this with h1 h2; exact ⟨h1, h2⟩
          have hfin : es0 ++ [(1, a.drop p)] = wl a 0 hs := by have := HWL.out; rw [List.drop_length] at this; exact this
          have hwlen := wl_len a hs 0 (fun h hm => (HEL.out h hm).1)
          have hwln := wl_lines a (by rw [← HAN.out]; exact ha4) hs 0 (fun h hm => (HEL.out h hm).2)
          rw [← hfin] at hwlen hwln
          have HFN := Lib.hid hfin
          have HOKF : Hid (EdsOk (es0 ++ [(1, a.drop p)])) := Lib.hid ⟨by unfold maxLen; omega, fun e he => by have := hwln e he; unfold maxLen; omega⟩
          obtain ⟨LA, lc, hcu⟩ := cut_end (p := p) (n := an) (c := c') wr (HL.out.below HBW.out) HAN.out hpa hc HZ.out
          have hrun := hcu.run
          have htk : (a.drop p).take (an - p) = a.drop p := List.take_of_length_le (by rw [List.length_drop, HAN.out]; exact Nat.le_refl _)
          have hcl := hcu.l w1 (HL.out.below HB1.out)
          have hcz := hcu.z
          have hcc := hcu.c
          have hlen : an - p = (a.drop p).length := by rw [List.length_drop, HAN.out]
          rw [htk] at hcl
          rw [hlen] at hrun hcc
          generalize a.drop p = sl at *
          have HR1 : Hid (RawsOk 0 w1 [⟨1, LA, sl.length, lc⟩] [(1, sl)]) := Lib.hid ⟨rfl, fun j h1 h2 => by
            obtain rfl : j = 0 := by simpa using h1
            exact ⟨rfl, rfl, hcl, hcc, hcz, fun _ _ => Nat.zero_le _⟩⟩
          clear HW8 HW0 HRES hfin hwlen hwln htk HWL HAL HCN hcu hcl hcz hcc hlen
          have hx5 := heap_alloc_new wr (.cells #[.int .i64 1, .slice LA sl.length lc] 54)
          have HRA := Lib.hid (raw1_at hx5)
          have HJA := Lib.hid (HJ.out.below (alloc1 wr (.cells #[.int .i64 1, .slice LA sl.length lc] 54)))
          have hbs : w1.heap.size ≤ (wr.alloc (.cells #[.int .i64 1, .slice LA sl.length lc] 54)).heap.size := HJA.out.b.size
          have hrs1 : rs.length + ([⟨1, LA, sl.length, lc⟩] : List Raw).length ≤ 4000000 := by simp; omega
          have HFIN : Hid (∀ (v4 : Value) (w4 : World), w4.ownsRow w1.heap.size 54 2 v4 (rs ++ [(⟨1, LA, sl.length, lc⟩ : Raw)]).length (rawCells (rs ++ [(⟨1, LA, sl.length, lc⟩ : Raw)])) → (wr.alloc (.cells #[.int .i64 1, .slice LA sl.length lc] 54)).grownBy w4 (Value.slice SA rs.length cap).ownBlock → ∃ VA vc n5, v4 = .slice VA n5 vc ∧ Below w.heap.size w w4 ∧ Calls Try.prog 32 #[.slice VA n5 vc] w4 (RnEnd w4 (nrm (es0 ++ [(1, sl)])) (ck (es0 ++ [(1, sl)])))) := Lib.hid (fun v4 w4 h1 h2 => by
            obtain ⟨VA, vc, rfl, -, -⟩ := own_form h1
            have hj := HJA.out.add (Below.refl _ _) h2 h1 HR1.out
            obtain ⟨e1, e2⟩ := hj.read
            refine ⟨VA, vc, (es0 ++ [(1, sl)]).length, by rw [e1], HB1.out.trans (hj.b.mono HB1.out.size), ?_⟩
            exact rnormal_any VA vc 0 (es0 ++ [(1, sl)]) w4 e2 HOKF.out)
          have HVA := Lib.hid HJA.out.own
          clear hx5 HJA HR1 HJ
          go_wp2_with (at_builtin; refine wpList_append_eds (w := wr.alloc (.cells #[.int .i64 1, .slice LA sl.length lc] 54)) rfl (.tmp 84) (.tmp 89) rfl w1.heap.size (.slice SA rs.length cap) rs [⟨1, LA, sl.length, lc⟩] rfl HVA.out (some ⟨wr.heap.size, 0, none⟩) 1 1 rfl rfl HRA.out (fun e => by cases e) hrs1 hbs ?_; intro v4 w4 ho4 hg4; obtain ⟨VA, vc, n5, rfl, hB4, hN4⟩ := HFIN.out v4 w4 ho4 hg4; have HB4 := Lib.hid hB4; have HN4 := Lib.hid hN4; clear ho4 hg4 hB4 hN4)
          with_reducible refine (HN4.out).mono ?_
          rintro e w5 ⟨NA, nc, rfl, hE5, hb5⟩
          have HE5 := Lib.hid hE5
          have HB5 := Lib.hid (HB4.out.trans (hb5.mono HB4.out.size))
          clear hE5 hb5 HN4
          go_wp2_with fail
          go_ret2
          exact ⟨NA, nc, by rw [← HFN.out]; rfl, by rw [← HFN.out]; exact HE5.out, HB5.out⟩
  · have HW : Hid (whl hs a = ([], hck hs)) := Lib.hid (by unfold whl; rw [if_neg hq0])
    rw [HW.out]
    generalize hck hs = q at *
    have h0 : (q == 0) = false := beq_eq_false_iff_ne.2 hq0
    have h1 : (q != 0) = true := by simp [bne, h0]
    clear hq0 HW
    go_enter Try.func29, Try.ntmps29
    go_wp2_with fail
    with_reducible refine (HC.out).mono ?_
    rintro e w1 ⟨rfl, hb1⟩
    go_wp2_with fail
    go_ret2
    exact ⟨none, 0, rfl, fun h => absurd h (by simp), hb1⟩
end Go.Proofs.Ytigghcmbdnidnaa.Pa
