/-
  The reference's Build.
-/
import Derived.Test.YtigghcmbdnidnaaGps
import Derived.Deep.RegionHeldLaw
namespace Go.Proofs.Ytigghcmbdnidnaa.H
set_option linter.unusedVariables false
set_option linter.unusedSimpArgs false
open Go.RowKit
open T S
open V (grown_of)
open I (alloc1 own_at own_below)
open N (Ln)

/-- What the reference holds behind i lines. -/
structure RInv (c : Nat) (F : List Sl) (i : Nat) (inb : Bool) (a b : Nat) (hs RES : List Hk) : Prop where
  run : (rrun c F i (F.drop i) ⟨hs, inb, a, b⟩).hs = RES
  ab : a ≤ i ∧ b ≤ i
  ne : inb = true → hs ≠ []
  bd : ∀ h ∈ hs, 0 ≤ h.oa ∧ h.oa ≤ i ∧ 0 ≤ h.na ∧ h.na ≤ i ∧ h.es.length ≤ i
  len : hs.length ≤ i
theorem dO_le (d : Int) : dO d ≤ 1 := by unfold dO; split <;> omega
theorem dN_le (d : Int) : dN d ≤ 1 := by unfold dN; split <;> omega
theorem RInv.next {c : Nat} {F : List Sl} {i a b : Nat} {inb : Bool} {hs RES : List Hk} (h : RInv c F i inb a b hs RES) (hi : i < F.length) : (rrun c F (i + 1) (F.drop (i + 1)) (rst (flg c F i F[i]) F[i] ⟨hs, inb, a, b⟩)).hs = RES := by
  have := h.run
  rw [List.drop_eq_getElem_cons hi, rrun] at this
  exact this
theorem RInv.off {c : Nat} {F : List Sl} {i a b : Nat} {inb : Bool} {hs RES : List Hk} (h : RInv c F i inb a b hs RES) (hi : i < F.length) (hf : flg c F i F[i] = false) : RInv c F (i + 1) false (a + dO F[i].1) (b + dN F[i].1) hs RES := by
  have h1 := h.next hi
  rw [hf] at h1
  have e : rst false F[i] ⟨hs, inb, a, b⟩ = ⟨hs, false, a + dO F[i].1, b + dN F[i].1⟩ := by unfold rst ent; simp
  rw [e] at h1
  have := dO_le F[i].1
  have := dN_le F[i].1
  have := h.ab
  exact ⟨h1, by omega, (fun q => by cases q), (fun z hz => by have := h.bd z hz; omega), Nat.le_succ_of_le h.len⟩
theorem ent_bd {c : Nat} {F : List Sl} {i a b : Nat} {inb : Bool} {hs RES : List Hk} (h : RInv c F i inb a b hs RES) : ∃ ys x, ent true ⟨hs, inb, a, b⟩ = ys ++ [x] ∧ (∀ z ∈ ys ++ [x], 0 ≤ z.oa ∧ z.oa ≤ (i : Int) ∧ 0 ≤ z.na ∧ z.na ≤ (i : Int) ∧ z.es.length ≤ i) ∧ (ys ++ [x]).length ≤ i + 1 := by
  have hl := h.len
  cases inb with
  | true =>
    rcases List.eq_nil_or_concat hs with e | ⟨ys, x, e⟩
    · exact absurd e (h.ne rfl)
    · rw [List.concat_eq_append] at e
      have hb := h.bd
      rw [e] at hb hl
      exact ⟨ys, x, by simp [ent, e], hb, by omega⟩
  | false =>
    refine ⟨hs, newH a b, by simp [ent], fun z hz => ?_, by simp; omega⟩
    rcases List.mem_append.1 hz with hz | hz
    · exact h.bd z hz
    · obtain rfl := List.mem_singleton.1 hz
      have := h.ab
      simp only [newH, List.length_nil]; omega
theorem RInv.on {c : Nat} {F : List Sl} {i a b : Nat} {inb : Bool} {hs RES ys : List Hk} {x : Hk} (h : RInv c F i inb a b hs RES) (hi : i < F.length) (hf : flg c F i F[i] = true) (he : ent true ⟨hs, inb, a, b⟩ = ys ++ [x]) :
    RInv c F (i + 1) true (a + dO F[i].1) (b + dN F[i].1) (ys ++ [layH F[i] (a + dO F[i].1) (b + dN F[i].1) x]) RES ∧ 0 ≤ x.oa ∧ x.oa ≤ i ∧ 0 ≤ x.na ∧ x.na ≤ i ∧ x.es.length ≤ i := by
  have h1 := h.next hi
  rw [hf] at h1
  obtain ⟨ys', x', e, hb, hl⟩ := ent_bd h
  rw [he] at e
  obtain ⟨e1, e2⟩ := List.append_inj' e rfl
  subst e1
  obtain rfl : x = x' := by simpa using e2
  have e : rst true F[i] ⟨hs, inb, a, b⟩ = ⟨ys ++ [layH F[i] (a + dO F[i].1) (b + dN F[i].1) x], true, a + dO F[i].1, b + dN F[i].1⟩ := by unfold rst; rw [he]; simp [upd_snoc]
  rw [e] at h1
  have := dO_le F[i].1
  have := dN_le F[i].1
  have := h.ab
  have hx := hb x (by simp)
  refine ⟨⟨h1, by omega, fun _ q => by simp at q, fun z hz => ?_, by simp at hl ⊢; omega⟩, hx⟩
  rcases List.mem_append.1 hz with hz | hz
  · have := hb z (List.mem_append_left _ hz); omega
  · obtain rfl := List.mem_singleton.1 hz
    simp only [layH, List.length_append, List.length_singleton]
    omega
theorem add0 (g j : Nat) : (⟨g, 0, none⟩ : Addr).add j = ⟨g, j, none⟩ := by unfold Addr.add; split <;> simp_all
/-- The last hunk's cells. -/
theorem Hs.last {w0 w : World} {base g n cap : Nat} {ys : List Hr} {x : Hr} (h : Hs w0 w base (.slice (some ⟨g, 0, none⟩) n cap) (ys ++ [x])) :
    (∀ k, k < 5 → w.cell? ⟨g, ys.length * 5 + k, none⟩ = (hrCell x)[k]?) ∧ (∀ k, w.frozen? ⟨g, k, none⟩ = false) := by
  obtain ⟨cs, hh⟩ := own_heap h.own rfl
  refine ⟨fun k hk => ?_, fun k => L.blk_free hh k⟩
  have hn : n = (ys ++ [x]).length := by
    rcases h.own.2 with ⟨h', _⟩ | ⟨g', cap', cur, h', _⟩
    · cases h'
    · injection h'
  subst hn
  obtain ⟨g', hg, _, _, h3⟩ := own_at h.own (by simp)
  obtain rfl : g = g' := by injection hg with hg; injection hg
  have h4 := hrCells_at (ys ++ [x]) ys.length (by simp) k hk
  rw [List.getElem_append_right (Nat.le_refl _)] at h4
  simp only [Nat.sub_self, List.getElem_cons_zero] at h4
  rw [← h4]
  have h5 : ys.length * 5 + k < (hrCells (ys ++ [x])).length := by rw [hrCells_len]; simp; omega
  rw [List.getElem?_eq_getElem h5]
  exact h3 _ _ (List.getElem?_eq_getElem h5)
/-- A hunk that holds a row holds edits. -/
def Hz (xs : List Hr) : Prop := ∀ x ∈ xs, x.A = none ∨ 0 < x.rs.length
theorem Hz.add {xs : List Hr} {x : Hr} (h : Hz xs) (hx : x.A = none ∨ 0 < x.rs.length) : Hz (xs ++ [x]) := fun z hz => by
  rcases List.mem_append.1 hz with hz | hz
  · exact h z hz
  · obtain rfl := List.mem_singleton.1 hz
    exact hx
theorem Hz.front {xs ys : List Hr} (h : Hz (xs ++ ys)) : Hz xs := fun z hz => h z (List.mem_append_left _ hz)
structure Bw (w wz : World) : Prop where
  b : Below w.heap.size w wz
set_option maxRecDepth 100000 in
set_option maxHeartbeats 16000000 in
theorem rbuild_good (A : Option Addr) (cap : Nat) (es : List Ed) (cN : Nat) (w : World) (hE : EdsIn 0 w A es) (hok : EdsOk es) (hck : ck es = 0) (hc : cN ≤ 20) :
    Calls Try.prog 17 #[.slice A es.length cap, .int .i64 (cN : Int)] w (HnEnd w (rbld cN (norm es)) 0) := by
  obtain ⟨i0, hi0, hz0, hz1, hz2⟩ := info_parts infoEdit
  obtain ⟨j0, hj0, hy0, hy1, hy2⟩ := info_parts infoHunk
  have HC := Lib.hid (rnormal_any A cap 0 es w hE hok)
  have hnm : nrm es = norm es := by unfold nrm; rw [if_pos hck]
  rw [hck, hnm] at HC
  obtain ⟨hn1, hn2, hn3, -⟩ := norm_ok hck
  obtain ⟨hnl, hnt, -⟩ := ck_ok hn1
  have hnf := nf_norm (ck_ok hck).2.2
  have hc0 : ¬ (cN : Int) < 0 := by omega
  have hc20 : ¬ (20 < (cN : Int)) := by omega
  have HRB : Hid (rbld cN (norm es) = (rrun cN (flat (norm es)) 0 (flat (norm es)) ⟨[], false, 0, 0⟩).hs.map fun h => ⟨h.oa, h.o, h.na, h.n, nrm h.es⟩) := Lib.hid rfl
  have HOKX : Hid (∀ x ∈ (rrun cN (flat (norm es)) 0 (flat (norm es)) ⟨[], false, 0, 0⟩).hs, EdsOk x.es ∧ nrm x.es ≠ [] ∧ ck x.es = 0 ∧ ∀ e ∈ x.es, e.2 ≠ []) := Lib.hid (fun x hx => by
    rw [rr_bld (norm es) hnf] at hx
    obtain ⟨z, hz, rfl⟩ := List.mem_map.1 hx
    have hcl := bld_cl hnf z hz
    have h1 := tl_mem hz
    have h2 := bld_tl (c := cN) (norm es)
    have hg : Good3 (sgl z.es) := fun e he => by
      obtain ⟨y, hy, rfl⟩ := List.mem_map.1 he
      exact good_flat hcl.nf.good y hy
    have hl : (sgl z.es).length ≤ 800 := by unfold sgl; rw [List.length_map, ← tl_flat]; omega
    have ht : tl (sgl z.es) ≤ 800 := by rw [tl_flat, flat_sgl, ← tl_flat]; omega
    have hk := ck_of hl ht hg
    refine ⟨EdsOk.of_ck hk, ?_, hk, fun e he => (by obtain ⟨y, hy, rfl⟩ := List.mem_map.1 he; intro h; cases h)⟩
    show nrm (sgl z.es) ≠ []
    have e1 : nrm (sgl z.es) = z.es := by
      have e1 : nrm (sgl z.es) = norm (sgl z.es) := by unfold nrm; rw [if_pos hk]
      have e2 : norm (sgl z.es) = norm z.es := by unfold norm; rw [laid_flat hg, laid_flat hcl.nf.good, flat_sgl]
      rw [e1, e2, norm_nf hcl.nf]
    rw [e1]
    intro e
    obtain ⟨y, hy, -⟩ := hcl.some
    rw [e] at hy; cases hy)
  generalize norm es = N at *
  clear hE hok hck hnm hn1 hn2 hn3 hnf
  go_enter Try.func17, Try.ntmps17
  go_wp2_with fail
  with_reducible refine (HC.out).mono ?_
  rintro e wa ⟨NA, ncap, rfl, hEa, hba⟩
  have HBa := Lib.hid hba
  have HSI := Lib.hid (single_any NA ncap N wa hEa hnl hnt)
  clear hEa hba HC
  go_wp2_with fail
  with_reducible refine (HSI.out).mono ?_
  rintro e w1 ⟨SA, scap, rs0, rfl, hG⟩
  have hrl : rs0.length = (sgl N).length := hG.r.1
  have hES : EdsIn 0 w1 SA (sgl N) := by
    have h1 := hG.o
    rw [hrl] at h1
    exact raws_eds h1 hG.r (Nat.zero_le _)
  rw [hrl]
  have HB1 : Hid (Below w.heap.size w w1) := Lib.hid (HBa.out.trans (hG.b.mono HBa.out.size))
  have HES := Lib.hid hES
  obtain ⟨F, hF⟩ : ∃ F, F = flat N := ⟨_, rfl⟩
  have hFl : F.length ≤ 800 := by rw [hF, ← tl_flat]; exact hnt
  have hsl : (sgl N).length = F.length := by unfold sgl; rw [List.length_map, hF]
  have HSL := Lib.hid hsl
  obtain ⟨rs1, hr1, hat1⟩ := eds_rawAt hES
  have HR1 := Lib.hid hr1
  have HAT1 := Lib.hid hat1
  have HFF := Lib.hid hF
  rw [← hF] at HRB HOKX
  obtain ⟨fn, hfn⟩ : ∃ fn, fn = F.length := ⟨_, rfl⟩
  have HFN := Lib.hid hfn
  rw [hsl, ← hfn]
  rw [← hfn] at hFl
  generalize hRES : (rrun cN F 0 F ⟨[], false, 0, 0⟩).hs = RES at *
  have HI0 : Hid (RInv cN F 0 false 0 0 [] RES) := Lib.hid ⟨hRES, ⟨Nat.le_refl _, Nat.le_refl _⟩, fun q => (by cases q), fun z hz => (by cases hz), Nat.le_refl _⟩
  obtain ⟨W0, hW0⟩ : ∃ W : World, W = w1.alloc (.cells #[] 65) := ⟨_, rfl⟩
  have HH0 : Hid (Hs w1 W0 w1.heap.size (.slice (some ⟨w1.heap.size, 0, none⟩) ([] : List Hr).length 0) []) := Lib.hid ⟨by rw [hW0]; exact World.ownsRow_made (size := 5) (e := 65) w1 #[] 0 (Nat.le_refl _) (by unfold maxLen; omega) rfl, fun x hx => (by cases hx), List.Pairwise.nil, by rw [hW0]; exact alloc1 _ _, Nat.le_refl _, by rw [hW0]; exact (alloc1 w1 _).size⟩
  clear hG hES hrl hF hsl hr1 hat1 hfn hRES hnl hnt HSI
  go_upto_region 8 with fail
  rw [← hW0]
  obtain ⟨ob, hob⟩ : ∃ ob, ob = w1.heap.size := ⟨_, rfl⟩
  have HH0 : Hid (Hs w1 W0 w1.heap.size (.slice (some ⟨ob, 0, none⟩) ([] : List Hr).length 0) []) := by rw [hob]; exact HH0
  rw [← hob]
  clear hW0 hob
  go_wp2_with fail
  go_loopg [13, 9, 12, 10, 11] fn (fun m iv ov nv av bv wr => ∃ (i a b : Nat) (inb : Bool) (OA : Option Addr) (ocap : Nat) (xs : List Hr), i ≤ fn ∧ iv = .int .i64 i ∧ ov = .slice OA xs.length ocap ∧ nv = .bool inb ∧ av = .int .i64 a ∧ bv = .int .i64 b ∧ fn - i ≤ m ∧ Hid (Hs w1 wr w1.heap.size (.slice OA xs.length ocap) xs) ∧ Hid (RInv cN F i inb a b (xs.map (·.h)) RES) ∧ Hid (Hz xs))
  case atStart => exact ⟨0, 0, 0, false, _, _, [], Nat.zero_le _, rfl, rfl, rfl, rfl, rfl, by omega, HH0, HI0, Lib.hid (fun z hz => (by cases hz))⟩
  case round =>
    clear HH0 HI0
    obtain ⟨i, a, b, inb, OA, ocap, xs, hi, rfl, rfl, rfl, rfl, rfl, hmm, HH, HI, HZ⟩ := hrel
    by_cases hlt : i < fn
    · have hiF : i < F.length := by have := HFN.out; omega
      have h0i : (0 : Int) ≤ (i : Int) := by omega
      have hii : (i : Int) < (fn : Int) := by omega
      obtain ⟨sb, so, hSe, hsb, hcells⟩ := HAT1.out (by rw [HR1.out.1, HSL.out]; omega)
      subst hSe
      have hir : i < rs1.length := by rw [HR1.out.1, HSL.out]; exact hiF
      have hro := HR1.out.2 i hir (by rw [HSL.out]; exact hiF)
      obtain ⟨q0, q1⟩ := rawCells_at rs1 i hir
      have hrw : (sgl N)[i]'(by rw [HSL.out]; exact hiF) = sng F[i] := by
        have := sgl_at (es := N) (k := i) (by rw [← HFF.out]; exact hiF)
        rw [this]
        congr 1
        simp only [HFF.out]
      rw [hrw] at hro
      have HRO := Lib.hid hro
      have hd := hro.d
      have hn1 := hro.n
      have HCE : Hid (∀ W, Below w1.heap.size w1 W → W.cell? ⟨sb, so + i * 2, none⟩ = some (.int .i64 F[i].1) ∧ W.cell? ⟨sb, so + i * 2 + 1, none⟩ = some (.slice rs1[i].A 1 rs1[i].c)) := Lib.hid (fun W hW => by
        have c0 := (hW.cell (p := ⟨sb, so + i * 2, none⟩) hsb).trans (hcells _ _ q0)
        have c1 := (hW.cell (p := ⟨sb, so + (i * 2 + 1), none⟩) hsb).trans (hcells _ _ q1)
        rw [hd] at c0
        rw [hn1] at c1
        exact ⟨c0, c1⟩)
      have HNR := Lib.hid (fun (W : World) (h : Below w1.heap.size w1 W) => near_any (some ⟨sb, so, none⟩) scap i cN N W (HES.out.below h) (by rw [← HFF.out]; have := HFN.out; omega) (by rw [← HFF.out]; exact hiF) hc)
      rw [HSL.out, ← HFN.out, ← HFF.out] at HNR
      have HON := Lib.hid (fun hf => HI.out.off hiF hf)
      have HYS := Lib.hid (fun (ys : List Hk) (x : Hk) hf he => HI.out.on (ys := ys) (x := x) hiF hf he)
      have hab := HI.out.ab
      have hxl : xs.length ≤ i := by have := HI.out.len; simpa using this
      have HENT := Lib.hid (ent_bd HI.out)
      have HFG : Hid (flg cN F i F[i] = (decide (F[i].1 ≠ 1) || near F i cN)) := Lib.hid rfl
      have HRO2 : Hid (RawOk 0 w1 ⟨F[i].1, rs1[i].A, 1, rs1[i].c⟩ (sng F[i])) := Lib.hid ⟨rfl, rfl, HRO.out.l, HRO.out.c, HRO.out.z, HRO.out.b⟩
      clear hrw hro hd hn1 q0 q1 HRO HI hcells
      generalize rs1[i].A = LA at *
      generalize rs1[i].c = lc at *
      clear hir
      generalize F[i] = x at *
      obtain ⟨d, y⟩ := x
      simp only at HCE HRO2 HFG
      generalize flg cN F i (d, y) = is at *
      generalize near F i cN = nb at *
      go_upto_region 14 with fail
      go_cut [14] (fun isv wx => isv = .bool is ∧ Hid (Hs w1 wx w1.heap.size (.slice OA xs.length ocap) xs))
      case first =>
        obtain ⟨c0, c1⟩ := HCE.out wr HH.out.b
        by_cases hd : d = 1
        · have hdn : (d != 1) = false := by simp [hd]
          have his : is = nb := by rw [HFG.out]; simp [hd]
          have HN2 := Lib.hid (HNR.out wr HH.out.b)
          clear hd
          go_wp2_with fail
          with_reducible refine (HN2.out).mono ?_
          rintro e w2 ⟨rfl, hb2⟩
          have HH2 := Lib.hid (HH.out.below hb2)
          clear hb2 HN2 c0 c1
          go_wp2_with fail
          go_meet
          case rel => exact ⟨by rw [his], HH2⟩
        · have hdn : (d != 1) = true := by simpa [bne] using hd
          have his : is = true := by rw [HFG.out]; simp [hd]
          clear hd
          go_wp2_with fail
          go_meet
          case rel => exact ⟨by rw [his], HH⟩
      case rest =>
      obtain ⟨rfl, HH2⟩ := hcut
      clear HH
      generalize wc = w2 at *
      go_upto_region 15 with fail
      go_cut [57, 12, 14] (fun tv nv isv wx => nv = .bool inb ∧ isv = .bool is ∧ tv = .bool (is && !inb) ∧ wx = w2)
      case first =>
        cases his : is with
        | false =>
          go_wp2_with fail
          go_meet
          case rel => exact ⟨rfl, by rw [his], by rw [his]; rfl, rfl⟩
        | true =>
          cases hib : inb with
          | true =>
            go_wp2_with fail
            go_meet
            case rel => exact ⟨by rw [hib], by rw [his], by rw [his, hib]; rfl, rfl⟩
          | false =>
            go_wp2_with fail
            go_meet
            case rel => exact ⟨by rw [hib], by rw [his], by rw [his, hib]; rfl, rfl⟩
      case rest =>
      obtain ⟨rfl, rfl, rfl, rfl⟩ := hcut
      go_upto_if 57 with fail
      have HXL : Hid (xs.length ≤ i) := Lib.hid hxl
      go_cut [9] (fun ov wx => ∃ (OB : Option Addr) (bcap : Nat) (xs1 : List Hr), ov = .slice OB xs1.length bcap ∧ Hid (Hs w1 wx w1.heap.size (.slice OB xs1.length bcap) xs1) ∧ Hid (xs1.map (·.h) = ent is ⟨xs.map (·.h), inb, a, b⟩) ∧ Hid (Hz xs1))
      case first =>
        generalize wc = w2 at *
        cases hcd : (is && !inb) with
        | false =>
            have HEN : Hid (xs.map (·.h) = ent is ⟨xs.map (·.h), inb, a, b⟩) := Lib.hid (by simp [ent, hcd])
            go_wp2_with fail
            go_meet
            case rel => exact ⟨OA, ocap, xs, rfl, HH2, HEN, HZ⟩
        | true =>
            have HEN : Hid ((xs ++ [Hr.mk (newH a b) none 0 []]).map (·.h) = ent is ⟨xs.map (·.h), inb, a, b⟩) := Lib.hid (by simp [ent, hcd])
            obtain ⟨q, hq⟩ : ∃ q, q = xs.length := ⟨_, rfl⟩
            have HQ := Lib.hid hq
            rw [← hq] at hxl HH2
            rw [← hq]
            obtain ⟨X0, hX0⟩ : ∃ X0 : List Value, X0 = hrCells xs := ⟨_, rfl⟩
            have HOA : Hid ((w2.alloc (.cells #[.int .i64 (a : Int), .int .i64 0, .int .i64 (b : Int), .int .i64 0, .slice none 0 0] 65)).ownsRow w1.heap.size 65 5 (.slice OA q ocap) q X0) := Lib.hid (by
              have h0 := HH2.out.own
              rw [← hq, ← hX0] at h0
              exact World.ownsRow.alloc h0 _)
            have HNW := Lib.hid (World.news_of_block (heap_alloc_new w2 (.cells #[.int .i64 (a : Int), .int .i64 0, .int .i64 (b : Int), .int .i64 0, .slice none 0 0] 65)))
            have H1C : Hid (∀ u ∈ ([.int .i64 (a : Int), .int .i64 0, .int .i64 (b : Int), .int .i64 0, .slice none 0 0] : List Value), u.oneCell' = true) := Lib.hid (by intro u hu; simp only [List.mem_cons, List.not_mem_nil, or_false] at hu; rcases hu with rfl | rfl | rfl | rfl | rfl <;> rfl)
            have HHA := Lib.hid (HH2.out.below (alloc1 w2 (.cells #[.int .i64 (a : Int), .int .i64 0, .int .i64 (b : Int), .int .i64 0, .slice none 0 0] 65)))
            have hbs : w1.heap.size ≤ (w2.alloc (.cells #[.int .i64 (a : Int), .int .i64 0, .int .i64 (b : Int), .int .i64 0, .slice none 0 0] 65)).heap.size := HHA.out.hs
            have HFIN : Hid (∀ v4 w4, w4.ownsRow w1.heap.size 65 5 v4 (q + 1) (X0 ++ [.int .i64 (a : Int), .int .i64 0, .int .i64 (b : Int), .int .i64 0, .slice none 0 0]) → (w2.alloc (.cells #[.int .i64 (a : Int), .int .i64 0, .int .i64 (b : Int), .int .i64 0, .slice none 0 0] 65)).grownBy w4 (Value.slice OA q ocap).ownBlock → Hs w1 w4 w1.heap.size v4 (xs ++ [Hr.mk (newH a b) none 0 []])) := Lib.hid (fun v4 w4 h1 h2 => by
              refine HHA.out.add h2 (newH a b) rfl ?_
              rw [hrCells_app, hrCells_one, ← hX0, List.length_append, ← hq]
              exact h1)
            clear hX0 hq HH2 HHA
            go_wp2_with (at_builtin; refine wpList_append_own_at _ rfl (.tmp 58) (.tmp 62) 22 rfl w1.heap.size 65 j0 _ 5 56 Try.underlying22 hj0 hy0 hy1 hy2 rfl (by decide) (.slice OA q ocap) q X0 rfl HOA.out ⟨w2.heap.size, 0, none⟩ 1 1 [.int .i64 (a : Int), .int .i64 0, .int .i64 (b : Int), .int .i64 0, .slice none 0 0] rfl rfl HNW.out H1C.out (by simp only [maxLen]; omega) (by omega) hbs ?_; intro v4 w4 ho4 hg4 _ hat4; have HH4 := Lib.hid (HFIN.out v4 w4 ho4 hg4); clear ho4 hg4 hat4)
            obtain ⟨VA, vc, rfl, -, -⟩ := own_form HH4.out.own
            go_meet
            case rel => exact ⟨VA, vc, xs ++ [Hr.mk (newH a b) none 0 []], rfl, HH4, HEN, Lib.hid (HZ.out.add (Or.inl rfl))⟩
      case rest =>
      obtain ⟨OB, bcap, xs1, rfl, HH3, HEN, HZ1⟩ := hcut
      clear HH2 HZ
      generalize wc = w3 at *
      obtain ⟨c0, c1⟩ := HCE.out w3 HH3.out.b
      go_upto_if 70 with fail
      have hwa : IntKind.i64.wrap ((a : Int) + 1) = (a : Int) + 1 := by rw [IntKind.wrap_i64]; omega
      have hwb : IntKind.i64.wrap ((b : Int) + 1) = (b : Int) + 1 := by rw [IntKind.wrap_i64]; omega
      go_cut [10] (fun av wx => av = .int .i64 ((a + dO d : Nat) : Int) ∧ wx = w3)
      case first =>
        by_cases hd : d = 3
        · have hdn : (d != 3) = false := by simp [hd]
          have e : dO d = 0 := if_pos hd
          clear hd
          go_wp2_with fail
          go_meet
          case rel => exact ⟨by rw [e]; rfl, rfl⟩
        · have hdn : (d != 3) = true := by simpa [bne] using hd
          have e : dO d = 1 := if_neg hd
          clear hd
          go_wp2_with fail
          go_meet
          case rel => exact ⟨by rw [e]; rfl, rfl⟩
      case rest =>
      obtain ⟨rfl, hww⟩ := hcut
      rw [hww]
      clear hww
      go_upto_if 78 with fail
      go_cut [11] (fun bv wx => bv = .int .i64 ((b + dN d : Nat) : Int) ∧ wx = w3)
      case first =>
        by_cases hd : d = 2
        · have hdn : (d != 2) = false := by simp [hd]
          have e : dN d = 0 := if_pos hd
          clear hd
          go_wp2_with fail
          go_meet
          case rel => exact ⟨by rw [e]; rfl, rfl⟩
        · have hdn : (d != 2) = true := by simpa [bne] using hd
          have e : dN d = 1 := if_neg hd
          clear hd
          go_wp2_with fail
          go_meet
          case rel => exact ⟨by rw [e]; rfl, rfl⟩
      case rest =>
      obtain ⟨rfl, hww⟩ := hcut
      rw [hww]
      clear hww
      cases his : is with
      | false =>
        have HRN : Hid (RInv cN F (i + 1) false (a + dO d) (b + dN d) (xs1.map (·.h)) RES) := Lib.hid (by
          rw [HEN.out, his]
          exact HON.out his)
        clear HON HYS HENT HEN
        go_wp2_with fail
        go_roundg (fn - (i + 1))
        case rel => exact ⟨i + 1, a + dO d, b + dN d, false, OB, bcap, xs1, by omega, by go_num, rfl, rfl, rfl, rfl, Nat.le_refl _, HH3, HRN, HZ1⟩
        case measure => omega
      | true =>
        obtain ⟨ys, x, het, hbx, hlx⟩ := HENT.out
        have hxm : xs1.map (·.h) = ys ++ [x] := by rw [HEN.out, his, het]
        obtain ⟨ys', x0, hxs, hys, hx0⟩ := snoc_of_map hxm
        subst hxs
        obtain ⟨hon, hoa0, hoai, hna0, hnai, hesi⟩ := HYS.out ys x his het
        have HRV := Lib.hid hon
        clear HON HYS HENT HEN het hxm hbx hon
        obtain ⟨⟨oa, ho, na, nn, xe⟩, XA, xc, rsx⟩ := x0
        simp only at hx0
        subst hx0
        simp only at hoa0 hoai hna0 hnai hesi
        have HX0 := HH3.out.ok ⟨⟨oa, ho, na, nn, xe⟩, XA, xc, rsx⟩ (by simp)
        have hrx : rsx.length = xe.length := HX0.e.1
        have HRX := Lib.hid HX0.e
        have HZF : Hid (Hz ys') := Lib.hid HZ1.out.front
        have HZL : Hid (XA = none ∨ 0 < rsx.length) := Lib.hid (HZ1.out ⟨⟨oa, ho, na, nn, xe⟩, XA, xc, rsx⟩ (by simp))
        clear HZ1
        obtain ⟨OB', bcap', hov, -, hOB⟩ := own_form HH3.out.own
        obtain ⟨g, rfl, -, hgs, hgc⟩ := hOB (by simp)
        injection hov with hov1 hov2 hov3
        subst hov1 hov3
        clear hOB
        have hm5 : ∀ k, k < 5 → w3.cell? ⟨g, ys'.length * 5 + k, none⟩ = (hrCell ⟨⟨oa, ho, na, nn, xe⟩, XA, xc, rsx⟩)[k]? := fun k hk => by
          have h4 := hrCells_at (ys' ++ [⟨⟨oa, ho, na, nn, xe⟩, XA, xc, rsx⟩]) ys'.length (by simp) k hk
          rw [List.getElem_append_right (Nat.le_refl _)] at h4
          simp only [Nat.sub_self, List.getElem_cons_zero] at h4
          rw [← h4]
          have h5 : ys'.length * 5 + k < (hrCells (ys' ++ [⟨⟨oa, ho, na, nn, xe⟩, XA, xc, rsx⟩])).length := by rw [hrCells_len]; simp; omega
          rw [List.getElem?_eq_getElem h5]
          exact hgc _ _ (List.getElem?_eq_getElem h5)
        have HM5 := Lib.hid hm5
        have k0 := hm5 0 (by omega)
        have k1 := hm5 1 (by omega)
        have k2 := hm5 2 (by omega)
        have k3 := hm5 3 (by omega)
        have k4 := hm5 4 (by omega)
        have k0 : w3.cell? ⟨g, ys'.length * 5, none⟩ = some (.int .i64 oa) := k0
        replace k1 : w3.cell? ⟨g, ys'.length * 5 + 1, none⟩ = some (.int .i64 ho) := k1
        replace k2 : w3.cell? ⟨g, ys'.length * 5 + 2, none⟩ = some (.int .i64 na) := k2
        replace k3 : w3.cell? ⟨g, ys'.length * 5 + 3, none⟩ = some (.int .i64 nn) := k3
        replace k4 : w3.cell? ⟨g, ys'.length * 5 + 4, none⟩ = some (.slice XA rsx.length xc) := k4
        have hyl : ys'.length ≤ i + 1 := by have := hlx; rw [← hys] at this; simp at this; omega
        obtain ⟨n1, hn1⟩ : ∃ n1, n1 = (ys' ++ [(⟨⟨oa, ho, na, nn, xe⟩, XA, xc, rsx⟩ : Hr)]).length := ⟨_, rfl⟩
        have hn1' : n1 = ys'.length + 1 := by rw [hn1]; simp
        have HH3 : Hid (Hs w1 w3 w1.heap.size (.slice (some ⟨g, 0, none⟩) n1 bcap) (ys' ++ [⟨⟨oa, ho, na, nn, xe⟩, XA, xc, rsx⟩])) := by rw [hn1]; exact HH3
        rw [← hn1]
        obtain ⟨m, hm⟩ : ∃ m, m = ys'.length := ⟨_, rfl⟩
        have HM := Lib.hid hm
        rw [← hm] at k0 k1 k2 k3 k4 hyl hn1'
        have hwm : IntKind.i64.wrap ((n1 : Int) - 1) = (m : Int) := by rw [IntKind.wrap_i64]; omega
        have h0m : (0 : Int) ≤ (m : Int) := by omega
        have hmn : (m : Int) < (n1 : Int) := by omega
        obtain ⟨W4, hW4⟩ : ∃ W : World, W = w3.alloc (hkC oa ho na nn XA rsx.length xc) := ⟨_, rfl⟩
        have hX4 := heap_alloc_new w3 (hkC oa ho na nn XA rsx.length xc)
        rw [← hW4] at hX4
        have hb4 : Below w3.heap.size w3 W4 := by rw [hW4]; exact alloc1 _ _
        have HH4 := Lib.hid (HH3.out.below hb4)
        have HX4 := Lib.hid hX4
        have hgx : g < w3.heap.size := hgs
        have hbx4 : w1.heap.size ≤ w3.heap.size := HH3.out.hs
        have HNX : Hid ((Value.slice (some ⟨g, 0, none⟩) n1 bcap).ownBlock ≠ some w3.heap.size) := Lib.hid (fun e => by simp only [Value.ownBlock, Option.some.injEq] at e; omega)
        have hrn : rsx.length ≤ 1000 := by omega
        clear hX4 hb4 HH3 hm5 hgc HX0 hn1 hm hrx
        have HN1 := Lib.hid hn1'
        clear hn1'
        go_upto_region 24 with fail
        rw [← hW4]
        obtain ⟨xb, hxb⟩ : ∃ xb, xb = w3.heap.size := ⟨_, rfl⟩
        rw [← hxb] at HX4 HNX hgx hbx4 ⊢
        clear hW4 hxb k0 k1 k2 k3 k4 c0 c1
        obtain ⟨qn, hqn⟩ : ∃ qn, qn = rsx.length := ⟨_, rfl⟩
        have HQN := Lib.hid hqn
        rw [← hqn] at HX4 hrn ⊢
        clear hqn
        go_cut [] (fun wx => ∃ (g9 cap9 : Nat) (w9 : World), wx = w9.setCell ⟨xb, 4, none⟩ (.slice (some ⟨g9, 0, none⟩) (qn + 1) cap9) ∧ Hid (Below W4.heap.size W4 w9) ∧ Hid (w9.ownsRow W4.heap.size 54 2 (.slice (some ⟨g9, 0, none⟩) (qn + 1) cap9) (qn + 1) (rawCells rsx ++ [.int .i64 d, .slice LA 1 lc])))
        case first =>
          have HSX : Hid (∀ wz, Bw w1 wz → (wz.cell? ⟨sb, so + i * 2, none⟩ = some (.int .i64 d) ∧ wz.cell? ⟨sb, so + i * 2 + 1, none⟩ = some (.slice LA 1 lc) ∧ Bw w1 wz)) := Lib.hid (fun wz hz => ⟨(HCE.out wz hz.b).1, (HCE.out wz hz.b).2, hz⟩)
          have HBX : Hid (∀ wz, Below W4.heap.size W4 wz → wz.cell? ⟨xb, 4, none⟩ = some (.slice XA qn xc) ∧ wz.frozen? ⟨xb, 4, none⟩ = false) := Lib.hid (fun wz hz => by
            have := (hz.block _ (L.blk_lt HX4.out)).trans HX4.out
            exact ⟨L.blk_cell this 4, L.blk_free this 4⟩)
          have HBB : Hid (∀ wz, Below W4.heap.size W4 wz → Bw w1 wz) := Lib.hid (fun wz hz => ⟨HH4.out.b.trans (hz.mono HH4.out.b.size)⟩)
          have HRL : Hid ((rawCells rsx).length = qn * 2) := Lib.hid (by rw [rawCells_len, HQN.out])
          have HRXN : Hid (XA = none → qn = 0 ∧ xc = 0 ∧ rsx = []) := Lib.hid (fun e => by
            have hr := (HH4.out.ok ⟨⟨oa, ho, na, nn, xe⟩, XA, xc, rsx⟩ (by simp)).r
            unfold Hr.v at hr
            simp only at hr
            have h0 : rsx.length = 0 := by
              rcases Nat.eq_zero_or_pos rsx.length with h | h
              · exact h
              · obtain ⟨_, he, _⟩ := own_at hr h
                rw [e] at he; cases he
            rw [e] at hr
            exact ⟨by rw [HQN.out]; exact h0, own_none hr, List.length_eq_zero_iff.1 h0⟩)
          have HRAT : Hid (∀ wz ad, Below W4.heap.size W4 wz → XA = some ad → ∀ j u, (rawCells rsx)[j]? = some u → wz.cell? (ad.add j) = some u) := Lib.hid (fun wz ad hz e j u hu => by
            have hr := (HH4.out.ok ⟨⟨oa, ho, na, nn, xe⟩, XA, xc, rsx⟩ (by simp)).r
            unfold Hr.v at hr
            simp only at hr
            have hj : j < rsx.length * 2 := by rw [← rawCells_len]; exact (List.getElem?_eq_some_iff.1 hu).1
            obtain ⟨g2, he, _, hlt2, hc2⟩ := own_at hr (by omega)
            rw [e] at he
            obtain rfl := Option.some.inj he
            rw [add0]
            exact (hz.cell (p := ⟨g2, j, none⟩) (Nat.lt_of_lt_of_le hlt2 (Nat.le_refl _))).trans (hc2 j u hu))
          have H1R := Lib.hid (rawCells_one rsx)
          have HQZ : Hid (XA = none ∨ 0 < qn) := Lib.hid (by rw [HQN.out]; exact HZL.out)
          have hW1 : w1.heap.size ≤ W4.heap.size := HH4.out.hs
          clear HX4 HH4 HNX
          cases XA with
          | none =>
            obtain ⟨rfl, rfl, rfl⟩ := HRXN.out rfl
            refine wp_region_held_drew (S := fun wz => wz.cell? ⟨sb, so + i * 2, none⟩ = some (.int .i64 d) ∧ wz.cell? ⟨sb, so + i * 2 + 1, none⟩ = some (.slice LA 1 lc) ∧ Bw w1 wz) (by kernel_rfl) (HSX.out _ (HBB.out _ ((Below.refl _ _).drew))) (fun hH0 => ?_)
            have HBA := Lib.hid ((Below.refl W4.heap.size W4).drew)
            generalize W4.drew = wA at *
            refine wpAnyH_take (i := 1) (v := ?_) rfl (by kernel_rfl) (by kernel_rfl) (by kernel_rfl) (fun _ _ _ h => h) (Or.inl ⟨by rfl, ?_⟩) hH0 ?_
            rotate_left
            · (intro wz hSz; (try dsimp only at hSz); go_simp; try with_reducible rfl)
            try simp only [Act.put, List.setIfInBounds_toArray, List.set_cons_zero, List.set_cons_succ]
            refine wpAnyH_take (i := 4) (v := ?_) rfl (by kernel_rfl) (by kernel_rfl) (by kernel_rfl) (fun _ _ _ h => h) (Or.inl ⟨by rfl, ?_⟩) hH0 ?_
            rotate_left
            · (intro wz hSz; (try dsimp only at hSz); go_simp; try with_reducible rfl)
            try simp only [Act.put, List.setIfInBounds_toArray, List.set_cons_zero, List.set_cons_succ]
            refine wpAnyH_take (i := 5) (v := ?_) rfl (by kernel_rfl) (by kernel_rfl) (by kernel_rfl) (fun _ _ _ h => h) (Or.inl ⟨by rfl, ?_⟩) hH0 ?_
            rotate_left
            · (intro wz hSz; (try dsimp only at hSz); go_simp; try with_reducible rfl)
            try simp only [Act.put, List.setIfInBounds_toArray, List.set_cons_zero, List.set_cons_succ]
            refine wpAnyH_take (i := 6) (v := ?_) rfl (by kernel_rfl) (by kernel_rfl) (by kernel_rfl) (fun _ _ _ h => h) (Or.inl ⟨by rfl, ?_⟩) hH0 ?_
            rotate_left
            · (intro wz hSz; (try dsimp only at hSz); go_simp; try with_reducible rfl)
            try simp only [Act.put, List.setIfInBounds_toArray, List.set_cons_zero, List.set_cons_succ]
            refine wpAnyH_take (i := 7) (v := ?_) rfl (by kernel_rfl) (by kernel_rfl) (by kernel_rfl) (fun _ _ _ h => h) (Or.inl ⟨by rfl, ?_⟩) hH0 ?_
            rotate_left
            · (intro wz hSz; (try dsimp only at hSz); go_simp; try with_reducible rfl)
            try simp only [Act.put, List.setIfInBounds_toArray, List.set_cons_zero, List.set_cons_succ]
            refine wpAnyH_ready (rs := [0, 2, 8]) (by kernel_rfl) (by simp) ?_
            refine AllReadyH.cons rfl (fun K hK => ?_) (AllReadyH.cons rfl (fun K hK => ?_) (AllReadyH.cons rfl (fun K hK => ?_) (AllReadyH.nil)))
            · go_simp
              refine hK.out _ _ (HSX.out _ (HBB.out _ (HBA.out.trans ((alloc1 wA _).mono HBA.out.size)))) (fun hH_0 => ?_)
              have HB_0 := Lib.hid (HBA.out.trans ((alloc1 wA (.cells #[] 54)).mono HBA.out.size))
              have HO_0 : Hid ((wA.alloc (.cells #[] 54)).ownsRow W4.heap.size 54 2 (.slice (some ⟨wA.heap.size, 0, none⟩) 0 0) 0 []) := Lib.hid (V.own_base_le (World.ownsRow_made (size := 2) (e := 54) wA #[] 0 (Nat.le_refl _) (by unfold maxLen; omega) rfl) HBA.out.size)
              clear hK K hH0 HBA
              generalize wA.alloc (.cells #[] 54) = w_0 at *
              generalize wA.heap.size = gb_0 at *
              try simp only [Act.put, List.setIfInBounds_toArray, List.set_cons_zero, List.set_cons_succ]
              refine wpAnyH_ready (rs := [2, 8]) (by kernel_rfl) (by simp) ?_
              refine AllReadyH.cons rfl (fun K hK => ?_) (AllReadyH.cons rfl (fun K hK => ?_) (AllReadyH.nil))
              · obtain ⟨cx, _⟩ := HBX.out w_0 HB_0.out
                go_simp
                refine hK.out _ _ (HSX.out _ (HBB.out _ HB_0.out)) (fun hH_1 => ?_)
                clear hK K hH_0 cx
                try simp only [Act.put, List.setIfInBounds_toArray, List.set_cons_zero, List.set_cons_succ]
                refine wpAnyH_ready (rs := [3, 8]) (by kernel_rfl) (by simp) ?_
                refine AllReadyH.cons rfl (fun K hK => ?_) (AllReadyH.cons rfl (fun K hK => ?_) (AllReadyH.nil))
                · go_simp
                  refine hK.out _ _ (HSX.out _ (HBB.out _ HB_0.out)) (fun hH_2 => ?_)
                  clear hK K hH_1
                  try simp only [Act.put, List.setIfInBounds_toArray, List.set_cons_zero, List.set_cons_succ]
                  refine wpAnyH_ready (rs := [8]) (by kernel_rfl) (by simp) ?_
                  refine AllReadyH.cons rfl (fun K hK => ?_) (AllReadyH.nil)
                  go_simp
                  refine hK.out _ _ (HSX.out _ (HBB.out _ (HB_0.out.trans ((alloc1 w_0 _).mono HB_0.out.size)))) (fun hH_3 => ?_)
                  have HB_3 := Lib.hid (HB_0.out.trans ((alloc1 w_0 (.cells #[.int .i64 d, .slice LA 1 lc] 54)).mono HB_0.out.size))
                  have N8_3 := Lib.hid (heap_alloc_new w_0 (.cells #[.int .i64 d, .slice LA 1 lc] 54))
                  have HO_3 := Lib.hid (own_below HO_0.out (alloc1 w_0 (.cells #[.int .i64 d, .slice LA 1 lc] 54)))
                  have NE_3 : Hid (w_0.heap.size ≠ gb_0) := Lib.hid (fun e => by have := S.own_lt HO_0.out gb_0 rfl; omega)
                  clear hK K hH_2 HB_0 HO_0
                  generalize w_0.alloc (.cells #[.int .i64 d, .slice LA 1 lc] 54) = w_3 at *
                  generalize w_0.heap.size = eb_3 at *
                  try simp only [Act.put, List.setIfInBounds_toArray, List.set_cons_zero, List.set_cons_succ]
                  refine wpAnyH_ready (rs := [9]) (by kernel_rfl) (by simp) ?_
                  refine AllReadyH.cons rfl (fun K hK => ?_) (AllReadyH.nil)
                  have HNW_4 := Lib.hid (World.news_of_block N8_3.out)
                  have H1C_4 : Hid (∀ u ∈ ([.int .i64 d, .slice LA 1 lc] : List Value), u.oneCell' = true) := Lib.hid (by intro u hu; simp at hu; rcases hu with rfl | rfl <;> rfl)
                  have hsz_4 : W4.heap.size ≤ w_3.heap.size := HB_3.out.size
                  refine step_append_lies _ (by rfl) (.tmp 91) (.tmp 96) 40 (by rfl) W4.heap.size 54 i0 _ 2 32 Try.underlying40 hi0 hz0 hz1 hz2 rfl (by decide) (.slice (some ⟨gb_0, 0, none⟩) 0 0) 0 [] (by rfl) HO_3.out ⟨eb_3, 0, none⟩ 1 1 [.int .i64 d, .slice LA 1 lc] (by rfl) rfl HNW_4.out H1C_4.out (by omega) (by unfold maxLen; omega) (by omega) (by omega) _ rfl ?_
                  intro g9 cap9 w9 hown hgr hat hlt
                  refine hK.out _ _ (HSX.out _ (HBB.out _ (HB_3.out.grown hgr HB_3.out.size (fun q e => own_base HO_3.out q e)))) (fun hH_4 => ?_)
                  have HB9 := Lib.hid (HB_3.out.grown hgr HB_3.out.size (fun q e => own_base HO_3.out q e))
                  have HO9 := Lib.hid hown
                  clear hK K hH_3 HB_3 HO_3 hown hgr hat hlt hsz_4 HNW_4 H1C_4 N8_3
                  try simp only [Act.put, List.setIfInBounds_toArray, List.set_cons_zero, List.set_cons_succ]
                  refine wpAnyH_take (i := 10) (v := ?_) rfl (by kernel_rfl) (by kernel_rfl) (by kernel_rfl) (fun _ _ _ h => h) (Or.inl ⟨by rfl, ?_⟩) hH_4 ?_
                  rotate_left
                  · (intro wz hSz; (try dsimp only at hSz); go_simp; try with_reducible rfl)
                  try simp only [Act.put, List.setIfInBounds_toArray, List.set_cons_zero, List.set_cons_succ]
                  refine wpAnyH_ready (rs := [11]) (by kernel_rfl) (by simp) ?_
                  refine AllReadyH.cons rfl (fun K hK => ?_) AllReadyH.nil
                  obtain ⟨cx, cz⟩ := HBX.out w9 HB9.out
                  go_simp
                  refine hK.out _ _ (HSX.out _ ⟨(HBB.out _ HB9.out).b.setCell (p := ⟨xb, 4, none⟩) hbx4 _⟩) (fun hHf => ?_)
                  clear hK K hH_4 hHf cx cz
                  try simp only [Act.put, List.setIfInBounds_toArray, List.set_cons_zero, List.set_cons_succ]
                  refine wpAnyH_done (by kernel_rfl) ?_ _
                  go_wp2_with fail
                  go_meet
                  case rel => exact ⟨g9, cap9, w9, by first | rfl | (simp; done), HB9, by first | exact HO9 | exact Lib.hid (by simpa using HO9.out)⟩
                · go_simp
                  refine hK.out _ _ (HSX.out _ (HBB.out _ (HB_0.out.trans ((alloc1 w_0 _).mono HB_0.out.size)))) (fun hH_5 => ?_)
                  have HB_5 := Lib.hid (HB_0.out.trans ((alloc1 w_0 (.cells #[.int .i64 d, .slice LA 1 lc] 54)).mono HB_0.out.size))
                  have N8_5 := Lib.hid (heap_alloc_new w_0 (.cells #[.int .i64 d, .slice LA 1 lc] 54))
                  have HO_5 := Lib.hid (own_below HO_0.out (alloc1 w_0 (.cells #[.int .i64 d, .slice LA 1 lc] 54)))
                  have NE_5 : Hid (w_0.heap.size ≠ gb_0) := Lib.hid (fun e => by have := S.own_lt HO_0.out gb_0 rfl; omega)
                  clear hK K hH_1 HB_0 HO_0
                  generalize w_0.alloc (.cells #[.int .i64 d, .slice LA 1 lc] 54) = w_5 at *
                  generalize w_0.heap.size = eb_5 at *
                  try simp only [Act.put, List.setIfInBounds_toArray, List.set_cons_zero, List.set_cons_succ]
                  refine wpAnyH_ready (rs := [3]) (by kernel_rfl) (by simp) ?_
                  refine AllReadyH.cons rfl (fun K hK => ?_) (AllReadyH.nil)
                  go_simp
                  refine hK.out _ _ (HSX.out _ (HBB.out _ HB_5.out)) (fun hH_6 => ?_)
                  clear hK K hH_5
                  try simp only [Act.put, List.setIfInBounds_toArray, List.set_cons_zero, List.set_cons_succ]
                  refine wpAnyH_ready (rs := [9]) (by kernel_rfl) (by simp) ?_
                  refine AllReadyH.cons rfl (fun K hK => ?_) (AllReadyH.nil)
                  have HNW_7 := Lib.hid (World.news_of_block N8_5.out)
                  have H1C_7 : Hid (∀ u ∈ ([.int .i64 d, .slice LA 1 lc] : List Value), u.oneCell' = true) := Lib.hid (by intro u hu; simp at hu; rcases hu with rfl | rfl <;> rfl)
                  have hsz_7 : W4.heap.size ≤ w_5.heap.size := HB_5.out.size
                  refine step_append_lies _ (by rfl) (.tmp 91) (.tmp 96) 40 (by rfl) W4.heap.size 54 i0 _ 2 32 Try.underlying40 hi0 hz0 hz1 hz2 rfl (by decide) (.slice (some ⟨gb_0, 0, none⟩) 0 0) 0 [] (by rfl) HO_5.out ⟨eb_5, 0, none⟩ 1 1 [.int .i64 d, .slice LA 1 lc] (by rfl) rfl HNW_7.out H1C_7.out (by omega) (by unfold maxLen; omega) (by omega) (by omega) _ rfl ?_
                  intro g9 cap9 w9 hown hgr hat hlt
                  refine hK.out _ _ (HSX.out _ (HBB.out _ (HB_5.out.grown hgr HB_5.out.size (fun q e => own_base HO_5.out q e)))) (fun hH_7 => ?_)
                  have HB9 := Lib.hid (HB_5.out.grown hgr HB_5.out.size (fun q e => own_base HO_5.out q e))
                  have HO9 := Lib.hid hown
                  clear hK K hH_6 HB_5 HO_5 hown hgr hat hlt hsz_7 HNW_7 H1C_7 N8_5
                  try simp only [Act.put, List.setIfInBounds_toArray, List.set_cons_zero, List.set_cons_succ]
                  refine wpAnyH_take (i := 10) (v := ?_) rfl (by kernel_rfl) (by kernel_rfl) (by kernel_rfl) (fun _ _ _ h => h) (Or.inl ⟨by rfl, ?_⟩) hH_7 ?_
                  rotate_left
                  · (intro wz hSz; (try dsimp only at hSz); go_simp; try with_reducible rfl)
                  try simp only [Act.put, List.setIfInBounds_toArray, List.set_cons_zero, List.set_cons_succ]
                  refine wpAnyH_ready (rs := [11]) (by kernel_rfl) (by simp) ?_
                  refine AllReadyH.cons rfl (fun K hK => ?_) AllReadyH.nil
                  obtain ⟨cx, cz⟩ := HBX.out w9 HB9.out
                  go_simp
                  refine hK.out _ _ (HSX.out _ ⟨(HBB.out _ HB9.out).b.setCell (p := ⟨xb, 4, none⟩) hbx4 _⟩) (fun hHf => ?_)
                  clear hK K hH_7 hHf cx cz
                  try simp only [Act.put, List.setIfInBounds_toArray, List.set_cons_zero, List.set_cons_succ]
                  refine wpAnyH_done (by kernel_rfl) ?_ _
                  go_wp2_with fail
                  go_meet
                  case rel => exact ⟨g9, cap9, w9, by first | rfl | (simp; done), HB9, by first | exact HO9 | exact Lib.hid (by simpa using HO9.out)⟩
              · go_simp
                refine hK.out _ _ (HSX.out _ (HBB.out _ (HB_0.out.trans ((alloc1 w_0 _).mono HB_0.out.size)))) (fun hH_8 => ?_)
                have HB_8 := Lib.hid (HB_0.out.trans ((alloc1 w_0 (.cells #[.int .i64 d, .slice LA 1 lc] 54)).mono HB_0.out.size))
                have N8_8 := Lib.hid (heap_alloc_new w_0 (.cells #[.int .i64 d, .slice LA 1 lc] 54))
                have HO_8 := Lib.hid (own_below HO_0.out (alloc1 w_0 (.cells #[.int .i64 d, .slice LA 1 lc] 54)))
                have NE_8 : Hid (w_0.heap.size ≠ gb_0) := Lib.hid (fun e => by have := S.own_lt HO_0.out gb_0 rfl; omega)
                clear hK K hH_0 HB_0 HO_0
                generalize w_0.alloc (.cells #[.int .i64 d, .slice LA 1 lc] 54) = w_8 at *
                generalize w_0.heap.size = eb_8 at *
                try simp only [Act.put, List.setIfInBounds_toArray, List.set_cons_zero, List.set_cons_succ]
                refine wpAnyH_ready (rs := [2]) (by kernel_rfl) (by simp) ?_
                refine AllReadyH.cons rfl (fun K hK => ?_) (AllReadyH.nil)
                obtain ⟨cx, _⟩ := HBX.out w_8 HB_8.out
                go_simp
                refine hK.out _ _ (HSX.out _ (HBB.out _ HB_8.out)) (fun hH_9 => ?_)
                clear hK K hH_8 cx
                try simp only [Act.put, List.setIfInBounds_toArray, List.set_cons_zero, List.set_cons_succ]
                refine wpAnyH_ready (rs := [3]) (by kernel_rfl) (by simp) ?_
                refine AllReadyH.cons rfl (fun K hK => ?_) (AllReadyH.nil)
                go_simp
                refine hK.out _ _ (HSX.out _ (HBB.out _ HB_8.out)) (fun hH_10 => ?_)
                clear hK K hH_9
                try simp only [Act.put, List.setIfInBounds_toArray, List.set_cons_zero, List.set_cons_succ]
                refine wpAnyH_ready (rs := [9]) (by kernel_rfl) (by simp) ?_
                refine AllReadyH.cons rfl (fun K hK => ?_) (AllReadyH.nil)
                have HNW_11 := Lib.hid (World.news_of_block N8_8.out)
                have H1C_11 : Hid (∀ u ∈ ([.int .i64 d, .slice LA 1 lc] : List Value), u.oneCell' = true) := Lib.hid (by intro u hu; simp at hu; rcases hu with rfl | rfl <;> rfl)
                have hsz_11 : W4.heap.size ≤ w_8.heap.size := HB_8.out.size
                refine step_append_lies _ (by rfl) (.tmp 91) (.tmp 96) 40 (by rfl) W4.heap.size 54 i0 _ 2 32 Try.underlying40 hi0 hz0 hz1 hz2 rfl (by decide) (.slice (some ⟨gb_0, 0, none⟩) 0 0) 0 [] (by rfl) HO_8.out ⟨eb_8, 0, none⟩ 1 1 [.int .i64 d, .slice LA 1 lc] (by rfl) rfl HNW_11.out H1C_11.out (by omega) (by unfold maxLen; omega) (by omega) (by omega) _ rfl ?_
                intro g9 cap9 w9 hown hgr hat hlt
                refine hK.out _ _ (HSX.out _ (HBB.out _ (HB_8.out.grown hgr HB_8.out.size (fun q e => own_base HO_8.out q e)))) (fun hH_11 => ?_)
                have HB9 := Lib.hid (HB_8.out.grown hgr HB_8.out.size (fun q e => own_base HO_8.out q e))
                have HO9 := Lib.hid hown
                clear hK K hH_10 HB_8 HO_8 hown hgr hat hlt hsz_11 HNW_11 H1C_11 N8_8
                try simp only [Act.put, List.setIfInBounds_toArray, List.set_cons_zero, List.set_cons_succ]
                refine wpAnyH_take (i := 10) (v := ?_) rfl (by kernel_rfl) (by kernel_rfl) (by kernel_rfl) (fun _ _ _ h => h) (Or.inl ⟨by rfl, ?_⟩) hH_11 ?_
                rotate_left
                · (intro wz hSz; (try dsimp only at hSz); go_simp; try with_reducible rfl)
                try simp only [Act.put, List.setIfInBounds_toArray, List.set_cons_zero, List.set_cons_succ]
                refine wpAnyH_ready (rs := [11]) (by kernel_rfl) (by simp) ?_
                refine AllReadyH.cons rfl (fun K hK => ?_) AllReadyH.nil
                obtain ⟨cx, cz⟩ := HBX.out w9 HB9.out
                go_simp
                refine hK.out _ _ (HSX.out _ ⟨(HBB.out _ HB9.out).b.setCell (p := ⟨xb, 4, none⟩) hbx4 _⟩) (fun hHf => ?_)
                clear hK K hH_11 hHf cx cz
                try simp only [Act.put, List.setIfInBounds_toArray, List.set_cons_zero, List.set_cons_succ]
                refine wpAnyH_done (by kernel_rfl) ?_ _
                go_wp2_with fail
                go_meet
                case rel => exact ⟨g9, cap9, w9, by first | rfl | (simp; done), HB9, by first | exact HO9 | exact Lib.hid (by simpa using HO9.out)⟩
            · obtain ⟨cx, _⟩ := HBX.out wA HBA.out
              go_simp
              refine hK.out _ _ (HSX.out _ (HBB.out _ HBA.out)) (fun hH_12 => ?_)
              clear hK K hH0 cx
              try simp only [Act.put, List.setIfInBounds_toArray, List.set_cons_zero, List.set_cons_succ]
              refine wpAnyH_ready (rs := [0, 8]) (by kernel_rfl) (by simp) ?_
              refine AllReadyH.cons rfl (fun K hK => ?_) (AllReadyH.cons rfl (fun K hK => ?_) (AllReadyH.nil))
              · go_simp
                refine hK.out _ _ (HSX.out _ (HBB.out _ (HBA.out.trans ((alloc1 wA _).mono HBA.out.size)))) (fun hH_13 => ?_)
                have HB_13 := Lib.hid (HBA.out.trans ((alloc1 wA (.cells #[] 54)).mono HBA.out.size))
                have HO_13 : Hid ((wA.alloc (.cells #[] 54)).ownsRow W4.heap.size 54 2 (.slice (some ⟨wA.heap.size, 0, none⟩) 0 0) 0 []) := Lib.hid (V.own_base_le (World.ownsRow_made (size := 2) (e := 54) wA #[] 0 (Nat.le_refl _) (by unfold maxLen; omega) rfl) HBA.out.size)
                clear hK K hH_12 HBA
                generalize wA.alloc (.cells #[] 54) = w_13 at *
                generalize wA.heap.size = gb_13 at *
                try simp only [Act.put, List.setIfInBounds_toArray, List.set_cons_zero, List.set_cons_succ]
                refine wpAnyH_ready (rs := [3, 8]) (by kernel_rfl) (by simp) ?_
                refine AllReadyH.cons rfl (fun K hK => ?_) (AllReadyH.cons rfl (fun K hK => ?_) (AllReadyH.nil))
                · go_simp
                  refine hK.out _ _ (HSX.out _ (HBB.out _ HB_13.out)) (fun hH_14 => ?_)
                  clear hK K hH_13
                  try simp only [Act.put, List.setIfInBounds_toArray, List.set_cons_zero, List.set_cons_succ]
                  refine wpAnyH_ready (rs := [8]) (by kernel_rfl) (by simp) ?_
                  refine AllReadyH.cons rfl (fun K hK => ?_) (AllReadyH.nil)
                  go_simp
                  refine hK.out _ _ (HSX.out _ (HBB.out _ (HB_13.out.trans ((alloc1 w_13 _).mono HB_13.out.size)))) (fun hH_15 => ?_)
                  have HB_15 := Lib.hid (HB_13.out.trans ((alloc1 w_13 (.cells #[.int .i64 d, .slice LA 1 lc] 54)).mono HB_13.out.size))
                  have N8_15 := Lib.hid (heap_alloc_new w_13 (.cells #[.int .i64 d, .slice LA 1 lc] 54))
                  have HO_15 := Lib.hid (own_below HO_13.out (alloc1 w_13 (.cells #[.int .i64 d, .slice LA 1 lc] 54)))
                  have NE_15 : Hid (w_13.heap.size ≠ gb_13) := Lib.hid (fun e => by have := S.own_lt HO_13.out gb_13 rfl; omega)
                  clear hK K hH_14 HB_13 HO_13
                  generalize w_13.alloc (.cells #[.int .i64 d, .slice LA 1 lc] 54) = w_15 at *
                  generalize w_13.heap.size = eb_15 at *
                  try simp only [Act.put, List.setIfInBounds_toArray, List.set_cons_zero, List.set_cons_succ]
                  refine wpAnyH_ready (rs := [9]) (by kernel_rfl) (by simp) ?_
                  refine AllReadyH.cons rfl (fun K hK => ?_) (AllReadyH.nil)
                  have HNW_16 := Lib.hid (World.news_of_block N8_15.out)
                  have H1C_16 : Hid (∀ u ∈ ([.int .i64 d, .slice LA 1 lc] : List Value), u.oneCell' = true) := Lib.hid (by intro u hu; simp at hu; rcases hu with rfl | rfl <;> rfl)
                  have hsz_16 : W4.heap.size ≤ w_15.heap.size := HB_15.out.size
                  refine step_append_lies _ (by rfl) (.tmp 91) (.tmp 96) 40 (by rfl) W4.heap.size 54 i0 _ 2 32 Try.underlying40 hi0 hz0 hz1 hz2 rfl (by decide) (.slice (some ⟨gb_13, 0, none⟩) 0 0) 0 [] (by rfl) HO_15.out ⟨eb_15, 0, none⟩ 1 1 [.int .i64 d, .slice LA 1 lc] (by rfl) rfl HNW_16.out H1C_16.out (by omega) (by unfold maxLen; omega) (by omega) (by omega) _ rfl ?_
                  intro g9 cap9 w9 hown hgr hat hlt
                  refine hK.out _ _ (HSX.out _ (HBB.out _ (HB_15.out.grown hgr HB_15.out.size (fun q e => own_base HO_15.out q e)))) (fun hH_16 => ?_)
                  have HB9 := Lib.hid (HB_15.out.grown hgr HB_15.out.size (fun q e => own_base HO_15.out q e))
                  have HO9 := Lib.hid hown
                  clear hK K hH_15 HB_15 HO_15 hown hgr hat hlt hsz_16 HNW_16 H1C_16 N8_15
                  try simp only [Act.put, List.setIfInBounds_toArray, List.set_cons_zero, List.set_cons_succ]
                  refine wpAnyH_take (i := 10) (v := ?_) rfl (by kernel_rfl) (by kernel_rfl) (by kernel_rfl) (fun _ _ _ h => h) (Or.inl ⟨by rfl, ?_⟩) hH_16 ?_
                  rotate_left
                  · (intro wz hSz; (try dsimp only at hSz); go_simp; try with_reducible rfl)
                  try simp only [Act.put, List.setIfInBounds_toArray, List.set_cons_zero, List.set_cons_succ]
                  refine wpAnyH_ready (rs := [11]) (by kernel_rfl) (by simp) ?_
                  refine AllReadyH.cons rfl (fun K hK => ?_) AllReadyH.nil
                  obtain ⟨cx, cz⟩ := HBX.out w9 HB9.out
                  go_simp
                  refine hK.out _ _ (HSX.out _ ⟨(HBB.out _ HB9.out).b.setCell (p := ⟨xb, 4, none⟩) hbx4 _⟩) (fun hHf => ?_)
                  clear hK K hH_16 hHf cx cz
                  try simp only [Act.put, List.setIfInBounds_toArray, List.set_cons_zero, List.set_cons_succ]
                  refine wpAnyH_done (by kernel_rfl) ?_ _
                  go_wp2_with fail
                  go_meet
                  case rel => exact ⟨g9, cap9, w9, by first | rfl | (simp; done), HB9, by first | exact HO9 | exact Lib.hid (by simpa using HO9.out)⟩
                · go_simp
                  refine hK.out _ _ (HSX.out _ (HBB.out _ (HB_13.out.trans ((alloc1 w_13 _).mono HB_13.out.size)))) (fun hH_17 => ?_)
                  have HB_17 := Lib.hid (HB_13.out.trans ((alloc1 w_13 (.cells #[.int .i64 d, .slice LA 1 lc] 54)).mono HB_13.out.size))
                  have N8_17 := Lib.hid (heap_alloc_new w_13 (.cells #[.int .i64 d, .slice LA 1 lc] 54))
                  have HO_17 := Lib.hid (own_below HO_13.out (alloc1 w_13 (.cells #[.int .i64 d, .slice LA 1 lc] 54)))
                  have NE_17 : Hid (w_13.heap.size ≠ gb_13) := Lib.hid (fun e => by have := S.own_lt HO_13.out gb_13 rfl; omega)
                  clear hK K hH_13 HB_13 HO_13
                  generalize w_13.alloc (.cells #[.int .i64 d, .slice LA 1 lc] 54) = w_17 at *
                  generalize w_13.heap.size = eb_17 at *
                  try simp only [Act.put, List.setIfInBounds_toArray, List.set_cons_zero, List.set_cons_succ]
                  refine wpAnyH_ready (rs := [3]) (by kernel_rfl) (by simp) ?_
                  refine AllReadyH.cons rfl (fun K hK => ?_) (AllReadyH.nil)
                  go_simp
                  refine hK.out _ _ (HSX.out _ (HBB.out _ HB_17.out)) (fun hH_18 => ?_)
                  clear hK K hH_17
                  try simp only [Act.put, List.setIfInBounds_toArray, List.set_cons_zero, List.set_cons_succ]
                  refine wpAnyH_ready (rs := [9]) (by kernel_rfl) (by simp) ?_
                  refine AllReadyH.cons rfl (fun K hK => ?_) (AllReadyH.nil)
                  have HNW_19 := Lib.hid (World.news_of_block N8_17.out)
                  have H1C_19 : Hid (∀ u ∈ ([.int .i64 d, .slice LA 1 lc] : List Value), u.oneCell' = true) := Lib.hid (by intro u hu; simp at hu; rcases hu with rfl | rfl <;> rfl)
                  have hsz_19 : W4.heap.size ≤ w_17.heap.size := HB_17.out.size
                  refine step_append_lies _ (by rfl) (.tmp 91) (.tmp 96) 40 (by rfl) W4.heap.size 54 i0 _ 2 32 Try.underlying40 hi0 hz0 hz1 hz2 rfl (by decide) (.slice (some ⟨gb_13, 0, none⟩) 0 0) 0 [] (by rfl) HO_17.out ⟨eb_17, 0, none⟩ 1 1 [.int .i64 d, .slice LA 1 lc] (by rfl) rfl HNW_19.out H1C_19.out (by omega) (by unfold maxLen; omega) (by omega) (by omega) _ rfl ?_
                  intro g9 cap9 w9 hown hgr hat hlt
                  refine hK.out _ _ (HSX.out _ (HBB.out _ (HB_17.out.grown hgr HB_17.out.size (fun q e => own_base HO_17.out q e)))) (fun hH_19 => ?_)
                  have HB9 := Lib.hid (HB_17.out.grown hgr HB_17.out.size (fun q e => own_base HO_17.out q e))
                  have HO9 := Lib.hid hown
                  clear hK K hH_18 HB_17 HO_17 hown hgr hat hlt hsz_19 HNW_19 H1C_19 N8_17
                  try simp only [Act.put, List.setIfInBounds_toArray, List.set_cons_zero, List.set_cons_succ]
                  refine wpAnyH_take (i := 10) (v := ?_) rfl (by kernel_rfl) (by kernel_rfl) (by kernel_rfl) (fun _ _ _ h => h) (Or.inl ⟨by rfl, ?_⟩) hH_19 ?_
                  rotate_left
                  · (intro wz hSz; (try dsimp only at hSz); go_simp; try with_reducible rfl)
                  try simp only [Act.put, List.setIfInBounds_toArray, List.set_cons_zero, List.set_cons_succ]
                  refine wpAnyH_ready (rs := [11]) (by kernel_rfl) (by simp) ?_
                  refine AllReadyH.cons rfl (fun K hK => ?_) AllReadyH.nil
                  obtain ⟨cx, cz⟩ := HBX.out w9 HB9.out
                  go_simp
                  refine hK.out _ _ (HSX.out _ ⟨(HBB.out _ HB9.out).b.setCell (p := ⟨xb, 4, none⟩) hbx4 _⟩) (fun hHf => ?_)
                  clear hK K hH_19 hHf cx cz
                  try simp only [Act.put, List.setIfInBounds_toArray, List.set_cons_zero, List.set_cons_succ]
                  refine wpAnyH_done (by kernel_rfl) ?_ _
                  go_wp2_with fail
                  go_meet
                  case rel => exact ⟨g9, cap9, w9, by first | rfl | (simp; done), HB9, by first | exact HO9 | exact Lib.hid (by simpa using HO9.out)⟩
              · go_simp
                refine hK.out _ _ (HSX.out _ (HBB.out _ (HBA.out.trans ((alloc1 wA _).mono HBA.out.size)))) (fun hH_20 => ?_)
                have HB_20 := Lib.hid (HBA.out.trans ((alloc1 wA (.cells #[.int .i64 d, .slice LA 1 lc] 54)).mono HBA.out.size))
                have N8_20 := Lib.hid (heap_alloc_new wA (.cells #[.int .i64 d, .slice LA 1 lc] 54))
                clear hK K hH_12 HBA
                generalize wA.alloc (.cells #[.int .i64 d, .slice LA 1 lc] 54) = w_20 at *
                generalize wA.heap.size = eb_20 at *
                try simp only [Act.put, List.setIfInBounds_toArray, List.set_cons_zero, List.set_cons_succ]
                refine wpAnyH_ready (rs := [0]) (by kernel_rfl) (by simp) ?_
                refine AllReadyH.cons rfl (fun K hK => ?_) (AllReadyH.nil)
                go_simp
                refine hK.out _ _ (HSX.out _ (HBB.out _ (HB_20.out.trans ((alloc1 w_20 _).mono HB_20.out.size)))) (fun hH_21 => ?_)
                have HB_21 := Lib.hid (HB_20.out.trans ((alloc1 w_20 (.cells #[] 54)).mono HB_20.out.size))
                have HO_21 : Hid ((w_20.alloc (.cells #[] 54)).ownsRow W4.heap.size 54 2 (.slice (some ⟨w_20.heap.size, 0, none⟩) 0 0) 0 []) := Lib.hid (V.own_base_le (World.ownsRow_made (size := 2) (e := 54) w_20 #[] 0 (Nat.le_refl _) (by unfold maxLen; omega) rfl) HB_20.out.size)
                have N8_21 := Lib.hid (((alloc1 w_20 (.cells #[] 54)).block _ (L.blk_lt N8_20.out)).trans N8_20.out)
                have NE_21 : Hid (eb_20 ≠ w_20.heap.size) := Lib.hid (Nat.ne_of_lt (L.blk_lt N8_20.out))
                clear hK K hH_20 HB_20 N8_20
                generalize w_20.alloc (.cells #[] 54) = w_21 at *
                generalize w_20.heap.size = gb_21 at *
                try simp only [Act.put, List.setIfInBounds_toArray, List.set_cons_zero, List.set_cons_succ]
                refine wpAnyH_ready (rs := [3]) (by kernel_rfl) (by simp) ?_
                refine AllReadyH.cons rfl (fun K hK => ?_) (AllReadyH.nil)
                go_simp
                refine hK.out _ _ (HSX.out _ (HBB.out _ HB_21.out)) (fun hH_22 => ?_)
                clear hK K hH_21
                try simp only [Act.put, List.setIfInBounds_toArray, List.set_cons_zero, List.set_cons_succ]
                refine wpAnyH_ready (rs := [9]) (by kernel_rfl) (by simp) ?_
                refine AllReadyH.cons rfl (fun K hK => ?_) (AllReadyH.nil)
                have HNW_23 := Lib.hid (World.news_of_block N8_21.out)
                have H1C_23 : Hid (∀ u ∈ ([.int .i64 d, .slice LA 1 lc] : List Value), u.oneCell' = true) := Lib.hid (by intro u hu; simp at hu; rcases hu with rfl | rfl <;> rfl)
                have hsz_23 : W4.heap.size ≤ w_21.heap.size := HB_21.out.size
                refine step_append_lies _ (by rfl) (.tmp 91) (.tmp 96) 40 (by rfl) W4.heap.size 54 i0 _ 2 32 Try.underlying40 hi0 hz0 hz1 hz2 rfl (by decide) (.slice (some ⟨gb_21, 0, none⟩) 0 0) 0 [] (by rfl) HO_21.out ⟨eb_20, 0, none⟩ 1 1 [.int .i64 d, .slice LA 1 lc] (by rfl) rfl HNW_23.out H1C_23.out (by omega) (by unfold maxLen; omega) (by omega) (by omega) _ rfl ?_
                intro g9 cap9 w9 hown hgr hat hlt
                refine hK.out _ _ (HSX.out _ (HBB.out _ (HB_21.out.grown hgr HB_21.out.size (fun q e => own_base HO_21.out q e)))) (fun hH_23 => ?_)
                have HB9 := Lib.hid (HB_21.out.grown hgr HB_21.out.size (fun q e => own_base HO_21.out q e))
                have HO9 := Lib.hid hown
                clear hK K hH_22 HB_21 HO_21 hown hgr hat hlt hsz_23 HNW_23 H1C_23 N8_21
                try simp only [Act.put, List.setIfInBounds_toArray, List.set_cons_zero, List.set_cons_succ]
                refine wpAnyH_take (i := 10) (v := ?_) rfl (by kernel_rfl) (by kernel_rfl) (by kernel_rfl) (fun _ _ _ h => h) (Or.inl ⟨by rfl, ?_⟩) hH_23 ?_
                rotate_left
                · (intro wz hSz; (try dsimp only at hSz); go_simp; try with_reducible rfl)
                try simp only [Act.put, List.setIfInBounds_toArray, List.set_cons_zero, List.set_cons_succ]
                refine wpAnyH_ready (rs := [11]) (by kernel_rfl) (by simp) ?_
                refine AllReadyH.cons rfl (fun K hK => ?_) AllReadyH.nil
                obtain ⟨cx, cz⟩ := HBX.out w9 HB9.out
                go_simp
                refine hK.out _ _ (HSX.out _ ⟨(HBB.out _ HB9.out).b.setCell (p := ⟨xb, 4, none⟩) hbx4 _⟩) (fun hHf => ?_)
                clear hK K hH_23 hHf cx cz
                try simp only [Act.put, List.setIfInBounds_toArray, List.set_cons_zero, List.set_cons_succ]
                refine wpAnyH_done (by kernel_rfl) ?_ _
                go_wp2_with fail
                go_meet
                case rel => exact ⟨g9, cap9, w9, by first | rfl | (simp; done), HB9, by first | exact HO9 | exact Lib.hid (by simpa using HO9.out)⟩
            · go_simp
              refine hK.out _ _ (HSX.out _ (HBB.out _ (HBA.out.trans ((alloc1 wA _).mono HBA.out.size)))) (fun hH_24 => ?_)
              have HB_24 := Lib.hid (HBA.out.trans ((alloc1 wA (.cells #[.int .i64 d, .slice LA 1 lc] 54)).mono HBA.out.size))
              have N8_24 := Lib.hid (heap_alloc_new wA (.cells #[.int .i64 d, .slice LA 1 lc] 54))
              clear hK K hH0 HBA
              generalize wA.alloc (.cells #[.int .i64 d, .slice LA 1 lc] 54) = w_24 at *
              generalize wA.heap.size = eb_24 at *
              try simp only [Act.put, List.setIfInBounds_toArray, List.set_cons_zero, List.set_cons_succ]
              refine wpAnyH_ready (rs := [0, 2]) (by kernel_rfl) (by simp) ?_
              refine AllReadyH.cons rfl (fun K hK => ?_) (AllReadyH.cons rfl (fun K hK => ?_) (AllReadyH.nil))
              · go_simp
                refine hK.out _ _ (HSX.out _ (HBB.out _ (HB_24.out.trans ((alloc1 w_24 _).mono HB_24.out.size)))) (fun hH_25 => ?_)
                have HB_25 := Lib.hid (HB_24.out.trans ((alloc1 w_24 (.cells #[] 54)).mono HB_24.out.size))
                have HO_25 : Hid ((w_24.alloc (.cells #[] 54)).ownsRow W4.heap.size 54 2 (.slice (some ⟨w_24.heap.size, 0, none⟩) 0 0) 0 []) := Lib.hid (V.own_base_le (World.ownsRow_made (size := 2) (e := 54) w_24 #[] 0 (Nat.le_refl _) (by unfold maxLen; omega) rfl) HB_24.out.size)
                have N8_25 := Lib.hid (((alloc1 w_24 (.cells #[] 54)).block _ (L.blk_lt N8_24.out)).trans N8_24.out)
                have NE_25 : Hid (eb_24 ≠ w_24.heap.size) := Lib.hid (Nat.ne_of_lt (L.blk_lt N8_24.out))
                clear hK K hH_24 HB_24 N8_24
                generalize w_24.alloc (.cells #[] 54) = w_25 at *
                generalize w_24.heap.size = gb_25 at *
                try simp only [Act.put, List.setIfInBounds_toArray, List.set_cons_zero, List.set_cons_succ]
                refine wpAnyH_ready (rs := [2]) (by kernel_rfl) (by simp) ?_
                refine AllReadyH.cons rfl (fun K hK => ?_) (AllReadyH.nil)
                obtain ⟨cx, _⟩ := HBX.out w_25 HB_25.out
                go_simp
                refine hK.out _ _ (HSX.out _ (HBB.out _ HB_25.out)) (fun hH_26 => ?_)
                clear hK K hH_25 cx
                try simp only [Act.put, List.setIfInBounds_toArray, List.set_cons_zero, List.set_cons_succ]
                refine wpAnyH_ready (rs := [3]) (by kernel_rfl) (by simp) ?_
                refine AllReadyH.cons rfl (fun K hK => ?_) (AllReadyH.nil)
                go_simp
                refine hK.out _ _ (HSX.out _ (HBB.out _ HB_25.out)) (fun hH_27 => ?_)
                clear hK K hH_26
                try simp only [Act.put, List.setIfInBounds_toArray, List.set_cons_zero, List.set_cons_succ]
                refine wpAnyH_ready (rs := [9]) (by kernel_rfl) (by simp) ?_
                refine AllReadyH.cons rfl (fun K hK => ?_) (AllReadyH.nil)
                have HNW_28 := Lib.hid (World.news_of_block N8_25.out)
                have H1C_28 : Hid (∀ u ∈ ([.int .i64 d, .slice LA 1 lc] : List Value), u.oneCell' = true) := Lib.hid (by intro u hu; simp at hu; rcases hu with rfl | rfl <;> rfl)
                have hsz_28 : W4.heap.size ≤ w_25.heap.size := HB_25.out.size
                refine step_append_lies _ (by rfl) (.tmp 91) (.tmp 96) 40 (by rfl) W4.heap.size 54 i0 _ 2 32 Try.underlying40 hi0 hz0 hz1 hz2 rfl (by decide) (.slice (some ⟨gb_25, 0, none⟩) 0 0) 0 [] (by rfl) HO_25.out ⟨eb_24, 0, none⟩ 1 1 [.int .i64 d, .slice LA 1 lc] (by rfl) rfl HNW_28.out H1C_28.out (by omega) (by unfold maxLen; omega) (by omega) (by omega) _ rfl ?_
                intro g9 cap9 w9 hown hgr hat hlt
                refine hK.out _ _ (HSX.out _ (HBB.out _ (HB_25.out.grown hgr HB_25.out.size (fun q e => own_base HO_25.out q e)))) (fun hH_28 => ?_)
                have HB9 := Lib.hid (HB_25.out.grown hgr HB_25.out.size (fun q e => own_base HO_25.out q e))
                have HO9 := Lib.hid hown
                clear hK K hH_27 HB_25 HO_25 hown hgr hat hlt hsz_28 HNW_28 H1C_28 N8_25
                try simp only [Act.put, List.setIfInBounds_toArray, List.set_cons_zero, List.set_cons_succ]
                refine wpAnyH_take (i := 10) (v := ?_) rfl (by kernel_rfl) (by kernel_rfl) (by kernel_rfl) (fun _ _ _ h => h) (Or.inl ⟨by rfl, ?_⟩) hH_28 ?_
                rotate_left
                · (intro wz hSz; (try dsimp only at hSz); go_simp; try with_reducible rfl)
                try simp only [Act.put, List.setIfInBounds_toArray, List.set_cons_zero, List.set_cons_succ]
                refine wpAnyH_ready (rs := [11]) (by kernel_rfl) (by simp) ?_
                refine AllReadyH.cons rfl (fun K hK => ?_) AllReadyH.nil
                obtain ⟨cx, cz⟩ := HBX.out w9 HB9.out
                go_simp
                refine hK.out _ _ (HSX.out _ ⟨(HBB.out _ HB9.out).b.setCell (p := ⟨xb, 4, none⟩) hbx4 _⟩) (fun hHf => ?_)
                clear hK K hH_28 hHf cx cz
                try simp only [Act.put, List.setIfInBounds_toArray, List.set_cons_zero, List.set_cons_succ]
                refine wpAnyH_done (by kernel_rfl) ?_ _
                go_wp2_with fail
                go_meet
                case rel => exact ⟨g9, cap9, w9, by first | rfl | (simp; done), HB9, by first | exact HO9 | exact Lib.hid (by simpa using HO9.out)⟩
              · obtain ⟨cx, _⟩ := HBX.out w_24 HB_24.out
                go_simp
                refine hK.out _ _ (HSX.out _ (HBB.out _ HB_24.out)) (fun hH_29 => ?_)
                clear hK K hH_24 cx
                try simp only [Act.put, List.setIfInBounds_toArray, List.set_cons_zero, List.set_cons_succ]
                refine wpAnyH_ready (rs := [0]) (by kernel_rfl) (by simp) ?_
                refine AllReadyH.cons rfl (fun K hK => ?_) (AllReadyH.nil)
                go_simp
                refine hK.out _ _ (HSX.out _ (HBB.out _ (HB_24.out.trans ((alloc1 w_24 _).mono HB_24.out.size)))) (fun hH_30 => ?_)
                have HB_30 := Lib.hid (HB_24.out.trans ((alloc1 w_24 (.cells #[] 54)).mono HB_24.out.size))
                have HO_30 : Hid ((w_24.alloc (.cells #[] 54)).ownsRow W4.heap.size 54 2 (.slice (some ⟨w_24.heap.size, 0, none⟩) 0 0) 0 []) := Lib.hid (V.own_base_le (World.ownsRow_made (size := 2) (e := 54) w_24 #[] 0 (Nat.le_refl _) (by unfold maxLen; omega) rfl) HB_24.out.size)
                have N8_30 := Lib.hid (((alloc1 w_24 (.cells #[] 54)).block _ (L.blk_lt N8_24.out)).trans N8_24.out)
                have NE_30 : Hid (eb_24 ≠ w_24.heap.size) := Lib.hid (Nat.ne_of_lt (L.blk_lt N8_24.out))
                clear hK K hH_29 HB_24 N8_24
                generalize w_24.alloc (.cells #[] 54) = w_30 at *
                generalize w_24.heap.size = gb_30 at *
                try simp only [Act.put, List.setIfInBounds_toArray, List.set_cons_zero, List.set_cons_succ]
                refine wpAnyH_ready (rs := [3]) (by kernel_rfl) (by simp) ?_
                refine AllReadyH.cons rfl (fun K hK => ?_) (AllReadyH.nil)
                go_simp
                refine hK.out _ _ (HSX.out _ (HBB.out _ HB_30.out)) (fun hH_31 => ?_)
                clear hK K hH_30
                try simp only [Act.put, List.setIfInBounds_toArray, List.set_cons_zero, List.set_cons_succ]
                refine wpAnyH_ready (rs := [9]) (by kernel_rfl) (by simp) ?_
                refine AllReadyH.cons rfl (fun K hK => ?_) (AllReadyH.nil)
                have HNW_32 := Lib.hid (World.news_of_block N8_30.out)
                have H1C_32 : Hid (∀ u ∈ ([.int .i64 d, .slice LA 1 lc] : List Value), u.oneCell' = true) := Lib.hid (by intro u hu; simp at hu; rcases hu with rfl | rfl <;> rfl)
                have hsz_32 : W4.heap.size ≤ w_30.heap.size := HB_30.out.size
                refine step_append_lies _ (by rfl) (.tmp 91) (.tmp 96) 40 (by rfl) W4.heap.size 54 i0 _ 2 32 Try.underlying40 hi0 hz0 hz1 hz2 rfl (by decide) (.slice (some ⟨gb_30, 0, none⟩) 0 0) 0 [] (by rfl) HO_30.out ⟨eb_24, 0, none⟩ 1 1 [.int .i64 d, .slice LA 1 lc] (by rfl) rfl HNW_32.out H1C_32.out (by omega) (by unfold maxLen; omega) (by omega) (by omega) _ rfl ?_
                intro g9 cap9 w9 hown hgr hat hlt
                refine hK.out _ _ (HSX.out _ (HBB.out _ (HB_30.out.grown hgr HB_30.out.size (fun q e => own_base HO_30.out q e)))) (fun hH_32 => ?_)
                have HB9 := Lib.hid (HB_30.out.grown hgr HB_30.out.size (fun q e => own_base HO_30.out q e))
                have HO9 := Lib.hid hown
                clear hK K hH_31 HB_30 HO_30 hown hgr hat hlt hsz_32 HNW_32 H1C_32 N8_30
                try simp only [Act.put, List.setIfInBounds_toArray, List.set_cons_zero, List.set_cons_succ]
                refine wpAnyH_take (i := 10) (v := ?_) rfl (by kernel_rfl) (by kernel_rfl) (by kernel_rfl) (fun _ _ _ h => h) (Or.inl ⟨by rfl, ?_⟩) hH_32 ?_
                rotate_left
                · (intro wz hSz; (try dsimp only at hSz); go_simp; try with_reducible rfl)
                try simp only [Act.put, List.setIfInBounds_toArray, List.set_cons_zero, List.set_cons_succ]
                refine wpAnyH_ready (rs := [11]) (by kernel_rfl) (by simp) ?_
                refine AllReadyH.cons rfl (fun K hK => ?_) AllReadyH.nil
                obtain ⟨cx, cz⟩ := HBX.out w9 HB9.out
                go_simp
                refine hK.out _ _ (HSX.out _ ⟨(HBB.out _ HB9.out).b.setCell (p := ⟨xb, 4, none⟩) hbx4 _⟩) (fun hHf => ?_)
                clear hK K hH_32 hHf cx cz
                try simp only [Act.put, List.setIfInBounds_toArray, List.set_cons_zero, List.set_cons_succ]
                refine wpAnyH_done (by kernel_rfl) ?_ _
                go_wp2_with fail
                go_meet
                case rel => exact ⟨g9, cap9, w9, by first | rfl | (simp; done), HB9, by first | exact HO9 | exact Lib.hid (by simpa using HO9.out)⟩
          | some ad =>
            have hq0 : 0 < qn := by rcases HQZ.out with h | h; exact absurd h (by simp); exact h
            refine wp_region_held_drew (S := fun wz => wz.cell? ⟨sb, so + i * 2, none⟩ = some (.int .i64 d) ∧ wz.cell? ⟨sb, so + i * 2 + 1, none⟩ = some (.slice LA 1 lc) ∧ Bw w1 wz) (by kernel_rfl) (HSX.out _ (HBB.out _ ((Below.refl _ _).drew))) (fun hH0 => ?_)
            have HBA := Lib.hid ((Below.refl W4.heap.size W4).drew)
            generalize W4.drew = wA at *
            refine wpAnyH_take (i := 1) (v := ?_) rfl (by kernel_rfl) (by kernel_rfl) (by kernel_rfl) (fun _ _ _ h => h) (Or.inl ⟨by rfl, ?_⟩) hH0 ?_
            rotate_left
            · (intro wz hSz; (try dsimp only at hSz); go_simp; try with_reducible rfl)
            try simp only [Act.put, List.setIfInBounds_toArray, List.set_cons_zero, List.set_cons_succ]
            refine wpAnyH_take (i := 4) (v := ?_) rfl (by kernel_rfl) (by kernel_rfl) (by kernel_rfl) (fun _ _ _ h => h) (Or.inl ⟨by rfl, ?_⟩) hH0 ?_
            rotate_left
            · (intro wz hSz; (try dsimp only at hSz); go_simp; try with_reducible rfl)
            try simp only [Act.put, List.setIfInBounds_toArray, List.set_cons_zero, List.set_cons_succ]
            refine wpAnyH_take (i := 5) (v := ?_) rfl (by kernel_rfl) (by kernel_rfl) (by kernel_rfl) (fun _ _ _ h => h) (Or.inl ⟨by rfl, ?_⟩) hH0 ?_
            rotate_left
            · (intro wz hSz; (try dsimp only at hSz); go_simp; try with_reducible rfl)
            try simp only [Act.put, List.setIfInBounds_toArray, List.set_cons_zero, List.set_cons_succ]
            refine wpAnyH_take (i := 6) (v := ?_) rfl (by kernel_rfl) (by kernel_rfl) (by kernel_rfl) (fun _ _ _ h => h) (Or.inl ⟨by rfl, ?_⟩) hH0 ?_
            rotate_left
            · (intro wz hSz; (try dsimp only at hSz); go_simp; try with_reducible rfl)
            try simp only [Act.put, List.setIfInBounds_toArray, List.set_cons_zero, List.set_cons_succ]
            refine wpAnyH_take (i := 7) (v := ?_) rfl (by kernel_rfl) (by kernel_rfl) (by kernel_rfl) (fun _ _ _ h => h) (Or.inl ⟨by rfl, ?_⟩) hH0 ?_
            rotate_left
            · (intro wz hSz; (try dsimp only at hSz); go_simp; try with_reducible rfl)
            try simp only [Act.put, List.setIfInBounds_toArray, List.set_cons_zero, List.set_cons_succ]
            refine wpAnyH_ready (rs := [0, 2, 8]) (by kernel_rfl) (by simp) ?_
            refine AllReadyH.cons rfl (fun K hK => ?_) (AllReadyH.cons rfl (fun K hK => ?_) (AllReadyH.cons rfl (fun K hK => ?_) (AllReadyH.nil)))
            · go_simp
              refine hK.out _ _ (HSX.out _ (HBB.out _ (HBA.out.trans ((alloc1 wA _).mono HBA.out.size)))) (fun hH_33 => ?_)
              have HB_33 := Lib.hid (HBA.out.trans ((alloc1 wA (.cells #[] 54)).mono HBA.out.size))
              have HO_33 : Hid ((wA.alloc (.cells #[] 54)).ownsRow W4.heap.size 54 2 (.slice (some ⟨wA.heap.size, 0, none⟩) 0 0) 0 []) := Lib.hid (V.own_base_le (World.ownsRow_made (size := 2) (e := 54) wA #[] 0 (Nat.le_refl _) (by unfold maxLen; omega) rfl) HBA.out.size)
              clear hK K hH0 HBA
              generalize wA.alloc (.cells #[] 54) = w_33 at *
              generalize wA.heap.size = gb_33 at *
              try simp only [Act.put, List.setIfInBounds_toArray, List.set_cons_zero, List.set_cons_succ]
              refine wpAnyH_ready (rs := [2, 8]) (by kernel_rfl) (by simp) ?_
              refine AllReadyH.cons rfl (fun K hK => ?_) (AllReadyH.cons rfl (fun K hK => ?_) (AllReadyH.nil))
              · obtain ⟨cx, _⟩ := HBX.out w_33 HB_33.out
                go_simp
                refine hK.out _ _ (HSX.out _ (HBB.out _ HB_33.out)) (fun hH_34 => ?_)
                clear hK K hH_33 cx
                try simp only [Act.put, List.setIfInBounds_toArray, List.set_cons_zero, List.set_cons_succ]
                refine wpAnyH_ready (rs := [3, 8]) (by kernel_rfl) (by simp) ?_
                refine AllReadyH.cons rfl (fun K hK => ?_) (AllReadyH.cons rfl (fun K hK => ?_) (AllReadyH.nil))
                · have HAT_35 := Lib.hid (HRAT.out w_33 ad HB_33.out rfl)
                  have hsz_35 : W4.heap.size ≤ w_33.heap.size := HB_33.out.size
                  refine step_append_lies _ (by rfl) (.tmp 88) (.tmp 90) 40 (by rfl) W4.heap.size 54 i0 _ 2 32 Try.underlying40 hi0 hz0 hz1 hz2 rfl (by decide) (.slice (some ⟨gb_33, 0, none⟩) 0 0) 0 [] (by rfl) HO_33.out ad qn xc (rawCells rsx) (by rfl) HRL.out HAT_35.out H1R.out (by omega) (by unfold maxLen; omega) (by omega) (by omega) _ rfl ?_
                  intro gc_35 cp_35 w_35 hown hgr hat hlt
                  simp only [Nat.zero_add, List.nil_append] at hown ⊢
                  refine hK.out _ _ (HSX.out _ (HBB.out _ (HB_33.out.grown hgr HB_33.out.size (fun q e => own_base HO_33.out q e)))) (fun hH_35 => ?_)
                  have HB_35 := Lib.hid (HB_33.out.grown hgr HB_33.out.size (fun q e => own_base HO_33.out q e))
                  have HO_35 := Lib.hid hown
                  clear hK K hH_34 HB_33 HO_33 hown hgr hat hlt hsz_35 HAT_35
                  try simp only [Act.put, List.setIfInBounds_toArray, List.set_cons_zero, List.set_cons_succ]
                  refine wpAnyH_ready (rs := [8]) (by kernel_rfl) (by simp) ?_
                  refine AllReadyH.cons rfl (fun K hK => ?_) (AllReadyH.nil)
                  go_simp
                  refine hK.out _ _ (HSX.out _ (HBB.out _ (HB_35.out.trans ((alloc1 w_35 _).mono HB_35.out.size)))) (fun hH_36 => ?_)
                  have HB_36 := Lib.hid (HB_35.out.trans ((alloc1 w_35 (.cells #[.int .i64 d, .slice LA 1 lc] 54)).mono HB_35.out.size))
                  have N8_36 := Lib.hid (heap_alloc_new w_35 (.cells #[.int .i64 d, .slice LA 1 lc] 54))
                  have HO_36 := Lib.hid (own_below HO_35.out (alloc1 w_35 (.cells #[.int .i64 d, .slice LA 1 lc] 54)))
                  have NE_36 : Hid (w_35.heap.size ≠ gc_35) := Lib.hid (fun e => by have := S.own_lt HO_35.out gc_35 rfl; omega)
                  clear hK K hH_35 HB_35 HO_35
                  generalize w_35.alloc (.cells #[.int .i64 d, .slice LA 1 lc] 54) = w_36 at *
                  generalize w_35.heap.size = eb_36 at *
                  try simp only [Act.put, List.setIfInBounds_toArray, List.set_cons_zero, List.set_cons_succ]
                  refine wpAnyH_ready (rs := [9]) (by kernel_rfl) (by simp) ?_
                  refine AllReadyH.cons rfl (fun K hK => ?_) (AllReadyH.nil)
                  have HNW_37 := Lib.hid (World.news_of_block N8_36.out)
                  have H1C_37 : Hid (∀ u ∈ ([.int .i64 d, .slice LA 1 lc] : List Value), u.oneCell' = true) := Lib.hid (by intro u hu; simp at hu; rcases hu with rfl | rfl <;> rfl)
                  have hsz_37 : W4.heap.size ≤ w_36.heap.size := HB_36.out.size
                  refine step_append_lies _ (by rfl) (.tmp 91) (.tmp 96) 40 (by rfl) W4.heap.size 54 i0 _ 2 32 Try.underlying40 hi0 hz0 hz1 hz2 rfl (by decide) (.slice (some ⟨gc_35, 0, none⟩) qn cp_35) qn (rawCells rsx) (by rfl) HO_36.out ⟨eb_36, 0, none⟩ 1 1 [.int .i64 d, .slice LA 1 lc] (by rfl) rfl HNW_37.out H1C_37.out (by omega) (by unfold maxLen; omega) (by omega) (by omega) _ rfl ?_
                  intro g9 cap9 w9 hown hgr hat hlt
                  refine hK.out _ _ (HSX.out _ (HBB.out _ (HB_36.out.grown hgr HB_36.out.size (fun q e => own_base HO_36.out q e)))) (fun hH_37 => ?_)
                  have HB9 := Lib.hid (HB_36.out.grown hgr HB_36.out.size (fun q e => own_base HO_36.out q e))
                  have HO9 := Lib.hid hown
                  clear hK K hH_36 HB_36 HO_36 hown hgr hat hlt hsz_37 HNW_37 H1C_37 N8_36
                  try simp only [Act.put, List.setIfInBounds_toArray, List.set_cons_zero, List.set_cons_succ]
                  refine wpAnyH_take (i := 10) (v := ?_) rfl (by kernel_rfl) (by kernel_rfl) (by kernel_rfl) (fun _ _ _ h => h) (Or.inl ⟨by rfl, ?_⟩) hH_37 ?_
                  rotate_left
                  · (intro wz hSz; (try dsimp only at hSz); go_simp; try with_reducible rfl)
                  try simp only [Act.put, List.setIfInBounds_toArray, List.set_cons_zero, List.set_cons_succ]
                  refine wpAnyH_ready (rs := [11]) (by kernel_rfl) (by simp) ?_
                  refine AllReadyH.cons rfl (fun K hK => ?_) AllReadyH.nil
                  obtain ⟨cx, cz⟩ := HBX.out w9 HB9.out
                  go_simp
                  refine hK.out _ _ (HSX.out _ ⟨(HBB.out _ HB9.out).b.setCell (p := ⟨xb, 4, none⟩) hbx4 _⟩) (fun hHf => ?_)
                  clear hK K hH_37 hHf cx cz
                  try simp only [Act.put, List.setIfInBounds_toArray, List.set_cons_zero, List.set_cons_succ]
                  refine wpAnyH_done (by kernel_rfl) ?_ _
                  go_wp2_with fail
                  go_meet
                  case rel => exact ⟨g9, cap9, w9, by first | rfl | (simp; done), HB9, by first | exact HO9 | exact Lib.hid (by simpa using HO9.out)⟩
                · go_simp
                  refine hK.out _ _ (HSX.out _ (HBB.out _ (HB_33.out.trans ((alloc1 w_33 _).mono HB_33.out.size)))) (fun hH_38 => ?_)
                  have HB_38 := Lib.hid (HB_33.out.trans ((alloc1 w_33 (.cells #[.int .i64 d, .slice LA 1 lc] 54)).mono HB_33.out.size))
                  have N8_38 := Lib.hid (heap_alloc_new w_33 (.cells #[.int .i64 d, .slice LA 1 lc] 54))
                  have HO_38 := Lib.hid (own_below HO_33.out (alloc1 w_33 (.cells #[.int .i64 d, .slice LA 1 lc] 54)))
                  have NE_38 : Hid (w_33.heap.size ≠ gb_33) := Lib.hid (fun e => by have := S.own_lt HO_33.out gb_33 rfl; omega)
                  clear hK K hH_34 HB_33 HO_33
                  generalize w_33.alloc (.cells #[.int .i64 d, .slice LA 1 lc] 54) = w_38 at *
                  generalize w_33.heap.size = eb_38 at *
                  try simp only [Act.put, List.setIfInBounds_toArray, List.set_cons_zero, List.set_cons_succ]
                  refine wpAnyH_ready (rs := [3]) (by kernel_rfl) (by simp) ?_
                  refine AllReadyH.cons rfl (fun K hK => ?_) (AllReadyH.nil)
                  have HAT_39 := Lib.hid (HRAT.out w_38 ad HB_38.out rfl)
                  have hsz_39 : W4.heap.size ≤ w_38.heap.size := HB_38.out.size
                  refine step_append_lies _ (by rfl) (.tmp 88) (.tmp 90) 40 (by rfl) W4.heap.size 54 i0 _ 2 32 Try.underlying40 hi0 hz0 hz1 hz2 rfl (by decide) (.slice (some ⟨gb_33, 0, none⟩) 0 0) 0 [] (by rfl) HO_38.out ad qn xc (rawCells rsx) (by rfl) HRL.out HAT_39.out H1R.out (by omega) (by unfold maxLen; omega) (by omega) (by omega) _ rfl ?_
                  intro gc_39 cp_39 w_39 hown hgr hat hlt
                  simp only [Nat.zero_add, List.nil_append] at hown ⊢
                  refine hK.out _ _ (HSX.out _ (HBB.out _ (HB_38.out.grown hgr HB_38.out.size (fun q e => own_base HO_38.out q e)))) (fun hH_39 => ?_)
                  have HB_39 := Lib.hid (HB_38.out.grown hgr HB_38.out.size (fun q e => own_base HO_38.out q e))
                  have HO_39 := Lib.hid hown
                  have N8_39 := Lib.hid ((hgr.block _ (L.blk_lt N8_38.out) (fun e => by simp only [Value.ownBlock, Option.some.injEq] at e; exact NE_38.out e)).trans N8_38.out)
                  clear hK K hH_38 HB_38 HO_38 hown hgr hat hlt hsz_39 HAT_39 N8_38
                  try simp only [Act.put, List.setIfInBounds_toArray, List.set_cons_zero, List.set_cons_succ]
                  refine wpAnyH_ready (rs := [9]) (by kernel_rfl) (by simp) ?_
                  refine AllReadyH.cons rfl (fun K hK => ?_) (AllReadyH.nil)
                  have HNW_40 := Lib.hid (World.news_of_block N8_39.out)
                  have H1C_40 : Hid (∀ u ∈ ([.int .i64 d, .slice LA 1 lc] : List Value), u.oneCell' = true) := Lib.hid (by intro u hu; simp at hu; rcases hu with rfl | rfl <;> rfl)
                  have hsz_40 : W4.heap.size ≤ w_39.heap.size := HB_39.out.size
                  refine step_append_lies _ (by rfl) (.tmp 91) (.tmp 96) 40 (by rfl) W4.heap.size 54 i0 _ 2 32 Try.underlying40 hi0 hz0 hz1 hz2 rfl (by decide) (.slice (some ⟨gc_39, 0, none⟩) qn cp_39) qn (rawCells rsx) (by rfl) HO_39.out ⟨eb_38, 0, none⟩ 1 1 [.int .i64 d, .slice LA 1 lc] (by rfl) rfl HNW_40.out H1C_40.out (by omega) (by unfold maxLen; omega) (by omega) (by omega) _ rfl ?_
                  intro g9 cap9 w9 hown hgr hat hlt
                  refine hK.out _ _ (HSX.out _ (HBB.out _ (HB_39.out.grown hgr HB_39.out.size (fun q e => own_base HO_39.out q e)))) (fun hH_40 => ?_)
                  have HB9 := Lib.hid (HB_39.out.grown hgr HB_39.out.size (fun q e => own_base HO_39.out q e))
                  have HO9 := Lib.hid hown
                  clear hK K hH_39 HB_39 HO_39 hown hgr hat hlt hsz_40 HNW_40 H1C_40 N8_39
                  try simp only [Act.put, List.setIfInBounds_toArray, List.set_cons_zero, List.set_cons_succ]
                  refine wpAnyH_take (i := 10) (v := ?_) rfl (by kernel_rfl) (by kernel_rfl) (by kernel_rfl) (fun _ _ _ h => h) (Or.inl ⟨by rfl, ?_⟩) hH_40 ?_
                  rotate_left
                  · (intro wz hSz; (try dsimp only at hSz); go_simp; try with_reducible rfl)
                  try simp only [Act.put, List.setIfInBounds_toArray, List.set_cons_zero, List.set_cons_succ]
                  refine wpAnyH_ready (rs := [11]) (by kernel_rfl) (by simp) ?_
                  refine AllReadyH.cons rfl (fun K hK => ?_) AllReadyH.nil
                  obtain ⟨cx, cz⟩ := HBX.out w9 HB9.out
                  go_simp
                  refine hK.out _ _ (HSX.out _ ⟨(HBB.out _ HB9.out).b.setCell (p := ⟨xb, 4, none⟩) hbx4 _⟩) (fun hHf => ?_)
                  clear hK K hH_40 hHf cx cz
                  try simp only [Act.put, List.setIfInBounds_toArray, List.set_cons_zero, List.set_cons_succ]
                  refine wpAnyH_done (by kernel_rfl) ?_ _
                  go_wp2_with fail
                  go_meet
                  case rel => exact ⟨g9, cap9, w9, by first | rfl | (simp; done), HB9, by first | exact HO9 | exact Lib.hid (by simpa using HO9.out)⟩
              · go_simp
                refine hK.out _ _ (HSX.out _ (HBB.out _ (HB_33.out.trans ((alloc1 w_33 _).mono HB_33.out.size)))) (fun hH_41 => ?_)
                have HB_41 := Lib.hid (HB_33.out.trans ((alloc1 w_33 (.cells #[.int .i64 d, .slice LA 1 lc] 54)).mono HB_33.out.size))
                have N8_41 := Lib.hid (heap_alloc_new w_33 (.cells #[.int .i64 d, .slice LA 1 lc] 54))
                have HO_41 := Lib.hid (own_below HO_33.out (alloc1 w_33 (.cells #[.int .i64 d, .slice LA 1 lc] 54)))
                have NE_41 : Hid (w_33.heap.size ≠ gb_33) := Lib.hid (fun e => by have := S.own_lt HO_33.out gb_33 rfl; omega)
                clear hK K hH_33 HB_33 HO_33
                generalize w_33.alloc (.cells #[.int .i64 d, .slice LA 1 lc] 54) = w_41 at *
                generalize w_33.heap.size = eb_41 at *
                try simp only [Act.put, List.setIfInBounds_toArray, List.set_cons_zero, List.set_cons_succ]
                refine wpAnyH_ready (rs := [2]) (by kernel_rfl) (by simp) ?_
                refine AllReadyH.cons rfl (fun K hK => ?_) (AllReadyH.nil)
                obtain ⟨cx, _⟩ := HBX.out w_41 HB_41.out
                go_simp
                refine hK.out _ _ (HSX.out _ (HBB.out _ HB_41.out)) (fun hH_42 => ?_)
                clear hK K hH_41 cx
                try simp only [Act.put, List.setIfInBounds_toArray, List.set_cons_zero, List.set_cons_succ]
                refine wpAnyH_ready (rs := [3]) (by kernel_rfl) (by simp) ?_
                refine AllReadyH.cons rfl (fun K hK => ?_) (AllReadyH.nil)
                have HAT_43 := Lib.hid (HRAT.out w_41 ad HB_41.out rfl)
                have hsz_43 : W4.heap.size ≤ w_41.heap.size := HB_41.out.size
                refine step_append_lies _ (by rfl) (.tmp 88) (.tmp 90) 40 (by rfl) W4.heap.size 54 i0 _ 2 32 Try.underlying40 hi0 hz0 hz1 hz2 rfl (by decide) (.slice (some ⟨gb_33, 0, none⟩) 0 0) 0 [] (by rfl) HO_41.out ad qn xc (rawCells rsx) (by rfl) HRL.out HAT_43.out H1R.out (by omega) (by unfold maxLen; omega) (by omega) (by omega) _ rfl ?_
                intro gc_43 cp_43 w_43 hown hgr hat hlt
                simp only [Nat.zero_add, List.nil_append] at hown ⊢
                refine hK.out _ _ (HSX.out _ (HBB.out _ (HB_41.out.grown hgr HB_41.out.size (fun q e => own_base HO_41.out q e)))) (fun hH_43 => ?_)
                have HB_43 := Lib.hid (HB_41.out.grown hgr HB_41.out.size (fun q e => own_base HO_41.out q e))
                have HO_43 := Lib.hid hown
                have N8_43 := Lib.hid ((hgr.block _ (L.blk_lt N8_41.out) (fun e => by simp only [Value.ownBlock, Option.some.injEq] at e; exact NE_41.out e)).trans N8_41.out)
                clear hK K hH_42 HB_41 HO_41 hown hgr hat hlt hsz_43 HAT_43 N8_41
                try simp only [Act.put, List.setIfInBounds_toArray, List.set_cons_zero, List.set_cons_succ]
                refine wpAnyH_ready (rs := [9]) (by kernel_rfl) (by simp) ?_
                refine AllReadyH.cons rfl (fun K hK => ?_) (AllReadyH.nil)
                have HNW_44 := Lib.hid (World.news_of_block N8_43.out)
                have H1C_44 : Hid (∀ u ∈ ([.int .i64 d, .slice LA 1 lc] : List Value), u.oneCell' = true) := Lib.hid (by intro u hu; simp at hu; rcases hu with rfl | rfl <;> rfl)
                have hsz_44 : W4.heap.size ≤ w_43.heap.size := HB_43.out.size
                refine step_append_lies _ (by rfl) (.tmp 91) (.tmp 96) 40 (by rfl) W4.heap.size 54 i0 _ 2 32 Try.underlying40 hi0 hz0 hz1 hz2 rfl (by decide) (.slice (some ⟨gc_43, 0, none⟩) qn cp_43) qn (rawCells rsx) (by rfl) HO_43.out ⟨eb_41, 0, none⟩ 1 1 [.int .i64 d, .slice LA 1 lc] (by rfl) rfl HNW_44.out H1C_44.out (by omega) (by unfold maxLen; omega) (by omega) (by omega) _ rfl ?_
                intro g9 cap9 w9 hown hgr hat hlt
                refine hK.out _ _ (HSX.out _ (HBB.out _ (HB_43.out.grown hgr HB_43.out.size (fun q e => own_base HO_43.out q e)))) (fun hH_44 => ?_)
                have HB9 := Lib.hid (HB_43.out.grown hgr HB_43.out.size (fun q e => own_base HO_43.out q e))
                have HO9 := Lib.hid hown
                clear hK K hH_43 HB_43 HO_43 hown hgr hat hlt hsz_44 HNW_44 H1C_44 N8_43
                try simp only [Act.put, List.setIfInBounds_toArray, List.set_cons_zero, List.set_cons_succ]
                refine wpAnyH_take (i := 10) (v := ?_) rfl (by kernel_rfl) (by kernel_rfl) (by kernel_rfl) (fun _ _ _ h => h) (Or.inl ⟨by rfl, ?_⟩) hH_44 ?_
                rotate_left
                · (intro wz hSz; (try dsimp only at hSz); go_simp; try with_reducible rfl)
                try simp only [Act.put, List.setIfInBounds_toArray, List.set_cons_zero, List.set_cons_succ]
                refine wpAnyH_ready (rs := [11]) (by kernel_rfl) (by simp) ?_
                refine AllReadyH.cons rfl (fun K hK => ?_) AllReadyH.nil
                obtain ⟨cx, cz⟩ := HBX.out w9 HB9.out
                go_simp
                refine hK.out _ _ (HSX.out _ ⟨(HBB.out _ HB9.out).b.setCell (p := ⟨xb, 4, none⟩) hbx4 _⟩) (fun hHf => ?_)
                clear hK K hH_44 hHf cx cz
                try simp only [Act.put, List.setIfInBounds_toArray, List.set_cons_zero, List.set_cons_succ]
                refine wpAnyH_done (by kernel_rfl) ?_ _
                go_wp2_with fail
                go_meet
                case rel => exact ⟨g9, cap9, w9, by first | rfl | (simp; done), HB9, by first | exact HO9 | exact Lib.hid (by simpa using HO9.out)⟩
            · obtain ⟨cx, _⟩ := HBX.out wA HBA.out
              go_simp
              refine hK.out _ _ (HSX.out _ (HBB.out _ HBA.out)) (fun hH_45 => ?_)
              clear hK K hH0 cx
              try simp only [Act.put, List.setIfInBounds_toArray, List.set_cons_zero, List.set_cons_succ]
              refine wpAnyH_ready (rs := [0, 8]) (by kernel_rfl) (by simp) ?_
              refine AllReadyH.cons rfl (fun K hK => ?_) (AllReadyH.cons rfl (fun K hK => ?_) (AllReadyH.nil))
              · go_simp
                refine hK.out _ _ (HSX.out _ (HBB.out _ (HBA.out.trans ((alloc1 wA _).mono HBA.out.size)))) (fun hH_46 => ?_)
                have HB_46 := Lib.hid (HBA.out.trans ((alloc1 wA (.cells #[] 54)).mono HBA.out.size))
                have HO_46 : Hid ((wA.alloc (.cells #[] 54)).ownsRow W4.heap.size 54 2 (.slice (some ⟨wA.heap.size, 0, none⟩) 0 0) 0 []) := Lib.hid (V.own_base_le (World.ownsRow_made (size := 2) (e := 54) wA #[] 0 (Nat.le_refl _) (by unfold maxLen; omega) rfl) HBA.out.size)
                clear hK K hH_45 HBA
                generalize wA.alloc (.cells #[] 54) = w_46 at *
                generalize wA.heap.size = gb_46 at *
                try simp only [Act.put, List.setIfInBounds_toArray, List.set_cons_zero, List.set_cons_succ]
                refine wpAnyH_ready (rs := [3, 8]) (by kernel_rfl) (by simp) ?_
                refine AllReadyH.cons rfl (fun K hK => ?_) (AllReadyH.cons rfl (fun K hK => ?_) (AllReadyH.nil))
                · have HAT_47 := Lib.hid (HRAT.out w_46 ad HB_46.out rfl)
                  have hsz_47 : W4.heap.size ≤ w_46.heap.size := HB_46.out.size
                  refine step_append_lies _ (by rfl) (.tmp 88) (.tmp 90) 40 (by rfl) W4.heap.size 54 i0 _ 2 32 Try.underlying40 hi0 hz0 hz1 hz2 rfl (by decide) (.slice (some ⟨gb_46, 0, none⟩) 0 0) 0 [] (by rfl) HO_46.out ad qn xc (rawCells rsx) (by rfl) HRL.out HAT_47.out H1R.out (by omega) (by unfold maxLen; omega) (by omega) (by omega) _ rfl ?_
                  intro gc_47 cp_47 w_47 hown hgr hat hlt
                  simp only [Nat.zero_add, List.nil_append] at hown ⊢
                  refine hK.out _ _ (HSX.out _ (HBB.out _ (HB_46.out.grown hgr HB_46.out.size (fun q e => own_base HO_46.out q e)))) (fun hH_47 => ?_)
                  have HB_47 := Lib.hid (HB_46.out.grown hgr HB_46.out.size (fun q e => own_base HO_46.out q e))
                  have HO_47 := Lib.hid hown
                  clear hK K hH_46 HB_46 HO_46 hown hgr hat hlt hsz_47 HAT_47
                  try simp only [Act.put, List.setIfInBounds_toArray, List.set_cons_zero, List.set_cons_succ]
                  refine wpAnyH_ready (rs := [8]) (by kernel_rfl) (by simp) ?_
                  refine AllReadyH.cons rfl (fun K hK => ?_) (AllReadyH.nil)
                  go_simp
                  refine hK.out _ _ (HSX.out _ (HBB.out _ (HB_47.out.trans ((alloc1 w_47 _).mono HB_47.out.size)))) (fun hH_48 => ?_)
                  have HB_48 := Lib.hid (HB_47.out.trans ((alloc1 w_47 (.cells #[.int .i64 d, .slice LA 1 lc] 54)).mono HB_47.out.size))
                  have N8_48 := Lib.hid (heap_alloc_new w_47 (.cells #[.int .i64 d, .slice LA 1 lc] 54))
                  have HO_48 := Lib.hid (own_below HO_47.out (alloc1 w_47 (.cells #[.int .i64 d, .slice LA 1 lc] 54)))
                  have NE_48 : Hid (w_47.heap.size ≠ gc_47) := Lib.hid (fun e => by have := S.own_lt HO_47.out gc_47 rfl; omega)
                  clear hK K hH_47 HB_47 HO_47
                  generalize w_47.alloc (.cells #[.int .i64 d, .slice LA 1 lc] 54) = w_48 at *
                  generalize w_47.heap.size = eb_48 at *
                  try simp only [Act.put, List.setIfInBounds_toArray, List.set_cons_zero, List.set_cons_succ]
                  refine wpAnyH_ready (rs := [9]) (by kernel_rfl) (by simp) ?_
                  refine AllReadyH.cons rfl (fun K hK => ?_) (AllReadyH.nil)
                  have HNW_49 := Lib.hid (World.news_of_block N8_48.out)
                  have H1C_49 : Hid (∀ u ∈ ([.int .i64 d, .slice LA 1 lc] : List Value), u.oneCell' = true) := Lib.hid (by intro u hu; simp at hu; rcases hu with rfl | rfl <;> rfl)
                  have hsz_49 : W4.heap.size ≤ w_48.heap.size := HB_48.out.size
                  refine step_append_lies _ (by rfl) (.tmp 91) (.tmp 96) 40 (by rfl) W4.heap.size 54 i0 _ 2 32 Try.underlying40 hi0 hz0 hz1 hz2 rfl (by decide) (.slice (some ⟨gc_47, 0, none⟩) qn cp_47) qn (rawCells rsx) (by rfl) HO_48.out ⟨eb_48, 0, none⟩ 1 1 [.int .i64 d, .slice LA 1 lc] (by rfl) rfl HNW_49.out H1C_49.out (by omega) (by unfold maxLen; omega) (by omega) (by omega) _ rfl ?_
                  intro g9 cap9 w9 hown hgr hat hlt
                  refine hK.out _ _ (HSX.out _ (HBB.out _ (HB_48.out.grown hgr HB_48.out.size (fun q e => own_base HO_48.out q e)))) (fun hH_49 => ?_)
                  have HB9 := Lib.hid (HB_48.out.grown hgr HB_48.out.size (fun q e => own_base HO_48.out q e))
                  have HO9 := Lib.hid hown
                  clear hK K hH_48 HB_48 HO_48 hown hgr hat hlt hsz_49 HNW_49 H1C_49 N8_48
                  try simp only [Act.put, List.setIfInBounds_toArray, List.set_cons_zero, List.set_cons_succ]
                  refine wpAnyH_take (i := 10) (v := ?_) rfl (by kernel_rfl) (by kernel_rfl) (by kernel_rfl) (fun _ _ _ h => h) (Or.inl ⟨by rfl, ?_⟩) hH_49 ?_
                  rotate_left
                  · (intro wz hSz; (try dsimp only at hSz); go_simp; try with_reducible rfl)
                  try simp only [Act.put, List.setIfInBounds_toArray, List.set_cons_zero, List.set_cons_succ]
                  refine wpAnyH_ready (rs := [11]) (by kernel_rfl) (by simp) ?_
                  refine AllReadyH.cons rfl (fun K hK => ?_) AllReadyH.nil
                  obtain ⟨cx, cz⟩ := HBX.out w9 HB9.out
                  go_simp
                  refine hK.out _ _ (HSX.out _ ⟨(HBB.out _ HB9.out).b.setCell (p := ⟨xb, 4, none⟩) hbx4 _⟩) (fun hHf => ?_)
                  clear hK K hH_49 hHf cx cz
                  try simp only [Act.put, List.setIfInBounds_toArray, List.set_cons_zero, List.set_cons_succ]
                  refine wpAnyH_done (by kernel_rfl) ?_ _
                  go_wp2_with fail
                  go_meet
                  case rel => exact ⟨g9, cap9, w9, by first | rfl | (simp; done), HB9, by first | exact HO9 | exact Lib.hid (by simpa using HO9.out)⟩
                · go_simp
                  refine hK.out _ _ (HSX.out _ (HBB.out _ (HB_46.out.trans ((alloc1 w_46 _).mono HB_46.out.size)))) (fun hH_50 => ?_)
                  have HB_50 := Lib.hid (HB_46.out.trans ((alloc1 w_46 (.cells #[.int .i64 d, .slice LA 1 lc] 54)).mono HB_46.out.size))
                  have N8_50 := Lib.hid (heap_alloc_new w_46 (.cells #[.int .i64 d, .slice LA 1 lc] 54))
                  have HO_50 := Lib.hid (own_below HO_46.out (alloc1 w_46 (.cells #[.int .i64 d, .slice LA 1 lc] 54)))
                  have NE_50 : Hid (w_46.heap.size ≠ gb_46) := Lib.hid (fun e => by have := S.own_lt HO_46.out gb_46 rfl; omega)
                  clear hK K hH_46 HB_46 HO_46
                  generalize w_46.alloc (.cells #[.int .i64 d, .slice LA 1 lc] 54) = w_50 at *
                  generalize w_46.heap.size = eb_50 at *
                  try simp only [Act.put, List.setIfInBounds_toArray, List.set_cons_zero, List.set_cons_succ]
                  refine wpAnyH_ready (rs := [3]) (by kernel_rfl) (by simp) ?_
                  refine AllReadyH.cons rfl (fun K hK => ?_) (AllReadyH.nil)
                  have HAT_51 := Lib.hid (HRAT.out w_50 ad HB_50.out rfl)
                  have hsz_51 : W4.heap.size ≤ w_50.heap.size := HB_50.out.size
                  refine step_append_lies _ (by rfl) (.tmp 88) (.tmp 90) 40 (by rfl) W4.heap.size 54 i0 _ 2 32 Try.underlying40 hi0 hz0 hz1 hz2 rfl (by decide) (.slice (some ⟨gb_46, 0, none⟩) 0 0) 0 [] (by rfl) HO_50.out ad qn xc (rawCells rsx) (by rfl) HRL.out HAT_51.out H1R.out (by omega) (by unfold maxLen; omega) (by omega) (by omega) _ rfl ?_
                  intro gc_51 cp_51 w_51 hown hgr hat hlt
                  simp only [Nat.zero_add, List.nil_append] at hown ⊢
                  refine hK.out _ _ (HSX.out _ (HBB.out _ (HB_50.out.grown hgr HB_50.out.size (fun q e => own_base HO_50.out q e)))) (fun hH_51 => ?_)
                  have HB_51 := Lib.hid (HB_50.out.grown hgr HB_50.out.size (fun q e => own_base HO_50.out q e))
                  have HO_51 := Lib.hid hown
                  have N8_51 := Lib.hid ((hgr.block _ (L.blk_lt N8_50.out) (fun e => by simp only [Value.ownBlock, Option.some.injEq] at e; exact NE_50.out e)).trans N8_50.out)
                  clear hK K hH_50 HB_50 HO_50 hown hgr hat hlt hsz_51 HAT_51 N8_50
                  try simp only [Act.put, List.setIfInBounds_toArray, List.set_cons_zero, List.set_cons_succ]
                  refine wpAnyH_ready (rs := [9]) (by kernel_rfl) (by simp) ?_
                  refine AllReadyH.cons rfl (fun K hK => ?_) (AllReadyH.nil)
                  have HNW_52 := Lib.hid (World.news_of_block N8_51.out)
                  have H1C_52 : Hid (∀ u ∈ ([.int .i64 d, .slice LA 1 lc] : List Value), u.oneCell' = true) := Lib.hid (by intro u hu; simp at hu; rcases hu with rfl | rfl <;> rfl)
                  have hsz_52 : W4.heap.size ≤ w_51.heap.size := HB_51.out.size
                  refine step_append_lies _ (by rfl) (.tmp 91) (.tmp 96) 40 (by rfl) W4.heap.size 54 i0 _ 2 32 Try.underlying40 hi0 hz0 hz1 hz2 rfl (by decide) (.slice (some ⟨gc_51, 0, none⟩) qn cp_51) qn (rawCells rsx) (by rfl) HO_51.out ⟨eb_50, 0, none⟩ 1 1 [.int .i64 d, .slice LA 1 lc] (by rfl) rfl HNW_52.out H1C_52.out (by omega) (by unfold maxLen; omega) (by omega) (by omega) _ rfl ?_
                  intro g9 cap9 w9 hown hgr hat hlt
                  refine hK.out _ _ (HSX.out _ (HBB.out _ (HB_51.out.grown hgr HB_51.out.size (fun q e => own_base HO_51.out q e)))) (fun hH_52 => ?_)
                  have HB9 := Lib.hid (HB_51.out.grown hgr HB_51.out.size (fun q e => own_base HO_51.out q e))
                  have HO9 := Lib.hid hown
                  clear hK K hH_51 HB_51 HO_51 hown hgr hat hlt hsz_52 HNW_52 H1C_52 N8_51
                  try simp only [Act.put, List.setIfInBounds_toArray, List.set_cons_zero, List.set_cons_succ]
                  refine wpAnyH_take (i := 10) (v := ?_) rfl (by kernel_rfl) (by kernel_rfl) (by kernel_rfl) (fun _ _ _ h => h) (Or.inl ⟨by rfl, ?_⟩) hH_52 ?_
                  rotate_left
                  · (intro wz hSz; (try dsimp only at hSz); go_simp; try with_reducible rfl)
                  try simp only [Act.put, List.setIfInBounds_toArray, List.set_cons_zero, List.set_cons_succ]
                  refine wpAnyH_ready (rs := [11]) (by kernel_rfl) (by simp) ?_
                  refine AllReadyH.cons rfl (fun K hK => ?_) AllReadyH.nil
                  obtain ⟨cx, cz⟩ := HBX.out w9 HB9.out
                  go_simp
                  refine hK.out _ _ (HSX.out _ ⟨(HBB.out _ HB9.out).b.setCell (p := ⟨xb, 4, none⟩) hbx4 _⟩) (fun hHf => ?_)
                  clear hK K hH_52 hHf cx cz
                  try simp only [Act.put, List.setIfInBounds_toArray, List.set_cons_zero, List.set_cons_succ]
                  refine wpAnyH_done (by kernel_rfl) ?_ _
                  go_wp2_with fail
                  go_meet
                  case rel => exact ⟨g9, cap9, w9, by first | rfl | (simp; done), HB9, by first | exact HO9 | exact Lib.hid (by simpa using HO9.out)⟩
              · go_simp
                refine hK.out _ _ (HSX.out _ (HBB.out _ (HBA.out.trans ((alloc1 wA _).mono HBA.out.size)))) (fun hH_53 => ?_)
                have HB_53 := Lib.hid (HBA.out.trans ((alloc1 wA (.cells #[.int .i64 d, .slice LA 1 lc] 54)).mono HBA.out.size))
                have N8_53 := Lib.hid (heap_alloc_new wA (.cells #[.int .i64 d, .slice LA 1 lc] 54))
                clear hK K hH_45 HBA
                generalize wA.alloc (.cells #[.int .i64 d, .slice LA 1 lc] 54) = w_53 at *
                generalize wA.heap.size = eb_53 at *
                try simp only [Act.put, List.setIfInBounds_toArray, List.set_cons_zero, List.set_cons_succ]
                refine wpAnyH_ready (rs := [0]) (by kernel_rfl) (by simp) ?_
                refine AllReadyH.cons rfl (fun K hK => ?_) (AllReadyH.nil)
                go_simp
                refine hK.out _ _ (HSX.out _ (HBB.out _ (HB_53.out.trans ((alloc1 w_53 _).mono HB_53.out.size)))) (fun hH_54 => ?_)
                have HB_54 := Lib.hid (HB_53.out.trans ((alloc1 w_53 (.cells #[] 54)).mono HB_53.out.size))
                have HO_54 : Hid ((w_53.alloc (.cells #[] 54)).ownsRow W4.heap.size 54 2 (.slice (some ⟨w_53.heap.size, 0, none⟩) 0 0) 0 []) := Lib.hid (V.own_base_le (World.ownsRow_made (size := 2) (e := 54) w_53 #[] 0 (Nat.le_refl _) (by unfold maxLen; omega) rfl) HB_53.out.size)
                have N8_54 := Lib.hid (((alloc1 w_53 (.cells #[] 54)).block _ (L.blk_lt N8_53.out)).trans N8_53.out)
                have NE_54 : Hid (eb_53 ≠ w_53.heap.size) := Lib.hid (Nat.ne_of_lt (L.blk_lt N8_53.out))
                clear hK K hH_53 HB_53 N8_53
                generalize w_53.alloc (.cells #[] 54) = w_54 at *
                generalize w_53.heap.size = gb_54 at *
                try simp only [Act.put, List.setIfInBounds_toArray, List.set_cons_zero, List.set_cons_succ]
                refine wpAnyH_ready (rs := [3]) (by kernel_rfl) (by simp) ?_
                refine AllReadyH.cons rfl (fun K hK => ?_) (AllReadyH.nil)
                have HAT_55 := Lib.hid (HRAT.out w_54 ad HB_54.out rfl)
                have hsz_55 : W4.heap.size ≤ w_54.heap.size := HB_54.out.size
                refine step_append_lies _ (by rfl) (.tmp 88) (.tmp 90) 40 (by rfl) W4.heap.size 54 i0 _ 2 32 Try.underlying40 hi0 hz0 hz1 hz2 rfl (by decide) (.slice (some ⟨gb_54, 0, none⟩) 0 0) 0 [] (by rfl) HO_54.out ad qn xc (rawCells rsx) (by rfl) HRL.out HAT_55.out H1R.out (by omega) (by unfold maxLen; omega) (by omega) (by omega) _ rfl ?_
                intro gc_55 cp_55 w_55 hown hgr hat hlt
                simp only [Nat.zero_add, List.nil_append] at hown ⊢
                refine hK.out _ _ (HSX.out _ (HBB.out _ (HB_54.out.grown hgr HB_54.out.size (fun q e => own_base HO_54.out q e)))) (fun hH_55 => ?_)
                have HB_55 := Lib.hid (HB_54.out.grown hgr HB_54.out.size (fun q e => own_base HO_54.out q e))
                have HO_55 := Lib.hid hown
                have N8_55 := Lib.hid ((hgr.block _ (L.blk_lt N8_54.out) (fun e => by simp only [Value.ownBlock, Option.some.injEq] at e; exact NE_54.out e)).trans N8_54.out)
                clear hK K hH_54 HB_54 HO_54 hown hgr hat hlt hsz_55 HAT_55 N8_54
                try simp only [Act.put, List.setIfInBounds_toArray, List.set_cons_zero, List.set_cons_succ]
                refine wpAnyH_ready (rs := [9]) (by kernel_rfl) (by simp) ?_
                refine AllReadyH.cons rfl (fun K hK => ?_) (AllReadyH.nil)
                have HNW_56 := Lib.hid (World.news_of_block N8_55.out)
                have H1C_56 : Hid (∀ u ∈ ([.int .i64 d, .slice LA 1 lc] : List Value), u.oneCell' = true) := Lib.hid (by intro u hu; simp at hu; rcases hu with rfl | rfl <;> rfl)
                have hsz_56 : W4.heap.size ≤ w_55.heap.size := HB_55.out.size
                refine step_append_lies _ (by rfl) (.tmp 91) (.tmp 96) 40 (by rfl) W4.heap.size 54 i0 _ 2 32 Try.underlying40 hi0 hz0 hz1 hz2 rfl (by decide) (.slice (some ⟨gc_55, 0, none⟩) qn cp_55) qn (rawCells rsx) (by rfl) HO_55.out ⟨eb_53, 0, none⟩ 1 1 [.int .i64 d, .slice LA 1 lc] (by rfl) rfl HNW_56.out H1C_56.out (by omega) (by unfold maxLen; omega) (by omega) (by omega) _ rfl ?_
                intro g9 cap9 w9 hown hgr hat hlt
                refine hK.out _ _ (HSX.out _ (HBB.out _ (HB_55.out.grown hgr HB_55.out.size (fun q e => own_base HO_55.out q e)))) (fun hH_56 => ?_)
                have HB9 := Lib.hid (HB_55.out.grown hgr HB_55.out.size (fun q e => own_base HO_55.out q e))
                have HO9 := Lib.hid hown
                clear hK K hH_55 HB_55 HO_55 hown hgr hat hlt hsz_56 HNW_56 H1C_56 N8_55
                try simp only [Act.put, List.setIfInBounds_toArray, List.set_cons_zero, List.set_cons_succ]
                refine wpAnyH_take (i := 10) (v := ?_) rfl (by kernel_rfl) (by kernel_rfl) (by kernel_rfl) (fun _ _ _ h => h) (Or.inl ⟨by rfl, ?_⟩) hH_56 ?_
                rotate_left
                · (intro wz hSz; (try dsimp only at hSz); go_simp; try with_reducible rfl)
                try simp only [Act.put, List.setIfInBounds_toArray, List.set_cons_zero, List.set_cons_succ]
                refine wpAnyH_ready (rs := [11]) (by kernel_rfl) (by simp) ?_
                refine AllReadyH.cons rfl (fun K hK => ?_) AllReadyH.nil
                obtain ⟨cx, cz⟩ := HBX.out w9 HB9.out
                go_simp
                refine hK.out _ _ (HSX.out _ ⟨(HBB.out _ HB9.out).b.setCell (p := ⟨xb, 4, none⟩) hbx4 _⟩) (fun hHf => ?_)
                clear hK K hH_56 hHf cx cz
                try simp only [Act.put, List.setIfInBounds_toArray, List.set_cons_zero, List.set_cons_succ]
                refine wpAnyH_done (by kernel_rfl) ?_ _
                go_wp2_with fail
                go_meet
                case rel => exact ⟨g9, cap9, w9, by first | rfl | (simp; done), HB9, by first | exact HO9 | exact Lib.hid (by simpa using HO9.out)⟩
            · go_simp
              refine hK.out _ _ (HSX.out _ (HBB.out _ (HBA.out.trans ((alloc1 wA _).mono HBA.out.size)))) (fun hH_57 => ?_)
              have HB_57 := Lib.hid (HBA.out.trans ((alloc1 wA (.cells #[.int .i64 d, .slice LA 1 lc] 54)).mono HBA.out.size))
              have N8_57 := Lib.hid (heap_alloc_new wA (.cells #[.int .i64 d, .slice LA 1 lc] 54))
              clear hK K hH0 HBA
              generalize wA.alloc (.cells #[.int .i64 d, .slice LA 1 lc] 54) = w_57 at *
              generalize wA.heap.size = eb_57 at *
              try simp only [Act.put, List.setIfInBounds_toArray, List.set_cons_zero, List.set_cons_succ]
              refine wpAnyH_ready (rs := [0, 2]) (by kernel_rfl) (by simp) ?_
              refine AllReadyH.cons rfl (fun K hK => ?_) (AllReadyH.cons rfl (fun K hK => ?_) (AllReadyH.nil))
              · go_simp
                refine hK.out _ _ (HSX.out _ (HBB.out _ (HB_57.out.trans ((alloc1 w_57 _).mono HB_57.out.size)))) (fun hH_58 => ?_)
                have HB_58 := Lib.hid (HB_57.out.trans ((alloc1 w_57 (.cells #[] 54)).mono HB_57.out.size))
                have HO_58 : Hid ((w_57.alloc (.cells #[] 54)).ownsRow W4.heap.size 54 2 (.slice (some ⟨w_57.heap.size, 0, none⟩) 0 0) 0 []) := Lib.hid (V.own_base_le (World.ownsRow_made (size := 2) (e := 54) w_57 #[] 0 (Nat.le_refl _) (by unfold maxLen; omega) rfl) HB_57.out.size)
                have N8_58 := Lib.hid (((alloc1 w_57 (.cells #[] 54)).block _ (L.blk_lt N8_57.out)).trans N8_57.out)
                have NE_58 : Hid (eb_57 ≠ w_57.heap.size) := Lib.hid (Nat.ne_of_lt (L.blk_lt N8_57.out))
                clear hK K hH_57 HB_57 N8_57
                generalize w_57.alloc (.cells #[] 54) = w_58 at *
                generalize w_57.heap.size = gb_58 at *
                try simp only [Act.put, List.setIfInBounds_toArray, List.set_cons_zero, List.set_cons_succ]
                refine wpAnyH_ready (rs := [2]) (by kernel_rfl) (by simp) ?_
                refine AllReadyH.cons rfl (fun K hK => ?_) (AllReadyH.nil)
                obtain ⟨cx, _⟩ := HBX.out w_58 HB_58.out
                go_simp
                refine hK.out _ _ (HSX.out _ (HBB.out _ HB_58.out)) (fun hH_59 => ?_)
                clear hK K hH_58 cx
                try simp only [Act.put, List.setIfInBounds_toArray, List.set_cons_zero, List.set_cons_succ]
                refine wpAnyH_ready (rs := [3]) (by kernel_rfl) (by simp) ?_
                refine AllReadyH.cons rfl (fun K hK => ?_) (AllReadyH.nil)
                have HAT_60 := Lib.hid (HRAT.out w_58 ad HB_58.out rfl)
                have hsz_60 : W4.heap.size ≤ w_58.heap.size := HB_58.out.size
                refine step_append_lies _ (by rfl) (.tmp 88) (.tmp 90) 40 (by rfl) W4.heap.size 54 i0 _ 2 32 Try.underlying40 hi0 hz0 hz1 hz2 rfl (by decide) (.slice (some ⟨gb_58, 0, none⟩) 0 0) 0 [] (by rfl) HO_58.out ad qn xc (rawCells rsx) (by rfl) HRL.out HAT_60.out H1R.out (by omega) (by unfold maxLen; omega) (by omega) (by omega) _ rfl ?_
                intro gc_60 cp_60 w_60 hown hgr hat hlt
                simp only [Nat.zero_add, List.nil_append] at hown ⊢
                refine hK.out _ _ (HSX.out _ (HBB.out _ (HB_58.out.grown hgr HB_58.out.size (fun q e => own_base HO_58.out q e)))) (fun hH_60 => ?_)
                have HB_60 := Lib.hid (HB_58.out.grown hgr HB_58.out.size (fun q e => own_base HO_58.out q e))
                have HO_60 := Lib.hid hown
                have N8_60 := Lib.hid ((hgr.block _ (L.blk_lt N8_58.out) (fun e => by simp only [Value.ownBlock, Option.some.injEq] at e; exact NE_58.out e)).trans N8_58.out)
                clear hK K hH_59 HB_58 HO_58 hown hgr hat hlt hsz_60 HAT_60 N8_58
                try simp only [Act.put, List.setIfInBounds_toArray, List.set_cons_zero, List.set_cons_succ]
                refine wpAnyH_ready (rs := [9]) (by kernel_rfl) (by simp) ?_
                refine AllReadyH.cons rfl (fun K hK => ?_) (AllReadyH.nil)
                have HNW_61 := Lib.hid (World.news_of_block N8_60.out)
                have H1C_61 : Hid (∀ u ∈ ([.int .i64 d, .slice LA 1 lc] : List Value), u.oneCell' = true) := Lib.hid (by intro u hu; simp at hu; rcases hu with rfl | rfl <;> rfl)
                have hsz_61 : W4.heap.size ≤ w_60.heap.size := HB_60.out.size
                refine step_append_lies _ (by rfl) (.tmp 91) (.tmp 96) 40 (by rfl) W4.heap.size 54 i0 _ 2 32 Try.underlying40 hi0 hz0 hz1 hz2 rfl (by decide) (.slice (some ⟨gc_60, 0, none⟩) qn cp_60) qn (rawCells rsx) (by rfl) HO_60.out ⟨eb_57, 0, none⟩ 1 1 [.int .i64 d, .slice LA 1 lc] (by rfl) rfl HNW_61.out H1C_61.out (by omega) (by unfold maxLen; omega) (by omega) (by omega) _ rfl ?_
                intro g9 cap9 w9 hown hgr hat hlt
                refine hK.out _ _ (HSX.out _ (HBB.out _ (HB_60.out.grown hgr HB_60.out.size (fun q e => own_base HO_60.out q e)))) (fun hH_61 => ?_)
                have HB9 := Lib.hid (HB_60.out.grown hgr HB_60.out.size (fun q e => own_base HO_60.out q e))
                have HO9 := Lib.hid hown
                clear hK K hH_60 HB_60 HO_60 hown hgr hat hlt hsz_61 HNW_61 H1C_61 N8_60
                try simp only [Act.put, List.setIfInBounds_toArray, List.set_cons_zero, List.set_cons_succ]
                refine wpAnyH_take (i := 10) (v := ?_) rfl (by kernel_rfl) (by kernel_rfl) (by kernel_rfl) (fun _ _ _ h => h) (Or.inl ⟨by rfl, ?_⟩) hH_61 ?_
                rotate_left
                · (intro wz hSz; (try dsimp only at hSz); go_simp; try with_reducible rfl)
                try simp only [Act.put, List.setIfInBounds_toArray, List.set_cons_zero, List.set_cons_succ]
                refine wpAnyH_ready (rs := [11]) (by kernel_rfl) (by simp) ?_
                refine AllReadyH.cons rfl (fun K hK => ?_) AllReadyH.nil
                obtain ⟨cx, cz⟩ := HBX.out w9 HB9.out
                go_simp
                refine hK.out _ _ (HSX.out _ ⟨(HBB.out _ HB9.out).b.setCell (p := ⟨xb, 4, none⟩) hbx4 _⟩) (fun hHf => ?_)
                clear hK K hH_61 hHf cx cz
                try simp only [Act.put, List.setIfInBounds_toArray, List.set_cons_zero, List.set_cons_succ]
                refine wpAnyH_done (by kernel_rfl) ?_ _
                go_wp2_with fail
                go_meet
                case rel => exact ⟨g9, cap9, w9, by first | rfl | (simp; done), HB9, by first | exact HO9 | exact Lib.hid (by simpa using HO9.out)⟩
              · obtain ⟨cx, _⟩ := HBX.out w_57 HB_57.out
                go_simp
                refine hK.out _ _ (HSX.out _ (HBB.out _ HB_57.out)) (fun hH_62 => ?_)
                clear hK K hH_57 cx
                try simp only [Act.put, List.setIfInBounds_toArray, List.set_cons_zero, List.set_cons_succ]
                refine wpAnyH_ready (rs := [0]) (by kernel_rfl) (by simp) ?_
                refine AllReadyH.cons rfl (fun K hK => ?_) (AllReadyH.nil)
                go_simp
                refine hK.out _ _ (HSX.out _ (HBB.out _ (HB_57.out.trans ((alloc1 w_57 _).mono HB_57.out.size)))) (fun hH_63 => ?_)
                have HB_63 := Lib.hid (HB_57.out.trans ((alloc1 w_57 (.cells #[] 54)).mono HB_57.out.size))
                have HO_63 : Hid ((w_57.alloc (.cells #[] 54)).ownsRow W4.heap.size 54 2 (.slice (some ⟨w_57.heap.size, 0, none⟩) 0 0) 0 []) := Lib.hid (V.own_base_le (World.ownsRow_made (size := 2) (e := 54) w_57 #[] 0 (Nat.le_refl _) (by unfold maxLen; omega) rfl) HB_57.out.size)
                have N8_63 := Lib.hid (((alloc1 w_57 (.cells #[] 54)).block _ (L.blk_lt N8_57.out)).trans N8_57.out)
                have NE_63 : Hid (eb_57 ≠ w_57.heap.size) := Lib.hid (Nat.ne_of_lt (L.blk_lt N8_57.out))
                clear hK K hH_62 HB_57 N8_57
                generalize w_57.alloc (.cells #[] 54) = w_63 at *
                generalize w_57.heap.size = gb_63 at *
                try simp only [Act.put, List.setIfInBounds_toArray, List.set_cons_zero, List.set_cons_succ]
                refine wpAnyH_ready (rs := [3]) (by kernel_rfl) (by simp) ?_
                refine AllReadyH.cons rfl (fun K hK => ?_) (AllReadyH.nil)
                have HAT_64 := Lib.hid (HRAT.out w_63 ad HB_63.out rfl)
                have hsz_64 : W4.heap.size ≤ w_63.heap.size := HB_63.out.size
                refine step_append_lies _ (by rfl) (.tmp 88) (.tmp 90) 40 (by rfl) W4.heap.size 54 i0 _ 2 32 Try.underlying40 hi0 hz0 hz1 hz2 rfl (by decide) (.slice (some ⟨gb_63, 0, none⟩) 0 0) 0 [] (by rfl) HO_63.out ad qn xc (rawCells rsx) (by rfl) HRL.out HAT_64.out H1R.out (by omega) (by unfold maxLen; omega) (by omega) (by omega) _ rfl ?_
                intro gc_64 cp_64 w_64 hown hgr hat hlt
                simp only [Nat.zero_add, List.nil_append] at hown ⊢
                refine hK.out _ _ (HSX.out _ (HBB.out _ (HB_63.out.grown hgr HB_63.out.size (fun q e => own_base HO_63.out q e)))) (fun hH_64 => ?_)
                have HB_64 := Lib.hid (HB_63.out.grown hgr HB_63.out.size (fun q e => own_base HO_63.out q e))
                have HO_64 := Lib.hid hown
                have N8_64 := Lib.hid ((hgr.block _ (L.blk_lt N8_63.out) (fun e => by simp only [Value.ownBlock, Option.some.injEq] at e; exact NE_63.out e)).trans N8_63.out)
                clear hK K hH_63 HB_63 HO_63 hown hgr hat hlt hsz_64 HAT_64 N8_63
                try simp only [Act.put, List.setIfInBounds_toArray, List.set_cons_zero, List.set_cons_succ]
                refine wpAnyH_ready (rs := [9]) (by kernel_rfl) (by simp) ?_
                refine AllReadyH.cons rfl (fun K hK => ?_) (AllReadyH.nil)
                have HNW_65 := Lib.hid (World.news_of_block N8_64.out)
                have H1C_65 : Hid (∀ u ∈ ([.int .i64 d, .slice LA 1 lc] : List Value), u.oneCell' = true) := Lib.hid (by intro u hu; simp at hu; rcases hu with rfl | rfl <;> rfl)
                have hsz_65 : W4.heap.size ≤ w_64.heap.size := HB_64.out.size
                refine step_append_lies _ (by rfl) (.tmp 91) (.tmp 96) 40 (by rfl) W4.heap.size 54 i0 _ 2 32 Try.underlying40 hi0 hz0 hz1 hz2 rfl (by decide) (.slice (some ⟨gc_64, 0, none⟩) qn cp_64) qn (rawCells rsx) (by rfl) HO_64.out ⟨eb_57, 0, none⟩ 1 1 [.int .i64 d, .slice LA 1 lc] (by rfl) rfl HNW_65.out H1C_65.out (by omega) (by unfold maxLen; omega) (by omega) (by omega) _ rfl ?_
                intro g9 cap9 w9 hown hgr hat hlt
                refine hK.out _ _ (HSX.out _ (HBB.out _ (HB_64.out.grown hgr HB_64.out.size (fun q e => own_base HO_64.out q e)))) (fun hH_65 => ?_)
                have HB9 := Lib.hid (HB_64.out.grown hgr HB_64.out.size (fun q e => own_base HO_64.out q e))
                have HO9 := Lib.hid hown
                clear hK K hH_64 HB_64 HO_64 hown hgr hat hlt hsz_65 HNW_65 H1C_65 N8_64
                try simp only [Act.put, List.setIfInBounds_toArray, List.set_cons_zero, List.set_cons_succ]
                refine wpAnyH_take (i := 10) (v := ?_) rfl (by kernel_rfl) (by kernel_rfl) (by kernel_rfl) (fun _ _ _ h => h) (Or.inl ⟨by rfl, ?_⟩) hH_65 ?_
                rotate_left
                · (intro wz hSz; (try dsimp only at hSz); go_simp; try with_reducible rfl)
                try simp only [Act.put, List.setIfInBounds_toArray, List.set_cons_zero, List.set_cons_succ]
                refine wpAnyH_ready (rs := [11]) (by kernel_rfl) (by simp) ?_
                refine AllReadyH.cons rfl (fun K hK => ?_) AllReadyH.nil
                obtain ⟨cx, cz⟩ := HBX.out w9 HB9.out
                go_simp
                refine hK.out _ _ (HSX.out _ ⟨(HBB.out _ HB9.out).b.setCell (p := ⟨xb, 4, none⟩) hbx4 _⟩) (fun hHf => ?_)
                clear hK K hH_65 hHf cx cz
                try simp only [Act.put, List.setIfInBounds_toArray, List.set_cons_zero, List.set_cons_succ]
                refine wpAnyH_done (by kernel_rfl) ?_ _
                go_wp2_with fail
                go_meet
                case rel => exact ⟨g9, cap9, w9, by first | rfl | (simp; done), HB9, by first | exact HO9 | exact Lib.hid (by simpa using HO9.out)⟩
        case rest =>
        obtain ⟨g9, cap9, w9, hw9, HB9, HO9⟩ := hcut
        have HX9 : Hid (w9.heap[xb]? = some (hkC oa ho na nn XA qn xc)) := Lib.hid ((HB9.out.block _ (L.blk_lt HX4.out)).trans HX4.out)
        have HH9 := Lib.hid (HH4.out.below HB9.out)
        have hbx1 : w1.heap.size ≤ xb := by omega
        have HH5 := Lib.hid (HH9.out.setX HX9.out HNX.out hbx1 4 (.slice (some ⟨g9, 0, none⟩) (qn + 1) cap9))
        have HO5 := Lib.hid (V.own_base_le (V.own_stored (i := 4) (u := .slice (some ⟨g9, 0, none⟩) (qn + 1) cap9) HO9.out HX9.out (by decide)) HH4.out.hs)
        have HX5 : Hid ((w9.setCell ⟨xb, 4, none⟩ (.slice (some ⟨g9, 0, none⟩) (qn + 1) cap9)).heap[xb]? = some (hkC oa ho na nn (some ⟨g9, 0, none⟩) (qn + 1) cap9)) := Lib.hid (L.blk_set HX9.out 4 _)
        have HAP : Hid (∀ y ∈ ys', ∀ k, y.v.ownBlock = some k → k ≠ g9) := Lib.hid (fun y hy k hk e => by
          have h1 := S.own_lt (HH4.out.ok y (List.mem_append_left _ hy)).r k hk
          have h2 := own_base HO9.out g9 rfl
          omega)
        rw [← hw9] at HH5 HO5 HX5
        clear hw9 HB9 HO9 HX9 HH9 HH4 HX4 HM5
        generalize wc = w5 at *
        have hdO := dO_le d
        have hdN := dN_le d
        have hab1 := hab.1
        have hab2 := hab.2
        obtain ⟨oz, hoz⟩ : ∃ z : Int, z = ((a + dO d : Nat) : Int) - oa := ⟨_, rfl⟩
        obtain ⟨nz, hnz⟩ : ∃ z : Int, z = ((b + dN d : Nat) : Int) - na := ⟨_, rfl⟩
        have hwo : IntKind.i64.wrap ((a : Int) + (dO d : Int) - oa) = oz := by rw [IntKind.wrap_i64, hoz]; omega
        have hwn : IntKind.i64.wrap ((b : Int) + (dN d : Int) - na) = nz := by rw [IntKind.wrap_i64, hnz]; omega
        have HOZ := Lib.hid hoz
        have HNZ := Lib.hid hnz
        clear hoz hnz
        obtain ⟨x0, x1, x2, x3, x4⟩ := hkC_cells HX5.out
        have f0 := fun i => L.blk_free HX5.out i
        go_upto_region 26 with fail
        have HH6 := Lib.hid (HH5.out.setX HX5.out HNX.out hbx1 1 (.int .i64 oz))
        have HO6 := Lib.hid (V.own_stored (i := 1) (u := .int .i64 oz) HO5.out HX5.out (by decide))
        have HX6 : Hid ((w5.setCell ⟨xb, 1, none⟩ (.int .i64 oz)).heap[xb]? = some (hkC oa oz na nn (some ⟨g9, 0, none⟩) (qn + 1) cap9)) := Lib.hid (L.blk_set HX5.out 1 _)
        clear x0 x1 x2 x3 x4 f0 HH5 HO5 HX5
        generalize w5.setCell ⟨xb, 1, none⟩ (.int .i64 oz) = w6 at *
        obtain ⟨x0, x1, x2, x3, x4⟩ := hkC_cells HX6.out
        have f0 := fun i => L.blk_free HX6.out i
        go_upto_region 27 with fail
        have HH7 := Lib.hid (HH6.out.setX HX6.out HNX.out hbx1 3 (.int .i64 nz))
        have HO7 := Lib.hid (V.own_stored (i := 3) (u := .int .i64 nz) HO6.out HX6.out (by decide))
        have HX7 : Hid ((w6.setCell ⟨xb, 3, none⟩ (.int .i64 nz)).heap[xb]? = some (hkC oa oz na nz (some ⟨g9, 0, none⟩) (qn + 1) cap9)) := Lib.hid (L.blk_set HX6.out 3 _)
        clear x0 x1 x2 x3 x4 f0 HH6 HO6 HX6
        generalize w6.setCell ⟨xb, 3, none⟩ (.int .i64 nz) = w7 at *
        obtain ⟨x0, x1, x2, x3, x4⟩ := hkC_cells HX7.out
        have HLC := Lib.hid HH7.out.last
        rw [← HM.out] at HLC
        have y0 := HLC.out.1 0 (by omega)
        have y1 := HLC.out.1 1 (by omega)
        have y2 := HLC.out.1 2 (by omega)
        have y3 := HLC.out.1 3 (by omega)
        have y4 := HLC.out.1 4 (by omega)
        replace y0 : w7.cell? ⟨g, m * 5, none⟩ = some (.int .i64 oa) := y0
        replace y1 : w7.cell? ⟨g, m * 5 + 1, none⟩ = some (.int .i64 ho) := y1
        replace y2 : w7.cell? ⟨g, m * 5 + 2, none⟩ = some (.int .i64 na) := y2
        replace y3 : w7.cell? ⟨g, m * 5 + 3, none⟩ = some (.int .i64 nn) := y3
        replace y4 : w7.cell? ⟨g, m * 5 + 4, none⟩ = some (.slice XA rsx.length xc) := y4
        have f1 := HLC.out.2
        obtain ⟨x', hx'⟩ : ∃ x' : Hr, x' = ⟨⟨oa, ((a + dO d : Nat) : Int) - oa, na, ((b + dN d : Nat) : Int) - na, xe ++ [sng (d, y)]⟩, some ⟨g9, 0, none⟩, cap9, rsx ++ [⟨d, LA, 1, lc⟩]⟩ := ⟨_, rfl⟩
        have hlen : (ys' ++ [x']).length = n1 := by rw [HN1.out, HM.out]; simp
        have HREN : Hid (Hs w1 (((((w7.setCell ⟨g, m * 5 + 0, none⟩ (.int .i64 oa)).setCell ⟨g, m * 5 + 1, none⟩ (.int .i64 oz)).setCell ⟨g, m * 5 + 2, none⟩ (.int .i64 na)).setCell ⟨g, m * 5 + 3, none⟩ (.int .i64 nz)).setCell ⟨g, m * 5 + 4, none⟩ (.slice (some ⟨g9, 0, none⟩) (qn + 1) cap9)) w1.heap.size (.slice (some ⟨g, 0, none⟩) n1 bcap) (ys' ++ [x'])) := Lib.hid (by
          have hrl : (rsx ++ [(⟨d, LA, 1, lc⟩ : Raw)]).length = qn + 1 := by rw [HQN.out]; simp
          have hx0 : w7.ownsRow w1.heap.size 54 2 x'.v x'.rs.length (rawCells x'.rs) := by
            subst hx'
            unfold Hr.v
            simp only
            rw [hrl, rawCells_app]
            exact HO7.out
          have h := Hs.renew (x' := x') HH7.out hx0 (by subst hx'; exact HRX.out.snoc HRO2.out) (fun z hz k hk hk' => by
            subst hx'
            exact HAP.out z hz k hk (Option.some.inj hk').symm)
          subst hx'
          unfold Hr.v at h
          simp only at h
          rw [hrl, ← HM.out] at h
          rw [HOZ.out, HNZ.out]
          exact h)
        have HRF : Hid (RInv cN F (i + 1) true (a + dO d) (b + dN d) ((ys' ++ [x']).map (·.h)) RES) := Lib.hid (by
          rw [List.map_append, hys, hx']
          exact HRV.out)
        have HZN : Hid (Hz (ys' ++ [x'])) := Lib.hid (HZF.out.add (Or.inr (by rw [hx']; simp)))
        rw [← hlen] at HREN
        have HLEN := Lib.hid hlen
        clear hx' HX7 HH7 HO7 HLC HRV HZF HAP HRX HRO2 hlen
        go_wp2_with fail
        go_roundg (fn - (i + 1))
        case rel => exact ⟨i + 1, a + dO d, b + dN d, true, some ⟨g, 0, none⟩, bcap, ys' ++ [x'], by omega, by go_num, by rw [HLEN.out], rfl, rfl, rfl, Nat.le_refl _, HREN, HRF, HZN⟩
        case measure => omega
    · obtain rfl : i = fn := by omega
      have HXR : Hid (xs.map (·.h) = RES) := Lib.hid (by
        have h := HI.out.run
        rw [List.drop_of_length_le (by have := HFN.out; omega)] at h
        exact h)
      have HXN : Hid (∀ x ∈ xs, x.h.es ≠ [] ∧ ∀ e ∈ x.h.es, e.2 ≠ []) := Lib.hid (fun x hx => by
        have h := HOKX.out x.h (by rw [← HXR.out]; exact List.mem_map_of_mem hx)
        refine ⟨fun e => h.2.1 (by rw [e]; unfold nrm; split <;> rfl), h.2.2.2⟩)
      obtain ⟨rn, hrn⟩ : ∃ rn, rn = xs.length := ⟨_, rfl⟩
      have hrR : rn = RES.length := by rw [hrn, ← HXR.out, List.length_map]
      have HRN := Lib.hid hrR
      have hrl : rn ≤ 800 := by have := HI.out.len; rw [List.length_map] at this; omega
      have HQ0 := Lib.hid (HH.out.reads HXN.out)
      rw [← hrn] at HQ0
      have HM0 : Hid ((xs.map fun x => (⟨x.h, x.A, x.c⟩ : Hq)).map (·.h) = (RES.take 0).map nH ++ RES.drop 0) := Lib.hid (by
        rw [List.map_map]
        exact HXR.out)
      rw [← hrn]
      generalize (xs.map fun x => (⟨x.h, x.A, x.c⟩ : Hq)) = qs0 at *
      clear hrn hrR HXN HXR HH HI HZ HR1 HAT1 HES HSL hlt hmm HFF HFN hi
      generalize wr = w4 at *
      go_wp2_with fail
      go_loopg [16] rn (fun m iv wr => ∃ (j : Nat) (qs : List Hq), j ≤ rn ∧ iv = .int .i64 j ∧ rn - j ≤ m ∧ Hid (Hqs w1 wr w1.heap.size (.slice OA rn ocap) qs) ∧ Hid (qs.map (·.h) = (RES.take j).map nH ++ RES.drop j))
      case atStart => exact ⟨0, qs0, Nat.zero_le _, rfl, by omega, HQ0, HM0⟩
      case round =>
        clear HQ0 HM0
        obtain ⟨j, qs, hj, rfl, hmm, HQ, HMM⟩ := hrel
        by_cases hlt : j < rn
        · have hjR : j < RES.length := by rw [← HRN.out]; exact hlt
          have hjq : j < qs.length := by rw [half_len HMM.out]; exact hjR
          have h0j : (0 : Int) ≤ (j : Int) := by omega
          have hjn : (j : Int) < (rn : Int) := by omega
          have hqe := half_at HMM.out hjR hjq
          obtain ⟨hok, hnn, hck, -⟩ := HOKX.out RES[j] (List.getElem_mem hjR)
          have HRD := Lib.hid (HQ.out.rd qs[j] (List.getElem_mem hjq))
          have HST := Lib.hid (fun (z : Hq) hz => half_step HMM.out hjR (z := z) hz)
          have how := HQ.out.own
          rw [half_len HMM.out, ← HRN.out] at how
          obtain ⟨g, hg, -, -, -⟩ := own_at how (by omega)
          clear how
          subst hg
          have HAT := Lib.hid (HQ.out.at j hjq)
          have HQJ : Hid (∀ W, Hqs w1 W w1.heap.size (.slice (some ⟨g, 0, none⟩) rn ocap) qs → ∀ z : Hq, Rd W z → z.h = nH RES[j] → Hqs w1 (((((W.setCell ⟨g, j * 5 + 0, none⟩ (.int .i64 z.h.oa)).setCell ⟨g, j * 5 + 1, none⟩ (.int .i64 z.h.o)).setCell ⟨g, j * 5 + 2, none⟩ (.int .i64 z.h.na)).setCell ⟨g, j * 5 + 3, none⟩ (.int .i64 z.h.n)).setCell ⟨g, j * 5 + 4, none⟩ (.slice z.A z.h.es.length z.c)) w1.heap.size (.slice (some ⟨g, 0, none⟩) rn ocap) (qs.set j z)) := Lib.hid (fun W hW z hz he => hW.renew j hjq hz (by rw [he, hqe]; rfl) (by rw [he, hqe]; rfl) (by rw [he, hqe]; rfl) (by rw [he, hqe]; rfl))
          have HW5 : Hid (∀ W, Hqs w1 W w1.heap.size (.slice (some ⟨g, 0, none⟩) rn ocap) qs → (∀ k, k < 5 → W.cell? ⟨g, j * 5 + k, none⟩ = (hqCell qs[j])[k]?) ∧ (∀ k, W.frozen? ⟨g, k, none⟩ = false) ∧ g < W.heap.size ∧ w1.heap.size ≤ g) := Lib.hid (fun W hW => hW.at j hjq)
          obtain ⟨q, hq⟩ : ∃ q, q = qs[j]'hjq := ⟨_, rfl⟩
          rw [← hq] at hqe HRD HAT HW5
          obtain ⟨h, QA, qc⟩ := q
          simp only at hqe
          subst hqe
          generalize RES[j] = h at *
          obtain ⟨oa, ho, na, nn, xe⟩ := h
          simp only at hok hnn hck HAT
          have HOK := Lib.hid hok
          have HNN := Lib.hid hnn
          have HCK := Lib.hid hck
          clear hok hnn hck hq hjq
          have c0 : wr.cell? ⟨g, j * 5, none⟩ = some (.int .i64 oa) := HAT.out.1 0 (by omega)
          have c1 : wr.cell? ⟨g, j * 5 + 1, none⟩ = some (.int .i64 ho) := HAT.out.1 1 (by omega)
          have c2 : wr.cell? ⟨g, j * 5 + 2, none⟩ = some (.int .i64 na) := HAT.out.1 2 (by omega)
          have c3 : wr.cell? ⟨g, j * 5 + 3, none⟩ = some (.int .i64 nn) := HAT.out.1 3 (by omega)
          have c4 : wr.cell? ⟨g, j * 5 + 4, none⟩ = some (.slice QA xe.length qc) := HAT.out.1 4 (by omega)
          obtain ⟨W4, hW4⟩ : ∃ W : World, W = wr.alloc (hkC oa ho na nn QA xe.length qc) := ⟨_, rfl⟩
          have hX4 := heap_alloc_new wr (hkC oa ho na nn QA xe.length qc)
          rw [← hW4] at hX4
          have hb4 : Below wr.heap.size wr W4 := by rw [hW4]; exact alloc1 _ _
          have HB4 := Lib.hid hb4
          have HX4 := Lib.hid hX4
          have HC4 := Lib.hid (rnormal_cap QA qc 0 xe W4 ((HRD.out.below hb4).e) HOK.out HCK.out)
          clear hX4 hb4 HAT
          go_upto_region 32 with fail
          rw [← hW4]
          obtain ⟨xb, hxb⟩ : ∃ xb, xb = wr.heap.size := ⟨_, rfl⟩
          have HXB := Lib.hid hxb
          rw [← hxb] at HX4 ⊢
          clear hW4 hxb c0 c1 c2 c3 c4
          obtain ⟨x0, x1, x2, x3, x4⟩ := hkC_cells HX4.out
          go_wp2_with fail
          with_reducible refine (HC4.out).mono ?_
          rintro e w5 ⟨NB, nc, rfl, hE5, hc5, hb5⟩
          have hX5 := (hb5.block _ (L.blk_lt HX4.out)).trans HX4.out
          have HX5 := Lib.hid hX5
          have HB5 := Lib.hid (HB4.out.trans (hb5.mono HB4.out.size))
          have HRD5 := Lib.hid (HRD.out.below HB5.out)
          have hne : nrm xe = norm xe := by unfold nrm; rw [if_pos HCK.out]
          have HZ5 : Hid (Rd w5 ⟨⟨oa, ho, na, nn, norm xe⟩, NB, nc⟩) := Lib.hid ⟨hE5, by rw [← hne]; exact HNN.out, by rw [← hne]; exact nfc_full (nf_nrm xe), hc5⟩
          have HNE := Lib.hid hne
          clear x0 x1 x2 x3 x4 HX4 HC4 hE5 hc5 hb5 hX5 hne HB4 HRD
          obtain ⟨x0, x1, x2, x3, x4⟩ := hkC_cells HX5.out
          have f0 := fun i => L.blk_free HX5.out i
          go_upto_region 33 with fail
          have HX6 : Hid ((w5.setCell ⟨xb, 4, none⟩ (.slice NB (norm xe).length nc)).heap[xb]? = some (hkC oa ho na nn NB (norm xe).length nc)) := Lib.hid (L.blk_set HX5.out 4 _)
          have HZ6 := Lib.hid (HZ5.out.box HX5.out HRD5.out (p := 4) (by omega) (.slice NB (norm xe).length nc))
          have HQ6 := Lib.hid (HQ.out.below (HB5.out.setCell (p := ⟨xb, 4, none⟩) (by rw [HXB.out]; exact Nat.le_refl _) (.slice NB (norm xe).length nc)))
          clear x0 x1 x2 x3 x4 f0 HX5 HZ5 HRD5 HB5 HXB
          generalize w5.setCell ⟨xb, 4, none⟩ (.slice NB (norm xe).length nc) = w6 at *
          obtain ⟨x0, x1, x2, x3, x4⟩ := hkC_cells HX6.out
          have HA6 := Lib.hid (HW5.out w6 HQ6.out)
          have y0 : w6.cell? ⟨g, j * 5, none⟩ = some (.int .i64 oa) := HA6.out.1 0 (by omega)
          have y1 : w6.cell? ⟨g, j * 5 + 1, none⟩ = some (.int .i64 ho) := HA6.out.1 1 (by omega)
          have y2 : w6.cell? ⟨g, j * 5 + 2, none⟩ = some (.int .i64 na) := HA6.out.1 2 (by omega)
          have y3 : w6.cell? ⟨g, j * 5 + 3, none⟩ = some (.int .i64 nn) := HA6.out.1 3 (by omega)
          have y4 : w6.cell? ⟨g, j * 5 + 4, none⟩ = some (.slice QA xe.length qc) := HA6.out.1 4 (by omega)
          have f1 := HA6.out.2.1
          have HQF := Lib.hid (HQJ.out w6 HQ6.out ⟨⟨oa, ho, na, nn, norm xe⟩, NB, nc⟩ HZ6.out (by unfold nH; rw [HNE.out]))
          have HMF := Lib.hid (HST.out ⟨⟨oa, ho, na, nn, norm xe⟩, NB, nc⟩ (by unfold nH; rw [HNE.out]))
          clear HX6 HZ6 HQ6 HA6 HQJ HST HW5 HNE HOK HNN HCK HQ HMM
          go_wp2_with fail
          go_roundg (rn - (j + 1))
          case rel => exact ⟨j + 1, qs.set j ⟨⟨oa, ho, na, nn, norm xe⟩, NB, nc⟩, by omega, by go_num, Nat.le_refl _, HQF, HMF⟩
          case measure => omega
        · obtain rfl : j = rn := by omega
          have HEND : Hid (qs.map (·.h) = rbld cN N) := Lib.hid (by
            rw [HMM.out, HRB.out, HRN.out, List.take_length, List.drop_length, List.append_nil]
            rfl)
          have HHK := Lib.hid HQ.out.hks
          rw [HEND.out] at HHK
          have HLN : Hid (j = (rbld cN N).length) := Lib.hid (by rw [← HEND.out, List.length_map]; exact HHK.out.1)
          have HBE := Lib.hid (HB1.out.trans (HQ.out.b.mono HB1.out.size))
          clear HMM HQ hlt
          go_wp2_with fail
          go_ret2
          exact ⟨OA, ocap, by rw [← HLN.out]; rfl, HHK.out.2, HBE.out⟩
end Go.Proofs.Ytigghcmbdnidnaa.H
