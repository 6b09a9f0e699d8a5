/-
  How much texts are like another one, the most first, and which is nearest.
  The reference's Steps.
  Which text is nearest; the reference's lines in common and likeness, and which likeness it puts ahead.
-/
import Derived.Test.YtfndiggpnkjacaaDoorGzi
namespace Go.Proofs.YtfndiggpnkjacaaDoor.Rk
set_option linter.unusedVariables false
set_option linter.unusedSimpArgs false
open Go.RowKit Go.Sort Go.Shelf
open T
open I (alloc1 own_at own_below)


open N (Ln ListsIn)
open Fp (fV Gw isN ky isnan_any order_any)

/-- Words for how much texts are like another one. -/
def Ws (ls : List (List Ln)) (t : List Ln) (ws : List UInt64) : Prop := ∀ i (h : i < ws.length) (h' : i < ls.length), Lw ls[i] t ws[i].toNat
/-- What All comes to. -/
def AlEnd (w : World) (ls : List (List Ln)) (t : List Ln) (e : Ending) (w' : World) : Prop :=
  ∃ ws xs A cap, e = .returned (.slice A ls.length cap) ∧ ws.length = ls.length ∧ Ws ls t ws ∧ Rd ws xs ∧ LksIn w' A xs ∧ ls.length ≤ cap ∧ Below w.heap.size w w'
/-- Like, as it is called: at any world. -/
def LkC (fn : FuncId) (a b : List Ln) : Prop := ∀ (W : World) (A B : Option Addr) (c c' : Nat), LinesIn W A a → LinesIn W B b → a.length ≤ c → b.length ≤ c' → Calls Tryd.prog fn #[.slice A a.length c, .slice B b.length c'] W fun e w' => ∃ x : UInt64, e = .returned (fV x.toNat) ∧ Lw a b x.toNat ∧ Below W.heap.size W w'
theorem LkC.call {fn : FuncId} {a b : List Ln} (h : LkC fn a b) (W : World) {A B : Option Addr} {c c' : Nat} (hA : LinesIn W A a) (hB : LinesIn W B b) (ha : a.length ≤ c) (hb : b.length ≤ c') : Calls Tryd.prog fn #[.slice A a.length c, .slice B b.length c'] W fun e w' => ∃ x : UInt64, e = .returned (fV x.toNat) ∧ Lw a b x.toNat ∧ Below W.heap.size W w' := h W A B c c' hA hB ha hb
theorem lk_is {a b : List Ln} (ha : a.length ≤ 40) (hb : b.length ≤ 40) (hta : ∀ y ∈ a, y.1.length ≤ maxLen) (htb : ∀ y ∈ b, y.1.length ≤ maxLen) : LkC 14 a b := fun W A B c c' hA hB hca hcb =>
  (like_any A B a b c c' W hA hB ha hb hca hcb hta htb).mono fun e w' ⟨r, he, hr, hB⟩ => by
    have hm : (UInt64.ofNat r).toNat = r := by rw [UInt64.toNat_ofNat']; exact Nat.mod_eq_of_lt hr.lt
    exact ⟨UInt64.ofNat r, by rw [hm]; exact he, by rw [hm]; exact hr, hB⟩
set_option maxRecDepth 100000 in
set_option maxHeartbeats 4000000 in
theorem all_any (A B : Option Addr) (ls : List (List Ln)) (t : List Ln) (c c' : Nat) (w : World) (hA : ListsIn w A ls) (hB : LinesIn w B t) (h8 : ls.length ≤ 8) (hcb : t.length ≤ c') (hlk : ∀ l ∈ ls, LkC 14 l t) :
    Calls Tryd.prog 20 #[.slice A ls.length c, .slice B t.length c'] w (AlEnd w ls t) := by
  obtain ⟨i0, hi0, hz0, hz1, hz2⟩ := info_parts infoLk
  have HA := Lib.hid hA
  have HB := Lib.hid hB
  have HLK := Lib.hid hlk
  clear hA hB hlk
  go_enter Tryd.func20, Tryd.ntmps20
  go_wp2_with fail
  go_loopg [5, 10] ls.length (fun n v i wr => ∃ (k : Nat) (ws : List UInt64), k ≤ ls.length ∧ i = .int .i64 (k : Int) ∧ ls.length - k ≤ n ∧ Hid (ws.length = k) ∧ Hid (wr.ownsRow w.heap.size 37 2 v (nd ws).length (lkCells (nd ws))) ∧ Hid (Ws ls t ws) ∧ Hid (Below w.heap.size w wr))
  case atStart => exact ⟨0, [], Nat.zero_le _, rfl, by omega, Lib.hid rfl, Lib.hid (World.ownsRow_nil _ _ _ _), Lib.hid (fun i h => absurd h (by simp)), Lib.hid (Below.refl _ _)⟩
  case round =>
    obtain ⟨k, ws, hk, rfl, hm, HWL, HO, HWS, HBR⟩ := hrel
    by_cases hlt : k < ls.length
    · obtain ⟨bk, off, hAe, hbk, hat⟩ := HA.out (by omega)
      subst hAe
      obtain ⟨LA, lc, e0, hI, hlc⟩ := hat k hlt
      have d0 := (HBR.out.cell (p := ⟨bk, off + k, none⟩) hbk).trans e0
      have HC := Lib.hid ((HLK.out _ (List.getElem_mem hlt)).call wr (hI.below HBR.out) (HB.out.below HBR.out) hlc hcb)
      have HLW : Hid (∀ x : UInt64, Lw ls[k] t x.toNat → Ws ls t (ws ++ [x])) := Lib.hid (fun x hx i h h' => by
        rw [List.length_append, List.length_singleton] at h
        by_cases e : i < ws.length
        · rw [List.getElem_append_left e]
          exact HWS.out i e h'
        · have hik : i = k := by have := HWL.out; omega
          subst hik
          rw [List.getElem_append_right (by omega)]
          simpa using hx)
      have HNL : Hid (∀ x : UInt64, nd (ws ++ [x]) = nd ws ++ [((k : Int), x)]) := Lib.hid (fun x => by rw [nd_snoc, HWL.out])
      have hnl : (nd ws).length = k := by rw [nd_len]; exact HWL.out
      have HNK := Lib.hid hnl
      have hn8 : (nd ws).length ≤ 8 := by omega
      have h0k : (0 : Int) ≤ (k : Int) := by omega
      have hki : (k : Int) < (ls.length : Int) := by omega
      have hs0 := HBR.out.size
      clear hat e0 hI hlc HWS hnl
      obtain ⟨m, hm'⟩ : ∃ m, m = ls[k]'hlt := ⟨_, rfl⟩
      rw [← hm'] at d0 HC HLW
      clear hm'
      go_wp2_with (first
        | (go_at_call 14; with_reducible refine (HC.out).mono ?_; rintro e w1 ⟨x, rfl, hx, hb1⟩; have HX := Lib.hid hx; have HB1 := Lib.hid hb1; have hs1 := hb1.size; have HOA := Lib.hid (World.ownsRow.alloc (own_below HO.out hb1) (.cells #[.int .i64 (k : Int), fV x.toNat] 37)); have HNW := Lib.hid (World.news_of_block (w := w1.alloc (.cells #[.int .i64 (k : Int), fV x.toNat] 37)) (heap_alloc_new w1 _)); clear hx hb1)
        | (at_builtin; refine wpList_append_own _ rfl (.tmp 15) (.tmp 21) 32 rfl w.heap.size 37 i0 _ 2 16 Tryd.underlying32 hi0 hz0 hz1 hz2 rfl (by decide) _ (nd ws).length (lkCells (nd ws)) rfl HOA.out ⟨w1.heap.size, 0, none⟩ 1 1 [.int .i64 (k : Int), fV x.toNat] rfl rfl HNW.out ?c2 ?c3 ?c4 ?c5 ?_))
      case c2 => first | exact ⟨rfl, rfl⟩ | (intro u hu; simp at hu; rcases hu with rfl | rfl <;> rfl)
      case c3 => unfold maxLen; omega
      case c4 => omega
      case c5 => first | omega | (simp; omega)
      intro v' w4 hown4 hg4 _
      have HB4 : Hid (Below w.heap.size w w4) := Lib.hid (((HBR.out.trans (HB1.out.mono hs0)).alloc (by omega) _).grown hg4 (by simp; omega) (own_base HO.out))
      have HO4 : Hid (w4.ownsRow w.heap.size 37 2 v' (nd (ws ++ [x])).length (lkCells (nd (ws ++ [x])))) := Lib.hid (by
        rw [HNL.out, List.length_append, List.length_singleton, lkCells_snoc]
        exact hown4)
      clear hown4 hg4
      go_wp2_with fail
      go_roundg (ls.length - (k + 1))
      case rel => exact ⟨k + 1, ws ++ [x], by omega, by go_num, Nat.le_refl _, Lib.hid (by rw [List.length_append, HWL.out]; rfl), HO4, Lib.hid (HLW.out x HX.out), HB4⟩
      case measure => omega
    · have hkl : k = ls.length := by omega
      have HKL := Lib.hid hkl
      have hlt' : decide (k < ls.length) = false := decide_eq_false hlt
      have hnn : (nd ws).length < 20 := by rw [nd_len, HWL.out]; omega
      obtain ⟨VA, vc, rfl, -, -⟩ := own_form HO.out
      have hcp : (nd ws).length ≤ vc := by
        rcases HO.out.2 with ⟨h1, h2⟩ | ⟨g, cap, cur, h1, h2, h3, h4, h5⟩
        · omega
        · injection h1 with _ _ h1
          omega
      have HCP := Lib.hid hcp
      have HSK := Lib.hid (sortk_any HO.out hnn)
      have HNN : Hid ((nd ws).length = ls.length) := Lib.hid (by rw [nd_len, HWL.out]; exact hkl)
      clear hkl hlt hcp hnn
      go_wp2_with (go_at_call 33; refine HSK.out.mono ?_; rintro e w2 ⟨rfl, xs, q1, q2, q3⟩)
      go_ret
      exact ⟨ws, xs, VA, vc, by rw [← HNN.out]; rfl, by rw [HWL.out, HKL.out], HWS.out, q1, q2, by rw [← HNN.out]; exact HCP.out, HBR.out.trans (q3.mono (Nat.le_refl _))⟩
end Go.Proofs.YtfndiggpnkjacaaDoor.Rk

namespace Go.Proofs.YtfndiggpnkjacaaDoor.M
set_option linter.unusedVariables false
set_option linter.unusedSimpArgs false
open Go.RowKit
open T
open V (IntsIn numCells numCells_snoc ints_own drawn_below)
open I (alloc1 own_at own_below)

theorem Tb.kept {w w' : World} {base G la lb : Nat} {gs : List Nat} {R : Nat → List Int} (h : Tb w base G la lb gs R) (hb : Below w.heap.size w w') : Tb w' base G la lb gs R := by
  obtain ⟨cs, hc⟩ := h.head
  have hG := (Array.getElem?_eq_some_iff.1 hc).1
  refine ⟨h.len, ⟨cs, (hb.block G hG).trans hc⟩, fun i hi => ?_, h.apart⟩
  obtain ⟨h1, h2, h3, h4⟩ := h.row i hi
  exact ⟨(hb.cell (p := ⟨G, i, none⟩) hG).trans h1, h2, h3.kept hb, h4⟩
theorem Tb.keptT {w w' : World} {base G la lb n0 : Nat} {gs : List Nat} {R : Nat → List Int} (h : Tb w base G la lb gs R) (hb : KpT n0 w w') : Tb w' base G la lb gs R := by
  obtain ⟨cs, hc⟩ := h.head
  have e := hb.2 G cs _ hc (.inr rfl)
  refine ⟨h.len, ⟨cs, e.trans hc⟩, fun i hi => ?_, h.apart⟩
  obtain ⟨h1, h2, h3, h4⟩ := h.row i hi
  exact ⟨(World.cell?_of_block (a := ⟨G, i, none⟩) e).trans h1, h2, (hb.2 _ _ _ h3 (.inl rfl)).trans h3, h4⟩
/-- Behind an append to a row of other elements. -/
theorem kpt_app {W w4 : World} {base size n : Nat} {v : Value} {e : TypeId} {xs : List Value} {o : Obj} (hown : W.ownsRow base e size v n xs) (he : e ≠ 3 ∧ e ≠ 46) (hbs : base ≤ W.heap.size) (hg : (W.alloc o).grownBy w4 v.ownBlock) : KpT base W w4 := by
  refine ⟨((alloc1 W o).mono hbs).grown hg (by simp; omega) (fun k ek => own_base hown k ek), fun k cs t hk ht => ?_⟩
  have hkl := lt_of_block hk
  rw [hg.block k (by simp; omega) (fun ek => ?_)]
  · exact (alloc1 W o).block k hkl
  · rcases hown.2 with ⟨rfl, _⟩ | ⟨g, cap, cur, rfl, _, hh, _⟩
    · simp [Value.ownBlock] at ek
    · simp only [Value.ownBlock, Option.some.injEq] at ek
      subst ek
      rw [hk] at hh; injection hh with hh; injection hh with _ hh
      rcases ht with rfl | rfl
      · exact he.1 hh.symm
      · exact he.2 hh.symm
theorem Tb.at {w : World} {base G la lb : Nat} {gs : List Nat} {R : Nat → List Int} (h : Tb w base G la lb gs R) {i j : Nat} (hi : i ≤ la) (hj : j ≤ lb) : ∃ g, w.cell? ⟨G, i, none⟩ = some (.slice (some ⟨g, 0, none⟩) (lb + 1) (lb + 1)) ∧ w.cell? ⟨g, j, none⟩ = some (.int .i64 ((R i).getD j 0)) := by
  have hl : i < gs.length := by rw [h.len]; omega
  obtain ⟨h1, h2, h3, h4⟩ := h.row i hl
  exact ⟨gs[i], h1, h3.cellD (by rw [h4]; omega)⟩
theorem way_keep {a b : List Int} {i j : Nat} {s X : List Int} (h : X = s ++ Wy a b i j) (hk : kept a b i j = true) : X = (s ++ [1]) ++ Wy a b (i + 1) (j + 1) := by rw [h, (Wy_kept hk).1]; simp
theorem way_out {a b : List Int} {i j : Nat} {s X : List Int} (h : X = s ++ Wy a b i j) (hk : kept a b i j = false) (ho : outs a b i j = true) : X = (s ++ [2]) ++ Wy a b (i + 1) j := by rw [h, (Wy_out hk ho).1]; simp
theorem way_in {a b : List Int} {i j : Nat} {s X : List Int} (h : X = s ++ Wy a b i j) (hk : kept a b i j = false) (ho : outs a b i j = false) (hj : j < b.length) : X = (s ++ [3]) ++ Wy a b i (j + 1) := by rw [h, (Wy_in hk ho hj).1]; simp

end Go.Proofs.YtfndiggpnkjacaaDoor.M

namespace Go.Proofs.YtfndiggpnkjacaaDoor.Rk
set_option linter.unusedVariables false
set_option linter.unusedSimpArgs false
open Go.RowKit Go.Sort Go.Shelf
open T
open V (grown_of IntsIn numCells numCells_snoc ints_own drawn_below)
open I (alloc1 own_at own_below)

open N (Ln ListsIn)
open Fp (fV Gw isN ky isnan_any order_any rorder_any vl rratio_any)

/-! One order for all words that may stand for the likenesses. -/
def cw (ls : List (List Ln)) (t : List Ln) : List UInt64 := ls.map fun l => UInt64.ofNat (lks l t)
/-- The likenesses in order. -/
def ox (ls : List (List Ln)) (t : List Ln) : List Kx := (insertionSort (ltOf cK) (nd (cw ls t)).toArray 0 (nd (cw ls t)).length).toList
theorem ox_rd (ls : List (List Ln)) (t : List Ln) : Rd (cw ls t) (ox ls t) := (sorted_rd _).1
abbrev phi (x : Kx) : Int × Int := (x.1, kz x.2)
theorem lw_kz {a b : List Ln} {x : UInt64} (h : Lw a b x.toNat) : kz x = kz (UInt64.ofNat (lks a b)) := by
  rw [kz_ky, h.key]
  by_cases e : a.length + b.length = 0
  · have : lks a b = 9221120237041090561 := by unfold lks lw; rw [if_pos e]
    rw [this]; rfl
  · have h1 := (h.num e).2.1
    rw [UInt64.toNat_ofNat', Nat.mod_eq_of_lt (by rw [← h1]; exact h.lt)]
theorem rd_phi {ls : List (List Ln)} {t : List Ln} {ws : List UInt64} {xs : List Kx} (hl : ws.length = ls.length) (hw : Ws ls t ws) (h : Rd ws xs) : xs.map phi = (ox ls t).map phi := by
  refine h.same (ox_rd ls t) (by simp [cw, hl]) (fun i hi hj => ?_)
  have e : (cw ls t)[i] = UInt64.ofNat (lks (ls[i]'(by omega)) t) := by simp [cw]
  rw [e]
  exact lw_kz (hw i hi (by omega))
theorem nan_kz (x : UInt64) : isN x.toNat = decide (kz x = 2 ^ 64) := by
  cases h : isN x.toNat
  · have := kz_lt h
    symm
    exact decide_eq_false (by omega)
  · rw [kz_nan h]; simp
def nr : List Kx → Int × Bool
  | [] => (0, false)
  | x :: _ => if isN x.2.toNat then (0, false) else (x.1, true)
theorem nr_phi {xs ys : List Kx} (h : xs.map phi = ys.map phi) : nr xs = nr ys := by
  cases xs with
  | nil => cases ys with
    | nil => rfl
    | cons y r => simp at h
  | cons x r => cases ys with
    | nil => simp at h
    | cons y s =>
      simp only [List.map_cons, List.cons.injEq, phi, Prod.mk.injEq] at h
      obtain ⟨⟨h1, h2⟩, -⟩ := h
      simp only [nr, nan_kz, h1, h2]
set_option maxRecDepth 100000 in
set_option maxHeartbeats 4000000 in
theorem nearest_any (A B : Option Addr) (ls : List (List Ln)) (t : List Ln) (c c' : Nat) (w : World) (hA : ListsIn w A ls) (hB : LinesIn w B t) (h8 : ls.length ≤ 8) (hcb : t.length ≤ c') (hlk : ∀ l ∈ ls, LkC 14 l t) :
    Calls Tryd.prog 18 #[.slice A ls.length c, .slice B t.length c'] w fun e w' => e = .returned (.tuple #[.int .i64 (nr (ox ls t)).1, .bool (nr (ox ls t)).2]) ∧ Below w.heap.size w w' := by
  have HC := Lib.hid (all_any A B ls t c c' w hA hB h8 hcb hlk)
  clear hA hB hlk
  obtain ⟨r, hr⟩ : ∃ r, r = nr (ox ls t) := ⟨_, rfl⟩
  rw [← hr]
  have HR := Lib.hid hr
  clear hr
  obtain ⟨n, hn⟩ : ∃ n, n = ls.length := ⟨_, rfl⟩
  rw [← hn] at h8 ⊢
  have HN := Lib.hid hn
  have HCN : Hid (Calls Tryd.prog 20 #[.slice A n c, .slice B t.length c'] w (AlEnd w ls t)) := Lib.hid (by rw [hn]; exact HC.out)
  clear hn HC
  go_enter Tryd.func18, Tryd.ntmps18
  go_wp2_with fail
  with_reducible refine (HCN.out).mono ?_
  rintro e w1 ⟨ws, xs, X, cap, rfl, hl, hw, hrd, hX, hcap, hb⟩
  have hxl : xs.length = n := by rw [hrd.len, hl, HN.out]
  have hnr : r = nr xs := by rw [HR.out]; exact (nr_phi (rd_phi hl hw hrd)).symm
  have HB := Lib.hid hb
  have HX := Lib.hid hX
  have hcp : n ≤ cap := by rw [HN.out]; exact hcap
  rw [← HN.out]
  clear hl hw hrd hX hcap hb HCN HR HN
  cases xs with
  | nil =>
    simp only [List.length_nil] at hxl
    subst hxl
    subst hnr
    clear HX
    go_wp2_with fail
    go_ret2
    exact ⟨rfl, HB.out⟩
  | cons x s =>
    obtain ⟨a, x⟩ := x
    obtain ⟨bk, off, rfl, hbk, hat⟩ := HX.out (by simp)
    obtain ⟨c0, c1⟩ := hat 0 (by simp)
    simp only [List.getElem_cons_zero, Nat.zero_mul, Nat.add_zero] at c0 c1
    have h0n : ¬ (n : Int) = 0 := by rw [← hxl]; simp; omega
    have h1n : (0 : Int) < (n : Int) := by omega
    clear hat HX hxl hbk
    cases nx : isN x.toNat
    · have hr2 : r = (a, true) := by rw [hnr]; simp [nr, nx]
      subst hr2
      clear hnr
      go_wp2_with ((go_at_call 32; refine (isnan_any _ _).mono ?_; rintro e w' ⟨rfl, rfl⟩; (try rw [nx])))
      go_ret2
      exact ⟨rfl, HB.out⟩
    · have hr2 : r = (0, false) := by rw [hnr]; simp [nr, nx]
      subst hr2
      clear hnr
      go_wp2_with ((go_at_call 32; refine (isnan_any _ _).mono ?_; rintro e w' ⟨rfl, rfl⟩; (try rw [nx])))
      go_ret2
      exact ⟨rfl, HB.out⟩

/-! The reference. -/
set_option maxRecDepth 100000 in
set_option maxHeartbeats 4000000 in
theorem rcommon_any (A B : Option Addr) (a b : List Ln) (c c' : Nat) (w : World) (hA : LinesIn w A a) (hB : LinesIn w B b) (ha : a.length ≤ 60) (hb : b.length ≤ 60) (hca : a.length ≤ c) (hcb : b.length ≤ c') :
    Calls Tryd.prog 12 #[.slice A a.length c, .slice B b.length c'] w fun e w' => e = .returned (.int .i64 (cn a b : Nat)) ∧ Below w.heap.size w w' := by
  obtain ⟨W0, hW0⟩ : ∃ W : World, W = w.alloc (.cells #[.slice A a.length c, .slice B b.length c'] 22) := ⟨_, rfl⟩
  have HB0 := Lib.hid (show Below w.heap.size w W0 by rw [hW0]; exact alloc1 _ _)
  have HNA : Hid (Calls Tryd.prog 25 #[.slice (some ⟨w.heap.size, 0, none⟩) 2 2] W0 (N.NmEnd W0 [N.row [] a, N.row (N.known [] a) b])) := Lib.hid (by
    refine N.rnumbers_any (some ⟨w.heap.size, 0, none⟩) 2 [a, b] W0 (two_in hW0 hA hB hca hcb) (by simp) (fun l hl => by simp only [List.mem_cons, List.not_mem_nil, or_false] at hl; rcases hl with rfl | rfl <;> assumption))
  have HLX : Hid ((N.row [] a).length = a.length ∧ (N.row (N.known [] a) b).length = b.length) := Lib.hid ⟨N.row_length _ _, N.row_length _ _⟩
  have HED := Lib.hid (cn_ed a b)
  generalize cn a b = n at *
  clear hA hB
  generalize N.row [] a = x at *
  generalize N.row (N.known [] a) b = y at *
  obtain ⟨la, hla⟩ : ∃ n, n = a.length := ⟨_, rfl⟩
  obtain ⟨lb, hlb⟩ : ∃ n, n = b.length := ⟨_, rfl⟩
  rw [← hla] at ha hca HLX hW0 HED ⊢
  rw [← hlb] at hb hcb HLX hW0 HED ⊢
  clear hla hlb
  have g1 : decide ((400 : Int) < (la : Int)) = false := decide_eq_false (by omega)
  have g2 : decide ((400 : Int) < (lb : Int)) = false := decide_eq_false (by omega)
  go_enter Tryd.func12, Tryd.ntmps12
  go_wp2_with fail
  rw [← hW0]
  clear hW0 g1 g2
  with_reducible refine (HNA.out).mono ?_
  rintro e w1 ⟨NA, ncap, vs, rfl, hno, hrw, hb1⟩
  have hvl : vs.length = 2 := hrw.1
  match vs, hvl with
  | [v0, v1], _ =>
  have HO0 := Lib.hid (hrw.2 0 (by simp) (by simp))
  have HO1 := Lib.hid (hrw.2 1 (by simp) (by simp))
  simp only [List.getElem_cons_zero, List.getElem_cons_succ] at HO0 HO1
  obtain ⟨XA, xc, rfl, -, -⟩ := own_form HO0.out
  obtain ⟨YA, yc, rfl, -, -⟩ := own_form HO1.out
  obtain ⟨g, rfl, -, hg2, hgc⟩ := own_at hno (by simp)
  have d0 := hgc 0 _ rfl
  have d1 := hgc 1 _ rfl
  have HX1 := Lib.hid (ints_own HO0.out)
  have HY1 := Lib.hid (ints_own HO1.out)
  have HBW := Lib.hid (HB0.out.trans (hb1.mono HB0.out.size))
  have HST := Lib.hid (M.table_any XA YA x y xc yc w1.drew (HX1.out.below ((Below.refl _ w1).drew)) (HY1.out.below ((Below.refl _ w1).drew)) (by rw [HLX.out.1]; omega) (by rw [HLX.out.2]; omega))
  obtain ⟨d, hd⟩ : ∃ d, d = M.ed x y := ⟨_, rfl⟩
  have hed := HED.out
  rw [← hd] at hed
  have HD0 : Hid (M.D x y 0 0 = d) := Lib.hid (by rw [hd]; rfl)
  have HXL := Lib.hid HLX.out.1
  have HYL := Lib.hid HLX.out.2
  have hwa : IntKind.i64.wrap ((la : Int) + (lb : Int)) = (la : Int) + (lb : Int) := by rw [IntKind.wrap_i64]; omega
  have hwb : IntKind.i64.wrap ((la : Int) + (lb : Int) - (d : Int)) = 2 * (n : Int) := by rw [IntKind.wrap_i64]; omega
  have hwc : Int.tdiv (2 * (n : Int)) 2 = (n : Int) := by rw [Int.mul_tdiv_cancel_left _ (by decide)]
  have hwd : IntKind.i64.wrap (n : Int) = (n : Int) := by rw [IntKind.wrap_i64]; omega
  clear hno hrw hgc hvl HO0 HO1 hb1 hd HED HX1 HY1
  go_wp2_with fail
  go_region_with ((go_at_call 26; refine (HST.out).mono ?_; rintro e w2 ⟨G, tcap, gs, R, rfl, hG, htb, hval, hb2⟩; have HSB := Lib.hid hb2; obtain ⟨gg, e0, e1⟩ := htb.at (Nat.zero_le _) (Nat.zero_le _); rw [hval 0 0 (Nat.zero_le _) (Nat.zero_le _), HD0.out] at e1; clear hb2 htb hval hG))
  all_goals
    go_wp2_with fail
    go_ret
    exact ⟨rfl, HBW.out.trans ((((Below.refl _ w1).drew).trans HSB.out).mono HBW.out.size)⟩
set_option maxRecDepth 100000 in
set_option maxHeartbeats 1000000 in
theorem rlike_any {a b : List Ln} (ha : a.length ≤ 40) (hb : b.length ≤ 40) : LkC 15 a b := fun w A B c c' hA hB hca hcb => by
  have HC := Lib.hid (rcommon_any A B a b c c' w hA hB (by omega) (by omega) hca hcb)
  have HR := Lib.hid (fun (w : World) => rratio_any (cn a b : Nat) a.length b.length w)
  have HL : Hid (∀ r, Fp.Rt (cn a b : Nat) a.length b.length r → Lw a b r) := Lib.hid fun r h => Lw.of ha hb h
  clear hA hB
  generalize cn a b = n at *
  obtain ⟨la, hla⟩ : ∃ n, n = a.length := ⟨_, rfl⟩
  obtain ⟨lb, hlb⟩ : ∃ n, n = b.length := ⟨_, rfl⟩
  rw [← hla] at ha hca HC HR HL ⊢
  rw [← hlb] at hb hcb HC HR HL ⊢
  clear hla hlb
  have g1 : decide ((400 : Int) < (la : Int)) = false := decide_eq_false (by omega)
  have g2 : decide ((400 : Int) < (lb : Int)) = false := decide_eq_false (by omega)
  go_enter Tryd.func15, Tryd.ntmps15
  go_wp2_with fail
  with_reducible refine (HC.out).mono ?_
  rintro e w1 ⟨rfl, hb1⟩
  go_wp2_with fail
  with_reducible refine (HR.out w1).mono ?_
  rintro e w2 ⟨r, rfl, hr, hg⟩
  go_wp2_with fail
  go_ret
  have hw := HL.out r hr
  have hm : (UInt64.ofNat r).toNat = r := by rw [UInt64.toNat_ofNat']; exact Nat.mod_eq_of_lt hw.lt
  exact ⟨UInt64.ofNat r, by rw [hm]; rfl, by rw [hm]; exact hw, hb1.trans (hg.below.mono hb1.size)⟩
set_option maxRecDepth 100000 in
set_option maxHeartbeats 4000000 in
/-- Which likeness the reference puts ahead. -/
theorem ahead_any (x y : Kx) (w : World) : Calls Tryd.prog 31 #[lkV x, lkV y] w fun e w' => e = .returned (.bool (lx x y)) ∧ Below w.heap.size w w' := by
  obtain ⟨a, x⟩ := x
  obtain ⟨b, y⟩ := y
  have hlx := u_lt x
  have hly := u_lt y
  obtain ⟨W0, hW0⟩ : ∃ W : World, W = w.alloc (.cells #[.int .i64 a, fV x.toNat] 37) := ⟨_, rfl⟩
  obtain ⟨W1, hW1⟩ : ∃ W : World, W = W0.alloc (.cells #[.int .i64 b, fV y.toNat] 37) := ⟨_, rfl⟩
  have hb0 : Below w.heap.size w W0 := by rw [hW0]; exact alloc1 _ _
  have hb1 : Below W0.heap.size W0 W1 := by rw [hW1]; exact alloc1 _ _
  have HB := Lib.hid (hb0.trans (hb1.mono hb0.size))
  have hs0 : W0.heap.size = w.heap.size + 1 := by rw [hW0]; simp
  have hx0 : W1.heap[w.heap.size]? = some (.cells #[.int .i64 a, fV x.toNat] 37 (0, 0)) := by
    rw [hb1.block _ (by omega), hW0]
    exact heap_alloc_new w _
  have hx1 : W1.heap[w.heap.size + 1]? = some (.cells #[.int .i64 b, fV y.toNat] 37 (0, 0)) := by
    rw [hW1, ← hs0]
    exact heap_alloc_new W0 _
  have x0 := L.blk_cell hx0 0
  have x1 := L.blk_cell hx0 1
  have y0 := L.blk_cell hx1 0
  have y1 := L.blk_cell hx1 1
  simp only [List.getElem?_toArray, List.getElem?_cons_zero, List.getElem?_cons_succ] at x0 x1 y0 y1
  have HC : Hid (lx (a, x) (b, y) = decide (kz x < kz y ∨ kz x = kz y ∧ a < b)) := Lib.hid rfl
  clear hb0 hb1 hs0 hx0 hx1
  generalize lx (a, x) (b, y) = v at *
  go_enter Tryd.func31, Tryd.ntmps31
  go_upto_region 1 with fail
  rw [← hW0, ← hW1]
  obtain ⟨xa, hxa⟩ : ∃ q, q = w.heap.size := ⟨_, rfl⟩
  rw [← hxa] at x0 x1 y0 y1
  simp only [← hxa]
  clear hW0 hW1 hxa
  cases nx : isN x.toNat
  · cases ny : isN y.toNat
    · have HK : Hid (∀ c, c = Fp.cmp (ky x.toNat) (ky y.toNat) → v = decide (0 < c ∨ c = 0 ∧ a < b)) := Lib.hid (by
        rintro c rfl
        rw [HC.out, kz_num nx, kz_num ny]
        refine decide_eq_decide.2 ?_
        rw [Fp.cmp_gt, Fp.cmp_zero]
        omega)
      have hok : Hid (Fp.cmp (ky x.toNat) (ky y.toNat) = -1 ∨ Fp.cmp (ky x.toNat) (ky y.toNat) = 0 ∨ Fp.cmp (ky x.toNat) (ky y.toNat) = 1) := Lib.hid (by unfold Fp.cmp; split <;> (try split) <;> simp)
      have HOR := Lib.hid (fun W => rorder_any x.toNat y.toNat hlx hly W)
      generalize Fp.cmp (ky x.toNat) (ky y.toNat) = o at *
      clear HC
      rcases hok.out with rfl | rfl | rfl
      · have hv := HK.out _ rfl
        have hv' : v = false := by rw [hv]; simp
        subst hv'
        clear hv HK hok
        go_wp2_with (first | (go_at_call 44; refine (HOR.out _).mono ?_; rintro e w' ⟨rfl, rfl⟩))
        go_ret
        exact ⟨rfl, HB.out⟩
      · have hv := HK.out _ rfl
        have hv' : v = decide (a < b) := by rw [hv]; simp
        subst hv'
        clear hv HK hok
        go_wp2_with (first | (go_at_call 44; refine (HOR.out _).mono ?_; rintro e w' ⟨rfl, rfl⟩))
        go_ret
        exact ⟨rfl, HB.out⟩
      · have hv := HK.out _ rfl
        have hv' : v = true := by rw [hv]; simp
        subst hv'
        clear hv HK hok
        go_wp2_with (first | (go_at_call 44; refine (HOR.out _).mono ?_; rintro e w' ⟨rfl, rfl⟩))
        go_ret
        exact ⟨rfl, HB.out⟩
    · have hv' : v = true := by
        rw [HC.out, kz_nan ny]
        exact decide_eq_true (.inl (kz_lt nx))
      subst hv'
      clear HC
      go_wp2_with fail
      go_ret
      exact ⟨rfl, HB.out⟩
  · cases ny : isN y.toNat
    · have hv' : v = false := by
        rw [HC.out, kz_nan nx]
        have := kz_lt ny
        exact decide_eq_false (by omega)
      subst hv'
      clear HC
      go_wp2_with fail
      go_ret
      exact ⟨rfl, HB.out⟩
    · have hv' : v = decide (a < b) := by
        rw [HC.out, kz_nan nx, kz_nan ny]
        simp
      subst hv'
      clear HC
      go_wp2_with fail
      go_ret
      exact ⟨rfl, HB.out⟩
end Go.Proofs.YtfndiggpnkjacaaDoor.Rk
