/-
  The reference's sort of floats, one by one put in.
  The reference's sort of floats.
-/
import Derived.Test.YtngboallknmepaaGxad
import Derived.Deep.AppendLies
namespace Go.Proofs.Ytngboallknmepaa.Fp
set_option linter.unusedVariables false
set_option linter.unusedSimpArgs false
open Go.RowKit Go.Sort Go.Shelf
open T
open I (alloc1 own_at own_below)


/-- Floats with room. -/
structure Fx (w : World) (A : Option Addr) (c : Nat) (l : List UInt64) : Prop where
  i : FlIn w A l
  r : l.length ≤ c
  z : A = none → c = 0
theorem Fx.below {w w' : World} {A : Option Addr} {c : Nat} {l : List UInt64} (h : Fx w A c l) (hb : Below w.heap.size w w') : Fx w' A c l := ⟨h.i.below hb, h.r, h.z⟩
theorem fx_own {w : World} {base : Nat} {v : Value} {l : List UInt64} (h : w.ownsRow base 22 1 v l.length (l.map encF)) : ∃ A c, v = .slice A l.length c ∧ Fx w A c l := by
  rcases h.2 with ⟨rfl, h0⟩ | ⟨g, cap, cur, rfl, h1, h2, h3, h4⟩
  · obtain rfl : l = [] := List.length_eq_zero_iff.1 h0
    exact ⟨none, 0, rfl, ⟨fun h => absurd h (by simp), Nat.le_refl _, fun _ => rfl⟩⟩
  · exact ⟨_, _, rfl, ⟨fl_own h, h3, fun e => (by cases e)⟩⟩
theorem fl_news {w : World} {bk off : Nat} {xs : List UInt64} (h : FlAt w bk off xs) : ∀ j u, (xs.map encF)[j]? = some u → w.cell? ((⟨bk, off, none⟩ : Addr).add j) = some u := by
  intro j u hu
  have hj : j < xs.length := by have := (List.getElem?_eq_some_iff.1 hu).1; simpa using this
  have e2 : (xs.map encF)[j]? = some (encF xs[j]) := by simp [hj]
  rw [e2] at hu
  injection hu with hu
  rw [← hu, show (⟨bk, off, none⟩ : Addr).add j = ⟨bk, off + j, none⟩ by simp [Addr.add]]
  exact h j hj
/-- a[:k]. -/
theorem take_isF {A : Option Addr} {n c k : Nat} (hkn : k ≤ n) (hnc : n ≤ c) (hz : A = none → c = 0) (W : World) : Sem.run Try.prog (Instr.sliceAt 29 (.slice A n c) none (some (.int .i64 (k : Int))) none) W = .ok (.slice A k c) W := by
  have h0k : (0 : Int) ≤ (k : Int) := by omega
  have hkc : (k : Int) ≤ (c : Int) := by omega
  cases A with
  | none =>
    obtain rfl := hz rfl
    obtain rfl : n = 0 := by omega
    obtain rfl : k = 0 := by omega
    go_simp
  | some ad =>
    by_cases hc : c = 0
    · subst hc
      obtain rfl : n = 0 := by omega
      obtain rfl : k = 0 := by omega
      go_simp
    · go_simp
/-- Where a[k:] lies. -/
def dropF (B : Option Addr) (c k : Nat) : Option Addr := if c = k then B else B.map fun ad => ad.add k
theorem drop_isF {B : Option Addr} {n c k : Nat} (hkn : k ≤ n) (hnc : n ≤ c) (hz : B = none → c = 0) (W : World) : Sem.run Try.prog (Instr.sliceAt 29 (.slice B n c) (some (.int .i64 (k : Int))) none none) W = .ok (.slice (dropF B c k) (n - k) (c - k)) W := by
  have h0k : (0 : Int) ≤ (k : Int) := by omega
  have hkn' : (k : Int) ≤ (n : Int) := by omega
  have hnc' : (n : Int) ≤ (c : Int) := by omega
  cases B with
  | none =>
    obtain rfl := hz rfl
    obtain rfl : n = 0 := by omega
    obtain rfl : k = 0 := by omega
    rw [show dropF none 0 0 = none from rfl]
    go_simp
  | some ad =>
    by_cases hc : c = k
    · subst hc
      obtain rfl : n = c := by omega
      rw [show dropF (some ad) n n = some ad from if_pos rfl, Nat.sub_self]
      go_simp
    · rw [show dropF (some ad) c k = some (ad.add k) from if_neg hc]
      go_simp
theorem fl_take {w : World} {A : Option Addr} {l : List UInt64} (h : FlIn w A l) (k : Nat) : FlIn w A (l.take k) := fun hp => by
  rw [List.length_take] at hp
  obtain ⟨bk, off, e, hlt, hl⟩ := h (by omega)
  refine ⟨bk, off, e, hlt, fun j hj => ?_⟩
  rw [List.length_take] at hj
  simp only [List.getElem_take]
  exact hl j (by omega)
theorem fl_drop {w : World} {A : Option Addr} {c : Nat} {l : List UInt64} (h : Fx w A c l) (k : Nat) : FlIn w (dropF A c k) (l.drop k) := fun hp => by
  rw [List.length_drop] at hp
  obtain ⟨bk, off, rfl, hlt, hl⟩ := h.i (by omega)
  have := h.r
  refine ⟨bk, off + k, by rw [dropF, if_neg (by omega)]; simp [Addr.add], hlt, fun j hj => ?_⟩
  rw [List.length_drop] at hj
  have c0 := hl (k + j) (by omega)
  rw [List.getElem_drop]
  rw [show off + k + j = off + (k + j) by omega]
  exact c0
/-- append(a, b...), b of no float, too. -/
theorem run_app {w : World} {base : Nat} {v : Value} {ys zs : List UInt64} {A2 : Option Addr} {c2 : Nat} (hown : w.ownsRow base 22 1 v ys.length (ys.map encF)) (hz : FlIn w A2 zs) (ty : TypeId) (hl : ys.length + zs.length ≤ 1000000) (hbase : base ≤ w.heap.size) :
    ∃ v' w', (Builtin.append_ #[29, 29] ty #[v, .slice A2 zs.length c2]).run Try.prog w = .ok v' w' ∧ w'.ownsRow base 22 1 v' (ys ++ zs).length ((ys ++ zs).map encF) ∧ w.grownBy w' v.ownBlock := by
  by_cases h0 : zs.length = 0
  · obtain rfl : zs = [] := List.length_eq_zero_iff.1 h0
    refine ⟨v, w, ?_, by rw [List.append_nil]; exact hown, World.grownBy.refl _ _⟩
    obtain ⟨A, c, rfl, hc⟩ := fx_own hown
    have h1 := hc.r
    have h2 : (ys.length : Int) ≤ (c : Int) := by omega
    have hz' := hc.z
    clear hown hz h0
    cases A with
    | none =>
      obtain rfl := hz' rfl
      have h3 : ys.length = 0 := by omega
      rw [h3]
      cases A2 with
      | none => go_simp
      | some b => go_simp; try simp [storeCells, go_sem]
    | some a =>
      cases A2 with
      | none => go_simp; try simp [storeCells, go_sem]
      | some b => go_simp; try simp [storeCells, go_sem]
  · obtain ⟨i0, hi0, hz0, hz1, hz2⟩ := info_parts infoFl
    obtain ⟨bk, off, rfl, hlt, hat⟩ := hz (by omega)
    obtain ⟨g, cap, w', hr, ho, hg, -, -⟩ := run_append_lies w 29 ty base 22 i0 _ 1 8 Try.underlying29 hi0 hz0 hz1 hz2 rfl (by decide) v ys.length (ys.map encF) hown ⟨bk, off, none⟩ zs.length c2 (zs.map encF) (by simp) (fl_news hat) (map_one _) (by omega) (by unfold maxLen; omega) (by omega) hbase _ rfl
    exact ⟨_, w', hr, by rw [List.map_append, List.length_append]; exact ho, hg⟩
end Go.Proofs.Ytngboallknmepaa.Fp

namespace Go.Proofs.Ytngboallknmepaa.Fp
set_option linter.unusedVariables false
set_option linter.unusedSimpArgs false
open Go.RowKit Go.Sort Go.Shelf
open T
open I (alloc1 own_at own_below)


theorem fl_one1 (w : World) (a : UInt64) : FlIn (w.alloc (.cells #[encF a] 22)) (some ⟨w.heap.size, 0, none⟩) [a] := fun _ => by
  have hx := heap_alloc_new w (.cells #[encF a] 22)
  refine ⟨w.heap.size, 0, rfl, by simp, fun j hj => ?_⟩
  have hc := L.blk_cell hx j
  rw [Nat.zero_add, hc]
  match j, hj with
  | 0, _ => rfl
/-- A float put into a row in order. -/
theorem put_in {o : List UInt64} {x : UInt64} {k : Nat} (hs : o.Pairwise (fun a b => ky a.toNat ≤ ky b.toNat)) (hk : k ≤ o.length) (h1 : ∀ j (h : j < o.length), j < k → ky (o[j]).toNat ≤ ky x.toNat) (h2 : ∀ h : k < o.length, ky x.toNat < ky (o[k]).toNat) :
    (o.take k ++ [x] ++ o.drop k).Pairwise (fun a b => ky a.toNat ≤ ky b.toNat) := by
  have ht : (o.take k ++ o.drop k).Pairwise (fun a b => ky a.toNat ≤ ky b.toNat) := by rw [List.take_append_drop]; exact hs
  rw [List.pairwise_append] at ht
  obtain ⟨p1, p2, p3⟩ := ht
  have hd : ∀ b ∈ o.drop k, ky x.toNat ≤ ky b.toNat := by
    intro b hb
    obtain ⟨i, hi, rfl⟩ := List.mem_iff_getElem.1 hb
    have hl : k + i < o.length := by rw [List.length_drop] at hi; omega
    rw [List.getElem_drop]
    have h3 := h2 (by omega)
    rcases Nat.eq_zero_or_pos i with h0 | h0
    · subst h0; exact Int.le_of_lt h3
    · have := List.pairwise_iff_getElem.1 hs k (k + i) (by omega) hl (by omega)
      omega
  have hta : ∀ a ∈ o.take k, ky a.toNat ≤ ky x.toNat := by
    intro a ha
    obtain ⟨i, hi, rfl⟩ := List.mem_iff_getElem.1 ha
    rw [List.length_take] at hi
    rw [List.getElem_take]
    exact h1 i (by omega) (by omega)
  rw [List.append_assoc, List.pairwise_append]
  refine ⟨p1, ?_, ?_⟩
  · rw [List.singleton_append, List.pairwise_cons]
    exact ⟨hd, p2⟩
  · intro a ha b hb
    rw [List.singleton_append, List.mem_cons] at hb
    rcases hb with rfl | hb
    · exact hta a ha
    · exact p3 a ha b hb
theorem put_perm {o t : List UInt64} {x : UInt64} {k : Nat} (h : o.Perm t) : (o.take k ++ [x] ++ o.drop k).Perm (t ++ [x]) := by
  have h1 : (o.take k ++ [x] ++ o.drop k).Perm (o.take k ++ o.drop k ++ [x]) := by
    rw [List.append_assoc, List.append_assoc]
    exact List.Perm.append_left _ List.perm_append_comm
  rw [List.take_append_drop] at h1
  exact h1.trans (h.append_right _)
set_option maxRecDepth 100000 in
set_option maxHeartbeats 4000000 in
theorem rsort_any (A : Option Addr) (cap : Nat) (l : List UInt64) (w : World) (hA : FlIn w A l) (hl : l.length ≤ 100000) :
    Calls Try.prog 19 #[.slice A l.length cap] w (SoEnd w l) := by
  obtain ⟨W0, hW0⟩ : ∃ W : World, W = w.alloc (.cells #[] 22) := ⟨_, rfl⟩
  have hb0 : Below w.heap.size w W0 := by rw [hW0]; exact alloc1 _ _
  have HB0 := Lib.hid hb0
  have HO0 : Hid (Fx W0 (some ⟨w.heap.size, 0, none⟩) 0 []) := Lib.hid ⟨fun h => absurd h (by simp), by simp, fun e => (by cases e)⟩
  have HA := Lib.hid (hA.below hb0)
  clear hA hb0
  go_enter Try.func19, Try.ntmps19
  go_wp2_with fail
  rw [← hW0]
  obtain ⟨xb, hxb⟩ : ∃ q, q = w.heap.size := ⟨_, rfl⟩
  rw [← hxb] at HO0
  rw [← hxb]
  clear hW0 hxb
  go_loopg [3, 4] l.length (fun q v i wr => ∃ (k : Nat) (o : List UInt64) (B : Option Addr) (c : Nat), k ≤ l.length ∧ i = .int .i64 k ∧ v = .slice B o.length c ∧ l.length - k ≤ q ∧ Hid (o.Perm (l.take k)) ∧ Hid (o.Pairwise (fun a b => ky a.toNat ≤ ky b.toNat)) ∧ Hid (Fx wr B c o) ∧ Hid (Below W0.heap.size W0 wr))
  case atStart => exact ⟨0, [], _, 0, Nat.zero_le _, rfl, rfl, by omega, Lib.hid (by simp), Lib.hid List.Pairwise.nil, HO0, Lib.hid (Below.refl _ _)⟩
  case round =>
    obtain ⟨k, o, B, c, hk, rfl, rfl, hm, HP, HS, HX, HBR⟩ := hrel
    by_cases hlt : k < l.length
    · obtain ⟨bk, off, hAe, hbk, hF⟩ := HA.out (by omega)
      subst hAe
      have h0k : (0 : Int) ≤ (k : Int) := by omega
      have hki : (k : Int) < (l.length : Int) := by omega
      have c1 := (hF.below HBR.out hbk) k hlt
      have HBK := Lib.hid (Nat.lt_of_lt_of_le hbk HBR.out.size)
      obtain ⟨x, hx⟩ : ∃ x : UInt64, x = l[k] := ⟨_, rfl⟩
      rw [← hx] at c1
      have HXK := Lib.hid hx
      have lx := u_lt x
      have hol : o.length ≤ 100000 := by rw [HP.out.length_eq, List.length_take]; omega
      have HLN : Hid (o.length ≤ k) := Lib.hid (by rw [HP.out.length_eq, List.length_take]; omega)
      clear hx hF
      go_upto_region 6 with fail
      generalize wr = wo at *
      go_wp2_with fail
      go_loopg [5] o.length (fun q i wr => ∃ j : Nat, j ≤ o.length ∧ i = .int .i64 j ∧ o.length - j ≤ q ∧ Hid (∀ (j' : Nat) (h : j' < o.length), j' < j → ky (o[j']).toNat ≤ ky x.toNat) ∧ Hid (Below wo.heap.size wo wr))
      case atStart => exact ⟨0, Nat.zero_le _, rfl, by omega, Lib.hid (fun _ _ h => absurd h (by omega)), Lib.hid (Below.refl _ _)⟩
      case round =>
        obtain ⟨j, hj, rfl, hmj, HLT, HBW⟩ := hrel
        replace c1 := (HBW.out.cell (p := ⟨bk, _, none⟩) HBK.out).trans c1
        replace HBK : Hid (bk < wr.heap.size) := Lib.hid (Nat.lt_of_lt_of_le HBK.out HBW.out.size)
        replace HX := Lib.hid (HX.out.below HBW.out)
        replace HBR := Lib.hid (HBR.out.trans (HBW.out.mono HBR.out.size))
        have HBO := HBW
        clear HBW
        have h0j : (0 : Int) ≤ (j : Int) := by omega
        by_cases hjl : j < o.length
        · obtain ⟨rb, ro, hBe, hrb, hat⟩ := HX.out.i (by omega)
          subst hBe
          have p0 := hat j hjl
          have hjn : (j : Int) < (o.length : Int) := by omega
          obtain ⟨z, hz⟩ : ∃ z : UInt64, z = o[j]'hjl := ⟨_, rfl⟩
          rw [← hz] at p0
          have HZ := Lib.hid hz
          have lz := u_lt z
          clear hz hat
          by_cases hle : ky z.toNat ≤ ky x.toNat
          · have hd : decide (cmp (ky z.toNat) (ky x.toNat) ≤ 0) = true := decide_eq_true (cmp_le.2 hle)
            have HLE := Lib.hid hle
            clear hle
            go_wp2_with fail
            go_quiet (first | (go_at_call 15; refine Calls.quiet_of_same (rorder_any _ _ lz lx _)))
            go_wp2_with fail
            go_roundg (o.length - (j + 1))
            case rel => exact ⟨j + 1, by omega, by go_num, by omega, Lib.hid (fun j' h hjj => by
              by_cases e : j' = j
              · subst e
                rw [← HZ.out]
                exact HLE.out
              · exact HLT.out j' h (by omega)), Lib.hid (HBO.out.trans ((V.drawn_below _ nq).mono HBO.out.size))⟩
            case measure => omega
          · have hd : decide (cmp (ky z.toNat) (ky x.toNat) ≤ 0) = false := decide_eq_false (fun h => hle (cmp_le.1 h))
            have HLE := Lib.hid (show ∀ h : j < o.length, ky x.toNat < ky (o[j]).toNat by intro h; rw [← HZ.out]; omega)
            clear hle
            go_wp2_with fail
            go_quiet (first | (go_at_call 15; refine Calls.quiet_of_same (rorder_any _ _ lz lx _)))
            obtain ⟨wq, hwq⟩ : ∃ W : World, W = wr.drewN nq := ⟨_, rfl⟩
            rw [← hwq]
            have hbq : Below wr.heap.size wr wq := by rw [hwq]; exact V.drawn_below _ nq
            replace c1 := (hbq.cell (p := ⟨bk, _, none⟩) HBK.out).trans c1
            replace HBK : Hid (bk < wq.heap.size) := Lib.hid (Nat.lt_of_lt_of_le HBK.out hbq.size)
            replace HX := Lib.hid (HX.out.below hbq)
            replace HBR := Lib.hid (HBR.out.trans (hbq.mono HBR.out.size))
            clear hwq hbq
            have hcr := HX.out.r
            have HCZ := Lib.hid HX.out.z
            obtain ⟨tk, htke⟩ : ∃ t, t = o.take j := ⟨_, rfl⟩
            obtain ⟨dk, hdke⟩ : ∃ t, t = o.drop j := ⟨_, rfl⟩
            have htk : ∀ W, Sem.run Try.prog (Instr.sliceAt 29 (.slice (some ⟨rb, ro, none⟩) o.length c) none (some (.int .i64 (j : Int))) none) W = .ok (.slice (some ⟨rb, ro, none⟩) tk.length c) W := by
              intro W
              rw [htke, List.length_take, Nat.min_eq_left hj]
              exact take_isF hj hcr HCZ.out W
            have hdk : ∀ W, Sem.run Try.prog (Instr.sliceAt 29 (.slice (some ⟨rb, ro, none⟩) o.length c) (some (.int .i64 (j : Int))) none none) W = .ok (.slice (dropF (some ⟨rb, ro, none⟩) c j) dk.length (c - j)) W := by
              intro W
              rw [hdke, List.length_drop]
              exact drop_isF hj hcr HCZ.out W
            have HDZ : Hid (dropF (some ⟨rb, ro, none⟩) c j = none → c - j = 0) := Lib.hid (by
              intro h
              unfold dropF at h
              split at h
              · omega
              · have := HCZ.out (by first | (simp at h; done) | simpa using h)
                omega)
            have HE : Hid ((wq.alloc (.cells #[] 22)).ownsRow wq.heap.size 22 1 (.slice (some ⟨wq.heap.size, 0, none⟩) 0 0) ([] : List UInt64).length (([] : List UInt64).map encF)) := Lib.hid (World.ownsRow_made (size := 1) (e := 22) wq #[] 0 (Nat.le_refl _) (by unfold maxLen; omega) rfl)
            have HT : Hid (FlIn (wq.alloc (.cells #[] 22)) (some ⟨rb, ro, none⟩) tk) := Lib.hid (by rw [htke]; exact fl_take (HX.out.i.below (alloc1 wq (.cells #[] 22))) j)
            have hs0 : wq.heap.size ≤ (wq.alloc (.cells #[] 22)).heap.size := (alloc1 wq _).size
            have htl : tk.length ≤ 100000 := by rw [htke, List.length_take]; omega
            have hdl : dk.length ≤ 100000 := by rw [hdke, List.length_drop]; omega
            have HTK := Lib.hid htke
            have HDK := Lib.hid hdke
            clear htke hdke
            go_upto_region 9 with (at_builtin; refine wpList_append_fls (w := wq.alloc (.cells #[] 22)) rfl (.tmp 32) (.tmp 35) rfl wq.heap.size (.slice (some ⟨wq.heap.size, 0, none⟩) 0 0) [] tk rfl HE.out (some ⟨rb, ro, none⟩) c rfl HT.out HCZ.out (by simp; omega) hs0 ?_; intro v1 w1 ho1 hg1 hat1; rw [List.nil_append] at ho1; have HB1 : Hid (Below wq.heap.size wq w1) := Lib.hid ((alloc1 wq _).grown hg1 hs0 (fun q e => own_base HE.out q e)); have HO1 := Lib.hid ho1; clear ho1 hg1 hat1)
            replace c1 := (HB1.out.cell (p := ⟨bk, _, none⟩) HBK.out).trans c1
            have HO1' : Hid ((w1.alloc (.cells #[encF x] 22)).ownsRow wq.heap.size 22 1 v1 tk.length (tk.map encF)) := Lib.hid (own_below HO1.out (alloc1 _ _))
            have HF1 : Hid (FlIn (w1.alloc (.cells #[encF x] 22)) (some ⟨w1.heap.size, 0, none⟩) [x]) := Lib.hid (fl_one1 w1 x)
            have hs1 : wq.heap.size ≤ (w1.alloc (.cells #[encF x] 22)).heap.size := Nat.le_trans HB1.out.size (alloc1 w1 _).size
            go_upto_region 10 with (at_builtin; refine wpList_append_fls (w := w1.alloc (.cells #[encF x] 22)) rfl (.tmp 37) (.tmp 42) rfl wq.heap.size v1 tk [x] rfl HO1'.out (some ⟨w1.heap.size, 0, none⟩) 1 rfl HF1.out (fun h => nomatch h) (by simp; omega) hs1 ?_; intro v2 w2 ho2 hg2 hat2; have HB2 : Hid (Below wq.heap.size wq w2) := Lib.hid ((HB1.out.trans ((alloc1 w1 _).mono HB1.out.size)).grown hg2 hs1 (fun q e => own_base HO1'.out q e)); have HO2 := Lib.hid ho2; clear ho2 hg2 hat2)
            have HF2 : Hid (FlIn w2 (dropF (some ⟨rb, ro, none⟩) c j) dk) := Lib.hid (by rw [HDK.out]; exact fl_drop (HX.out.below HB2.out) j)
            have hs2 := HB2.out.size
            go_wp2_with (at_builtin; refine wpList_append_fls (w := w2) rfl (.tmp 44) (.tmp 47) rfl wq.heap.size v2 (tk ++ [x]) dk rfl HO2.out (dropF (some ⟨rb, ro, none⟩) c j) (c - j) rfl HF2.out HDZ.out (by simp only [List.length_append, List.length_cons, List.length_nil]; omega) hs2 ?_; intro v3 w3 ho3 hg3 hat3; obtain ⟨A3, c3, rfl, HX3⟩ := fx_own ho3; have HB3 : Hid (Below wq.heap.size wq w3) := Lib.hid (HB2.out.grown hg3 hs2 (fun q e => own_base HO2.out q e)); have HX3' := Lib.hid HX3; clear ho3 hg3 hat3 HX3)
            go_roundg (l.length - (k + 1))
            case rel => exact ⟨k + 1, tk ++ [x] ++ dk, A3, c3, by omega, by go_num, by (congr 1; simp only [List.length_append, List.length_cons, List.length_nil]; omega), by omega, Lib.hid (by rw [List.take_succ_eq_append_getElem hlt, ← HXK.out, HTK.out, HDK.out]; exact put_perm HP.out), Lib.hid (by rw [HTK.out, HDK.out]; exact put_in HS.out hj HLT.out HLE.out), HX3', Lib.hid (HBR.out.trans (HB3.out.mono HBR.out.size))⟩
            case measure => omega
        · have HLE : Hid (∀ h : j < o.length, ky x.toNat < ky (o[j]).toNat) := Lib.hid (fun h => absurd h hjl)
          have hjlz : ¬ (j : Int) < (o.length : Int) := by omega
          have hjd : decide ((j : Int) < (o.length : Int)) = false := decide_eq_false hjlz
          go_wp2_with fail
          go_quiet (fail)
          obtain ⟨wq, hwq⟩ : ∃ W : World, W = wr.drewN nq := ⟨_, rfl⟩
          rw [← hwq]
          have hbq : Below wr.heap.size wr wq := by rw [hwq]; exact V.drawn_below _ nq
          replace c1 := (hbq.cell (p := ⟨bk, _, none⟩) HBK.out).trans c1
          replace HBK : Hid (bk < wq.heap.size) := Lib.hid (Nat.lt_of_lt_of_le HBK.out hbq.size)
          replace HX := Lib.hid (HX.out.below hbq)
          replace HBR := Lib.hid (HBR.out.trans (hbq.mono HBR.out.size))
          clear hwq hbq
          have hcr := HX.out.r
          have HCZ := Lib.hid HX.out.z
          obtain ⟨tk, htke⟩ : ∃ t, t = o.take j := ⟨_, rfl⟩
          obtain ⟨dk, hdke⟩ : ∃ t, t = o.drop j := ⟨_, rfl⟩
          have htk : ∀ W, Sem.run Try.prog (Instr.sliceAt 29 (.slice B o.length c) none (some (.int .i64 (j : Int))) none) W = .ok (.slice B tk.length c) W := by
            intro W
            rw [htke, List.length_take, Nat.min_eq_left hj]
            exact take_isF hj hcr HCZ.out W
          have hdk : ∀ W, Sem.run Try.prog (Instr.sliceAt 29 (.slice B o.length c) (some (.int .i64 (j : Int))) none none) W = .ok (.slice (dropF B c j) dk.length (c - j)) W := by
            intro W
            rw [hdke, List.length_drop]
            exact drop_isF hj hcr HCZ.out W
          have HDZ : Hid (dropF B c j = none → c - j = 0) := Lib.hid (by
            intro h
            unfold dropF at h
            split at h
            · omega
            · have := HCZ.out (by first | (simp at h; done) | simpa using h)
              omega)
          have HE : Hid ((wq.alloc (.cells #[] 22)).ownsRow wq.heap.size 22 1 (.slice (some ⟨wq.heap.size, 0, none⟩) 0 0) ([] : List UInt64).length (([] : List UInt64).map encF)) := Lib.hid (World.ownsRow_made (size := 1) (e := 22) wq #[] 0 (Nat.le_refl _) (by unfold maxLen; omega) rfl)
          have HT : Hid (FlIn (wq.alloc (.cells #[] 22)) B tk) := Lib.hid (by rw [htke]; exact fl_take (HX.out.i.below (alloc1 wq (.cells #[] 22))) j)
          have hs0 : wq.heap.size ≤ (wq.alloc (.cells #[] 22)).heap.size := (alloc1 wq _).size
          have htl : tk.length ≤ 100000 := by rw [htke, List.length_take]; omega
          have hdl : dk.length ≤ 100000 := by rw [hdke, List.length_drop]; omega
          have HTK := Lib.hid htke
          have HDK := Lib.hid hdke
          clear htke hdke
          go_upto_region 9 with (at_builtin; refine wpList_append_fls (w := wq.alloc (.cells #[] 22)) rfl (.tmp 32) (.tmp 35) rfl wq.heap.size (.slice (some ⟨wq.heap.size, 0, none⟩) 0 0) [] tk rfl HE.out B c rfl HT.out HCZ.out (by simp; omega) hs0 ?_; intro v1 w1 ho1 hg1 hat1; rw [List.nil_append] at ho1; have HB1 : Hid (Below wq.heap.size wq w1) := Lib.hid ((alloc1 wq _).grown hg1 hs0 (fun q e => own_base HE.out q e)); have HO1 := Lib.hid ho1; clear ho1 hg1 hat1)
          replace c1 := (HB1.out.cell (p := ⟨bk, _, none⟩) HBK.out).trans c1
          have HO1' : Hid ((w1.alloc (.cells #[encF x] 22)).ownsRow wq.heap.size 22 1 v1 tk.length (tk.map encF)) := Lib.hid (own_below HO1.out (alloc1 _ _))
          have HF1 : Hid (FlIn (w1.alloc (.cells #[encF x] 22)) (some ⟨w1.heap.size, 0, none⟩) [x]) := Lib.hid (fl_one1 w1 x)
          have hs1 : wq.heap.size ≤ (w1.alloc (.cells #[encF x] 22)).heap.size := Nat.le_trans HB1.out.size (alloc1 w1 _).size
          go_upto_region 10 with (at_builtin; refine wpList_append_fls (w := w1.alloc (.cells #[encF x] 22)) rfl (.tmp 37) (.tmp 42) rfl wq.heap.size v1 tk [x] rfl HO1'.out (some ⟨w1.heap.size, 0, none⟩) 1 rfl HF1.out (fun h => nomatch h) (by simp; omega) hs1 ?_; intro v2 w2 ho2 hg2 hat2; have HB2 : Hid (Below wq.heap.size wq w2) := Lib.hid ((HB1.out.trans ((alloc1 w1 _).mono HB1.out.size)).grown hg2 hs1 (fun q e => own_base HO1'.out q e)); have HO2 := Lib.hid ho2; clear ho2 hg2 hat2)
          have HF2 : Hid (FlIn w2 (dropF B c j) dk) := Lib.hid (by rw [HDK.out]; exact fl_drop (HX.out.below HB2.out) j)
          have hs2 := HB2.out.size
          go_wp2_with (at_builtin; refine wpList_append_fls (w := w2) rfl (.tmp 44) (.tmp 47) rfl wq.heap.size v2 (tk ++ [x]) dk rfl HO2.out (dropF B c j) (c - j) rfl HF2.out HDZ.out (by simp only [List.length_append, List.length_cons, List.length_nil]; omega) hs2 ?_; intro v3 w3 ho3 hg3 hat3; obtain ⟨A3, c3, rfl, HX3⟩ := fx_own ho3; have HB3 : Hid (Below wq.heap.size wq w3) := Lib.hid (HB2.out.grown hg3 hs2 (fun q e => own_base HO2.out q e)); have HX3' := Lib.hid HX3; clear ho3 hg3 hat3 HX3)
          go_roundg (l.length - (k + 1))
          case rel => exact ⟨k + 1, tk ++ [x] ++ dk, A3, c3, by omega, by go_num, by (congr 1; simp only [List.length_append, List.length_cons, List.length_nil]; omega), by omega, Lib.hid (by rw [List.take_succ_eq_append_getElem hlt, ← HXK.out, HTK.out, HDK.out]; exact put_perm HP.out), Lib.hid (by rw [HTK.out, HDK.out]; exact put_in HS.out hj HLT.out HLE.out), HX3', Lib.hid (HBR.out.trans (HB3.out.mono HBR.out.size))⟩
          case measure => omega
    · go_wp2_with fail
      go_ret
      have : k = l.length := by omega
      subst this
      refine ⟨B, c, o, rfl, by simpa using HP.out, HS.out, HX.out.i, HB0.out.trans (HBR.out.mono HB0.out.size)⟩
end Go.Proofs.Ytngboallknmepaa.Fp
