/-
  The law LabelCats, walked: it returns true for every label, level and categories, where the library's table of powers of ten holds what its text lays.
-/
import Derived.Test.YtbilhdfoajahkaaDoorLiveB
import Derived.Test.YtbilhdfoajahkaaDoorRefO
import Derived.Test.YtbilhdfoajahkaaDoorOwn2
namespace Go.Proofs.YtbilhdfoajahkaaDoor.L
open Go.RowKit
open T

theorem ofVal_form (l : Int) (o : Option Nat) : ∃ (k : Int) (x : Nat) (e : Int), ofVal l o = .tuple #[lab k x, .int .i64 e] := by
  cases o with
  | none => exact ⟨0, 0, 2, rfl⟩
  | some c => exact ⟨l, c, 0, rfl⟩
def OfC (f : FuncId) (l : Int) (A : Option Addr) (n cap : Nat) (v : Value) (w0 : World) : Prop := ∀ w : World, Below w0.heap.size w0 w → Calls Tryd.prog f #[.int .i64 l, .slice A n cap] w fun e w' => e = .returned v ∧ Below w.heap.size w w'
theorem OfC.call {f : FuncId} {l : Int} {A : Option Addr} {n cap : Nat} {v : Value} {w0 : World} (h : OfC f l A n cap v w0) (w : World) (hb : Below w0.heap.size w0 w) : Calls Tryd.prog f #[.int .i64 l, .slice A n cap] w fun e w' => e = .returned v ∧ Below w.heap.size w w' := h w hb

set_option maxHeartbeats 2000000 in
set_option maxRecDepth 100000 in
theorem cats_law (l lv : Int) (c : Nat) (A : Option Addr) (cap ln : Nat) (k : Int) (x : Nat) (er : Int) (w : World) (hc : c < 18446744073709551616) (HT : Hid (Tab w))
    (HO : Hid (OfC 43 lv A ln cap (.tuple #[.agg #[.int .i64 k, .int .u64 (x : Int)], .int .i64 er]) w)) (HP : Hid (OfC 44 lv A ln cap (.tuple #[.agg #[.int .i64 k, .int .u64 (x : Int)], .int .i64 er]) w)) :
    Calls Tryd.prog 12 #[lab l c, .int .i64 lv, .slice A ln cap] w fun e w' => e = .returned (.bool true) ∧ Below w.heap.size w w' := by
  have HC := Lib.hid (fun w => cats_any l c w hc)
  have HD := Lib.hid (fun w => refCats_any l c w)
  have hxl := catsTo_len c 64
  generalize catsTo c 64 = xs at *
  clear hc
  go_enter Tryd.func12, Tryd.ntmps12
  go_wp2_with fail
  with_reducible refine (HC.out _).mono ?_
  rintro r w1 ⟨v, rfl, hown, hb1⟩
  obtain ⟨A1, cap1, hv, hcap1, hA1⟩ := T.own_form hown
  subst hv
  have hbe1 : Below w.heap.size w w1 := ((Below.refl _ _).alloc (Nat.le_refl _) _).trans (hb1.mono (by simp))
  have HK1 := Lib.hid ((hb1.block w.heap.size (by simp)).trans (heap_alloc_new w _))
  have c0 := (res_cells HK1.out).1
  have c1 := (res_cells HK1.out).2
  clear hb1
  go_wp2_with fail
  with_reducible refine (HD.out _).mono ?_
  rintro r w2 ⟨v, rfl, hown2, hb2⟩
  obtain ⟨A2, cap2, hv, hcap2, hA2⟩ := T.own_form hown2
  subst hv
  have hbe2 : Below w.heap.size w w2 := hbe1.trans (hb2.mono hbe1.size)
  have H1 : Hid (0 < xs.length → ∃ g, A1 = some ⟨g, 0, none⟩ ∧ ∀ j u, (intCells xs)[j]? = some u → w2.cell? ⟨g, j, none⟩ = some u) := Lib.hid fun h => by
    obtain ⟨g, e, _, hg, hc⟩ := hA1 h
    exact ⟨g, e, fun j u hu => (hb2.cell (p := ⟨g, j, none⟩) hg).trans (hc j u hu)⟩
  have H2 : Hid (0 < xs.length → ∃ g, A2 = some ⟨g, 0, none⟩ ∧ ∀ j u, (intCells xs)[j]? = some u → w2.cell? ⟨g, j, none⟩ = some u) := Lib.hid fun h => by
    obtain ⟨g, e, _, hg, hc⟩ := hA2 h
    exact ⟨g, e, hc⟩
  clear hA1 hA2 hown hown2 hb2 c0 c1 HK1
  have hne : ((xs.length : Int) != (xs.length : Int)) = false := by simp
  go_wp2_with fail
  go_loopg [9] xs.length (fun n i wr => ∃ k : Nat, k ≤ xs.length ∧ i = .int .i64 k ∧ xs.length - k ≤ n ∧ ∃ q, wr = w2.drewN q)
  case atStart => exact ⟨0, Nat.zero_le _, rfl, by omega, 0, rfl⟩
  case round =>
    obtain ⟨j, hj, rfl, hn, q, rfl⟩ := hrel
    by_cases hlt : j < xs.length
    · obtain ⟨g, hAe, hc⟩ := H1.out (by omega)
      obtain ⟨g', hAe', hc'⟩ := H2.out (by omega)
      subst hAe hAe'
      have hcell : w2.cell? ⟨g, j, none⟩ = some (.int .i64 ((xs[j] : Nat) : Int)) := hc j _ (by simp [intCells, List.getElem?_eq_getElem hlt])
      have hcell' : w2.cell? ⟨g', j, none⟩ = some (.int .i64 ((xs[j] : Nat) : Int)) := hc' j _ (by simp [intCells, List.getElem?_eq_getElem hlt])
      clear hc hc'
      have h0 : (0 : Int) ≤ (j : Int) := Int.natCast_nonneg _
      have h1 : (j : Int) < (xs.length : Int) := by omega
      generalize xs[j] = z at *
      go_wp2_with fail
      go_quiet (fail)
      go_wp2_with fail
      go_roundg (xs.length - (j + 1))
      case measure => omega
      case rel => exact ⟨j + 1, by omega, by go_num, Nat.le_refl _, _, rfl⟩
    · have hbq : Below w.heap.size w (w2.drewN q) := below_drewN hbe2 q
      generalize w2.drewN q = w3 at *
      clear H1 H2 hbe2 hbe1
      go_wp2_with fail
      with_reducible refine (HO.out.call _ hbq).mono ?_
      rintro r w4 ⟨rfl, hb4⟩
      have hbe4 : Below w.heap.size w w4 := hbq.trans (hb4.mono hbq.size)
      have hbe4a := fun o => hbe4.alloc hbe4.size o
      clear hb4
      go_wp2_with fail
      with_reducible refine (HP.out.call _ (hbe4a _)).mono ?_
      rintro r w5 ⟨rfl, hb5⟩
      have hbe5 : Below w.heap.size w w5 := (hbe4a _).trans (hb5.mono (by have := hbe4.size; simp; omega))
      have HB5 := Lib.hid ((hb5.block w4.heap.size (by simp)).trans (heap_alloc_new w4 _))
      have hl5 := blk_lt HB5.out
      have HT5 := Lib.hid (HT.out.later hbe5)
      clear hb5 hbe4a
      go_wp2_with fail
      with_reducible refine (live2 _ (HT5.out.alloc _)).mono ?_
      rintro r w6 ⟨rfl, hb6⟩
      have hbe6 : Below w.heap.size w w6 := (hbe5.alloc hbe5.size _).trans (hb6.mono (by have := hbe5.size; simp; omega))
      have HB6 := Lib.hid ((hb6.block w4.heap.size (by simp; omega)).trans ((Below.heap_alloc w5 _ _ hl5).trans HB5.out))
      have HC6 := Lib.hid ((hb6.block w5.heap.size (by simp)).trans (heap_alloc_new w5 _))
      have a0 := (res_cells HB6.out).1
      have a1 := (res_cells HB6.out).2
      have b0 := (res_cells HC6.out).1
      have b1 := (res_cells HC6.out).2
      clear hb6
      go_wp2_with fail
      go_ret
      exact ⟨rfl, hbe6⟩

theorem cats_walk (l lv : Int) (c : Nat) (A : Option Addr) (cap : Nat) (xs : List Int) (w : World) (hc : c < 18446744073709551616) (hlen : xs.length ≤ maxLen) (hA : 0 < xs.length → ∃ bk off, A = some ⟨bk, off, none⟩ ∧ bk < w.heap.size ∧ IntsAt w bk off xs) (ht : Tab w) :
    Calls Tryd.prog 12 #[lab l c, .int .i64 lv, .slice A xs.length cap] w fun e w' => e = .returned (.bool true) ∧ Below w.heap.size w w' := by
  obtain ⟨k, x, er, h⟩ := ofVal_form lv (ofAll lv xs)
  have hA' : ∀ W : World, Below w.heap.size w W → 0 < xs.length → ∃ bk off, A = some ⟨bk, off, none⟩ ∧ bk < W.heap.size ∧ IntsAt W bk off xs := fun W hb hp => by
    obtain ⟨bk, off, e, hlt, hI⟩ := hA hp
    exact ⟨bk, off, e, Nat.lt_of_lt_of_le hlt hb.size, hI.below hb hlt⟩
  refine cats_law l lv c A cap xs.length k x er w hc (Lib.hid ht) (Lib.hid fun W hb => ?_) (Lib.hid fun W hb => ?_)
  · have := of_any lv A cap xs W hlen (hA' W hb)
    rwa [h] at this
  · have := refOf_any lv A cap xs W hlen (hA' W hb)
    rwa [h] at this
end Go.Proofs.YtbilhdfoajahkaaDoor.L
